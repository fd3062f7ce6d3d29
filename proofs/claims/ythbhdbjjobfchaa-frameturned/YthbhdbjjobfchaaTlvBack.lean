/-
  The cells of one value of the reference's.
-/
import Derived.Test.YthbhdbjjobfchaaTlvRefSame
import Derived.Deep.RegionLaw
import Derived.Deep.AppendLies
import Derived.Test.YthbhdbjjobfchaaTlvClone
namespace Go.Proofs.Ythbhdbjjobfchaa.Tlv
open Go.RowKit
attribute [local go_sem ↓] Go.wp_at_zero Go.wp_at_succ

theorem Try.info93 : (Try.prog.info? 93).map (fun i => (i.zero, i.size, i.bytes)) = some (some (.agg #[.int .i64 0, .int .u64 0, .slice none 0 0, .slice none 0 0]), 4, 64) := by kernel_rfl

theorem new4 {n : Nat} (w : World) (t : Tr n) (sb sk : Value) : ∀ j u, (cell4 t (sb, sk))[j]? = some u → (w.alloc (Obj.cells #[Value.int .i64 t.hd.1, Value.int .u64 t.hd.2.1, sb, sk] 93)).cell? ((⟨w.heap.size, 0, none⟩ : Addr).add j) = some u :=
  World.news_of_block (cs := #[Value.int .i64 t.hd.1, Value.int .u64 t.hd.2.1, sb, sk]) (t := 93) (fr := (0, 0)) (heap_alloc_new _ _)

theorem one4 {n : Nat} (t : Tr n) (a : Option Addr) (l c : Nat) (a' : Option Addr) (l' c' : Nat) : ∀ u ∈ cell4 t (.slice a l c, .slice a' l' c'), u.oneCell' = true := by
  intro u hu
  simp only [cell4, List.mem_cons, List.not_mem_nil, or_false] at hu
  rcases hu with rfl | rfl | rfl | rfl <;> rfl

end Go.Proofs.Ythbhdbjjobfchaa.Tlv
