/-
  A new table; the chapter's example; whether bytes are the same; how many were counted.
-/
import Derived.Test.YthbhdbjjobfchaaCrcMore
import Derived.Lib.SlBytesConst
namespace Go.Proofs.Ythbhdbjjobfchaa.Crc
open Go.RowKit

def Z61 : Array Value := #[.int .u32 0, .int .i32 0, .int .u32 0] ++ (Array.replicate 256 (.int .u32 0) ++ #[.int .i64 0])
theorem zero61 (w : World) : (zeroValue 83).run Try.prog w = .ok (.agg Z61) w := by kernel_rfl
theorem Z61_at (j : Nat) (h : j < 256) : Z61[3 + j]? = some (.int .u32 0) := by
  rw [Z61, Array.getElem?_append_right (by simp), Array.getElem?_append_left (by simp; omega)]
  simp [h]

set_option maxHeartbeats 400000 in
set_option maxRecDepth 100000 in
theorem new_any (w : World) :
    Calls Try.prog 9 #[] w fun e w' => e = .returned (.pointer (some ⟨w.heap.size, 0, none⟩)) ∧ Below w.heap.size w w' ∧ w'.heap.size = w.heap.size + 1 ∧ Tab w' w.heap.size 0 0 := by
  have hz := zero61
  go_enter Try.func9, Try.ntmps9
  go_wp2
  go_ret
  have ho : ∀ j, (w.alloc (.cells Z61 83)).cell? ⟨w.heap.size, j, none⟩ = Z61[j]? := fun j => World.cell?_alloc_at _ _ _ _ rfl
  refine ⟨rfl, (Below.refl _ _).alloc (Nat.le_refl _) _, by simp, by simp, ho 0, ho 1, ho 259, fun j hj => ⟨_, (ho _).trans (Z61_at j hj)⟩, fun e => absurd e (by decide), fun j => World.frozen?_alloc_at _ _ _ _ rfl⟩

theorem bySl_lit (b : Nat) (w : World) (hb : b < w.heap.size) (l : List Nat) (hl : l.length ≤ 1000) (hx : ∀ x ∈ l, x < 256) (fr : Nat × Nat) :
    BySl b (w.alloc (Obj.cells (l.map fun x : Nat => Value.int .u8 (x : Int)).toArray 5 fr)) (.slice (some ⟨w.heap.size, 0, none⟩) l.length l.length) l := by
  refine ⟨_, l.length, rfl, Nat.le_refl _, by unfold maxLen; omega, by simp, by omega, hx, fun _ => ⟨w.heap.size, 0, rfl, by omega, by simp, fun i hi => ?_⟩⟩
  rw [Nat.zero_add, World.cell?_alloc_mark]
  simp [List.getElem?_eq_getElem hi]

end Go.Proofs.Ythbhdbjjobfchaa.Crc
