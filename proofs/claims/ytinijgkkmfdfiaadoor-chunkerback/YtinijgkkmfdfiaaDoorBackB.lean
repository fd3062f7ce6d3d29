/-
  ChunkerBack at each input; numbers that came in.
-/
import Derived.Test.YtinijgkkmfdfiaaDoorBack
import Derived.OpenShut
import Derived.ProofKit
namespace Go.Proofs.YtinijgkkmfdfiaaDoor
open Go.ChangeShapes Go.WideShapes Go.ChangeAt Go.RowKit

theorem open_nums {H : Type} {enc : TypeId × Value → H} {W : World} {a : Option Addr} {len cap : Nat} {d : DataW H} {p : List MemPlace} (h : DataW.Trod enc Tryd.prog W 0 (fun _ => true) true 34 (.slice a len cap) d p) : ∃ zs, IsRow .i64 W a len cap zs := by
  obtain ⟨fuel, hf⟩ := h
  rcases open_ints Tryd.underlying34 Tryd.underlying3 (by kernel_rfl) hf with ⟨hcs, _⟩ | ⟨x, l, c, zs, hcs, _, hl, hm, hz, _, hcell, hwz⟩
  · simp [Value.cells] at hcs
    obtain ⟨rfl, rfl, rfl⟩ := hcs
    exact ⟨[], .inl ⟨rfl, rfl, rfl, rfl⟩⟩
  · simp [Value.cells] at hcs
    obtain ⟨rfl, rfl, rfl⟩ := hcs
    exact ⟨zs, .inr ⟨_, rfl, hl, hm, by simpa using hz, hcell, hwz⟩⟩

set_option maxRecDepth 100000 in
set_option maxHeartbeats 1000000 in
theorem back_other (s mn av mx : Int) (a ac : Option Addr) (N cap K cc : Nat) (w : World) (h : 300 < N ∨ 40 < K) (hN : N ≤ 9223372036854775807) (hK : K ≤ 9223372036854775807) (hT : Tab w) :
    Calls Tryd.prog 5 #[ruleV s mn av mx, .slice a N cap, .slice ac K cc] w fun e w' => e = .returned (.bool true) ∧ Below w.heap.size w w' := by
  have HT := hid hT
  have h2 := hT.lt
  clear hT
  by_cases h1 : 300 < N
  · have hd : decide (300 < (N : Int)) = true := by simp; omega
    clear h
    go_enter Tryd.func5, Tryd.ntmps5
    go_wp2_with fail
    refine (alive_any _ (HT.out.below ((Below.refl _ _).alloc (Nat.le_refl _) _) h2)).mono ?_
    rintro e w1 ⟨rfl, hb⟩
    have HB := hid hb
    clear hb
    go_wp2
    go_ret
    exact ⟨rfl, ((Below.refl _ _).alloc (Nat.le_refl _) _).trans (HB.out.mono (by simp))⟩
  · have h3 : 40 < K := by omega
    have hd : decide (300 < (N : Int)) = false := by simp; omega
    have hd2 : decide (40 < (K : Int)) = true := by simp; omega
    clear h
    go_enter Tryd.func5, Tryd.ntmps5
    go_wp2_with fail
    refine (alive_any _ (HT.out.below ((Below.refl _ _).alloc (Nat.le_refl _) _) h2)).mono ?_
    rintro e w1 ⟨rfl, hb⟩
    have HB := hid hb
    clear hb
    go_wp2
    go_ret
    exact ⟨rfl, ((Below.refl _ _).alloc (Nat.le_refl _) _).trans (HB.out.mono (by simp))⟩

set_option maxRecDepth 100000 in
set_option maxHeartbeats 1000000 in
theorem back_no (s mn av mx : Int) (hr : rightB mn av mx = false) (a ac : Option Addr) (N cap K cc : Nat) (w : World) (hN : N ≤ 300) (hK : K ≤ 40) (hT : Tab w) :
    Calls Tryd.prog 5 #[ruleV s mn av mx, .slice a N cap, .slice ac K cc] w fun e w' => e = .returned (.bool true) ∧ Below w.heap.size w w' := by
  have HT := hid hT
  have h2 := hT.lt
  have HR := hid hr
  clear hT hr
  have hnot : ∀ (x : Bool) (w : World), (Op.unary .not (.bool x)).run Tryd.prog w = .ok (.bool (!x)) w := fun _ _ => rfl
  have HB1 : Hid (Below w.heap.size w (w.alloc (.cells #[.int .u64 s, .int .i64 mn, .int .i64 av, .int .i64 mx] 24))) := (Below.refl _ _).alloc (Nat.le_refl _) _
  have HQ : Hid (∀ j, (w.alloc (.cells #[.int .u64 s, .int .i64 mn, .int .i64 av, .int .i64 mx] 24)).cell? ⟨w.heap.size, j, none⟩ = (#[.int .u64 s, .int .i64 mn, .int .i64 av, .int .i64 mx] : Array Value)[j]?) := fun j => World.cell?_alloc_at _ _ _ _ rfl
  have hz1 : w.heap.size < (w.alloc (.cells #[.int .u64 s, .int .i64 mn, .int .i64 av, .int .i64 mx] 24)).heap.size := by simp
  go_enter Tryd.func5, Tryd.ntmps5
  go_upto_region 3 with fail
  generalize w.alloc (.cells #[.int .u64 s, .int .i64 mn, .int .i64 av, .int .i64 mx] 24) = W at *
  have r0 : ∀ w', Below W.heap.size W w' → w'.cell? ⟨w.heap.size, 0, none⟩ = some (.int .u64 s) := fun w' h => (h.cell (p := ⟨w.heap.size, 0, none⟩) hz1).trans (HQ.out 0)
  have r1 : ∀ w', Below W.heap.size W w' → w'.cell? ⟨w.heap.size, 1, none⟩ = some (.int .i64 mn) := fun w' h => (h.cell (p := ⟨w.heap.size, 1, none⟩) hz1).trans (HQ.out 1)
  have r2 : ∀ w', Below W.heap.size W w' → w'.cell? ⟨w.heap.size, 2, none⟩ = some (.int .i64 av) := fun w' h => (h.cell (p := ⟨w.heap.size, 2, none⟩) hz1).trans (HQ.out 2)
  have r3 : ∀ w', Below W.heap.size W w' → w'.cell? ⟨w.heap.size, 3, none⟩ = some (.int .i64 mx) := fun w' h => (h.cell (p := ⟨w.heap.size, 3, none⟩) hz1).trans (HQ.out 3)
  have b0 : Below W.heap.size W W := Below.refl _ _
  have HTB : Hid (∀ V, Below W.heap.size W V → Tab V) := fun V h => HT.out.below (HB1.out.trans (h.mono (by omega))) h2
  go_wp2_with fail
  refine (own9_any s mn av mx W).mono ?_
  rintro e w2 ⟨rfl, b2⟩
  go_wp2_with fail
  refine (split_no s mn av mx HR.out _ w2).mono ?_
  rintro e w3 ⟨rfl, b3'⟩
  have b3 : Below W.heap.size W w3 := b2.trans (b3'.mono b2.size)
  clear b3' b2
  go_wp2_with fail
  refine (own9_any s mn av mx w3).mono ?_
  rintro e w4 ⟨rfl, b4'⟩
  have b4 : Below W.heap.size W w4 := b3.trans (b4'.mono b3.size)
  clear b4' b3
  go_wp2_with fail
  refine (right12_any s mn av mx w4).mono ?_
  rintro e w5 ⟨rfl, b5'⟩
  rw [HR.out]
  have b5 : Below W.heap.size W w5 := b4.trans (b5'.mono b4.size)
  clear b5' b4
  go_wp2_with fail
  refine (alive_any w5 (HTB.out w5 b5)).mono ?_
  rintro e w8 ⟨rfl, b8⟩
  have HB8 := hid (b5.trans (b8.mono b5.size))
  clear b8
  go_wp2
  go_ret
  exact ⟨rfl, HB1.out.trans (HB8.out.mono (by omega))⟩

end Go.Proofs.YtinijgkkmfdfiaaDoor
