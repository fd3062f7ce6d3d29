/-
  The reference's Less, walked; bytes held one by one.
-/
import Derived.Test.YtbmdnjmdehmahaaParse
import Derived.BigQuiet
namespace Go.Proofs.Ytbmdnjmdehmahaa
open Go.RowKit

/-- The first byte where two differ says which is less. -/
def lessL : List Nat → List Nat → Bool
  | x :: xs, y :: ys => if x = y then lessL xs ys else decide (x < y)
  | _, _ => false

theorem lessL_drop (a b : List Nat) (i : Nat) (ha : i < a.length) (hb : i < b.length) : lessL (a.drop i) (b.drop i) = if a.getD i 0 = b.getD i 0 then lessL (a.drop (i + 1)) (b.drop (i + 1)) else decide (a.getD i 0 < b.getD i 0) := by
  rw [List.drop_eq_getElem_cons ha, List.drop_eq_getElem_cons hb]
  simp [lessL, List.getElem?_eq_getElem ha, List.getElem?_eq_getElem hb]

set_option maxHeartbeats 1000000 in
set_option maxRecDepth 100000 in
theorem rless_any (a b : List Nat) (w : World) (ha : a.length = 32) (hb : b.length = 32) :
    Calls Try.prog 21 #[.agg (u8s a).toArray, .agg (u8s b).toArray] w fun e w' => e = .returned (.bool (lessL a b)) ∧ Below w.heap.size w w' := by
  have HA := hid ha
  have HB := hid hb
  clear ha hb
  obtain ⟨ca, hca⟩ : ∃ c, u8s a = c := ⟨_, rfl⟩
  obtain ⟨cb, hcb⟩ : ∃ c, u8s b = c := ⟨_, rfl⟩
  have HCA := hid hca
  have HCB := hid hcb
  rw [hca, hcb]
  clear hca hcb
  go_enter Try.func21, Try.ntmps21
  go_wp2_with fail
  obtain ⟨W1, hW1⟩ : ∃ W1, (w.alloc (.cells ca.toArray 30)).alloc (.cells cb.toArray 30) = W1 := ⟨_, rfl⟩
  have HW : Hid (BytesAt W1 w.heap.size 0 a ∧ BytesAt W1 (w.heap.size + 1) 0 b ∧ Below w.heap.size w W1 ∧ W1.heap.size = w.heap.size + 2) := by
    rw [Hid, ← hW1, ← HCA.out, ← HCB.out]
    exact ⟨BytesAt.of_block (heap_alloc2_old _ _ _), BytesAt.of_block (heap_alloc2_new _ _ _), ((Below.refl _ _).alloc (Nat.le_refl _) _).alloc (by simp) _, by simp⟩
  rw [hW1]
  clear hW1
  go_loopw [5] (fun x wr => ∃ i : Nat, x = .int .i64 i ∧ i ≤ 32 ∧ Hid (lessL a b = lessL (a.drop i) (b.drop i) ∧ Below W1.heap.size W1 wr)) (fun x _ => 32 - (intOf x).toNat)
  case atStart => exact ⟨0, rfl, by omega, rfl, Below.refl _ _⟩
  case round =>
    obtain ⟨i, rfl, hi, HI⟩ := hrel
    by_cases hlt : i < 32
    · have c1 := (Kp.below (l := []) HI.out.2).bytes HW.out.1 (by have := HW.out.2.2.2; omega) (by simp) i (by rw [HA.out]; exact hlt)
      have c2 := (Kp.below (l := []) HI.out.2).bytes HW.out.2.1 (by have := HW.out.2.2.2; omega) (by simp) i (by rw [HB.out]; exact hlt)
      rw [Nat.zero_add] at c1 c2
      have HL := hid (lessL_drop a b i (by rw [HA.out]; exact hlt) (by rw [HB.out]; exact hlt))
      generalize a.getD i 0 = x at *
      generalize b.getD i 0 = y at *
      have hltI : (i : Int) < 32 := by omega
      have h0I : (0 : Int) ≤ (i : Int) := by omega
      by_cases hxy : x = y
      · subst hxy
        go_wp2_with fail
        go_quiet (fail)
        have HB2 : Hid (Below W1.heap.size W1 (wr.drewN nq)) := HI.out.2.trans (below_drewN (Below.refl _ _) nq)
        obtain ⟨wq, hwq⟩ : ∃ wq, wr.drewN nq = wq := ⟨_, rfl⟩
        rw [hwq] at HB2 ⊢
        clear hwq
        go_wp2_with fail
        refine ⟨⟨i + 1, rfl, by omega, ?_, HB2.out⟩, by simp [intOf]; omega⟩
        have h := HL.out
        simp only [if_true] at h
        rw [HI.out.1, h]
      · have hne : ((x : Int) == (y : Int)) = false := by simp; omega
        have hneI : ¬ (x : Int) = (y : Int) := by omega
        have HR : Hid (lessL a b = decide (x < y)) := by
          rw [Hid, HI.out.1, HL.out, if_neg hxy]
        go_wp2_with fail
        go_quiet (fail)
        have HB2 : Hid (Below W1.heap.size W1 (wr.drewN nq)) := HI.out.2.trans (below_drewN (Below.refl _ _) nq)
        obtain ⟨wq, hwq⟩ : ∃ wq, wr.drewN nq = wq := ⟨_, rfl⟩
        have d1 : wq.cell? ⟨w.heap.size, i, none⟩ = some (.int .u8 (x : Int)) := by rw [← hwq]; simpa using c1
        have d2 : wq.cell? ⟨w.heap.size + 1, i, none⟩ = some (.int .u8 (y : Int)) := by rw [← hwq]; simpa using c2
        rw [hwq] at HB2 ⊢
        clear hwq c1 c2
        go_wp2_with fail
        go_quiet (fail)
        have HB3 : Hid (Below W1.heap.size W1 (wq.drewN nq)) := HB2.out.trans (below_drewN (Below.refl _ _) nq)
        obtain ⟨wp, hwp⟩ : ∃ wp, wq.drewN nq = wp := ⟨_, rfl⟩
        rw [hwp] at HB3 ⊢
        clear hwp
        have HBX := hid (HW.out.2.2.1.trans (HB3.out.mono (by have := HW.out.2.2.2; omega)))
        go_wp2_with fail
        go_ret
        rw [HR.out]
        exact ⟨rfl, HBX.out⟩
    · have HR : Hid (lessL a b = false) := by
        rw [Hid, HI.out.1, List.drop_eq_nil_of_le (by rw [HA.out]; omega)]
        rfl
      have hge : (32 : Int) ≤ (i : Int) := by omega
      have HBX := hid (HW.out.2.2.1.trans (HI.out.2.mono (by have := HW.out.2.2.2; omega)))
      go_wp2_with fail
      go_ret
      rw [HR.out]
      exact ⟨rfl, HBX.out⟩
end Go.Proofs.Ytbmdnjmdehmahaa
