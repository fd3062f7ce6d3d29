/-
  GearMasks.
-/
import Derived.Test.YtbilecmclmlnpaaDoorAlive
namespace Go.Proofs.YtbilecmclmlnpaaDoor
open Go.RowKit

theorem mask_next : ∀ k, k < 20 → maskAt (k + 1) &&& maskAt k = maskAt k ∧ maskAt (k + 1) ≠ maskAt k := by decide +kernel
theorem mask_lt : ∀ k, k < 21 → maskAt k < M64 := by decide +kernel
theorem mask_pos : ∀ k, k < 21 → k ≠ 0 → maskAt k ≠ 0 := by decide +kernel

set_option maxHeartbeats 1000000 in
theorem masks_walk (a : Int) (ha : -9223372036854775808 ≤ a ∧ a ≤ 9223372036854775807) (w : World) (hT : Tab w) :
    Calls Tryd.prog 5 #[.int .i64 a] w fun e w' => e = .returned (.bool true) ∧ Below w.heap.size w w' := by
  have HT := hid hT
  clear hT
  go_enter Tryd.func5, Tryd.ntmps5
  go_wp2_with fail
  refine (mask18_any a ha _ HT.out).mono ?_
  rintro e w1 ⟨⟨m, rfl, hm⟩, hw⟩
  subst w1
  have HM := hid hm
  clear hm
  go_wp2_with fail
  refine (refMask_any a ha _).mono ?_
  rintro e w1 ⟨⟨m', rfl, hm'⟩, hw⟩
  subst w1
  obtain rfl := isMask_one HM.out hm'
  clear hm'
  have hne : ((m : Int) != (m : Int)) = false := by simp
  by_cases h1 : a < 1
  · go_wp2_with fail
    refine (alive_any _ HT.out).mono ?_
    rintro e w1 ⟨rfl, hb⟩
    go_wp2_with fail
    go_ret
    exact ⟨rfl, hb⟩
  · by_cases h2 : 524288 < a
    · go_wp2_with fail
      refine (alive_any _ HT.out).mono ?_
      rintro e w1 ⟨rfl, hb⟩
      go_wp2_with fail
      go_ret
      exact ⟨rfl, hb⟩
    · by_cases h3 : m = 0 ∧ a ≠ 1
      · obtain ⟨h4, h5⟩ := h3
        have e1 : ((m : Int) == 0) = true := by rw [h4]; rfl
        have e2 : (a != 1) = true := by simpa using h5
        clear h4 h5
        go_wp2_with fail
        refine (alive_any _ HT.out).mono ?_
        rintro e w1 ⟨rfl, hb⟩
        go_wp2_with fail
        go_ret
        exact ⟨rfl, hb⟩
      · obtain ⟨k, hk, ea, em⟩ : ∃ k : Nat, k < 20 ∧ a = (2 ^ k : Nat) ∧ m = maskAt k := by
          rcases HM.out with ⟨k, hk, ea, em⟩ | ⟨hn, em⟩
          · refine ⟨k, ?_, ea, em⟩
            apply Nat.lt_of_not_le
            intro h
            have : 2 ^ 20 ≤ 2 ^ k := Nat.pow_le_pow_right (by decide) h
            omega
          · exfalso
            refine h3 ⟨em, fun e => hn 0 (by omega) (by rw [e]; rfl)⟩
        obtain ⟨n1, n2⟩ := mask_next k hk
        have l1 := mask_lt (k + 1) (by omega)
        have l0 := mask_lt k (by omega)
        have and1 := and_i _ _ l1 l0
        rw [n1] at and1
        rw [← em] at n2 l0 and1
        have EA := hid ea
        have hd : wrap64 (2 * a) = 2 * a := by unfold wrap64; omega
        have h2k : Hid (IsMask (2 * a) (maskAt (k + 1))) := .inl ⟨k + 1, by omega, by rw [EA.out, Nat.pow_succ]; omega, rfl⟩
        have hx : (((maskAt (k + 1) : Nat) : Int) != (m : Int)) = true := by simp; omega
        have hc : (((m : Int) == 0) = true ∧ (a != 1) = false) ∨ ((m : Int) == 0) = false := by
          by_cases hm0 : m = 0
          · by_cases ha1 : a = 1
            · exact .inl ⟨by rw [hm0]; rfl, by rw [ha1]; rfl⟩
            · exact absurd ⟨hm0, ha1⟩ h3
          · exact .inr (by simp; omega)
        have N2 := hid n2
        clear ea em h3 n1 l1 n2
        generalize maskAt (k + 1) = n at *
        have hr : -9223372036854775808 ≤ 2 * a ∧ 2 * a ≤ 9223372036854775807 := by omega
        have hmm : ((m : Int) == (m : Int)) = true := by simp
        rcases hc with ⟨e1, e2⟩ | e1
        all_goals
          go_wp2_with fail
          refine (mask18_any (2 * a) hr _ HT.out).mono ?_
          rintro e w1 ⟨⟨n', rfl, hn'⟩, hw⟩
          subst w1
          obtain rfl := isMask_one h2k.out hn'
          clear hn'
          go_wp2_with fail
          refine (alive_any _ HT.out).mono ?_
          rintro e w1 ⟨rfl, hb⟩
          go_wp2_with fail
          go_ret
          exact ⟨rfl, hb⟩

end Go.Proofs.YtbilecmclmlnpaaDoor
