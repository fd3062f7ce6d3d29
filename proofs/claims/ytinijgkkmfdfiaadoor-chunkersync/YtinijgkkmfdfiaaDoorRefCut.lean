/-
  The reference's cut: how many bytes the first chunk has.
-/
import Derived.Test.YtinijgkkmfdfiaaDoorRef
import Derived.Test.YtinijgkkmfdfiaaDoorRule
namespace Go.Proofs.YtinijgkkmfdfiaaDoor
open Go.RowKit

theorem endB_short {s mn mx m : Nat} (h : mn ≤ mx) {c : List Nat} (hc : c.length < mn) : endB s mn mx m c = false := by
  unfold endB
  simp only [Bool.or_eq_false_iff, Bool.and_eq_false_iff, decide_eq_false_iff_not]
  exact ⟨by omega, .inl (by omega)⟩
theorem endB_mid {s mn mx m : Nat} {c : List Nat} (h1 : mn ≤ c.length) (h2 : c.length < mx) : endB s mn mx m c = decide (hashOf s c &&& m = 0) := by
  unfold endB
  have e1 : decide (c.length = mx) = false := by simp; omega
  have e2 : decide (mn ≤ c.length) = true := by simpa using h1
  rw [e1, e2, Bool.false_or, Bool.true_and]

theorem refMask_two (k : Nat) (hk : k ≤ 12) (w : World) : Calls Tryd.prog 42 #[.int .i64 (2 ^ k : Nat)] w fun e w' => e = .returned (.int .u64 (maskAt k : Nat)) ∧ w' = w :=
  (refMask_any _ (by have : (2 : Nat) ^ k ≤ 2 ^ 12 := Nat.pow_le_pow_right (by decide) hk; generalize 2 ^ k = z at *; omega) w).mono (by
    rintro e w' ⟨⟨m, rfl, h⟩, rfl⟩
    rw [isMask_one h (.inl ⟨k, by omega, rfl, rfl⟩)]
    exact ⟨rfl, rfl⟩)

theorem maskAt_lt' (k : Nat) : maskAt k < M64 := by
  unfold maskAt
  split
  · decide
  · have : 0 < 2 ^ (64 - k) := Nat.two_pow_pos _
    unfold M64
    omega

set_option maxHeartbeats 4000000 in
set_option maxRecDepth 100000 in
theorem refCut_any (s mn k mx : Nat) (hs : s < M64) (hk : k ≤ 12) (h1 : 1 ≤ mn) (h2 : mn ≤ mx) (h3 : mx ≤ 4096) (b : Value) (bs : List Nat) {P : Nat → Prop} (w : World) (hb : ByP P w b bs) :
    Calls Tryd.prog 31 #[ruleV s mn (2 ^ k : Nat) mx, b] w fun e w' => ∃ (n : Nat) (u : Bool), e = .returned (.tuple #[.int .i64 n, .bool u]) ∧ IsCut (endB s mn mx (maskAt k)) bs n u ∧ Below w.heap.size w w' := by
  have HM : Hid (∀ W, Calls Tryd.prog 42 #[.int .i64 (2 ^ k : Nat)] W fun e w' => e = .returned (.int .u64 (maskAt k : Nat)) ∧ w' = W) := refMask_two k hk
  have hml := maskAt_lt' k
  have HBY := hid hb
  obtain ⟨a, cap, rfl, hcap, hcm, _, hb47, _, _⟩ := hb
  generalize maskAt k = M at *
  generalize 2 ^ k = A at *
  obtain ⟨L, hL⟩ : ∃ L, bs.length = L := ⟨_, rfl⟩
  have HL := hid hL
  rw [hL] at hcap hb47 ⊢
  unfold maxLen at hcm
  have HS : Hid (∀ c : List Nat, c.length < mn → endB s mn mx M c = false) := fun c hc => endB_short h2 hc
  clear hL
  go_enter Tryd.func31, Tryd.ntmps31
  go_wp2_with fail
  have hbel : Hid (Below w.heap.size w (w.alloc (.cells #[.int .u64 (s : Int), .int .i64 (mn : Int), .int .i64 (A : Int), .int .i64 (mx : Int)] 24))) := (Below.refl _ _).alloc (Nat.le_refl _) _
  have q : ∀ j, (w.alloc (.cells #[.int .u64 (s : Int), .int .i64 (mn : Int), .int .i64 (A : Int), .int .i64 (mx : Int)] 24)).cell? ⟨w.heap.size, j, none⟩ = (#[.int .u64 (s : Int), .int .i64 (mn : Int), .int .i64 (A : Int), .int .i64 (mx : Int)] : Array Value)[j]? := fun j => World.cell?_alloc_at _ _ _ _ rfl
  have hlt0 : w.heap.size < (w.alloc (.cells #[.int .u64 (s : Int), .int .i64 (mn : Int), .int .i64 (A : Int), .int .i64 (mx : Int)] 24)).heap.size := by simp
  generalize w.alloc (.cells #[.int .u64 (s : Int), .int .i64 (mn : Int), .int .i64 (A : Int), .int .i64 (mx : Int)] 24) = W at *
  have HQ := hid q
  clear q
  go_loopw [6] (fun i wr => ∃ n : Nat, mn ≤ n ∧ n ≤ mx ∧ i = .int .i64 n ∧ Hid (NoEnd (endB s mn mx M) bs (n - 1)) ∧ Hid (Kp [] W wr)) (fun i _ => mx - (intOf i).toNat)
  case atStart =>
    refine ⟨mn, Nat.le_refl _, h2, rfl, fun j hj1 hj2 => HS.out _ ?_, Kp.refl _ _⟩
    rw [List.length_take]
    omega
  case round =>
    obtain ⟨n, hn1, hn2, rfl, HN, HK⟩ := hrel
    have c0 := (HK.out.cell (p := ⟨w.heap.size, 0, none⟩) hlt0 (by simp)).trans (HQ.out 0)
    have c1 := (HK.out.cell (p := ⟨w.heap.size, 1, none⟩) hlt0 (by simp)).trans (HQ.out 1)
    have c2 := (HK.out.cell (p := ⟨w.heap.size, 2, none⟩) hlt0 (by simp)).trans (HQ.out 2)
    have c3 := (HK.out.cell (p := ⟨w.heap.size, 3, none⟩) hlt0 (by simp)).trans (HQ.out 3)
    simp only [List.getElem?_toArray, List.getElem?_cons_zero, List.getElem?_cons_succ] at c0 c1 c2 c3
    have hbw : Hid (∀ V, Kp [] W V → Below w.heap.size w V) := fun V k => hbel.out.trans ⟨k.os, k.tape, k.output, k.size, fun i hi => k.block i (by have := hbel.out.size; omega) (by simp)⟩
    by_cases hin : n ≤ L ∧ n < mx
    · obtain ⟨hnL, hnm⟩ := hin
      have hd1 : decide (n ≤ L) = true := by simpa using hnL
      have hd2 : decide (n < mx) = true := by simpa using hnm
      have HF : Hid (∀ V, Kp [] W V → Calls Tryd.prog 41 #[.int .u64 s, .slice a n cap] V fun e w' => e = .returned (.int .u64 (hashOf s (bs.take n) : Nat)) ∧ w' = V) := fun V hV =>
        refHash_any V.heap.size s hs _ _ _ ((((HBY.out.front n (by have := HL.out; omega)).below hbel.out).kp (m := []) hV (by simp)).toSl)
      have hhl := hashOf_lt s (bs.take n)
      have hand := and_i (hashOf s (bs.take n)) M hhl hml
      have HE : Hid (endB s mn mx M (bs.take n) = decide (hashOf s (bs.take n) &&& M = 0)) := endB_mid (by rw [List.length_take]; have := HL.out; omega) (by rw [List.length_take]; have := HL.out; omega)
      have HNX : Hid (endB s mn mx M (bs.take n) = false → NoEnd (endB s mn mx M) bs n) := fun h => by
        have := NoEnd.next (n := n - 1) HN.out (by rw [show n - 1 + 1 = n by omega]; exact h)
        rwa [show n - 1 + 1 = n by omega] at this
      generalize hashOf s (bs.take n) = H at *
      generalize H &&& M = Z at *
      by_cases hnl : n = L
      · have hd3 : ((n : Int) == (L : Int)) = true := by simp only [beq_iff_eq]; omega
        subst hnl
        by_cases hmn : n ≤ mn
        · have hd5 : decide (n ≤ mn) = true := by simpa using hmn
          by_cases hz : Z = 0
          · have hd4 : ((Z : Int) == 0) = true := by simp [hz]
            have hd6 : ((Z : Int) != 0) = false := by simp [hz]
            have HZ := hid hz
            clear hz
            go_wp2_with fail
            go_quiet (first | (go_at_call_of 41 (Value.slice a n cap); exact Calls.quiet_of_same (HF.out _ (HK.out.drewN _))) | (go_at_call 42; exact Calls.quiet_of_same (HM.out _)))
            have HK2 : Hid (Kp [] W (wr.drewN nq)) := HK.out.drewN nq
            clear c0 c1 c2 c3
            generalize wr.drewN nq = wr2 at *
            have c0 := (HK2.out.cell (p := ⟨w.heap.size, 0, none⟩) hlt0 (by simp)).trans (HQ.out 0)
            have c1 := (HK2.out.cell (p := ⟨w.heap.size, 1, none⟩) hlt0 (by simp)).trans (HQ.out 1)
            have c2 := (HK2.out.cell (p := ⟨w.heap.size, 2, none⟩) hlt0 (by simp)).trans (HQ.out 2)
            have c3 := (HK2.out.cell (p := ⟨w.heap.size, 3, none⟩) hlt0 (by simp)).trans (HQ.out 3)
            simp only [List.getElem?_toArray, List.getElem?_cons_zero, List.getElem?_cons_succ] at c0 c1 c2 c3
            go_wp2_with fail
            go_quiet (first | (go_at_call_of 41 (Value.slice a n cap); exact Calls.quiet_of_same (HF.out _ (HK2.out.drewN _))) | (go_at_call 42; exact Calls.quiet_of_same (HM.out _)))
            go_wp2
            go_ret2
            exact ⟨n, true, rfl, .inl ⟨rfl, by omega, by rw [HL.out]; exact Nat.le_refl _, by rw [HE.out, HZ.out]; rfl, HN.out⟩, hbw.out _ (HK2.out.drewN _)⟩
          · have hd6 : ((Z : Int) != 0) = true := by simp [hz]
            have HZ := hid hz
            clear hz
            go_wp2_with fail
            go_quiet (first | (go_at_call_of 41 (Value.slice a n cap); exact Calls.quiet_of_same (HF.out _ (HK.out.drewN _))) | (go_at_call 42; exact Calls.quiet_of_same (HM.out _)))
            go_wp2
            go_ret2
            exact ⟨n, false, rfl, .inr ⟨rfl, by rw [HL.out], by rw [HL.out]; exact HNX.out (by rw [HE.out]; simpa using HZ.out)⟩, hbw.out _ (HK.out.drewN _)⟩
        · have hd5 : decide (n ≤ mn) = false := by simpa using hmn
          by_cases hz : Z = 0
          · have hd4 : ((Z : Int) == 0) = true := by simp [hz]
            have HZ := hid hz
            clear hz
            go_wp2_with fail
            go_quiet (first | (go_at_call_of 41 (Value.slice a n cap); exact Calls.quiet_of_same (HF.out _ (HK.out.drewN _))) | (go_at_call 42; exact Calls.quiet_of_same (HM.out _)))
            have HK2 : Hid (Kp [] W (wr.drewN nq)) := HK.out.drewN nq
            clear c0 c1 c2 c3
            generalize wr.drewN nq = wr2 at *
            have c0 := (HK2.out.cell (p := ⟨w.heap.size, 0, none⟩) hlt0 (by simp)).trans (HQ.out 0)
            have c1 := (HK2.out.cell (p := ⟨w.heap.size, 1, none⟩) hlt0 (by simp)).trans (HQ.out 1)
            have c2 := (HK2.out.cell (p := ⟨w.heap.size, 2, none⟩) hlt0 (by simp)).trans (HQ.out 2)
            have c3 := (HK2.out.cell (p := ⟨w.heap.size, 3, none⟩) hlt0 (by simp)).trans (HQ.out 3)
            simp only [List.getElem?_toArray, List.getElem?_cons_zero, List.getElem?_cons_succ] at c0 c1 c2 c3
            go_wp2_with fail
            go_quiet (first | (go_at_call_of 41 (Value.slice a n cap); exact Calls.quiet_of_same (HF.out _ (HK2.out.drewN _))) | (go_at_call 42; exact Calls.quiet_of_same (HM.out _)))
            go_wp2
            go_ret2
            exact ⟨n, true, rfl, .inl ⟨rfl, by omega, by rw [HL.out]; exact Nat.le_refl _, by rw [HE.out, HZ.out]; rfl, HN.out⟩, hbw.out _ (HK2.out.drewN _)⟩
          · have hd4 : ((Z : Int) == 0) = false := by simp [hz]
            have HZ := hid hz
            clear hz
            go_wp2_with fail
            go_quiet (first | (go_at_call_of 41 (Value.slice a n cap); exact Calls.quiet_of_same (HF.out _ (HK.out.drewN _))) | (go_at_call 42; exact Calls.quiet_of_same (HM.out _)))
            have HK2 : Hid (Kp [] W (wr.drewN nq)) := HK.out.drewN nq
            clear c0 c1 c2 c3
            generalize wr.drewN nq = wr2 at *
            have c0 := (HK2.out.cell (p := ⟨w.heap.size, 0, none⟩) hlt0 (by simp)).trans (HQ.out 0)
            have c1 := (HK2.out.cell (p := ⟨w.heap.size, 1, none⟩) hlt0 (by simp)).trans (HQ.out 1)
            have c2 := (HK2.out.cell (p := ⟨w.heap.size, 2, none⟩) hlt0 (by simp)).trans (HQ.out 2)
            have c3 := (HK2.out.cell (p := ⟨w.heap.size, 3, none⟩) hlt0 (by simp)).trans (HQ.out 3)
            simp only [List.getElem?_toArray, List.getElem?_cons_zero, List.getElem?_cons_succ] at c0 c1 c2 c3
            go_wp2_with fail
            go_quiet (first | (go_at_call_of 41 (Value.slice a n cap); exact Calls.quiet_of_same (HF.out _ (HK2.out.drewN _))) | (go_at_call 42; exact Calls.quiet_of_same (HM.out _)))
            go_wp2
            go_roundw
            case rel => exact ⟨n + 1, by omega, by omega, by go_num, by rw [Hid, Nat.add_sub_cancel]; exact HNX.out (by rw [HE.out]; simpa using HZ.out), HK2.out.drewN _⟩
            case measure => simp [intOf]; omega
      · have hd3 : ((n : Int) == (L : Int)) = false := by simp only [beq_eq_false_iff_ne, ne_eq]; omega
        by_cases hz : Z = 0
        · have hd4 : ((Z : Int) == 0) = true := by simp [hz]
          have HZ := hid hz
          clear hz
          go_wp2_with fail
          go_quiet (first | (go_at_call_of 41 (Value.slice a n cap); exact Calls.quiet_of_same (HF.out _ (HK.out.drewN _))) | (go_at_call 42; exact Calls.quiet_of_same (HM.out _)))
          have HK2 : Hid (Kp [] W (wr.drewN nq)) := HK.out.drewN nq
          clear c0 c1 c2 c3
          generalize wr.drewN nq = wr2 at *
          have c0 := (HK2.out.cell (p := ⟨w.heap.size, 0, none⟩) hlt0 (by simp)).trans (HQ.out 0)
          have c1 := (HK2.out.cell (p := ⟨w.heap.size, 1, none⟩) hlt0 (by simp)).trans (HQ.out 1)
          have c2 := (HK2.out.cell (p := ⟨w.heap.size, 2, none⟩) hlt0 (by simp)).trans (HQ.out 2)
          have c3 := (HK2.out.cell (p := ⟨w.heap.size, 3, none⟩) hlt0 (by simp)).trans (HQ.out 3)
          simp only [List.getElem?_toArray, List.getElem?_cons_zero, List.getElem?_cons_succ] at c0 c1 c2 c3
          go_wp2_with fail
          go_quiet (first | (go_at_call_of 41 (Value.slice a n cap); exact Calls.quiet_of_same (HF.out _ (HK2.out.drewN _))) | (go_at_call 42; exact Calls.quiet_of_same (HM.out _)))
          go_wp2
          go_ret2
          exact ⟨n, true, rfl, .inl ⟨rfl, by omega, by rw [HL.out]; exact hnL, by rw [HE.out, HZ.out]; rfl, HN.out⟩, hbw.out _ (HK2.out.drewN _)⟩
        · have hd4 : ((Z : Int) == 0) = false := by simp [hz]
          have HZ := hid hz
          clear hz
          go_wp2_with fail
          go_quiet (first | (go_at_call_of 41 (Value.slice a n cap); exact Calls.quiet_of_same (HF.out _ (HK.out.drewN _))) | (go_at_call 42; exact Calls.quiet_of_same (HM.out _)))
          have HK2 : Hid (Kp [] W (wr.drewN nq)) := HK.out.drewN nq
          clear c0 c1 c2 c3
          generalize wr.drewN nq = wr2 at *
          have c0 := (HK2.out.cell (p := ⟨w.heap.size, 0, none⟩) hlt0 (by simp)).trans (HQ.out 0)
          have c1 := (HK2.out.cell (p := ⟨w.heap.size, 1, none⟩) hlt0 (by simp)).trans (HQ.out 1)
          have c2 := (HK2.out.cell (p := ⟨w.heap.size, 2, none⟩) hlt0 (by simp)).trans (HQ.out 2)
          have c3 := (HK2.out.cell (p := ⟨w.heap.size, 3, none⟩) hlt0 (by simp)).trans (HQ.out 3)
          simp only [List.getElem?_toArray, List.getElem?_cons_zero, List.getElem?_cons_succ] at c0 c1 c2 c3
          go_wp2_with fail
          go_quiet (first | (go_at_call_of 41 (Value.slice a n cap); exact Calls.quiet_of_same (HF.out _ (HK2.out.drewN _))) | (go_at_call 42; exact Calls.quiet_of_same (HM.out _)))
          go_wp2
          go_roundw
          case rel => exact ⟨n + 1, by omega, by omega, by go_num, by rw [Hid, Nat.add_sub_cancel]; exact HNX.out (by rw [HE.out]; simpa using HZ.out), HK2.out.drewN _⟩
          case measure => simp [intOf]; omega
    · by_cases hLm : mx ≤ L
      · obtain rfl : n = mx := by omega
        have hd1 : decide (n ≤ L) = true := by simpa using hLm
        have hd2 : decide (n < n) = false := by simp
        have hgt : decide (n ≤ L) = true := by simpa using hLm
        go_wp2
        go_ret2
        exact ⟨n, true, rfl, .inl ⟨rfl, by omega, by rw [HL.out]; exact hLm, endB_max (by rw [List.length_take]; have := HL.out; omega), HN.out⟩, hbw.out _ HK.out⟩
      · have hnL : L < n := by omega
        have hd1 : decide (n ≤ L) = false := by simp; omega
        have hd2 : decide (mx ≤ L) = false := by simp; omega
        go_wp2
        go_ret2
        exact ⟨L, false, rfl, .inr ⟨rfl, by rw [HL.out], fun j hj1 hj2 => HN.out j hj1 (by have := HL.out; omega)⟩, hbw.out _ HK.out⟩

end Go.Proofs.YtinijgkkmfdfiaaDoor
