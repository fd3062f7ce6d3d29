/-
  What times, behind, Zeros and Join do.
-/
import Derived.Test.YtigjapiapgkgmaaMore
namespace Go.Proofs.Ytigjapiapgkgmaa
open Go.RowKit

/-- The bit that is looked at in round i. -/
def msk (i : Nat) : Nat := 4294967296 / 2 ^ (i + 1)
theorem msk_pow (i : Nat) (h : i ≤ 31) : msk i = 2 ^ (31 - i) := by
  have e : 4294967296 = 2 ^ 32 := rfl
  rw [msk, e, Nat.pow_div (by omega) (by decide), show 32 - (i + 1) = 31 - i by omega]
theorem msk_next (i : Nat) : msk (i + 1) = msk i / 2 := by rw [msk, msk, Nat.div_div_eq_div_mul, ← Nat.pow_succ]
theorem msk_lt (i : Nat) (h : i ≤ 31) : msk i < 4294967296 := by
  rw [msk_pow i h]
  exact Nat.lt_of_le_of_lt (Nat.pow_le_pow_right (n := 2) (j := 31) (by decide) (by omega)) (by decide)
theorem msk_pos (i : Nat) (h : i ≤ 31) : msk i ≠ 0 := by
  rw [msk_pow i h]
  exact Nat.ne_of_gt (Nat.pow_pos (by decide))
theorem msk_end : msk 32 = 0 := by decide

theorem and_pow (a k : Nat) : a &&& 2 ^ k = if a.testBit k then 2 ^ k else 0 := by
  apply Nat.eq_of_testBit_eq
  intro j
  rw [Nat.testBit_and, Nat.testBit_two_pow]
  by_cases h : k = j
  · subst h
    cases hb : a.testBit k <;> simp
  · have : (if a.testBit k = true then 2 ^ k else 0).testBit j = false := by
      split
      · rw [Nat.testBit_two_pow]; simpa using h
      · simp
    rw [this]
    simp [h]

theorem and_msk (a i : Nat) (ha : a < 4294967296) (h : i ≤ 31) : (bits .and .u32 (a : Int) (msk i : Int) != 0) = a.testBit (31 - i) := by
  rw [u32_and_nat a (msk i) ha (msk_lt i h), msk_pow i h, and_pow]
  have hp : 2 ^ (31 - i) ≠ 0 := Nat.ne_of_gt (Nat.pow_pos (by decide))
  cases a.testBit (31 - i)
  · rfl
  · generalize 2 ^ (31 - i) = m at hp
    simp
    omega

theorem tms_lt (a b : Nat) (hb : b < 4294967296) : ∀ i, tms a b i < 4294967296
  | 0 => by rw [tms]; decide
  | i + 1 => by
    rw [tms]
    split
    · exact xor_lt32 (tms_lt a b hb i) (stps_lt i hb)
    · exact tms_lt a b hb i

set_option maxHeartbeats 1000000 in
set_option maxRecDepth 100000 in
theorem times_any (a b : Nat) (ha : a < 4294967296) (hb : b < 4294967296) (w : World) :
    Calls Try.prog 35 #[.int .u32 a, .int .u32 b] w fun e w' => e = .returned (.int .u32 (tms a b 32 : Nat)) ∧ w' = w := by
  go_enter Try.func35, Try.ntmps35
  go_wp2
  go_loopw [1, 5, 6] (fun x p m wr => ∃ i : Nat, i ≤ 32 ∧ x = .int .u32 (stps i b : Nat) ∧ p = .int .u32 (tms a b i : Nat) ∧ m = .int .u32 (msk i : Nat) ∧ wr = w) (fun _ _ m _ => (intOf m).toNat)
  case atStart => exact ⟨0, by omega, rfl, rfl, rfl, rfl⟩
  case round =>
    obtain ⟨i, hi, rfl, rfl, rfl, hwr⟩ := hrel
    subst wr
    by_cases hlt : i ≤ 31
    · have hm : ((msk i : Int) != 0) = true := by have := msk_pos i hlt; simp; omega
      have hl := stps_lt i hb
      have ht := tms_lt a b hb i
      have ha2 := and_msk a i ha hlt
      have e1 := hid (stps_succ i b)
      have e2 : Hid (tms a b (i + 1) = if a.testBit (31 - i) then tms a b i ^^^ stps i b else tms a b i) := rfl
      have e3 := hid (msk_next i)
      have e4 := hid (msk_pos i hlt)
      have hx := u32_xor_nat _ _ ht hl
      generalize stps i b = x at *
      generalize tms a b i = p at *
      generalize msk i = m at *
      cases hbit : a.testBit (31 - i)
      · rw [hbit] at ha2 e2
        clear hx
        go_wp2_with (go_at_call 32; refine (step_any _ hl _).mono ?_; rintro e w2 ⟨rfl, h2⟩; subst w2)
        go_roundw
        case rel => exact ⟨i + 1, by omega, by rw [e1.out], by rw [e2.out]; rfl, by rw [e3.out]; rfl, by first | rfl | trivial⟩
        case measure => have := e4.out; simp [intOf]; omega
      · rw [hbit] at ha2 e2
        go_wp2_with (go_at_call 32; refine (step_any _ hl _).mono ?_; rintro e w2 ⟨rfl, h2⟩; subst w2)
        go_roundw
        case rel => exact ⟨i + 1, by omega, by rw [e1.out], by rw [e2.out]; rfl, by rw [e3.out]; rfl, by first | rfl | trivial⟩
        case measure => have := e4.out; simp [intOf]; omega
    · have : i = 32 := by omega
      subst this
      rw [msk_end]
      go_wp2
      go_ret
      exact ⟨rfl, rfl⟩

theorem half_odd {c y : Nat} {k : Int} (hk : 0 < k) (ho : k % 2 = 1) : stps ((c + c) * (k / 2).toNat) (stps c y) = stps (c * k.toNat) y := by
  rw [← stps_add]
  obtain ⟨m, rfl⟩ : ∃ m : Nat, k = 2 * m + 1 := ⟨(k / 2).toNat, by omega⟩
  rw [show ((2 * (m : Int) + 1) / 2).toNat = m by omega, show (2 * (m : Int) + 1).toNat = 2 * m + 1 by omega, Nat.mul_add, Nat.mul_one, ← Nat.mul_assoc, Nat.mul_comm c 2, Nat.two_mul, Nat.add_comm]
theorem half_even {c y : Nat} {k : Int} (hk : 0 < k) (ho : ¬ k % 2 = 1) : stps ((c + c) * (k / 2).toNat) y = stps (c * k.toNat) y := by
  obtain ⟨m, rfl⟩ : ∃ m : Nat, k = 2 * m := ⟨(k / 2).toNat, by omega⟩
  rw [show ((2 * (m : Int)) / 2).toNat = m by omega, show (2 * (m : Int)).toNat = 2 * m by omega, ← Nat.mul_assoc, Nat.mul_comm c 2, Nat.two_mul]

set_option maxHeartbeats 1000000 in
set_option maxRecDepth 100000 in
theorem behind_any (r : Nat) (n : Int) (hr : r < 4294967296) (hn : n ≤ 9223372036854775807) (w : World) :
    Calls Try.prog 28 #[.int .u32 r, .int .i64 n] w fun e w' => e = .returned (.int .u32 (stps (8 * n.toNat) r : Nat)) ∧ w' = w := by
  go_enter Try.func28, Try.ntmps28
  go_wp2
  go_loopw [0, 1, 5] (fun x m p wr => ∃ (y c : Nat) (k : Int), y < 4294967296 ∧ k ≤ 9223372036854775807 ∧ x = .int .u32 (y : Nat) ∧ m = .int .i64 k ∧ p = .int .u32 (stps c 2147483648 : Nat) ∧ Hid (stps (c * k.toNat) y = stps (8 * n.toNat) r) ∧ wr = w) (fun _ m _ _ => (intOf m).toNat)
  case atStart => exact ⟨r, 8, n, hr, hn, rfl, rfl, rfl, rfl, rfl⟩
  case round =>
    obtain ⟨y, c, k, hy, hkn, rfl, rfl, rfl, H, hwr⟩ := hrel
    subst wr
    by_cases hk : 0 < k
    · have hp := stps_lt c (r := 2147483648) (by decide)
      have t1 := hid (tms_steps y c hy)
      have t2 := hid (tms_steps (stps c 2147483648) c hp)
      have e2 : Hid (stps (c + c) 2147483648 = stps c (stps c 2147483648)) := stps_add c c _
      generalize stps c 2147483648 = p at *
      by_cases ho : k % 2 = 1
      · have hb : (k.tmod 2 != 0) = true := by rw [Int.tmod_eq_emod_of_nonneg (by omega), ho]; rfl
        go_wp2_with fail
        refine (times_any y p hy hp _).mono ?_
        rintro e w2 ⟨rfl, h2⟩
        subst w2
        rw [t1.out]
        go_wp2_with fail
        refine (times_any p p hp hp _).mono ?_
        rintro e w2 ⟨rfl, h2⟩
        subst w2
        rw [t2.out]
        go_wp2_with fail
        exact ⟨⟨stps c y, c + c, k / 2, stps_lt c hy, by omega, rfl, rfl, by rw [e2.out], by rw [Hid, half_odd hk ho]; exact H, trivial⟩, by simp [intOf]; omega⟩
      · have hb : (k.tmod 2 != 0) = false := by rw [Int.tmod_eq_emod_of_nonneg (by omega), show k % 2 = 0 by omega]; rfl
        go_wp2_with fail
        refine (times_any p p hp hp _).mono ?_
        rintro e w2 ⟨rfl, h2⟩
        subst w2
        rw [t2.out]
        go_wp2_with fail
        exact ⟨⟨y, c + c, k / 2, hy, by omega, rfl, rfl, by rw [e2.out], by rw [Hid, half_even hk ho]; exact H, trivial⟩, by simp [intOf]; omega⟩
    · have e : stps (c * k.toNat) y = y := by rw [show k.toNat = 0 by omega, Nat.mul_zero, stps_nought]
      have H1 := H.out
      rw [e] at H1
      have H2 := hid H1
      clear H1 H e
      go_wp2
      go_ret
      rw [← H2.out]
      exact ⟨rfl, rfl⟩

set_option maxHeartbeats 400000 in
theorem zeros_any (a : Addr) (s : Nat) (n : Int) (hs : s < 4294967296) (hn : n ≤ 9223372036854775807) (w : World) :
    Calls Try.prog 20 #[.pointer (some a), .int .u32 s, .int .i64 n] w fun e w' => e = .returned (.int .u32 (nt (stps (8 * n.toNat) (nt s)) : Nat)) ∧ w' = w := by
  have hsg : IntKind.u32.signed = false := rfl
  have h1 := not_u32 s hs
  have h2 := not_u32 _ (stps_lt (8 * n.toNat) (nt_lt s))
  go_enter Try.func20, Try.ntmps20
  go_wp2_with fail
  refine (behind_any _ n (nt_lt s) hn _).mono ?_
  rintro e w2 ⟨rfl, rfl⟩
  go_wp2_with fail
  go_ret
  exact ⟨rfl, rfl⟩

set_option maxHeartbeats 400000 in
theorem join_any (p : Addr) (a b : Nat) (n : Int) (ha : a < 4294967296) (hb : b < 4294967296) (h0 : 0 ≤ n) (hn : n ≤ 9223372036854775807) (w : World) :
    Calls Try.prog 19 #[.pointer (some p), .int .u32 a, .int .u32 b, .int .i64 n] w fun e w' => e = .returned (.int .u32 (stps (8 * n.toNat) a ^^^ b : Nat)) ∧ w' = w := by
  have h1 := u32_xor_nat _ b (stps_lt (8 * n.toNat) ha) hb
  have h2 : ¬ n < 0 := by omega
  go_enter Try.func19, Try.ntmps19
  go_wp2_with fail
  refine (behind_any a n ha hn _).mono ?_
  rintro e w2 ⟨rfl, rfl⟩
  go_wp2_with fail
  go_ret
  exact ⟨rfl, rfl⟩

set_option maxHeartbeats 400000 in
theorem join_none (p : Addr) (a b : Int) (n : Int) (h0 : n < 0) (w : World) :
    Calls Try.prog 19 #[.pointer (some p), .int .u32 a, .int .u32 b, .int .i64 n] w fun e w' => e = .returned (.int .u32 a) ∧ w' = w := by
  go_enter Try.func19, Try.ntmps19
  go_wp2_with fail
  go_ret
  exact ⟨rfl, rfl⟩

end Go.Proofs.Ytigjapiapgkgmaa
