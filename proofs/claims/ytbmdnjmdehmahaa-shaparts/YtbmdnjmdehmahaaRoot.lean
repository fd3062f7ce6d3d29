/-
  The last number that fits: behindPoint, and the two closures that it asks: whether a square, or a cube, is at most a prime.
-/
import Derived.Test.YtbmdnjmdehmahaaBase
import Derived.Lib.Mul64
import Derived.Laws.Bits64b
namespace Go.Proofs.Ytbmdnjmdehmahaa
open Go.RowKit

/-! ### In plain mathematics -/
theorem bit_or (R k : Nat) : R / 2 ^ (k + 1) * 2 ^ (k + 1) ||| 2 ^ k = R / 2 ^ (k + 1) * 2 ^ (k + 1) + 2 ^ k := by
  have h := Nat.two_pow_add_eq_or_of_lt (i := k + 1) (b := 2 ^ k) (Nat.pow_lt_pow_right (by omega) (by omega)) (R / 2 ^ (k + 1))
  rw [Nat.mul_comm (R / 2 ^ (k + 1))]
  exact h.symm
theorem bit_next (R k : Nat) : R / 2 ^ k * 2 ^ k = if R / 2 ^ (k + 1) * 2 ^ (k + 1) + 2 ^ k ≤ R then R / 2 ^ (k + 1) * 2 ^ (k + 1) + 2 ^ k else R / 2 ^ (k + 1) * 2 ^ (k + 1) := by
  have e1 : R / 2 ^ (k + 1) = R / 2 ^ k / 2 := by rw [Nat.pow_succ, Nat.div_div_eq_div_mul]
  have e2 := Nat.div_add_mod R (2 ^ k)
  have e3 := Nat.mod_lt R (Nat.two_pow_pos k)
  rw [e1, Nat.pow_succ]
  generalize R / 2 ^ k = q at *
  generalize R % 2 ^ k = r at *
  generalize 2 ^ k = K at *
  have e4 : q / 2 * (K * 2) = 2 * (q / 2 * K) := by rw [← Nat.mul_assoc, Nat.mul_comm]
  rw [e4]
  have e5 : q * K = 2 * (q / 2 * K) + q % 2 * K := by
    conv => lhs; rw [← Nat.div_add_mod q 2]
    rw [Nat.add_mul, Nat.mul_assoc]
  have e6 : K * q = q * K := Nat.mul_comm _ _
  rw [e6] at e2
  rw [e5] at e2 ⊢
  generalize q / 2 * K = X at *
  rcases Nat.mod_two_eq_zero_or_one q with h | h
  · rw [h] at e2 ⊢
    rw [if_neg (by omega)]
    omega
  · rw [h] at e2 ⊢
    rw [if_pos (by omega)]
    omega
theorem root2_fits (i n : Nat) (hi : i < 8) : decide (n * n / 18446744073709551616 < primes64.getD i 0) = decide (n ≤ roots2.getD i 0) := by
  obtain ⟨h1, h2, _⟩ := roots2_are i hi
  have h3 : roots2.getD i 0 ^ 2 ≠ primes64.getD i 0 * 2 ^ 64 := (by decide +kernel : ∀ i, i < 8 → roots2.getD i 0 ^ 2 ≠ primes64.getD i 0 * 2 ^ 64) i hi
  generalize roots2.getD i 0 = R at *
  generalize primes64.getD i 0 = p at *
  rw [decide_eq_decide, Nat.div_lt_iff_lt_mul (by decide)]
  constructor
  · intro h
    apply Nat.le_of_not_lt
    intro hlt
    have := Nat.mul_le_mul hlt hlt
    rw [Nat.pow_two] at h2
    simp only [Nat.succ_eq_add_one] at this
    omega
  · intro h
    have := Nat.mul_le_mul h h
    rw [Nat.pow_two] at h1 h3
    omega
theorem cube_hi (n : Nat) : n * n / 18446744073709551616 * n + n * n % 18446744073709551616 * n / 18446744073709551616 = n ^ 3 / 18446744073709551616 := by
  have e : n ^ 3 = n * n * n := by rw [Nat.pow_succ, Nat.pow_two]
  have d := Nat.div_add_mod (n * n) 18446744073709551616
  have e2 : n * n * n = 18446744073709551616 * (n * n / 18446744073709551616 * n) + n * n % 18446744073709551616 * n := by
    conv => lhs; rw [← d]
    rw [Nat.add_mul, Nat.mul_assoc]
  rw [e, e2, Nat.mul_add_div (by decide)]
theorem root3_fits (i n : Nat) (hi : i < 64) : decide (n ^ 3 / 18446744073709551616 < primes64.getD i 0 * 4294967296) = decide (n ≤ roots3.getD i 0) := by
  obtain ⟨h1, h2, _⟩ := roots3_are i hi
  have h3 : roots3.getD i 0 ^ 3 ≠ primes64.getD i 0 * 2 ^ 96 := (by decide +kernel : ∀ i, i < 64 → roots3.getD i 0 ^ 3 ≠ primes64.getD i 0 * 2 ^ 96) i hi
  generalize roots3.getD i 0 = R at *
  generalize primes64.getD i 0 = p at *
  rw [decide_eq_decide, Nat.div_lt_iff_lt_mul (by decide), Nat.mul_assoc, show 4294967296 * 18446744073709551616 = 2 ^ 96 by decide]
  constructor
  · intro h
    apply Nat.le_of_not_lt
    intro hlt
    have := Nat.pow_le_pow_left (show R + 1 ≤ n from hlt) 3
    omega
  · intro h
    have := Nat.pow_le_pow_left h 3
    omega

/-! ### math/bits.Mul64 -/
theorem maskN (a : Nat) (ha : a < 18446744073709551616) : bits .and .u64 (a : Int) 4294967295 = ((a % 4294967296 : Nat) : Int) := by
  have h := bits_and_u64_nat a 4294967295 ha (by omega)
  have e : a &&& 4294967295 = a % 4294967296 := Nat.and_two_pow_sub_one_eq_mod a 32
  rw [e] at h
  exact h
theorem divN (a : Nat) : (a : Int) / 4294967296 = ((a / 4294967296 : Nat) : Int) := by omega
theorem mulN (a b : Nat) : (a : Int) * (b : Int) = ((a * b : Nat) : Int) := (Int.natCast_mul a b).symm
theorem addN (a b : Nat) : (a : Int) + (b : Int) = ((a + b : Nat) : Int) := (Int.natCast_add a b).symm
theorem wrapN (a : Nat) (ha : a < 18446744073709551616) : IntKind.u64.wrap (a : Int) = (a : Int) := by rw [IntKind.wrap_u64]; omega
theorem wrapM (a : Nat) : IntKind.u64.wrap (a : Int) = ((a % 18446744073709551616 : Nat) : Int) := by rw [IntKind.wrap_u64]; omega
theorem modM (a : Nat) : (a : Int) % 18446744073709551616 = ((a % 18446744073709551616 : Nat) : Int) := by omega

set_option maxHeartbeats 1000000 in
set_option maxRecDepth 100000 in
theorem mul64_any (x y : Nat) (hx : x < 18446744073709551616) (hy : y < 18446744073709551616) (w : World) :
    Calls Try.prog 69 #[.int .u64 x, .int .u64 y] w fun e w' => e = .returned (.tuple #[.int .u64 ((x * y / 18446744073709551616 : Nat) : Int), .int .u64 ((x * y % 18446744073709551616 : Nat) : Int)]) ∧ w' = w := by
  obtain ⟨bd, bt, bw, hhi⟩ := Lib.mul64_hi x y hx hy
  have ba := Lib.half_mul_le (a := x / 4294967296) (b := y / 4294967296) (by omega) (by omega)
  have bb := Lib.half_mul_le (a := x / 4294967296) (b := y % 4294967296) (by omega) (by omega)
  have bc := Lib.half_mul_le (a := x % 4294967296) (b := y / 4294967296) (by omega) (by omega)
  have ba' : x / 4294967296 * (y / 4294967296) < 18446744073709551616 := by omega
  have bb' : x / 4294967296 * (y % 4294967296) < 18446744073709551616 := by omega
  have bc' : x % 4294967296 * (y / 4294967296) < 18446744073709551616 := by omega
  have bh1 : x / 4294967296 * (y / 4294967296) + (x / 4294967296 * (y % 4294967296) + x % 4294967296 * (y % 4294967296) / 4294967296) / 4294967296 < 18446744073709551616 := by omega
  have bh : x / 4294967296 * (y / 4294967296) + (x / 4294967296 * (y % 4294967296) + x % 4294967296 * (y % 4294967296) / 4294967296) / 4294967296 + ((x / 4294967296 * (y % 4294967296) + x % 4294967296 * (y % 4294967296) / 4294967296) % 4294967296 + x % 4294967296 * (y / 4294967296)) / 4294967296 < 18446744073709551616 := by omega
  go_enter Try.func69, Try.ntmps69
  go_wp2
  simp only [maskN x hx, maskN y hy, divN, mulN, addN, wrapN _ bd, wrapN _ bb', wrapN _ bt, maskN _ bt, wrapN _ bc', wrapN _ bw, wrapN _ ba', wrapN _ bh1, wrapN _ bh, wrapM (x * y)]
  rw [hhi]
  go_ret2
  exact ⟨rfl, rfl⟩

theorem ret_bool {a b : Bool} (h : a = b) : Ending.returned (.bool a) = .returned (.bool b) := by rw [h]

set_option maxHeartbeats 1000000 in
set_option maxRecDepth 100000 in
theorem square_fits (n p g : Nat) (w : World) (hn : n < 68719476736) (hc : w.cell? ⟨g, 0, none⟩ = some (.int .u64 p)) :
    Calls Try.prog 70 #[.int .u64 n, .pointer (some ⟨g, 0, none⟩)] w fun e w' => e = .returned (.bool (decide (n * n / 18446744073709551616 < p))) ∧ w' = w := by
  go_enter Try.func70, Try.ntmps70
  go_wp2_with (go_at_call 69; refine (mul64_any n n (by omega) (by omega) _).mono ?_; rintro e w' ⟨rfl, hw⟩; subst hw)
  go_ret
  refine ⟨ret_bool ?_, rfl⟩
  rw [decide_eq_decide]
  omega

set_option maxHeartbeats 1000000 in
set_option maxRecDepth 100000 in
theorem cube_fits (n p g : Nat) (w : World) (hn : n < 68719476736) (hp : p < 4294967296) (hc : w.cell? ⟨g, 0, none⟩ = some (.int .u64 p)) :
    Calls Try.prog 68 #[.int .u64 n, .pointer (some ⟨g, 0, none⟩)] w fun e w' => e = .returned (.bool (decide (n ^ 3 / 18446744073709551616 < p * 4294967296))) ∧ w' = w := by
  have h1 : n * n ≤ 4722366482732206260225 := Nat.mul_le_mul (show n ≤ 68719476735 by omega) (show n ≤ 68719476735 by omega)
  have h2 : n * n / 18446744073709551616 ≤ 255 := by omega
  have h3 : n * n / 18446744073709551616 * n ≤ 255 * 68719476735 := Nat.mul_le_mul h2 (show n ≤ 68719476735 by omega)
  have h4 : n * n % 18446744073709551616 * n ≤ 18446744073709551615 * 68719476735 := Nat.mul_le_mul (by omega) (by omega)
  have HC := hid (cube_hi n)
  rw [← HC.out]
  have h5 : n * n % 18446744073709551616 < 18446744073709551616 := by omega
  have H0 := hid (mul64_any n n (by omega) (by omega) w)
  have H1 := hid (mul64_any (n * n % 18446744073709551616) n h5 (by omega) w)
  generalize n * n / 18446744073709551616 = hi at *
  generalize n * n % 18446744073709551616 = lo at *
  have h6 : lo * n / 18446744073709551616 ≤ 68719476735 := by omega
  generalize lo * n / 18446744073709551616 = mo at *
  have hm : (hi : Int) * (n : Int) = ((hi * n : Nat) : Int) := mulN hi n
  generalize hi * n = z at *
  clear h1 h4
  go_enter Try.func68, Try.ntmps68
  go_wp2_with fail
  refine H0.out.mono ?_
  rintro e w' ⟨rfl, hw⟩
  subst hw
  go_wp2_with fail
  refine H1.out.mono ?_
  rintro e w' ⟨rfl, hw⟩
  subst hw
  go_wp2_with fail
  go_ret
  refine ⟨ret_bool ?_, rfl⟩
  rw [decide_eq_decide]
  omega

set_option maxHeartbeats 1000000 in
set_option maxRecDepth 100000 in
/-- behindPoint, of a closure that says whether a number is at most R. -/
theorem behind_any (k g R : Nat) (w : World) (hk : k = 68 ∨ k = 70) (hR : R < 34359738368) (hF : ∀ n, n < 68719476736 → Calls Try.prog k #[.int .u64 (n : Nat), .pointer (some ⟨g, 0, none⟩)] w fun e w' => e = .returned (.bool (decide (n ≤ R))) ∧ w' = w) :
    Calls Try.prog 56 #[.func (.func k) #[] #[.pointer (some ⟨g, 0, none⟩)]] w fun e w' => e = .returned (.int .u32 ((R % 4294967296 : Nat) : Int)) ∧ w' = w := by
  have HF := hid hF
  clear hF
  rcases hk with rfl | rfl
  all_goals
    go_enter Try.func56, Try.ntmps56
    go_wp2
    go_loopw [3, 4] (fun l b wr => ∃ k : Nat, k ≤ 35 ∧ l = .int .u64 ((R / 2 ^ k * 2 ^ k : Nat) : Int) ∧ b = .int .u64 ((2 ^ k / 2 : Nat) : Int) ∧ wr = w) (fun _ b _ => (intOf b).toNat)
    case atStart =>
      refine ⟨35, by omega, ?_, rfl, rfl⟩
      rw [Nat.div_eq_of_lt (show R < 2 ^ 35 by omega)]
      rfl
    case round =>
      obtain ⟨k, hk, rfl, rfl, hw⟩ := hrel
      subst hw
      cases k with
      | zero =>
        rw [show (2 ^ 0 / 2 : Nat) = 0 from rfl, show R / 2 ^ 0 * 2 ^ 0 = R by simp]
        go_wp2
        go_ret
        exact ⟨by simp, rfl⟩
      | succ k =>
        have hor := bit_or R k
        have HN := hid (bit_next R k)
        have hle : R / 2 ^ (k + 1) * 2 ^ (k + 1) ≤ R := Nat.div_mul_le_self _ _
        have hB : (2 ^ (k + 1) / 2 : Nat) = 2 ^ k := by rw [Nat.pow_succ]; omega
        have hBl : (2 ^ k : Nat) ≤ 17179869184 := Nat.pow_le_pow_right (by omega : 0 < 2) (show k ≤ 34 by omega)
        have hBp : 0 < (2 ^ k : Nat) := Nat.two_pow_pos k
        rw [hB]
        have hbo := u64_or_nat (R / 2 ^ (k + 1) * 2 ^ (k + 1)) (2 ^ k) (by omega) (by omega)
        rw [hor] at hbo
        generalize R / 2 ^ (k + 1) * 2 ^ (k + 1) = L at *
        have HNX : Hid (∃ K, K = 2 ^ k ∧ R / 2 ^ k * 2 ^ k = if L + K ≤ R then L + K else L) := ⟨_, rfl, HN.out⟩
        have HK : Hid (∀ x : Nat, x = 2 ^ k → x / 2 = 2 ^ k / 2) := fun x hx => by rw [hx]
        clear HN hB hor
        obtain ⟨B, hBe⟩ : ∃ B, B = 2 ^ k := ⟨_, rfl⟩
        rw [← hBe] at hbo hBl hBp ⊢
        have HBE := hid hBe
        clear hBe
        have hg : (B : Int) > 0 := by omega
        have HC := hid (HF.out (L + B) (by omega))
        have hnext : Hid (R / 2 ^ k * 2 ^ k = if L + B ≤ R then L + B else L) := by
          obtain ⟨K, h1, h2⟩ := HNX.out
          rw [← HBE.out] at h1
          subst h1
          exact h2
        by_cases hfit : L + B ≤ R
        · have hd : decide (L + B ≤ R) = true := by simpa using hfit
          rw [hd] at HC
          go_wp2_with fail
          refine HC.out.mono ?_
          rintro e w1 ⟨rfl, hw⟩
          subst hw
          go_wp2_with fail
          go_roundw
          case rel => exact ⟨k, by omega, by rw [hnext.out, if_pos hfit]; go_num, by rw [← HBE.out]; rfl, by first | rfl | trivial⟩
          case measure => simp [intOf]; omega
        · have hd : decide (L + B ≤ R) = false := by simpa using hfit
          rw [hd] at HC
          go_wp2_with fail
          refine HC.out.mono ?_
          rintro e w1 ⟨rfl, hw⟩
          subst hw
          go_wp2_with fail
          go_roundw
          case rel => exact ⟨k, by omega, by rw [hnext.out, if_neg hfit], by rw [← HBE.out]; rfl, by first | rfl | trivial⟩
          case measure => simp [intOf]; omega

end Go.Proofs.Ytbmdnjmdehmahaa
