/-
  Bits within 32 that follow one another are told: in plain mathematics.
-/
import Derived.Test.YthbhdbjjobfchaaCrcApp
namespace Go.Proofs.Ythbhdbjjobfchaa.Crc
open Go.RowKit

/-- Bit p of bytes is turned. -/
def flip (xs : List Nat) (p : Nat) : List Nat := xs.set (p / 8) (xs.getD (p / 8) 0 ^^^ 2 ^ (p % 8))
/-- The first k of the bits are turned, from place p on. -/
def turn (xs : List Nat) (p m : Nat) : Nat → List Nat
  | 0 => xs
  | k + 1 => if m.testBit k then flip (turn xs p m k) (p + k) else turn xs p m k

theorem flip_len (xs : List Nat) (p : Nat) : (flip xs p).length = xs.length := by simp [flip]
theorem turn_len (xs : List Nat) (p m : Nat) : ∀ k, (turn xs p m k).length = xs.length
  | 0 => rfl
  | k + 1 => by rw [turn]; split <;> simp [flip_len, turn_len xs p m k]
theorem flip_lt {xs : List Nat} (h : ∀ x ∈ xs, x < 256) (p : Nat) : ∀ x ∈ flip xs p, x < 256 := by
  intro x hx
  rcases List.mem_or_eq_of_mem_set hx with h1 | rfl
  · exact h x h1
  · refine Nat.xor_lt_two_pow (n := 8) ?_ (Nat.pow_lt_pow_right (by decide) (Nat.mod_lt _ (by decide)))
    by_cases hi : p / 8 < xs.length
    · have := h xs[p / 8] (List.getElem_mem hi)
      simpa [List.getElem?_eq_getElem hi] using this
    · rw [List.getD_eq_getElem?_getD, List.getElem?_eq_none (by omega)]
      decide
theorem turn_lt {xs : List Nat} (h : ∀ x ∈ xs, x < 256) (p m : Nat) : ∀ k, ∀ x ∈ turn xs p m k, x < 256
  | 0 => h
  | k + 1 => by
    rw [turn]
    split
    · exact flip_lt (turn_lt h p m k) _
    · exact turn_lt h p m k

theorem stps_bit (q j : Nat) (h : q ≤ j) : stps j (2 ^ q) = stps (j - q) 1 := by
  have e : j = q + (j - q) := by omega
  have e2 : stps q (2 ^ q) = 1 := by have := stps_pow q 1; rwa [Nat.mul_one] at this
  conv => lhs; rw [e, stps_add, e2]

/-- What a turned bit does to the register. -/
theorem reg_flip : ∀ (xs : List Nat) (p r : Nat), p < 8 * xs.length → reg r (flip xs p) = reg r xs ^^^ stps (8 * xs.length - p) 1
  | [], p, r, h => by simp at h
  | c :: t, p, r, h => by
    by_cases h8 : p < 8
    · have e : flip (c :: t) p = (c ^^^ 2 ^ p) :: t := by
        simp only [flip, show p / 8 = 0 by omega, show p % 8 = p by omega]
        rfl
      have e2 : byt r (c ^^^ 2 ^ p) = byt r c ^^^ stps (8 - p) 1 := by
        unfold byt
        rw [← Nat.xor_assoc, stps_xor, stps_bit p 8 (by omega)]
      rw [e, reg_cons, reg_cons, e2, reg_xor, ← stps_add, List.length_cons]
      congr 2
      omega
    · have e : flip (c :: t) p = c :: flip t (p - 8) := by
        simp only [flip, show p / 8 = (p - 8) / 8 + 1 by omega, show p % 8 = (p - 8) % 8 by omega]
        rfl
      rw [e, reg_cons, reg_cons, reg_flip t (p - 8) _ (by simp at h; omega), List.length_cons]
      congr 2
      omega

theorem mod_bit (m k : Nat) : m % 2 ^ (k + 1) = m % 2 ^ k ^^^ (if m.testBit k then 2 ^ k else 0) := by
  apply Nat.eq_of_testBit_eq
  intro j
  rw [Nat.testBit_xor, Nat.testBit_mod_two_pow, Nat.testBit_mod_two_pow]
  by_cases h : j = k
  · subst h
    cases hb : m.testBit j <;> simp
  · have : (if m.testBit k = true then 2 ^ k else 0).testBit j = false := by
      split
      · rw [Nat.testBit_two_pow]; simp; omega
      · simp
    rw [this]
    by_cases h2 : j < k
    · simp [h2, show j < k + 1 by omega]
    · simp [h2, show ¬ j < k + 1 by omega]

theorem stps_none (e : Nat) : stps e 0 = 0 := by
  have h := stps_xor e 0 0
  simp at h
  exact h

theorem reg_turn (xs : List Nat) (p m r e : Nat) (he : 8 * xs.length = p + 32 + e) : ∀ k, k ≤ 32 → reg r (turn xs p m k) = reg r xs ^^^ stps (e + 32) (m % 2 ^ k)
  | 0, _ => by rw [turn, Nat.pow_zero, Nat.mod_one, stps_none, Nat.xor_zero]
  | k + 1, hk => by
    rw [turn, mod_bit, stps_xor]
    split
    · rw [reg_flip _ _ _ (by rw [turn_len]; omega), reg_turn xs p m r e he k (by omega), turn_len, Nat.xor_assoc, stps_bit k (e + 32) (by omega)]
      congr 3
      omega
    · rw [reg_turn xs p m r e he k (by omega), stps_none, Nat.xor_zero]

theorem reg_le4 (r s : Nat) : reg r (le4 s) = stps 32 (r ^^^ s) := by
  have one : ∀ r s : Nat, stps 8 (r ^^^ s) = byt r (s % 256) ^^^ s / 256 := by
    intro r s
    unfold byt
    conv => lhs; rw [byte_split s]
    have h : stps 8 (256 * (s / 256)) = s / 256 := stps_pow 8 (s / 256)
    rw [Nat.xor_comm (256 * _), ← Nat.xor_assoc, stps_xor, h]
  have a : stps 32 (r ^^^ s) = stps 8 (stps 8 (stps 8 (stps 8 (r ^^^ s)))) := by rw [← stps_add, ← stps_add, ← stps_add]
  rw [a, one, one, one, le4, reg_cons, reg_cons, reg_cons, reg_cons, reg_nil, Nat.div_div_eq_div_mul, Nat.div_div_eq_div_mul]
  rfl

/-- What is sealed leaves one register, and no other bytes do. -/
theorem reg_sealed (xs : List Nat) (hx : ∀ x ∈ xs, x < 256) : reg 4294967295 (xs ++ le4 (more 0 xs)) = stps 32 4294967295 := by
  have hl := reg_lt xs (r := 4294967295) hx (by decide)
  have e : more 0 xs = nt (reg 4294967295 xs) := rfl
  rw [reg_append, reg_le4, e, nt_xor hl, Nat.xor_comm 4294967295, ← Nat.xor_assoc, Nat.xor_self, Nat.zero_xor]

/-- No burst is lost. -/
theorem burst_told (xs ys zs : List Nat) (p m : Nat) (hx : ∀ x ∈ xs, x < 256) (hy : ∀ x ∈ ys, x < 256) (hm : m < 4294967296) (h0 : m ≠ 0) (hp : p + 32 ≤ 8 * (xs ++ le4 (more 0 xs)).length)
    (e : turn (xs ++ le4 (more 0 xs)) p m 32 = ys ++ zs) : le4 (more 0 ys) ≠ zs := by
  intro hz
  have h1 := reg_turn (xs ++ le4 (more 0 xs)) p m 4294967295 (8 * (xs ++ le4 (more 0 xs)).length - p - 32) (by omega) 32 (Nat.le_refl _)
  rw [e, ← hz, reg_sealed ys hy, reg_sealed xs hx] at h1
  have h2 : stps (8 * (xs ++ le4 (more 0 xs)).length - p - 32 + 32) (m % 2 ^ 32) = 0 := by
    have h3 : stps 32 4294967295 ^^^ stps 32 4294967295 = stps 32 4294967295 ^^^ (stps 32 4294967295 ^^^ stps (8 * (xs ++ le4 (more 0 xs)).length - p - 32 + 32) (m % 2 ^ 32)) := by rw [← h1]
    rw [← Nat.xor_assoc, Nat.xor_self, Nat.zero_xor] at h3
    exact h3.symm
  have h4 : m % 2 ^ 32 = m := Nat.mod_eq_of_lt hm
  rw [h4] at h2
  exact h0 (stps_zero _ hm h2)

end Go.Proofs.Ythbhdbjjobfchaa.Crc
