/-
  The mathematics of gears: rows, hashes, places; the hash of the last 64 bytes.
-/
namespace Go.Proofs.YtinijgkkmfdfiaaDoor

/-- 2 to the 64th. -/
abbrev M64 : Nat := 18446744073709551616

/-- The row of a byte c, of a seed s. -/
def mixA (s c : Nat) : Nat := (s + (c + 1) * 11400714819323198485) % M64
def mixB (x : Nat) : Nat := (x ^^^ x / 1073741824) * 13787848793156543929 % M64
def mixC (x : Nat) : Nat := (x ^^^ x / 134217728) * 10723151780598845931 % M64
def mixD (x : Nat) : Nat := x ^^^ x / 2147483648
def rowOf (s c : Nat) : Nat := mixD (mixC (mixB (mixA s c)))

theorem xor_lt64 {a b : Nat} (ha : a < M64) (hb : b < M64) : a ^^^ b < M64 := Nat.xor_lt_two_pow (n := 64) ha hb
theorem mixA_lt (s c : Nat) : mixA s c < M64 := Nat.mod_lt _ (by decide)
theorem mixB_lt (x : Nat) : mixB x < M64 := Nat.mod_lt _ (by decide)
theorem mixC_lt (x : Nat) : mixC x < M64 := Nat.mod_lt _ (by decide)
theorem mixD_lt {x : Nat} (h : x < M64) : mixD x < M64 := xor_lt64 h (Nat.lt_of_le_of_lt (Nat.div_le_self _ _) h)
theorem rowOf_lt (s c : Nat) : rowOf s c < M64 := mixD_lt (mixC_lt _)

/-- A hash goes on by a byte. -/
def roll (s h c : Nat) : Nat := (2 * h + rowOf s c) % M64
def hashFrom (s h : Nat) (bs : List Nat) : Nat := bs.foldl (roll s) h
def hashOf (s : Nat) (bs : List Nat) : Nat := hashFrom s 0 bs

theorem roll_lt (s h c : Nat) : roll s h c < M64 := Nat.mod_lt _ (by decide)
theorem hashFrom_lt (s h : Nat) (hh : h < M64) (bs : List Nat) : hashFrom s h bs < M64 := by
  induction bs generalizing h with
  | nil => exact hh
  | cons c r ih => exact ih _ (roll_lt s h c)
theorem hashOf_lt (s : Nat) (bs : List Nat) : hashOf s bs < M64 := hashFrom_lt s 0 (by decide) bs
theorem hashFrom_app (s h : Nat) (a b : List Nat) : hashFrom s h (a ++ b) = hashFrom s (hashFrom s h a) b := by simp [hashFrom]
theorem hashOf_app (s : Nat) (a b : List Nat) : hashOf s (a ++ b) = hashFrom s (hashOf s a) b := hashFrom_app s 0 a b
theorem hashFrom_one (s h c : Nat) : hashFrom s h [c] = roll s h c := by rw [hashFrom, List.foldl_cons, List.foldl_nil]
theorem getD_at {bs : List Nat} {k : Nat} (hk : k < bs.length) : bs.getD k 0 = bs[k] := by rw [List.getD_eq_getElem?_getD, List.getElem?_eq_getElem hk, Option.getD_some]
theorem hashFrom_succ (s h : Nat) (bs : List Nat) (k : Nat) (hk : k < bs.length) : hashFrom s h (bs.take (k + 1)) = roll s (hashFrom s h (bs.take k)) (bs.getD k 0) := by
  rw [List.take_succ_eq_append_getElem hk, hashFrom_app, hashFrom_one, getD_at hk]
theorem hashOf_succ (s : Nat) (bs : List Nat) (k : Nat) (hk : k < bs.length) : hashOf s (bs.take (k + 1)) = roll s (hashOf s (bs.take k)) (bs.getD k 0) := hashFrom_succ s 0 bs k hk

theorem hashFrom_nil (s h : Nat) : hashFrom s h [] = h := by rw [hashFrom, List.foldl_nil]
theorem hashFrom_cons (s h c : Nat) (r : List Nat) : hashFrom s h (c :: r) = hashFrom s (roll s h c) r := by rw [hashFrom, List.foldl_cons, hashFrom]
theorem mod_part (m p x y : Nat) : (p * (x % m) + y) % m = (p * x + y) % m := by
  rw [Nat.add_mod, Nat.mul_mod, Nat.mod_mod, ← Nat.mul_mod, ← Nat.add_mod]
theorem mod_last (m x y z : Nat) (h : y % m = z % m) : (x + y) % m = (x + z) % m := by rw [Nat.add_mod, h, ← Nat.add_mod]

/-- What a hash leaves behind when n bytes more have come: 2 to the n times it. -/
theorem hashFrom_split (s : Nat) (bs : List Nat) : ∀ h, hashFrom s h bs % M64 = (2 ^ bs.length * h + hashFrom s 0 bs) % M64 := by
  induction bs with
  | nil => intro h; rw [List.length_nil, Nat.pow_zero, Nat.one_mul, hashFrom_nil, hashFrom_nil, Nat.add_zero]
  | cons c r ih =>
    intro h
    rw [hashFrom_cons, hashFrom_cons, ih (roll s h c), roll, mod_part, mod_last M64 (2 ^ (c :: r).length * h) _ _ (ih (roll s 0 c)), roll]
    rw [mod_last M64 (2 ^ (c :: r).length * h) _ _ (mod_part M64 (2 ^ r.length) (2 * 0 + rowOf s c) (hashFrom s 0 r))]
    congr 1
    rw [List.length_cons, Nat.pow_succ, Nat.mul_add, Nat.mul_zero, Nat.zero_add, Nat.mul_assoc, Nat.add_assoc]

theorem pow64 : (2 : Nat) ^ 64 = M64 := by decide
/-- The hash of more than 64 bytes is that of the last 64. -/
theorem hashOf_last (s : Nat) (a b : List Nat) (hb : b.length = 64) : hashOf s (a ++ b) = hashOf s b := by
  have h := hashFrom_split s b (hashOf s a)
  rw [hb, pow64, Nat.mul_add_mod] at h
  have e1 := Nat.mod_eq_of_lt (hashFrom_lt s _ (hashOf_lt s a) b)
  have e2 := Nat.mod_eq_of_lt (hashFrom_lt s 0 (by decide) b)
  rw [e1, e2] at h
  rw [hashOf_app, h]
  exact Eq.refl (hashOf s b)

/-- No hash of a place below k is free of the mask's bits. -/
def NoneTo (s m : Nat) (bs : List Nat) (k : Nat) : Prop := ∀ j, j < k → hashOf s (bs.take (j + 1)) &&& m ≠ 0
/-- The place that is found: k; or -1. -/
def Found (s m : Nat) (bs : List Nat) (z : Int) : Prop :=
  (z = -1 ∧ NoneTo s m bs bs.length) ∨ ∃ k : Nat, z = k ∧ k < bs.length ∧ NoneTo s m bs k ∧ hashOf s (bs.take (k + 1)) &&& m = 0

theorem NoneTo.next {s m : Nat} {bs : List Nat} {k : Nat} (h : NoneTo s m bs k) (hk : hashOf s (bs.take (k + 1)) &&& m ≠ 0) : NoneTo s m bs (k + 1) := fun j hj => by
  by_cases e : j = k
  · subst e; exact hk
  · exact h j (by omega)

theorem found_one {s m : Nat} {bs : List Nat} {y z : Int} (h : Found s m bs y) (k : Found s m bs z) : y = z := by
  rcases h with ⟨rfl, h⟩ | ⟨i, rfl, hi, h, hh⟩ <;> rcases k with ⟨rfl, k⟩ | ⟨j, rfl, hj, k, kk⟩
  · rfl
  · exact absurd kk (h j hj)
  · exact absurd hh (k i hi)
  · rcases Nat.lt_trichotomy i j with e | e | e
    · exact absurd hh (k i e)
    · rw [e]
    · exact absurd kk (h j e)

end Go.Proofs.YtinijgkkmfdfiaaDoor
