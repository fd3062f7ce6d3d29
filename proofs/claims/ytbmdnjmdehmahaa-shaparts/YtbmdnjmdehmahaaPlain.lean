/-
  SHA-256 in plain mathematics, over natural numbers: words, blocks, what follows a text, and that a text may come in pieces. No program is named here.
-/
import Derived.WalkKit
import Derived.Below
namespace Go.Proofs.Ytbmdnjmdehmahaa
open Go.RowKit

/-- x turned n bits down. -/
def rot (x n : Nat) : Nat := x >>> n ||| (x <<< (32 - n)) % 4294967296
def sig0 (x : Nat) : Nat := rot x 7 ^^^ rot x 18 ^^^ x >>> 3
def sig1 (x : Nat) : Nat := rot x 17 ^^^ rot x 19 ^^^ x >>> 10
def Sig0 (x : Nat) : Nat := rot x 2 ^^^ rot x 13 ^^^ rot x 22
def Sig1 (x : Nat) : Nat := rot x 6 ^^^ rot x 11 ^^^ rot x 25
def cho (x y z : Nat) : Nat := x &&& y ^^^ (4294967295 - x) &&& z
def maj (x y z : Nat) : Nat := x &&& y ^^^ x &&& z ^^^ y &&& z

/-- The next word behind i of them. -/
def nextW (ws : List Nat) (i : Nat) : Nat := (ws.getD (i - 16) 0 + sig0 (ws.getD (i - 15) 0) + ws.getD (i - 7) 0 + sig1 (ws.getD (i - 2) 0)) % 4294967296
/-- n words more. -/
def moreW : Nat → List Nat → List Nat
  | 0, ws => ws
  | n + 1, ws => moreW n (ws ++ [nextW ws ws.length])
/-- A word of four bytes, the highest first. -/
def wordAt (b : List Nat) (i : Nat) : Nat := b.getD (4 * i) 0 * 16777216 + b.getD (4 * i + 1) 0 * 65536 + b.getD (4 * i + 2) 0 * 256 + b.getD (4 * i + 3) 0
/-- A block's 64 words. -/
def sched (b : List Nat) : List Nat := moreW 48 ((List.range 16).map (wordAt b))

/-- One round. -/
def round1 (v : List Nat) (k w : Nat) : List Nat :=
  let x := (v.getD 7 0 + Sig1 (v.getD 4 0) + cho (v.getD 4 0) (v.getD 5 0) (v.getD 6 0) + k + w) % 4294967296
  let y := (Sig0 (v.getD 0 0) + maj (v.getD 0 0) (v.getD 1 0) (v.getD 2 0)) % 4294967296
  [(x + y) % 4294967296, v.getD 0 0, v.getD 1 0, v.getD 2 0, (v.getD 3 0 + x) % 4294967296, v.getD 4 0, v.getD 5 0, v.getD 6 0]
/-- n rounds, the first of them the i-th. -/
def roundsN (ks ws : List Nat) : Nat → Nat → List Nat → List Nat
  | 0, _, v => v
  | n + 1, i, v => roundsN ks ws n (i + 1) (round1 v (ks.getD i 0) (ws.getD i 0))
def addW (v h : List Nat) : List Nat := (List.range 8).map fun i => (v.getD i 0 + h.getD i 0) % 4294967296

def first8 : List Nat := [0x6a09e667, 0xbb67ae85, 0x3c6ef372, 0xa54ff53a, 0x510e527f, 0x9b05688c, 0x1f83d9ab, 0x5be0cd19]
def words64 : List Nat := [
  0x428a2f98, 0x71374491, 0xb5c0fbcf, 0xe9b5dba5, 0x3956c25b, 0x59f111f1, 0x923f82a4, 0xab1c5ed5,
  0xd807aa98, 0x12835b01, 0x243185be, 0x550c7dc3, 0x72be5d74, 0x80deb1fe, 0x9bdc06a7, 0xc19bf174,
  0xe49b69c1, 0xefbe4786, 0x0fc19dc6, 0x240ca1cc, 0x2de92c6f, 0x4a7484aa, 0x5cb0a9dc, 0x76f988da,
  0x983e5152, 0xa831c66d, 0xb00327c8, 0xbf597fc7, 0xc6e00bf3, 0xd5a79147, 0x06ca6351, 0x14292967,
  0x27b70a85, 0x2e1b2138, 0x4d2c6dfc, 0x53380d13, 0x650a7354, 0x766a0abb, 0x81c2c92e, 0x92722c85,
  0xa2bfe8a1, 0xa81a664b, 0xc24b8b70, 0xc76c51a3, 0xd192e819, 0xd6990624, 0xf40e3585, 0x106aa070,
  0x19a4c116, 0x1e376c08, 0x2748774c, 0x34b0bcb5, 0x391c0cb3, 0x4ed8aa4a, 0x5b9cca4f, 0x682e6ff3,
  0x748f82ee, 0x78a5636f, 0x84c87814, 0x8cc70208, 0x90befffa, 0xa4506ceb, 0xbef9a3f7, 0xc67178f2]

/-- A block, into eight words. -/
def blk (h b : List Nat) : List Nat := addW (roundsN words64 (sched b) 64 0 h) h
/-- n blocks of bytes, one behind the other. -/
def blks : Nat → List Nat → List Nat → List Nat
  | 0, h, _ => h
  | n + 1, h, b => blks n (blk h (b.take 64)) (b.drop 64)

/-- What follows a text of n bytes. -/
def tailOf (n : Nat) : List Nat := 128 :: (List.replicate ((119 - n % 64) % 64) 0 ++ (List.range 8).map fun i => (n * 8) >>> (8 * (7 - i)) % 256)
def padded (b : List Nat) : List Nat := b ++ tailOf b.length
/-- How many blocks a text of n bytes has, followed so. -/
def nblk (n : Nat) : Nat := (n + 72) / 64

/-- The hash. -/
def sha (b : List Nat) : List Nat := (List.range 32).map fun i => (blks (nblk b.length) first8 (padded b)).getD (i / 4) 0 >>> (24 - i % 4 * 8) % 256

theorem sha_abc : sha [97, 98, 99] = [0xba, 0x78, 0x16, 0xbf, 0x8f, 0x01, 0xcf, 0xea, 0x41, 0x41, 0x40, 0xde, 0x5d, 0xae, 0x22, 0x23, 0xb0, 0x03, 0x61, 0xa3, 0x96, 0x17, 0x7a, 0x9c, 0xb4, 0x10, 0xff, 0x61, 0xf2, 0x00, 0x15, 0xad] := by kernel_rfl

theorem tailOf_length (n : Nat) : (tailOf n).length = 64 * nblk n - n := by
  unfold tailOf nblk
  simp
  omega

theorem padded_length (b : List Nat) : (padded b).length = 64 * nblk b.length := by
  rw [padded, List.length_append, tailOf_length]
  unfold nblk
  omega

/-- Blocks behind blocks. -/
theorem blks_add : ∀ (m n : Nat) (h b : List Nat), blks (m + n) h b = blks n (blks m h b) (b.drop (64 * m))
  | 0, n, h, b => by simp [blks]
  | m + 1, n, h, b => by
    rw [Nat.add_right_comm, blks, blks_add m n, List.drop_drop, blks]
    congr 2
    omega

/-- Blocks look at their own bytes alone. -/
theorem blks_take : ∀ (m : Nat) (h b : List Nat) (k : Nat), 64 * m ≤ k → blks m h (b.take k) = blks m h b
  | 0, _, _, _, _ => rfl
  | m + 1, h, b, k, hk => by
    rw [blks, blks, List.take_take, Nat.min_eq_left (by omega), List.drop_take, blks_take m _ _ (k - 64) (by omega)]

theorem blks_append (m : Nat) (h a b : List Nat) (ha : 64 * m ≤ a.length) : blks m h (a ++ b) = blks m h a := by
  rw [← blks_take m h (a ++ b) a.length ha, List.take_left]

/-- A text's full blocks, then what is left and what follows: the whole. -/
theorem sha_parts (b : List Nat) : blks (nblk b.length) first8 (padded b) = blks (nblk b.length - b.length / 64) (blks (b.length / 64) first8 b) (b.drop (64 * (b.length / 64)) ++ tailOf b.length) := by
  have hle : 64 * (b.length / 64) ≤ b.length := Nat.mul_div_le _ _
  have hn : b.length / 64 ≤ nblk b.length := by unfold nblk; omega
  have e : nblk b.length = b.length / 64 + (nblk b.length - b.length / 64) := by omega
  conv => lhs; rw [e]
  rw [blks_add, padded, blks_append _ _ _ _ hle, List.drop_append_of_le_length hle]

/-- More bytes: the blocks that they fill. -/
theorem blks_more (a b : List Nat) (h : List Nat) : blks ((a ++ b).length / 64) h (a ++ b) = blks ((a ++ b).length / 64 - a.length / 64) (blks (a.length / 64) h a) (a.drop (64 * (a.length / 64)) ++ b) := by
  have hle : 64 * (a.length / 64) ≤ a.length := Nat.mul_div_le _ _
  have hl : (a ++ b).length = a.length + b.length := List.length_append
  have e : (a ++ b).length / 64 = a.length / 64 + ((a ++ b).length / 64 - a.length / 64) := by rw [hl]; omega
  conv => lhs; rw [e]
  rw [blks_add, blks_append _ _ _ _ hle, List.drop_append_of_le_length hle]

/-! ### Bounds -/
theorem rot_lt {x n : Nat} (h : x < 4294967296) : rot x n < 4294967296 :=
  Nat.or_lt_two_pow (n := 32) (Nat.lt_of_le_of_lt (by rw [Nat.shiftRight_eq_div_pow]; exact Nat.div_le_self _ _) h) (Nat.mod_lt _ (by omega))
theorem shr_lt {x n : Nat} (h : x < 4294967296) : x >>> n < 4294967296 := Nat.lt_of_le_of_lt (by rw [Nat.shiftRight_eq_div_pow]; exact Nat.div_le_self _ _) h
theorem xor_lt {x y : Nat} (h : x < 4294967296) (k : y < 4294967296) : x ^^^ y < 4294967296 := Nat.xor_lt_two_pow (n := 32) h k
theorem and_lt {x y : Nat} (k : y < 4294967296) : x &&& y < 4294967296 := Nat.and_lt_two_pow (n := 32) x k
theorem sig0_lt {x : Nat} (h : x < 4294967296) : sig0 x < 4294967296 := xor_lt (xor_lt (rot_lt h) (rot_lt h)) (shr_lt h)
theorem sig1_lt {x : Nat} (h : x < 4294967296) : sig1 x < 4294967296 := xor_lt (xor_lt (rot_lt h) (rot_lt h)) (shr_lt h)
theorem Sig0_lt {x : Nat} (h : x < 4294967296) : Sig0 x < 4294967296 := xor_lt (xor_lt (rot_lt h) (rot_lt h)) (rot_lt h)
theorem Sig1_lt {x : Nat} (h : x < 4294967296) : Sig1 x < 4294967296 := xor_lt (xor_lt (rot_lt h) (rot_lt h)) (rot_lt h)
theorem cho_lt {x y z : Nat} (hy : y < 4294967296) (hz : z < 4294967296) : cho x y z < 4294967296 := xor_lt (and_lt hy) (and_lt hz)
theorem maj_lt {x y z : Nat} (hy : y < 4294967296) (hz : z < 4294967296) : maj x y z < 4294967296 := xor_lt (xor_lt (and_lt hy) (and_lt hz)) (and_lt hz)
theorem nextW_lt (ws : List Nat) (i : Nat) : nextW ws i < 4294967296 := Nat.mod_lt _ (by omega)

/-- All are words. -/
def Words (l : List Nat) : Prop := ∀ x ∈ l, x < 4294967296
theorem Words.getD {l : List Nat} (h : Words l) (i : Nat) : l.getD i 0 < 4294967296 := by
  rw [List.getD_eq_getElem?_getD]
  cases e : l[i]? with
  | none => simp
  | some x => exact h x (List.mem_of_getElem? e)
theorem moreW_words : ∀ (n : Nat) (ws : List Nat), Words ws → Words (moreW n ws)
  | 0, _, h => h
  | n + 1, ws, h => moreW_words n _ (fun x hx => by
    rcases List.mem_append.1 hx with hx | hx
    · exact h x hx
    · rw [List.mem_singleton.1 hx]; exact nextW_lt _ _)
theorem moreW_length : ∀ (n : Nat) (ws : List Nat), (moreW n ws).length = ws.length + n
  | 0, _ => rfl
  | n + 1, ws => by rw [moreW, moreW_length n, List.length_append]; simp; omega
theorem wordAt_lt {b : List Nat} (h : ∀ x ∈ b, x < 256) (i : Nat) : wordAt b i < 4294967296 := by
  have g : ∀ j, b.getD j 0 < 256 := fun j => by
    rw [List.getD_eq_getElem?_getD]
    cases e : b[j]? with
    | none => simp
    | some x => exact h x (List.mem_of_getElem? e)
  have h0 := g (4 * i)
  have h1 := g (4 * i + 1)
  have h2 := g (4 * i + 2)
  have h3 := g (4 * i + 3)
  unfold wordAt
  omega
theorem sched_words {b : List Nat} (h : ∀ x ∈ b, x < 256) : Words (sched b) := moreW_words _ _ (fun x hx => by
  obtain ⟨i, _, rfl⟩ := List.mem_map.1 hx
  exact wordAt_lt h i)
theorem sched_length (b : List Nat) : (sched b).length = 64 := by rw [sched, moreW_length]; simp
theorem round1_words {v : List Nat} (h : Words v) (k w : Nat) : Words (round1 v k w) := by
  intro x hx
  simp only [round1, List.mem_cons, List.not_mem_nil, or_false] at hx
  rcases hx with rfl | rfl | rfl | rfl | rfl | rfl | rfl | rfl
  · exact Nat.mod_lt _ (by omega)
  · exact h.getD _
  · exact h.getD _
  · exact h.getD _
  · exact Nat.mod_lt _ (by omega)
  · exact h.getD _
  · exact h.getD _
  · exact h.getD _
theorem round1_length (v : List Nat) (k w : Nat) : (round1 v k w).length = 8 := rfl
theorem addW_words (v h : List Nat) : Words (addW v h) := fun x hx => by
  obtain ⟨i, _, rfl⟩ := List.mem_map.1 hx
  exact Nat.mod_lt _ (by omega)
theorem addW_length (v h : List Nat) : (addW v h).length = 8 := by simp [addW]
theorem first8_words : Words first8 := by unfold Words; decide
theorem words64_words : Words words64 := by unfold Words; decide
theorem blks_words : ∀ (n : Nat) (h b : List Nat), Words h → h.length = 8 → Words (blks n h b) ∧ (blks n h b).length = 8
  | 0, _, _, h, k => ⟨h, k⟩
  | n + 1, _, _, _, _ => blks_words n _ _ (addW_words _ _) (addW_length _ _)

/-! ### How many noughts follow -/
theorem noughts (n : Nat) : (n + 1 + (119 - n % 64) % 64) % 64 = 56 := by omega
theorem noughts_before (n k : Nat) (h : k < (119 - n % 64) % 64) : (n + 1 + k) % 64 ≠ 56 := by omega

/-! ### The words of primes -/
def primes64 : List Nat := [2, 3, 5, 7, 11, 13, 17, 19, 23, 29, 31, 37, 41, 43, 47, 53, 59, 61, 67, 71, 73, 79, 83, 89, 97, 101, 103, 107, 109, 113, 127, 131, 137, 139, 149, 151, 157, 163, 167, 173, 179, 181, 191, 193, 197, 199, 211, 223, 227, 229, 233, 239, 241, 251, 257, 263, 269, 271, 277, 281, 283, 293, 307, 311]
/-- The roots of p * 2 ^ 64, of the first eight. -/
def roots2 : List Nat := [6074000999, 7439101573, 9603838834, 11363415354, 14244795007, 15485724812, 17708603819, 18721328409]
/-- The cube roots of p * 2 ^ 96. -/
def roots3 : List Nat := [5411319704, 6194414737, 7344290767, 8215976869, 9551921755, 10098905585, 11043570340, 11460697813, 12214315672, 13195500289, 13492127166, 14311783875, 14809980276, 15046980094, 15499789991, 16133124468, 16720292289, 16907126662, 17444216262, 17784676812, 17950125167, 18429019306, 18734950876, 19175934170, 19734090066, 20001703533, 20132865992, 20390182855, 20516441075, 20764397895, 21588763473, 21813078375, 22141143685, 22248366392, 22769593852, 22871018771, 23170020180, 23461497531, 23651862830, 23931792517, 24205322401, 24295138891, 24734567280, 24820601251, 24990902297, 25075189284, 25569408389, 26045227120, 26200031510, 26276752392, 26428864332, 26653801653, 26727943347, 27092625994, 27306805839, 27517677555, 27725365998, 27793908591, 27997534228, 28131656200, 28198240250, 28526537963, 28973835255, 29099129074]
theorem roots2_are : ∀ i, i < 8 → roots2.getD i 0 ^ 2 ≤ primes64.getD i 0 * 2 ^ 64 ∧ primes64.getD i 0 * 2 ^ 64 < (roots2.getD i 0 + 1) ^ 2 ∧ roots2.getD i 0 % 4294967296 = first8.getD i 0 := by decide +kernel
theorem roots3_are : ∀ i, i < 64 → roots3.getD i 0 ^ 3 ≤ primes64.getD i 0 * 2 ^ 96 ∧ primes64.getD i 0 * 2 ^ 96 < (roots3.getD i 0 + 1) ^ 3 ∧ roots3.getD i 0 % 4294967296 = words64.getD i 0 := by decide +kernel
/-- A root is what it is: there is one number that fits last. -/
theorem root_one {k a b n : Nat} (ha : a ^ k ≤ n) (ha' : n < (a + 1) ^ k) (hb : b ^ k ≤ n) (hb' : n < (b + 1) ^ k) : a = b := by
  have h1 : a < b + 1 := Nat.lt_of_not_le (fun h => Nat.lt_irrefl _ (Nat.lt_of_lt_of_le hb' (Nat.le_trans (Nat.pow_le_pow_left h k) ha)))
  have h2 : b < a + 1 := Nat.lt_of_not_le (fun h => Nat.lt_irrefl _ (Nat.lt_of_lt_of_le ha' (Nat.le_trans (Nat.pow_le_pow_left h k) hb)))
  omega

/-! ### The 64 words, one by one -/
theorem getD_append_left {l m : List Nat} {i : Nat} (h : i < l.length) : (l ++ m).getD i 0 = l.getD i 0 := by
  rw [List.getD_eq_getElem?_getD, List.getD_eq_getElem?_getD, List.getElem?_append_left h]
theorem moreW_old : ∀ (n : Nat) (ws : List Nat) (i : Nat), i < ws.length → (moreW n ws).getD i 0 = ws.getD i 0
  | 0, _, _, _ => rfl
  | n + 1, ws, i, h => by rw [moreW, moreW_old n _ i (by rw [List.length_append]; omega), getD_append_left h]
theorem moreW_next : ∀ (n : Nat) (ws : List Nat) (i : Nat), 16 ≤ ws.length → ws.length ≤ i → i < ws.length + n → (moreW n ws).getD i 0 = nextW (moreW n ws) i
  | 0, ws, i, _, h1, h2 => by omega
  | n + 1, ws, i, h0, h1, h2 => by
    have hl : (ws ++ [nextW ws ws.length]).length = ws.length + 1 := by simp
    by_cases e : i = ws.length
    · subst e
      have o : ∀ j, j < ws.length → (moreW (n + 1) ws).getD j 0 = ws.getD j 0 := fun j hj => moreW_old (n + 1) ws j hj
      have e1 : (moreW (n + 1) ws).getD ws.length 0 = nextW ws ws.length := by
        rw [moreW, moreW_old n _ _ (by omega), List.getD_eq_getElem?_getD]
        simp
      rw [e1]
      unfold nextW
      rw [o _ (by omega), o _ (by omega), o _ (by omega), o _ (by omega)]
    · rw [moreW]
      exact moreW_next n _ i (by omega) (by omega) (by omega)
theorem sched_head (b : List Nat) (i : Nat) (h : i < 16) : (sched b).getD i 0 = wordAt b i := by
  rw [sched, moreW_old _ _ _ (by simpa using h), List.getD_eq_getElem?_getD]
  simp [h]
theorem sched_next (b : List Nat) (i : Nat) (h : 16 ≤ i) (h' : i < 64) : (sched b).getD i 0 = nextW (sched b) i := by
  rw [sched]
  exact moreW_next 48 _ i (by simp) (by simpa using h) (by simp; omega)

/-- Rounds, one more at the end. -/
theorem roundsN_snoc (ks ws : List Nat) : ∀ (n i : Nat) (v : List Nat), roundsN ks ws (n + 1) i v = round1 (roundsN ks ws n i v) (ks.getD (i + n) 0) (ws.getD (i + n) 0)
  | 0, i, v => rfl
  | n + 1, i, v => by
    rw [roundsN, roundsN_snoc ks ws n (i + 1), roundsN]
    rw [show i + 1 + n = i + (n + 1) by omega]
theorem roundsN_words (ks ws : List Nat) : ∀ (n i : Nat) (v : List Nat), Words v → v.length = 8 → Words (roundsN ks ws n i v) ∧ (roundsN ks ws n i v).length = 8
  | 0, _, _, h, k => ⟨h, k⟩
  | n + 1, _, _, h, _ => roundsN_words ks ws n _ _ (round1_words h _ _) (round1_length _ _ _)

/-! ### A row of words in memory -/
/-- Words lie at g, o. -/
def WordsAt (w : World) (g o : Nat) (ws : List Nat) : Prop := ∀ i, i < ws.length → w.cell? ⟨g, o + i, none⟩ = some (.int .u32 ((ws.getD i 0 : Nat) : Int))

theorem WordsAt.of_below {B : Nat} {w w' : World} {g o : Nat} {ws : List Nat} (h : WordsAt w g o ws) (hb : Below B w w') (hg : g < B) : WordsAt w' g o ws := fun i hi => (hb.cell (p := ⟨g, o + i, none⟩) hg).trans (h i hi)

theorem WordsAt.set {w : World} {g o : Nat} {ws : List Nat} (h : WordsAt w g o ws) (i x : Nat) (hi : i < ws.length) : WordsAt (w.setCell ⟨g, o + i, none⟩ (.int .u32 ((x : Nat) : Int))) g o (ws.set i x) := by
  intro j hj
  rw [List.length_set] at hj
  by_cases e : j = i
  · subst e
    rw [World.cell?_setCell_same _ _ _ (h j hj), List.getD_eq_getElem?_getD]
    simp [hj]
  · rw [World.cell?_setCell_other _ _ _ _ (by simp only [ne_eq, Addr.mk.injEq, true_and, and_true]; omega), h j hj, List.getD_eq_getElem?_getD, List.getD_eq_getElem?_getD, List.getElem?_set_ne (by omega)]

end Go.Proofs.Ytbmdnjmdehmahaa
