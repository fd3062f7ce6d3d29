/-
  The hash of a hash's text is the hash.
-/
import Derived.Test.YtbmdnjmdehmahaaRText
import Derived.Test.YtbmdnjmdehmahaaRParse
namespace Go.Proofs.Ytbmdnjmdehmahaa
open Go.RowKit

theorem dgt_hexd (k : Nat) (h : k < 16) : dgt (hexd k) = k := by
  unfold dgt hexd
  split
  · rw [if_pos (by omega)]
    omega
  · rw [if_neg (by omega), if_pos (by omega)]
    omega
theorem hexOf_even (a : List Nat) (j : Nat) (h : j < a.length) : (hexOf a).getD (2 * j) 0 = hexd (a.getD j 0 / 16) ∧ (hexOf a).getD (2 * j + 1) 0 = hexd (a.getD j 0 % 16) := by
  induction a generalizing j with
  | nil => simp at h
  | cons x xs ih =>
    have e : hexOf (x :: xs) = hexd (x / 16) :: hexd (x % 16) :: hexOf xs := by simp [hexOf]
    cases j with
    | zero => simp [e]
    | succ j =>
      have k := ih j (by simpa using h)
      rw [e, show 2 * (j + 1) = (2 * j) + 1 + 1 by omega, show 2 * j + 1 + 1 + 1 = (2 * j + 1) + 1 + 1 by omega]
      simpa using k
theorem byt_strB (l : List Nat) (i : Nat) (hi : i < l.length) (hl : ∀ x ∈ l, x < 256) : byt (strB l) i = l.getD i 0 := by
  have := hl l[i] (List.getElem_mem hi)
  simp [byt, strB, List.getElem?_eq_getElem hi]
  omega
theorem strB_size (l : List Nat) : (strB l).size = l.length := by
  show (l.map Nat.toUInt8).toArray.size = l.length
  simp

theorem dig_even (a : List Nat) (h32 : a.length = 32) (hw : ∀ x ∈ a, x < 256) (j : Nat) (hj : j < 32) : dgt (byt (strB (hexOf a)) (2 * j)) = a.getD j 0 / 16 ∧ dgt (byt (strB (hexOf a)) (2 * j + 1)) = a.getD j 0 % 16 := by
  have hl : (hexOf a).length = 64 := by rw [hexOf_length, h32]
  have hb : a.getD j 0 < 256 := getD_lt hw j
  obtain ⟨e1, e2⟩ := hexOf_even a j (by omega)
  rw [byt_strB _ _ (by omega) (hexOf_lt a hw), byt_strB _ _ (by omega) (hexOf_lt a hw), e1, e2, dgt_hexd _ (by omega), dgt_hexd _ (by omega)]
  exact ⟨rfl, rfl⟩
theorem pk_trip (a : List Nat) (h32 : a.length = 32) (hw : ∀ x ∈ a, x < 256) : ∀ j, j ≤ 32 → pk (fun i => dgt (byt (strB (hexOf a)) i)) (2 * j) = a.take j ++ List.replicate (32 - j) 0
  | 0, _ => by simp [pk]
  | j + 1, h => by
    have ih := pk_trip a h32 hw j (by omega)
    obtain ⟨d1, d2⟩ := dig_even a h32 hw j (by omega)
    have hb : a.getD j 0 < 256 := getD_lt hw j
    have hlt : (a.take j).length = j := by rw [List.length_take]; omega
    have hr : List.replicate (32 - j) 0 = 0 :: List.replicate (32 - (j + 1)) 0 := by rw [show 32 - j = (32 - (j + 1)) + 1 by omega, List.replicate_succ]
    have ht : a.take (j + 1) = a.take j ++ [a.getD j 0] := by
      rw [List.take_succ_eq_append_getElem (by omega)]
      simp [List.getElem?_eq_getElem (show j < a.length by omega)]
    generalize a.getD j 0 = c at *
    rw [show 2 * (j + 1) = 2 * j + 1 + 1 by omega, pk_next, pk_next, ih, show (2 * j + 1) / 2 = j by omega, show 2 * j / 2 = j by omega]
    simp only [d1, d2]
    rw [hr, ht]
    have s1 : ∀ (y z : Nat) (r : List Nat), (a.take j ++ y :: r).set j z = a.take j ++ z :: r := fun y z r => by
      rw [List.set_append_right _ _ (by omega), hlt, Nat.sub_self]
      rfl
    have g1 : ∀ (y : Nat) (r : List Nat), (a.take j ++ y :: r).getD j 0 = y := fun y r => by
      rw [List.getD_eq_getElem?_getD, List.getElem?_append_right (by omega), hlt, Nat.sub_self]
      rfl
    rw [g1, s1, g1, s1, List.append_assoc]
    congr 2
    omega
theorem parse_trip (a : List Nat) (h32 : a.length = 32) (hw : ∀ x ∈ a, x < 256) : parseOf (strB (hexOf a)) = (a, 0) := by
  rw [parse_good (by rw [strB_size, hexOf_length, h32])]
  · have h := pk_trip a h32 hw 32 (Nat.le_refl _)
    rw [h, List.take_of_length_le (by omega)]
    simp
  · intro i hi
    obtain ⟨d1, d2⟩ := dig_even a h32 hw (i / 2) (by omega)
    have hb : a.getD (i / 2) 0 < 256 := getD_lt hw (i / 2)
    by_cases e : i % 2 = 0
    · rw [show 2 * (i / 2) = i by omega] at d1
      omega
    · rw [show 2 * (i / 2) + 1 = i by omega] at d2
      omega
theorem parse_cases (s : ByteArray) : parseOf s = (pk (fun i => dgt (byt s i)) 64, 0) ∨ parseOf s = (List.replicate 32 0, 3) := by
  unfold parseOf
  split
  · exact .inl rfl
  · exact .inr rfl
theorem parse_length (s : ByteArray) : (parseOf s).1.length = 32 := by
  rcases parse_cases s with h | h <;> rw [h]
  · dsimp only
    rw [pk_length]
  · simp
theorem parse_lt (s : ByteArray) : ∀ x ∈ (parseOf s).1, x < 256 := by
  rcases parse_cases s with h | h <;> rw [h]
  · dsimp only
    intro x hx
    exact pk_lt _ _ x hx
  · intro x hx
    obtain ⟨_, rfl⟩ := List.mem_replicate.1 hx
    decide
theorem parse_fault (s : ByteArray) : (parseOf s).2 = 0 ∨ (parseOf s).2 = 3 := by
  rcases parse_cases s with h | h <;> rw [h]
  · exact .inl rfl
  · exact .inr rfl
end Go.Proofs.Ytbmdnjmdehmahaa
