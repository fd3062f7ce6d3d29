/-
  Plain mathematics: a tree's form.
-/
import Derived.Test.YthbhdbjjobfchaaTlvPlain
namespace Go.Proofs.Ythbhdbjjobfchaa.Tlv

/-- The k lowest bytes of x, the highest first. -/
def numB : Nat → Int → List Int
  | 0, _ => []
  | k + 1, x => (x / 256 ^ k % 256) :: numB k x

theorem numB_length : ∀ k x, (numB k x).length = k
  | 0, _ => rfl
  | k + 1, x => by simp [numB, numB_length k x]

/-- What is behind the first three bytes of a form. -/
def bodyOf : (n : Nat) → Tr n → List Int
  | 0, t => by cases t
  | n + 1, t =>
    if t.hd.1 = 1 then numB (nsz t.hd.2.1).toNat t.hd.2.1
    else if t.hd.1 = 2 then t.hd.2.2
    else if t.hd.1 = 3 then (t.kd.map fun k => k.hd.1 :: ((bodyOf n k).length / 256 : Int) :: ((bodyOf n k).length % 256 : Int) :: bodyOf n k).flatten
    else []

/-- A tree's form. -/
def formOf (n : Nat) (t : Tr n) : List Int := t.hd.1 :: ((bodyOf n t).length / 256 : Int) :: ((bodyOf n t).length % 256 : Int) :: bodyOf n t

theorem bodyOf_kids {n : Nat} {t : Tr (n + 1)} (h : t.hd.1 = 3) : bodyOf (n + 1) t = (t.kd.map (formOf n)).flatten := by
  simp only [bodyOf]
  rw [if_neg (by omega), if_neg (by omega), if_pos h]
  rfl

/-- t is right, as far as 'room' goes. -/
def Rt (n : Nat) (t : Tr n) (room : Int) : Prop := ∃ deep, (bsz n t room deep).2 = true

theorem lszGo_len {n : Nat} (hn : ∀ (t : Tr n) room deep, (bsz n t room deep).2 = true → (bsz n t room deep).1 = ((bodyOf n t).length : Int)) (room deep : Int) (ks : List (Tr n)) : ∀ acc,
    (lszGo (bsz n) room deep acc ks).2 = true → (lszGo (bsz n) room deep acc ks).1 = acc + (((ks.map (formOf n)).flatten).length : Int) ∧ ∀ k ∈ ks, ∃ r, r ≤ room - acc - 3 ∧ Rt n k r := by
  induction ks with
  | nil => intro acc _; simp [lszGo]
  | cons k ks ih =>
    intro acc h2
    simp only [lszGo] at h2 ⊢
    split at h2
    · rename_i hk
      rw [if_pos hk]
      have b := bsz_fits n k _ _ hk
      have e := hn k _ _ hk
      have := ih _ h2
      refine ⟨?_, ?_⟩
      · rw [this.1, e]
        simp [formOf]
        omega
      · intro k' hk'
        rcases List.mem_cons.1 hk' with rfl | hk'
        · exact ⟨_, Int.le_refl _, _, hk⟩
        · obtain ⟨r, h1, h2⟩ := this.2 k' hk'
          exact ⟨r, by omega, h2⟩
    · simp at h2

theorem bsz_len : ∀ n (t : Tr n) room deep, (bsz n t room deep).2 = true → (bsz n t room deep).1 = ((bodyOf n t).length : Int)
  | 0, t, _, _, _ => by cases t
  | n + 1, t, room, deep, h => by
    simp only [bsz] at h ⊢
    split at h
    · simp at h
    · rename_i h0
      rw [if_neg h0]
      split at h
      · rename_i h1
        rw [if_pos h1]
        simp only [bodyOf]
        rw [if_pos h1, numB_length]
        have := nsz_bd t.hd.2.1
        omega
      · rename_i h1
        rw [if_neg h1]
        split at h
        · rename_i h2
          rw [if_pos h2]
          simp only [bodyOf]
          rw [if_neg h1, if_pos h2]
        · rename_i h2
          rw [if_neg h2]
          split at h
          · rename_i h3
            rw [if_pos h3, bodyOf_kids h3]
            unfold lsz at h ⊢
            split at h
            · simp at h
            · rename_i h4
              rw [if_neg h4]
              have := (lszGo_len (bsz_len n) room deep _ 0 h).1
              omega
          · simp at h

/-- What is right has a tag from 1 to 3, no more bytes than the room, and in it what is right. -/
theorem Rt.facts {n : Nat} {t : Tr (n + 1)} {room : Int} (h : Rt (n + 1) t room) : 0 ≤ room ∧ ((bodyOf (n + 1) t).length : Int) ≤ room ∧ (t.hd.1 = 1 ∨ t.hd.1 = 2 ∨ t.hd.1 = 3) ∧ (t.hd.1 = 3 → ∀ k ∈ t.kd, ∃ r, r ≤ room - 3 ∧ Rt n k r) := by
  obtain ⟨deep, h⟩ := h
  have hf := bsz_fits _ _ _ _ h
  have hl := bsz_len _ _ _ _ h
  refine ⟨by omega, by omega, ?_⟩
  simp only [bsz] at h
  split at h
  · simp at h
  · split at h
    · rename_i h1; exact ⟨.inl h1, fun e => by omega⟩
    · split at h
      · rename_i h1; exact ⟨.inr (.inl h1), fun e => by omega⟩
      · split at h
        · rename_i h3
          refine ⟨.inr (.inr h3), fun _ k hk => ?_⟩
          unfold lsz at h
          split at h
          · simp at h
          · obtain ⟨r, h1, h2⟩ := (lszGo_len (bsz_len n) room deep _ 0 h).2 k hk
            exact ⟨r, by omega, h2⟩
        · simp at h

end Go.Proofs.Ythbhdbjjobfchaa.Tlv
