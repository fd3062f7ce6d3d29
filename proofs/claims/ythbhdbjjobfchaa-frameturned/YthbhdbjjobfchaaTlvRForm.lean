/-
  Plain mathematics: the form as the reference makes it is the form.
-/
import Derived.Test.YthbhdbjjobfchaaTlvTrip
namespace Go.Proofs.Ythbhdbjjobfchaa.Tlv

/-- A list's forms behind one another, as the reference puts them together. -/
def rformL {α : Type} (f : α → Option (List Int)) : List Int → List α → Option (List Int)
  | acc, [] => some acc
  | acc, k :: ks => match f k with
    | none => none
    | some x => if 65535 < acc.length then none else rformL f (acc ++ x) ks

/-- What is behind the first three bytes, as the reference makes it. -/
def rbody {n : Nat} (f : Tr n → Option (List Int)) (t : Tr (n + 1)) (deep : Nat) : Option (List Int) :=
  if t.hd.1 = 1 then (if t.hd.2.2 ≠ [] ∨ t.kd ≠ [] then none else some (numB (nsz t.hd.2.1).toNat t.hd.2.1))
  else if t.hd.1 = 2 then (if t.hd.2.1 ≠ 0 ∨ t.kd ≠ [] then none else some t.hd.2.2)
  else if t.hd.1 = 3 then (if t.hd.2.1 ≠ 0 ∨ t.hd.2.2 ≠ [] ∨ deep = 0 then none else rformL f [] t.kd)
  else none

/-- The form, as the reference makes it. -/
def rform : (n : Nat) → Tr n → Nat → Option (List Int)
  | 0, t, _ => by cases t
  | n + 1, t, deep => match rbody (fun k => rform n k (deep - 1)) t deep with
    | none => none
    | some b => if 65535 < b.length then none else some (t.hd.1 :: ((b.length : Int) / 256) :: ((b.length : Int) % 256) :: b)

theorem form_len (n : Nat) (t : Tr n) : (formOf n t).length = 3 + (bodyOf n t).length := by simp [formOf]; omega

theorem rformL_le {α : Type} {f : α → Option (List Int)} : ∀ (ks : List α) (acc r : List Int), rformL f acc ks = some r → acc.length ≤ r.length
  | [], acc, r, h => by simp only [rformL, Option.some.injEq] at h; subst h; exact Nat.le_refl _
  | k :: ks, acc, r, h => by
    simp only [rformL] at h
    split at h
    · simp at h
    · rename_i x hx
      split at h
      · simp at h
      · have := rformL_le ks _ _ h
        simp at this
        omega

theorem rformL_yes {n d : Nat} {f : Tr n → Option (List Int)} (hf : ∀ k, f k = if (bsz n k 65535 d).2 then some (formOf n k) else none) : ∀ (ks : List (Tr n)) (acc : List Int),
    (lszGo (bsz n) 65535 ((d : Int) + 1) acc.length ks).2 = true → rformL f acc ks = some (acc ++ (ks.map (formOf n)).flatten)
  | [], acc, _ => by simp [rformL]
  | k :: ks, acc, h => by
    simp only [lszGo] at h
    split at h
    · rename_i hk
      rw [show (d : Int) + 1 - 1 = d by omega] at hk h
      have hfit := bsz_fits _ _ _ _ hk
      have hlen := bsz_len _ _ _ _ hk
      have hk2 := bsz_mono n k _ 65535 d hk (by omega) (by omega)
      have hl := form_len n k
      simp only [rformL]
      rw [hf k, if_pos hk2]
      simp only
      have e : (((acc.length + (3 + (bodyOf n k).length) : Nat)) : Int) = (acc.length : Int) + (3 + (bsz n k (65535 - (acc.length : Int) - 3) d).1) := by omega
      rw [if_neg (by omega), rformL_yes hf ks (acc ++ formOf n k) (by rw [List.length_append, hl, e]; exact h)]
      simp
    · simp at h

theorem rformL_no {n d : Nat} {f : Tr n → Option (List Int)} (hf : ∀ k, f k = if (bsz n k 65535 d).2 then some (formOf n k) else none) : ∀ (ks : List (Tr n)) (acc r : List Int),
    rformL f acc ks = some r → r.length ≤ 65535 → (lszGo (bsz n) 65535 ((d : Int) + 1) acc.length ks).2 = true
  | [], _, _, _, _ => rfl
  | k :: ks, acc, r, h, hr => by
    simp only [rformL] at h
    rw [hf k] at h
    by_cases hk : (bsz n k 65535 d).2 = true
    · rw [if_pos hk] at h
      simp only at h
      split at h
      · simp at h
      · have hle := rformL_le ks _ _ h
        have ih := rformL_no hf ks _ _ h hr
        have hl := form_len n k
        rw [List.length_append, hl] at hle ih
        have hk2 := bsz_mono n k _ (65535 - (acc.length : Int) - 3) d hk (by omega) (by omega)
        have hlen := bsz_len _ _ _ _ hk2
        simp only [lszGo]
        rw [show (d : Int) + 1 - 1 = d by omega, if_pos hk2]
        have e : (((acc.length + (3 + (bodyOf n k).length) : Nat)) : Int) = (acc.length : Int) + (3 + (bsz n k (65535 - (acc.length : Int) - 3) d).1) := by omega
        rw [← e]
        exact ih
    · rw [if_neg hk] at h
      simp at h

theorem rform_eq : ∀ (n : Nat) (t : Tr n) (d : Nat), rform n t d = if (bsz n t 65535 d).2 then some (formOf n t) else none
  | 0, t, _ => by cases t
  | n + 1, t, d => by
    have fin : ∀ b, bodyOf (n + 1) t = b → (t.hd.1 :: ((b.length : Int) / 256) :: ((b.length : Int) % 256) :: b) = formOf (n + 1) t := by
      intro b e
      simp only [formOf]
      rw [e]
    by_cases ho : oeB t.hd.1 t.hd.2.1 t.hd.2.2.length t.kd.length = true
    · obtain ⟨o1, o2, o3⟩ := oeB_iff.1 ho
      have hbs : t.hd.1 ≠ 2 → t.hd.2.2 = [] := fun h => List.eq_nil_of_length_eq_zero (by omega)
      have hkd : t.hd.1 ≠ 3 → t.kd = [] := fun h => List.eq_nil_of_length_eq_zero (by omega)
      rw [bsz_yes (by omega) ho]
      simp only [rform, rbody]
      by_cases h1 : t.hd.1 = 1
      · rw [if_pos h1, if_pos h1, if_neg (by simp [hbs (by omega), hkd (by omega)])]
        have hb := bodyOf_1 h1
        have := nsz_bd t.hd.2.1
        simp only
        rw [if_neg (by rw [numB_length]; omega), fin _ hb, if_pos (by simp; omega)]
      · rw [if_neg h1, if_neg h1]
        by_cases h2 : t.hd.1 = 2
        · rw [if_pos h2, if_pos h2, if_neg (by simp [hkd (by omega)]; omega)]
          have hb := bodyOf_2 h2
          simp only
          rw [fin _ hb]
          by_cases hl : 65535 < t.hd.2.2.length
          · rw [if_pos hl, if_neg (by simp; omega)]
          · rw [if_neg hl, if_pos (by simp; omega)]
        · rw [if_neg h2, if_neg h2]
          by_cases h3 : t.hd.1 = 3
          · rw [if_pos h3, if_pos h3]
            unfold lsz
            by_cases hd : d = 0
            · subst hd
              simp
            · rw [if_neg (by simp [hbs (by omega), hd]; omega), if_neg (show ¬ ((d : Int) = 0) by omega)]
              obtain ⟨d', rfl⟩ : ∃ d', d = d' + 1 := ⟨d - 1, by omega⟩
              have hb := bodyOf_kids h3
              have hf : ∀ k, (fun k => rform n k (d' + 1 - 1)) k = if (bsz n k 65535 d').2 then some (formOf n k) else none := fun k => rform_eq n k d'
              have hcast : (((d' + 1 : Nat)) : Int) = (d' : Int) + 1 := by omega
              rw [hcast]
              by_cases hg : (lszGo (bsz n) 65535 ((d' : Int) + 1) 0 t.kd).2 = true
              · rw [if_pos hg, rformL_yes hf t.kd [] hg]
                have hbd := lszGo_bd (bsz_fits n) 65535 ((d' : Int) + 1) t.kd 0 (by omega) (by omega) hg
                have hln := (lszGo_len (bsz_len n) 65535 ((d' : Int) + 1) t.kd 0 hg).1
                simp only [List.nil_append]
                rw [if_neg (by omega), fin _ hb]
              · rw [if_neg hg]
                split
                · rfl
                · rename_i r hr
                  by_cases hl : 65535 < r.length
                  · rw [if_pos hl]
                  · exact absurd (rformL_no hf t.kd [] r hr (by omega)) hg
          · rw [if_neg h3, if_neg h3]
            rfl
    · have ho' : oeB t.hd.1 t.hd.2.1 t.hd.2.2.length t.kd.length = false := by simpa using ho
      rw [bsz_no (.inr ho'), if_neg (by simp)]
      have hno : ¬ ((t.hd.1 = 1 ∨ t.hd.2.1 = 0) ∧ (t.hd.1 = 2 ∨ t.hd.2.2.length = 0) ∧ (t.hd.1 = 3 ∨ t.kd.length = 0)) := fun h => ho (oeB_iff.2 h)
      have hb0 : t.hd.2.2 = [] ↔ t.hd.2.2.length = 0 := List.length_eq_zero_iff.symm
      have hk0 : t.kd = [] ↔ t.kd.length = 0 := List.length_eq_zero_iff.symm
      have : rbody (fun k => rform n k (d - 1)) t d = none := by
        unfold rbody
        split
        · rw [if_pos (by rw [ne_eq, ne_eq, hb0, hk0]; omega)]
        · split
          · rw [if_pos (by rw [ne_eq, ne_eq, hk0]; omega)]
          · split
            · rw [if_pos (by rw [ne_eq, ne_eq, hb0]; omega)]
            · rfl
      simp only [rform]
      rw [this]

end Go.Proofs.Ythbhdbjjobfchaa.Tlv
