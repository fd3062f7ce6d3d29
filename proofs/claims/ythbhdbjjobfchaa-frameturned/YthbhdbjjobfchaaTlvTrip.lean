/-
  Plain mathematics: a right tree's form is read as that tree, whatever is behind it; and bytes that are read are the form of what they are read as.
-/
import Derived.Test.YthbhdbjjobfchaaTlvPutTop
import Derived.Test.YthbhdbjjobfchaaTlvReadList
namespace Go.Proofs.Ythbhdbjjobfchaa.Tlv

/-- Lists whose members are the same, one by one. -/
def sameL {α β : Type} (f : α → β → Bool) : List α → List β → Bool
  | [], [] => true
  | a :: xs, b :: ys => f a b && sameL f xs ys
  | _, _ => false

/-- Trees that are the same, however deep they may be. -/
def sameT : (n : Nat) → Tr n → (m : Nat) → Tr m → Bool
  | 0, t, _, _ => by cases t
  | _ + 1, _, 0, u => by cases u
  | n + 1, t, m + 1, u => decide (t.hd = u.hd) && sameL (fun a b => sameT n a m b) t.kd u.kd

theorem sameL_len {α β : Type} {f : α → β → Bool} : ∀ {xs : List α} {ys : List β}, sameL f xs ys = true → xs.length = ys.length
  | [], [], _ => rfl
  | [], _ :: _, h => by simp [sameL] at h
  | _ :: _, [], h => by simp [sameL] at h
  | _ :: _, _ :: _, h => by simp only [sameL, Bool.and_eq_true] at h; simp [sameL_len h.2]

theorem sameT_eucl : ∀ (d : Nat) (x : Tr d) (n : Nat) (t : Tr n) (m : Nat) (u : Tr m), sameT d x n t = true → sameT d x m u = true → sameT n t m u = true
  | 0, x, _, _, _, _, _, _ => by cases x
  | _ + 1, _, 0, t, _, _, _, _ => by cases t
  | _ + 1, _, _ + 1, _, 0, u, _, _ => by cases u
  | d + 1, x, n + 1, t, m + 1, u, h1, h2 => by
    simp only [sameT, Bool.and_eq_true, decide_eq_true_eq] at h1 h2 ⊢
    refine ⟨h1.1.symm.trans h2.1, ?_⟩
    have go : ∀ (xs : List (Tr d)) (ts : List (Tr n)) (us : List (Tr m)), sameL (fun a b => sameT d a n b) xs ts = true → sameL (fun a b => sameT d a m b) xs us = true → sameL (fun a b => sameT n a m b) ts us = true := by
      intro xs
      induction xs with
      | nil => intro ts us h1 h2; cases ts <;> cases us <;> simp_all [sameL]
      | cons y xs ih =>
        intro ts us h1 h2
        cases ts with
        | nil => simp [sameL] at h1
        | cons t ts =>
          cases us with
          | nil => simp [sameL] at h2
          | cons u us =>
            simp only [sameL, Bool.and_eq_true] at h1 h2 ⊢
            exact ⟨sameT_eucl d y n t m u h1.1 h2.1, ih ts us h1.2 h2.2⟩
    exact go _ _ _ h1.2 h2.2

theorem sameT_refl : ∀ (n : Nat) (t : Tr n), sameT n t n t = true
  | 0, t => by cases t
  | n + 1, t => by
    simp only [sameT, decide_true, Bool.true_and]
    have go : ∀ xs : List (Tr n), sameL (fun a b => sameT n a n b) xs xs = true := by
      intro xs
      induction xs with
      | nil => rfl
      | cons y xs ih => simp [sameL, sameT_refl n y, ih]
    exact go _

theorem sameT_symm {n m : Nat} {t : Tr n} {u : Tr m} (h : sameT n t m u = true) : sameT m u n t = true := sameT_eucl n t m u n t h (sameT_refl n t)

theorem sameT_form : ∀ (n : Nat) (t : Tr n) (m : Nat) (u : Tr m), sameT n t m u = true → formOf n t = formOf m u
  | 0, t, _, _, _ => by cases t
  | _ + 1, _, 0, u, _ => by cases u
  | n + 1, t, m + 1, u, h => by
    simp only [sameT, Bool.and_eq_true, decide_eq_true_eq] at h
    have go : ∀ (ts : List (Tr n)) (us : List (Tr m)), sameL (fun a b => sameT n a m b) ts us = true → ts.map (formOf n) = us.map (formOf m) := by
      intro ts
      induction ts with
      | nil => intro us h; cases us <;> simp_all [sameL]
      | cons t ts ih =>
        intro us h
        cases us with
        | nil => simp [sameL] at h
        | cons u us =>
          simp only [sameL, Bool.and_eq_true] at h
          simp [sameT_form n t m u h.1, ih us h.2]
    have hk := go _ _ h.2
    have hb : bodyOf (n + 1) t = bodyOf (m + 1) u := by
      by_cases h3 : t.hd.1 = 3
      · rw [bodyOf_kids h3, bodyOf_kids (by rw [← h.1]; exact h3), hk]
      · rw [h.1] at h3
        simp only [bodyOf, h.1, h3, if_false]
    simp only [formOf]
    rw [hb, h.1]

/-- Numbers that fit. -/
def NumOk : (n : Nat) → Tr n → Prop
  | 0, _ => True
  | n + 1, t => 0 ≤ t.hd.2.1 ∧ t.hd.2.1 ≤ 18446744073709551615 ∧ ∀ k ∈ t.kd, NumOk n k

theorem Rep.numOk {L B : Nat} {w : World} : ∀ {n : Nat} {t : Tr n} {sb sk : Value}, Rep L B w n t sb sk → NumOk n t
  | 0, t, _, _, _ => by cases t
  | n + 1, t, _, _, h => by
    obtain ⟨h0, h1, _, hks⟩ := h
    refine ⟨h0, h1, fun k hk => ?_⟩
    obtain ⟨j, hj⟩ := List.getElem?_of_mem hk
    obtain ⟨_, _, _, _, _, _, _, h7⟩ := hks
    obtain ⟨b, o, _, _, _, hc⟩ := h7 (by intro e; rw [e] at hj; simp at hj)
    obtain ⟨sb', sk', _, _, _, _, hrep⟩ := hc j k hj
    exact hrep.numOk

theorem bl_zero (f : Nat) : Lib.bitLenAux f 0 = 0 := by cases f <;> simp [Lib.bitLenAux]

theorem bl_bounds : ∀ (f x : Nat), x < 2 ^ f → x ≠ 0 → 1 ≤ Lib.bitLenAux f x ∧ 2 ^ (Lib.bitLenAux f x - 1) ≤ x ∧ x < 2 ^ Lib.bitLenAux f x := by
  intro f
  induction f with
  | zero => intro x h h0; simp at h; omega
  | succ f ih =>
    intro x h h0
    simp only [Lib.bitLenAux]
    rw [if_neg h0]
    by_cases h2 : x / 2 = 0
    · rw [h2, bl_zero]
      simp
      omega
    · obtain ⟨a, b, c⟩ := ih (x / 2) (by rw [Nat.pow_succ] at h; omega) h2
      obtain ⟨k, hk⟩ : ∃ k, Lib.bitLenAux f (x / 2) = k + 1 := ⟨Lib.bitLenAux f (x / 2) - 1, by omega⟩
      rw [hk] at b c ⊢
      simp only [Nat.add_sub_cancel] at b
      refine ⟨by omega, ?_, ?_⟩
      · rw [show 1 + (k + 1) - 1 = k + 1 by omega, Nat.pow_succ]; omega
      · rw [show 1 + (k + 1) = k + 1 + 1 by omega, Nat.pow_succ]; omega

theorem p256 (k : Nat) : (256 : Int) ^ k = ((2 ^ (8 * k) : Nat) : Int) := by
  rw [Nat.pow_mul]
  simp

/-- How many bytes a number has. -/
theorem nsz_spec (x : Int) (h0 : 0 ≤ x) (h1 : x ≤ 18446744073709551615) : x < 256 ^ (nsz x).toNat ∧ ∀ k, (nsz x).toNat = k + 1 → 256 ^ k ≤ x := by
  by_cases hz : x = 0
  · subst hz
    have e : nsz 0 = 0 := by decide +kernel
    rw [e]
    exact ⟨by simp, fun k hk => by simp at hk⟩
  · obtain ⟨a, b, c⟩ := bl_bounds 64 x.toNat (by simp only [Nat.reducePow]; omega) (by omega)
    have hq : (nsz x).toNat = (Lib.bitLen x.toNat + 7) / 8 := by unfold nsz; omega
    have hbl : Lib.bitLen x.toNat = Lib.bitLenAux 64 x.toNat := rfl
    rw [← hbl] at a b c
    refine ⟨?_, fun k hk => ?_⟩
    · rw [p256, hq]
      have := Nat.pow_le_pow_right (show 0 < 2 by omega) (show Lib.bitLen x.toNat ≤ 8 * ((Lib.bitLen x.toNat + 7) / 8) by omega)
      omega
    · rw [p256]
      have := Nat.pow_le_pow_right (show 0 < 2 by omega) (show 8 * k ≤ Lib.bitLen x.toNat - 1 by omega)
      omega

theorem p256_pos (k : Nat) : (0 : Int) < 256 ^ k := Int.pow_pos (by omega)

theorem fold_numB : ∀ (k : Nat) (x a : Int), (numB k x).foldl (fun a x => a * 256 + x) a = a * 256 ^ k + x % 256 ^ k
  | 0, x, a => by simp [numB, Int.emod_one]
  | k + 1, x, a => by
    simp only [numB, List.foldl_cons]
    rw [fold_numB k x]
    have hp := p256_pos k
    have e1 := Int.mul_ediv_add_emod x (256 ^ k)
    have e2 := Int.mul_ediv_add_emod (x / 256 ^ k) 256
    have r0 := Int.emod_nonneg x (show (256 : Int) ^ k ≠ 0 by omega)
    have r1 := Int.emod_lt_of_pos x hp
    have hm : x % 256 ^ (k + 1) = (x / 256 ^ k % 256) * 256 ^ k + x % 256 ^ k := by
      have ex : x = (x / 256 ^ k % 256) * 256 ^ k + x % 256 ^ k + (256 ^ k * 256) * (x / 256 ^ k / 256) := by
        calc x = 256 ^ k * (x / 256 ^ k) + x % 256 ^ k := e1.symm
          _ = 256 ^ k * (256 * (x / 256 ^ k / 256) + x / 256 ^ k % 256) + x % 256 ^ k := by rw [e2]
          _ = _ := by rw [Int.mul_add, Int.mul_assoc, Int.mul_comm (256 ^ k) (x / 256 ^ k % 256)]; omega
      have hle : (x / 256 ^ k % 256) * 256 ^ k ≤ 255 * 256 ^ k := Int.mul_le_mul_of_nonneg_right (by omega) (by omega)
      have hge : 0 ≤ (x / 256 ^ k % 256) * 256 ^ k := Int.mul_nonneg (by omega) (by omega)
      rw [Int.pow_succ]
      conv => lhs; rw [ex]
      rw [Int.add_mul_emod_self_left]
      exact Int.emod_eq_of_lt (by omega) (by omega)
    rw [hm, Int.pow_succ, Int.add_mul, Int.mul_assoc, Int.mul_comm 256 (256 ^ k), Int.add_assoc]

theorem val_numB (x : Int) (h0 : 0 ≤ x) (h1 : x ≤ 18446744073709551615) : valB (numB (nsz x).toNat x) = x := by
  unfold valB
  rw [fold_numB, Int.zero_mul, Int.zero_add]
  exact Int.emod_eq_of_lt h0 (nsz_spec x h0 h1).1

theorem numB_head (x : Int) (h0 : 0 ≤ x) (h1 : x ≤ 18446744073709551615) : (numB (nsz x).toNat x).head? ≠ some 0 := by
  obtain ⟨a, b⟩ := nsz_spec x h0 h1
  cases hk : (nsz x).toNat with
  | zero => simp [numB]
  | succ k =>
    have hb := b k hk
    rw [hk, Int.pow_succ] at a
    have hp := p256_pos k
    simp only [numB, List.head?_cons, ne_eq, Option.some.injEq]
    have h1 : 1 ≤ x / 256 ^ k := (Int.le_ediv_iff_mul_le hp).2 (by omega)
    have h2 : x / 256 ^ k < 256 := (Int.ediv_lt_iff_lt_mul hp).2 (by omega)
    omega

theorem fold_bytes : ∀ (bs : List Int) (a : Int), bs.foldl (fun a x => a * 256 + x) a = a * 256 ^ bs.length + valB bs
  | [], a => by simp [valB]
  | b :: bs, a => by
    have e : valB (b :: bs) = (b :: bs).foldl (fun a x => a * 256 + x) 0 := rfl
    rw [e]
    simp only [List.foldl_cons, List.length_cons]
    rw [fold_bytes bs (a * 256 + b), fold_bytes bs (0 * 256 + b), Int.pow_succ, Int.add_mul, Int.mul_assoc, Int.mul_comm 256, Int.zero_mul, Int.zero_add, Int.add_assoc]

theorem valB_cons (b : Int) (bs : List Int) : valB (b :: bs) = b * 256 ^ bs.length + valB bs := by
  have e : valB (b :: bs) = bs.foldl (fun a x => a * 256 + x) (0 * 256 + b) := rfl
  rw [e, fold_bytes]
  simp

theorem numB_val : ∀ (bs : List Int) (a : Int), (∀ x ∈ bs, 0 ≤ x ∧ x ≤ 255) → numB bs.length (a * 256 ^ bs.length + valB bs) = bs
  | [], a, _ => rfl
  | b :: bs, a, h => by
    have hb := h b (List.mem_cons_self ..)
    have hv := valB_bd bs (fun x hx => h x (List.mem_cons_of_mem _ hx))
    have hp := p256_pos bs.length
    have e : a * 256 ^ (b :: bs).length + valB (b :: bs) = (a * 256 + b) * 256 ^ bs.length + valB bs := by
      rw [valB_cons, List.length_cons, Int.pow_succ, Int.add_mul, Int.mul_assoc, Int.mul_comm 256, Int.add_assoc]
    rw [e, List.length_cons]
    simp only [numB]
    rw [numB_val bs (a * 256 + b) (fun x hx => h x (List.mem_cons_of_mem _ hx))]
    have e2 : ((a * 256 + b) * 256 ^ bs.length + valB bs) / 256 ^ bs.length = a * 256 + b := by
      rw [Int.add_comm, Int.add_mul_ediv_right _ _ (by omega), Int.ediv_eq_zero_of_lt hv.1 hv.2, Int.zero_add]
    rw [e2]
    congr 1
    omega

theorem pow_le8' (k : Nat) (h : k ≤ 8) : (256 : Int) ^ k ≤ 18446744073709551616 := by
  rw [p256]
  have := Nat.pow_le_pow_right (show 0 < 2 by omega) (show 8 * k ≤ 64 by omega)
  simp only [Nat.reducePow] at this
  omega

theorem nsz_val (bs : List Int) (h : ∀ x ∈ bs, 0 ≤ x ∧ x ≤ 255) (hl : bs.length ≤ 8) (hz : bs.head? ≠ some 0) : (nsz (valB bs)).toNat = bs.length := by
  have hv := valB_bd bs h
  have h8 : (256 : Int) ^ bs.length ≤ 18446744073709551616 := pow_le8' _ hl
  obtain ⟨a, b⟩ := nsz_spec (valB bs) hv.1 (by omega)
  have mono : ∀ i j : Nat, i ≤ j → (256 : Int) ^ i ≤ 256 ^ j := fun i j hij => by
    rw [p256, p256]
    have := Nat.pow_le_pow_right (show 0 < 2 by omega) (show 8 * i ≤ 8 * j by omega)
    omega
  have up : (nsz (valB bs)).toNat ≤ bs.length := by
    cases hk : (nsz (valB bs)).toNat with
    | zero => omega
    | succ k =>
      have := b k hk
      by_cases hlt : bs.length ≤ k
      · have := mono _ _ hlt; omega
      · omega
  have lo : bs.length ≤ (nsz (valB bs)).toNat := by
    cases bs with
    | nil => simp
    | cons c cs =>
      have hc := h c (List.mem_cons_self ..)
      have hcv := valB_bd cs (fun x hx => h x (List.mem_cons_of_mem _ hx))
      have hc0 : c ≠ 0 := by intro e; subst e; simp at hz
      have hp := p256_pos cs.length
      have hge : (256 : Int) ^ cs.length ≤ valB (c :: cs) := by
        rw [valB_cons]
        have : 1 * (256 : Int) ^ cs.length ≤ c * 256 ^ cs.length := Int.mul_le_mul_of_nonneg_right (by omega) (by omega)
        omega
      by_cases hlt : (nsz (valB (c :: cs))).toNat ≤ cs.length
      · have := mono _ _ hlt; omega
      · simp only [List.length_cons]; omega
  omega

theorem lszGo_mono {n : Nat} (hn : ∀ (t : Tr n) (r r' deep : Int), (bsz n t r deep).2 = true → 0 ≤ r' → ((bodyOf n t).length : Int) ≤ r' → (bsz n t r' deep).2 = true) (room room' deep : Int) (ks : List (Tr n)) : ∀ acc acc',
    (lszGo (bsz n) room deep acc ks).2 = true → 0 ≤ acc' → acc' + (((ks.map (formOf n)).flatten).length : Int) ≤ room' → (lszGo (bsz n) room' deep acc' ks).2 = true := by
  induction ks with
  | nil => intro acc acc' _ _ _; rfl
  | cons k ks ih =>
    intro acc acc' h h0 h1
    simp only [lszGo] at h ⊢
    split at h
    · rename_i hk
      simp only [List.map_cons, List.flatten_cons, List.length_append] at h1
      have hf : (formOf n k).length = 3 + (bodyOf n k).length := by simp [formOf]; omega
      have hk' := hn k _ (room' - acc' - 3) _ hk (by omega) (by omega)
      rw [if_pos hk']
      have e := bsz_len n k _ _ hk'
      exact ih _ _ h (by omega) (by omega)
    · simp at h

theorem bsz_mono : ∀ (n : Nat) (t : Tr n) (room room' deep : Int), (bsz n t room deep).2 = true → 0 ≤ room' → ((bodyOf n t).length : Int) ≤ room' → (bsz n t room' deep).2 = true
  | 0, t, _, _, _, _, _, _ => by cases t
  | n + 1, t, room, room', deep, h, h0, h1 => by
    have hl := bsz_len _ _ _ _ h
    rw [← hl] at h1
    simp only [bsz] at h h1 ⊢
    split at h
    · simp at h
    · rename_i hoe
      rw [if_neg hoe] at h1
      have ho := (not_or.1 hoe).2
      rw [if_neg (by simp only [not_or]; exact ⟨by omega, ho⟩)]
      split at h
      · rename_i e; rw [if_pos e] at h1 ⊢; simpa using h1
      · rename_i e1
        rw [if_neg e1] at h1 ⊢
        split at h
        · rename_i e; rw [if_pos e] at h1 ⊢; simpa using h1
        · rename_i e2
          rw [if_neg e2] at h1 ⊢
          split at h
          · rename_i e
            rw [if_pos e] at h1 ⊢
            unfold lsz at h h1 ⊢
            split at h
            · simp at h
            · rename_i e4
              rw [if_neg e4] at h1 ⊢
              have hl := (lszGo_len (bsz_len n) room deep _ 0 h).1
              exact lszGo_mono (bsz_mono n) room room' deep _ 0 0 h (by omega) (by omega)
          · simp at h

theorem oeB_iff {tag num : Int} {lb lk : Nat} : oeB tag num lb lk = true ↔ (tag = 1 ∨ num = 0) ∧ (tag = 2 ∨ lb = 0) ∧ (tag = 3 ∨ lk = 0) := by
  unfold oeB
  simp only [Bool.and_eq_true, Bool.or_eq_true, beq_iff_eq]
  constructor
  · rintro ⟨⟨a, b⟩, c⟩
    exact ⟨a, b.imp id (by omega), c.imp id (by omega)⟩
  · rintro ⟨a, b, c⟩
    exact ⟨⟨a, b.imp id (by omega)⟩, c.imp id (by omega)⟩

theorem rdList_form {d : Nat} (hd : ∀ (bs : List Int) (t : Tr (d + 1)) (m : Nat), (∀ x ∈ bs, 0 ≤ x ∧ x ≤ 255) → rd d bs = some (t, m) → formOf (d + 1) t = bs.take m ∧ (bsz (d + 1) t 65535 d).2 = true) :
    ∀ (k : Nat) (bs : List Int) (ks : List (Tr (d + 1))), (∀ x ∈ bs, 0 ≤ x ∧ x ≤ 255) → rdList (rd d) k bs = some ks → (ks.map (formOf (d + 1))).flatten = bs ∧ ∀ acc : Int, 0 ≤ acc → acc + (bs.length : Int) ≤ 65535 → (lszGo (bsz (d + 1)) 65535 ((d : Int) + 1) acc ks).2 = true := by
  intro k
  induction k with
  | zero =>
    intro bs ks hb h
    cases bs with
    | nil => simp only [rdList, Option.some.injEq] at h; subst h; exact ⟨rfl, fun _ _ _ => rfl⟩
    | cons b bs => simp [rdList] at h
  | succ k ih =>
    intro bs ks hb h
    by_cases hne : bs = []
    · subst hne
      simp only [rdList, Option.some.injEq] at h
      subst h
      exact ⟨rfl, fun _ _ _ => rfl⟩
    · cases hr : rd d bs with
      | none => rw [rdList_fail hne hr] at h; simp at h
      | some tm =>
        obtain ⟨t, m⟩ := tm
        rw [rdList_step hne hr] at h
        simp only [Option.map_eq_some_iff] at h
        obtain ⟨ks', hks, rfl⟩ := h
        obtain ⟨h1, h2⟩ := ih (bs.drop m) ks' (fun x hx => hb x (List.mem_of_mem_drop hx)) hks
        obtain ⟨f1, f2⟩ := hd bs t m hb hr
        have hm := rd_pos hr
        refine ⟨?_, fun acc h0 ha => ?_⟩
        · simp only [List.map_cons, List.flatten_cons]
          rw [h1, f1, List.take_append_drop]
        · have hfl : (formOf (d + 1) t).length = m := by rw [f1]; simp; omega
          have hf : (formOf (d + 1) t).length = 3 + (bodyOf (d + 1) t).length := by simp [formOf]; omega
          have hk' := bsz_mono _ _ _ (65535 - acc - 3) _ f2 (by omega) (by omega)
          simp only [lszGo]
          rw [show (d : Int) + 1 - 1 = d by omega, if_pos hk']
          have e := bsz_len _ _ _ _ hk'
          exact h2 _ (by omega) (by rw [e, List.length_drop]; omega)

theorem bsz_1 {n : Nat} (num : Int) (room deep : Int) (h0 : 0 ≤ room) : bsz (n + 1) (Tr.mk 1 num [] []) room deep = (nsz num, decide (nsz num ≤ room)) := by
  simp only [bsz]
  rw [if_neg (by simp only [not_or]; exact ⟨by omega, by simp [Tr.mk, Tr.hd, Tr.kd, oeB]⟩)]
  rfl

theorem bsz_2 {n : Nat} (bs : List Int) (room deep : Int) (h0 : 0 ≤ room) : bsz (n + 1) (Tr.mk 2 0 bs []) room deep = ((bs.length : Int), decide ((bs.length : Int) ≤ room)) := by
  simp only [bsz]
  rw [if_neg (by simp only [not_or]; exact ⟨by omega, by simp [Tr.mk, Tr.hd, Tr.kd, oeB]⟩)]
  rfl

theorem bsz_3 {n : Nat} (ks : List (Tr n)) (room deep : Int) (h0 : 0 ≤ room) : bsz (n + 1) (Tr.mk 3 0 [] ks) room deep = lsz (bsz n) ks room deep := by
  simp only [bsz]
  rw [if_neg (by simp only [not_or]; exact ⟨by omega, by simp [Tr.mk, Tr.hd, Tr.kd, oeB]⟩)]
  rfl

theorem rd_form_of {d : Nat} (hkid : ∀ (body : List Int) (ks : List (Tr d)), (∀ x ∈ body, 0 ≤ x ∧ x ≤ 255) → rdKids d body = some ks → (ks.map (formOf d)).flatten = body ∧ ((body.length : Int) ≤ 65535 → (lsz (bsz d) ks 65535 d).2 = true))
    (bs : List Int) (t : Tr (d + 1)) (m : Nat) (hb : ∀ x ∈ bs, 0 ≤ x ∧ x ≤ 255) (h : rd d bs = some (t, m)) : formOf (d + 1) t = bs.take m ∧ (bsz (d + 1) t 65535 d).2 = true := by
  rw [rd_eq, rd1] at h
  split at h
  · simp at h
  · rename_i h3
    split at h
    · simp at h
    · rename_i hE
      simp only [Option.map_eq_some_iff, Prod.mk.injEq] at h
      obtain ⟨t', hbody, rfl, rfl⟩ := h
      match bs, h3 with
      | [], h3 => simp at h3
      | [_], h3 => simp at h3
      | [_, _], h3 => simp at h3
      | b0 :: b1 :: b2 :: r, h3 =>
        have c0 := hb b0 (by simp)
        have c1 := hb b1 (by simp)
        have c2 := hb b2 (by simp)
        have eE : endOf (b0 :: b1 :: b2 :: r) = 3 + (b1 * 256 + b2).toNat := rfl
        rw [eE] at hE hbody ⊢
        obtain ⟨n, hn⟩ : ∃ n : Nat, b1 * 256 + b2 = n := ⟨(b1 * 256 + b2).toNat, by omega⟩
        rw [hn] at hE hbody ⊢
        simp only [Int.toNat_natCast, List.length_cons] at hE hbody ⊢
        have et : (b0 :: b1 :: b2 :: r).take (3 + n) = b0 :: b1 :: b2 :: r.take n := by rw [show 3 + n = n + 1 + 1 + 1 by omega]; rfl
        rw [et] at hbody ⊢
        have hd3 : (b0 :: b1 :: b2 :: r.take n).drop 3 = r.take n := rfl
        rw [hd3] at hbody
        have e0 : (b0 :: b1 :: b2 :: r).getD 0 0 = b0 := rfl
        rw [e0] at hbody
        have hlen : (r.take n).length = n := by rw [List.length_take]; omega
        have hbr : ∀ x ∈ r.take n, 0 ≤ x ∧ x ≤ 255 := fun x hx => hb x (by simp [List.mem_of_mem_take hx])
        obtain ⟨body, hB⟩ : ∃ body, r.take n = body := ⟨_, rfl⟩
        rw [hB] at hbody hlen hbr ⊢
        have fin : t'.hd.1 = b0 → bodyOf (d + 1) t' = body → formOf (d + 1) t' = b0 :: b1 :: b2 :: body := by
          intro e1 e2
          simp only [formOf]
          rw [e1, e2, hlen]
          congr 1
          congr 1
          · omega
          · congr 1
            omega
        unfold rdBody at hbody
        split at hbody
        · rename_i e1
          split at hbody
          · simp at hbody
          · rename_i hno
            simp only [not_or, Nat.not_lt] at hno
            simp only [Option.some.injEq] at hbody
            subst hbody
            have hv := valB_bd body hbr
            have h8 := pow_le8' _ hno.1
            refine ⟨fin (by simp [Tr.mk, Tr.hd, e1]) ?_, ?_⟩
            · rw [bodyOf_1 rfl]
              show numB (nsz (valB body)).toNat (valB body) = body
              rw [nsz_val body hbr hno.1 hno.2]
              have := numB_val body 0 hbr
              simpa using this
            · rw [bsz_1 _ _ _ (by omega)]
              have := nsz_bd (valB body)
              simp
              omega
        · split at hbody
          · rename_i e1 e2
            simp only [Option.some.injEq] at hbody
            subst hbody
            refine ⟨fin (by simp [Tr.mk, Tr.hd, e2]) (bodyOf_2 rfl), ?_⟩
            rw [bsz_2 _ _ _ (by omega)]
            simp
            omega
          · split at hbody
            · rename_i e1 e2 e3
              simp only [Option.map_eq_some_iff] at hbody
              obtain ⟨ks, hks, rfl⟩ := hbody
              obtain ⟨k1, k2⟩ := hkid body ks hbr hks
              refine ⟨fin (by simp [Tr.mk, Tr.hd, e3]) ?_, ?_⟩
              · rw [bodyOf_kids rfl]
                exact k1
              · rw [bsz_3 _ _ _ (by omega)]
                exact k2 (by omega)
            · simp at hbody

/-- Bytes that are read are the form of what they are read as. -/
theorem rd_form : ∀ (d : Nat) (bs : List Int) (t : Tr (d + 1)) (m : Nat), (∀ x ∈ bs, 0 ≤ x ∧ x ≤ 255) → rd d bs = some (t, m) → formOf (d + 1) t = bs.take m ∧ (bsz (d + 1) t 65535 d).2 = true := by
  intro d
  induction d with
  | zero => exact rd_form_of (fun body ks _ h => by simp [rdKids] at h)
  | succ d ih =>
    refine rd_form_of (fun body ks hb h => ?_)
    simp only [rdKids] at h
    obtain ⟨h1, h2⟩ := rdList_form ih _ _ _ hb h
    refine ⟨h1, fun hl => ?_⟩
    unfold lsz
    rw [if_neg (by omega)]
    exact h2 0 (by omega) (by omega)

theorem rdList_same {n d : Nat} (hn : ∀ (t : Tr n) (room : Int) (rest : List Int), NumOk n t → room ≤ 65535 → (bsz n t room d).2 = true → ∃ t', rd d (formOf n t ++ rest) = some (t', (formOf n t).length) ∧ sameT (d + 1) t' n t = true) (room : Int) (hr : room ≤ 65535) (ks : List (Tr n)) : ∀ acc : Int, 0 ≤ acc → (∀ k ∈ ks, NumOk n k) →
    (lszGo (bsz n) room ((d : Int) + 1) acc ks).2 = true → ∀ fuel, ((ks.map (formOf n)).flatten).length ≤ fuel → ∃ ks', rdList (rd d) fuel (ks.map (formOf n)).flatten = some ks' ∧ sameL (fun a b => sameT (d + 1) a n b) ks' ks = true := by
  induction ks with
  | nil => intro acc _ _ _ fuel _; exact ⟨[], by cases fuel <;> rfl, rfl⟩
  | cons k ks ih =>
    intro acc h0 hnum h fuel hfuel
    simp only [lszGo] at h
    split at h
    · rename_i hk
      rw [show (d : Int) + 1 - 1 = d by omega] at hk h
      have hfit := bsz_fits _ _ _ _ hk
      obtain ⟨k', e1, e2⟩ := hn k _ ((ks.map (formOf n)).flatten) (hnum k (List.mem_cons_self ..)) (by omega) hk
      have hf : (formOf n k).length = 3 + (bodyOf n k).length := by simp [formOf]; omega
      simp only [List.map_cons, List.flatten_cons, List.length_append] at hfuel ⊢
      obtain ⟨f, rfl⟩ : ∃ f, fuel = f + 1 := ⟨fuel - 1, by omega⟩
      obtain ⟨ks', e3, e4⟩ := ih _ (by omega) (fun k hk => hnum k (List.mem_cons_of_mem _ hk)) h f (by omega)
      refine ⟨k' :: ks', ?_, by simp [sameL, e2, e4]⟩
      rw [rdList_step (by intro e; have := congrArg List.length e; rw [List.length_append, hf, List.length_nil] at this; omega) e1, List.drop_left, e3]
      rfl
    · simp at h

/-- A right tree's form is read as that tree, whatever is behind it. -/
theorem form_rd : ∀ (n d : Nat) (t : Tr n) (room : Int) (rest : List Int), NumOk n t → room ≤ 65535 → (bsz n t room d).2 = true → ∃ t', rd d (formOf n t ++ rest) = some (t', (formOf n t).length) ∧ sameT (d + 1) t' n t = true
  | 0, _, t, _, _, _, _, _ => by cases t
  | n + 1, d, t, room, rest, hnum, hroom, h => by
    have hfit := bsz_fits _ _ _ _ h
    have hlen := bsz_len _ _ _ _ h
    obtain ⟨body, hB⟩ : ∃ body, bodyOf (n + 1) t = body := ⟨_, rfl⟩
    have hL : ((body.length : Nat) : Int) ≤ 65535 := by rw [← hB]; omega
    have hform : formOf (n + 1) t = t.hd.1 :: ((body.length : Int) / 256) :: ((body.length : Int) % 256) :: body := by simp only [formOf]; rw [hB]
    have key : ∀ t' : Tr (d + 1), rdBody d (rdKids d) t.hd.1 body = some t' → rd d (formOf (n + 1) t ++ rest) = some (t', (formOf (n + 1) t).length) := by
      intro t' ht'
      rw [rd_eq, rd1, hform]
      have eE : endOf (t.hd.1 :: ((body.length : Int) / 256) :: ((body.length : Int) % 256) :: body ++ rest) = 3 + body.length := by
        show 3 + ((body.length : Int) / 256 * 256 + (body.length : Int) % 256).toNat = 3 + body.length
        omega
      rw [if_neg (by simp), eE, if_neg (by simp; omega)]
      have e2 : ((t.hd.1 :: ((body.length : Int) / 256) :: ((body.length : Int) % 256) :: body ++ rest).take (3 + body.length)).drop 3 = body := by
        rw [show 3 + body.length = body.length + 1 + 1 + 1 by omega]
        show (body ++ rest).take body.length = body
        exact List.take_left
      rw [e2]
      show (rdBody d (rdKids d) t.hd.1 body).map _ = _
      rw [ht']
      simp
      omega
    obtain ⟨hn0, hn1, hn2⟩ := hnum
    have htag := (Rt.facts (t := t) (room := room) ⟨_, h⟩).2.2.1
    have hoe : oeB t.hd.1 t.hd.2.1 t.hd.2.2.length t.kd.length = true := by
      simp only [bsz] at h
      split at h
      · simp at h
      · rename_i hc
        simpa using (not_or.1 hc).2
    obtain ⟨o1, o2, o3⟩ := oeB_iff.1 hoe
    have hdx : ∀ (a b : Int) (c : List Int) (ks : List (Tr d)), t.hd.1 = a → t.hd.2.1 = b → t.hd.2.2 = c → sameL (fun a b => sameT d a n b) ks t.kd = true → sameT (d + 1) (Tr.mk a b c ks) (n + 1) t = true := by
      intro a b c ks h1 h2 h3 h4
      simp only [sameT, Bool.and_eq_true, decide_eq_true_eq]
      exact ⟨Prod.ext h1.symm (Prod.ext h2.symm h3.symm), h4⟩
    have hnil : t.kd.length = 0 → sameL (fun (a : Tr d) b => sameT d a n b) [] t.kd = true := by
      intro e
      rw [List.eq_nil_of_length_eq_zero e]
      rfl
    rcases htag with e | e | e
    · have hb : numB (nsz t.hd.2.1).toNat t.hd.2.1 = body := by rw [← hB, bodyOf_1 e]
      refine ⟨Tr.mk 1 (valB body) [] [], key _ ?_, hdx _ _ _ _ e ?_ ?_ (hnil (by omega))⟩
      · unfold rdBody
        rw [if_pos e, if_neg]
        rw [← hb, numB_length]
        have := nsz_bd t.hd.2.1
        simp only [not_or]
        exact ⟨by omega, numB_head _ hn0 hn1⟩
      · rw [← hb]
        exact (val_numB _ hn0 hn1).symm
      · exact List.eq_nil_of_length_eq_zero (by omega)
    · have hb : t.hd.2.2 = body := by rw [← hB, bodyOf_2 e]
      refine ⟨Tr.mk 2 0 body [], key _ ?_, hdx _ _ _ _ e (by omega) hb (hnil (by omega))⟩
      unfold rdBody
      rw [if_neg (by omega), if_pos e]
    · have hb : (t.kd.map (formOf n)).flatten = body := by rw [← hB, bodyOf_kids e]
      simp only [bsz] at h
      rw [if_neg (by simp only [not_or]; exact ⟨by omega, by rw [hoe]; simp⟩), if_neg (by omega), if_neg (by omega), if_pos e] at h
      unfold lsz at h
      split at h
      · simp at h
      · rename_i hd0
        obtain ⟨d', rfl⟩ : ∃ d', d = d' + 1 := ⟨d - 1, by omega⟩
        obtain ⟨ks', e1, e2⟩ := rdList_same (fun t room rest a b c => form_rd n d' t room rest a b c) room hroom t.kd 0 (by omega) hn2 (by simpa using h) body.length (by rw [hb]; omega)
        refine ⟨Tr.mk 3 0 [] ks', key _ ?_, hdx _ _ _ _ e (by omega) (List.eq_nil_of_length_eq_zero (by omega)) e2⟩
        unfold rdBody
        rw [if_neg (by omega), if_neg (by omega), if_pos e]
        show (rdList (rd d') body.length body).map _ = _
        rw [← hb] at e1 ⊢
        rw [e1]
        rfl

/-- What is behind a value changes nothing. -/
theorem rd_append {d : Nat} {bs : List Int} {t : Tr (d + 1)} {m : Nat} (h : rd d bs = some (t, m)) (rest : List Int) : rd d (bs ++ rest) = some (t, m) := by
  rw [rd_eq, rd1] at h ⊢
  split at h
  · simp at h
  · rename_i h3
    have hE : endOf (bs ++ rest) = endOf bs := by
      unfold endOf
      rw [List.getD_eq_getElem?_getD, List.getD_eq_getElem?_getD, List.getD_eq_getElem?_getD, List.getD_eq_getElem?_getD, List.getElem?_append_left (by omega), List.getElem?_append_left (by omega)]
    split at h
    · simp at h
    · rename_i hl
      rw [if_neg (by simp; omega), hE, if_neg (by simp; omega), List.take_append_of_le_length (by omega)]
      have h0 : (bs ++ rest).getD 0 0 = bs.getD 0 0 := by
        rw [List.getD_eq_getElem?_getD, List.getD_eq_getElem?_getD, List.getElem?_append_left (by omega)]
      rw [h0]
      exact h

/-- A form that is cut off is none. -/
theorem cut_none {n : Nat} {t : Tr n} (hn : NumOk n t) (h : (bsz n t 65535 8).2 = true) {c : Nat} (hc : c < (formOf n t).length) : rd 8 ((formOf n t).take c) = none := by
  cases e : rd 8 ((formOf n t).take c) with
  | none => rfl
  | some tm =>
    obtain ⟨t', m⟩ := tm
    have hm := (rd_pos e).2
    have e2 := rd_append e ((formOf n t).drop c)
    rw [List.take_append_drop] at e2
    obtain ⟨t'', e3, _⟩ := form_rd n 8 t 65535 [] hn (by omega) h
    rw [List.append_nil, e2] at e3
    simp only [Option.some.injEq, Prod.mk.injEq] at e3
    rw [List.length_take] at hm
    omega

/-- Of two forms none begins the other, but where the values are the same. -/
theorem forms_same {n m : Nat} {t : Tr n} {u : Tr m} (hn : NumOk n t) (h : (bsz n t 65535 8).2 = true) (hm : NumOk m u) (k : (bsz m u 65535 8).2 = true) :
    sameT n t m u = decide ((formOf n t).take (min (formOf n t).length (formOf m u).length) = (formOf m u).take (min (formOf n t).length (formOf m u).length)) := by
  rw [Bool.eq_iff_iff, decide_eq_true_eq]
  constructor
  · intro e
    rw [sameT_form _ _ _ _ e]
  · have one : ∀ {n m : Nat} {t : Tr n} {u : Tr m}, NumOk n t → (bsz n t 65535 8).2 = true → NumOk m u → (bsz m u 65535 8).2 = true → (formOf n t).length ≤ (formOf m u).length → formOf n t = (formOf m u).take (formOf n t).length → sameT n t m u = true := by
      intro n m t u hn h hm k hl e
      obtain ⟨t', e1, s1⟩ := form_rd n 8 t 65535 ((formOf m u).drop (formOf n t).length) hn (by omega) h
      obtain ⟨u', e2, s2⟩ := form_rd m 8 u 65535 [] hm (by omega) k
      have e3 : formOf n t ++ (formOf m u).drop (formOf n t).length = formOf m u := by
        conv => lhs; rw [e, List.length_take, Nat.min_eq_left hl]
        exact List.take_append_drop _ _
      rw [e3] at e1
      rw [List.append_nil, e1] at e2
      simp only [Option.some.injEq, Prod.mk.injEq] at e2
      rw [← e2.1] at s2
      exact sameT_eucl _ _ _ _ _ _ s1 s2
    intro e
    rcases Nat.le_total (formOf n t).length (formOf m u).length with hl | hl
    · rw [Nat.min_eq_left hl, List.take_length] at e
      exact one hn h hm k hl e
    · rw [Nat.min_eq_right hl, List.take_length] at e
      exact sameT_symm (one hm k hn h hl e.symm)

end Go.Proofs.Ythbhdbjjobfchaa.Tlv
