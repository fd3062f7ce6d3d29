/- Of the proof: the texts TlvPutTop, TlvTrip, TlvGet, TlvKit, NdPut, NdPuts, NdHashP, NdFileM, NdBody, one behind the other. -/
import Derived.Test.YtenfahecnkdhaaaB7
import Derived.Test.YtenfahecnkdhaaaB6
import Derived.Laws.CopyOwn
section
/-
  What Put of tlv answers.
-/
namespace Go.Proofs.Ytenfahecnkdhaaa.Tlv
open Go.RowKit

theorem numB_byte : ∀ (k : Nat) (x : Int), ∀ y ∈ numB k x, 0 ≤ y ∧ y ≤ 255
  | 0, _, y, h => by simp [numB] at h
  | k + 1, x, y, h => by
    simp only [numB, List.mem_cons] at h
    rcases h with rfl | h
    · omega
    · exact numB_byte k x y h

/-- A form's bytes are bytes. -/
theorem form_byte : ∀ (n : Nat) (t : Tr n) (L B : Nat) (w : World) (sb sk : Value) (room : Int), Rep L B w n t sb sk → Rt n t room → room ≤ 65535 → ∀ x ∈ formOf n t, 0 ≤ x ∧ x ≤ 255
  | 0, t, _, _, _, _, _, _, _, _, _ => by cases t
  | n + 1, t, L, B, w, sb, sk, room, hr, ht, hroom => by
    obtain ⟨h0, h1, h2, h3⟩ := ht.facts
    obtain ⟨_, _, hby, hks⟩ := hr
    have hb : ∀ x ∈ bodyOf (n + 1) t, 0 ≤ x ∧ x ≤ 255 := by
      rcases h2 with h2 | h2 | h2
      · rw [bodyOf_1 h2]
        exact numB_byte _ _
      · rw [bodyOf_2 h2]
        obtain ⟨_, _, _, _, _, _, _, h, _⟩ := hby
        exact h
      · rw [bodyOf_kids h2]
        intro x hx
        obtain ⟨l, hl, hx⟩ := List.mem_flatten.1 hx
        obtain ⟨k, hk, rfl⟩ := List.mem_map.1 hl
        obtain ⟨r, hr0, hr1⟩ := h3 h2 k hk
        obtain ⟨j, hj⟩ := List.getElem?_of_mem hk
        obtain ⟨_, _, _, _, _, _, _, h7⟩ := hks
        obtain ⟨b, o, _, _, _, hc⟩ := h7 (by intro e; rw [e] at hj; simp at hj)
        obtain ⟨sb', sk', _, _, _, _, hrep⟩ := hc j k hj
        exact form_byte n k L B w sb' sk' r hrep hr1 (by omega) x hx
    intro x hx
    simp only [formOf, List.mem_cons] at hx
    rcases hx with rfl | rfl | rfl | hx
    · omega
    · omega
    · omega
    · exact hb x hx

set_option maxHeartbeats 1000000 in
theorem Put_no {n : Nat} (t : Tr n) (sb sk : Value) (w : World) (h : Rep 0 w.heap.size w n t sb sk) (hz : szT n t = 0) :
    Calls Try.prog 63 #[.agg #[.int .i64 t.hd.1, .int .u64 t.hd.2.1, sb, sk]] w fun e w' => e = .returned (.tuple #[.slice none 0 0, .int .i64 1]) ∧ Below w.heap.size w w' := by
  obtain ⟨a1, l1, p1, a2, l2, p2, rfl, rfl⟩ := h.sl
  have H := hid h
  clear h
  have HZ := hid hz
  clear hz
  go_enter Try.func63, Try.ntmps63
  go_wp2_with fail
  refine (size_any t _ _ _ (H.out.agree ((Agree.refl _ _ _).alloc (Nat.le_refl _) _) (Nat.le_refl _) (by simp))).mono ?_
  rintro e w1 ⟨rfl, hb1⟩
  rw [HZ.out]
  have hb2 : Hid (Below w.heap.size w w1) := ((Below.refl _ _).alloc (Nat.le_refl _) _).trans (hb1.mono (by simp))
  clear hb1
  go_wp2_with fail
  go_ret2
  exact ⟨rfl, hb2.out⟩

set_option maxHeartbeats 1000000 in
set_option maxRecDepth 100000 in
theorem Put_yes {n : Nat} (t : Tr n) (sb sk : Value) (w : World) (h : Rep 0 w.heap.size w n t sb sk) (hz : szT n t ≠ 0) :
    Calls Try.prog 63 #[.agg #[.int .i64 t.hd.1, .int .u64 t.hd.2.1, sb, sk]] w fun e w' => ∃ v, e = .returned (.tuple #[v, .int .i64 0]) ∧ BySl w.heap.size w'.heap.size w' v (formOf n t) ∧ Below w.heap.size w w' := by
  obtain ⟨a1, l1, p1, a2, l2, p2, rfl, rfl⟩ := h.sl
  have H := hid h
  clear h
  have hok : (bsz n t 65535 8).2 = true := by
    unfold szT at hz
    split at hz
    · assumption
    · exact absurd rfl hz
  have hsz : szT n t = 3 + ((bodyOf n t).length : Int) := by rw [szT, if_pos hok, bsz_len _ _ _ _ hok]
  have hbd := bsz_fits _ _ _ _ hok
  rw [bsz_len _ _ _ _ hok] at hbd
  have HOK := hid hok
  have HSZ := hid hsz
  clear hz hok hsz
  obtain ⟨m, hm⟩ : ∃ m, (bodyOf n t).length = m := ⟨_, rfl⟩
  rw [hm] at hbd
  have HM := hid hm
  clear hm
  go_enter Try.func63, Try.ntmps63
  go_wp2_with fail
  refine (size_any t _ _ _ (H.out.agree ((Agree.refl _ _ _).alloc (Nat.le_refl _) _) (Nat.le_refl _) (by simp))).mono ?_
  rintro e w1 ⟨rfl, hb1⟩
  rw [HSZ.out, HM.out]
  have hb2 : Hid (Below w.heap.size w w1) := ((Below.refl _ _).alloc (Nat.le_refl _) _).trans (hb1.mono (by simp))
  have hbz : w.heap.size < w1.heap.size := by have := hb1.size; simp at this; omega
  obtain ⟨hc, hf⟩ := bcell hb1
  have b0 : w1.cell? ⟨w.heap.size, 0, none⟩ = some (.int .i64 t.hd.1) := by rw [hc _ _ (by simp)]; simp [go_sem]
  have b1 : w1.cell? ⟨w.heap.size, 1, none⟩ = some (.int .u64 t.hd.2.1) := by rw [hc _ _ (by simp)]; simp [go_sem]
  have b2 : w1.cell? ⟨w.heap.size, 2, none⟩ = some (.slice a1 l1 p1) := by rw [hc _ _ (by simp)]; simp [go_sem]
  have b3 : w1.cell? ⟨w.heap.size, 3, none⟩ = some (.slice a2 l2 p2) := by rw [hc _ _ (by simp)]; simp [go_sem]
  clear hb1 hc hf
  obtain ⟨i0, hi, hz0, hz1, hz2⟩ := info_parts Try.info5
  go_wp2_with (at_make; refine wpList_make_own _ rfl _ _ 26 rfl w1.heap.size 5 i0 (.int .u8 0) 1 Try.underlying26 hi hz0 hz1 .i64 .i64 _ (3 + m) rfl rfl (by omega) (by rw [hz2]; omega) (by unfold maxLen; omega) (Nat.le_refl _) ?_; intro w2 hown2 hgrow2; have k0 := hgrow2.cell b0 (by simp); have k1 := hgrow2.cell b1 (by simp); have k2 := hgrow2.cell b2 (by simp); have k3 := hgrow2.cell b3 (by simp); have hz3 := hgrow2.size; have HO2 := hid hown2; have HG2 := hid hgrow2; clear b0 b1 b2 b3 hown2 hgrow2; have hw2 : w.heap.size < w2.heap.size := by omega)
  have hrow : w1.heap.size < w2.heap.size := (HO2.out.lt _ rfl).2
  have hA : Agree 0 w.heap.size w (w2.alloc (Obj.cells #[Value.slice (some ⟨w1.heap.size, 0, none⟩) 0 (3 + m)] 134)) := ((Agree.below hb2.out).trans (fun k _ h2 => HG2.out.block k (by omega) (by simp))).alloc (by omega) _
  have hW : WInv w1.heap.size w2.heap.size [] (w2.alloc (Obj.cells #[Value.slice (some ⟨w1.heap.size, 0, none⟩) 0 (3 + m)] 134)) :=
    ⟨_, by simp, by simp, by omega, HO2.out.alloc _, by simp [Value.ownBlock]; omega⟩
  have hfl : (formOf n t).length = 3 + m := by rw [formOf, ← HM.out]; simp only [List.length_cons]; omega
  refine (put_any n t _ _ w1.heap.size w2.heap.size [] 65535 _ (Rep.agree (L' := 0) (B' := w1.heap.size) hA (Nat.le_refl _) (by omega) H.out) ⟨8, HOK.out⟩ (by omega) hW (by rw [hfl]; simp; omega)).mono ?_
  rintro e w3 ⟨rfl, hW3, hb3⟩
  have HW3 := hid hW3
  obtain ⟨v, c3, f3, _, hown3, _⟩ := hW3
  rw [List.nil_append] at hown3
  obtain ⟨av, cv, rfl⟩ := ownsRow_form hown3
  have HO3 := hid hown3
  have hbel : Hid (Below w.heap.size w w3) := ((hb2.out.grown HG2.out (by omega) (by intro k e; cases e)).alloc (by omega) _).trans (hb3.mono (by omega))
  have HFL := hid hfl
  clear hown3 hW hA hb3 hfl
  go_wp2_with fail
  go_ret2
  refine ⟨_, rfl, ?_, hbel.out⟩
  have K := BySl.own HO3.out (by rw [HFL.out]; omega) (form_byte n t _ _ _ _ _ 65535 H.out ⟨8, HOK.out⟩ (by omega))
  exact K.agree (Agree.refl _ _ _) (by omega) (Nat.le_refl _)

end Go.Proofs.Ytenfahecnkdhaaa.Tlv
end

section
/-
  Plain mathematics: a right tree's form is read as that tree, whatever is behind it; and bytes that are read are the form of what they are read as.
-/
namespace Go.Proofs.Ytenfahecnkdhaaa.Tlv

/-- Lists whose members are the same, one by one. -/
def sameL {α β : Type} (f : α → β → Bool) : List α → List β → Bool
  | [], [] => true
  | a :: xs, b :: ys => f a b && sameL f xs ys
  | _, _ => false

/-- Trees that are the same, however deep they may be. -/
def sameT : (n : Nat) → Tr n → (m : Nat) → Tr m → Bool
  | 0, t, _, _ => by cases t
  | _ + 1, _, 0, u => by cases u
  | n + 1, t, m + 1, u => decide (t.hd = u.hd) && sameL (fun a b => sameT n a m b) t.kd u.kd

theorem sameL_len {α β : Type} {f : α → β → Bool} : ∀ {xs : List α} {ys : List β}, sameL f xs ys = true → xs.length = ys.length
  | [], [], _ => rfl
  | [], _ :: _, h => by simp [sameL] at h
  | _ :: _, [], h => by simp [sameL] at h
  | _ :: _, _ :: _, h => by simp only [sameL, Bool.and_eq_true] at h; simp [sameL_len h.2]

theorem sameT_form : ∀ (n : Nat) (t : Tr n) (m : Nat) (u : Tr m), sameT n t m u = true → formOf n t = formOf m u
  | 0, t, _, _, _ => by cases t
  | _ + 1, _, 0, u, _ => by cases u
  | n + 1, t, m + 1, u, h => by
    simp only [sameT, Bool.and_eq_true, decide_eq_true_eq] at h
    have go : ∀ (ts : List (Tr n)) (us : List (Tr m)), sameL (fun a b => sameT n a m b) ts us = true → ts.map (formOf n) = us.map (formOf m) := by
      intro ts
      induction ts with
      | nil => intro us h; cases us <;> simp_all [sameL]
      | cons t ts ih =>
        intro us h
        cases us with
        | nil => simp [sameL] at h
        | cons u us =>
          simp only [sameL, Bool.and_eq_true] at h
          simp [sameT_form n t m u h.1, ih us h.2]
    have hk := go _ _ h.2
    have hb : bodyOf (n + 1) t = bodyOf (m + 1) u := by
      by_cases h3 : t.hd.1 = 3
      · rw [bodyOf_kids h3, bodyOf_kids (by rw [← h.1]; exact h3), hk]
      · rw [h.1] at h3
        simp only [bodyOf, h.1, h3, if_false]
    simp only [formOf]
    rw [hb, h.1]

/-- Numbers that fit. -/
def NumOk : (n : Nat) → Tr n → Prop
  | 0, _ => True
  | n + 1, t => 0 ≤ t.hd.2.1 ∧ t.hd.2.1 ≤ 18446744073709551615 ∧ ∀ k ∈ t.kd, NumOk n k

theorem bl_zero (f : Nat) : Lib.bitLenAux f 0 = 0 := by cases f <;> simp [Lib.bitLenAux]

theorem bl_bounds : ∀ (f x : Nat), x < 2 ^ f → x ≠ 0 → 1 ≤ Lib.bitLenAux f x ∧ 2 ^ (Lib.bitLenAux f x - 1) ≤ x ∧ x < 2 ^ Lib.bitLenAux f x := by
  intro f
  induction f with
  | zero => intro x h h0; simp at h; omega
  | succ f ih =>
    intro x h h0
    simp only [Lib.bitLenAux]
    rw [if_neg h0]
    by_cases h2 : x / 2 = 0
    · rw [h2, bl_zero]
      simp
      omega
    · obtain ⟨a, b, c⟩ := ih (x / 2) (by rw [Nat.pow_succ] at h; omega) h2
      obtain ⟨k, hk⟩ : ∃ k, Lib.bitLenAux f (x / 2) = k + 1 := ⟨Lib.bitLenAux f (x / 2) - 1, by omega⟩
      rw [hk] at b c ⊢
      simp only [Nat.add_sub_cancel] at b
      refine ⟨by omega, ?_, ?_⟩
      · rw [show 1 + (k + 1) - 1 = k + 1 by omega, Nat.pow_succ]; omega
      · rw [show 1 + (k + 1) = k + 1 + 1 by omega, Nat.pow_succ]; omega

theorem p256 (k : Nat) : (256 : Int) ^ k = ((2 ^ (8 * k) : Nat) : Int) := by
  rw [Nat.pow_mul]
  simp

/-- How many bytes a number has. -/
theorem nsz_spec (x : Int) (h0 : 0 ≤ x) (h1 : x ≤ 18446744073709551615) : x < 256 ^ (nsz x).toNat ∧ ∀ k, (nsz x).toNat = k + 1 → 256 ^ k ≤ x := by
  by_cases hz : x = 0
  · subst hz
    have e : nsz 0 = 0 := by decide +kernel
    rw [e]
    exact ⟨by simp, fun k hk => by simp at hk⟩
  · obtain ⟨a, b, c⟩ := bl_bounds 64 x.toNat (by simp only [Nat.reducePow]; omega) (by omega)
    have hq : (nsz x).toNat = (Lib.bitLen x.toNat + 7) / 8 := by unfold nsz; omega
    have hbl : Lib.bitLen x.toNat = Lib.bitLenAux 64 x.toNat := rfl
    rw [← hbl] at a b c
    refine ⟨?_, fun k hk => ?_⟩
    · rw [p256, hq]
      have := Nat.pow_le_pow_right (show 0 < 2 by omega) (show Lib.bitLen x.toNat ≤ 8 * ((Lib.bitLen x.toNat + 7) / 8) by omega)
      omega
    · rw [p256]
      have := Nat.pow_le_pow_right (show 0 < 2 by omega) (show 8 * k ≤ Lib.bitLen x.toNat - 1 by omega)
      omega

theorem p256_pos (k : Nat) : (0 : Int) < 256 ^ k := Int.pow_pos (by omega)

theorem fold_numB : ∀ (k : Nat) (x a : Int), (numB k x).foldl (fun a x => a * 256 + x) a = a * 256 ^ k + x % 256 ^ k
  | 0, x, a => by simp [numB, Int.emod_one]
  | k + 1, x, a => by
    simp only [numB, List.foldl_cons]
    rw [fold_numB k x]
    have hp := p256_pos k
    have e1 := Int.mul_ediv_add_emod x (256 ^ k)
    have e2 := Int.mul_ediv_add_emod (x / 256 ^ k) 256
    have r0 := Int.emod_nonneg x (show (256 : Int) ^ k ≠ 0 by omega)
    have r1 := Int.emod_lt_of_pos x hp
    have hm : x % 256 ^ (k + 1) = (x / 256 ^ k % 256) * 256 ^ k + x % 256 ^ k := by
      have ex : x = (x / 256 ^ k % 256) * 256 ^ k + x % 256 ^ k + (256 ^ k * 256) * (x / 256 ^ k / 256) := by
        calc x = 256 ^ k * (x / 256 ^ k) + x % 256 ^ k := e1.symm
          _ = 256 ^ k * (256 * (x / 256 ^ k / 256) + x / 256 ^ k % 256) + x % 256 ^ k := by rw [e2]
          _ = _ := by rw [Int.mul_add, Int.mul_assoc, Int.mul_comm (256 ^ k) (x / 256 ^ k % 256)]; omega
      have hle : (x / 256 ^ k % 256) * 256 ^ k ≤ 255 * 256 ^ k := Int.mul_le_mul_of_nonneg_right (by omega) (by omega)
      have hge : 0 ≤ (x / 256 ^ k % 256) * 256 ^ k := Int.mul_nonneg (by omega) (by omega)
      rw [Int.pow_succ]
      conv => lhs; rw [ex]
      rw [Int.add_mul_emod_self_left]
      exact Int.emod_eq_of_lt (by omega) (by omega)
    rw [hm, Int.pow_succ, Int.add_mul, Int.mul_assoc, Int.mul_comm 256 (256 ^ k), Int.add_assoc]

theorem val_numB (x : Int) (h0 : 0 ≤ x) (h1 : x ≤ 18446744073709551615) : valB (numB (nsz x).toNat x) = x := by
  unfold valB
  rw [fold_numB, Int.zero_mul, Int.zero_add]
  exact Int.emod_eq_of_lt h0 (nsz_spec x h0 h1).1

theorem numB_head (x : Int) (h0 : 0 ≤ x) (h1 : x ≤ 18446744073709551615) : (numB (nsz x).toNat x).head? ≠ some 0 := by
  obtain ⟨a, b⟩ := nsz_spec x h0 h1
  cases hk : (nsz x).toNat with
  | zero => simp [numB]
  | succ k =>
    have hb := b k hk
    rw [hk, Int.pow_succ] at a
    have hp := p256_pos k
    simp only [numB, List.head?_cons, ne_eq, Option.some.injEq]
    have h1 : 1 ≤ x / 256 ^ k := (Int.le_ediv_iff_mul_le hp).2 (by omega)
    have h2 : x / 256 ^ k < 256 := (Int.ediv_lt_iff_lt_mul hp).2 (by omega)
    omega

theorem fold_bytes : ∀ (bs : List Int) (a : Int), bs.foldl (fun a x => a * 256 + x) a = a * 256 ^ bs.length + valB bs
  | [], a => by simp [valB]
  | b :: bs, a => by
    have e : valB (b :: bs) = (b :: bs).foldl (fun a x => a * 256 + x) 0 := rfl
    rw [e]
    simp only [List.foldl_cons, List.length_cons]
    rw [fold_bytes bs (a * 256 + b), fold_bytes bs (0 * 256 + b), Int.pow_succ, Int.add_mul, Int.mul_assoc, Int.mul_comm 256, Int.zero_mul, Int.zero_add, Int.add_assoc]

theorem valB_cons (b : Int) (bs : List Int) : valB (b :: bs) = b * 256 ^ bs.length + valB bs := by
  have e : valB (b :: bs) = bs.foldl (fun a x => a * 256 + x) (0 * 256 + b) := rfl
  rw [e, fold_bytes]
  simp

theorem numB_val : ∀ (bs : List Int) (a : Int), (∀ x ∈ bs, 0 ≤ x ∧ x ≤ 255) → numB bs.length (a * 256 ^ bs.length + valB bs) = bs
  | [], a, _ => rfl
  | b :: bs, a, h => by
    have hb := h b (List.mem_cons_self ..)
    have hv := valB_bd bs (fun x hx => h x (List.mem_cons_of_mem _ hx))
    have hp := p256_pos bs.length
    have e : a * 256 ^ (b :: bs).length + valB (b :: bs) = (a * 256 + b) * 256 ^ bs.length + valB bs := by
      rw [valB_cons, List.length_cons, Int.pow_succ, Int.add_mul, Int.mul_assoc, Int.mul_comm 256, Int.add_assoc]
    rw [e, List.length_cons]
    simp only [numB]
    rw [numB_val bs (a * 256 + b) (fun x hx => h x (List.mem_cons_of_mem _ hx))]
    have e2 : ((a * 256 + b) * 256 ^ bs.length + valB bs) / 256 ^ bs.length = a * 256 + b := by
      rw [Int.add_comm, Int.add_mul_ediv_right _ _ (by omega), Int.ediv_eq_zero_of_lt hv.1 hv.2, Int.zero_add]
    rw [e2]
    congr 1
    omega

theorem pow_le8' (k : Nat) (h : k ≤ 8) : (256 : Int) ^ k ≤ 18446744073709551616 := by
  rw [p256]
  have := Nat.pow_le_pow_right (show 0 < 2 by omega) (show 8 * k ≤ 64 by omega)
  simp only [Nat.reducePow] at this
  omega

theorem nsz_val (bs : List Int) (h : ∀ x ∈ bs, 0 ≤ x ∧ x ≤ 255) (hl : bs.length ≤ 8) (hz : bs.head? ≠ some 0) : (nsz (valB bs)).toNat = bs.length := by
  have hv := valB_bd bs h
  have h8 : (256 : Int) ^ bs.length ≤ 18446744073709551616 := pow_le8' _ hl
  obtain ⟨a, b⟩ := nsz_spec (valB bs) hv.1 (by omega)
  have mono : ∀ i j : Nat, i ≤ j → (256 : Int) ^ i ≤ 256 ^ j := fun i j hij => by
    rw [p256, p256]
    have := Nat.pow_le_pow_right (show 0 < 2 by omega) (show 8 * i ≤ 8 * j by omega)
    omega
  have up : (nsz (valB bs)).toNat ≤ bs.length := by
    cases hk : (nsz (valB bs)).toNat with
    | zero => omega
    | succ k =>
      have := b k hk
      by_cases hlt : bs.length ≤ k
      · have := mono _ _ hlt; omega
      · omega
  have lo : bs.length ≤ (nsz (valB bs)).toNat := by
    cases bs with
    | nil => simp
    | cons c cs =>
      have hc := h c (List.mem_cons_self ..)
      have hcv := valB_bd cs (fun x hx => h x (List.mem_cons_of_mem _ hx))
      have hc0 : c ≠ 0 := by intro e; subst e; simp at hz
      have hp := p256_pos cs.length
      have hge : (256 : Int) ^ cs.length ≤ valB (c :: cs) := by
        rw [valB_cons]
        have : 1 * (256 : Int) ^ cs.length ≤ c * 256 ^ cs.length := Int.mul_le_mul_of_nonneg_right (by omega) (by omega)
        omega
      by_cases hlt : (nsz (valB (c :: cs))).toNat ≤ cs.length
      · have := mono _ _ hlt; omega
      · simp only [List.length_cons]; omega
  omega

theorem lszGo_mono {n : Nat} (hn : ∀ (t : Tr n) (r r' deep : Int), (bsz n t r deep).2 = true → 0 ≤ r' → ((bodyOf n t).length : Int) ≤ r' → (bsz n t r' deep).2 = true) (room room' deep : Int) (ks : List (Tr n)) : ∀ acc acc',
    (lszGo (bsz n) room deep acc ks).2 = true → 0 ≤ acc' → acc' + (((ks.map (formOf n)).flatten).length : Int) ≤ room' → (lszGo (bsz n) room' deep acc' ks).2 = true := by
  induction ks with
  | nil => intro acc acc' _ _ _; rfl
  | cons k ks ih =>
    intro acc acc' h h0 h1
    simp only [lszGo] at h ⊢
    split at h
    · rename_i hk
      simp only [List.map_cons, List.flatten_cons, List.length_append] at h1
      have hf : (formOf n k).length = 3 + (bodyOf n k).length := by simp [formOf]; omega
      have hk' := hn k _ (room' - acc' - 3) _ hk (by omega) (by omega)
      rw [if_pos hk']
      have e := bsz_len n k _ _ hk'
      exact ih _ _ h (by omega) (by omega)
    · simp at h

theorem bsz_mono : ∀ (n : Nat) (t : Tr n) (room room' deep : Int), (bsz n t room deep).2 = true → 0 ≤ room' → ((bodyOf n t).length : Int) ≤ room' → (bsz n t room' deep).2 = true
  | 0, t, _, _, _, _, _, _ => by cases t
  | n + 1, t, room, room', deep, h, h0, h1 => by
    have hl := bsz_len _ _ _ _ h
    rw [← hl] at h1
    simp only [bsz] at h h1 ⊢
    split at h
    · simp at h
    · rename_i hoe
      rw [if_neg hoe] at h1
      have ho := (not_or.1 hoe).2
      rw [if_neg (by simp only [not_or]; exact ⟨by omega, ho⟩)]
      split at h
      · rename_i e; rw [if_pos e] at h1 ⊢; simpa using h1
      · rename_i e1
        rw [if_neg e1] at h1 ⊢
        split at h
        · rename_i e; rw [if_pos e] at h1 ⊢; simpa using h1
        · rename_i e2
          rw [if_neg e2] at h1 ⊢
          split at h
          · rename_i e
            rw [if_pos e] at h1 ⊢
            unfold lsz at h h1 ⊢
            split at h
            · simp at h
            · rename_i e4
              rw [if_neg e4] at h1 ⊢
              have hl := (lszGo_len (bsz_len n) room deep _ 0 h).1
              exact lszGo_mono (bsz_mono n) room room' deep _ 0 0 h (by omega) (by omega)
          · simp at h

theorem oeB_iff {tag num : Int} {lb lk : Nat} : oeB tag num lb lk = true ↔ (tag = 1 ∨ num = 0) ∧ (tag = 2 ∨ lb = 0) ∧ (tag = 3 ∨ lk = 0) := by
  unfold oeB
  simp only [Bool.and_eq_true, Bool.or_eq_true, beq_iff_eq]
  constructor
  · rintro ⟨⟨a, b⟩, c⟩
    exact ⟨a, b.imp id (by omega), c.imp id (by omega)⟩
  · rintro ⟨a, b, c⟩
    exact ⟨⟨a, b.imp id (by omega)⟩, c.imp id (by omega)⟩

theorem rdList_form {d : Nat} (hd : ∀ (bs : List Int) (t : Tr (d + 1)) (m : Nat), (∀ x ∈ bs, 0 ≤ x ∧ x ≤ 255) → rd d bs = some (t, m) → formOf (d + 1) t = bs.take m ∧ (bsz (d + 1) t 65535 d).2 = true) :
    ∀ (k : Nat) (bs : List Int) (ks : List (Tr (d + 1))), (∀ x ∈ bs, 0 ≤ x ∧ x ≤ 255) → rdList (rd d) k bs = some ks → (ks.map (formOf (d + 1))).flatten = bs ∧ ∀ acc : Int, 0 ≤ acc → acc + (bs.length : Int) ≤ 65535 → (lszGo (bsz (d + 1)) 65535 ((d : Int) + 1) acc ks).2 = true := by
  intro k
  induction k with
  | zero =>
    intro bs ks hb h
    cases bs with
    | nil => simp only [rdList, Option.some.injEq] at h; subst h; exact ⟨rfl, fun _ _ _ => rfl⟩
    | cons b bs => simp [rdList] at h
  | succ k ih =>
    intro bs ks hb h
    by_cases hne : bs = []
    · subst hne
      simp only [rdList, Option.some.injEq] at h
      subst h
      exact ⟨rfl, fun _ _ _ => rfl⟩
    · cases hr : rd d bs with
      | none => rw [rdList_fail hne hr] at h; simp at h
      | some tm =>
        obtain ⟨t, m⟩ := tm
        rw [rdList_step hne hr] at h
        simp only [Option.map_eq_some_iff] at h
        obtain ⟨ks', hks, rfl⟩ := h
        obtain ⟨h1, h2⟩ := ih (bs.drop m) ks' (fun x hx => hb x (List.mem_of_mem_drop hx)) hks
        obtain ⟨f1, f2⟩ := hd bs t m hb hr
        have hm := rd_pos hr
        refine ⟨?_, fun acc h0 ha => ?_⟩
        · simp only [List.map_cons, List.flatten_cons]
          rw [h1, f1, List.take_append_drop]
        · have hfl : (formOf (d + 1) t).length = m := by rw [f1]; simp; omega
          have hf : (formOf (d + 1) t).length = 3 + (bodyOf (d + 1) t).length := by simp [formOf]; omega
          have hk' := bsz_mono _ _ _ (65535 - acc - 3) _ f2 (by omega) (by omega)
          simp only [lszGo]
          rw [show (d : Int) + 1 - 1 = d by omega, if_pos hk']
          have e := bsz_len _ _ _ _ hk'
          exact h2 _ (by omega) (by rw [e, List.length_drop]; omega)

theorem bsz_1 {n : Nat} (num : Int) (room deep : Int) (h0 : 0 ≤ room) : bsz (n + 1) (Tr.mk 1 num [] []) room deep = (nsz num, decide (nsz num ≤ room)) := by
  simp only [bsz]
  rw [if_neg (by simp only [not_or]; exact ⟨by omega, by simp [Tr.mk, Tr.hd, Tr.kd, oeB]⟩)]
  rfl

theorem bsz_2 {n : Nat} (bs : List Int) (room deep : Int) (h0 : 0 ≤ room) : bsz (n + 1) (Tr.mk 2 0 bs []) room deep = ((bs.length : Int), decide ((bs.length : Int) ≤ room)) := by
  simp only [bsz]
  rw [if_neg (by simp only [not_or]; exact ⟨by omega, by simp [Tr.mk, Tr.hd, Tr.kd, oeB]⟩)]
  rfl

theorem bsz_3 {n : Nat} (ks : List (Tr n)) (room deep : Int) (h0 : 0 ≤ room) : bsz (n + 1) (Tr.mk 3 0 [] ks) room deep = lsz (bsz n) ks room deep := by
  simp only [bsz]
  rw [if_neg (by simp only [not_or]; exact ⟨by omega, by simp [Tr.mk, Tr.hd, Tr.kd, oeB]⟩)]
  rfl

theorem rd_form_of {d : Nat} (hkid : ∀ (body : List Int) (ks : List (Tr d)), (∀ x ∈ body, 0 ≤ x ∧ x ≤ 255) → rdKids d body = some ks → (ks.map (formOf d)).flatten = body ∧ ((body.length : Int) ≤ 65535 → (lsz (bsz d) ks 65535 d).2 = true))
    (bs : List Int) (t : Tr (d + 1)) (m : Nat) (hb : ∀ x ∈ bs, 0 ≤ x ∧ x ≤ 255) (h : rd d bs = some (t, m)) : formOf (d + 1) t = bs.take m ∧ (bsz (d + 1) t 65535 d).2 = true := by
  rw [rd_eq, rd1] at h
  split at h
  · simp at h
  · rename_i h3
    split at h
    · simp at h
    · rename_i hE
      simp only [Option.map_eq_some_iff, Prod.mk.injEq] at h
      obtain ⟨t', hbody, rfl, rfl⟩ := h
      match bs, h3 with
      | [], h3 => simp at h3
      | [_], h3 => simp at h3
      | [_, _], h3 => simp at h3
      | b0 :: b1 :: b2 :: r, h3 =>
        have c0 := hb b0 (by simp)
        have c1 := hb b1 (by simp)
        have c2 := hb b2 (by simp)
        have eE : endOf (b0 :: b1 :: b2 :: r) = 3 + (b1 * 256 + b2).toNat := rfl
        rw [eE] at hE hbody ⊢
        obtain ⟨n, hn⟩ : ∃ n : Nat, b1 * 256 + b2 = n := ⟨(b1 * 256 + b2).toNat, by omega⟩
        rw [hn] at hE hbody ⊢
        simp only [Int.toNat_natCast, List.length_cons] at hE hbody ⊢
        have et : (b0 :: b1 :: b2 :: r).take (3 + n) = b0 :: b1 :: b2 :: r.take n := by rw [show 3 + n = n + 1 + 1 + 1 by omega]; rfl
        rw [et] at hbody ⊢
        have hd3 : (b0 :: b1 :: b2 :: r.take n).drop 3 = r.take n := rfl
        rw [hd3] at hbody
        have e0 : (b0 :: b1 :: b2 :: r).getD 0 0 = b0 := rfl
        rw [e0] at hbody
        have hlen : (r.take n).length = n := by rw [List.length_take]; omega
        have hbr : ∀ x ∈ r.take n, 0 ≤ x ∧ x ≤ 255 := fun x hx => hb x (by simp [List.mem_of_mem_take hx])
        obtain ⟨body, hB⟩ : ∃ body, r.take n = body := ⟨_, rfl⟩
        rw [hB] at hbody hlen hbr ⊢
        have fin : t'.hd.1 = b0 → bodyOf (d + 1) t' = body → formOf (d + 1) t' = b0 :: b1 :: b2 :: body := by
          intro e1 e2
          simp only [formOf]
          rw [e1, e2, hlen]
          congr 1
          congr 1
          · omega
          · congr 1
            omega
        unfold rdBody at hbody
        split at hbody
        · rename_i e1
          split at hbody
          · simp at hbody
          · rename_i hno
            simp only [not_or, Nat.not_lt] at hno
            simp only [Option.some.injEq] at hbody
            subst hbody
            have hv := valB_bd body hbr
            have h8 := pow_le8' _ hno.1
            refine ⟨fin (by simp [Tr.mk, Tr.hd, e1]) ?_, ?_⟩
            · rw [bodyOf_1 rfl]
              show numB (nsz (valB body)).toNat (valB body) = body
              rw [nsz_val body hbr hno.1 hno.2]
              have := numB_val body 0 hbr
              simpa using this
            · rw [bsz_1 _ _ _ (by omega)]
              have := nsz_bd (valB body)
              simp
              omega
        · split at hbody
          · rename_i e1 e2
            simp only [Option.some.injEq] at hbody
            subst hbody
            refine ⟨fin (by simp [Tr.mk, Tr.hd, e2]) (bodyOf_2 rfl), ?_⟩
            rw [bsz_2 _ _ _ (by omega)]
            simp
            omega
          · split at hbody
            · rename_i e1 e2 e3
              simp only [Option.map_eq_some_iff] at hbody
              obtain ⟨ks, hks, rfl⟩ := hbody
              obtain ⟨k1, k2⟩ := hkid body ks hbr hks
              refine ⟨fin (by simp [Tr.mk, Tr.hd, e3]) ?_, ?_⟩
              · rw [bodyOf_kids rfl]
                exact k1
              · rw [bsz_3 _ _ _ (by omega)]
                exact k2 (by omega)
            · simp at hbody

/-- Bytes that are read are the form of what they are read as. -/
theorem rd_form : ∀ (d : Nat) (bs : List Int) (t : Tr (d + 1)) (m : Nat), (∀ x ∈ bs, 0 ≤ x ∧ x ≤ 255) → rd d bs = some (t, m) → formOf (d + 1) t = bs.take m ∧ (bsz (d + 1) t 65535 d).2 = true := by
  intro d
  induction d with
  | zero => exact rd_form_of (fun body ks _ h => by simp [rdKids] at h)
  | succ d ih =>
    refine rd_form_of (fun body ks hb h => ?_)
    simp only [rdKids] at h
    obtain ⟨h1, h2⟩ := rdList_form ih _ _ _ hb h
    refine ⟨h1, fun hl => ?_⟩
    unfold lsz
    rw [if_neg (by omega)]
    exact h2 0 (by omega) (by omega)

theorem rdList_same {n d : Nat} (hn : ∀ (t : Tr n) (room : Int) (rest : List Int), NumOk n t → room ≤ 65535 → (bsz n t room d).2 = true → ∃ t', rd d (formOf n t ++ rest) = some (t', (formOf n t).length) ∧ sameT (d + 1) t' n t = true) (room : Int) (hr : room ≤ 65535) (ks : List (Tr n)) : ∀ acc : Int, 0 ≤ acc → (∀ k ∈ ks, NumOk n k) →
    (lszGo (bsz n) room ((d : Int) + 1) acc ks).2 = true → ∀ fuel, ((ks.map (formOf n)).flatten).length ≤ fuel → ∃ ks', rdList (rd d) fuel (ks.map (formOf n)).flatten = some ks' ∧ sameL (fun a b => sameT (d + 1) a n b) ks' ks = true := by
  induction ks with
  | nil => intro acc _ _ _ fuel _; exact ⟨[], by cases fuel <;> rfl, rfl⟩
  | cons k ks ih =>
    intro acc h0 hnum h fuel hfuel
    simp only [lszGo] at h
    split at h
    · rename_i hk
      rw [show (d : Int) + 1 - 1 = d by omega] at hk h
      have hfit := bsz_fits _ _ _ _ hk
      obtain ⟨k', e1, e2⟩ := hn k _ ((ks.map (formOf n)).flatten) (hnum k (List.mem_cons_self ..)) (by omega) hk
      have hf : (formOf n k).length = 3 + (bodyOf n k).length := by simp [formOf]; omega
      simp only [List.map_cons, List.flatten_cons, List.length_append] at hfuel ⊢
      obtain ⟨f, rfl⟩ : ∃ f, fuel = f + 1 := ⟨fuel - 1, by omega⟩
      obtain ⟨ks', e3, e4⟩ := ih _ (by omega) (fun k hk => hnum k (List.mem_cons_of_mem _ hk)) h f (by omega)
      refine ⟨k' :: ks', ?_, by simp [sameL, e2, e4]⟩
      rw [rdList_step (by intro e; have := congrArg List.length e; rw [List.length_append, hf, List.length_nil] at this; omega) e1, List.drop_left, e3]
      rfl
    · simp at h

/-- A right tree's form is read as that tree, whatever is behind it. -/
theorem form_rd : ∀ (n d : Nat) (t : Tr n) (room : Int) (rest : List Int), NumOk n t → room ≤ 65535 → (bsz n t room d).2 = true → ∃ t', rd d (formOf n t ++ rest) = some (t', (formOf n t).length) ∧ sameT (d + 1) t' n t = true
  | 0, _, t, _, _, _, _, _ => by cases t
  | n + 1, d, t, room, rest, hnum, hroom, h => by
    have hfit := bsz_fits _ _ _ _ h
    have hlen := bsz_len _ _ _ _ h
    obtain ⟨body, hB⟩ : ∃ body, bodyOf (n + 1) t = body := ⟨_, rfl⟩
    have hL : ((body.length : Nat) : Int) ≤ 65535 := by rw [← hB]; omega
    have hform : formOf (n + 1) t = t.hd.1 :: ((body.length : Int) / 256) :: ((body.length : Int) % 256) :: body := by simp only [formOf]; rw [hB]
    have key : ∀ t' : Tr (d + 1), rdBody d (rdKids d) t.hd.1 body = some t' → rd d (formOf (n + 1) t ++ rest) = some (t', (formOf (n + 1) t).length) := by
      intro t' ht'
      rw [rd_eq, rd1, hform]
      have eE : endOf (t.hd.1 :: ((body.length : Int) / 256) :: ((body.length : Int) % 256) :: body ++ rest) = 3 + body.length := by
        show 3 + ((body.length : Int) / 256 * 256 + (body.length : Int) % 256).toNat = 3 + body.length
        omega
      rw [if_neg (by simp), eE, if_neg (by simp; omega)]
      have e2 : ((t.hd.1 :: ((body.length : Int) / 256) :: ((body.length : Int) % 256) :: body ++ rest).take (3 + body.length)).drop 3 = body := by
        rw [show 3 + body.length = body.length + 1 + 1 + 1 by omega]
        show (body ++ rest).take body.length = body
        exact List.take_left
      rw [e2]
      show (rdBody d (rdKids d) t.hd.1 body).map _ = _
      rw [ht']
      simp
      omega
    obtain ⟨hn0, hn1, hn2⟩ := hnum
    have htag := (Rt.facts (t := t) (room := room) ⟨_, h⟩).2.2.1
    have hoe : oeB t.hd.1 t.hd.2.1 t.hd.2.2.length t.kd.length = true := by
      simp only [bsz] at h
      split at h
      · simp at h
      · rename_i hc
        simpa using (not_or.1 hc).2
    obtain ⟨o1, o2, o3⟩ := oeB_iff.1 hoe
    have hdx : ∀ (a b : Int) (c : List Int) (ks : List (Tr d)), t.hd.1 = a → t.hd.2.1 = b → t.hd.2.2 = c → sameL (fun a b => sameT d a n b) ks t.kd = true → sameT (d + 1) (Tr.mk a b c ks) (n + 1) t = true := by
      intro a b c ks h1 h2 h3 h4
      simp only [sameT, Bool.and_eq_true, decide_eq_true_eq]
      exact ⟨Prod.ext h1.symm (Prod.ext h2.symm h3.symm), h4⟩
    have hnil : t.kd.length = 0 → sameL (fun (a : Tr d) b => sameT d a n b) [] t.kd = true := by
      intro e
      rw [List.eq_nil_of_length_eq_zero e]
      rfl
    rcases htag with e | e | e
    · have hb : numB (nsz t.hd.2.1).toNat t.hd.2.1 = body := by rw [← hB, bodyOf_1 e]
      refine ⟨Tr.mk 1 (valB body) [] [], key _ ?_, hdx _ _ _ _ e ?_ ?_ (hnil (by omega))⟩
      · unfold rdBody
        rw [if_pos e, if_neg]
        rw [← hb, numB_length]
        have := nsz_bd t.hd.2.1
        simp only [not_or]
        exact ⟨by omega, numB_head _ hn0 hn1⟩
      · rw [← hb]
        exact (val_numB _ hn0 hn1).symm
      · exact List.eq_nil_of_length_eq_zero (by omega)
    · have hb : t.hd.2.2 = body := by rw [← hB, bodyOf_2 e]
      refine ⟨Tr.mk 2 0 body [], key _ ?_, hdx _ _ _ _ e (by omega) hb (hnil (by omega))⟩
      unfold rdBody
      rw [if_neg (by omega), if_pos e]
    · have hb : (t.kd.map (formOf n)).flatten = body := by rw [← hB, bodyOf_kids e]
      simp only [bsz] at h
      rw [if_neg (by simp only [not_or]; exact ⟨by omega, by rw [hoe]; simp⟩), if_neg (by omega), if_neg (by omega), if_pos e] at h
      unfold lsz at h
      split at h
      · simp at h
      · rename_i hd0
        obtain ⟨d', rfl⟩ : ∃ d', d = d' + 1 := ⟨d - 1, by omega⟩
        obtain ⟨ks', e1, e2⟩ := rdList_same (fun t room rest a b c => form_rd n d' t room rest a b c) room hroom t.kd 0 (by omega) hn2 (by simpa using h) body.length (by rw [hb]; omega)
        refine ⟨Tr.mk 3 0 [] ks', key _ ?_, hdx _ _ _ _ e (by omega) (List.eq_nil_of_length_eq_zero (by omega)) e2⟩
        unfold rdBody
        rw [if_neg (by omega), if_neg (by omega), if_pos e]
        show (rdList (rd d') body.length body).map _ = _
        rw [← hb] at e1 ⊢
        rw [e1]
        rfl

end Go.Proofs.Ytenfahecnkdhaaa.Tlv
end

section
/-
  What Get of tlv answers.
-/
namespace Go.Proofs.Ytenfahecnkdhaaa.Tlv
open Go.RowKit

/-- The tree that bytes are. -/
def getT (bs : List Int) : Option (Tr 9) := match rd 8 bs with
  | some (t, m) => if m = bs.length then some t else none
  | none => none

set_option maxHeartbeats 1000000 in
set_option maxRecDepth 100000 in
theorem get_any (v : Value) (bs : List Int) (w : World) (h : BySl 0 w.heap.size w v bs) :
    Calls Try.prog 72 #[v] w fun e w' => ((getT bs = none ∧ e = .returned (.tuple #[.agg #[.int .i64 0, .int .u64 0, .slice none 0 0, .slice none 0 0], .int .i64 3])) ∨
      (∃ (t : Tr 9) (sb sk : Value), getT bs = some t ∧ e = .returned (.tuple #[.agg #[.int .i64 t.hd.1, .int .u64 t.hd.2.1, sb, sk], .int .i64 0]) ∧ Rep w.heap.size w'.heap.size w' 9 t sb sk)) ∧ Below w.heap.size w w' := by
  obtain ⟨a, cap, rfl, hr⟩ := id h
  clear hr
  have H := hid h
  clear h
  obtain ⟨R, hR⟩ : ∃ R, getT bs = R := ⟨_, rfl⟩
  rw [hR]
  have HR := hid hR
  clear hR
  have hS : w.heap.size ≤ (w.alloc (Obj.cells #[Value.int IntKind.i64 0, Value.int IntKind.u64 0, Value.slice none 0 0, Value.slice none 0 0] 95)).heap.size := by simp
  have hbs : Hid (BySl 0 (w.alloc (Obj.cells #[Value.int IntKind.i64 0, Value.int IntKind.u64 0, Value.slice none 0 0, Value.slice none 0 0] 95)).heap.size (w.alloc (Obj.cells #[Value.int IntKind.i64 0, Value.int IntKind.u64 0, Value.slice none 0 0, Value.slice none 0 0] 95)) (.slice a bs.length cap) bs) := H.out.agree ((Agree.refl _ _ _).alloc (Nat.le_refl _) _) (Nat.le_refl _) hS
  have hrd := hid (readOk 8 (Nat.le_refl _))
  clear hS
  obtain ⟨L, hL⟩ : ∃ L, bs.length = L := ⟨_, rfl⟩
  have HL := hid hL
  rw [hL] at hbs ⊢
  clear hL
  go_enter Try.func72, Try.ntmps72
  go_wp2_with fail
  refine (hrd.out _ bs _ hbs.out).mono ?_
  rintro e w1 ⟨hres, hb1⟩
  obtain ⟨hz, g0, g1, g2, g3, gf, hbel⟩ := res_facts hb1
  have HB := hid hbel
  clear hb1 hbel
  rcases hres with ⟨hn, rfl⟩ | ⟨t, m, sb, sk, hs, rfl, hr1⟩
  · have HN := hid hn
    clear hn
    go_wp2_with fail
    obtain ⟨q0, q1, q2, q3⟩ := set4_read (u0 := .int .i64 0) (u1 := .int .u64 0) (u2 := .slice none 0 0) (u3 := .slice none 0 0) g0 g1 g2 g3
    refine bodyPost_ret (v := .tuple #[.agg #[.int .i64 0, .int .u64 0, .slice none 0 0, .slice none 0 0], .int .i64 3]) (by simp [results, Try.results72, go_sem, q0, q1, q2, q3, hz]) rfl ⟨.inl ⟨?_, rfl⟩, (HB.out.trans (bset4 (Nat.le_refl _) _ _ _ _)).alloc (by simp; omega) _⟩
    rw [← HR.out, getT, HN.out]
  · obtain ⟨a1, l1, p1, a2, l2, p2, rfl, rfl⟩ := hr1.sl
    have HS := hid hs
    have Hr1 := hid hr1
    clear hs hr1
    by_cases hm : m = L
    · have hmb : ((m : Int) != (L : Int)) = false := by simp [hm]
      have HM := hid hm
      clear hm
      go_wp2_with fail
      obtain ⟨q0, q1, q2, q3⟩ := set4_read (u0 := .int .i64 t.hd.1) (u1 := .int .u64 t.hd.2.1) (u2 := .slice a1 l1 p1) (u3 := .slice a2 l2 p2) g0 g1 g2 g3
      refine bodyPost_ret (v := .tuple #[.agg #[.int .i64 t.hd.1, .int .u64 t.hd.2.1, .slice a1 l1 p1, .slice a2 l2 p2], .int .i64 0]) (by simp [results, Try.results72, go_sem, q0, q1, q2, q3, hz]) rfl ⟨.inr ⟨t, .slice a1 l1 p1, .slice a2 l2 p2, ?_, rfl, ?_⟩, (HB.out.trans (bset4 (Nat.le_refl _) _ _ _ _)).alloc (by simp; omega) _⟩
      · rw [← HR.out, getT, HS.out]
        simp only
        rw [if_pos (by rw [HL.out]; exact HM.out)]
      · exact Rep.agree (L' := w.heap.size) ((Agree.set4 w1 (.inl (by simp)) _ _ _ _).alloc (by simp) _) (by simp) (by simp) Hr1.out
    · have hmb : ((m : Int) != (L : Int)) = true := by simp; omega
      have HM := hid hm
      clear hm
      go_wp2_with fail
      obtain ⟨q0, q1, q2, q3⟩ := set4_read (u0 := .int .i64 0) (u1 := .int .u64 0) (u2 := .slice none 0 0) (u3 := .slice none 0 0) g0 g1 g2 g3
      refine bodyPost_ret (v := .tuple #[.agg #[.int .i64 0, .int .u64 0, .slice none 0 0, .slice none 0 0], .int .i64 3]) (by simp [results, Try.results72, go_sem, q0, q1, q2, q3, hz]) rfl ⟨.inl ⟨?_, rfl⟩, (HB.out.trans (bset4 (Nat.le_refl _) _ _ _ _)).alloc (by simp; omega) _⟩
      rw [← HR.out, getT, HS.out]
      simp only
      rw [if_neg (by rw [HL.out]; exact HM.out)]

end Go.Proofs.Ytenfahecnkdhaaa.Tlv
end

section
/-
  What forms and bytes have in common, as the statements of layers above need it.
-/
namespace Go.Proofs.Ytenfahecnkdhaaa.Tlv
open Go.RowKit

theorem bytes_news {B : Nat} {w w' : World} {ad : Addr} {l c : Nat} {bs : List Int} (h : BySl 0 B w (.slice (some ad) l c) bs) (hb : Below B w w') : ∀ j u, (bs.map (Value.int .u8))[j]? = some u → w'.cell? (ad.add j) = some u := by
  intro j u hj
  have hjn : j < bs.length := by
    have := (List.getElem?_eq_some_iff.1 hj).1
    simpa using this
  obtain ⟨a', c', e, _, _, _, _, _, h7⟩ := h
  simp only [Value.slice.injEq] at e
  obtain ⟨rfl, _, _⟩ := e
  obtain ⟨b, o, e, _, hbB, hc⟩ := h7 (by intro e; subst e; simp at hjn)
  simp only [Option.some.injEq] at e
  subst e
  rw [addr_plus, hb.cell (p := ⟨b, o + j, none⟩) hbB, hc j hjn]
  simp only [List.getElem?_map, List.getElem?_eq_getElem hjn, Option.map_some, Option.some.injEq] at hj
  simp [List.getElem?_eq_getElem hjn, hj]

theorem bytes_one (bs : List Int) : ∀ u ∈ bs.map (Value.int .u8), u.oneCell' = true := by
  intro u hu
  obtain ⟨x, _, rfl⟩ := List.mem_map.1 hu
  rfl

theorem szT_right {n : Nat} {t : Tr n} (h : szT n t ≠ 0) : (bsz n t 65535 8).2 = true := by
  unfold szT at h
  split at h
  · assumption
  · exact absurd rfl h

theorem get_form {bs : List Int} {t : Tr 9} (hb : ∀ x ∈ bs, 0 ≤ x ∧ x ≤ 255) (h : getT bs = some t) : szT 9 t ≠ 0 ∧ formOf 9 t = bs := by
  unfold getT at h
  split at h
  · rename_i t' m hr
    split at h
    · rename_i hm
      simp only [Option.some.injEq] at h
      subst h
      obtain ⟨h1, h2⟩ := rd_form 8 bs t' m hb hr
      refine ⟨?_, by rw [h1, hm, List.take_length]⟩
      have h3 : (bsz 9 t' 65535 8).2 = true := h2
      rw [szT, if_pos h3, bsz_len _ _ _ _ h3]
      omega
    · cases h
  · cases h

theorem BySl.bytes {L B : Nat} {w : World} {v : Value} {bs : List Int} (h : BySl L B w v bs) : ∀ x ∈ bs, 0 ≤ x ∧ x ≤ 255 := by
  obtain ⟨_, _, _, _, _, _, _, h6, _⟩ := h
  exact h6

end Go.Proofs.Ytenfahecnkdhaaa.Tlv
end

section
/-
  What the program makes of files and entries: objects.
-/
namespace Go.Proofs.Ytenfahecnkdhaaa.Nd
open Go.RowKit
open Tlv (Tr Agree)
open Sim (hid Kp No)

/-- A value that an object has room for. -/
def objP (t : Tr 3) : Prop := Tlv.szT 3 t ≠ 0 ∧ (Tlv.formOf 3 t).length ≤ 5000
/-- What is answered of a value: the object, or BadArg. -/
def OAns (u w : World) (K : Int) (t : Tr 3) (e : Ending) : Prop :=
  (objP t ∧ ∃ a c, e = .returned (.tuple #[.agg #[.int .i64 K, .slice a (Tlv.formOf 3 t).length c], .int .i64 0]) ∧ Tlv.BySl u.heap.size w.heap.size w (.slice a (Tlv.formOf 3 t).length c) (Tlv.formOf 3 t)) ∨
  (¬ objP t ∧ e = .returned (.tuple #[.agg #[.int .i64 0, .slice none 0 0], .int .i64 1]))

theorem set2_read {w : World} {b : Nat} {u0 u1 x0 x1 : Value} (h0 : w.cell? ⟨b, 0, none⟩ = some x0) (h1 : w.cell? ⟨b, 1, none⟩ = some x1) :
    ((w.setCell ⟨b, 0, none⟩ u0).setCell ⟨b, 1, none⟩ u1).cell? ⟨b, 0, none⟩ = some u0 ∧ ((w.setCell ⟨b, 0, none⟩ u0).setCell ⟨b, 1, none⟩ u1).cell? ⟨b, 1, none⟩ = some u1 := by
  have e1 : (⟨b, 0, none⟩ : Addr) ≠ ⟨b, 1, none⟩ := by simp
  refine ⟨?_, ?_⟩
  · simp [go_sem, h0]
  · simp [go_sem, h1]
set_option maxHeartbeats 1000000 in
theorem fits_any (w : World) (x : Option Addr) (n c : Nat) :
    Calls Try.prog 64 #[.slice x n c] w fun e w' => e = .returned (.bool (decide ((n : Int) ≤ 5000))) ∧ w' = w := by
  go_enter Try.func64, Try.ntmps64
  go_wp2
  go_ret
  exact ⟨rfl, rfl⟩

set_option maxHeartbeats 2000000 in
theorem fright_any (w : World) (s : Int) (x : Option Addr) (n c : Nat) (hn : n ≤ 1000000) :
    Calls Try.prog 37 #[.agg #[.int .i64 s, .slice x n c]] w fun e w' => e = .returned (.bool (fileB s n)) ∧ Below w.heap.size w w' := by
  have HK : Hid (Below w.heap.size w (w.alloc (.cells #[.int .i64 s, .slice x n c] 35))) := (Below.refl _ w).alloc (Nat.le_refl _) _
  have fin : ∀ b, (b = true ↔ (0 ≤ s ∧ s ≤ 2000 ∧ (n : Int) ≤ s ∧ (s = 0 ∨ 0 < n))) → fileB s n = b := fun b h => by
    unfold fileB
    rw [Bool.eq_iff_iff, decide_eq_true_eq]
    exact h.symm
  have HF := hid fin
  clear fin
  by_cases h1 : s < 0
  · have e := HF.out false ⟨fun h => (by cases h), fun h => by omega⟩
    rw [e]
    have h1b : decide (s < 0) = true := by simpa using h1
    clear e
    go_enter Try.func37, Try.ntmps37
    go_wp2
    go_ret
    exact ⟨rfl, HK.out⟩
  · have h1b : decide (s < 0) = false := by simpa using h1
    by_cases h2 : s > 2000
    · have e := HF.out false ⟨fun h => (by cases h), fun h => by omega⟩
      rw [e]
      clear e
      go_enter Try.func37, Try.ntmps37
      go_wp2
      go_ret
      exact ⟨rfl, HK.out⟩
    · by_cases h0 : s = 0
      · subst h0
        by_cases h3 : (n : Int) ≤ 0
        · have e := HF.out true ⟨fun _ => ⟨by omega, by omega, h3, .inl rfl⟩, fun _ => rfl⟩
          rw [e]
          clear e
          go_enter Try.func37, Try.ntmps37
          go_wp2
          go_ret
          exact ⟨by simp [show n = 0 by omega], HK.out⟩
        · have e := HF.out false ⟨fun h => (by cases h), fun h => absurd h.2.2.1 h3⟩
          rw [e]
          clear e
          go_enter Try.func37, Try.ntmps37
          go_wp2
          go_ret
          exact ⟨by simp [show ¬ n = 0 by omega], HK.out⟩
      · have hm : min s 1 = 1 := by omega
        by_cases h3 : (1 : Int) ≤ (n : Int)
        · by_cases h4 : (n : Int) ≤ s
          · have e := HF.out true ⟨fun _ => ⟨by omega, by omega, h4, .inr (by omega)⟩, fun _ => rfl⟩
            rw [e]
            clear e
            go_enter Try.func37, Try.ntmps37
            go_wp2
            go_ret
            exact ⟨rfl, HK.out⟩
          · have e := HF.out false ⟨fun h => (by cases h), fun h => absurd h.2.2.1 h4⟩
            rw [e]
            clear e
            go_enter Try.func37, Try.ntmps37
            go_wp2
            go_ret
            exact ⟨rfl, HK.out⟩
        · have e := HF.out false ⟨fun h => (by cases h), fun h => by rcases h.2.2.2 with h | h; exact absurd h h0; omega⟩
          rw [e]
          clear e
          go_enter Try.func37, Try.ntmps37
          go_wp2
          go_ret
          exact ⟨rfl, HK.out⟩

set_option maxHeartbeats 2000000 in
set_option maxRecDepth 100000 in
/-- object, of any value that a closure makes. -/
theorem object_any (w : World) (K : Int) (f : FuncId) (u : Value) (t : Tr 3) (h3 : t.hd.1 = 3) (h0 : t.hd.2.1 = 0) (hent : ∀ args w, (callFunc f args).run Try.prog w = .ok (.enter f args) w)
    (hf : ∀ V, Below w.heap.size w V → Calls Try.prog f #[u] V fun e w' => ∃ a3 l3 p3 a4 l4 p4, e = .returned (.agg #[.int .i64 3, .int .u64 0, .slice a3 l3 p3, .slice a4 l4 p4]) ∧ Tlv.Rep V.heap.size w'.heap.size w' 3 t (.slice a3 l3 p3) (.slice a4 l4 p4) ∧ Below V.heap.size V w') :
    Calls Try.prog 38 #[.int .i64 K, .func (.func f) #[u] #[]] w fun e w' => OAns w w' K t e ∧ Below w.heap.size w w' := by
  have HF := hid hf
  have HPN := hid (fun (V : World) (sb sk : Value) (h : Tlv.Rep 0 V.heap.size V 3 t sb sk) (hz : Tlv.szT 3 t = 0) => Tlv.Put_no t sb sk V h hz)
  have HPY := hid (fun (V : World) (sb sk : Value) (h : Tlv.Rep 0 V.heap.size V 3 t sb sk) (hz : Tlv.szT 3 t ≠ 0) => Tlv.Put_yes t sb sk V h hz)
  rw [h3, h0] at HPN HPY
  have HZ : Hid (Tlv.szT 3 t = 0 ∨ Tlv.szT 3 t ≠ 0) := by rw [Hid]; omega
  clear hf h3 h0
  go_enter Try.func38, Try.ntmps38
  go_wp2_with fail
  refine (HF.out _ ((Below.refl _ _).alloc (Nat.le_refl _) _)).mono ?_
  rintro e w1 ⟨a3, l3, p3, a4, l4, p4, rfl, hr1, hb1⟩
  have HR1 := hid (hr1.agree (Agree.refl _ _ _) (Nat.zero_le _) (Nat.le_refl _))
  have HB1 : Hid (Below w.heap.size w w1) := ((Below.refl _ _).alloc (Nat.le_refl _) _).trans (hb1.mono (by simp))
  have hgw : w.heap.size < w1.heap.size := by have := hb1.size; simp at this; omega
  have HC1 : Hid (∀ V, Below w1.heap.size w1 V → V.cell? ⟨w.heap.size, 0, none⟩ = some (.int .i64 0) ∧ V.cell? ⟨w.heap.size, 1, none⟩ = some (.slice none 0 0) ∧ (∀ o, V.frozen? ⟨w.heap.size, o, none⟩ = false) ∧ w.heap.size < V.heap.size) := fun V hV => by
    have hs := hV.size
    refine ⟨?_, ?_, fun o => ?_, by omega⟩
    · rw [hV.cell (p := ⟨w.heap.size, 0, none⟩) hgw, hb1.cell (p := ⟨w.heap.size, 0, none⟩) (by simp)]; simp [go_sem]
    · rw [hV.cell (p := ⟨w.heap.size, 1, none⟩) hgw, hb1.cell (p := ⟨w.heap.size, 1, none⟩) (by simp)]; simp [go_sem]
    · rw [hV.frozen (p := ⟨w.heap.size, o, none⟩) hgw, hb1.frozen (p := ⟨w.heap.size, o, none⟩) (by simp)]; simp [go_sem]
  clear hr1 hb1
  rcases HZ.out with hz | hz
  · have HQ := HPN.out w1 _ _ HR1.out hz
    have HN : Hid (¬ objP t) := fun h => h.1 hz
    clear hz HPN HPY HF
    go_wp2_with fail
    refine HQ.mono ?_
    rintro e w2 ⟨rfl, hb2⟩
    have HB2 : Hid (Below w.heap.size w w2) := HB1.out.trans (hb2.mono HB1.out.size)
    obtain ⟨g0, g1, gf, hg2⟩ := HC1.out w2 hb2
    clear hb2 HQ
    go_wp2_with fail
    obtain ⟨q0, q1⟩ := set2_read (u0 := .int .i64 0) (u1 := .slice none 0 0) g0 g1
    refine bodyPost_ret (v := .tuple #[.agg #[.int .i64 0, .slice none 0 0], .int .i64 1]) (by simp [results, Try.results38, go_sem, q0, q1]) rfl ?_
    refine ⟨.inr ⟨HN.out, rfl⟩, ?_⟩
    exact (HB2.out.setCell (by simp) _).setCell (by simp) _
  · have HQ := HPY.out w1 _ _ HR1.out hz
    have HSZ := hid hz
    clear hz HPN HPY HF
    go_wp2_with fail
    refine HQ.mono ?_
    rintro e w2 ⟨v2, rfl, hv2, hb2⟩
    have HB2 : Hid (Below w.heap.size w w2) := HB1.out.trans (hb2.mono HB1.out.size)
    have HV2 := hid hv2
    obtain ⟨av, cv, rfl, _⟩ := hv2
    obtain ⟨g0, g1, gf, hg2⟩ := HC1.out w2 hb2
    have HG1 := hid hgw
    have HS1 := hid hb2.size
    clear hb2 HQ hgw
    obtain ⟨m, hm⟩ : ∃ m, (Tlv.formOf 3 t).length = m := ⟨_, rfl⟩
    have HM := hid hm
    have HFT := hid (fits_any w2 av m cv)
    rw [hm] at HV2
    have hoa : ∀ e w', ((m ≤ 5000 ∧ ∃ a c, e = .returned (.tuple #[.agg #[.int .i64 K, .slice a m c], .int .i64 0]) ∧ Tlv.BySl w.heap.size w'.heap.size w' (.slice a m c) (Tlv.formOf 3 t)) ∨ (¬ m ≤ 5000 ∧ e = .returned (.tuple #[.agg #[.int .i64 0, .slice none 0 0], .int .i64 1]))) → OAns w w' K t e := fun e w' h => by
      unfold OAns objP
      rw [HM.out]
      rcases h with ⟨h, h'⟩ | ⟨h, h'⟩
      · exact .inl ⟨⟨HSZ.out, h⟩, h'⟩
      · exact .inr ⟨fun h2 => h h2.2, h'⟩
    have HOA := hid hoa
    rw [hm]
    clear hm hoa
    by_cases hl : (m : Int) ≤ 5000
    · have hd : decide ((m : Int) ≤ 5000) = true := by simpa using hl
      rw [hd] at HFT
      go_wp2_with fail
      refine HFT.out.mono ?_
      rintro e w3 ⟨rfl, rfl⟩
      go_wp2_with fail
      obtain ⟨q0, q1⟩ := set2_read (u0 := .int .i64 K) (u1 := .slice av m cv) g0 g1
      refine bodyPost_ret (v := .tuple #[.agg #[.int .i64 K, .slice av m cv], .int .i64 0]) (by simp [results, Try.results38, go_sem, q0, q1]) rfl ?_
      refine ⟨HOA.out _ _ (.inl ⟨by omega, _, _, rfl, ?_⟩), ?_⟩
      · have h1 := HG1.out
        exact HV2.out.agree (((Agree.refl _ _ _).setCell (.inl (by simp; omega)) _).setCell (.inl (by simp; omega)) _) (by omega) (by simp)
      · exact (HB2.out.setCell (by simp) _).setCell (by simp) _
    · have hd : decide ((m : Int) ≤ 5000) = false := by simpa using hl
      rw [hd] at HFT
      go_wp2_with fail
      refine HFT.out.mono ?_
      rintro e w3 ⟨rfl, rfl⟩
      go_wp2_with fail
      obtain ⟨q0, q1⟩ := set2_read (u0 := .int .i64 0) (u1 := .slice none 0 0) g0 g1
      refine bodyPost_ret (v := .tuple #[.agg #[.int .i64 0, .slice none 0 0], .int .i64 1]) (by simp [results, Try.results38, go_sem, q0, q1]) rfl ?_
      refine ⟨HOA.out _ _ (.inr ⟨by omega, rfl⟩), ?_⟩
      exact (HB2.out.setCell (by simp) _).setCell (by simp) _
end Go.Proofs.Ytenfahecnkdhaaa.Nd
end

section
/-
  PutDir, PutFile and Chunk, of the program.
-/
namespace Go.Proofs.Ytenfahecnkdhaaa.Nd
open Go.RowKit
open Tlv (Tr Agree)
open Sim (hid Kp No)

theorem bel_of {w w' : World} (k : Kp No w w') : Below w.heap.size w w' := ⟨k.os, k.tape, k.output, k.size, fun j hj => k.block j hj (fun x => x)⟩
/-- What PutDir answers. -/
def DAns (u w : World) (d : List Ent) (e : Ending) : Prop := (RightP d ∧ OAns u w 3 (entsT d) e) ∨ (¬ RightP d ∧ e = .returned (.tuple #[.agg #[.int .i64 0, .slice none 0 0], .int .i64 1]))
/-- What PutFile answers. -/
def FiAns (u w : World) (s : Int) (d : List (List Int)) (e : Ending) : Prop := (fileB s d.length = true ∧ OAns u w 2 (fileT s d) e) ∨ (fileB s d.length = false ∧ e = .returned (.tuple #[.agg #[.int .i64 0, .slice none 0 0], .int .i64 1]))
set_option maxHeartbeats 2000000 in
set_option maxRecDepth 100000 in
theorem putDir_any (w : World) (v : Value) (d : List Ent) (P : Nat → Prop) (hv : EV P w v d) (hl : d.length ≤ 1000000) (hsz : ∀ e ∈ d, e.1.length ≤ 1000000) :
    Calls Try.prog 12 #[v] w fun e w' => DAns w w' d e ∧ Below w.heap.size w w' := by
  have HV := hid hv
  have HK0 : Hid (Kp No w (w.alloc (.cells #[.int .i64 0, .slice none 0 0] 31))) := (Kp.refl No w).alloc _
  have HR := hid (right_any _ v d P (hv.kept HK0.out) hl hsz)
  have HVAL := hid (fun (V : World) (hV : Kp No w V) => value_any V v d P (hv.kept hV) hsz hl)
  obtain ⟨a, c, rfl, _⟩ := hv
  clear hl hsz
  go_enter Try.func12, Try.ntmps12
  go_wp2_with fail
  refine HR.out.mono ?_
  rintro e w1 ⟨⟨b, rfl, hb⟩, hk⟩
  have HK1 : Hid (Kp No w w1) := HK0.out.andNone hk
  have HB1 := hid (bel_of HK1.out)
  have hgw : w.heap.size < w1.heap.size := by have := hk.size; simp at this; omega
  have HC1 : Hid (∀ V, Below w1.heap.size w1 V → V.cell? ⟨w.heap.size, 0, none⟩ = some (.int .i64 0) ∧ V.cell? ⟨w.heap.size, 1, none⟩ = some (.slice none 0 0) ∧ (∀ o, V.frozen? ⟨w.heap.size, o, none⟩ = false) ∧ w.heap.size < V.heap.size) := fun V hV => by
    have hs := hV.size
    refine ⟨?_, ?_, fun o => ?_, by omega⟩
    · rw [hV.cell (p := ⟨w.heap.size, 0, none⟩) hgw, hk.cell (p := ⟨w.heap.size, 0, none⟩) (by simp) (fun x => x)]; simp [go_sem]
    · rw [hV.cell (p := ⟨w.heap.size, 1, none⟩) hgw, hk.cell (p := ⟨w.heap.size, 1, none⟩) (by simp) (fun x => x)]; simp [go_sem]
    · rw [hV.frozen (p := ⟨w.heap.size, o, none⟩) hgw, hk.frozen (p := ⟨w.heap.size, o, none⟩) (by simp) (fun x => x)]; simp [go_sem]
  have HRB := hid hb
  clear hk hb HR HK0
  cases b with
  | false =>
    obtain ⟨g0, g1, gf, hg2⟩ := HC1.out w1 (Below.refl _ _)
    have HN : Hid (¬ RightP d) := fun h => by have := HRB.out.2 h; simp at this
    go_wp2_with fail
    obtain ⟨q0, q1⟩ := set2_read (u0 := .int .i64 0) (u1 := .slice none 0 0) g0 g1
    refine bodyPost_ret (v := .tuple #[.agg #[.int .i64 0, .slice none 0 0], .int .i64 1]) (by simp [results, Try.results12, go_sem, q0, q1]) rfl ?_
    exact ⟨.inr ⟨HN.out, rfl⟩, (HB1.out.setCell (by simp) _).setCell (by simp) _⟩
  | true =>
    have HY : Hid (RightP d) := HRB.out.1 rfl
    have HO := hid (object_any w1 3 45 _ (entsT d) rfl rfl (enters_of Try.func45 (by kernel_rfl) rfl) (fun V hV => HVAL.out V (HK1.out.andNone (Kp.below hV))))
    go_wp2_with fail
    refine HO.out.mono ?_
    rintro e w2 ⟨ho, hb2⟩
    obtain ⟨g0, g1, gf, hg2⟩ := HC1.out w2 hb2
    have HB2 : Hid (Below w.heap.size w w2) := HB1.out.trans (hb2.mono HB1.out.size)
    have HSZ := hid HB1.out.size
    clear hb2 HO HVAL
    rcases ho with ⟨hp, a1, c1, rfl, hby⟩ | ⟨hn, rfl⟩
    · have HBY := hid hby
      clear hby
      go_wp2_with fail
      obtain ⟨q0, q1⟩ := set2_read (u0 := .int .i64 3) (u1 := .slice a1 (Tlv.formOf 3 (entsT d)).length c1) g0 g1
      refine bodyPost_ret (v := .tuple #[.agg #[.int .i64 3, .slice a1 (Tlv.formOf 3 (entsT d)).length c1], .int .i64 0]) (by simp [results, Try.results12, go_sem, q0, q1]) rfl ?_
      refine ⟨.inl ⟨HY.out, .inl ⟨hp, _, _, rfl, ?_⟩⟩, (HB2.out.setCell (by simp) _).setCell (by simp) _⟩
      exact HBY.out.agree (((Agree.refl _ _ _).setCell (.inl (by simp; omega)) _).setCell (.inl (by simp; omega)) _) HSZ.out (by simp)
    · go_wp2_with fail
      obtain ⟨q0, q1⟩ := set2_read (u0 := .int .i64 0) (u1 := .slice none 0 0) g0 g1
      refine bodyPost_ret (v := .tuple #[.agg #[.int .i64 0, .slice none 0 0], .int .i64 1]) (by simp [results, Try.results12, go_sem, q0, q1]) rfl ?_
      exact ⟨.inl ⟨HY.out, .inr ⟨hn, rfl⟩⟩, (HB2.out.setCell (by simp) _).setCell (by simp) _⟩

set_option maxHeartbeats 2000000 in
set_option maxRecDepth 100000 in
theorem putFile_any (w : World) (s : Int) (v : Value) (d : List (List Int)) (hv : HV (· < w.heap.size) w v d) (hl : d.length ≤ 1000000) :
    Calls Try.prog 9 #[.agg #[.int .i64 s, v]] w fun e w' => FiAns w w' s d e ∧ Below w.heap.size w w' := by
  have HVV := hid hv
  obtain ⟨a, c, rfl, _⟩ := hv
  obtain ⟨W0, hW0⟩ : ∃ W0, (w.alloc (.cells #[.int .i64 s, .slice a d.length c] 35)).alloc (.cells #[.int .i64 0, .slice none 0 0] 31) = W0 := ⟨_, rfl⟩
  have HW0 := hid hW0
  have HB0 : Hid (Below w.heap.size w W0) := by rw [Hid, ← hW0]; exact ((Below.refl _ _).alloc (Nat.le_refl _) _).alloc (by simp) _
  have hz0 : W0.heap.size = w.heap.size + 2 := by rw [← hW0]; simp
  have HC0 : Hid (∀ V, Below W0.heap.size W0 V → V.cell? ⟨w.heap.size, 0, none⟩ = some (.int .i64 s) ∧ V.cell? ⟨w.heap.size, 1, none⟩ = some (.slice a d.length c) ∧ V.cell? ⟨w.heap.size + 1, 0, none⟩ = some (.int .i64 0) ∧ V.cell? ⟨w.heap.size + 1, 1, none⟩ = some (.slice none 0 0) ∧ (∀ o, V.frozen? ⟨w.heap.size + 1, o, none⟩ = false) ∧ w.heap.size + 1 < V.heap.size) := fun V hV => by
    have hs := hV.size
    refine ⟨?_, ?_, ?_, ?_, fun o => ?_, by omega⟩
    · rw [hV.cell (p := ⟨w.heap.size, 0, none⟩) (by simp; omega), ← hW0]; simp [go_sem]
    · rw [hV.cell (p := ⟨w.heap.size, 1, none⟩) (by simp; omega), ← hW0]; simp [go_sem]
    · rw [hV.cell (p := ⟨w.heap.size + 1, 0, none⟩) (by simp; omega), ← hW0]; simp [go_sem]
    · rw [hV.cell (p := ⟨w.heap.size + 1, 1, none⟩) (by simp; omega), ← hW0]; simp [go_sem]
    · rw [hV.frozen (p := ⟨w.heap.size + 1, o, none⟩) (by simp; omega), ← hW0]; simp [go_sem]
  obtain ⟨n, hn⟩ : ∃ n, d.length = n := ⟨_, rfl⟩
  have HN := hid hn
  have HR := hid (fright_any W0 s a n c (by omega))
  rw [hn] at HVV hl HC0 hW0 HW0 ⊢
  have hfi : ∀ e w', ((fileB s n = true ∧ OAns w w' 2 (fileT s d) e) ∨ (fileB s n = false ∧ e = .returned (.tuple #[.agg #[.int .i64 0, .slice none 0 0], .int .i64 1]))) → FiAns w w' s d e := fun e w' h => by
    unfold FiAns
    rw [HN.out]
    exact h
  have HFI := hid hfi
  clear hn hfi hW0
  go_enter Try.func9, Try.ntmps9
  go_wp2_with fail
  rw [HW0.out]
  refine HR.out.mono ?_
  rintro e w1 ⟨rfl, hb1⟩
  have HB1 : Hid (Below w.heap.size w w1) := HB0.out.trans (hb1.mono HB0.out.size)
  have HB01 := hid hb1
  obtain ⟨f0, f1, g0, g1, gf, hg2⟩ := HC0.out w1 hb1
  clear hb1 HR HW0
  obtain ⟨b, hb⟩ : ∃ b, fileB s n = b := ⟨_, rfl⟩
  have HBB := hid hb
  rw [hb]
  clear hb
  cases b with
  | false =>
    go_wp2_with fail
    obtain ⟨q0, q1⟩ := set2_read (u0 := .int .i64 0) (u1 := .slice none 0 0) g0 g1
    refine bodyPost_ret (v := .tuple #[.agg #[.int .i64 0, .slice none 0 0], .int .i64 1]) (by simp [results, Try.results9, go_sem, q0, q1]) rfl ?_
    exact ⟨HFI.out _ _ (.inr ⟨HBB.out, rfl⟩), (HB1.out.setCell (by simp) _).setCell (by simp) _⟩
  | true =>
    have hs0 : 0 ≤ s ∧ s ≤ 1000000 := by
      have := HBB.out
      simp only [fileB, decide_eq_true_eq] at this
      omega
    have hle := HB1.out.size
    have HO := hid (object_any w1 2 39 (.agg #[.int .i64 s, .slice a n c]) (fileT s d) rfl rfl (enters_of Try.func39 (by kernel_rfl) rfl) (fun V hV => fvalue_any V s _ d _ (HVV.out.kept (Kp.below (HB1.out.trans (hV.mono hle)))) (fun g hg => by have := hV.size; omega) hs0 (by rw [HN.out]; exact hl)))
    go_wp2_with fail
    refine HO.out.mono ?_
    rintro e w2 ⟨ho, hb2⟩
    clear f0 f1 g0 g1 gf hg2
    obtain ⟨f0, f1, g0, g1, gf, hg2⟩ := HC0.out w2 (HB01.out.trans (hb2.mono HB01.out.size))
    have HB2 : Hid (Below w.heap.size w w2) := HB1.out.trans (hb2.mono HB1.out.size)
    have HSZ := hid HB01.out.size
    clear hb2 HO
    rcases ho with ⟨hp, a1, c1, rfl, hby⟩ | ⟨hn, rfl⟩
    · have HBY := hid hby
      clear hby
      go_wp2_with fail
      obtain ⟨q0, q1⟩ := set2_read (u0 := .int .i64 2) (u1 := .slice a1 (Tlv.formOf 3 (fileT s d)).length c1) g0 g1
      refine bodyPost_ret (v := .tuple #[.agg #[.int .i64 2, .slice a1 (Tlv.formOf 3 (fileT s d)).length c1], .int .i64 0]) (by simp [results, Try.results9, go_sem, q0, q1]) rfl ?_
      refine ⟨HFI.out _ _ (.inl ⟨HBB.out, .inl ⟨hp, _, _, rfl, ?_⟩⟩), (HB2.out.setCell (by simp) _).setCell (by simp) _⟩
      have h1 := HSZ.out
      exact HBY.out.agree (((Agree.refl _ _ _).setCell (.inl (by simp; omega)) _).setCell (.inl (by simp; omega)) _) (by omega) (by simp)
    · go_wp2_with fail
      obtain ⟨q0, q1⟩ := set2_read (u0 := .int .i64 0) (u1 := .slice none 0 0) g0 g1
      refine bodyPost_ret (v := .tuple #[.agg #[.int .i64 0, .slice none 0 0], .int .i64 1]) (by simp [results, Try.results9, go_sem, q0, q1]) rfl ?_
      exact ⟨HFI.out _ _ (.inl ⟨HBB.out, .inr ⟨hn, rfl⟩⟩), (HB2.out.setCell (by simp) _).setCell (by simp) _⟩

set_option maxHeartbeats 1000000 in
theorem chunkRight_any (w : World) (x : Option Addr) (n c : Nat) :
    Calls Try.prog 46 #[.slice x n c] w fun e w' => e = .returned (.bool (decide (1 ≤ n ∧ n ≤ 4096))) ∧ w' = w := by
  by_cases h1 : (1 : Int) ≤ (n : Int)
  · by_cases h2 : (n : Int) ≤ 4096
    · have e : decide (1 ≤ n ∧ n ≤ 4096) = true := by simp; omega
      rw [e]
      clear e
      go_enter Try.func46, Try.ntmps46
      go_wp2
      go_ret
      exact ⟨rfl, rfl⟩
    · have e : decide (1 ≤ n ∧ n ≤ 4096) = false := by simp; omega
      rw [e]
      clear e
      go_enter Try.func46, Try.ntmps46
      go_wp2
      go_ret
      exact ⟨rfl, rfl⟩
  · have e : decide (1 ≤ n ∧ n ≤ 4096) = false := by simp; omega
    rw [e]
    clear e
    go_enter Try.func46, Try.ntmps46
    go_wp2
    go_ret
    exact ⟨rfl, rfl⟩

end Go.Proofs.Ytenfahecnkdhaaa.Nd
end

section
/-
  hash, of the program: the first bytes as a hash.
-/
namespace Go.Proofs.Ytenfahecnkdhaaa.Nd
open Go.RowKit
open Tlv (Tr Agree)
open Sim (hid Kp No)

/-- The first 32 bytes, noughts behind them where there are too few. -/
def h32 (bs : List Int) : List Int := bs.take 32 ++ List.replicate (32 - bs.length) 0
theorem h32_ok {bs : List Int} (h : ∀ x ∈ bs, 0 ≤ x ∧ x ≤ 255) : HOk (h32 bs) := by
  refine ⟨by simp [h32]; omega, fun x hx => ?_⟩
  rcases List.mem_append.1 hx with hx | hx
  · exact h x (List.mem_of_mem_take hx)
  · rw [List.eq_of_mem_replicate hx]
    omega
theorem h32_same {bs : List Int} (h : bs.length = 32) : h32 bs = bs := by
  simp [h32, h, List.take_of_length_le]
def zHash : List Value := List.replicate 32 (.int .u8 0)
theorem zHash_splice (bs : List Int) : splice zHash 0 (b8 (bs.take 32)) = b8 (h32 bs) := by
  unfold splice h32 zHash b8
  simp only [List.take_zero, List.nil_append, Nat.zero_add, List.length_map, List.length_take, List.drop_replicate, List.map_append, List.map_replicate]
  congr 2
  omega
theorem zHash_lit : zHash.toArray = #[.int .u8 0, .int .u8 0, .int .u8 0, .int .u8 0, .int .u8 0, .int .u8 0, .int .u8 0, .int .u8 0, .int .u8 0, .int .u8 0, .int .u8 0, .int .u8 0, .int .u8 0, .int .u8 0, .int .u8 0, .int .u8 0, .int .u8 0, .int .u8 0, .int .u8 0, .int .u8 0, .int .u8 0, .int .u8 0, .int .u8 0, .int .u8 0, .int .u8 0, .int .u8 0, .int .u8 0, .int .u8 0, .int .u8 0, .int .u8 0, .int .u8 0, .int .u8 0] := by rfl
theorem info1 : (Try.prog.info? 5).map (·.size) = some 1 := by kernel_rfl
theorem results_cell_one {P : Program} {fn : Func} {p : Tmp} {ty : TypeId} (h : fn.results = #[.cell p ty]) (tmps : Array Value) (w : World) (g o : Nat) (cs : List Value) (d : TypeDesc)
    (hp : tmps.getD p undef = .pointer (some ⟨g, o, none⟩)) (hc : w.rangeAt g o cs) (hu : P.underlying ty = some d) (hd : d.isRow = true) (hi : (P.info? ty).map (·.size) = some cs.length) :
    (results fn tmps).run P w = .ok (.agg cs.toArray) w := by
  have hp' : tmps[p]?.getD undef = .pointer (some ⟨g, o, none⟩) := by simpa using hp
  simp [results, h, hp', asAddr, run_loadVar_mid w g o ty cs d hc hu hd hi]
theorem row_range {w : World} {g : Nat} {C : List Value} {t : TypeId} (h : w.heap[g]? = some (.cells C.toArray t (0, 0))) : w.rangeAt g 0 C := fun j v hv => by
  rw [Nat.zero_add, cell_of_row w g j C.toArray t (0, 0) h]
  simpa using hv
theorem row_there {w : World} {g : Nat} {cs : Array Value} {t : TypeId} (h : w.heap[g]? = some (.cells cs t (0, 0))) (o n : Nat) (hn : o + n ≤ cs.size) : w.there g o n := fun j hj => by
  have hlt : o + j < cs.size := by omega
  rw [cell_of_row w g (o + j) cs t (0, 0) h, frozen_of_row w g _ cs t h]
  exact ⟨by simp [hlt], rfl⟩

theorem setCells_bel {B g : Nat} (h : B ≤ g) (w : World) (o : Nat) (cs : List Value) : Below B w (w.setCells g o cs) := by
  induction cs generalizing w o with
  | nil => exact Below.refl _ _
  | cons c cs ih => rw [World.setCells]; exact ((Below.refl B w).setCell (p := ⟨g, o, none⟩) h c).trans (ih _ _)

set_option maxHeartbeats 2000000 in
set_option maxRecDepth 100000 in
theorem hash_any (w : World) (v : Value) (bs : List Int) (hv : Tlv.BySl 0 w.heap.size w v bs) :
    Calls Try.prog 73 #[v] w fun e w' => e = .returned (.agg (b8 (h32 bs)).toArray) ∧ Below w.heap.size w w' := by
  obtain ⟨a, c, rfl, h2, h3, h4, h5, h6, h7⟩ := hv
  obtain ⟨n, hn⟩ : ∃ n, bs.length = n := ⟨_, rfl⟩
  rw [hn] at h2 h5 ⊢
  have HOK := hid (h32_ok h6)
  obtain ⟨W0, hW0⟩ : ∃ W0, w.alloc (.cells zHash.toArray 68) = W0 := ⟨_, rfl⟩
  have HW0 := hid hW0
  have HB0 : Hid (Below w.heap.size w W0) := by rw [Hid, ← hW0]; exact (Below.refl _ _).alloc (Nat.le_refl _) _
  have HG0 : Hid (W0.heap[w.heap.size]? = some (.cells zHash.toArray 68 (0, 0))) := by rw [Hid, ← hW0]; exact heap_alloc_new _ _
  obtain ⟨cs, hcs⟩ : ∃ cs, b8 (bs.take 32) = cs := ⟨_, rfl⟩
  have HSP : Hid (splice zHash 0 cs = b8 (h32 bs)) := by rw [← hcs]; exact zHash_splice bs
  have HCN : Hid (cs.length = Nat.min n 32) := by rw [Hid, ← hcs, b8_length, List.length_take, hn, Nat.min_comm]
  have HC1 : Hid (∀ v ∈ cs, v.oneCell' = true) := by rw [← hcs]; exact b8_one _
  have HPOS : Hid (0 < cs.length → ∃ ad, a = some ad ∧ ∀ j u, cs[j]? = some u → W0.cell? (ad.add j) = some u) := fun hc => by
    have hne : bs ≠ [] := fun e => by have := HCN.out; rw [e] at hn; simp at hn; rw [← hn] at this; simp at this; rw [this] at hc; simp at hc
    obtain ⟨b, o, rfl, _, hb, hcell⟩ := h7 hne
    refine ⟨_, rfl, fun j u hj => ?_⟩
    have hjl : j < cs.length := (List.getElem?_eq_some_iff.1 hj).1
    have hjn : j < bs.length := by have := HCN.out; rw [this] at hjl; exact Nat.lt_of_lt_of_le hjl (by rw [hn]; exact Nat.min_le_left _ _)
    have hj32 : j < 32 := by have := HCN.out; rw [this] at hjl; exact Nat.lt_of_lt_of_le hjl (Nat.min_le_right _ _)
    have e : (⟨b, o, none⟩ : Addr).add j = ⟨b, o + j, none⟩ := by unfold Addr.add; split <;> simp_all
    rw [e, HB0.out.cell (p := ⟨b, o + j, none⟩) hb, hcell j hjn]
    rw [← hcs] at hj
    simp only [b8, List.getElem?_map, List.getElem?_take, hj32, if_true, List.getElem?_eq_getElem hjn, Option.map_some, Option.some.injEq] at hj
    rw [← hj]
    simp [List.getElem?_eq_getElem hjn]
  have HIR : Hid ((Try.prog.info? 68).map (·.size) = some (b8 (h32 bs)).length) := by rw [Hid, b8_length, HOK.out.1]; exact infH
  have HRL : Hid ((b8 (h32 bs)).length = 32) := by rw [Hid, b8_length, HOK.out.1]
  have HR1 := hid (b8_one (h32 bs))
  obtain ⟨R, hR⟩ : ∃ R, b8 (h32 bs) = R := ⟨_, rfl⟩
  rw [hR] at HSP HIR HRL HR1 ⊢
  have HFIT : Hid (0 + cs.length ≤ zHash.length) := by rw [Hid, HCN.out, Nat.zero_add]; exact Nat.min_le_right _ _
  rw [zHash_lit] at hW0
  clear h2 h3 h4 h5 h6 h7 hn hcs hR
  go_enter Try.func73, Try.ntmps73
  go_wp2_with (first
    | (refine wpList_copy_splice (by rfl) _ _ 26 26 (by rfl) 5 Try.underlying26 info1 _ _ _ _ _ _ (by rfl) (by rfl) w.heap.size 0 zHash 68 HG0.out cs HCN.out (fun h => ⟨rfl, HPOS.out h⟩) HFIT.out HC1.out w.heap.size w HB0.out (Nat.le_refl _) ?_; intro w2 hg2 hb2; rw [HSP.out] at hg2)
    | (refine wpList_load_mid (by rfl) 68 _ (by rfl) w.heap.size 0 (by rfl) R _ (row_range hg2.out) Try.underlying68 rfl HIR.out ?_)
    | (refine wpList_store_mid (by rfl) 68 _ _ (by rfl) w.heap.size 0 R.toArray (by rfl) (by rfl) (row_there hg2.out 0 _ (by simp)) HIR.out (all_oneCell_toArray HR1.out) ?_))
  refine bodyPost_ret (results_cell_one rfl _ _ w.heap.size 0 R _ rfl (World.rangeAt_setCells_same _ _ _ _ (row_there hg2.out 0 _ (by simp))) Try.underlying68 rfl HIR.out) rfl ⟨rfl, ?_⟩
  exact hb2.trans (setCells_bel (Nat.le_refl _) _ _ _)
end Go.Proofs.Ytenfahecnkdhaaa.Nd
end

section
/-
  Rows of hashes that a call builds itself.
-/
namespace Go.Proofs.Ytenfahecnkdhaaa.Nd
open Go.RowKit
open Tlv (Tr Agree)
open Sim (hid Kp No)

def hcells (d : List (List Int)) : List Value := d.flatMap b8
theorem hcells_cons (e : List Int) (d : List (List Int)) : hcells (e :: d) = b8 e ++ hcells d := by simp [hcells]
theorem hcells_append (a b : List (List Int)) : hcells (a ++ b) = hcells a ++ hcells b := by simp [hcells]
theorem hcells_at : ∀ (d : List (List Int)), (∀ e ∈ d, HOk e) → ∀ (i j : Nat) (e : List Int), d[i]? = some e → j < 32 → (hcells d)[i * 32 + j]? = (b8 e)[j]?
  | [], _, i, j, e, hi, _ => by simp at hi
  | x :: d, h, 0, j, e, hi, hj => by
    simp only [List.getElem?_cons_zero, Option.some.injEq] at hi
    subst hi
    rw [hcells_cons, Nat.zero_mul, Nat.zero_add, List.getElem?_append_left (by rw [b8_length, (h x (by simp)).1]; exact hj)]
  | x :: d, h, i + 1, j, e, hi, hj => by
    rw [List.getElem?_cons_succ] at hi
    rw [hcells_cons, List.getElem?_append_right (by rw [b8_length, (h x (by simp)).1]; omega), b8_length, (h x (by simp)).1, show (i + 1) * 32 + j - 32 = i * 32 + j by omega]
    exact hcells_at d (fun y hy => h y (by simp [hy])) i j e hi hj
theorem infoHz : (Try.prog.info? 68).map (fun i => (i.zero, i.size, i.bytes)) = some (some (.agg zHash.toArray), 32, 32) := by kernel_rfl
theorem run_oneH {hs : List Int} (h : hs.length = 32) (w : World) : (Instr.buildSlice 22 1 #[(0, .agg (b8 hs).toArray)]).run Try.prog w = .ok (.slice (some ⟨w.heap.size, 0, none⟩) 1 1) (w.alloc (.cells (b8 hs).toArray 68)) := by
  obtain ⟨x0, x1, x2, x3, x4, x5, x6, x7, x8, x9, x10, x11, x12, x13, x14, x15, x16, x17, x18, x19, x20, x21, x22, x23, x24, x25, x26, x27, x28, x29, x30, x31, rfl⟩ := x32 h
  kernel_rfl
theorem app_runH (w : World) (ty : TypeId) (v vx : Value) (n m : Nat) (xs ys : List Value) (hown : Sim.Row w 68 32 v n xs) (hy : Sim.Src w vx m 32 ys) (hm : 0 < m) (hlen : n + m ≤ 2000000) :
    ∃ ad cap w', (Builtin.append_ #[22, 22] ty #[v, vx]).run Try.prog w = .ok (.slice ad (n + m) cap) w' ∧ Sim.Row w' 68 32 (.slice ad (n + m) cap) (n + m) (xs ++ ys) ∧ w.grownBy w' v.ownBlock ∧ ((Value.slice ad (n + m) cap).ownBlock = v.ownBlock ∨ (Value.slice ad (n + m) cap).ownBlock = some w.heap.size) := by
  obtain ⟨i0, hi, hz0, hz1', hz2⟩ := info_parts infoHz
  rcases hy with ⟨rfl, rfl, rfl⟩ | ⟨ad, c, rfl, hl, hc, h1⟩
  · omega
  · obtain ⟨v', w', hr, h8, h9, _, h10⟩ := run_append_own_at (P := Try.prog) w 0 22 ty 68 i0 (.agg zHash.toArray) 32 32 Try.underlying22 hi hz0 hz1' hz2 rfl (by omega) v n xs hown ad m c ys hl hc h1 (by unfold maxLen; omega) (by omega) (Nat.zero_le _)
    have h8' : Sim.Row w' 68 32 v' (n + m) (xs ++ ys) := h8
    obtain ⟨ad', cap', rfl, _⟩ := h8'.shape
    exact ⟨ad', cap', w', hr, h8, h9, h10⟩
theorem hv_of_row {ty : TypeId} {w : World} {v : Value} {d : List (List Int)} {P : Nat → Prop} (h : Sim.Row w ty 32 v d.length (hcells d)) (hd : ∀ e ∈ d, HOk e) (hP : ∀ x, v.ownBlock = some x → P x) : HV P w v d := by
  obtain ⟨a, cap, rfl, h2, h3, h4, h5⟩ := h.shape
  refine ⟨a, cap, rfl, h2, h3, fun e => ⟨List.length_eq_zero_iff.1 (h4 e).1, (h4 e).2⟩, hd, fun hne => ?_⟩
  cases a with
  | none => exact absurd (List.length_eq_zero_iff.1 (h4 rfl).1) hne
  | some x =>
    obtain ⟨g, o, sp⟩ := x
    obtain ⟨e1, e2⟩ := h5 _ rfl
    cases e1
    cases e2
    refine ⟨g, 0, rfl, hP g rfl, h.lt g rfl, fun i e hi => ⟨hd e (List.mem_of_getElem? hi), fun j u hj => ?_⟩⟩
    have hil := (List.getElem?_eq_some_iff.1 hi).1
    have hjl := (List.getElem?_eq_some_iff.1 hj).1
    rw [b8_length, (hd e (List.mem_of_getElem? hi)).1] at hjl
    rw [Nat.zero_add, h.cellAt (i * 32 + j) (by omega), hcells_at d hd i j e hi hjl]
    exact hj

theorem HV.lt {P : Nat → Prop} {w : World} {v : Value} {d : List (List Int)} (h : HV P w v d) : HV (fun g => g < w.heap.size ∧ P g) w v d := by
  obtain ⟨a, c, e, h2, h3, h4, h5, h6⟩ := h
  refine ⟨a, c, e, h2, h3, h4, h5, fun hne => ?_⟩
  obtain ⟨g, o, e1, hp, hr⟩ := h6 hne
  exact ⟨g, o, e1, ⟨hr.1, hp⟩, hr⟩
theorem HV.ok {P : Nat → Prop} {w : World} {v : Value} {d : List (List Int)} (h : HV P w v d) : ∀ e ∈ d, HOk e := by
  obtain ⟨_, _, _, _, _, _, h5, _⟩ := h
  exact h5
theorem HV.imp {P Q : Nat → Prop} {w : World} {v : Value} {d : List (List Int)} (h : HV P w v d) (k : ∀ g, P g → Q g) : HV Q w v d := by
  obtain ⟨a, c, e, h2, h3, h4, h5, h6⟩ := h
  refine ⟨a, c, e, h2, h3, h4, h5, fun hne => ?_⟩
  obtain ⟨g, o, e1, hp, hr⟩ := h6 hne
  exact ⟨g, o, e1, k g hp, hr⟩

/-- A row of hashes, of the call's own, that began at world u (whose variable may stand at u.heap.size): blocks from B on alone have been written. -/
def HMine (B : Nat) (w : World) (v : Value) (d : List (List Int)) : Prop := Sim.Row w 68 32 v d.length (hcells d) ∧ (∀ x, v.ownBlock = some x → B ≤ x) ∧ (∀ e ∈ d, HOk e)
theorem HMine.nil (B : Nat) (w : World) : HMine B w (.slice none 0 0) [] := ⟨Sim.Row.nil _ _ _, by intro x hx; simp [Value.ownBlock] at hx, by simp⟩
theorem HMine.hv {B : Nat} {w : World} {v : Value} {d : List (List Int)} (h : HMine B w v d) : HV (B ≤ ·) w v d := hv_of_row h.1 h.2.2 h.2.1
theorem HMine.kp {L : Nat → Prop} {B : Nat} {w w' : World} {v : Value} {d : List (List Int)} (h : HMine B w v d) (k : Kp L w w') (hL : ∀ x, B ≤ x → ¬ L x) : HMine B w' v d :=
  ⟨h.1.kp k (fun x hx => hL x (h.2.1 x hx)), h.2.1, h.2.2⟩

/-- One hash more. -/
theorem HMine.push {B k : Nat} {w : World} {ad : Option Addr} {cap : Nat} {d : List (List Int)} {h : List Int} (H : HMine B w (.slice ad k cap) d) (hk : d.length = k) (hh : HOk h) (hB : B ≤ w.heap.size) (hl : k + 1 ≤ 2000000) (ty : TypeId) :
    ∃ ad' cap' w', (Builtin.append_ #[22, 22] ty #[.slice ad k cap, .slice (some ⟨w.heap.size, 0, none⟩) 1 1]).run Try.prog (w.alloc (.cells (b8 h).toArray 68)) = .ok (.slice ad' (k + 1) cap') w' ∧
      HMine B w' (.slice ad' (k + 1) cap') (d ++ [h]) ∧ (w.alloc (.cells (b8 h).toArray 68)).grownBy w' (Value.slice ad k cap).ownBlock := by
  subst hk
  have hS : Sim.Src (w.alloc (.cells (b8 h).toArray 68)) (.slice (some ⟨w.heap.size, 0, none⟩) 1 1) 1 32 (b8 h) := Sim.Src.one w (b8 h) 32 68 (by rw [b8_length, hh.1]) (b8_one h)
  obtain ⟨ad', cap', w', hr, hrow, hg, hown⟩ := app_runH _ ty _ _ _ 1 _ _ (H.1.kept ((Kp.refl No w).alloc _)) hS (by omega) (by omega)
  refine ⟨ad', cap', w', hr, ⟨?_, fun x hx => ?_, fun e he => ?_⟩, hg⟩
  · rw [List.length_append, hcells_append]
    have : hcells [h] = b8 h := by simp [hcells]
    rw [this]
    exact hrow
  · rcases hown with e | e
    · exact H.2.1 x (by rw [← e]; exact hx)
    · rw [e] at hx
      cases hx
      simp
      omega
  · rcases List.mem_append.1 he with he | he
    · exact H.2.2 e he
    · rw [List.mem_singleton.1 he]
      exact hh

/-- The variable at block b holds a file: its size, and the hashes of the first k values. -/
def FI (w1 : World) (b : Nat) (s : Int) (d : List (List Int)) (v : Value) (wr : World) : Prop :=
  wr.cell? ⟨b, 0, none⟩ = some (.int .i64 s) ∧ wr.cell? ⟨b, 1, none⟩ = some v ∧ (∀ o, wr.frozen? ⟨b, o, none⟩ = false) ∧ b < wr.heap.size ∧ HMine (b + 1) wr v d ∧ Below w1.heap.size w1 wr

theorem FI.step {w1 wr W1 w2 : World} {b k cap : Nat} {ad : Option Addr} {s : Int} {d : List (List Int)} {h : List Int} (F : FI w1 b s d (.slice ad k cap) wr) (hk : d.length = k) (hw : w1.heap.size ≤ b) (h1 : Kp No wr W1) (h2 : Kp No W1 w2) (hh : HOk h) (hl : k + 1 ≤ 2000000) (ty : TypeId) :
    ∃ ad' cap' w4, (Builtin.append_ #[22, 22] ty #[.slice ad k cap, .slice (some ⟨w2.heap.size, 0, none⟩) 1 1]).run Try.prog (w2.alloc (.cells (b8 h).toArray 68)) = .ok (.slice ad' (k + 1) cap') w4 ∧
      w4.cell? ⟨b, 1, none⟩ = some (.slice ad k cap) ∧ w4.frozen? ⟨b, 1, none⟩ = false ∧ b < w4.heap.size ∧
      FI w1 b s (d ++ [h]) (.slice ad' (k + 1) cap') (w4.setCell ⟨b, 1, none⟩ (.slice ad' (k + 1) cap')) ∧ Kp (fun x => x = b ∨ (Value.slice ad k cap).ownBlock = some x) W1 w4 := by
  obtain ⟨h0, hc1, hf, hs, hm, hw1⟩ := F
  have hb : Kp No wr w2 := h1.andNone h2
  have hz := hb.size
  have hm2 : HMine (b + 1) w2 (.slice ad k cap) d := hm.kp hb (fun _ _ x => x)
  obtain ⟨ad', cap', w4, hrun, hC, hgr⟩ := hm2.push hk hh (by omega) hl ty
  have hnb : some b ≠ (Value.slice ad k cap).ownBlock := fun e => by have := hm.2.1 b e.symm; omega
  have hzg := hgr.size
  simp at hzg
  have cc : ∀ j, w4.cell? ⟨b, j, none⟩ = wr.cell? ⟨b, j, none⟩ := fun j => by
    rw [hgr.cell_far ⟨b, j, none⟩ (by simp; omega) hnb, World.cell?_alloc_past _ _ _ (by omega)]
    exact hb.cell (p := ⟨b, j, none⟩) hs (fun x => x)
  have cf : ∀ j, w4.frozen? ⟨b, j, none⟩ = false := fun j => by
    rw [hgr.frozen_far ⟨b, j, none⟩ (by simp; omega) hnb, World.frozen?_alloc_past _ _ _ (by omega), hb.frozen (p := ⟨b, j, none⟩) hs (fun x => x)]
    exact hf j
  have hKp : Kp (fun x => x = b ∨ (Value.slice ad k cap).ownBlock = some x) W1 w4 := ((h2.ofNo).alloc _).grown hgr (fun x hx => .inl (.inr hx))
  have hKr : Kp (fun x => x = b ∨ (Value.slice ad k cap).ownBlock = some x) wr w4 := ((hb.ofNo).alloc _).grown hgr (fun x hx => .inl (.inr hx))
  refine ⟨ad', cap', w4, hrun, (cc 1).trans hc1, cf 1, by omega, ⟨?_, ?_, fun o => ?_, ?_, ?_, ?_⟩, hKp⟩
  · rw [Sim.cell_other (by omega)]; exact (cc 0).trans h0
  · exact World.cell?_setCell_same _ _ _ ((cc 1).trans hc1)
  · rw [World.frozen?_setCell]; exact cf o
  · simp; omega
  · exact hC.kp (Kp.setCell (L := (· = b)) (p := ⟨b, 1, none⟩) (Kp.refl _ _) (.inl rfl) _) (fun x hx e => by subst e; omega)
  · have b1 : Below w1.heap.size w1 w4 := Kp.under hw1 hKr (fun x hx => by
      rcases hx with rfl | hx
      · exact hw
      · have := hm.2.1 x hx; omega) hw1.size
    exact b1.setCell hw _
/-- The hashes that values tell. -/
def kidsH {n : Nat} (ks : List (Tr n)) : List (List Int) := ks.map fun k => h32 k.hd.2.2
theorem kid_at {n B k : Nat} {w : World} {a : Option Addr} {l c : Nat} {ks : List (Tr (n + 1))} (h : Tlv.KSl 0 B w (Tlv.Rep 0 B w (n + 1)) (.slice a l c) ks) (hk : k < ks.length) :
    ∃ g o t sb sk, a = some ⟨g, o, none⟩ ∧ g < B ∧ ks[k]? = some t ∧ w.cell? ⟨g, o + k * 4, none⟩ = some (.int .i64 t.hd.1) ∧ w.cell? ⟨g, o + k * 4 + 1, none⟩ = some (.int .u64 t.hd.2.1) ∧
      w.cell? ⟨g, o + k * 4 + 2, none⟩ = some sb ∧ w.cell? ⟨g, o + k * 4 + 3, none⟩ = some sk ∧ Tlv.Rep 0 B w (n + 1) t sb sk := by
  obtain ⟨a', c', e, _, _, _, _, h7⟩ := h
  simp only [Value.slice.injEq] at e
  obtain ⟨rfl, _, _⟩ := e
  obtain ⟨g, o, e, _, hg, hc⟩ := h7 (by intro e; subst e; simp at hk)
  obtain ⟨t, ht⟩ : ∃ t, ks[k]? = some t := ⟨_, List.getElem?_eq_getElem hk⟩
  obtain ⟨sb, sk, h0, h1, h2, h3, hr⟩ := hc k t ht
  exact ⟨g, o, t, sb, sk, e, hg, ht, h0, h1, h2, h3, hr⟩

theorem hv_kept2 {P Q : Nat → Prop} {b : Nat} {w w' : World} {v : Value} {d : List (List Int)} (h : HV P w v d) (k : Kp (· = b) w w') (hq : ∀ g, P g → g ≠ b ∧ Q g) : HV Q w' v d := by
  obtain ⟨a, c, e, h2, h3, h4, h5, h6⟩ := h
  refine ⟨a, c, e, h2, h3, h4, h5, fun hne => ?_⟩
  obtain ⟨g, o, e1, hp, hr⟩ := h6 hne
  exact ⟨g, o, e1, (hq g hp).2, hr.kp k (hq g hp).1⟩

end Go.Proofs.Ytenfahecnkdhaaa.Nd
end

section
/-
  body, of the program: the value whose form an object's Body is.
-/
namespace Go.Proofs.Ytenfahecnkdhaaa.Nd
open Go.RowKit
open Tlv (Tr Agree)
open Sim (hid Kp No)

/-- The tree that a Body is. -/
def bodyT (bs : List Int) : Option (Tr 9) := if bs.length ≤ 5000 then Tlv.getT bs else none
def zVal : Value := .agg #[.int .i64 0, .int .u64 0, .slice none 0 0, .slice none 0 0]
/-- What body answers. -/
def BodyA (u w : World) (K0 K : Int) (bs : List Int) (e : Ending) : Prop :=
  (K0 ≠ K ∧ e = .returned (.tuple #[zVal, .int .i64 1])) ∨ (K0 = K ∧ bodyT bs = none ∧ e = .returned (.tuple #[zVal, .int .i64 3])) ∨
  (∃ t a3 l3 p3 a4 l4 p4, K0 = K ∧ bodyT bs = some t ∧ e = .returned (.tuple #[.agg #[.int .i64 t.hd.1, .int .u64 t.hd.2.1, .slice a3 l3 p3, .slice a4 l4 p4], .int .i64 0]) ∧ Tlv.Rep u.heap.size w.heap.size w 9 t (.slice a3 l3 p3) (.slice a4 l4 p4))

theorem set4_read {w : World} {b : Nat} {u0 u1 u2 u3 x0 x1 x2 x3 : Value} (h0 : w.cell? ⟨b, 0, none⟩ = some x0) (h1 : w.cell? ⟨b, 1, none⟩ = some x1) (h2 : w.cell? ⟨b, 2, none⟩ = some x2) (h3 : w.cell? ⟨b, 3, none⟩ = some x3) :
    ((((w.setCell ⟨b, 0, none⟩ u0).setCell ⟨b, 1, none⟩ u1).setCell ⟨b, 2, none⟩ u2).setCell ⟨b, 3, none⟩ u3).cell? ⟨b, 0, none⟩ = some u0 ∧
    ((((w.setCell ⟨b, 0, none⟩ u0).setCell ⟨b, 1, none⟩ u1).setCell ⟨b, 2, none⟩ u2).setCell ⟨b, 3, none⟩ u3).cell? ⟨b, 1, none⟩ = some u1 ∧
    ((((w.setCell ⟨b, 0, none⟩ u0).setCell ⟨b, 1, none⟩ u1).setCell ⟨b, 2, none⟩ u2).setCell ⟨b, 3, none⟩ u3).cell? ⟨b, 2, none⟩ = some u2 ∧
    ((((w.setCell ⟨b, 0, none⟩ u0).setCell ⟨b, 1, none⟩ u1).setCell ⟨b, 2, none⟩ u2).setCell ⟨b, 3, none⟩ u3).cell? ⟨b, 3, none⟩ = some u3 := by
  refine ⟨?_, ?_, ?_, ?_⟩
  · simp [go_sem, h0]
  · simp [go_sem, h1]
  · simp [go_sem, h2]
  · simp [go_sem, h3]

set_option maxHeartbeats 2000000 in
set_option maxRecDepth 100000 in
theorem body_any (w : World) (K0 K : Int) (v : Value) (bs : List Int) (hv : Tlv.BySl 0 w.heap.size w v bs) :
    Calls Try.prog 48 #[.agg #[.int .i64 K0, v], .int .i64 K] w fun e w' => BodyA w w' K0 K bs e ∧ Below w.heap.size w w' := by
  obtain ⟨a, c, rfl, hxx⟩ := id hv
  clear hxx
  obtain ⟨n, hn⟩ : ∃ n, bs.length = n := ⟨_, rfl⟩
  have HN := hid hn
  rw [hn] at hv ⊢
  have HBY := hid hv
  have HB0 : Hid (Below w.heap.size w ((w.alloc (.cells #[.int .i64 K0, .slice a n c] 31)).alloc (.cells #[.int .i64 0, .int .u64 0, .slice none 0 0, .slice none 0 0] 95))) := ((Below.refl _ _).alloc (Nat.le_refl _) _).alloc (by simp) _
  clear hv hn
  by_cases hk : K0 = K
  · subst hk
    by_cases hl : (n : Int) ≤ 5000
    · have hd : decide ((n : Int) ≤ 5000) = true := by simpa using hl
      have HT : Hid (bodyT bs = Tlv.getT bs) := by
        have : bs.length ≤ 5000 := by rw [HN.out]; omega
        rw [Hid, bodyT, if_pos this]
      go_enter Try.func48, Try.ntmps48
      go_wp2_with fail
      refine (fits_any _ a n c).mono ?_
      rintro e w1 ⟨he, rfl⟩
      rw [hd] at he
      subst he
      go_wp2_with fail
      refine (Tlv.get_any _ bs _ (HBY.out.agree (Agree.below HB0.out) (Nat.le_refl _) HB0.out.size)).mono ?_
      rintro e w2 ⟨hres, hb2⟩
      have HB2 : Hid (Below w.heap.size w w2) := HB0.out.trans (hb2.mono HB0.out.size)
      have g0 : w2.cell? ⟨w.heap.size + 1, 0, none⟩ = some (.int .i64 0) := by rw [hb2.cell (p := ⟨w.heap.size + 1, 0, none⟩) (by simp)]; simp [go_sem]
      have g1 : w2.cell? ⟨w.heap.size + 1, 1, none⟩ = some (.int .u64 0) := by rw [hb2.cell (p := ⟨w.heap.size + 1, 1, none⟩) (by simp)]; simp [go_sem]
      have g2 : w2.cell? ⟨w.heap.size + 1, 2, none⟩ = some (.slice none 0 0) := by rw [hb2.cell (p := ⟨w.heap.size + 1, 2, none⟩) (by simp)]; simp [go_sem]
      have g3 : w2.cell? ⟨w.heap.size + 1, 3, none⟩ = some (.slice none 0 0) := by rw [hb2.cell (p := ⟨w.heap.size + 1, 3, none⟩) (by simp)]; simp [go_sem]
      have gf : ∀ o, w2.frozen? ⟨w.heap.size + 1, o, none⟩ = false := fun o => by rw [hb2.frozen (p := ⟨w.heap.size + 1, o, none⟩) (by simp)]; simp [go_sem]
      have hg2 : w.heap.size + 1 < w2.heap.size := by have := hb2.size; simp at this; omega
      have HBB := hid hb2.size
      clear hb2
      rcases hres with ⟨hn', rfl⟩ | ⟨t, sb, sk, ht, rfl, hrep⟩
      · have HA : Hid (∀ w', BodyA w w' K0 K0 bs (.returned (.tuple #[zVal, .int .i64 3]))) := fun w' => .inr (.inl ⟨rfl, HT.out.trans hn', rfl⟩)
        clear hn'
        go_wp2_with fail
        obtain ⟨q0, q1, q2, q3⟩ := set4_read (u0 := .int .i64 0) (u1 := .int .u64 0) (u2 := .slice none 0 0) (u3 := .slice none 0 0) g0 g1 g2 g3
        refine bodyPost_ret (v := .tuple #[zVal, .int .i64 3]) (by simp [results, Try.results48, go_sem, q0, q1, q2, q3, zVal]) rfl ⟨HA.out _, ?_⟩
        exact (((HB2.out.setCell (by simp) _).setCell (by simp) _).setCell (by simp) _).setCell (by simp) _
      · obtain ⟨a3, l3, p3, a4, l4, p4, rfl, rfl⟩ := hrep.sl
        have HR := hid hrep
        have HTT : Hid (bodyT bs = some t) := HT.out.trans ht
        clear ht hrep
        obtain ⟨tg, htg⟩ : ∃ x, t.hd.1 = x := ⟨_, rfl⟩
        obtain ⟨nm, hnm⟩ : ∃ x, t.hd.2.1 = x := ⟨_, rfl⟩
        have HA : Hid (∀ w', Tlv.Rep w.heap.size w'.heap.size w' 9 t (.slice a3 l3 p3) (.slice a4 l4 p4) → BodyA w w' K0 K0 bs (.returned (.tuple #[.agg #[.int .i64 tg, .int .u64 nm, .slice a3 l3 p3, .slice a4 l4 p4], .int .i64 0]))) := fun w' hr => .inr (.inr ⟨t, _, _, _, _, _, _, rfl, HTT.out, by rw [htg, hnm], hr⟩)
        rw [htg, hnm]
        clear htg hnm
        go_wp2_with fail
        obtain ⟨q0, q1, q2, q3⟩ := set4_read (u0 := .int .i64 tg) (u1 := .int .u64 nm) (u2 := .slice a3 l3 p3) (u3 := .slice a4 l4 p4) g0 g1 g2 g3
        refine bodyPost_ret (v := .tuple #[.agg #[.int .i64 tg, .int .u64 nm, .slice a3 l3 p3, .slice a4 l4 p4], .int .i64 0]) (by simp [results, Try.results48, go_sem, q0, q1, q2, q3]) rfl ⟨HA.out _ ?_, ?_⟩
        · exact HR.out.agree (((((Agree.refl _ _ _).setCell (.inl (by simp)) _).setCell (.inl (by simp)) _).setCell (.inl (by simp)) _).setCell (.inl (by simp)) _) (by simp; omega) (by simp)
        · exact (((HB2.out.setCell (by simp) _).setCell (by simp) _).setCell (by simp) _).setCell (by simp) _
    · have hd : decide ((n : Int) ≤ 5000) = false := by simpa using hl
      have HA : Hid (∀ w', BodyA w w' K0 K0 bs (.returned (.tuple #[zVal, .int .i64 3]))) := fun w' => .inr (.inl ⟨rfl, by
        have : ¬ bs.length ≤ 5000 := by rw [HN.out]; omega
        rw [bodyT, if_neg this], rfl⟩)
      go_enter Try.func48, Try.ntmps48
      go_wp2_with fail
      refine (fits_any _ a n c).mono ?_
      rintro e w1 ⟨he, rfl⟩
      rw [hd] at he
      subst he
      go_wp2_with fail
      refine bodyPost_ret (v := .tuple #[zVal, .int .i64 3]) (by simp [results, Try.results48, go_sem, zVal]) rfl ⟨HA.out _, ?_⟩
      first | exact HB0.out | exact (((HB0.out.setCell (by simp) _).setCell (by simp) _).setCell (by simp) _).setCell (by simp) _
  · have HA : Hid (∀ w', BodyA w w' K0 K bs (.returned (.tuple #[zVal, .int .i64 1]))) := fun w' => .inl ⟨hk, rfl⟩
    have hkk : (K0 == K) = false := by simpa using hk
    have hkn : (K0 != K) = true := by simpa using hk
    go_enter Try.func48, Try.ntmps48
    go_wp2_with fail
    refine bodyPost_ret (v := .tuple #[zVal, .int .i64 1]) (by simp [results, Try.results48, go_sem, zVal]) rfl ⟨HA.out _, ?_⟩
    first | exact HB0.out | exact (((HB0.out.setCell (by simp) _).setCell (by simp) _).setCell (by simp) _).setCell (by simp) _
end Go.Proofs.Ytenfahecnkdhaaa.Nd
end
