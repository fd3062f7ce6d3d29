/-
  What Put of tlv answers.
-/
import Derived.Test.YthbhdbjjobfchaaTlvPut
import Derived.Test.YthbhdbjjobfchaaTlvSize
namespace Go.Proofs.Ythbhdbjjobfchaa.Tlv
open Go.RowKit

theorem numB_byte : ∀ (k : Nat) (x : Int), ∀ y ∈ numB k x, 0 ≤ y ∧ y ≤ 255
  | 0, _, y, h => by simp [numB] at h
  | k + 1, x, y, h => by
    simp only [numB, List.mem_cons] at h
    rcases h with rfl | h
    · omega
    · exact numB_byte k x y h

/-- A form's bytes are bytes. -/
theorem form_byte : ∀ (n : Nat) (t : Tr n) (L B : Nat) (w : World) (sb sk : Value) (room : Int), Rep L B w n t sb sk → Rt n t room → room ≤ 65535 → ∀ x ∈ formOf n t, 0 ≤ x ∧ x ≤ 255
  | 0, t, _, _, _, _, _, _, _, _, _ => by cases t
  | n + 1, t, L, B, w, sb, sk, room, hr, ht, hroom => by
    obtain ⟨h0, h1, h2, h3⟩ := ht.facts
    obtain ⟨_, _, hby, hks⟩ := hr
    have hb : ∀ x ∈ bodyOf (n + 1) t, 0 ≤ x ∧ x ≤ 255 := by
      rcases h2 with h2 | h2 | h2
      · rw [bodyOf_1 h2]
        exact numB_byte _ _
      · rw [bodyOf_2 h2]
        obtain ⟨_, _, _, _, _, _, _, h, _⟩ := hby
        exact h
      · rw [bodyOf_kids h2]
        intro x hx
        obtain ⟨l, hl, hx⟩ := List.mem_flatten.1 hx
        obtain ⟨k, hk, rfl⟩ := List.mem_map.1 hl
        obtain ⟨r, hr0, hr1⟩ := h3 h2 k hk
        obtain ⟨j, hj⟩ := List.getElem?_of_mem hk
        obtain ⟨_, _, _, _, _, _, _, h7⟩ := hks
        obtain ⟨b, o, _, _, _, hc⟩ := h7 (by intro e; rw [e] at hj; simp at hj)
        obtain ⟨sb', sk', _, _, _, _, hrep⟩ := hc j k hj
        exact form_byte n k L B w sb' sk' r hrep hr1 (by omega) x hx
    intro x hx
    simp only [formOf, List.mem_cons] at hx
    rcases hx with rfl | rfl | rfl | hx
    · omega
    · omega
    · omega
    · exact hb x hx

set_option maxHeartbeats 1000000 in
theorem Put_no {n : Nat} (t : Tr n) (sb sk : Value) (w : World) (h : Rep 0 w.heap.size w n t sb sk) (hz : szT n t = 0) :
    Calls Try.prog 27 #[.agg #[.int .i64 t.hd.1, .int .u64 t.hd.2.1, sb, sk]] w fun e w' => e = .returned (.tuple #[.slice none 0 0, .int .i64 1]) ∧ Below w.heap.size w w' := by
  obtain ⟨a1, l1, p1, a2, l2, p2, rfl, rfl⟩ := h.sl
  have H := hid h
  clear h
  have HZ := hid hz
  clear hz
  go_enter Try.func27, Try.ntmps27
  go_wp2_with fail
  refine (size_any t _ _ _ (H.out.agree ((Agree.refl _ _ _).alloc (Nat.le_refl _) _) (Nat.le_refl _) (by simp))).mono ?_
  rintro e w1 ⟨rfl, hb1⟩
  rw [HZ.out]
  have hb2 : Hid (Below w.heap.size w w1) := ((Below.refl _ _).alloc (Nat.le_refl _) _).trans (hb1.mono (by simp))
  clear hb1
  go_wp2_with fail
  go_ret2
  exact ⟨rfl, hb2.out⟩

set_option maxHeartbeats 1000000 in
set_option maxRecDepth 100000 in
theorem Put_yes {n : Nat} (t : Tr n) (sb sk : Value) (w : World) (h : Rep 0 w.heap.size w n t sb sk) (hz : szT n t ≠ 0) :
    Calls Try.prog 27 #[.agg #[.int .i64 t.hd.1, .int .u64 t.hd.2.1, sb, sk]] w fun e w' => ∃ v, e = .returned (.tuple #[v, .int .i64 0]) ∧ BySl w.heap.size w'.heap.size w' v (formOf n t) ∧ Below w.heap.size w w' := by
  obtain ⟨a1, l1, p1, a2, l2, p2, rfl, rfl⟩ := h.sl
  have H := hid h
  clear h
  have hok : (bsz n t 65535 8).2 = true := by
    unfold szT at hz
    split at hz
    · assumption
    · exact absurd rfl hz
  have hsz : szT n t = 3 + ((bodyOf n t).length : Int) := by rw [szT, if_pos hok, bsz_len _ _ _ _ hok]
  have hbd := bsz_fits _ _ _ _ hok
  rw [bsz_len _ _ _ _ hok] at hbd
  have HOK := hid hok
  have HSZ := hid hsz
  clear hz hok hsz
  obtain ⟨m, hm⟩ : ∃ m, (bodyOf n t).length = m := ⟨_, rfl⟩
  rw [hm] at hbd
  have HM := hid hm
  clear hm
  go_enter Try.func27, Try.ntmps27
  go_wp2_with fail
  refine (size_any t _ _ _ (H.out.agree ((Agree.refl _ _ _).alloc (Nat.le_refl _) _) (Nat.le_refl _) (by simp))).mono ?_
  rintro e w1 ⟨rfl, hb1⟩
  rw [HSZ.out, HM.out]
  have hb2 : Hid (Below w.heap.size w w1) := ((Below.refl _ _).alloc (Nat.le_refl _) _).trans (hb1.mono (by simp))
  have hbz : w.heap.size < w1.heap.size := by have := hb1.size; simp at this; omega
  obtain ⟨hc, hf⟩ := bcell hb1
  have b0 : w1.cell? ⟨w.heap.size, 0, none⟩ = some (.int .i64 t.hd.1) := by rw [hc _ _ (by simp)]; simp [go_sem]
  have b1 : w1.cell? ⟨w.heap.size, 1, none⟩ = some (.int .u64 t.hd.2.1) := by rw [hc _ _ (by simp)]; simp [go_sem]
  have b2 : w1.cell? ⟨w.heap.size, 2, none⟩ = some (.slice a1 l1 p1) := by rw [hc _ _ (by simp)]; simp [go_sem]
  have b3 : w1.cell? ⟨w.heap.size, 3, none⟩ = some (.slice a2 l2 p2) := by rw [hc _ _ (by simp)]; simp [go_sem]
  clear hb1 hc hf
  obtain ⟨i0, hi, hz0, hz1, hz2⟩ := info_parts Try.info5
  go_wp2_with (at_make; refine wpList_make_own _ rfl _ _ 24 rfl w1.heap.size 5 i0 (.int .u8 0) 1 Try.underlying24 hi hz0 hz1 .i64 .i64 _ (3 + m) rfl rfl (by omega) (by rw [hz2]; omega) (by unfold maxLen; omega) (Nat.le_refl _) ?_; intro w2 hown2 hgrow2; have k0 := hgrow2.cell b0 (by simp); have k1 := hgrow2.cell b1 (by simp); have k2 := hgrow2.cell b2 (by simp); have k3 := hgrow2.cell b3 (by simp); have hz3 := hgrow2.size; have HO2 := hid hown2; have HG2 := hid hgrow2; clear b0 b1 b2 b3 hown2 hgrow2; have hw2 : w.heap.size < w2.heap.size := by omega)
  have hrow : w1.heap.size < w2.heap.size := (HO2.out.lt _ rfl).2
  have hA : Agree 0 w.heap.size w (w2.alloc (Obj.cells #[Value.slice (some ⟨w1.heap.size, 0, none⟩) 0 (3 + m)] 111)) := ((Agree.below hb2.out).trans (fun k _ h2 => HG2.out.block k (by omega) (by simp))).alloc (by omega) _
  have hW : WInv w1.heap.size w2.heap.size [] (w2.alloc (Obj.cells #[Value.slice (some ⟨w1.heap.size, 0, none⟩) 0 (3 + m)] 111)) :=
    ⟨_, by simp, by simp, by omega, HO2.out.alloc _, by simp [Value.ownBlock]; omega⟩
  have hfl : (formOf n t).length = 3 + m := by rw [formOf, ← HM.out]; simp only [List.length_cons]; omega
  refine (put_any n t _ _ w1.heap.size w2.heap.size [] 65535 _ (Rep.agree (L' := 0) (B' := w1.heap.size) hA (Nat.le_refl _) (by omega) H.out) ⟨8, HOK.out⟩ (by omega) hW (by rw [hfl]; simp; omega)).mono ?_
  rintro e w3 ⟨rfl, hW3, hb3⟩
  have HW3 := hid hW3
  obtain ⟨v, c3, f3, _, hown3, _⟩ := hW3
  rw [List.nil_append] at hown3
  obtain ⟨av, cv, rfl⟩ := ownsRow_form hown3
  have HO3 := hid hown3
  have hbel : Hid (Below w.heap.size w w3) := ((hb2.out.grown HG2.out (by omega) (by intro k e; cases e)).alloc (by omega) _).trans (hb3.mono (by omega))
  have HFL := hid hfl
  clear hown3 hW hA hb3 hfl
  go_wp2_with fail
  go_ret2
  refine ⟨_, rfl, ?_, hbel.out⟩
  have K := BySl.own HO3.out (by rw [HFL.out]; omega) (form_byte n t _ _ _ _ _ 65535 H.out ⟨8, HOK.out⟩ (by omega))
  exact K.agree (Agree.refl _ _ _) (by omega) (Nat.le_refl _)

end Go.Proofs.Ythbhdbjjobfchaa.Tlv
