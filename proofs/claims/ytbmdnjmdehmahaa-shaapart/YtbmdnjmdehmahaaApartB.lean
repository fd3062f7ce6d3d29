/-
  ShaApart, walked.
-/
import Derived.Test.YtbmdnjmdehmahaaApart
namespace Go.Proofs.Ytbmdnjmdehmahaa
open Go.RowKit

/-- A row of bytes in a block that is new, and none of the three. -/
def OwnL (w wr : World) (H g1 g2 : Nat) (ad : Option Addr) (L : Nat) : Prop :=
  0 < L → ∃ r ys, ad = some ⟨r, 0, none⟩ ∧ r ≠ H ∧ r ≠ g1 ∧ r ≠ g2 ∧ w.heap.size ≤ r ∧ r < wr.heap.size ∧ ys.length = L ∧ (∀ y ∈ ys, y < 256) ∧ BytesAt wr r 0 ys ∧ ∀ j, wr.frozen? ⟨r, j, none⟩ = false

theorem OwnL.kept {w wr wx : World} {H g1 g2 : Nat} {ad : Option Addr} {L : Nat} {l : List Nat} (h : OwnL w wr H g1 g2 ad L) (k : Kp l wr wx) (hl : ∀ x ∈ l, x = H ∨ x = g1 ∨ x = g2) : OwnL w wx H g1 g2 ad L := by
  intro hL
  obtain ⟨r, ys, e, h1, h2, h3, h4, h5, h6, h7, h8, h9⟩ := h hL
  have hn : r ∉ l := fun hm => by have := hl r hm; omega
  exact ⟨r, ys, e, h1, h2, h3, h4, Nat.lt_of_lt_of_le h5 k.size, h6, h7, k.bytes h8 h5 hn, fun j => (k.frozen (p := ⟨r, j, none⟩) h5 hn).trans (h9 j)⟩

theorem OwnB.ownL {w wr : World} {H g1 g2 base : Nat} {ad : Option Addr} {l c : Nat} {xs : List Nat} (h : OwnB wr base (.slice ad l c) xs) (hx : ∀ y ∈ xs, y < 256) (h1 : H < base) (h2 : g1 < base) (h3 : g2 < base) (h4 : w.heap.size ≤ base) : OwnL w wr H g1 g2 ad xs.length := by
  intro hL
  rcases h.2 with ⟨e, h0⟩ | ⟨g, cap, cur, e, hg, hh, hn, hc, hs, ht⟩
  · omega
  · simp only [Value.slice.injEq] at e
    obtain ⟨rfl, rfl, rfl⟩ := e
    refine ⟨g, xs, rfl, by omega, by omega, by omega, by omega, (Array.getElem?_eq_some_iff.1 hh).1, rfl, hx, fun i hi => ?_, fun j => frozen_of_row wr g j _ 5 hh⟩
    rw [Nat.zero_add, h.cellAt i (by omega)]
    exact u8s_at xs i hi

/-- An operation whose guard says yes is as one without. -/
theorem wpList_bare {P : Program} {ops : Array Oper} {Q : Exit → Act → World → Prop} {a : Act} {w : World} {rest : List Oper} {dst : Option Tmp} {op : Op} {type : TypeId} {pos : String} {after : Array Edge} {g : Option (Nat × Bool)}
    (hw : Region.wanted ⟨dst, op, type, pos, after, g⟩ (yielded ops a.tmps) = true) (h : wpList P ops Q (⟨dst, op, type, pos, after, none⟩ :: rest) a w) : wpList P ops Q (⟨dst, op, type, pos, after, g⟩ :: rest) a w := by
  unfold wpList at h ⊢
  rw [if_pos hw]
  rw [if_pos (by rfl)] at h
  exact h

theorem zero_lt : ∀ x ∈ List.replicate 32 0, x < 256 := by intro x hx; obtain ⟨_, rfl⟩ := List.mem_replicate.1 hx; decide

set_option maxHeartbeats 4000000 in
set_option maxRecDepth 100000 in
theorem apart_main (a1 a2 : Option Addr) (k1 k2 : Nat) (xs ys : List Nat) (w : World) (h1 : BySl [] w (.slice a1 xs.length k1) xs) (h2 : BySl [] w (.slice a2 ys.length k2) ys) (l1 : xs.length ≤ 1000) (l2 : ys.length ≤ 1000) :
    Calls Try.prog 6 #[.slice a1 xs.length k1, .slice a2 ys.length k2] w fun e w' => e = .returned (.bool true) ∧ Below w.heap.size w w' := by
  have HX := hid h1
  have HY := hid h2
  have hxs256 : Hid (∀ x ∈ xs, x < 256) := by obtain ⟨_, _, _, _, _, _, _, h, _⟩ := h1; exact h
  have hys256 : Hid (∀ x ∈ ys, x < 256) := by obtain ⟨_, _, _, _, _, _, _, h, _⟩ := h2; exact h
  clear h1 h2
  have hcx := fun (w : World) => eq30_same (sha (xs ++ ys)) (sha_length _) (sha_lt _) w
  have hcy := fun (w : World) => eq30_same (sha (ys ++ xs)) (sha_length _) (sha_lt _) w
  have hcz := fun (w : World) => eq30_same (List.replicate 32 0) (by simp) zero_lt w
  have HCX := hid hcx
  have HCY := hid hcy
  have HCZ := hid hcz
  clear hcx hcy hcz
  obtain ⟨L1, hL1⟩ : ∃ L, xs.length = L := ⟨_, rfl⟩
  obtain ⟨L2, hL2⟩ : ∃ L, ys.length = L := ⟨_, rfl⟩
  have HL1 := hid hL1
  have HL2 := hid hL2
  rw [hL1] at HX l1 ⊢
  rw [hL2] at HY l2 ⊢
  clear hL1 hL2
  go_enter Try.func6, Try.ntmps6
  go_wp2_with fail
  refine (new_any _).mono ?_
  rintro e w1 ⟨rfl, hb, hs, ht⟩
  have HS := hid hs
  have HB := hid hb
  have HT := hid ht
  clear hs hb ht
  go_wp2_with fail
  refine (stream_any _ 0 0 w1 (.inl rfl) HT.out).mono ?_
  rintro e w2 ⟨g1, rfl, hg1, hg2, hk2, he2, hs2⟩
  have HG := hid (And.intro hg1 (And.intro hg2 (And.intro hk2 (And.intro he2 hs2))))
  clear hg1 hg2 hk2 he2 hs2 HT
  go_wp2_with fail
  refine (stream_any _ 1 0 w2 (.inr rfl) HG.out.2.2.2.1).mono ?_
  rintro e w3 ⟨g2, rfl, hg3, hg4, hk3, he3, hs3⟩
  obtain ⟨hg1, hg2, hk2, he2, hs2⟩ := HG.out
  have hsz := HS.out
  obtain ⟨H, hH⟩ : ∃ H, w.heap.size = H := ⟨_, rfl⟩
  have HLT : Hid (H < w3.heap.size ∧ g1 < w3.heap.size ∧ g2 < w3.heap.size ∧ w.heap.size ≤ w3.heap.size) := by rw [Hid]; omega
  have HTW : Hid (Two w w3 H g1 g2 0 [] []) := by
    subst hH
    refine ⟨below_kp (below_kp HB.out hk2 (by simp)) hk3 (by simp), ⟨1, 0, .inr rfl, he3, by omega, by omega⟩, hs2.kept hk3 (by simp; omega), hs3, Nat.le_refl _, by omega, by omega, by omega, by omega, by omega⟩
  rw [hH] at hk3 ⊢
  have HHH := hid hH
  clear hg1 hg2 hk2 he2 hs2 hg3 hg4 hk3 he3 hs3 HG HS HB hsz hH
  go_wp2_with (at_builtin; refine app_bytes _ rfl _ _ rfl w3.heap.size _ _ [] xs rfl rfl (own_empty w3) ?hy ?hl ?hb ?_; (case hy => exact HX.out.old (HTW.out.below ((Below.refl _ _).alloc (Nat.le_refl _) _)).1 (by simp)); (case hl => (have h := HL1.out; simp; omega)); (case hb => simp); intro v' w4 hown hbel)
  rw [List.nil_append] at hown
  have HTW4 : Hid (Two w w4 H g1 g2 0 [] []) := HTW.out.below (((Below.refl _ _).alloc (Nat.le_refl _) (.cells #[] 5)).trans hbel)
  obtain ⟨ad, ol, oc, rfl⟩ := hown.form
  have HOB : Hid (BySl [H, g1] w4 (.slice ad ol oc) xs) := hown.bySl (by have := HLT.out; simp; omega) (by have := HL1.out; omega) hxs256.out
  have HOL : Hid (OwnL w w4 H g1 g2 ad L1) := by rw [Hid, ← HL1.out]; exact hown.ownL hxs256.out HLT.out.1 HLT.out.2.1 HLT.out.2.2.1 HLT.out.2.2.2
  have hol : ol = L1 := by obtain ⟨_, _, e, _⟩ := HOB.out; rw [← HL1.out]; simp only [Value.slice.injEq] at e; exact e.2.1
  subst hol
  clear hown hbel HTW
  go_wp2_with fail
  refine (write_one HTW4.out _ xs HOB.out (by have := HL1.out; omega) (by simp) (by omega)).mono ?_
  rintro e w5 ⟨rfl, ht5, hk5⟩
  have HTW5 := hid ht5
  have HOL5 : Hid (OwnL w w5 H g1 g2 ad ol) := HOL.out.kept hk5 (by simp)
  clear ht5 hk5 HTW4 HOL HOB
  go_wp2_with fail
  refine (write_two HTW5.out _ ys (HY.out.old HTW5.out.1 ?_) (by have := HL2.out; omega) (by simp) (by omega)).mono ?_
  · obtain ⟨_, _, _, _, h5, h6, h7, _⟩ := HTW5.out
    simp [h5, h7]
  rintro e w6 ⟨rfl, ht6, hk6⟩
  have HTW6 := hid ht6
  have HOL6 : Hid (OwnL w w6 H g1 g2 ad ol) := HOL5.out.kept hk6 (by simp)
  clear ht6 hk6 HTW5 HOL5
  rw [List.nil_append, List.nil_append] at HTW6
  go_wp2_with fail
  go_loopw [9] (fun i wr => ∃ k : Nat, k ≤ ol ∧ i = .int .i64 k ∧ Hid (Two w wr H g1 g2 (0 + 100 + 100) xs ys) ∧ Hid (OwnL w wr H g1 g2 ad ol)) (fun i _ => ol - (intOf i).toNat)
  case atStart => exact ⟨0, by omega, rfl, HTW6, HOL6⟩
  case round =>
    obtain ⟨k, hk, rfl, HT, HO⟩ := hrel
    by_cases hlt : k < ol
    · obtain ⟨r, zs, rfl, r1, r2, r3, r4, r5, r6, r7, r8, r9⟩ := HO.out (by omega)
      have c1 := r8 k (by omega)
      rw [Nat.zero_add] at c1
      have f1 := r9 k
      have hs := hid (fun x => r8.set k x (by omega))
      have hc256 : zs.getD k 0 < 256 := by
        have hi : k < zs.length := by omega
        have := r7 zs[k] (List.getElem_mem hi)
        simpa [List.getElem?_eq_getElem hi] using this
      have HR := hid (And.intro r1 (And.intro r2 (And.intro r3 (And.intro r4 (And.intro r5 (And.intro r6 (And.intro r7 r9)))))))
      obtain ⟨c, hc⟩ : ∃ c, zs.getD k 0 = c := ⟨_, rfl⟩
      rw [hc] at c1 hc256
      clear r1 r2 r3 r4 r5 r6 r7 r8 r9 hc
      go_wp2_with fail
      obtain ⟨r1, r2, r3, r4, r5, r6, r7, r9⟩ := HR.out
      have hb := hs.out ((c + 1) % 256)
      rw [Nat.zero_add] at hb
      refine ⟨⟨k + 1, by omega, rfl, HT.out.kept ((Kp.refl _ _).setCell (.inl (by simp)) _) r1 r2 r3 r4, fun _ => ⟨r, zs.set k ((c + 1) % 256), rfl, r1, r2, r3, r4, by simpa using r5, by simpa using r6, ?_, hb, fun j => by rw [World.frozen?_setCell]; exact r9 j⟩⟩, by simp [intOf]; omega⟩
      intro y hy
      rcases List.mem_or_eq_of_mem_set hy with h | rfl
      · exact r7 y h
      · exact Nat.mod_lt _ (by decide)
    · have : k = ol := by omega
      subst this
      go_wp2_with fail
      refine (write_one HT.out _ ys (HY.out.old HT.out.1 ?_) (by have := HL2.out; omega) (by have := HL1.out; omega) (by omega)).mono ?_
      · obtain ⟨_, _, _, _, h5, h6, h7, _⟩ := HT.out
        simp [h5, h6]
      rintro e w7 ⟨rfl, ht7, _⟩
      have HT7 := hid ht7
      clear ht7 HT HO HTW6 HOL6
      go_wp2_with fail
      refine (write_two HT7.out _ xs (HX.out.old HT7.out.1 ?_) (by have := HL1.out; omega) (by have := HL2.out; omega) (by omega)).mono ?_
      · obtain ⟨_, _, _, _, h5, h6, h7, _⟩ := HT7.out
        simp [h5, h7]
      rintro e w8 ⟨rfl, ht8, _⟩
      have HT8 := hid ht8
      clear ht8 HT7
      go_wp2_with fail
      refine (ssum_one HT8.out (by have := HL1.out; have := HL2.out; simp; omega) (by omega)).mono ?_
      rintro e w9 ⟨rfl, ht9, _⟩
      have HT9 := hid ht9
      clear ht9 HT8
      obtain ⟨S1, hS1⟩ : ∃ S, u8s (sha (xs ++ ys)) = S := ⟨_, rfl⟩
      rw [hS1] at HCX ⊢
      have HS1 := hid hS1
      clear hS1
      simp only [List.append] at *
      go_wp2_with (at_builtin; first | (refine app_bytes _ rfl _ _ rfl w9.heap.size _ _ [] xs rfl rfl (own_empty w9) ?hy ?hl ?hb ?_; (case hy => exact HX.out.old (HT9.out.below ((Below.refl _ _).alloc (Nat.le_refl _) _)).1 (by simp)); (case hl => (have h := HL1.out; simp; omega)); (case hb => simp); intro vw10 w10 hownw10 hbelw10) | (refine app_bytes _ rfl _ _ rfl w9.heap.size _ _ ([] ++ xs) ys rfl rfl hownw10 ?hy ?hl ?hb ?_; (case hy => exact HY.out.old (HT9.out.below (((Below.refl _ _).alloc (Nat.le_refl _) (.cells #[] 5)).trans hbelw10)).1 (by simp)); (case hl => (have h := HL1.out; have h2 := HL2.out; simp; omega)); (case hb => (have h := hbelw10.size; simp at h; omega)); intro vw11 w11 hownw11 hbelw11))
      have HTw11 : Hid (Two w w11 H g1 g2 _ _ _) := HT9.out.below ((((Below.refl _ _).alloc (Nat.le_refl _) (.cells #[] 5)).trans hbelw10).trans hbelw11)
      have HVw11 : Hid (BySl [H] w11 vw11 (xs ++ ys)) := OwnB.bySl (by simpa using hownw11) (by have := HT9.out.2.1; obtain ⟨_, _, _, h, _⟩ := this; have := h.1; simp; omega) (by have := HL1.out; have := HL2.out; simp; omega) (by
        intro x hx
        rcases List.mem_append.1 hx with h | h
        · exact hxs256.out x h
        · exact hys256.out x h)
      clear hownw10 hbelw10 hownw11 hbelw11 HT9
      obtain ⟨a11, k11, e11, r11⟩ := id HVw11.out
      clear r11
      subst e11
      refine (sum_two HTw11.out _ (xs ++ ys) HVw11.out (by have := HL1.out; have := HL2.out; simp; omega) (by omega)).mono ?_
      rintro e w12 ⟨rfl, ht12, _⟩
      have HT12 := hid ht12
      clear ht12 HTw11 HVw11
      rw [HS1.out]
      have hcx := HCX.out
      go_wp2_with fail
      refine (ssum_two HT12.out (by have := HL1.out; have := HL2.out; simp; omega) (by omega)).mono ?_
      rintro e w13 ⟨rfl, ht13, _⟩
      have HT13 := hid ht13
      clear ht13 HT12 hcx HCX HS1
      obtain ⟨S2, hS2⟩ : ∃ S, u8s (sha (ys ++ xs)) = S := ⟨_, rfl⟩
      rw [hS2] at HCY ⊢
      have HS2 := hid hS2
      clear hS2
      go_wp2_with (at_builtin; refine wpList_bare (by rfl) ?_; first | (refine app_bytes _ rfl _ _ rfl w13.heap.size _ _ [] ys rfl rfl (own_empty w13) ?hy ?hl ?hb ?_; (case hy => exact HY.out.old (HT13.out.below ((Below.refl _ _).alloc (Nat.le_refl _) _)).1 (by simp)); (case hl => (have h := HL2.out; simp; omega)); (case hb => simp); intro vw14 w14 hownw14 hbelw14) | (refine app_bytes _ rfl _ _ rfl w13.heap.size _ _ ([] ++ ys) xs rfl rfl hownw14 ?hy ?hl ?hb ?_; (case hy => exact HX.out.old (HT13.out.below (((Below.refl _ _).alloc (Nat.le_refl _) (.cells #[] 5)).trans hbelw14)).1 (by simp)); (case hl => (have h := HL2.out; have h2 := HL1.out; simp; omega)); (case hb => (have h := hbelw14.size; simp at h; omega)); intro vw15 w15 hownw15 hbelw15))
      have HTw15 : Hid (Two w w15 H g1 g2 _ _ _) := HT13.out.below ((((Below.refl _ _).alloc (Nat.le_refl _) (.cells #[] 5)).trans hbelw14).trans hbelw15)
      have HVw15 : Hid (BySl [H] w15 vw15 (ys ++ xs)) := OwnB.bySl (by simpa using hownw15) (by have := HT13.out.2.1; obtain ⟨_, _, _, h, _⟩ := this; have := h.1; simp; omega) (by have := HL1.out; have := HL2.out; simp; omega) (by
        intro x hx
        rcases List.mem_append.1 hx with h | h
        · exact hys256.out x h
        · exact hxs256.out x h)
      clear hownw14 hbelw14 hownw15 hbelw15 HT13
      obtain ⟨a15, k15, e15, r15⟩ := id HVw15.out
      clear r15
      subst e15
      refine (sum_two HTw15.out _ (ys ++ xs) HVw15.out (by have := HL1.out; have := HL2.out; simp; omega) (by omega)).mono ?_
      rintro e w16 ⟨rfl, ht16, _⟩
      have HB16 : Hid (Below w.heap.size w w16) := ht16.1
      clear ht16 HTw15 HVw15
      rw [HS2.out]
      have hcy := HCY.out
      go_wp2_with fail
      clear hcy HCY HS2
      refine (sum_nil a1 k k1 w16).mono ?_
      rintro e w17 ⟨rfl, hb17⟩
      have HB17 : Hid (Below w.heap.size w w17) := HB16.out.trans (hb17.mono HB16.out.size)
      clear hb17 HB16
      have hcz := HCZ.out
      rw [← z32] at hcz ⊢
      go_wp2_with fail
      refine (many_nil _ _ _ _).mono ?_
      rintro e w18 ⟨rfl, hw18⟩
      have HB18 : Hid (Below w.heap.size w w18) := by rw [hw18]; exact HB17.out.alloc HB17.out.size _
      clear hw18 HB17 hcz
      go_wp2_with fail
      refine (stream_nil _).mono ?_
      rintro e w19 ⟨rfl, hw⟩
      subst w19
      go_wp2_with fail
      refine (blocks_nil _).mono ?_
      rintro e w19 ⟨rfl, hw⟩
      subst w19
      go_wp2_with fail
      refine (write_nil _ _ _ _).mono ?_
      rintro e w19 ⟨rfl, hw⟩
      subst w19
      go_wp2_with fail
      refine (len_nil _).mono ?_
      rintro e w19 ⟨rfl, hw⟩
      subst w19
      go_wp2_with fail
      refine (ssum_nil _).mono ?_
      rintro e w20 ⟨rfl, hb20⟩
      have HB20 : Hid (Below w.heap.size w w20) := HB18.out.trans (hb20.mono HB18.out.size)
      clear hb20 HB18
      have hcz := HCZ.out
      rw [← z32] at hcz ⊢
      go_wp2_with fail
      refine (alive_any _).mono ?_
      rintro e w21 ⟨rfl, hb21⟩
      have HB21 : Hid (Below w.heap.size w w21) := HB20.out.trans (hb21.mono HB20.out.size)
      clear hb21 HB20 hcz
      go_wp2_with fail
      go_ret
      exact ⟨rfl, HB21.out⟩

set_option maxHeartbeats 400000 in
theorem apart_other (a1 a2 : Option Addr) (L1 L2 k1 k2 : Nat) (w : World) (h : 1000 < L1 ∨ 1000 < L2) (b1 : L1 ≤ 9223372036854775807) (b2 : L2 ≤ 9223372036854775807) :
    Calls Try.prog 6 #[.slice a1 L1 k1, .slice a2 L2 k2] w fun e w' => e = .returned (.bool true) ∧ Below w.heap.size w w' := by
  have hend : Hid (Calls Try.prog 7 #[] w fun e w' => e = .returned (.bool true) ∧ Hid (Below w.heap.size w w')) := alive_any w
  by_cases h1 : 1000 < L1
  · clear h
    go_enter Try.func6, Try.ntmps6
    go_wp2_with fail
    refine hend.out.mono ?_
    rintro e w1 ⟨rfl, HB⟩
    go_wp2_with fail
    go_ret
    exact ⟨rfl, HB.out⟩
  · have h2 : 1000 < L2 := by omega
    clear h
    go_enter Try.func6, Try.ntmps6
    go_wp2_with fail
    refine hend.out.mono ?_
    rintro e w1 ⟨rfl, HB⟩
    go_wp2_with fail
    go_ret
    exact ⟨rfl, HB.out⟩
end Go.Proofs.Ytbmdnjmdehmahaa
