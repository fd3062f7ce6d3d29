/- Of the proof: the texts TlvRefTake, NdRGetF, one behind the other. -/
import Derived.Test.YtenfahecnkdhaaaB7
import Derived.Test.YtenfahecnkdhaaaB8
import Derived.Test.YtenfahecnkdhaaaB10
import Derived.Test.YtenfahecnkdhaaaB11
section
/-
  What the reference's Take and Get answer.
-/
namespace Go.Proofs.Ytenfahecnkdhaaa.Tlv
open Go.RowKit
attribute [local go_sem ↓] Go.wp_at_zero Go.wp_at_succ

theorem AgreeS.of {S : Nat → Prop} {L B : Nat} {w w' : World} (h : Agree L B w w') (hS : ∀ b, S b → L ≤ b ∧ b < B) : AgreeS S w w' := fun b hb => h b (hS b hb).1 (hS b hb).2

set_option maxHeartbeats 1000000 in
set_option maxRecDepth 100000 in
theorem refTake_any (v : Value) (bs : List Int) (w : World) (h : BySl 0 w.heap.size w v bs) :
    Calls Try.prog 75 #[v] w fun e w' => ((rd 8 bs = none ∧ e = .returned (.tuple #[.agg #[.int .i64 0, .int .u64 0, .slice none 0 0, .slice none 0 0], .slice none 0 0, .int .i64 3])) ∨
      (∃ (t : Tr 9) (m : Nat) (sb sk vr : Value), rd 8 bs = some (t, m) ∧ e = .returned (.tuple #[.agg #[.int .i64 t.hd.1, .int .u64 t.hd.2.1, sb, sk], vr, .int .i64 0]) ∧ RepS (fun b => w.heap.size ≤ b ∧ b < w'.heap.size) w' 9 t sb sk ∧ BySl 0 w'.heap.size w' vr (bs.drop m))) ∧ Below w.heap.size w w' := by
  obtain ⟨a, cap, rfl, hr⟩ := id h
  clear hr
  have H := hid h
  have hcapM : cap ≤ 9223372036854775807 := by obtain ⟨_, _, e, _, h3, _⟩ := h; simp only [Value.slice.injEq, true_and] at e; obtain ⟨_, rfl⟩ := e; exact h3
  have hlc : bs.length ≤ cap := by obtain ⟨_, _, e, h2, _⟩ := h; simp only [Value.slice.injEq, true_and] at e; obtain ⟨_, rfl⟩ := e; exact h2
  clear h
  obtain ⟨R, hR⟩ : ∃ R, rd 8 bs = R := ⟨_, rfl⟩
  rw [hR]
  have HR := hid hR
  clear hR
  have hS : w.heap.size ≤ (w.alloc (Obj.cells #[Value.int IntKind.i64 0, Value.int IntKind.u64 0, Value.slice none 0 0, Value.slice none 0 0] 86)).heap.size := by simp
  have hbs : Hid (BySl 0 (w.alloc (Obj.cells #[Value.int IntKind.i64 0, Value.int IntKind.u64 0, Value.slice none 0 0, Value.slice none 0 0] 86)).heap.size (w.alloc (Obj.cells #[Value.int IntKind.i64 0, Value.int IntKind.u64 0, Value.slice none 0 0, Value.slice none 0 0] 86)) (.slice a bs.length cap) bs) := H.out.agree ((Agree.refl _ _ _).alloc (Nat.le_refl _) _) (Nat.le_refl _) hS
  have hrd := hid (rreadOk 8 (Nat.le_refl _))
  clear hS
  obtain ⟨L, hL⟩ : ∃ L, bs.length = L := ⟨_, rfl⟩
  have HL := hid hL
  rw [hL] at hbs hlc ⊢
  clear hL
  go_enter Try.func75, Try.ntmps75
  go_wp2_with fail
  refine (hrd.out _ bs _ hbs.out).mono ?_
  rintro e w1 ⟨hres, hb1⟩
  obtain ⟨hz, g0, g1, g2, g3, gf, hbel⟩ := res_facts32 (w := w) (w1 := w1) (by simpa using hb1)
  have HB := hid hbel
  clear hb1 hbel
  rcases hres with ⟨hn, rfl⟩ | ⟨t, m, sb, sk, hs, rfl, hr1⟩
  · have HN := hid hn
    clear hn
    go_wp2_with fail
    obtain ⟨q0, q1, q2, q3⟩ := set4_read (w := w1) (u0 := .int .i64 0) (u1 := .int .u64 0) (u2 := .slice none 0 0) (u3 := .slice none 0 0) g0 g1 g2 g3
    refine bodyPost_ret (v := .tuple #[.agg #[.int .i64 0, .int .u64 0, .slice none 0 0, .slice none 0 0], .slice none 0 0, .int .i64 3]) (by simp [results, Try.results75, go_sem, q0, q1, q2, q3, hz]) rfl ⟨.inl ⟨?_, rfl⟩, (HB.out.trans (bset4 (Nat.le_refl _) _ _ _ _)).alloc (by simp; omega) _⟩
    rw [← HR.out, HN.out]
  · obtain ⟨a1, l1, p1, a2, l2, p2, rfl, rfl⟩ := hr1.sl
    have HS := hid hs
    have Hr1 := hid hr1
    have hm := rd_pos hs
    rw [HL.out] at hm
    clear hs hr1
    obtain ⟨b, o, ha⟩ : ∃ b o, a = some ⟨b, o, none⟩ := by
      obtain ⟨_, _, e, _, _, _, _, _, h7⟩ := hbs.out
      simp only [Value.slice.injEq] at e
      obtain ⟨rfl, _, rfl⟩ := e
      obtain ⟨b, o, e, _⟩ := h7 (by intro e; have := HL.out; subst e; simp at this; omega)
      exact ⟨b, o, e⟩
    subst ha
    have hmz : ((m : Int) == 0) = false := by simp; omega
    obtain ⟨A, hA⟩ : ∃ A, (if cap = m then some (⟨b, o, none⟩ : Addr) else some ⟨b, o + m, none⟩) = A := ⟨_, rfl⟩
    go_upto_region 4 with fail
    go_region
    all_goals go_wp2_with fail
    obtain ⟨q0, q1, q2, q3⟩ := set4_read (w := w1) (u0 := .int .i64 t.hd.1) (u1 := .int .u64 t.hd.2.1) (u2 := .slice a1 l1 p1) (u3 := .slice a2 l2 p2) g0 g1 g2 g3
    have hA1 : Agree (w.heap.size + 1) w1.heap.size w1 (((((w1.setCell ⟨w.heap.size, 0, none⟩ (.int .i64 t.hd.1)).setCell ⟨w.heap.size, 1, none⟩ (.int .u64 t.hd.2.1)).setCell ⟨w.heap.size, 2, none⟩ (.slice a1 l1 p1)).setCell ⟨w.heap.size, 3, none⟩ (.slice a2 l2 p2)).alloc (Obj.cells #[.int .i64 t.hd.1, .int .u64 t.hd.2.1, .slice a1 l1 p1, .slice a2 l2 p2] 86)).drew := ((Agree.set4 _ (.inl (by omega)) _ _ _ _).alloc (by simp) _).drew
    have hB1 : Below w.heap.size w (((((w1.setCell ⟨w.heap.size, 0, none⟩ (.int .i64 t.hd.1)).setCell ⟨w.heap.size, 1, none⟩ (.int .u64 t.hd.2.1)).setCell ⟨w.heap.size, 2, none⟩ (.slice a1 l1 p1)).setCell ⟨w.heap.size, 3, none⟩ (.slice a2 l2 p2)).alloc (Obj.cells #[.int .i64 t.hd.1, .int .u64 t.hd.2.1, .slice a1 l1 p1, .slice a2 l2 p2] 86)).drew := ((HB.out.trans (bset4 (Nat.le_refl _) _ _ _ _)).alloc (by simp; omega) _).drew
    refine bodyPost_ret (v := .tuple #[.agg #[.int .i64 t.hd.1, .int .u64 t.hd.2.1, .slice a1 l1 p1, .slice a2 l2 p2], .slice A (L - m) (cap - m), .int .i64 0]) (by simp [results, Try.results75, go_sem, q0, q1, q2, q3, hz]) rfl ⟨.inr ⟨t, m, .slice a1 l1 p1, .slice a2 l2 p2, .slice A (L - m) (cap - m), ?_, rfl, ?_, ?_⟩, hB1⟩
    · rw [← HR.out, HS.out]
    · refine RepS.agree (AgreeS.of hA1 ?_) ?_ Hr1.out
      · intro b hb; simp at hb; omega
      · intro b hb; simp at hb; simp; omega
    · have hq : BySl 0 w.heap.size _ (.slice (some ⟨b, o, none⟩) bs.length cap) bs := H.out.agree (Agree.below hB1) (Nat.le_refl _) (Nat.le_refl _)
      have := bySl_rest hq m (by rw [HL.out]; omega) rfl
      rw [hA, HL.out] at this
      exact this.agree (Agree.refl _ _ _) (Nat.le_refl _) (by simp; omega)

set_option maxHeartbeats 1000000 in
set_option maxRecDepth 100000 in
theorem refGet_any (v : Value) (bs : List Int) (w : World) (h : BySl 0 w.heap.size w v bs) :
    Calls Try.prog 51 #[v] w fun e w' => ((getT bs = none ∧ e = .returned (.tuple #[.agg #[.int .i64 0, .int .u64 0, .slice none 0 0, .slice none 0 0], .int .i64 3])) ∨
      (∃ (t : Tr 9) (sb sk : Value), getT bs = some t ∧ e = .returned (.tuple #[.agg #[.int .i64 t.hd.1, .int .u64 t.hd.2.1, sb, sk], .int .i64 0]) ∧ RepS (fun b => w.heap.size ≤ b ∧ b < w'.heap.size) w' 9 t sb sk)) ∧ Below w.heap.size w w' := by
  obtain ⟨a, cap, rfl, hr⟩ := id h
  clear hr
  have H := hid h
  clear h
  obtain ⟨R, hR⟩ : ∃ R, getT bs = R := ⟨_, rfl⟩
  rw [hR]
  have HR := hid hR
  clear hR
  have hS : w.heap.size ≤ (w.alloc (Obj.cells #[Value.int IntKind.i64 0, Value.int IntKind.u64 0, Value.slice none 0 0, Value.slice none 0 0] 86)).heap.size := by simp
  have hbs : Hid (BySl 0 (w.alloc (Obj.cells #[Value.int IntKind.i64 0, Value.int IntKind.u64 0, Value.slice none 0 0, Value.slice none 0 0] 86)).heap.size (w.alloc (Obj.cells #[Value.int IntKind.i64 0, Value.int IntKind.u64 0, Value.slice none 0 0, Value.slice none 0 0] 86)) (.slice a bs.length cap) bs) := H.out.agree ((Agree.refl _ _ _).alloc (Nat.le_refl _) _) (Nat.le_refl _) hS
  clear hS
  obtain ⟨L, hL⟩ : ∃ L, bs.length = L := ⟨_, rfl⟩
  have HL := hid hL
  rw [hL] at hbs ⊢
  clear hL
  go_enter Try.func51, Try.ntmps51
  go_wp2_with fail
  refine (refTake_any _ bs _ hbs.out).mono ?_
  rintro e w1 ⟨hres, hb1⟩
  obtain ⟨hz, g0, g1, g2, g3, gf, hbel⟩ := res_facts32 (w := w) (w1 := w1) (by simpa using hb1)
  have HB := hid hbel
  clear hb1 hbel
  rcases hres with ⟨hn, rfl⟩ | ⟨t, m, sb, sk, vr, hs, rfl, hr1, hvr⟩
  · have HN := hid hn
    clear hn
    go_wp2_with fail
    obtain ⟨q0, q1, q2, q3⟩ := set4_read (w := w1) (u0 := .int .i64 0) (u1 := .int .u64 0) (u2 := .slice none 0 0) (u3 := .slice none 0 0) g0 g1 g2 g3
    refine bodyPost_ret (v := .tuple #[.agg #[.int .i64 0, .int .u64 0, .slice none 0 0, .slice none 0 0], .int .i64 3]) (by simp [results, Try.results51, go_sem, q0, q1, q2, q3, hz]) rfl ⟨.inl ⟨?_, rfl⟩, (HB.out.trans (bset4 (Nat.le_refl _) _ _ _ _)).alloc (by simp; omega) _⟩
    rw [← HR.out, getT, HN.out]
  · obtain ⟨a1, l1, p1, a2, l2, p2, rfl, rfl⟩ := hr1.sl
    obtain ⟨a3, c3, rfl, hr3⟩ := id hvr
    clear hr3 hvr
    have HS := hid hs
    have Hr1 := hid hr1
    have hm := rd_pos hs
    rw [HL.out] at hm
    clear hs hr1
    have hdl : (bs.drop m).length = L - m := by rw [List.length_drop, HL.out]
    obtain ⟨M, hM⟩ : ∃ M, L - m = M := ⟨_, rfl⟩
    rw [hdl, hM]
    have HdM := hid hM
    clear hdl hM
    cases M with
    | zero =>
      have HM : Hid (m = L) := by have := HdM.out; unfold Hid; omega
      go_wp2_with fail
      obtain ⟨q0, q1, q2, q3⟩ := set4_read (w := w1) (u0 := .int .i64 t.hd.1) (u1 := .int .u64 t.hd.2.1) (u2 := .slice a1 l1 p1) (u3 := .slice a2 l2 p2) g0 g1 g2 g3
      refine bodyPost_ret (v := .tuple #[.agg #[.int .i64 t.hd.1, .int .u64 t.hd.2.1, .slice a1 l1 p1, .slice a2 l2 p2], .int .i64 0]) (by simp [results, Try.results51, go_sem, q0, q1, q2, q3, hz]) rfl ⟨.inr ⟨t, .slice a1 l1 p1, .slice a2 l2 p2, ?_, rfl, ?_⟩, (HB.out.trans (bset4 (Nat.le_refl _) _ _ _ _)).alloc (by simp; omega) _⟩
      · rw [← HR.out, getT, HS.out]
        simp only
        rw [if_pos (by rw [HL.out]; exact HM.out)]
      · refine RepS.agree (AgreeS.of ((Agree.set4 (L := w.heap.size + 1) (B := w1.heap.size) w1 (.inl (by simp)) _ _ _ _).alloc (by simp) _) ?_) ?_ Hr1.out
        · intro b hb; simp at hb; omega
        · intro b hb; simp at hb; simp; omega
    | succ M =>
      have HM : Hid (¬ m = L) := by have := HdM.out; unfold Hid; omega
      go_wp2_with fail
      obtain ⟨q0, q1, q2, q3⟩ := set4_read (w := w1) (u0 := .int .i64 0) (u1 := .int .u64 0) (u2 := .slice none 0 0) (u3 := .slice none 0 0) g0 g1 g2 g3
      refine bodyPost_ret (v := .tuple #[.agg #[.int .i64 0, .int .u64 0, .slice none 0 0, .slice none 0 0], .int .i64 3]) (by simp [results, Try.results51, go_sem, q0, q1, q2, q3, hz]) rfl ⟨.inl ⟨?_, rfl⟩, (HB.out.trans (bset4 (Nat.le_refl _) _ _ _ _)).alloc (by simp; omega) _⟩
      rw [← HR.out, getT, HS.out]
      simp only
      rw [if_neg (by rw [HL.out]; exact HM.out)]

end Go.Proofs.Ytenfahecnkdhaaa.Tlv
end

section
/-
  GetFile, of the document.
-/
namespace Go.Proofs.Ytenfahecnkdhaaa.Nd
open Go.RowKit
open Tlv (Tr Agree AgreeS RepS BySlS KSlS)
open Sim (hid Kp No)
set_option linter.unusedSimpArgs false

theorem FI.startT (w1 : World) (s : Int) (T : TypeId) : FI w1 w1.heap.size s [] (.slice none 0 0) (w1.alloc (.cells #[.int .i64 s, .slice none 0 0] T)) :=
  ⟨by simp, by simp, by simp, by simp, HMine.nil _ _, (Below.refl _ _).alloc (Nat.le_refl _) _⟩
theorem docF_one {t : Tr 9} {s s' : Int} {d d' : List (List Int)} (h : DocF t s d) (h' : DocF t s' d') : s = s' ∧ d = d' := by
  obtain ⟨_, t0, t1, hk, _, e1, _, _, _, e2⟩ := h
  obtain ⟨_, t0', t1', hk', _, e1', _, _, _, e2'⟩ := h'
  rw [hk] at hk'
  simp only [List.cons.injEq, and_true] at hk'
  obtain ⟨rfl, rfl⟩ := hk'
  exact ⟨e1.symm.trans e1', e2.symm.trans e2'⟩
theorem gfile_none {bs : List Int} {t : Tr 9} (hb : ∀ x ∈ bs, 0 ≤ x ∧ x ≤ 255) (hg : Tlv.getT bs = some t) (h : ∀ s d, DocF t s d → fileB s d.length = true → objP (fileT s d) → False) : gfile bs = none := by
  cases hf : gfile bs with
  | none => rfl
  | some x =>
    obtain ⟨s, d⟩ := x
    obtain ⟨t', h1, h2, h3, h4⟩ := docF_no hb hf
    rw [hg] at h1
    cases h1
    exact (h s d h2 h3 h4).elim
theorem gfile_nil {bs : List Int} (hb : ∀ x ∈ bs, 0 ≤ x ∧ x ≤ 255) (hg : Tlv.getT bs = none) : gfile bs = none := by
  cases hf : gfile bs with
  | none => rfl
  | some x =>
    obtain ⟨s, d⟩ := x
    obtain ⟨t', h1, _⟩ := docF_no hb hf
    rw [hg] at h1
    cases h1
theorem kid_atS {n k : Nat} {S : Nat → Prop} {w : World} {a : Option Addr} {l c : Nat} {ks : List (Tr (n + 1))} (h : KSlS S w (RepS S w (n + 1)) (.slice a l c) ks) (hk : k < ks.length) :
    ∃ g o t sb sk, a = some ⟨g, o, none⟩ ∧ S g ∧ ks[k]? = some t ∧ w.cell? ⟨g, o + k * 4, none⟩ = some (.int .i64 t.hd.1) ∧ w.cell? ⟨g, o + k * 4 + 1, none⟩ = some (.int .u64 t.hd.2.1) ∧
      w.cell? ⟨g, o + k * 4 + 2, none⟩ = some sb ∧ w.cell? ⟨g, o + k * 4 + 3, none⟩ = some sk ∧ RepS S w (n + 1) t sb sk := by
  obtain ⟨a', c', e, _, _, _, _, h7⟩ := h
  simp only [Value.slice.injEq] at e
  obtain ⟨rfl, _, _⟩ := e
  obtain ⟨g, o, e, hg, hc⟩ := h7 (by intro e; subst e; simp at hk)
  obtain ⟨t, ht⟩ : ∃ t, ks[k]? = some t := ⟨_, List.getElem?_eq_getElem hk⟩
  obtain ⟨sb, sk, h0, h1, h2, h3, hr⟩ := hc k t ht
  exact ⟨g, o, t, sb, sk, e, hg, ht, h0, h1, h2, h3, hr⟩
theorem kslS_len {n : Nat} {S : Nat → Prop} {w : World} {R : Tr n → Value → Value → Prop} {a : Option Addr} {l c : Nat} {ks : List (Tr n)} (h : KSlS S w R (.slice a l c) ks) : l = ks.length := by
  obtain ⟨_, _, e, _⟩ := h
  simp only [Value.slice.injEq] at e
  exact e.2.1
theorem bySlS_ok {S : Nat → Prop} {w : World} {v : Value} {bs : List Int} (h : BySlS S w v bs) : ∀ x ∈ bs, 0 ≤ x ∧ x ≤ 255 := by
  obtain ⟨_, _, _, _, _, _, _, h6, _⟩ := h
  exact h6

theorem form_kids (s : Int) (d : List (List Int)) (hd : ∀ h ∈ d, HOk h) : 35 * d.length ≤ (Tlv.formOf 3 (fileT s d)).length := by
  have h1 : ∀ d : List (List Int), (∀ h ∈ d, HOk h) → (((d.map hashT).map (Tlv.formOf 1)).flatten).length = 35 * d.length := by
    intro d
    induction d with
    | nil => simp
    | cons h d ih =>
      intro hd
      have hf : (Tlv.formOf 1 (hashT h)).length = 35 := by
        have : Tlv.bodyOf 1 (hashT h) = h := by simp [Tlv.bodyOf, hashT, Tr.mk, Tlv.Tr.hd]
        simp [Tlv.formOf, this, (hd h (by simp)).1]
      simp only [List.map_cons, List.flatten_cons, List.length_append, List.length_cons, hf, ih (fun x hx => hd x (by simp [hx]))]
      omega
  have h2 : Tlv.bodyOf 3 (fileT s d) = (([(Tr.mk 1 s [] [] : Tr 2), Tr.mk 3 0 [] (d.map hashT)]).map (Tlv.formOf 2)).flatten := Tlv.bodyOf_kids rfl
  have h3 : Tlv.bodyOf 2 (Tr.mk 3 0 [] (d.map hashT) : Tr 2) = ((d.map hashT).map (Tlv.formOf 1)).flatten := Tlv.bodyOf_kids rfl
  have h4 : (Tlv.formOf 3 (fileT s d)).length = 3 + (Tlv.bodyOf 3 (fileT s d)).length := by simp [Tlv.formOf]; omega
  have h5 : (Tlv.formOf 2 (Tr.mk 3 0 [] (d.map hashT) : Tr 2)).length = 3 + (Tlv.bodyOf 2 (Tr.mk 3 0 [] (d.map hashT) : Tr 2)).length := by simp [Tlv.formOf]; omega
  rw [h4, h2]
  simp only [List.map_cons, List.map_nil, List.flatten_cons, List.flatten_nil, List.append_nil, List.length_append, h5, h3, h1 d hd]
  omega

set_option maxHeartbeats 16000000 in
set_option maxRecDepth 100000 in
theorem rGetFile_any (w : World) (K0 : Int) (v : Value) (bs : List Int) (hv : Tlv.BySl 0 w.heap.size w v bs) (hl : bs.length ≤ 6000) :
    Calls Try.prog 20 #[.agg #[.int .i64 K0, v]] w fun e w' => GFA w w' K0 bs e ∧ Below w.heap.size w w' := by
  obtain ⟨a, c, rfl, hxx⟩ := id hv
  clear hxx
  have HBS := hid (Tlv.BySl.bytes hv)
  have HBL := hid hl
  obtain ⟨n, hn⟩ : ∃ n, bs.length = n := ⟨_, rfl⟩
  rw [hn] at hv ⊢
  obtain ⟨W0, hW0⟩ : ∃ W, (w.alloc (.cells #[.int .i64 K0, .slice a n c] 29)).alloc (.cells #[.int .i64 0, .slice none 0 0] 24) = W := ⟨_, rfl⟩
  have HB0 : Hid (Below w.heap.size w W0) := by rw [Hid, ← hW0]; exact ((Below.refl _ _).alloc (Nat.le_refl _) _).alloc (by simp) _
  have HZ0 : Hid (W0.heap.size = w.heap.size + 2) := by rw [Hid, ← hW0]; simp
  have HX0 : Hid (∀ V, Below W0.heap.size W0 V → V.cell? ⟨w.heap.size + 1, 0, none⟩ = some (.int .i64 0) ∧ V.cell? ⟨w.heap.size + 1, 1, none⟩ = some (.slice none 0 0) ∧ (∀ o, V.frozen? ⟨w.heap.size + 1, o, none⟩ = false) ∧ w.heap.size + 1 < V.heap.size) := fun V hV => by
    have hs := hV.size
    have hz := HZ0.out
    refine ⟨?_, ?_, fun o => ?_, by omega⟩
    · rw [hV.cell (p := ⟨w.heap.size + 1, 0, none⟩) (by show w.heap.size + 1 < _; omega), ← hW0]; simp [go_sem]
    · rw [hV.cell (p := ⟨w.heap.size + 1, 1, none⟩) (by show w.heap.size + 1 < _; omega), ← hW0]; simp [go_sem]
    · rw [hV.frozen (p := ⟨w.heap.size + 1, o, none⟩) (by show w.heap.size + 1 < _; omega), ← hW0]; simp [go_sem]
  have hbox : W0.cell? ⟨w.heap.size, 0, none⟩ = some (.int .i64 K0) ∧ W0.cell? ⟨w.heap.size, 1, none⟩ = some (.slice a n c) := by rw [← hW0]; simp [go_sem]
  have HGT := hid (Tlv.refGet_any (.slice a n c) bs W0 (hv.agree (Agree.below HB0.out) (Nat.le_refl _) HB0.out.size))
  clear hv hn hl
  obtain ⟨hx0, hx1⟩ := hbox
  by_cases hk : K0 = 2
  · subst hk
    go_enter Try.func20, Try.ntmps20
    go_wp2_with fail
    refine HGT.out.mono ?_
    rintro e w2 ⟨hres, hb2⟩
    have HB2 := hid hb2
    clear hx0 hx1 hW0 HGT hb2
    rcases hres with ⟨hno, rfl⟩ | ⟨t, sb, sk, hg, rfl, hrep⟩
    · have HG : Hid (gfile bs = none) := gfile_nil HBS.out hno
      have HA : Hid (∀ w', GFA w w' 2 bs (.returned (.tuple #[zFil, .int .i64 3]))) := fun w' => .inr (.inl ⟨rfl, HG.out, rfl⟩)
      have HBX : Hid (Below W0.heap.size W0 (w2.alloc (.cells #[.int .i64 0, .int .u64 0, .slice none 0 0, .slice none 0 0] 86))) := HB2.out.alloc HB2.out.size _
      obtain ⟨g0, g1, gf, hg2⟩ := HX0.out _ HBX.out
      clear hno HG
      go_wp2_with fail
      obtain ⟨q0, q1⟩ := set2_read (u0 := .int .i64 0) (u1 := .slice none 0 0) g0 g1
      refine bodyPost_ret (v := .tuple #[zFil, .int .i64 3]) (by simp [results, Try.results20, go_sem, q0, q1, zFil]) rfl ⟨HA.out _, ?_⟩
      exact ((HB0.out.trans (HBX.out.mono HB0.out.size)).setCell (by simp) _).setCell (by simp) _
    · obtain ⟨a3, l3, p3, a4, l4, p4, rfl, rfl⟩ := hrep.sl
      have HGT := hid hg
      have HRT := hid (getT_Rt HBS.out hg)
      obtain ⟨tg, htg⟩ : ∃ x, t.hd.1 = x := ⟨_, rfl⟩
      obtain ⟨nm, hnm⟩ : ∃ x, t.hd.2.1 = x := ⟨_, rfl⟩
      have h4 : l4 = t.kd.length := kslS_len hrep.2.2.2
      have HTG := hid htg
      rw [htg, hnm]
      obtain ⟨W2, hW2⟩ : ∃ W, w2.alloc (.cells #[.int .i64 tg, .int .u64 nm, .slice a3 l3 p3, .slice a4 l4 p4] 86) = W := ⟨_, rfl⟩
      have HBW2 : Hid (Below W0.heap.size W0 W2) := by rw [Hid, ← hW2]; exact HB2.out.alloc HB2.out.size _
      have HBA : Hid (Below w.heap.size w W2) := HB0.out.trans (HBW2.out.mono HB0.out.size)
      have HZ2 : Hid (W2.heap.size = w2.heap.size + 1) := by rw [Hid, ← hW2]; simp
      have HR2 : Hid (RepS (fun b => b < W2.heap.size) W2 9 t (.slice a3 l3 p3) (.slice a4 l4 p4)) := hrep.agree (fun b hb => by rw [← hW2]; exact Below.heap_alloc _ _ _ hb.2) (fun b hb => by have := HZ2.out; have := hb.2; omega)
      have HV2 : Hid (∀ V, Kp No W2 V → V.cell? ⟨w2.heap.size, 0, none⟩ = some (.int .i64 tg) ∧ V.cell? ⟨w2.heap.size, 3, none⟩ = some (.slice a4 l4 p4)) := fun V hV => by
        have hz := HZ2.out
        have e : ∀ o, V.cell? ⟨w2.heap.size, o, none⟩ = W2.cell? ⟨w2.heap.size, o, none⟩ := fun o => hV.cell (p := ⟨w2.heap.size, o, none⟩) (by show w2.heap.size < _; omega) (fun x => x)
        rw [e, e, ← hW2]
        exact ⟨by simp, by simp⟩
      have HA : Hid (gfile bs = none → ∀ w', GFA w w' 2 bs (.returned (.tuple #[zFil, .int .i64 3]))) := fun h w' => .inr (.inl ⟨rfl, h, rfl⟩)
      have HNO : Hid ((∀ s d, DocF t s d → fileB s d.length = true → objP (fileT s d) → False) → gfile bs = none) := gfile_none HBS.out HGT.out
      obtain ⟨f0, f3⟩ := HV2.out W2 (Kp.refl _ _)
      obtain ⟨g0, g1, gf, hg2⟩ := HX0.out _ HBW2.out
      clear hg hrep htg hnm
      by_cases h3 : tg = 3
      · subst h3
        by_cases h2 : l4 = 2
        · subst h2
          obtain ⟨t0, t1, hkd⟩ : ∃ t0 t1, t.kd = [t0, t1] := by
            match hk' : t.kd, h4 with
            | [t0, t1], _ => exact ⟨t0, t1, rfl⟩
          clear h4
          have hks := HR2.out.2.2.2
          rw [hkd] at hks
          obtain ⟨g, o, x0', sb0, sk0, rfl, hgS, hx0', c00, c01, c02, c03, r0⟩ := kid_atS hks (k := 0) (by simp)
          obtain ⟨g', o', x1', sb1, sk1, e, _, hx1', c10, c11, c12, c13, r1⟩ := kid_atS hks (k := 1) (by simp)
          simp only [Option.some.injEq, Addr.mk.injEq] at e
          obtain ⟨rfl, rfl, _⟩ := e
          simp only [List.getElem?_cons_zero, List.getElem?_cons_succ, Option.some.injEq] at hx0' hx1'
          subst hx0'
          subst hx1'
          simp only [Nat.zero_mul, Nat.one_mul, Nat.add_zero, Nat.add_assoc, Nat.reduceAdd] at c00 c01 c10 c13
          obtain ⟨sq1, sq2⟩ : 0 ≤ t0.hd.2.1 ∧ t0.hd.2.1 ≤ 18446744073709551615 := ⟨r0.1, r0.2.1⟩
          have HKD := hid hkd
          obtain ⟨_, _, _, hkk⟩ := r1
          obtain ⟨a1, p1, rfl, hxx⟩ := id hkk
          clear hxx
          obtain ⟨m, hm⟩ : ∃ m, t1.kd.length = m := ⟨_, rfl⟩
          have HM := hid hm
          have hm5 : m ≤ 65535 := by
            obtain ⟨r, hr1, hr2⟩ := (Rt_count HRT.out).2 t1 (by rw [hkd]; simp)
            have := (Rt_count hr2).1
            omega
          rw [hm] at hkk c13
          have HKK := hid hkk
          obtain ⟨tg0, htg0⟩ : ∃ x, t0.hd.1 = x := ⟨_, rfl⟩
          obtain ⟨tg1, htg1⟩ : ∃ x, t1.hd.1 = x := ⟨_, rfl⟩
          obtain ⟨s, hs⟩ : ∃ x, t0.hd.2.1 = x := ⟨_, rfl⟩
          rw [htg0] at c00
          rw [htg1] at c10
          rw [hs] at c01 sq1 sq2
          have HT0 := hid htg0
          have HT1 := hid htg1
          have HS0 := hid hs
          have hgl : g < W2.heap.size := hgS
          clear hks c02 c03 c11 c12 r0 hkd hkk hm htg0 htg1 hs hgS
          by_cases h5 : tg0 = 1
          · subst h5
            by_cases h6 : s > 1000000
            · have HG : Hid (gfile bs = none) := HNO.out (fun s' d h _ _ => by
                obtain ⟨_, u0, u1, hu, _, e1, e2, _⟩ := h
                rw [HKD.out] at hu
                simp only [List.cons.injEq, and_true] at hu
                obtain ⟨rfl, rfl⟩ := hu
                have := HS0.out
                omega)
              have HA := hid (HA.out HG.out)
              clear HG
              go_wp2_with fail
              obtain ⟨q0, q1⟩ := set2_read (u0 := .int .i64 0) (u1 := .slice none 0 0) g0 g1
              refine bodyPost_ret (v := .tuple #[zFil, .int .i64 3]) (by simp [results, Try.results20, go_sem, q0, q1, zFil]) rfl ⟨HA.out _, ?_⟩
              exact (HBA.out.setCell (by simp) _).setCell (by simp) _
            · have h6b : decide (s > 1000000) = false := by simpa using h6
              by_cases h7 : tg1 = 3
              · subst h7
                have hws : wrap64 s = s := IntWalk.wrap64_in _ ⟨by omega, by omega⟩
                have HWS := hid hws
                have HS6 : Hid (0 ≤ s ∧ s ≤ 1000000) := ⟨sq1, by omega⟩
                have HCL : Hid (∀ V, Kp No W2 V → V.cell? ⟨w2.heap.size, 3, none⟩ = some (.slice (some ⟨g, o, none⟩) 2 p4) ∧ V.cell? ⟨g, o + 7, none⟩ = some (.slice a1 m p1)) := fun V hV => ⟨(HV2.out V hV).2, (hV.cell (p := ⟨g, _, none⟩) hgl (fun x => x)).trans c13⟩
                have HDF : Hid ((∀ k ∈ t1.kd, k.hd.1 = 2 ∧ k.hd.2.2.length = 32) → DocF t s (t1.kd.map (fun k => k.hd.2.2))) := fun h => ⟨HTG.out, t0, t1, HKD.out, HT0.out, HS0.out, HS6.out.2, HT1.out, h, rfl⟩
                go_wp2_with fail
                clear hW2
                try simp only [HWS.out]
                clear f0 f3 g0 g1 gf hg2 c00 c01 c10 c13 h6 h6b hws
                go_loopw [7] (fun v7 wr => ∃ (k : Nat) (av : Option Addr) (cv : Nat), v7 = .int .i64 (k : Int) ∧ k ≤ m ∧ Hid (FI W2 W2.heap.size s ((t1.kd.take k).map (fun k => k.hd.2.2)) (.slice av k cv) wr) ∧ Hid (∀ x ∈ t1.kd.take k, x.hd.1 = 2 ∧ x.hd.2.2.length = 32)) (fun v7 _ => m - (intOf v7).toNat)
                case atStart => exact ⟨0, none, 0, rfl, Nat.zero_le _, (show FI _ _ _ _ _ _ from by simpa using FI.startT W2 s 24), by intro x hx; simp at hx⟩
                case round =>
                  obtain ⟨k, av, cv, rfl, hkm, HS, HTK⟩ := hrel
                  have HKR : Hid (Kp No W2 wr) := Kp.below HS.out.2.2.2.2.2
                  have HBR : Hid (Below W0.heap.size W0 wr) := HBW2.out.trans (HS.out.2.2.2.2.2.mono HBW2.out.size)
                  have HBRw : Hid (Below w.heap.size w wr) := HB0.out.trans (HBR.out.mono HB0.out.size)
                  obtain ⟨y0, y1⟩ := HCL.out wr HKR.out
                  have hglr : g < wr.heap.size := Nat.lt_of_lt_of_le hgl HKR.out.size
                  by_cases hlt : k < m
                  · have hltI : (k : Int) < (m : Int) := by omega
                    have hwk : IntKind.i64.wrap ((k : Int) + 1) = ((k + 1 : Nat) : Int) := by rw [IntKind.wrap_i64]; omega
                    obtain ⟨g2, o2, x, sbx, skx, rfl, hg2, hx, d0, d1, d2, d3, hrx⟩ := kid_atS HKK.out (k := k) (by rw [HM.out]; exact hlt)
                    obtain ⟨ax, lx, cx, ay, ly, cy, rfl, rfl⟩ := hrx.sl
                    have hg2' : g2 < W2.heap.size := hg2
                    rw [← HKR.out.cell (p := ⟨g2, _, none⟩) hg2' (fun x => x)] at d0 d1 d2 d3
                    have hg2r : g2 < wr.heap.size := Nat.lt_of_lt_of_le hg2' HKR.out.size
                    have hbx := hrx.2.2.1
                    have HBY := hid (hbx.agree (S' := fun b => b < wr.heap.size) (w' := wr) (fun b hb => HKR.out.block b hb (fun x => x)) (fun b hb => Nat.lt_of_lt_of_le hb HKR.out.size))
                    have HX := hid hx
                    have HXM : Hid (x ∈ t1.kd) := List.mem_of_getElem? hx
                    have HTK1 : Hid (t1.kd.take (k + 1) = t1.kd.take k ++ [x]) := by rw [Hid, List.take_add_one, hx]; rfl
                    have HLK : Hid (((t1.kd.take k).map (fun k => k.hd.2.2)).length = k) := by have := HM.out; rw [Hid]; simp; omega
                    obtain ⟨tgx, htx⟩ : ∃ y, x.hd.1 = y := ⟨_, rfl⟩
                    obtain ⟨nx, hnx⟩ : ∃ y, x.hd.2.1 = y := ⟨_, rfl⟩
                    obtain ⟨bx, hbx'⟩ : ∃ y, x.hd.2.2 = y := ⟨_, rfl⟩
                    have HTX := hid htx
                    have HBX := hid hbx'
                    rw [htx] at d0
                    rw [hnx] at d1
                    rw [hbx'] at HBY
                    have HOKB := hid (bySlS_ok HBY.out)
                    have HRH := hid (rhash_any wr tgx nx ax ay lx cx ly cy bx HBY.out)
                    clear hx hrx hbx htx hnx hbx' hg2 hg2'
                    go_wp2_with fail
                    refine HRH.out.mono ?_
                    rintro e w5 ⟨hres, k5⟩
                    have HK5 := hid k5
                    clear k5 HRH d0 d1 d2 d3 y0 y1
                    rcases hres with ⟨h1, h2, rfl⟩ | ⟨hno, rfl⟩
                    · have HHO : Hid (HOk bx) := ⟨h2, HOKB.out⟩
                      obtain ⟨cbx, hcbx⟩ : ∃ y, b8 bx = y := ⟨_, rfl⟩
                      have HCB := hid hcbx
                      have hcl : cbx.length = 32 := by rw [← hcbx, b8_length, h2]
                      have HIH : Hid ((Try.prog.info? 68).map (·.size) = some cbx.length) := by rw [Hid, hcl]; exact infH
                      have HOB : Hid (cbx.toArray.all (·.oneCell') = true) := by rw [← hcbx]; exact all_oneCell_toArray (b8_one bx)
                      have HB1 := hid (fun W => run_oneH HHO.out.1 W)
                      have HT2 : Hid (∀ x ∈ t1.kd.take (k + 1), x.hd.1 = 2 ∧ x.hd.2.2.length = 32) := fun z hz => by
                        rw [HTK1.out] at hz
                        rcases List.mem_append.1 hz with hz | hz
                        · exact HTK.out z hz
                        · rw [List.mem_singleton.1 hz, HTX.out, HBX.out]
                          exact ⟨h1, h2⟩
                      have HNXD : Hid ((t1.kd.take k).map (fun k => k.hd.2.2) ++ [bx] = (t1.kd.take (k + 1)).map (fun k => k.hd.2.2)) := by rw [Hid, HTK1.out, List.map_append, ← HBX.out]; rfl
                      rw [hcbx] at HB1 ⊢
                      clear h1 h2 hcbx
                      go_wp2_with (first
                        | (refine wpList_store_box (fun W => ∀ V, Kp No W V → V.rangeAt w5.heap.size 0 cbx ∧ Kp No w5 V) (by rfl) 68 _ _ (by rfl) w5.heap.size 0 cbx.toArray (by rfl) (by rfl) (there8 w5 _ _ _ (by rw [List.size_toArray, hcl]; exact Nat.le_refl _)) HIH.out HOB.out (boxH w5 _ cbx rfl hcl) ?_; intro W1 hW1; have HW1 := hid hW1; clear hW1; have HK1 := hid (HK5.out.andNone (HW1.out W1 (Kp.refl _ _)).2); have HRW := hid (HW1.out W1 (Kp.refl _ _)).1; obtain ⟨ad2, cap2, w6, hap, k3, kf, ks6, hvi, hkp⟩ := HS.out.step HLK.out (Nat.le_refl _) HK1.out (Kp.refl No W1) HHO.out (by omega) 22; rw [HNXD.out] at hvi; rw [HCB.out] at hap; have HAP := hid hap; have HVI := hid hvi; have hc1 : W1.cell? ⟨W2.heap.size, 1, none⟩ = some (.slice av k cv) := (HK1.out.cell (p := ⟨W2.heap.size, 1, none⟩) HS.out.2.2.2.1 (fun x => x)).trans HS.out.2.1; clear hap hvi hkp)
                        | (refine wpList_load_mid (by rfl) 68 _ (by rfl) w5.heap.size 0 (by rfl) cbx _ HRW.out Try.underlying68 rfl HIH.out ?_)
                        | (refine wpList_valE (by rfl) (exec_sliceE 22 _ rfl (.agg cbx.toArray) _ rfl (HB1.out _)) ?_)
                        | (refine wpList_valE (by rfl) (exec_appE _ _ 22 rfl (.slice av k cv) (.slice (some ⟨W1.heap.size, 0, none⟩) 1 1) _ rfl rfl HAP.out) ?_))
                      go_round
                      case rel => exact ⟨k + 1, ad2, cap2, by first | rfl | go_num, by omega, HVI.out, HT2.out⟩
                      case measure => simp [intOf]; omega
                    · have HG : Hid (gfile bs = none) := HNO.out (fun s' d h _ _ => by
                        obtain ⟨_, u0, u1, hu, _, _, _, _, h8, _⟩ := h
                        rw [HKD.out] at hu
                        simp only [List.cons.injEq, and_true] at hu
                        obtain ⟨rfl, rfl⟩ := hu
                        have := h8 x HXM.out
                        rw [HTX.out, HBX.out] at this
                        exact hno this)
                      have HA := hid (HA.out HG.out)
                      have HIZ : Hid ((Try.prog.info? 68).map (·.size) = some zHash.length) := by rw [Hid]; exact infH
                      have HOZ : Hid (zHash.toArray.all (·.oneCell') = true) := all_oneCell_toArray (fun v hv => by rw [List.eq_of_mem_replicate hv]; rfl)
                      clear hno HG
                      go_wp2_with (refine wpList_store_box (fun W => ∀ V, Kp No W V → V.rangeAt w5.heap.size 0 zHash ∧ Kp No w5 V) (by rfl) 68 _ _ (by rfl) w5.heap.size 0 zHash.toArray (by rfl) (by rfl) (there8 w5 _ _ _ (by simp [zHash])) HIZ.out HOZ.out (boxH w5 _ zHash rfl (by simp [zHash])) ?_; intro W1 hW1; have HW1 := hid hW1; clear hW1; have HBE := hid (HBR.out.trans ((HK5.out.andNone (HW1.out W1 (Kp.refl _ _)).2).toBelow'.mono HBR.out.size)); obtain ⟨g0, g1, gf, hg2⟩ := HX0.out _ HBE.out)
                      obtain ⟨q0, q1⟩ := set2_read (u0 := .int .i64 0) (u1 := .slice none 0 0) g0 g1
                      refine bodyPost_ret (v := .tuple #[zFil, .int .i64 3]) (by simp [results, Try.results20, go_sem, q0, q1, zFil]) rfl ⟨HA.out _, ?_⟩
                      exact ((HB0.out.trans (HBE.out.mono HB0.out.size)).setCell (by simp) _).setCell (by simp) _
                  · have hltI : ¬ (k : Int) < (m : Int) := by omega
                    have hkm' : k = m := by omega
                    subst hkm'
                    have ek : t1.kd.take k = t1.kd := List.take_of_length_le (by have := HM.out; omega)
                    have hF := HS.out
                    have hT := HTK.out
                    rw [ek] at hF hT
                    obtain ⟨f0, f1, ff, fs, fm, fb⟩ := hF
                    have HDO := hid (HDF.out hT)
                    obtain ⟨d, hd⟩ : ∃ d, t1.kd.map (fun k => k.hd.2.2) = d := ⟨_, rfl⟩
                    rw [hd] at HDO fm
                    have HDL : Hid (d.length = k) := by rw [Hid, ← hd, List.length_map]; exact HM.out
                    have HHV := hid fm.hv
                    have hl300 : d.length ≤ 300 → Tlv.szT 3 (fileT s d) ≠ 0 := fun h => sz_file fm.2.2 h
                    have HSZF : Hid (fileB s d.length = true → Tlv.szT 3 (fileT s d) ≠ 0) := fun _ => by
                      refine hl300 ?_
                      have hfm := docF_same HRT.out HDO.out
                      have e1 := Tlv.sameT_form 9 t 3 _ hfm
                      rw [(Tlv.get_form HBS.out HGT.out).2] at e1
                      have e2 := HBL.out
                      rw [e1] at e2
                      have e3 : 35 * d.length ≤ (Tlv.formOf 3 (fileT s d)).length := form_kids s d fm.2.2
                      omega
                    have HPF := hid (rPutFile_any wr s (.slice av k cv) d (by have := HHV.out.lt.imp (Q := fun g => g < wr.heap.size) (fun g hg => hg.1); exact this) (by rw [HDL.out]; omega) HSZF.out)
                    clear ek fm fb HTK hT hlt hd hl300
                    go_wp2_with fail
                    refine HPF.out.mono ?_
                    rintro e w6 ⟨hp, hb6⟩
                    obtain ⟨k0, a0, n0, c0, fa, bs0, rfl, hy0, ho0⟩ := hp
                    have HB6 : Hid (Below wr.heap.size wr w6) := hb6
                    obtain ⟨W6, hW6⟩ : ∃ W, w6.alloc (.cells #[.int .i64 k0, .slice a0 n0 c0] 29) = W := ⟨_, rfl⟩
                    have HK6 : Hid (Kp No wr W6) := by rw [Hid, ← hW6]; exact (Kp.below hb6 : Kp No wr w6).alloc _
                    have HBE : Hid (Below W0.heap.size W0 W6) := HBR.out.trans (HK6.out.toBelow'.mono HBR.out.size)
                    have HBEw : Hid (Below w.heap.size w W6) := HB0.out.trans (HBE.out.mono HB0.out.size)
                    obtain ⟨g0, g1, gf, hg2⟩ := HX0.out _ HBE.out
                    have z0 : W6.cell? ⟨W2.heap.size, 0, none⟩ = some (.int .i64 s) := (HK6.out.cell (p := ⟨W2.heap.size, 0, none⟩) HS.out.2.2.2.1 (fun x => x)).trans HS.out.1
                    have z1 : W6.cell? ⟨W2.heap.size, 1, none⟩ = some (.slice av k cv) := (HK6.out.cell (p := ⟨W2.heap.size, 1, none⟩) HS.out.2.2.2.1 (fun x => x)).trans HS.out.2.1
                    have HH6 := hid (HHV.out.kept HK6.out)
                    clear hb6 hy0 f0 f1 ff HPF y0 y1
                    rcases ho0 with ⟨hok, rfl, rfl, hxx⟩ | ⟨hok, rfl, rfl, hxx⟩ <;> clear hxx
                    · have HG : Hid (gfile bs = some (s, d)) := docF_yes HBS.out HGT.out HDO.out hok.1 hok.2
                      have HAY : Hid (∀ w', HV (fun g => g < w'.heap.size ∧ w.heap.size ≤ g) w' (.slice av k cv) d → GFA w w' 2 bs (.returned (.tuple #[.agg #[.int .i64 s, .slice av k cv], .int .i64 0]))) := fun w' h => .inr (.inr ⟨s, d, av, k, cv, rfl, HG.out, rfl, h⟩)
                      clear hok HG HS
                      go_wp2_with fail
                      obtain ⟨q0, q1⟩ := set2_read (u0 := .int .i64 s) (u1 := .slice av k cv) g0 g1
                      refine bodyPost_ret (v := .tuple #[.agg #[.int .i64 s, .slice av k cv], .int .i64 0]) (by simp [results, Try.results20, go_sem, q0, q1]) rfl ⟨HAY.out _ ?_, ?_⟩
                      · have hkk : Kp (· = w.heap.size + 1) W6 ((W6.setCell ⟨w.heap.size + 1, 0, none⟩ (.int .i64 s)).setCell ⟨w.heap.size + 1, 1, none⟩ (.slice av k cv)) := ((Kp.refl (· = w.heap.size + 1) _).setCell (p := ⟨w.heap.size + 1, 0, none⟩) (.inl rfl) _).setCell (p := ⟨w.heap.size + 1, 1, none⟩) (.inl rfl) _
                        exact hv_kept2 HH6.out.lt hkk (fun g hg => by have := HZ0.out; have := HBW2.out.size; have := hkk.size; have h2 := hg.2; exact ⟨by omega, by omega, by omega⟩)
                      · exact (HBEw.out.setCell (by simp) _).setCell (by simp) _
                    · have HG : Hid (gfile bs = none) := HNO.out (fun s' d' h h1 h2 => by
                        obtain ⟨rfl, rfl⟩ := docF_one HDO.out h
                        exact hok ⟨h1, h2⟩)
                      have HA := hid (HA.out HG.out)
                      clear hok HG HS
                      go_wp2_with fail
                      obtain ⟨q0, q1⟩ := set2_read (u0 := .int .i64 0) (u1 := .slice none 0 0) g0 g1
                      refine bodyPost_ret (v := .tuple #[zFil, .int .i64 3]) (by simp [results, Try.results20, go_sem, q0, q1, zFil]) rfl ⟨HA.out _, ?_⟩
                      exact (HBEw.out.setCell (by simp) _).setCell (by simp) _
              · have HG : Hid (gfile bs = none) := HNO.out (fun s' d h _ _ => by
                  obtain ⟨_, u0, u1, hu, _, _, _, e2, _⟩ := h
                  rw [HKD.out] at hu
                  simp only [List.cons.injEq, and_true] at hu
                  obtain ⟨rfl, rfl⟩ := hu
                  rw [HT1.out] at e2
                  exact h7 e2)
                have HA := hid (HA.out HG.out)
                have h7b : (tg1 == 3) = false := by simpa using h7
                have h7c : (tg1 != 3) = true := by simpa using h7
                clear HG
                go_wp2_with fail
                obtain ⟨q0, q1⟩ := set2_read (u0 := .int .i64 0) (u1 := .slice none 0 0) g0 g1
                refine bodyPost_ret (v := .tuple #[zFil, .int .i64 3]) (by simp [results, Try.results20, go_sem, q0, q1, zFil]) rfl ⟨HA.out _, ?_⟩
                exact (HBA.out.setCell (by simp) _).setCell (by simp) _
          · have HG : Hid (gfile bs = none) := HNO.out (fun s' d h _ _ => by
              obtain ⟨_, u0, u1, hu, e2, _⟩ := h
              rw [HKD.out] at hu
              simp only [List.cons.injEq, and_true] at hu
              obtain ⟨rfl, rfl⟩ := hu
              rw [HT0.out] at e2
              exact h5 e2)
            have HA := hid (HA.out HG.out)
            have h7b : (tg0 == 1) = false := by simpa using h5
            have h7c : (tg0 != 1) = true := by simpa using h5
            clear HG
            go_wp2_with fail
            obtain ⟨q0, q1⟩ := set2_read (u0 := .int .i64 0) (u1 := .slice none 0 0) g0 g1
            refine bodyPost_ret (v := .tuple #[zFil, .int .i64 3]) (by simp [results, Try.results20, go_sem, q0, q1, zFil]) rfl ⟨HA.out _, ?_⟩
            exact (HBA.out.setCell (by simp) _).setCell (by simp) _
        · have HG : Hid (gfile bs = none) := HNO.out (fun s' d h _ _ => by
            obtain ⟨_, u0, u1, hu, _⟩ := h
            rw [hu] at h4
            exact h2 h4)
          have HA := hid (HA.out HG.out)
          have h7a : ¬ ((l4 : Int) = 2) := by omega
          have h7b : ((l4 : Int) == 2) = false := by simpa using h7a
          have h7c : ((l4 : Int) != 2) = true := by simpa using h7a
          have h7d : (l4 == 2) = false := by simpa using h2
          have h7e : (l4 != 2) = true := by simpa using h2
          clear HG h2 h4
          go_wp2_with fail
          obtain ⟨q0, q1⟩ := set2_read (u0 := .int .i64 0) (u1 := .slice none 0 0) g0 g1
          refine bodyPost_ret (v := .tuple #[zFil, .int .i64 3]) (by simp [results, Try.results20, go_sem, q0, q1, zFil]) rfl ⟨HA.out _, ?_⟩
          exact (HBA.out.setCell (by simp) _).setCell (by simp) _
      · have HG : Hid (gfile bs = none) := HNO.out (fun s' d h _ _ => by
          have := h.1
          rw [HTG.out] at this
          exact h3 this)
        have HA := hid (HA.out HG.out)
        have h7b : (tg == 3) = false := by simpa using h3
        have h7c : (tg != 3) = true := by simpa using h3
        clear HG h4
        go_wp2_with fail
        obtain ⟨q0, q1⟩ := set2_read (u0 := .int .i64 0) (u1 := .slice none 0 0) g0 g1
        refine bodyPost_ret (v := .tuple #[zFil, .int .i64 3]) (by simp [results, Try.results20, go_sem, q0, q1, zFil]) rfl ⟨HA.out _, ?_⟩
        exact (HBA.out.setCell (by simp) _).setCell (by simp) _
  · have HA : Hid (∀ w', GFA w w' K0 bs (.returned (.tuple #[zFil, .int .i64 1]))) := fun w' => .inl ⟨hk, rfl⟩
    have hkk : (K0 == 2) = false := by simpa using hk
    have hkn : (K0 != 2) = true := by simpa using hk
    obtain ⟨g0, g1, gf, hg2⟩ := HX0.out W0 (Below.refl _ _)
    go_enter Try.func20, Try.ntmps20
    go_wp2_with fail
    obtain ⟨q0, q1⟩ := set2_read (u0 := .int .i64 0) (u1 := .slice none 0 0) g0 g1
    refine bodyPost_ret (v := .tuple #[zFil, .int .i64 1]) (by simp [results, Try.results20, go_sem, q0, q1, zFil]) rfl ⟨HA.out _, ?_⟩
    exact (HB0.out.setCell (by simp) _).setCell (by simp) _
end Go.Proofs.Ytenfahecnkdhaaa.Nd
end
