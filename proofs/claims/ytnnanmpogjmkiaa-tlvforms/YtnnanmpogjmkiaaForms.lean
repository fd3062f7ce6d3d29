/-
  TlvForms, walked: which values are right, their size and form, and which are the same, as the reference says.
-/
import Derived.Test.YtnnanmpogjmkiaaRefForm
import Derived.Test.YtnnanmpogjmkiaaRefSameT
namespace Go.Proofs.Ytnnanmpogjmkiaa
open Go.RowKit
attribute [local go_sem ↓] Go.wp_at_zero Go.wp_at_succ

/-- What Put makes, and the fault beside it. -/
def putX (n : Nat) (t : Tr n) : List Int := if (bsz n t 65535 8).2 then formOf n t else []
def putF (n : Nat) (t : Tr n) : Int := if (bsz n t 65535 8).2 then 0 else 1

theorem putX_len (n : Nat) (t : Tr n) : szT n t = ((putX n t).length : Int) := by
  by_cases h : (bsz n t 65535 8).2 = true
  · rw [putX, if_pos h]
    refine szT_form ?_
    rw [szT, if_pos h, bsz_len _ _ _ _ h]
    omega
  · rw [putX, if_neg h, szT, if_neg h]
    rfl

theorem putF_zero (n : Nat) (t : Tr n) : (putF n t == 0) = (bsz n t 65535 8).2 := by
  unfold putF
  cases (bsz n t 65535 8).2 <;> rfl

theorem put_two {n : Nat} (t : Tr n) (sb sk : Value) (w : World) (h : Rep 0 w.heap.size w n t sb sk) :
    Calls Try.prog 11 #[.agg #[.int .i64 t.hd.1, .int .u64 t.hd.2.1, sb, sk]] w fun e w' => ∃ a c, e = .returned (.tuple #[.slice a (putX n t).length c, .int .i64 (putF n t)]) ∧ BySl 0 w'.heap.size w' (.slice a (putX n t).length c) (putX n t) ∧ Below w.heap.size w w' := by
  refine (put_one t sb sk w h).mono ?_
  rintro e w1 ⟨⟨hz, rfl⟩ | ⟨hz, a, c, rfl, hx⟩, hb⟩
  · have h0 : ¬ (bsz n t 65535 8).2 = true := fun h1 => by
      rw [szT, if_pos h1, bsz_len _ _ _ _ h1] at hz
      omega
    rw [putX, putF, if_neg h0, if_neg h0]
    exact ⟨none, 0, rfl, BySl.none _ _ _, hb⟩
  · have h1 := szT_right hz
    rw [putX, putF, if_pos h1, if_pos h1]
    exact ⟨a, c, rfl, hx, hb⟩

set_option maxHeartbeats 1000000 in
theorem refPut_any {n : Nat} (t : Tr n) (sb sk : Value) (w : World) (h : RepS (fun b => b < w.heap.size) w n t sb sk) :
    Calls Try.prog 12 #[.agg #[.int .i64 t.hd.1, .int .u64 t.hd.2.1, sb, sk]] w fun e w' => ∃ a c, e = .returned (.tuple #[.slice a (putX n t).length c, .int .i64 (putF n t)]) ∧ BySl 0 w'.heap.size w' (.slice a (putX n t).length c) (putX n t) ∧ Below w.heap.size w w' := by
  obtain ⟨a1, l1, p1, a2, l2, p2, rfl, rfl⟩ := h.sl
  have H := hid h
  clear h
  have HE : Hid (rform n t 8 = if (bsz n t 65535 8).2 then some (formOf n t) else none) := rform_eq n t 8
  go_enter Try.func12, Try.ntmps12
  go_wp2_with fail
  have k1 : Below w.heap.size w (w.alloc (Obj.cells #[.int .i64 t.hd.1, .int .u64 t.hd.2.1, .slice a1 l1 p1, .slice a2 l2 p2] 32)) := (Below.refl _ _).alloc (Nat.le_refl _) _
  refine (form_any n w.heap.size t 8 _ _ _ (by simp) (H.out.agree (AgreeS.below k1 (fun _ h => h)) (fun _ h => h)) (by omega)).mono ?_
  rintro e w1 ⟨hres, hb1⟩
  have HB : Hid (Below w.heap.size w w1) := k1.trans (hb1.mono (by simp))
  clear k1 hb1
  rcases hres with ⟨hn, rfl⟩ | ⟨r, a, c, hs, rfl, hr⟩
  · have h0 : ¬ (bsz n t 65535 8).2 = true := fun h1 => by
      have e := HE.out
      rw [hn, if_pos h1] at e
      cases e
    have HX : Hid (putX n t = []) := by rw [Hid, putX, if_neg h0]
    have HF : Hid (putF n t = 1) := by rw [Hid, putF, if_neg h0]
    clear hn h0
    go_wp2_with fail
    go_ret2
    rw [HX.out, HF.out]
    exact ⟨none, 0, rfl, BySl.none _ _ _, HB.out⟩
  · obtain ⟨HX, HF⟩ : Hid (putX n t = r) ∧ Hid (putF n t = 0) := by
      have e := HE.out
      rw [hs] at e
      by_cases h1 : (bsz n t 65535 8).2 = true
      · have e' : some r = some (formOf n t) := e.trans (if_pos h1)
        simp only [Option.some.injEq] at e'
        exact ⟨by rw [Hid, putX, if_pos h1, e'], by rw [Hid, putF, if_pos h1]⟩
      · have e' : some r = none := e.trans (if_neg h1)
        cases e'
    have HRR := hid hr
    clear hs hr
    go_wp2_with fail
    go_ret2
    rw [HX.out, HF.out]
    exact ⟨a, c, rfl, HRR.out, HB.out⟩

set_option maxHeartbeats 2000000 in
set_option maxRecDepth 100000 in
theorem forms_walk (a1 : Option Addr) (l1 c1 : Nat) (a2 : Option Addr) (l2 c2 : Nat) (w : World) (b1 b2 : Bool) (L1 : LightIs (.slice a1 l1 c1) w b1) (N1 : b1 = true → ∃ ns, NSl w.heap.size w (.slice a1 l1 c1) ns)
    (L2 : LightIs (.slice a2 l2 c2) w b2) (N2 : b2 = true → ∃ ns, NSl w.heap.size w (.slice a2 l2 c2) ns) :
    Calls Try.prog 3 #[.slice a1 l1 c1, .slice a2 l2 c2] w fun e w' => e = .returned (.bool true) ∧ Below w.heap.size w w' := by
  have HL1 := hid L1
  have HL2 := hid L2
  have HN1 := hid N1
  have HN2 := hid N2
  clear L1 L2 N1 N2
  go_enter Try.func3, Try.ntmps3
  go_wp2_with fail
  refine (HL1.out).mono ?_
  rintro e w' ⟨rfl, rfl⟩
  cases b1 with
  | false =>
    go_wp2_with fail
    refine (alive_any w').mono ?_
    rintro e w1 ⟨rfl, hb⟩
    have HB := hid hb
    clear hb
    go_wp2_with fail
    go_ret
    exact ⟨rfl, HB.out⟩
  | true =>
  obtain ⟨ns, hns⟩ := HN1.out rfl
  have HNS := hid hns
  clear hns HL1 HN1
  go_wp2_with fail
  refine (HL2.out).mono ?_
  rintro e w ⟨rfl, rfl⟩
  cases b2 with
  | false =>
    go_wp2_with fail
    refine (alive_any w).mono ?_
    rintro e w1 ⟨rfl, hb⟩
    have HB := hid hb
    clear hb
    go_wp2_with fail
    go_ret
    exact ⟨rfl, HB.out⟩
  | true =>
  obtain ⟨ms, hms⟩ := HN2.out rfl
  have HMS := hid hms
  clear hms HL2 HN2
  go_wp2_with fail
  as_aux_lemma =>
    refine (build12 HNS.out (Nat.le_refl _)).mono ?_
    rintro e w1 ⟨t, n1, a, l, c, a', l', c', b, m, d, b', m', d', rfl, ra, rb, hb1⟩
    have RA := hid ra
    have RB := hid rb
    have HB1 := hid hb1
    clear ra rb hb1
    go_wp2_with fail
    obtain ⟨W1, hW1⟩ : ∃ W1, ((w1.alloc (Obj.cells #[.int .i64 t.hd.1, .int .u64 t.hd.2.1, .slice a l c, .slice a' l' c'] 29)).alloc (Obj.cells #[.int .i64 t.hd.1, .int .u64 t.hd.2.1, .slice b m d, .slice b' m' d'] 32)) = W1 := ⟨_, rfl⟩
    have hk1 : Below w1.heap.size w1 W1 := by rw [← hW1]; exact ((Below.refl _ _).alloc (Nat.le_refl _) _).alloc (by simp) _
    have X1 : Hid (Box W1 w1.heap.size t.hd.1 t.hd.2.1 (.slice a l c) (.slice a' l' c')) := by rw [Hid, ← hW1]; exact (Box.new w1 _ _ _ _ _).below ((Below.refl _ _).alloc (Nat.le_refl _) _)
    have V1 : Hid (Box W1 (w1.heap.size + 1) t.hd.1 t.hd.2.1 (.slice b m d) (.slice b' m' d')) := by rw [Hid, ← hW1]; have h := Box.new (w1.alloc (Obj.cells #[.int .i64 t.hd.1, .int .u64 t.hd.2.1, .slice a l c, .slice a' l' c'] 29)) t.hd.1 t.hd.2.1 (.slice b m d) (.slice b' m' d') 32; simp only [World.size_alloc] at h; exact h
    rw [hW1]
    have RA1 := hid (rep_below RA.out hk1)
    have RB1 := hid (repS_below RB.out hk1)
    have HBW1 : Hid (Below w.heap.size w W1) := HB1.out.trans (hk1.mono HB1.out.size)
    obtain ⟨g7, hg7⟩ : ∃ g, w1.heap.size = g := ⟨_, rfl⟩
    rw [hg7] at X1 V1 ⊢
    clear hW1 hg7 hk1 RA RB HB1
    refine (build12 (HMS.out.below HBW1.out (Nat.le_refl _)) HBW1.out.size).mono ?_
    rintro e w2 ⟨u, n2, a3, l3, c3, a4, l4, c4, b3, m3, d3, b4, m4, d4, rfl, ra, rb, hb2⟩
    have RU := hid ra
    have RV := hid rb
    have HB2 := hid hb2
    clear ra rb hb2
    go_upto_region 5 with fail
    obtain ⟨W2, hW2⟩ : ∃ W2, ((w2.alloc (Obj.cells #[.int .i64 u.hd.1, .int .u64 u.hd.2.1, .slice a3 l3 c3, .slice a4 l4 c4] 29)).alloc (Obj.cells #[.int .i64 u.hd.1, .int .u64 u.hd.2.1, .slice b3 m3 d3, .slice b4 m4 d4] 32)) = W2 := ⟨_, rfl⟩
    have hk2 : Below w2.heap.size w2 W2 := by rw [← hW2]; exact ((Below.refl _ _).alloc (Nat.le_refl _) _).alloc (by simp) _
    have X2 : Hid (Box W2 w2.heap.size u.hd.1 u.hd.2.1 (.slice a3 l3 c3) (.slice a4 l4 c4)) := by rw [Hid, ← hW2]; exact (Box.new w2 _ _ _ _ _).below ((Below.refl _ _).alloc (Nat.le_refl _) _)
    have V2 : Hid (Box W2 (w2.heap.size + 1) u.hd.1 u.hd.2.1 (.slice b3 m3 d3) (.slice b4 m4 d4)) := by rw [Hid, ← hW2]; have h := Box.new (w2.alloc (Obj.cells #[.int .i64 u.hd.1, .int .u64 u.hd.2.1, .slice a3 l3 c3, .slice a4 l4 c4] 29)) u.hd.1 u.hd.2.1 (.slice b3 m3 d3) (.slice b4 m4 d4) 32; simp only [World.size_alloc] at h; exact h
    rw [hW2]
    have X1' := hid ((X1.out.below HB2.out).below hk2)
    have V1' := hid ((V1.out.below HB2.out).below hk2)
    have RB2 := hid (repS_below (repS_below RB1.out HB2.out) hk2)
    have RV2 := hid (repS_below RV.out hk2)
    have RA2 := hid (rep_below (rep_below RA1.out HB2.out) hk2)
    have RU2 := hid (rep_below RU.out hk2)
    have HBW2 : Hid (Below w.heap.size w W2) := (HBW1.out.trans (HB2.out.mono HBW1.out.size)).trans (hk2.mono (Nat.le_trans HBW1.out.size HB2.out.size))
    obtain ⟨g10, hg10⟩ : ∃ g, w2.heap.size = g := ⟨_, rfl⟩
    rw [hg10] at X2 V2 ⊢
    clear hW2 hg10 hk2 RU RV HB2 HBW1 RA1 RB1 X1 V1 HNS HMS
    as_aux_lemma =>
      obtain ⟨z10, z11, z12, z13, z14⟩ := X1'.out
      go_wp2_with fail
      refine (put_two t _ _ W2 RA2.out).mono ?_
      rintro e w3 ⟨ax, cx, rfl, hx, hb3⟩
      have Y1 := hid (X1'.out.below hb3)
      have Y2 := hid (X2.out.below hb3)
      have Y3 := hid (V1'.out.below hb3)
      have Y4 := hid (V2.out.below hb3)
      have P1 := hid (rep_below RA2.out hb3)
      have P2 := hid (rep_below RU2.out hb3)
      have P3 := hid (repS_below RB2.out hb3)
      have P4 := hid (repS_below RV2.out hb3)
      have HX := hid hx
      have HBW3 : Hid (Below w.heap.size w w3) := HBW2.out.trans (hb3.mono HBW2.out.size)
      clear z10 z11 z12 z13 z14 X1' X2 V1' V2 RA2 RU2 RB2 RV2 HBW2 hb3 hx
      obtain ⟨X, hX⟩ : ∃ X, putX 13 t = X := ⟨_, rfl⟩
      obtain ⟨F, hF⟩ : ∃ F, putF 13 t = F := ⟨_, rfl⟩
      have HXX := hid hX
      have HFF := hid hF
      rw [hX, hF]
      rw [hX] at HX
      obtain ⟨M, hM⟩ : ∃ M, X.length = M := ⟨_, rfl⟩
      have HM := hid hM
      rw [hM]
      rw [hM] at HX
      clear hX hF hM
      obtain ⟨z30, z31, z32, z33, z34⟩ := Y3.out
      go_wp2_with fail
      refine (refPut_any t _ _ w3 P3.out).mono ?_
      rintro e w4 ⟨ay, cy, rfl, hy, hb4⟩
      rw [HXX.out, HM.out] at hy
      rw [HXX.out, HM.out, HFF.out]
      have HY := hid hy
      have Z1 := hid (Y1.out.below hb4)
      have Z2 := hid (Y2.out.below hb4)
      have Z3 := hid (Y3.out.below hb4)
      have Z4 := hid (Y4.out.below hb4)
      have Q1 := hid (rep_below P1.out hb4)
      have Q2 := hid (rep_below P2.out hb4)
      have Q3 := hid (repS_below P3.out hb4)
      have Q4 := hid (repS_below P4.out hb4)
      have HX4 := hid (bySl_below HX.out hb4)
      have HBB : Hid (Below w.heap.size w w4) := HBW3.out.trans (hb4.mono HBW3.out.size)
      clear z30 z31 z32 z33 z34 hy hb4 Y1 Y2 Y3 Y4 P1 P2 P3 P4 HX HBW3
      go_upto_region 7 with fail
      as_aux_lemma =>
        obtain ⟨S, hS⟩ : ∃ S, sameT 13 t 13 u = S := ⟨_, rfl⟩
        obtain ⟨rt, hrt⟩ : ∃ rt, (bsz 13 t 65535 8).2 = rt := ⟨_, rfl⟩
        have hFz : (F == 0) = rt := by rw [← HFF.out, putF_zero, hrt]
        have HS := hid hS
        have HRT := hid hrt
        have HSZ : Hid (szT 13 t = (M : Int)) := by rw [Hid, putX_len, HXX.out, HM.out]
        clear hS hrt
        have K13 : Hid (∀ w5 : World, Below w4.heap.size w4 w5 → Calls Try.prog 13 #[.agg #[.int .i64 t.hd.1, .int .u64 t.hd.2.1, .slice a l c, .slice a' l' c']] w5 fun e w' => e = .returned (.bool rt) ∧ Below w4.heap.size w4 w') := by
          intro w5 hb
          refine (right_any t _ _ w5 (rep_below Q1.out hb)).mono ?_
          rintro e w6 ⟨rfl, hb6⟩
          exact ⟨by rw [HRT.out], hb.trans (hb6.mono hb.size)⟩
        have K14 : Hid (∀ w5 : World, Below w4.heap.size w4 w5 → Calls Try.prog 14 #[.agg #[.int .i64 t.hd.1, .int .u64 t.hd.2.1, .slice a l c, .slice a' l' c']] w5 fun e w' => e = .returned (.int .i64 (M : Int)) ∧ Below w4.heap.size w4 w') := by
          intro w5 hb
          refine (size_any t _ _ w5 (rep_below Q1.out hb)).mono ?_
          rintro e w6 ⟨rfl, hb6⟩
          exact ⟨by rw [HSZ.out], hb.trans (hb6.mono hb.size)⟩
        have K15 : Hid (∀ w5 : World, Below w4.heap.size w4 w5 → Calls Try.prog 15 #[.slice ax M cx, .slice ay M cy] w5 fun e w' => e = .returned (.bool true) ∧ Below w4.heap.size w4 w') := by
          intro w5 hb
          refine (refBytes_any _ _ X X w5 (bySl_below HX4.out hb) (bySl_below HY.out hb)).mono ?_
          rintro e w6 ⟨rfl, hb6⟩
          exact ⟨by rw [decide_eq_true rfl], hb.trans (hb6.mono hb.size)⟩
        have K16 : Hid (∀ w5 : World, Below w4.heap.size w4 w5 → Calls Try.prog 16 #[.agg #[.int .i64 t.hd.1, .int .u64 t.hd.2.1, .slice a l c, .slice a' l' c'], .agg #[.int .i64 u.hd.1, .int .u64 u.hd.2.1, .slice a3 l3 c3, .slice a4 l4 c4]] w5 fun e w' => e = .returned (.bool S) ∧ Below w4.heap.size w4 w') := by
          intro w5 hb
          refine (Same_any t u _ _ _ _ w5 (rep_below Q1.out hb) (rep_below Q2.out hb) (by omega)).mono ?_
          rintro e w6 ⟨rfl, hb6⟩
          exact ⟨by rw [HS.out], hb.trans (hb6.mono hb.size)⟩
        have K17 : Hid (∀ w5 : World, Below w4.heap.size w4 w5 → Calls Try.prog 17 #[.agg #[.int .i64 t.hd.1, .int .u64 t.hd.2.1, .slice b m d, .slice b' m' d'], .agg #[.int .i64 u.hd.1, .int .u64 u.hd.2.1, .slice b3 m3 d3, .slice b4 m4 d4]] w5 fun e w' => e = .returned (.bool S) ∧ Below w4.heap.size w4 w') := by
          intro w5 hb
          refine (refSameT_any 13 13 t u w5.heap.size _ _ _ _ w5 (repS_below Q3.out hb) (repS_below Q4.out hb) (Nat.le_refl _)).mono ?_
          rintro e w6 ⟨rfl, hb6⟩
          exact ⟨by rw [HS.out], hb.trans (hb6.mono hb.size)⟩
        have K9 : Hid (∀ w5 : World, Below w4.heap.size w4 w5 → Calls Try.prog 9 #[] w5 fun e w' => e = .returned (.bool true) ∧ Below w4.heap.size w4 w') := fun w5 hb => alive_at hb
        obtain ⟨z10, z11, z12, z13, z14⟩ := Z1.out
        obtain ⟨z20, z21, z22, z23, z24⟩ := Z2.out
        obtain ⟨z30, z31, z32, z33, z34⟩ := Z3.out
        obtain ⟨z40, z41, z42, z43, z44⟩ := Z4.out
        have hss : (S == S) = true := by simp
        have hrr : (rt == rt) = true := by simp
        have hFF : (F == F) = true := by simp
        have hMM : ((M : Int) == (M : Int)) = true := by simp
        clear Z1 Z2 Z3 Z4 Q1 Q2 Q3 Q4 HX4 HY HXX HFF HM HSZ HRT HS
        go_region_held3 (fun w' => w'.cell? ⟨g7, 0, none⟩ = some (.int .i64 t.hd.1) ∧ w'.cell? ⟨g7, 1, none⟩ = some (.int .u64 t.hd.2.1) ∧ w'.cell? ⟨g7, 2, none⟩ = some (.slice a l c) ∧ w'.cell? ⟨g7, 3, none⟩ = some (.slice a' l' c') ∧
            w'.cell? ⟨g10, 0, none⟩ = some (.int .i64 u.hd.1) ∧ w'.cell? ⟨g10, 1, none⟩ = some (.int .u64 u.hd.2.1) ∧ w'.cell? ⟨g10, 2, none⟩ = some (.slice a3 l3 c3) ∧ w'.cell? ⟨g10, 3, none⟩ = some (.slice a4 l4 c4) ∧
            w'.cell? ⟨g7 + 1, 0, none⟩ = some (.int .i64 t.hd.1) ∧ w'.cell? ⟨g7 + 1, 1, none⟩ = some (.int .u64 t.hd.2.1) ∧ w'.cell? ⟨g7 + 1, 2, none⟩ = some (.slice b m d) ∧ w'.cell? ⟨g7 + 1, 3, none⟩ = some (.slice b' m' d') ∧
            w'.cell? ⟨g10 + 1, 0, none⟩ = some (.int .i64 u.hd.1) ∧ w'.cell? ⟨g10 + 1, 1, none⟩ = some (.int .u64 u.hd.2.1) ∧ w'.cell? ⟨g10 + 1, 2, none⟩ = some (.slice b3 m3 d3) ∧ w'.cell? ⟨g10 + 1, 3, none⟩ = some (.slice b4 m4 d4)) (go_keep)
          (first
            | (go_at_call 13; refine (K13.out w4.drew (Below.refl _ _).drew).mono ?_; rintro e w5 ⟨rfl, hb5⟩; have HB5 := hid hb5; have hc5 := (bcell hb5).1; clear hb5)
            | (go_at_call 14; refine (K14.out w5 HB5.out).mono ?_; rintro e w6 ⟨rfl, hb6⟩; have HB6 := hid hb6; have hc6 := (bcell hb6).1; clear hb6)
            | (go_at_call 15; refine (K15.out w6 HB6.out).mono ?_; rintro e w7 ⟨rfl, hb7⟩; have HB7 := hid hb7; have hc7 := (bcell hb7).1; clear hb7)
            | (go_at_call 16; refine (K16.out w7 HB7.out).mono ?_; rintro e w8 ⟨rfl, hb8⟩; have HB8 := hid hb8; have hc8 := (bcell hb8).1; clear hb8)
            | (go_at_call 17; refine (K17.out w8 HB8.out).mono ?_; rintro e w9 ⟨rfl, hb9⟩; have HB9 := hid hb9; have hc9 := (bcell hb9).1; clear hb9)
            | (go_at_call 9; refine (K9.out w9 HB9.out).mono ?_; rintro e w10 ⟨rfl, hb10⟩; have HB10 := hid hb10; have hc10 := (bcell hb10).1; clear hb10))
        all_goals go_wp2_with fail
        all_goals go_ret
        all_goals exact ⟨rfl, HBB.out.trans (HB10.out.mono HBB.out.size)⟩

end Go.Proofs.Ytnnanmpogjmkiaa
