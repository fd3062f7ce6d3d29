/-
  TlvBack, walked: a right value's form is read as it, whatever is behind it, and bytes that are read are its form.
-/
import Derived.Test.YtnnanmpogjmkiaaCuts
namespace Go.Proofs.Ytnnanmpogjmkiaa
open Go.RowKit
attribute [local go_sem ↓] Go.wp_at_zero Go.wp_at_succ

theorem bytes_news {B : Nat} {w w' : World} {ad : Addr} {l c : Nat} {bs : List Int} (h : BySl 0 B w (.slice (some ad) l c) bs) (hb : Below B w w') : ∀ j u, (bs.map (Value.int .u8))[j]? = some u → w'.cell? (ad.add j) = some u := by
  intro j u hj
  have hjn : j < bs.length := by
    have := (List.getElem?_eq_some_iff.1 hj).1
    simpa using this
  obtain ⟨a', c', e, _, _, _, _, _, h7⟩ := h
  simp only [Value.slice.injEq] at e
  obtain ⟨rfl, _, _⟩ := e
  obtain ⟨b, o, e, _, hbB, hc⟩ := h7 (by intro e; subst e; simp at hjn)
  simp only [Option.some.injEq] at e
  subst e
  rw [addr_plus, hb.cell (p := ⟨b, o + j, none⟩) hbB, hc j hjn]
  simp only [List.getElem?_map, List.getElem?_eq_getElem hjn, Option.map_some, Option.some.injEq] at hj
  simp [List.getElem?_eq_getElem hjn, hj]

theorem bytes_one (bs : List Int) : ∀ u ∈ bs.map (Value.int .u8), u.oneCell' = true := by
  intro u hu
  obtain ⟨x, _, rfl⟩ := List.mem_map.1 hu
  rfl

theorem szT_form {n : Nat} {t : Tr n} (h : szT n t ≠ 0) : szT n t = ((formOf n t).length : Int) := by
  have h1 := szT_right h
  rw [szT, if_pos h1, bsz_len _ _ _ _ h1]
  simp [formOf]
  omega

theorem rep_zero (w : World) : Rep 0 w.heap.size w 9 (Tr.mk 0 0 [] []) (.slice none 0 0) (.slice none 0 0) := (repS_zero (fun _ => False) w 8).toRep (fun _ h => h.elim)

theorem get_form {bs : List Int} {t : Tr 9} (hb : ∀ x ∈ bs, 0 ≤ x ∧ x ≤ 255) (h : getT bs = some t) : szT 9 t ≠ 0 ∧ formOf 9 t = bs := by
  unfold getT at h
  split at h
  · rename_i t' m hr
    split at h
    · rename_i hm
      simp only [Option.some.injEq] at h
      subst h
      obtain ⟨h1, h2⟩ := rd_form 8 bs t' m hb hr
      refine ⟨?_, by rw [h1, hm, List.take_length]⟩
      have h3 : (bsz 9 t' 65535 8).2 = true := h2
      rw [szT, if_pos h3, bsz_len _ _ _ _ h3]
      omega
    · cases h
  · cases h

theorem BySl.bytes {L B : Nat} {w : World} {v : Value} {bs : List Int} (h : BySl L B w v bs) : ∀ x ∈ bs, 0 ≤ x ∧ x ≤ 255 := by
  obtain ⟨_, _, _, _, _, _, _, h6, _⟩ := h
  exact h6

set_option maxHeartbeats 2000000 in
set_option maxRecDepth 100000 in
theorem back_walk (a1 : Option Addr) (l1 c1 : Nat) (ar : Option Addr) (R cr : Nat) (ab : Option Addr) (L cb : Nat) (w : World) (b1 : Bool) (L1 : LightIs (.slice a1 l1 c1) w b1) (N1 : b1 = true → ∃ ns, NSl w.heap.size w (.slice a1 l1 c1) ns)
    (hR : R ≤ 9223372036854775807) (HR : R ≤ 300 → ∃ rs : List Int, rs.length = R ∧ BySl 0 w.heap.size w (.slice ar R cr) rs) (hL : L ≤ 9223372036854775807) (HL : L ≤ 3000 → ∃ bs : List Int, bs.length = L ∧ BySl 0 w.heap.size w (.slice ab L cb) bs) :
    Calls Try.prog 5 #[.slice a1 l1 c1, .slice ar R cr, .slice ab L cb] w fun e w' => e = .returned (.bool true) ∧ Below w.heap.size w w' := by
  have HL1 := hid L1
  have HN1 := hid N1
  have HRR := hid HR
  have HLL := hid HL
  clear L1 N1 HR HL
  go_enter Try.func5, Try.ntmps5
  go_wp2_with fail
  refine (HL1.out).mono ?_
  rintro e w' ⟨rfl, rfl⟩
  cases b1 with
  | false =>
    go_wp2_with fail
    refine (alive_any w').mono ?_
    rintro e w1 ⟨rfl, hb⟩
    have HB := hid hb
    clear hb
    go_wp2_with fail
    go_ret
    exact ⟨rfl, HB.out⟩
  | true =>
  obtain ⟨ns, hns⟩ := HN1.out rfl
  have HNS := hid hns
  clear hns HL1 HN1
  by_cases hr : R ≤ 300
  case neg =>
    have hq : decide ((300 : Int) < R) = true := by simp; omega
    go_wp2_with fail
    refine (alive_any w').mono ?_
    rintro e w1 ⟨rfl, hb⟩
    have HB := hid hb
    clear hb
    go_wp2_with fail
    go_ret
    exact ⟨rfl, HB.out⟩
  by_cases hl : L ≤ 3000
  case neg =>
    have hq : decide ((300 : Int) < R) = false := by simp; omega
    have hq' : decide ((3000 : Int) < L) = true := by simp; omega
    go_wp2_with fail
    refine (alive_any w').mono ?_
    rintro e w1 ⟨rfl, hb⟩
    have HB := hid hb
    clear hb
    go_wp2_with fail
    go_ret
    exact ⟨rfl, HB.out⟩
  obtain ⟨rs, hrl, hrs⟩ := HRR.out hr
  obtain ⟨bs, hbl, hbs⟩ := HLL.out hl
  have HRL := hid hrl
  have HRS := hid hrs
  have HBL := hid hbl
  have HBS := hid hbs
  clear hrl hrs hbl hbs HRR HLL
  have hq : decide ((300 : Int) < R) = false := by simp; omega
  have hq' : decide ((3000 : Int) < L) = false := by simp; omega
  go_wp2_with fail
  as_aux_lemma =>
    refine (build12 HNS.out (Nat.le_refl _)).mono ?_
    rintro e w1 ⟨t, n1, a, l, c, a', l', c', b, m, d, b', m', d', rfl, ra, rb, hb1⟩
    have RA := hid ra
    have HB1 := hid hb1
    clear ra rb hb1 HNS
    go_upto_region 4 with fail
    obtain ⟨W1, hW1⟩ : ∃ W1, ((w1.alloc (Obj.cells #[.int .i64 t.hd.1, .int .u64 t.hd.2.1, .slice a l c, .slice a' l' c'] 29)).alloc (Obj.cells #[.int .i64 t.hd.1, .int .u64 t.hd.2.1, .slice b m d, .slice b' m' d'] 32)) = W1 := ⟨_, rfl⟩
    have hk1 : Below w1.heap.size w1 W1 := by rw [← hW1]; exact ((Below.refl _ _).alloc (Nat.le_refl _) _).alloc (by simp) _
    have X1 : Hid (Box W1 w1.heap.size t.hd.1 t.hd.2.1 (.slice a l c) (.slice a' l' c')) := by rw [Hid, ← hW1]; exact (Box.new w1 _ _ _ _ _).below ((Below.refl _ _).alloc (Nat.le_refl _) _)
    rw [hW1]
    have RA1 := hid (rep_below RA.out hk1)
    have HBW1 : Hid (Below w'.heap.size w' W1) := HB1.out.trans (hk1.mono HB1.out.size)
    obtain ⟨g7, hg7⟩ : ∃ g, w1.heap.size = g := ⟨_, rfl⟩
    rw [hg7] at X1 ⊢
    clear hW1 hg7 hk1 RA HB1
    as_aux_lemma =>
      obtain ⟨z10, z11, z12, z13, z14⟩ := X1.out
      go_wp2_with fail
      refine (put_one t _ _ W1 RA1.out).mono ?_
      rintro e w3 ⟨hp, hb3⟩
      have Z1 := hid (X1.out.below hb3)
      have RA3 := hid (rep_below RA1.out hb3)
      have HBW3 : Hid (Below w'.heap.size w' w3) := HBW1.out.trans (hb3.mono HBW1.out.size)
      have RS3 := hid (bySl_below HRS.out HBW3.out)
      have BS3 := hid (bySl_below HBS.out HBW3.out)
      clear z10 z11 z12 z13 z14 X1 RA1 HBW1 hb3 HRS HBS
      have HP := hid hp
      clear hp
      obtain ⟨f, v10, rfl, hp⟩ : ∃ (f : Int) (v10 : Value), e = .returned (.tuple #[v10, .int .i64 f]) ∧ ((f = 1 ∧ szT 13 t = 0) ∨ (f = 0 ∧ szT 13 t ≠ 0 ∧ ∃ (ax : Option Addr) (M cx : Nat), v10 = .slice ax M cx ∧ (formOf 13 t).length = M ∧ BySl 0 w3.heap.size w3 (.slice ax (formOf 13 t).length cx) (formOf 13 t))) := by
        rcases HP.out with ⟨h, rfl⟩ | ⟨h, ax, cx, rfl, hx⟩
        · exact ⟨1, _, rfl, .inl ⟨rfl, h⟩⟩
        · exact ⟨0, _, rfl, .inr ⟨rfl, h, ax, _, cx, rfl, rfl, hx⟩⟩
      have HF := hid hp
      clear hp HP
      go_upto_if 45 with fail
      go_cut [12, 13, 14] from 46 to 76 (fun _ _ _ wx => Hid (Below w3.heap.size w3 wx))
      case first =>
        rcases HF.out with ⟨rfl, _⟩ | ⟨rfl, hz, ax, M, cx, rfl, hM, hx⟩
        · clear HF
          go_wp2_with fail
          go_meet
          exact Below.refl _ _
        clear HF
        have hpx : 0 < (formOf 13 t).length := form_pos hz
        obtain ⟨bx, ox, rfl, hx1, hx2⟩ := form_some hx hpx
        obtain ⟨t9, hrd, hsame⟩ := form_rd 13 8 t 65535 rs RA3.out.numOk (by omega) (szT_right hz)
        have hM0 : szT 13 t = ((formOf 13 t).length : Int) := szT_form hz
        have hM1 : ((formOf 13 t).length : Int) ≤ 65538 := by
          have h1 := szT_right hz
          have h2 := bsz_fits _ _ _ _ h1
          rw [← hM0, szT, if_pos h1]
          omega
        have HSZ := hid hM0
        obtain ⟨X, hX⟩ : ∃ X, formOf 13 t = X := ⟨_, rfl⟩
        rw [hX] at hx hpx hx1 hrd hM1 HSZ hM
        have HM := hid hM
        have HX := hid hx
        have HRD := hid hrd
        have HSM := hid hsame
        rw [hM] at hpx hx1 hM1 HSZ
        clear hX hM hx hrd hsame hz hM0
        have hM2 : M ≤ 65538 := by omega
        obtain ⟨i0, hi, hz0, hz1, hz2⟩ := info_parts Try.info5
        go_upto_region 6 with fail
        as_aux_lemma =>
          go_cut [12, 13, 14] from 46 to 55 (fun s12 s13 s14 wx => ∃ (g : Nat) (t9 : Tr 9) (a5 : Option Addr) (l5 c5 : Nat) (a6 : Option Addr) (l6 c6 : Nat) (a7 : Option Addr) (c7 : Nat), s12 = .pointer (some ⟨g, 0, none⟩) ∧ s13 = .slice a7 R c7 ∧ s14 = .int .i64 0 ∧
            Hid (Box wx g t9.hd.1 t9.hd.2.1 (.slice a5 l5 c5) (.slice a6 l6 c6) ∧ sameT 9 t9 13 t = true ∧ Rep 0 wx.heap.size wx 9 t9 (.slice a5 l5 c5) (.slice a6 l6 c6) ∧ BySl 0 wx.heap.size wx (.slice a7 R c7) rs ∧ Below w3.heap.size w3 wx))
          case first =>
            have hnl : Hid ((X.map (Value.int .u8)).length = M * 1) := by rw [Hid, List.length_map, HM.out]; omega
            have hnews : Hid (∀ j u, (X.map (Value.int .u8))[j]? = some u → (w3.alloc (Obj.cells #[] 5)).cell? ((⟨bx, ox, none⟩ : Addr).add j) = some u) := bytes_news HX.out ((Below.refl _ _).alloc (Nat.le_refl _) _)
            have hone := hid (bytes_one X)
            go_wp2_with (at_builtin; go_must (refine wpList_append_own _ rfl _ _ 26 rfl w3.heap.size 5 i0 (.int .u8 0) 1 1 Try.underlying26 hi hz0 hz1 hz2 rfl (by decide) _ _ _ rfl (World.ownsRow_made w3 #[] 0 (Nat.le_refl _) (Nat.zero_le _) rfl) ⟨bx, ox, none⟩ M cx (X.map (Value.int .u8)) rfl hnl.out hnews.out hone.out (by unfold maxLen; omega) (by omega) (by simp) ?_))
            intro v' w4 hown hgrow hnil
            obtain ⟨av, cv, rfl⟩ := ownsRow_form' hown
            have HOWN := hid hown
            have hs4 := hgrow.size
            have bel4 : Hid (Below w3.heap.size w3 w4) := ((Below.refl _ w3).alloc (Nat.le_refl _) _).grown hgrow (by simp) (by intro k hk; simp [Value.ownBlock] at hk; omega)
            clear hown hgrow hnil hnl hnews hone
            cases ar with
            | none =>
              obtain ⟨rfl, rfl, rfl⟩ : R = 0 ∧ rs = [] ∧ cr = 0 := by
                obtain ⟨a', c', e, _, _, h4, _⟩ := RS3.out
                simp only [Value.slice.injEq] at e
                obtain ⟨rfl, e2, rfl⟩ := e
                obtain ⟨rfl, h⟩ := h4 rfl
                exact ⟨e2, rfl, h⟩
              go_wp2_with (at_builtin; go_must (refine wpList_append_own_none rfl _ _ 26 rfl w3.heap.size 5 i0 1 Try.underlying26 hi _ M _ rfl HOWN.out rfl ?_))
              go_wp2_with fail
              have hb18 : BySl 0 w4.heap.size w4 (.slice av M cv) (X ++ ([] : List Int)) := by
                have h1 : (X ++ ([] : List Int)).length = M + 0 := by rw [List.length_append, HM.out, HRL.out]
                have h2 := BySl.own (base := w3.heap.size) (w := w4) (v := (.slice av M cv)) (bs := X ++ ([] : List Int)) (by rw [h1, List.map_append]; exact (by simpa using HOWN.out)) (by rw [h1]; omega) (fun x hx => by rcases List.mem_append.1 hx with hx | hx; exact HX.out.bytes x hx; exact RS3.out.bytes x hx)
                exact h2.agree (Agree.refl _ _ _) (Nat.zero_le _) (Nat.le_refl _)
              refine (take_any _ _ w4 hb18).mono ?_
              rintro e w6 ⟨hres, hb6⟩
              have hres' : ∃ (a5 : Option Addr) (l5 c5 : Nat) (a6 : Option Addr) (l6 c6 : Nat) (a7 : Option Addr) (c7 : Nat), e = .returned (.tuple #[.agg #[.int .i64 t9.hd.1, .int .u64 t9.hd.2.1, .slice a5 l5 c5, .slice a6 l6 c6], .slice a7 0 c7, .int .i64 0]) ∧ Rep 0 w6.heap.size w6 9 t9 (.slice a5 l5 c5) (.slice a6 l6 c6) ∧ BySl 0 w6.heap.size w6 (.slice a7 0 c7) ([] : List Int) := by
                rcases hres with ⟨hn, _⟩ | ⟨t', m, sb, sk, vr, hs, rfl, hrep, hvr⟩
                · have := HRD.out
                  rw [hn] at this
                  cases this
                · rw [HRD.out] at hs
                  simp only [Option.some.injEq, Prod.mk.injEq] at hs
                  obtain ⟨rfl, rfl⟩ := hs
                  rw [List.drop_left] at hvr
                  obtain ⟨a5, l5, c5, a6, l6, c6, rfl, rfl⟩ := hrep.sl
                  obtain ⟨a7, c7, rfl, _⟩ := id hvr
                  exact ⟨a5, l5, c5, a6, l6, c6, a7, c7, by rw [HRL.out], hrep.agree (Agree.refl _ _ _) (Nat.zero_le _) (Nat.le_refl _), by have h := hvr.agree (Agree.refl _ _ _) (Nat.zero_le _) (Nat.le_refl _); rw [HRL.out] at h; exact h⟩
              obtain ⟨a5, l5, c5, a6, l6, c6, a7, c7, rfl, hrep, hvr⟩ := hres'
              have HREP := hid hrep
              have HVR := hid hvr
              have HB6 : Hid (Below w3.heap.size w3 w6) := bel4.out.trans (hb6.mono bel4.out.size)
              clear hb18 hres hrep hvr hb6
              go_wp2_with fail
              go_meet
              have k6 : Below w6.heap.size w6 (w6.alloc (Obj.cells #[.int .i64 t9.hd.1, .int .u64 t9.hd.2.1, .slice a5 l5 c5, .slice a6 l6 c6] 29)) := (Below.refl _ _).alloc (Nat.le_refl _) _
              exact ⟨w6.heap.size, t9, a5, l5, c5, a6, l6, c6, a7, c7, rfl, rfl, rfl, Box.new w6 _ _ _ _ _, HSM.out, rep_below HREP.out k6, bySl_below HVR.out k6, HB6.out.trans (k6.mono HB6.out.size)⟩
            | some ad =>
              have hnl : Hid ((rs.map (Value.int .u8)).length = R * 1) := by rw [Hid, List.length_map, HRL.out]; omega
              have hnews : Hid (∀ j u, (rs.map (Value.int .u8))[j]? = some u → w4.cell? (ad.add j) = some u) := bytes_news RS3.out bel4.out
              have hone := hid (bytes_one rs)
              have ltA := hid HOWN.out.lt
              go_wp2_with (at_builtin; go_must (refine wpList_append_own _ rfl _ _ 26 rfl w3.heap.size 5 i0 (.int .u8 0) 1 1 Try.underlying26 hi hz0 hz1 hz2 rfl (by decide) _ M _ rfl HOWN.out ad R cr (rs.map (Value.int .u8)) rfl hnl.out hnews.out hone.out (by unfold maxLen; omega) (by omega) bel4.out.size ?_))
              intro v2 w5 hown5 hgrow5 hnil5
              obtain ⟨a2, c2, rfl⟩ := ownsRow_form' hown5
              have HOWN5 := hid hown5
              have bel5 : Hid (Below w3.heap.size w3 w5) := bel4.out.grown hgrow5 bel4.out.size (fun r e => (ltA.out r e).1)
              clear hown5 hgrow5 hnil5 hnl hnews hone
              go_wp2_with fail
              have hb18 : BySl 0 w5.heap.size w5 (.slice a2 (M + R) c2) (X ++ rs) := by
                have h1 : (X ++ rs).length = M + R := by rw [List.length_append, HM.out, HRL.out]
                have h2 := BySl.own (base := w3.heap.size) (w := w5) (v := (.slice a2 (M + R) c2)) (bs := X ++ rs) (by rw [h1, List.map_append]; exact HOWN5.out) (by rw [h1]; omega) (fun x hx => by rcases List.mem_append.1 hx with hx | hx; exact HX.out.bytes x hx; exact RS3.out.bytes x hx)
                exact h2.agree (Agree.refl _ _ _) (Nat.zero_le _) (Nat.le_refl _)
              refine (take_any _ _ w5 hb18).mono ?_
              rintro e w6 ⟨hres, hb6⟩
              have hres' : ∃ (a5 : Option Addr) (l5 c5 : Nat) (a6 : Option Addr) (l6 c6 : Nat) (a7 : Option Addr) (c7 : Nat), e = .returned (.tuple #[.agg #[.int .i64 t9.hd.1, .int .u64 t9.hd.2.1, .slice a5 l5 c5, .slice a6 l6 c6], .slice a7 R c7, .int .i64 0]) ∧ Rep 0 w6.heap.size w6 9 t9 (.slice a5 l5 c5) (.slice a6 l6 c6) ∧ BySl 0 w6.heap.size w6 (.slice a7 R c7) rs := by
                rcases hres with ⟨hn, _⟩ | ⟨t', m, sb, sk, vr, hs, rfl, hrep, hvr⟩
                · have := HRD.out
                  rw [hn] at this
                  cases this
                · rw [HRD.out] at hs
                  simp only [Option.some.injEq, Prod.mk.injEq] at hs
                  obtain ⟨rfl, rfl⟩ := hs
                  rw [List.drop_left] at hvr
                  obtain ⟨a5, l5, c5, a6, l6, c6, rfl, rfl⟩ := hrep.sl
                  obtain ⟨a7, c7, rfl, _⟩ := id hvr
                  exact ⟨a5, l5, c5, a6, l6, c6, a7, c7, by rw [HRL.out], hrep.agree (Agree.refl _ _ _) (Nat.zero_le _) (Nat.le_refl _), by have h := hvr.agree (Agree.refl _ _ _) (Nat.zero_le _) (Nat.le_refl _); rw [HRL.out] at h; exact h⟩
              obtain ⟨a5, l5, c5, a6, l6, c6, a7, c7, rfl, hrep, hvr⟩ := hres'
              have HREP := hid hrep
              have HVR := hid hvr
              have HB6 : Hid (Below w3.heap.size w3 w6) := bel5.out.trans (hb6.mono bel5.out.size)
              clear hb18 hres hrep hvr hb6
              go_wp2_with fail
              go_meet
              have k6 : Below w6.heap.size w6 (w6.alloc (Obj.cells #[.int .i64 t9.hd.1, .int .u64 t9.hd.2.1, .slice a5 l5 c5, .slice a6 l6 c6] 29)) := (Below.refl _ _).alloc (Nat.le_refl _) _
              exact ⟨w6.heap.size, t9, a5, l5, c5, a6, l6, c6, a7, c7, rfl, rfl, rfl, Box.new w6 _ _ _ _ _, HSM.out, rep_below HREP.out k6, bySl_below HVR.out k6, HB6.out.trans (k6.mono HB6.out.size)⟩
          case rest =>
            obtain ⟨g, t9, a5, l5, c5, a6, l6, c6, a7, c7, rfl, rfl, rfl, HC⟩ := hcut
            have BC := hid HC.out.2.2.2.2
            obtain ⟨z10, z11, z12, z13, z14⟩ := Z1.out.below BC.out
            obtain ⟨y10, y11, y12, y13, y14⟩ := HC.out.1
            go_wp2_with fail
            refine (Same_any t9 t _ _ _ _ wc HC.out.2.2.1 (rep_below RA3.out BC.out) (by omega)).mono ?_
            rintro e w7 ⟨rfl, hb7⟩
            rw [HC.out.2.1]
            have HB7 := hid hb7
            clear hb7 z10 z11 z12 z13 z14 y10 y11 y12 y13 y14
            go_wp2_with fail
            have hr1 : BySl 0 w7.heap.size w7 (.slice a7 R c7) rs := bySl_below HC.out.2.2.2.1 HB7.out
            have hr2 : BySl 0 w7.heap.size w7 (.slice ar R cr) rs := bySl_below (bySl_below RS3.out BC.out) HB7.out
            refine (refBytes_any _ _ rs rs w7 hr1 hr2).mono ?_
            rintro e w8 ⟨rfl, hb8⟩
            rw [decide_eq_true (rfl : rs = rs)]
            have HB8 : Hid (Below w3.heap.size w3 w8) := (BC.out.trans (HB7.out.mono BC.out.size)).trans (hb8.mono (Nat.le_trans BC.out.size HB7.out.size))
            clear hr1 hr2 hb8
            obtain ⟨z10, z11, z12, z13, z14⟩ := Z1.out.below HB8.out
            go_wp2_with fail
            refine (size_any t _ _ w8 (rep_below RA3.out HB8.out)).mono ?_
            rintro e w9 ⟨rfl, hb9⟩
            rw [HSZ.out]
            have HB9 : Hid (Below w3.heap.size w3 w9) := HB8.out.trans (hb9.mono HB8.out.size)
            clear hb9 z10 z11 z12 z13 z14
            go_wp2_with fail
            go_meet
            exact HB9.out
      case rest =>
        have HC := hcut
        have BS4 := hid (bySl_below BS3.out HC.out)
        have HBW4 : Hid (Below w'.heap.size w' wc) := HBW3.out.trans (HC.out.mono HBW3.out.size)
        clear hcut BS3 HBW3 Z1 RA3 RS3 HF
        as_aux_lemma =>
          go_wp2_with fail
          refine (get_any _ bs wc BS4.out).mono ?_
          rintro e w5 ⟨hres, hb5⟩
          have BS5 := hid (bySl_below BS4.out hb5)
          have HBW5 : Hid (Below w'.heap.size w' w5) := HBW4.out.trans (hb5.mono HBW4.out.size)
          clear hb5 HBW4 BS4
          rcases hres with ⟨hn, rfl⟩ | ⟨u, sb, sk, hs, rfl, hrep⟩
          · clear hn
            go_wp2_with fail
            have k5 : Below w5.heap.size w5 (w5.alloc (Obj.cells #[.int .i64 0, .int .u64 0, .slice none 0 0, .slice none 0 0] 29)) := (Below.refl _ _).alloc (Nat.le_refl _) _
            have HB6 : Hid (Below w'.heap.size w' (w5.alloc (Obj.cells #[.int .i64 0, .int .u64 0, .slice none 0 0, .slice none 0 0] 29))) := HBW5.out.trans (k5.mono HBW5.out.size)
            refine (Same_any (Tr.mk 0 0 [] [] : Tr 9) (Tr.mk 0 0 [] [] : Tr 9) _ _ _ _ _ (rep_zero _) (rep_zero _) (by omega)).mono ?_
            rintro e w6 ⟨rfl, hb6⟩
            rw [sameT_refl]
            have HB7 : Hid (Below w'.heap.size w' w6) := HB6.out.trans (hb6.mono HB6.out.size)
            clear hb6 k5 HB6
            go_wp2_with fail
            refine (alive_any w6).mono ?_
            rintro e w7 ⟨rfl, hb7⟩
            have HB8 := hid hb7
            clear hb7
            go_wp2_with fail
            go_ret
            exact ⟨rfl, HB7.out.trans (HB8.out.mono HB7.out.size)⟩
          · obtain ⟨a5, l5, c5, a6, l6, c6, rfl, rfl⟩ := hrep.sl
            obtain ⟨hz, hf⟩ := get_form BS5.out.bytes hs
            have HZ := hid hz
            have HF := hid hf
            have HREP := hid (hrep.agree (L' := 0) (Agree.refl _ _ _) (Nat.zero_le _) (Nat.le_refl _))
            clear hs hrep hz hf
            go_wp2_with fail
            have k5 : Below w5.heap.size w5 (w5.alloc (Obj.cells #[.int .i64 u.hd.1, .int .u64 u.hd.2.1, .slice a5 l5 c5, .slice a6 l6 c6] 29)) := (Below.refl _ _).alloc (Nat.le_refl _) _
            have HB6 : Hid (Below w'.heap.size w' (w5.alloc (Obj.cells #[.int .i64 u.hd.1, .int .u64 u.hd.2.1, .slice a5 l5 c5, .slice a6 l6 c6] 29))) := HBW5.out.trans (k5.mono HBW5.out.size)
            have BS6 := hid (bySl_below BS5.out k5)
            refine (put_one u _ _ _ (rep_below HREP.out k5)).mono ?_
            rintro e w6 ⟨⟨h0, _⟩ | ⟨_, ay, cy, rfl, hy⟩, hb6⟩
            · exact absurd h0 HZ.out
            have HB7 : Hid (Below w'.heap.size w' w6) := HB6.out.trans (hb6.mono HB6.out.size)
            have BS7 := hid (bySl_below BS6.out hb6)
            rw [HF.out, HBL.out] at hy
            rw [HF.out, HBL.out]
            have HY := hid hy
            clear hb6 k5 HB6 BS6 BS5 hy
            go_wp2_with fail
            refine (refBytes_any _ _ bs bs w6 HY.out BS7.out).mono ?_
            rintro e w7 ⟨rfl, hb7⟩
            rw [decide_eq_true (rfl : bs = bs)]
            have HB8 : Hid (Below w'.heap.size w' w7) := HB7.out.trans (hb7.mono HB7.out.size)
            clear hb7
            go_wp2_with fail
            refine (alive_any w7).mono ?_
            rintro e w8 ⟨rfl, hb8⟩
            have HB9 := hid hb8
            clear hb8
            go_wp2_with fail
            go_ret
            exact ⟨rfl, HB8.out.trans (HB9.out.mono HB8.out.size)⟩

end Go.Proofs.Ytnnanmpogjmkiaa
