/-
  What read, Get and Take of tlv answer.
-/
import Derived.Test.YthbhdbjjobfchaaTlvReadBody
namespace Go.Proofs.Ythbhdbjjobfchaa.Tlv
open Go.RowKit
attribute [local go_sem ↓] Go.wp_at_zero Go.wp_at_succ

/-- readBody's answer, its value written out. -/
theorem bodyOk_one {d : Nat} (hB : BodyOk d) (tag : Int) (v : Value) (bs : List Int) (w : World) (h : BySl 0 w.heap.size w v bs) (hl : bs.length ≤ 65535) :
    Calls Try.prog 71 #[.int .i64 tag, v, .int .i64 d] w fun e w' => ∃ (x y : Int) (a a' : Option Addr) (l c l' c' : Nat) (ok : Bool), e = .returned (.tuple #[.agg #[.int .i64 x, .int .u64 y, .slice a l c, .slice a' l' c'], .bool ok]) ∧
      ((ok = false ∧ rdBody d (rdKids d) tag bs = none) ∨ (ok = true ∧ ∃ t : Tr (d + 1), rdBody d (rdKids d) tag bs = some t ∧ x = t.hd.1 ∧ y = t.hd.2.1 ∧ Rep w.heap.size w'.heap.size w' (d + 1) t (.slice a l c) (.slice a' l' c'))) ∧ Below w.heap.size w w' := by
  refine (hB tag v bs w h hl).mono ?_
  rintro e w' ⟨⟨hn, x, y, a, a', l, c, l', c', rfl⟩ | ⟨t, sb, sk, hs, rfl, hr⟩, hb⟩
  · exact ⟨x, y, a, a', l, c, l', c', false, rfl, .inl ⟨rfl, hn⟩, hb⟩
  · obtain ⟨a1, l1, p1, a2, l2, p2, rfl, rfl⟩ := hr.sl
    exact ⟨_, _, _, _, _, _, _, _, true, rfl, .inr ⟨rfl, t, hs, rfl, rfl, hr⟩, hb⟩

/-- The bytes behind the first three, up to the E-th. -/
theorem bySl_mid {L B : Nat} {w : World} {b o cap E : Nat} {bs : List Int} (h : BySl L B w (.slice (some ⟨b, o, none⟩) bs.length cap) bs) (h3 : 3 ≤ E) (hE : E ≤ bs.length) :
    BySl L B w (.slice (if cap = 3 then some ⟨b, o, none⟩ else some ⟨b, o + 3, none⟩) (E - 3) (cap - 3)) ((bs.take E).drop 3) := by
  obtain ⟨a', cap', e, h2, h3', h4, h5, h6, h7⟩ := h
  simp only [Value.slice.injEq, true_and] at e
  obtain ⟨rfl, rfl⟩ := e
  have hlen : ((bs.take E).drop 3).length = E - 3 := by rw [List.length_drop, List.length_take_of_le hE]
  refine ⟨_, _, by rw [hlen], by rw [hlen]; omega, by omega, fun e => by split at e <;> simp at e, by rw [hlen]; omega, fun x hx => h6 x (List.mem_of_mem_take (List.mem_of_mem_drop hx)), fun hne => ?_⟩
  have hlt : 3 < E := by
    have := List.length_pos_iff.2 hne
    rw [hlen] at this
    omega
  obtain ⟨b', o', e, hL, hB, hc⟩ := h7 (by intro e; subst e; simp at hE; omega)
  simp only [Option.some.injEq, Addr.mk.injEq, and_true] at e
  obtain ⟨rfl, rfl⟩ := e
  rw [if_neg (by omega)]
  refine ⟨b, o + 3, rfl, hL, hB, fun i hi => ?_⟩
  rw [hlen] at hi
  rw [Nat.add_assoc, hc (3 + i) (by omega)]
  simp [show 3 + i < E by omega]

set_option maxHeartbeats 1000000 in
set_option maxRecDepth 100000 in
theorem readOk_of {d : Nat} (_hd8 : d ≤ 8) (hB : BodyOk d) : ReadOk d := by
  intro v bs w h
  obtain ⟨a, cap, rfl, h2, h3, h4, h5, h6, h7⟩ := id h
  have H := hid h
  obtain ⟨R, hR⟩ : ∃ R, rd d bs = R := ⟨_, rfl⟩
  rw [hR]
  have HR := hid hR
  clear hR h h4
  by_cases hs : bs.length < 3
  · clear h6 h7
    go_enter Try.func65, Try.ntmps65
    go_wp2_with fail
    refine bodyPost_ret (v := .tuple #[.agg #[.int .i64 0, .int .u64 0, .slice none 0 0, .slice none 0 0], .int .i64 0, .bool false]) (by simp [results, Try.results65, go_sem]) rfl ⟨.inl ⟨?_, rfl⟩, (Below.refl _ _).alloc (Nat.le_refl _) _⟩
    rw [← HR.out, rd_eq, rd1, if_pos hs]
  · obtain ⟨b, o, rfl, _, hbw, hc⟩ := h7 (by intro e; subst e; simp at hs)
    have c0 := hc 0 (by omega)
    have c1 := hc 1 (by omega)
    have c2 := hc 2 (by omega)
    have y0 : 0 ≤ bs.getD 0 0 ∧ bs.getD 0 0 ≤ 255 := by have := h6 bs[0] (List.getElem_mem _); simpa [List.getElem?_eq_getElem (show 0 < bs.length by omega)] using this
    have y1 : 0 ≤ bs.getD 1 0 ∧ bs.getD 1 0 ≤ 255 := by have := h6 bs[1] (List.getElem_mem _); simpa [List.getElem?_eq_getElem (show 1 < bs.length by omega)] using this
    have y2 : 0 ≤ bs.getD 2 0 ∧ bs.getD 2 0 ≤ 255 := by have := h6 bs[2] (List.getElem_mem _); simpa [List.getElem?_eq_getElem (show 2 < bs.length by omega)] using this
    clear h6 h7 hc
    have he : endOf bs = 3 + (bs.getD 1 0 * 256 + bs.getD 2 0).toNat := rfl
    obtain ⟨E, hE⟩ : ∃ E, endOf bs = E := ⟨_, rfl⟩
    rw [hE] at he
    have HE := hid hE
    have hX0 : Hid (bs.getD 0 0 = bs.getD 0 0) := rfl
    generalize hx0 : bs.getD 0 0 = x0 at *
    generalize bs.getD 1 0 = x1 at *
    generalize bs.getD 2 0 = x2 at *
    have HX0 := hid hx0
    clear hx0 hE hX0
    rw [Nat.add_zero] at c0
    have hEx : (E : Int) = 3 + (x1 * 256 + x2) := by omega
    have HEx := hid hEx
    have HEn := hid he
    clear hEx he
    have hS := hid hs
    obtain ⟨L, hL⟩ : ∃ L, bs.length = L := ⟨_, rfl⟩
    rw [hL] at h2 h5 hs ⊢
    have HL := hid hL
    clear hL
    go_enter Try.func65, Try.ntmps65
    go_upto_region 3 with fail
    have hb0 : Hid (Below (w.heap.size + 1) (w.alloc (Obj.cells #[Value.int IntKind.i64 0, Value.int IntKind.u64 0, Value.slice none 0 0, Value.slice none 0 0] 88)) (w.alloc (Obj.cells #[Value.int IntKind.i64 0, Value.int IntKind.u64 0, Value.slice none 0 0, Value.slice none 0 0] 88))) := Below.refl _ _
    go_cut [7] (fun s wx => s = .int .i64 (E : Int) ∧ Hid (Below (w.heap.size + 1) (w.alloc (Obj.cells #[Value.int IntKind.i64 0, Value.int IntKind.u64 0, Value.slice none 0 0, Value.slice none 0 0] 88)) wx))
    case first =>
      go_quiet (fail)
      go_wp2_with fail
      go_meet
      exact ⟨congrArg (Value.int .i64) (by have := HEx.out; omega), below_drewN hb0.out _⟩
    case rest =>
      obtain ⟨rfl, HBel⟩ := hcut
      have hE3 : 3 ≤ E := by have := HEn.out; omega
      have hEm : E ≤ 65538 := by have := HEx.out; omega
      obtain ⟨hz, g0, g1, g2, g3, gf, hbel⟩ := res_facts (w1 := wc) (by simpa using HBel.out)
      have HB := hid hbel
      have k0 : wc.cell? ⟨b, o, none⟩ = some (.int .u8 x0) := (hbel.cell (p := ⟨b, o, none⟩) hbw).trans c0
      have HBy : Hid (BySl 0 wc.heap.size wc (.slice (some ⟨b, o, none⟩) bs.length cap) bs) := H.out.agree (Agree.below hbel) (Nat.le_refl _) (by omega)
      clear hbel c0 c1 c2 hb0
      by_cases hlE : L < E
      · go_wp2_with fail
        obtain ⟨q0, q1, q2, q3⟩ := set4_read (u0 := .int .i64 0) (u1 := .int .u64 0) (u2 := .slice none 0 0) (u3 := .slice none 0 0) g0 g1 g2 g3
        refine bodyPost_ret (v := .tuple #[.agg #[.int .i64 0, .int .u64 0, .slice none 0 0, .slice none 0 0], .int .i64 0, .bool false]) (by simp [results, Try.results65, go_sem, q0, q1, q2, q3]) rfl ⟨.inl ⟨?_, rfl⟩, HB.out.trans (bset4 (Nat.le_refl _) _ _ _ _)⟩
        rw [← HR.out, rd_eq, rd1, if_neg hS.out, HE.out, HL.out, if_pos hlE]
      · have hcapI : (3 : Int) ≤ cap := by omega
        have hEI : (3 : Int) ≤ E := by omega
        have hEc : (E : Int) ≤ cap := by omega
        have hl0 : (0 : Int) < L := by omega
        have hw0 : IntKind.i64.wrap x0 = x0 := by rw [IntKind.wrap_i64]; omega
        have hbw2 : b < wc.heap.size := by omega
        obtain ⟨A, hA⟩ : ∃ A, (if cap = 3 then some (⟨b, o, none⟩ : Addr) else some ⟨b, o + 3, none⟩) = A := ⟨_, rfl⟩
        have HBm : Hid (BySl 0 wc.heap.size wc (.slice A (E - 3) (cap - 3)) ((bs.take E).drop 3)) := by rw [← hA]; exact bySl_mid HBy.out hE3 (by rw [HL.out]; omega)
        have hbl : Hid (((bs.take E).drop 3).length ≤ 65535) := by rw [Hid, List.length_drop]; have := List.length_take_le E bs; omega
        go_upto_region 6 with fail
        go_cut [8, 9] (fun s8 s9 wx => ∃ (g : Nat) (x y : Int) (a a' : Option Addr) (l c l' c' : Nat) (ok : Bool), s8 = .pointer (some ⟨g, 0, none⟩) ∧ s9 = .bool ok ∧ wx.cell? ⟨g, 0, none⟩ = some (.int .i64 x) ∧ wx.cell? ⟨g, 1, none⟩ = some (.int .u64 y) ∧ wx.cell? ⟨g, 2, none⟩ = some (.slice a l c) ∧ wx.cell? ⟨g, 3, none⟩ = some (.slice a' l' c') ∧
          Hid (((ok = false ∧ rdBody d (rdKids d) x0 ((bs.take E).drop 3) = none) ∨ (ok = true ∧ ∃ t : Tr (d + 1), rdBody d (rdKids d) x0 ((bs.take E).drop 3) = some t ∧ x = t.hd.1 ∧ y = t.hd.2.1 ∧ Rep (w.heap.size + 1) wx.heap.size wx (d + 1) t (.slice a l c) (.slice a' l' c'))) ∧ Below (w.heap.size + 1) (w.alloc (Obj.cells #[Value.int IntKind.i64 0, Value.int IntKind.u64 0, Value.slice none 0 0, Value.slice none 0 0] 88)) wx))
        case first =>
          go_region_with ((go_at_call 71; refine (bodyOk_one hB x0 _ ((bs.take E).drop 3) _ (BySl.agree (L' := 0) HBm.out (by repeat' first | exact Agree.refl _ _ _ | apply Agree.drew | refine Agree.alloc ?_ ?_ _ | (simp; done) | (simp; omega)) (Nat.le_refl _) (by simp)) hbl.out).mono ?_; rintro e w1 ⟨x, y, a, a', l, c, l', c', ok, rfl, hres, hb1⟩; have Hres := hid hres; have Hb1 := hid hb1; obtain ⟨hc, hf⟩ := bcell hb1; have hz1 := hb1.size; clear hres hb1))
          all_goals go_wp2_with fail
          all_goals go_meet
          all_goals simp at hz1
          all_goals first
            | refine ⟨w1.heap.size, x, y, a, a', l, c, l', c', ok, rfl, rfl, by simp, by simp, by simp, by simp, ?_, ?_⟩
              · rcases Hres.out with hr | ⟨h1, t, h2, h3, h4, h5⟩
                · exact .inl hr
                · exact .inr ⟨h1, t, h2, h3, h4, h5.agree ((Agree.refl _ _ _).alloc (Nat.le_refl _) _) (by simp; omega) (by simp)⟩
              · exact ((HBel.out.drew).trans (Hb1.out.mono (by simp; omega))).alloc (by omega) _
            | obtain ⟨r0, r1, r2, r3⟩ := set4_read (w := w1) (b := wc.heap.size) (u0 := .int .i64 x) (u1 := .int .u64 y) (u2 := .slice a l c) (u3 := .slice a' l' c') (x0 := .int .i64 0) (x1 := .int .u64 0) (x2 := .slice none 0 0) (x3 := .slice none 0 0) ((hc _ _ (by simp)).trans (by simp [go_sem])) ((hc _ _ (by simp)).trans (by simp [go_sem])) ((hc _ _ (by simp)).trans (by simp [go_sem])) ((hc _ _ (by simp)).trans (by simp [go_sem]))
              refine ⟨wc.heap.size, x, y, a, a', l, c, l', c', ok, rfl, rfl, r0, r1, r2, r3, ?_, ?_⟩
              · rcases Hres.out with hr | ⟨h1, t, h2, h3, h4, h5⟩
                · exact .inl hr
                · exact .inr ⟨h1, t, h2, h3, h4, h5.agree (Agree.set4 _ (.inl (by simp)) _ _ _ _) (by simp; omega) (by simp)⟩
              · exact (((HBel.out.alloc (by omega) _).drew).trans (Hb1.out.mono (by simp; omega))).trans (bset4 (by omega) _ _ _ _)
        case rest =>
          obtain ⟨g, x, y, a, a', l, c, l', c', ok, rfl, rfl, e0, e1, e2, e3, HX⟩ := hcut
          clear g0 g1 g2 g3 gf hz HBy HBm hbw2 k0
          obtain ⟨hz, g0, g1, g2, g3, gf, hbel⟩ := res_facts (w1 := wc) (by simpa using HX.out.2)
          have HB2 := hid hbel
          clear hbel
          cases ok with
          | false =>
            go_wp2_with fail
            obtain ⟨q0, q1, q2, q3⟩ := set4_read (u0 := .int .i64 0) (u1 := .int .u64 0) (u2 := .slice none 0 0) (u3 := .slice none 0 0) g0 g1 g2 g3
            refine bodyPost_ret (v := .tuple #[.agg #[.int .i64 0, .int .u64 0, .slice none 0 0, .slice none 0 0], .int .i64 0, .bool false]) (by simp [results, Try.results65, go_sem, q0, q1, q2, q3]) rfl ⟨.inl ⟨?_, rfl⟩, HB2.out.trans (bset4 (Nat.le_refl _) _ _ _ _)⟩
            rcases HX.out.1 with hr | hr
            · rw [← HR.out, rd_eq, rd1, if_neg hS.out, HE.out, HL.out, if_neg hlE, HX0.out, hr.2]
              rfl
            · exact absurd hr.1 (by simp)
          | true =>
            go_wp2_with fail
            obtain ⟨q0, q1, q2, q3⟩ := set4_read (u0 := .int .i64 x) (u1 := .int .u64 y) (u2 := .slice a l c) (u3 := .slice a' l' c') g0 g1 g2 g3
            refine bodyPost_ret (v := .tuple #[.agg #[.int .i64 x, .int .u64 y, .slice a l c, .slice a' l' c'], .int .i64 E, .bool true]) (by simp [results, Try.results65, go_sem, q0, q1, q2, q3]) rfl ⟨.inr ?_, HB2.out.trans (bset4 (Nat.le_refl _) _ _ _ _)⟩
            rcases HX.out.1 with hr | ⟨_, t, h2, rfl, rfl, h5⟩
            · exact absurd hr.1 (by simp)
            · have A4 := Agree.set4 (L := w.heap.size + 1) (B := wc.heap.size) wc (b := w.heap.size) (o0 := 0) (o1 := 1) (o2 := 2) (o3 := 3) (.inl (by omega)) (.int .i64 t.hd.1) (.int .u64 t.hd.2.1) (.slice a l c) (.slice a' l' c')
              have hsz : wc.heap.size ≤ ((((wc.setCell ⟨w.heap.size, 0, none⟩ (.int .i64 t.hd.1)).setCell ⟨w.heap.size, 1, none⟩ (.int .u64 t.hd.2.1)).setCell ⟨w.heap.size, 2, none⟩ (.slice a l c)).setCell ⟨w.heap.size, 3, none⟩ (.slice a' l' c')).heap.size := by simp
              refine ⟨t, E, ?_, .slice a l c, .slice a' l' c', rfl, Rep.agree (L' := w.heap.size) A4 (by omega) hsz h5⟩
              rw [← HR.out, rd_eq, rd1, if_neg hS.out, HE.out, HL.out, if_neg hlE, HX0.out, h2]
              rfl

theorem readOk : ∀ d, d ≤ 8 → ReadOk d
  | 0, _ => readOk_of (by omega) (bodyOk_of listOk_zero)
  | d + 1, h => readOk_of h (bodyOk_of (listOk_succ (readOk d (by omega)) (by omega)))

end Go.Proofs.Ythbhdbjjobfchaa.Tlv
