/- Of the proof: the texts TlvReadTop, TlvRefRead, TlvNumber, TlvPut, TlvSize, one behind the other. -/
import Derived.Test.YtenfahecnkdhaaaB6
import Derived.Deep.CutBlock
import Derived.Laws.AppendOwnNone
import Derived.Test.YtenfahecnkdhaaaB4
import Derived.Deep.RegionLaw
import Derived.Deep.RegionHeld3
import Derived.Deep.DrawnRows
import Derived.Deep.DeepCutAuto
section
/-
  What read, Get and Take of tlv answer.
-/
namespace Go.Proofs.Ytenfahecnkdhaaa.Tlv
open Go.RowKit
attribute [local go_sem ↓] Go.wp_at_zero Go.wp_at_succ

/-- readBody's answer, its value written out. -/
theorem bodyOk_one {d : Nat} (hB : BodyOk d) (tag : Int) (v : Value) (bs : List Int) (w : World) (h : BySl 0 w.heap.size w v bs) (hl : bs.length ≤ 65535) :
    Calls Try.prog 91 #[.int .i64 tag, v, .int .i64 d] w fun e w' => ∃ (x y : Int) (a a' : Option Addr) (l c l' c' : Nat) (ok : Bool), e = .returned (.tuple #[.agg #[.int .i64 x, .int .u64 y, .slice a l c, .slice a' l' c'], .bool ok]) ∧
      ((ok = false ∧ rdBody d (rdKids d) tag bs = none) ∨ (ok = true ∧ ∃ t : Tr (d + 1), rdBody d (rdKids d) tag bs = some t ∧ x = t.hd.1 ∧ y = t.hd.2.1 ∧ Rep w.heap.size w'.heap.size w' (d + 1) t (.slice a l c) (.slice a' l' c'))) ∧ Below w.heap.size w w' := by
  refine (hB tag v bs w h hl).mono ?_
  rintro e w' ⟨⟨hn, x, y, a, a', l, c, l', c', rfl⟩ | ⟨t, sb, sk, hs, rfl, hr⟩, hb⟩
  · exact ⟨x, y, a, a', l, c, l', c', false, rfl, .inl ⟨rfl, hn⟩, hb⟩
  · obtain ⟨a1, l1, p1, a2, l2, p2, rfl, rfl⟩ := hr.sl
    exact ⟨_, _, _, _, _, _, _, _, true, rfl, .inr ⟨rfl, t, hs, rfl, rfl, hr⟩, hb⟩

/-- The bytes behind the first three, up to the E-th. -/
theorem bySl_mid {L B : Nat} {w : World} {b o cap E : Nat} {bs : List Int} (h : BySl L B w (.slice (some ⟨b, o, none⟩) bs.length cap) bs) (h3 : 3 ≤ E) (hE : E ≤ bs.length) :
    BySl L B w (.slice (if cap = 3 then some ⟨b, o, none⟩ else some ⟨b, o + 3, none⟩) (E - 3) (cap - 3)) ((bs.take E).drop 3) := by
  obtain ⟨a', cap', e, h2, h3', h4, h5, h6, h7⟩ := h
  simp only [Value.slice.injEq, true_and] at e
  obtain ⟨rfl, rfl⟩ := e
  have hlen : ((bs.take E).drop 3).length = E - 3 := by rw [List.length_drop, List.length_take_of_le hE]
  refine ⟨_, _, by rw [hlen], by rw [hlen]; omega, by omega, fun e => by split at e <;> simp at e, by rw [hlen]; omega, fun x hx => h6 x (List.mem_of_mem_take (List.mem_of_mem_drop hx)), fun hne => ?_⟩
  have hlt : 3 < E := by
    have := List.length_pos_iff.2 hne
    rw [hlen] at this
    omega
  obtain ⟨b', o', e, hL, hB, hc⟩ := h7 (by intro e; subst e; simp at hE; omega)
  simp only [Option.some.injEq, Addr.mk.injEq, and_true] at e
  obtain ⟨rfl, rfl⟩ := e
  rw [if_neg (by omega)]
  refine ⟨b, o + 3, rfl, hL, hB, fun i hi => ?_⟩
  rw [hlen] at hi
  rw [Nat.add_assoc, hc (3 + i) (by omega)]
  simp [show 3 + i < E by omega]

set_option maxHeartbeats 1000000 in
set_option maxRecDepth 100000 in
theorem readOk_of {d : Nat} (_hd8 : d ≤ 8) (hB : BodyOk d) : ReadOk d := by
  intro v bs w h
  obtain ⟨a, cap, rfl, h2, h3, h4, h5, h6, h7⟩ := id h
  have H := hid h
  obtain ⟨R, hR⟩ : ∃ R, rd d bs = R := ⟨_, rfl⟩
  rw [hR]
  have HR := hid hR
  clear hR h h4
  by_cases hs : bs.length < 3
  · clear h6 h7
    go_enter Try.func82, Try.ntmps82
    go_wp2_with fail
    refine bodyPost_ret (v := .tuple #[.agg #[.int .i64 0, .int .u64 0, .slice none 0 0, .slice none 0 0], .int .i64 0, .bool false]) (by simp [results, Try.results82, go_sem]) rfl ⟨.inl ⟨?_, rfl⟩, (Below.refl _ _).alloc (Nat.le_refl _) _⟩
    rw [← HR.out, rd_eq, rd1, if_pos hs]
  · obtain ⟨b, o, rfl, _, hbw, hc⟩ := h7 (by intro e; subst e; simp at hs)
    have c0 := hc 0 (by omega)
    have c1 := hc 1 (by omega)
    have c2 := hc 2 (by omega)
    have y0 : 0 ≤ bs.getD 0 0 ∧ bs.getD 0 0 ≤ 255 := by have := h6 bs[0] (List.getElem_mem _); simpa [List.getElem?_eq_getElem (show 0 < bs.length by omega)] using this
    have y1 : 0 ≤ bs.getD 1 0 ∧ bs.getD 1 0 ≤ 255 := by have := h6 bs[1] (List.getElem_mem _); simpa [List.getElem?_eq_getElem (show 1 < bs.length by omega)] using this
    have y2 : 0 ≤ bs.getD 2 0 ∧ bs.getD 2 0 ≤ 255 := by have := h6 bs[2] (List.getElem_mem _); simpa [List.getElem?_eq_getElem (show 2 < bs.length by omega)] using this
    clear h6 h7 hc
    have he : endOf bs = 3 + (bs.getD 1 0 * 256 + bs.getD 2 0).toNat := rfl
    obtain ⟨E, hE⟩ : ∃ E, endOf bs = E := ⟨_, rfl⟩
    rw [hE] at he
    have HE := hid hE
    have hX0 : Hid (bs.getD 0 0 = bs.getD 0 0) := rfl
    generalize hx0 : bs.getD 0 0 = x0 at *
    generalize bs.getD 1 0 = x1 at *
    generalize bs.getD 2 0 = x2 at *
    have HX0 := hid hx0
    clear hx0 hE hX0
    rw [Nat.add_zero] at c0
    have hEx : (E : Int) = 3 + (x1 * 256 + x2) := by omega
    have HEx := hid hEx
    have HEn := hid he
    clear hEx he
    have hS := hid hs
    obtain ⟨L, hL⟩ : ∃ L, bs.length = L := ⟨_, rfl⟩
    rw [hL] at h2 h5 hs ⊢
    have HL := hid hL
    clear hL
    go_enter Try.func82, Try.ntmps82
    go_upto_region 3 with fail
    have hb0 : Hid (Below (w.heap.size + 1) (w.alloc (Obj.cells #[Value.int IntKind.i64 0, Value.int IntKind.u64 0, Value.slice none 0 0, Value.slice none 0 0] 95)) (w.alloc (Obj.cells #[Value.int IntKind.i64 0, Value.int IntKind.u64 0, Value.slice none 0 0, Value.slice none 0 0] 95))) := Below.refl _ _
    go_cut [7] (fun s wx => s = .int .i64 (E : Int) ∧ Hid (Below (w.heap.size + 1) (w.alloc (Obj.cells #[Value.int IntKind.i64 0, Value.int IntKind.u64 0, Value.slice none 0 0, Value.slice none 0 0] 95)) wx))
    case first =>
      go_quiet (fail)
      go_wp2_with fail
      go_meet
      exact ⟨congrArg (Value.int .i64) (by have := HEx.out; omega), below_drewN hb0.out _⟩
    case rest =>
      obtain ⟨rfl, HBel⟩ := hcut
      have hE3 : 3 ≤ E := by have := HEn.out; omega
      have hEm : E ≤ 65538 := by have := HEx.out; omega
      obtain ⟨hz, g0, g1, g2, g3, gf, hbel⟩ := res_facts (w1 := wc) (by simpa using HBel.out)
      have HB := hid hbel
      have k0 : wc.cell? ⟨b, o, none⟩ = some (.int .u8 x0) := (hbel.cell (p := ⟨b, o, none⟩) hbw).trans c0
      have HBy : Hid (BySl 0 wc.heap.size wc (.slice (some ⟨b, o, none⟩) bs.length cap) bs) := H.out.agree (Agree.below hbel) (Nat.le_refl _) (by omega)
      clear hbel c0 c1 c2 hb0
      by_cases hlE : L < E
      · go_wp2_with fail
        obtain ⟨q0, q1, q2, q3⟩ := set4_read (u0 := .int .i64 0) (u1 := .int .u64 0) (u2 := .slice none 0 0) (u3 := .slice none 0 0) g0 g1 g2 g3
        refine bodyPost_ret (v := .tuple #[.agg #[.int .i64 0, .int .u64 0, .slice none 0 0, .slice none 0 0], .int .i64 0, .bool false]) (by simp [results, Try.results82, go_sem, q0, q1, q2, q3]) rfl ⟨.inl ⟨?_, rfl⟩, HB.out.trans (bset4 (Nat.le_refl _) _ _ _ _)⟩
        rw [← HR.out, rd_eq, rd1, if_neg hS.out, HE.out, HL.out, if_pos hlE]
      · have hcapI : (3 : Int) ≤ cap := by omega
        have hEI : (3 : Int) ≤ E := by omega
        have hEc : (E : Int) ≤ cap := by omega
        have hl0 : (0 : Int) < L := by omega
        have hw0 : IntKind.i64.wrap x0 = x0 := by rw [IntKind.wrap_i64]; omega
        have hbw2 : b < wc.heap.size := by omega
        obtain ⟨A, hA⟩ : ∃ A, (if cap = 3 then some (⟨b, o, none⟩ : Addr) else some ⟨b, o + 3, none⟩) = A := ⟨_, rfl⟩
        have HBm : Hid (BySl 0 wc.heap.size wc (.slice A (E - 3) (cap - 3)) ((bs.take E).drop 3)) := by rw [← hA]; exact bySl_mid HBy.out hE3 (by rw [HL.out]; omega)
        have hbl : Hid (((bs.take E).drop 3).length ≤ 65535) := by rw [Hid, List.length_drop]; have := List.length_take_le E bs; omega
        go_upto_region 6 with fail
        go_cut [8, 9] (fun s8 s9 wx => ∃ (g : Nat) (x y : Int) (a a' : Option Addr) (l c l' c' : Nat) (ok : Bool), s8 = .pointer (some ⟨g, 0, none⟩) ∧ s9 = .bool ok ∧ wx.cell? ⟨g, 0, none⟩ = some (.int .i64 x) ∧ wx.cell? ⟨g, 1, none⟩ = some (.int .u64 y) ∧ wx.cell? ⟨g, 2, none⟩ = some (.slice a l c) ∧ wx.cell? ⟨g, 3, none⟩ = some (.slice a' l' c') ∧
          Hid (((ok = false ∧ rdBody d (rdKids d) x0 ((bs.take E).drop 3) = none) ∨ (ok = true ∧ ∃ t : Tr (d + 1), rdBody d (rdKids d) x0 ((bs.take E).drop 3) = some t ∧ x = t.hd.1 ∧ y = t.hd.2.1 ∧ Rep (w.heap.size + 1) wx.heap.size wx (d + 1) t (.slice a l c) (.slice a' l' c'))) ∧ Below (w.heap.size + 1) (w.alloc (Obj.cells #[Value.int IntKind.i64 0, Value.int IntKind.u64 0, Value.slice none 0 0, Value.slice none 0 0] 95)) wx))
        case first =>
          go_region_with ((go_at_call 91; refine (bodyOk_one hB x0 _ ((bs.take E).drop 3) _ (BySl.agree (L' := 0) HBm.out (by repeat' first | exact Agree.refl _ _ _ | apply Agree.drew | refine Agree.alloc ?_ ?_ _ | (simp; done) | (simp; omega)) (Nat.le_refl _) (by simp)) hbl.out).mono ?_; rintro e w1 ⟨x, y, a, a', l, c, l', c', ok, rfl, hres, hb1⟩; have Hres := hid hres; have Hb1 := hid hb1; obtain ⟨hc, hf⟩ := bcell hb1; have hz1 := hb1.size; clear hres hb1))
          all_goals go_wp2_with fail
          all_goals go_meet
          all_goals simp at hz1
          all_goals first
            | refine ⟨w1.heap.size, x, y, a, a', l, c, l', c', ok, rfl, rfl, by simp, by simp, by simp, by simp, ?_, ?_⟩
              · rcases Hres.out with hr | ⟨h1, t, h2, h3, h4, h5⟩
                · exact .inl hr
                · exact .inr ⟨h1, t, h2, h3, h4, h5.agree ((Agree.refl _ _ _).alloc (Nat.le_refl _) _) (by simp; omega) (by simp)⟩
              · exact ((HBel.out.drew).trans (Hb1.out.mono (by simp; omega))).alloc (by omega) _
            | obtain ⟨r0, r1, r2, r3⟩ := set4_read (w := w1) (b := wc.heap.size) (u0 := .int .i64 x) (u1 := .int .u64 y) (u2 := .slice a l c) (u3 := .slice a' l' c') (x0 := .int .i64 0) (x1 := .int .u64 0) (x2 := .slice none 0 0) (x3 := .slice none 0 0) ((hc _ _ (by simp)).trans (by simp [go_sem])) ((hc _ _ (by simp)).trans (by simp [go_sem])) ((hc _ _ (by simp)).trans (by simp [go_sem])) ((hc _ _ (by simp)).trans (by simp [go_sem]))
              refine ⟨wc.heap.size, x, y, a, a', l, c, l', c', ok, rfl, rfl, r0, r1, r2, r3, ?_, ?_⟩
              · rcases Hres.out with hr | ⟨h1, t, h2, h3, h4, h5⟩
                · exact .inl hr
                · exact .inr ⟨h1, t, h2, h3, h4, h5.agree (Agree.set4 _ (.inl (by simp)) _ _ _ _) (by simp; omega) (by simp)⟩
              · exact (((HBel.out.alloc (by omega) _).drew).trans (Hb1.out.mono (by simp; omega))).trans (bset4 (by omega) _ _ _ _)
        case rest =>
          obtain ⟨g, x, y, a, a', l, c, l', c', ok, rfl, rfl, e0, e1, e2, e3, HX⟩ := hcut
          clear g0 g1 g2 g3 gf hz HBy HBm hbw2 k0
          obtain ⟨hz, g0, g1, g2, g3, gf, hbel⟩ := res_facts (w1 := wc) (by simpa using HX.out.2)
          have HB2 := hid hbel
          clear hbel
          cases ok with
          | false =>
            go_wp2_with fail
            obtain ⟨q0, q1, q2, q3⟩ := set4_read (u0 := .int .i64 0) (u1 := .int .u64 0) (u2 := .slice none 0 0) (u3 := .slice none 0 0) g0 g1 g2 g3
            refine bodyPost_ret (v := .tuple #[.agg #[.int .i64 0, .int .u64 0, .slice none 0 0, .slice none 0 0], .int .i64 0, .bool false]) (by simp [results, Try.results82, go_sem, q0, q1, q2, q3]) rfl ⟨.inl ⟨?_, rfl⟩, HB2.out.trans (bset4 (Nat.le_refl _) _ _ _ _)⟩
            rcases HX.out.1 with hr | hr
            · rw [← HR.out, rd_eq, rd1, if_neg hS.out, HE.out, HL.out, if_neg hlE, HX0.out, hr.2]
              rfl
            · exact absurd hr.1 (by simp)
          | true =>
            go_wp2_with fail
            obtain ⟨q0, q1, q2, q3⟩ := set4_read (u0 := .int .i64 x) (u1 := .int .u64 y) (u2 := .slice a l c) (u3 := .slice a' l' c') g0 g1 g2 g3
            refine bodyPost_ret (v := .tuple #[.agg #[.int .i64 x, .int .u64 y, .slice a l c, .slice a' l' c'], .int .i64 E, .bool true]) (by simp [results, Try.results82, go_sem, q0, q1, q2, q3]) rfl ⟨.inr ?_, HB2.out.trans (bset4 (Nat.le_refl _) _ _ _ _)⟩
            rcases HX.out.1 with hr | ⟨_, t, h2, rfl, rfl, h5⟩
            · exact absurd hr.1 (by simp)
            · have A4 := Agree.set4 (L := w.heap.size + 1) (B := wc.heap.size) wc (b := w.heap.size) (o0 := 0) (o1 := 1) (o2 := 2) (o3 := 3) (.inl (by omega)) (.int .i64 t.hd.1) (.int .u64 t.hd.2.1) (.slice a l c) (.slice a' l' c')
              have hsz : wc.heap.size ≤ ((((wc.setCell ⟨w.heap.size, 0, none⟩ (.int .i64 t.hd.1)).setCell ⟨w.heap.size, 1, none⟩ (.int .u64 t.hd.2.1)).setCell ⟨w.heap.size, 2, none⟩ (.slice a l c)).setCell ⟨w.heap.size, 3, none⟩ (.slice a' l' c')).heap.size := by simp
              refine ⟨t, E, ?_, .slice a l c, .slice a' l' c', rfl, Rep.agree (L' := w.heap.size) A4 (by omega) hsz h5⟩
              rw [← HR.out, rd_eq, rd1, if_neg hS.out, HE.out, HL.out, if_neg hlE, HX0.out, h2]
              rfl

theorem readOk : ∀ d, d ≤ 8 → ReadOk d
  | 0, _ => readOk_of (by omega) (bodyOk_of listOk_zero)
  | d + 1, h => readOk_of h (bodyOk_of (listOk_succ (readOk d (by omega)) (by omega)))

end Go.Proofs.Ytenfahecnkdhaaa.Tlv
end

section
/-
  What the reference's read answers.
-/
namespace Go.Proofs.Ytenfahecnkdhaaa.Tlv
open Go.RowKit
attribute [local go_sem ↓] Go.wp_at_zero Go.wp_at_succ

/-- What the reference's read does with bytes, where lists may be nested d deep. -/
def RReadOk (d : Nat) : Prop := ∀ (v : Value) (bs : List Int) (w : World), BySl 0 w.heap.size w v bs → Calls Try.prog 84 #[v, .int .i64 d] w fun e w' =>
  ((rd d bs = none ∧ e = .returned (.tuple #[.agg #[.int .i64 0, .int .u64 0, .slice none 0 0, .slice none 0 0], .int .i64 0])) ∨
    (∃ (t : Tr (d + 1)) (m : Nat) (sb sk : Value), rd d bs = some (t, m) ∧ e = .returned (.tuple #[.agg #[.int .i64 t.hd.1, .int .u64 t.hd.2.1, sb, sk], .int .i64 m]) ∧ RepS (fun b => w.heap.size ≤ b ∧ b < w'.heap.size) w' (d + 1) t sb sk)) ∧ Below w.heap.size w w'

theorem addr_plus (b o j : Nat) : (⟨b, o, none⟩ : Addr).add j = ⟨b, o + j, none⟩ := by unfold Addr.add; split <;> simp_all

theorem ownsRow_form' {w : World} {base n e size : Nat} {v : Value} {xs : List Value} (h : w.ownsRow base e size v n xs) : ∃ a c, v = .slice a n c := by
  rcases h.2 with ⟨rfl, h0⟩ | ⟨g, cap, cur, rfl, _⟩
  · exact ⟨_, _, by rw [h0]⟩
  · exact ⟨_, _, rfl⟩

/-- The block of a result that is still empty, behind a call (the reference's type). -/
theorem res_facts32 {w w1 : World} (hb : Below (w.heap.size + 1) (w.alloc (Obj.cells #[Value.int IntKind.i64 0, Value.int IntKind.u64 0, Value.slice none 0 0, Value.slice none 0 0] 86)) w1) :
    w.heap.size < w1.heap.size ∧ w1.cell? ⟨w.heap.size, 0, none⟩ = some (.int .i64 0) ∧ w1.cell? ⟨w.heap.size, 1, none⟩ = some (.int .u64 0) ∧ w1.cell? ⟨w.heap.size, 2, none⟩ = some (.slice none 0 0) ∧ w1.cell? ⟨w.heap.size, 3, none⟩ = some (.slice none 0 0) ∧ (∀ o, w1.frozen? ⟨w.heap.size, o, none⟩ = false) ∧ Below w.heap.size w w1 := by
  have hb' : Below (w.alloc (Obj.cells #[Value.int IntKind.i64 0, Value.int IntKind.u64 0, Value.slice none 0 0, Value.slice none 0 0] 86)).heap.size (w.alloc (Obj.cells #[Value.int IntKind.i64 0, Value.int IntKind.u64 0, Value.slice none 0 0, Value.slice none 0 0] 86)) w1 := by simpa using hb
  obtain ⟨hc, hf⟩ := bcell hb'
  have hz := hb.size
  simp at hz
  refine ⟨by omega, ?_, ?_, ?_, ?_, fun o => ?_, ((Below.refl _ _).alloc (Nat.le_refl _) _).trans (hb.mono (by omega))⟩
  · rw [hc _ _ (by simp)]; simp [go_sem]
  · rw [hc _ _ (by simp)]; simp [go_sem]
  · rw [hc _ _ (by simp)]; simp [go_sem]
  · rw [hc _ _ (by simp)]; simp [go_sem]
  · rw [hf _ _ (by simp)]; simp [go_sem]

set_option maxHeartbeats 2000000 in
set_option maxRecDepth 100000 in
theorem rread_of {d : Nat} (hd8 : d ≤ 8) (hrec : ∀ d', d = d' + 1 → RReadOk d') : RReadOk d := by
  intro v bs w h
  obtain ⟨a, cap, rfl, h2, h3, h4, h5, h6, h7⟩ := id h
  have H := hid h
  obtain ⟨R, hR⟩ : ∃ R, rd d bs = R := ⟨_, rfl⟩
  rw [hR]
  have HR := hid hR
  clear hR h h4
  by_cases hs : bs.length < 3
  · clear h6 h7
    go_enter Try.func84, Try.ntmps84
    go_wp2_with fail
    refine bodyPost_ret (v := .tuple #[.agg #[.int .i64 0, .int .u64 0, .slice none 0 0, .slice none 0 0], .int .i64 0]) (by simp [results, Try.results84, go_sem]) rfl ⟨.inl ⟨?_, rfl⟩, (Below.refl _ _).alloc (Nat.le_refl _) _⟩
    rw [← HR.out, rd_eq, rd1, if_pos hs]
  · obtain ⟨b, o, rfl, _, hbw, hc⟩ := h7 (by intro e; subst e; simp at hs)
    have c0 := hc 0 (by omega)
    have c1 := hc 1 (by omega)
    have c2 := hc 2 (by omega)
    have y0 : 0 ≤ bs.getD 0 0 ∧ bs.getD 0 0 ≤ 255 := by have := h6 bs[0] (List.getElem_mem _); simpa [List.getElem?_eq_getElem (show 0 < bs.length by omega)] using this
    have y1 : 0 ≤ bs.getD 1 0 ∧ bs.getD 1 0 ≤ 255 := by have := h6 bs[1] (List.getElem_mem _); simpa [List.getElem?_eq_getElem (show 1 < bs.length by omega)] using this
    have y2 : 0 ≤ bs.getD 2 0 ∧ bs.getD 2 0 ≤ 255 := by have := h6 bs[2] (List.getElem_mem _); simpa [List.getElem?_eq_getElem (show 2 < bs.length by omega)] using this
    clear h6 h7 hc
    have he : endOf bs = 3 + (bs.getD 1 0 * 256 + bs.getD 2 0).toNat := rfl
    obtain ⟨M, hM⟩ : ∃ M, (bs.getD 1 0 * 256 + bs.getD 2 0).toNat = M := ⟨_, rfl⟩
    rw [hM] at he
    have HE := hid he
    clear he
    generalize hx0 : bs.getD 0 0 = x0 at *
    generalize bs.getD 1 0 = x1 at *
    generalize bs.getD 2 0 = x2 at *
    have HX0 := hid hx0
    clear hx0
    rw [Nat.add_zero] at c0
    have HMx : Hid ((M : Int) = x1 * 256 + x2) := by rw [Hid]; omega
    clear hM
    have hS := hid hs
    obtain ⟨L, hL⟩ : ∃ L, bs.length = L := ⟨_, rfl⟩
    rw [hL] at h2 h5 hs ⊢
    have HL := hid hL
    clear hL
    have hM1 : M ≤ 65535 := by have := HMx.out; omega
    go_enter Try.func84, Try.ntmps84
    go_upto_region 3 with fail
    have hb0 : Hid (Below (w.heap.size + 1) (w.alloc (Obj.cells #[Value.int IntKind.i64 0, Value.int IntKind.u64 0, Value.slice none 0 0, Value.slice none 0 0] 86)) (w.alloc (Obj.cells #[Value.int IntKind.i64 0, Value.int IntKind.u64 0, Value.slice none 0 0, Value.slice none 0 0] 86))) := Below.refl _ _
    go_cut [6] (fun s wx => s = .int .i64 (M : Int) ∧ Hid (Below (w.heap.size + 1) (w.alloc (Obj.cells #[Value.int IntKind.i64 0, Value.int IntKind.u64 0, Value.slice none 0 0, Value.slice none 0 0] 86)) wx))
    case first =>
      go_quiet (fail)
      go_wp2_with fail
      go_meet
      exact ⟨congrArg (Value.int .i64) (by have := HMx.out; omega), below_drewN hb0.out _⟩
    case rest =>
      obtain ⟨rfl, HBel⟩ := hcut
      obtain ⟨wq, hwq⟩ : ∃ wq, wq = wc := ⟨_, rfl⟩
      subst hwq
      obtain ⟨hz, g0, g1, g2, g3, gf, hbel⟩ := res_facts32 HBel.out
      have HB := hid hbel
      have k0 : wq.cell? ⟨b, o, none⟩ = some (.int .u8 x0) := (hbel.cell (p := ⟨b, o, none⟩) hbw).trans c0
      have HBy : Hid (BySl 0 wq.heap.size wq (.slice (some ⟨b, o, none⟩) bs.length cap) bs) := H.out.agree (Agree.below hbel) (Nat.le_refl _) (by omega)
      clear hbel c0 c1 c2 hb0
      by_cases hlE : L < 3 + M
      · go_wp2_with fail
        obtain ⟨q0, q1, q2, q3⟩ := set4_read (u0 := .int .i64 0) (u1 := .int .u64 0) (u2 := .slice none 0 0) (u3 := .slice none 0 0) g0 g1 g2 g3
        refine bodyPost_ret (v := .tuple #[.agg #[.int .i64 0, .int .u64 0, .slice none 0 0, .slice none 0 0], .int .i64 0]) (by simp [results, Try.results84, go_sem, q0, q1, q2, q3]) rfl ⟨.inl ⟨?_, rfl⟩, HB.out.trans (bset4 (Nat.le_refl _) _ _ _ _)⟩
        rw [← HR.out, rd_eq, rd1, if_neg hS.out, HE.out, HL.out, if_pos hlE]
      · have hbw2 : b < wq.heap.size := by omega
        obtain ⟨ad, hA⟩ : ∃ ad, (if cap = 3 then some (⟨b, o, none⟩ : Addr) else some ⟨b, o + 3, none⟩) = some ad := by split <;> exact ⟨_, rfl⟩
        have HBm : Hid (BySl 0 wq.heap.size wq (.slice (some ad) M (cap - 3)) ((bs.take (3 + M)).drop 3)) := by
          have h := bySl_mid (E := 3 + M) HBy.out (by omega) (by rw [HL.out]; omega)
          rw [hA, show 3 + M - 3 = M by omega] at h
          exact h
        obtain ⟨body, hbody⟩ : ∃ body, (bs.take (3 + M)).drop 3 = body := ⟨_, rfl⟩
        rw [hbody] at HBm
        have hrd : Hid (R = (rdBody d (rdKids d) x0 body).map fun v => (v, 3 + M)) := by
          rw [Hid, ← HR.out, rd_eq, rd1, if_neg hS.out, HE.out, HL.out, if_neg hlE, HX0.out, hbody]
        have hbl : body.length = M := by rw [← hbody, List.length_drop, List.length_take_of_le (by rw [HL.out]; omega)]; omega
        have HBL := hid hbl
        have hcells : Hid (0 < M → ∃ b' o', ad = ⟨b', o', none⟩ ∧ b' < wq.heap.size ∧ ∀ i, i < M → wq.cell? ⟨b', o' + i, none⟩ = some (.int .u8 (body.getD i 0))) := by
          intro hp
          obtain ⟨_, _, e, _, _, _, _, _, h7⟩ := HBm.out
          simp only [Value.slice.injEq] at e
          obtain ⟨rfl, _, rfl⟩ := e
          obtain ⟨b', o', e, _, hb, hc⟩ := h7 (by intro e; rw [e] at hbl; simp at hbl; omega)
          rw [hbl] at hc
          exact ⟨b', o', by simpa using e, hb, hc⟩
        have hbytes : Hid (∀ x ∈ body, 0 ≤ x ∧ x ≤ 255) := by obtain ⟨_, _, _, _, _, _, _, h, _⟩ := HBm.out; exact h
        clear hbody hbl
        have hm3 : 3 + M - 3 = M := by omega
        have hdL : decide ((L : Int) < 3 + (M : Int)) = false := by simp; omega
        have hcap1 : cap ≤ 9223372036854775807 := h3
        go_upto_block 0 with fail
        simp only [hm3]
        clear hm3
        obtain ⟨W1, hW1⟩ : ∃ W1, W1 = wq.alloc (Obj.cells #[Value.int .i64 x0, Value.int .u64 0, Value.slice none 0 0, Value.slice none 0 0] 86) := ⟨_, rfl⟩
        have v0 : W1.cell? ⟨wq.heap.size, 0, none⟩ = some (.int .i64 x0) := by rw [hW1]; simp [go_sem]
        have v1 : W1.cell? ⟨wq.heap.size, 1, none⟩ = some (.int .u64 0) := by rw [hW1]; simp [go_sem]
        have v2 : W1.cell? ⟨wq.heap.size, 2, none⟩ = some (.slice none 0 0) := by rw [hW1]; simp [go_sem]
        have v3 : W1.cell? ⟨wq.heap.size, 3, none⟩ = some (.slice none 0 0) := by rw [hW1]; simp [go_sem]
        have vf : ∀ o, W1.frozen? ⟨wq.heap.size, o, none⟩ = false := by intro o; rw [hW1]; simp [go_sem]
        have HZ1 : Hid (W1.heap.size = wq.heap.size + 1) := by rw [Hid, hW1]; simp
        have HW1 : Hid (Below wq.heap.size wq W1) := by rw [Hid, hW1]; exact (Below.refl _ _).alloc (Nat.le_refl _) _
        have G0 : W1.cell? ⟨w.heap.size, 0, none⟩ = some (.int .i64 0) := by rw [hW1, World.cell?_alloc_past _ _ _ hz]; exact g0
        have G1 : W1.cell? ⟨w.heap.size, 1, none⟩ = some (.int .u64 0) := by rw [hW1, World.cell?_alloc_past _ _ _ hz]; exact g1
        have G2 : W1.cell? ⟨w.heap.size, 2, none⟩ = some (.slice none 0 0) := by rw [hW1, World.cell?_alloc_past _ _ _ hz]; exact g2
        have G3 : W1.cell? ⟨w.heap.size, 3, none⟩ = some (.slice none 0 0) := by rw [hW1, World.cell?_alloc_past _ _ _ hz]; exact g3
        have Gf : ∀ o, W1.frozen? ⟨w.heap.size, o, none⟩ = false := fun o => by rw [hW1, World.frozen?_alloc_past _ _ _ hz]; exact gf o
        rw [← hW1]
        clear hW1 g0 g1 g2 g3 gf k0
        have hnone : Hid (rdBody d (rdKids d) x0 body = none) → Hid (R = none) := fun h => by rw [Hid, hrd.out, h.out]; rfl
        have HNone := hid hnone
        clear hnone
        go_cut [5, 9, 10, 11, 12, 45, 75, 82] (fun _ _ _ _ _ _ _ _ wx => ∃ (t : Tr (d + 1)) (a a' : Option Addr) (l c l' c' : Nat), wx.cell? ⟨wq.heap.size, 0, none⟩ = some (.int .i64 t.hd.1) ∧ wx.cell? ⟨wq.heap.size, 1, none⟩ = some (.int .u64 t.hd.2.1) ∧ wx.cell? ⟨wq.heap.size, 2, none⟩ = some (.slice a l c) ∧ wx.cell? ⟨wq.heap.size, 3, none⟩ = some (.slice a' l' c') ∧
          Hid (rdBody d (rdKids d) x0 body = some t ∧ RepS (fun b => wq.heap.size + 1 ≤ b ∧ b < wx.heap.size) wx (d + 1) t (.slice a l c) (.slice a' l' c') ∧ Below wq.heap.size wq wx))
        case first =>
          by_cases h1 : x0 = 1
          · by_cases h8 : 8 < M
            · have HBn : Hid (rdBody d (rdKids d) x0 body = none) := by rw [Hid, rdBody, if_pos h1, if_pos (.inl (by rw [HBL.out]; exact h8))]
              have HRn := HNone.out HBn
              subst h1
              go_wp2_with fail
              obtain ⟨q0, q1, q2, q3⟩ := set4_read (u0 := .int .i64 0) (u1 := .int .u64 0) (u2 := .slice none 0 0) (u3 := .slice none 0 0) G0 G1 G2 G3
              refine bodyPost_ret (v := .tuple #[.agg #[.int .i64 0, .int .u64 0, .slice none 0 0, .slice none 0 0], .int .i64 0]) (by simp [results, Try.results84, go_sem, q0, q1, q2, q3]) rfl ⟨.inl ⟨HRn.out, rfl⟩, (HB.out.trans (HW1.out.mono (by omega))).trans (bset4 (Nat.le_refl _) _ _ _ _)⟩
            · have hq8 : decide ((8 : Int) < (M : Int)) = false := by simp; omega
              by_cases hM0 : M = 0
              · have hq0 : decide ((0 : Int) < (M : Int)) = false := by simp; omega
                have hbnil : body = [] := List.length_eq_zero_iff.1 (by rw [HBL.out]; exact hM0)
                have HBs : Hid (rdBody d (rdKids d) x0 body = some (Tr.mk 1 0 [] [])) := by rw [Hid, rdBody, if_pos h1, if_neg (by rw [hbnil]; simp), hbnil]; rfl
                clear hbnil
                subst h1
                go_wp2_with fail
                refine wp_loop_rounds 1 ?_
                rw [rounds_succ]
                go_wp2_with fail
                go_meet
                exact ⟨Tr.mk 1 0 [] [], _, _, _, _, _, _, v0, v1, v2, v3, HBs.out, ⟨Int.le_refl _, (by decide : (0 : Int) ≤ 18446744073709551615), BySlS.none _ _, KSlS.none _ _ _⟩, HW1.out⟩
              · obtain ⟨b', o', rfl, hb', hcb⟩ := hcells.out (by omega)
                have hq0 : decide ((0 : Int) < (M : Int)) = true := by simp; omega
                have e0 := hcb 0 (by omega)
                rw [Nat.add_zero] at e0
                have E0 : W1.cell? ⟨b', o', none⟩ = some (.int .u8 (body.getD 0 0)) := (HW1.out.cell (p := ⟨b', o', none⟩) hb').trans e0
                have hhead : Hid (body.head? = some (body.getD 0 0)) := by
                  rw [Hid]
                  cases hb : body with
                  | nil => have := HBL.out; rw [hb] at this; simp at this; omega
                  | cons y ys => simp
                have HCB := hid hcb
                clear hcb e0
                by_cases hy0 : body.getD 0 0 = 0
                · have HBn : Hid (rdBody d (rdKids d) x0 body = none) := by rw [Hid, rdBody, if_pos h1, if_pos (.inr (by rw [hhead.out, hy0]))]
                  have HRn := HNone.out HBn
                  rw [hy0] at E0
                  clear hy0
                  subst h1
                  go_wp2_with fail
                  obtain ⟨q0, q1, q2, q3⟩ := set4_read (u0 := .int .i64 0) (u1 := .int .u64 0) (u2 := .slice none 0 0) (u3 := .slice none 0 0) G0 G1 G2 G3
                  refine bodyPost_ret (v := .tuple #[.agg #[.int .i64 0, .int .u64 0, .slice none 0 0, .slice none 0 0], .int .i64 0]) (by simp [results, Try.results84, go_sem, q0, q1, q2, q3]) rfl ⟨.inl ⟨HRn.out, rfl⟩, (HB.out.trans (HW1.out.mono (by omega))).trans (bset4 (Nat.le_refl _) _ _ _ _)⟩
                · have HBs : Hid (rdBody d (rdKids d) x0 body = some (Tr.mk 1 (valB body) [] [])) := by rw [Hid, rdBody, if_pos h1, if_neg (by rw [HBL.out, hhead.out]; exact fun h => h.elim h8 (fun h => hy0 (Option.some.inj h)))]
                  have hyb : (body.getD 0 0 == 0) = false := by simpa using hy0
                  have Hy0 := hid hy0
                  clear hy0
                  generalize body.getD 0 0 = yy at E0 hyb
                  subst h1
                  go_wp2_with fail
                  go_loopw [9] (fun i wr => ∃ k : Nat, k ≤ M ∧ i = .int .i64 k ∧ wr.cell? ⟨wq.heap.size, 0, none⟩ = some (.int .i64 1) ∧ wr.cell? ⟨wq.heap.size, 1, none⟩ = some (.int .u64 (valB (body.take k))) ∧ wr.cell? ⟨wq.heap.size, 2, none⟩ = some (.slice none 0 0) ∧ wr.cell? ⟨wq.heap.size, 3, none⟩ = some (.slice none 0 0) ∧ (∀ o, wr.frozen? ⟨wq.heap.size, o, none⟩ = false) ∧ Hid (Below wq.heap.size wq wr)) (fun i _ => M - (intOf i).toNat)
                  case atStart => exact ⟨0, Nat.zero_le _, rfl, v0, by rw [v1]; simp [valB], v2, v3, vf, HW1.out⟩
                  case round =>
                    obtain ⟨k, hk, rfl, t0, t1, t2, t3, tf, HI⟩ := hrel
                    clear v0 v1 v2 v3 vf E0 hyb
                    by_cases hlt : k < M
                    · have hck := (HI.out.cell (p := ⟨b', o' + k, none⟩) hb').trans (HCB.out k hlt)
                      have hltb : k < body.length := by rw [HBL.out]; exact hlt
                      have hsn : Hid (valB (body.take (k + 1)) = valB (body.take k) * 256 + body.getD k 0) := by
                        rw [Hid, List.take_succ_eq_append_getElem hltb, valB_snoc]
                        simp [List.getElem?_eq_getElem hltb]
                      have hb0 : 0 ≤ body.getD k 0 ∧ body.getD k 0 ≤ 255 := by
                        have := hbytes.out (body[k]) (List.getElem_mem hltb)
                        simpa [List.getElem?_eq_getElem hltb] using this
                      have hv := valB_bd (body.take k) (fun x hx => hbytes.out x (List.mem_of_mem_take hx))
                      have hp := pow_le7 (body.take k).length (by rw [List.length_take_of_le (by omega)]; omega)
                      have hv2 : valB (body.take k) < 72057594037927936 := by omega
                      have hv1 := hv.1
                      clear hv hp hltb
                      generalize body.getD k 0 = y at hck hsn hb0
                      generalize valB (body.take k) = m at t1 hsn hv1 hv2
                      have hw1 : IntKind.u64.wrap (m * 256) = m * 256 := by rw [IntKind.wrap_u64]; omega
                      have hw2 : IntKind.u64.wrap y = y := by rw [IntKind.wrap_u64]; omega
                      have hw3 : IntKind.u64.wrap (m * 256 + y) = m * 256 + y := by rw [IntKind.wrap_u64]; omega
                      have hbne : b' ≠ wq.heap.size := by omega
                      go_wp2_with fail
                      go_region
                      all_goals go_wp2_with fail
                      all_goals
                        go_roundw
                        case rel => exact ⟨k + 1, by omega, by go_num, (cell_set_ne (by omega)).trans t0, by rw [hsn.out]; exact World.cell?_setCell_same _ _ _ t1, (cell_set_ne (by omega)).trans t2, (cell_set_ne (by omega)).trans t3, fun o => by rw [World.frozen?_drew, World.frozen?_setCell]; exact tf o, (HI.out.setCell (Nat.le_refl _) _).drew⟩
                        case measure => simp [intOf]; omega
                    · go_wp2_with fail
                      go_meet
                      have hkM : k = M := by omega
                      have hvb := valB_bd body hbytes.out
                      have hp8 := pow_le8 body.length (by rw [HBL.out]; omega)
                      rw [hkM, List.take_of_length_le (by rw [HBL.out]; omega)] at t1
                      exact ⟨Tr.mk 1 (valB body) [] [], _, _, _, _, _, _, t0, t1, t2, t3, HBs.out, ⟨hvb.1, by show valB body ≤ _; omega, BySlS.none _ _, KSlS.none _ _ _⟩, HI.out⟩
          · by_cases h2' : x0 = 2
            · have HBs : Hid (rdBody d (rdKids d) x0 body = some (Tr.mk 2 0 body [])) := by rw [Hid, rdBody, if_neg h1, if_pos h2']
              clear h1
              subst h2'
              obtain ⟨i0, hi, hz0, hz1, hz2⟩ := info_parts Try.info5
              have hnews : Hid (∀ j u, (body.map (Value.int .u8))[j]? = some u → W1.cell? (ad.add j) = some u) := by
                intro j u hj
                have hjn : j < body.length := by
                  have := (List.getElem?_eq_some_iff.1 hj).1
                  simpa using this
                obtain ⟨b', o', rfl, hb', hcb⟩ := hcells.out (by rw [HBL.out] at hjn; omega)
                rw [addr_plus, HW1.out.cell (p := ⟨b', o' + j, none⟩) hb', hcb j (by rw [HBL.out] at hjn; exact hjn)]
                simp only [List.getElem?_map, List.getElem?_eq_getElem hjn, Option.map_some, Option.some.injEq] at hj
                simp [List.getElem?_eq_getElem hjn, hj]
              have hone : Hid (∀ u ∈ body.map (Value.int .u8), u.oneCell' = true) := by intro u hu; obtain ⟨x, _, rfl⟩ := List.mem_map.1 hu; rfl
              have hnl : Hid ((body.map (Value.int .u8)).length = M * 1) := by rw [Hid, List.length_map, HBL.out]; omega
              go_wp2_with (at_builtin; go_must (refine wpList_append_own _ rfl _ _ 26 rfl W1.heap.size 5 i0 (.int .u8 0) 1 1 Try.underlying26 hi hz0 hz1 hz2 rfl (by decide) _ _ _ rfl (World.ownsRow_nil W1 W1.heap.size 5 1) ad M (cap - 3) (body.map (Value.int .u8)) rfl hnl.out hnews.out hone.out (by unfold maxLen; omega) (by omega) (Nat.le_refl _) ?_))
              intro v' w2 hown hgrow hnil
              have hs2 := hgrow.size
              replace hown : w2.ownsRow W1.heap.size 5 1 v' M (body.map (Value.int .u8)) := by simpa using hown
              obtain ⟨av, cv, rfl⟩ := ownsRow_form' hown
              have hbyl : Hid (BySlS (fun b => wq.heap.size + 1 ≤ b ∧ b < w2.heap.size) w2 (.slice av M cv) body) := by
                have K := BySl.own (base := W1.heap.size) (w := w2) (v := .slice av M cv) (bs := body) (by rw [HBL.out]; exact hown) (by rw [HBL.out]; omega) hbytes.out
                rw [HZ1.out] at K
                exact K.toS
              have u0 := hgrow.cell v0 (by simp [Value.ownBlock])
              have u1 := hgrow.cell v1 (by simp [Value.ownBlock])
              have u2 := hgrow.cell v2 (by simp [Value.ownBlock])
              have u3 := hgrow.cell v3 (by simp [Value.ownBlock])
              have hvW : wq.heap.size < W1.heap.size := by have := HZ1.out; omega
              have uf : ∀ o, w2.frozen? ⟨wq.heap.size, o, none⟩ = false := fun o => (hgrow.frozen_far ⟨wq.heap.size, o, none⟩ hvW (by simp [Value.ownBlock])).trans (vf o)
              have Hb2 : Hid (Below wq.heap.size wq w2) := HW1.out.grown hgrow (by omega) (by intro k e; simp [Value.ownBlock] at e)
              clear hown hgrow hnil v0 v1 v2 v3 vf G0 G1 G2 G3 Gf
              go_wp2_with fail
              go_meet
              refine ⟨Tr.mk 2 0 body [], _, _, _, _, _, _, (cell_set_ne (by omega)).trans u0, (cell_set_ne (by omega)).trans u1, World.cell?_setCell_same _ _ _ u2, (cell_set_ne (by omega)).trans u3, HBs.out, ⟨Int.le_refl _, (by decide : (0 : Int) ≤ 18446744073709551615), ?_, KSlS.none _ _ _⟩, Hb2.out.setCell (Nat.le_refl _) _⟩
              exact hbyl.out.agree (fun b hb => Below.heap_setCell _ _ _ _ (by have := hb.1; simp; omega)) (fun b hb => ⟨hb.1, by simp; exact hb.2⟩)
            · by_cases h3' : x0 = 3
              · cases d with
                | zero =>
                  have HBn : Hid (rdBody 0 (rdKids 0) x0 body = none) := by rw [Hid, rdBody, if_neg h1, if_neg h2', if_pos h3']; rfl
                  have HRn := HNone.out HBn
                  clear h1 h2'
                  subst h3'
                  go_wp2_with fail
                  obtain ⟨q0, q1, q2, q3⟩ := set4_read (u0 := .int .i64 0) (u1 := .int .u64 0) (u2 := .slice none 0 0) (u3 := .slice none 0 0) G0 G1 G2 G3
                  refine bodyPost_ret (v := .tuple #[.agg #[.int .i64 0, .int .u64 0, .slice none 0 0, .slice none 0 0], .int .i64 0]) (by simp [results, Try.results84, go_sem, q0, q1, q2, q3]) rfl ⟨.inl ⟨HRn.out, rfl⟩, (HB.out.trans (HW1.out.mono (by omega))).trans (bset4 (Nat.le_refl _) _ _ _ _)⟩
                | succ d' =>
                  have hrk := hid (hrec d' rfl)
                  obtain ⟨i0, hi, hz0, hz1, hz2⟩ := info_parts Try.info86
                  have HBk : Hid (rdBody (d' + 1) (rdKids (d' + 1)) x0 body = (rdKids (d' + 1) body).map fun ks => Tr.mk 3 0 [] ks) := by rw [Hid, rdBody, if_neg h1, if_neg h2', if_pos h3']
                  obtain ⟨K, hK⟩ : ∃ K, rdKids (d' + 1) body = K := ⟨_, rfl⟩
                  have hKl : rdList (rd d') M body = K := by rw [← hK, ← HBL.out]; rfl
                  have HKl := hid hKl
                  have HK := hid hK
                  clear h1 h2' hK hKl
                  subst h3'
                  have hdz : ((((d' + 1 : Nat)) : Int) == 0) = false := by simp; omega
                  go_wp2_with fail
                  go_loopg [10] M (fun k x wr => ∃ (i : Nat) (v : Value) (ts : List (Tr (d' + 1))), x = .int .i64 i ∧ i ≤ M ∧ M - i ≤ k ∧ k ≤ M ∧ wr.cell? ⟨wq.heap.size, 0, none⟩ = some (.int .i64 3) ∧ wr.cell? ⟨wq.heap.size, 1, none⟩ = some (.int .u64 0) ∧ wr.cell? ⟨wq.heap.size, 2, none⟩ = some (.slice none 0 0) ∧ wr.cell? ⟨wq.heap.size, 3, none⟩ = some v ∧ (∀ o, wr.frozen? ⟨wq.heap.size, o, none⟩ = false) ∧
                    Hid (BInv (fun _ => False) (wq.heap.size + 1) ts v wr ∧ Below wq.heap.size wq wr ∧ wq.heap.size + 1 ≤ wr.heap.size ∧ ts.length + k ≤ M ∧ (rdList (rd d') k (body.drop i)).map (ts ++ ·) = K))
                  case atStart => exact ⟨0, _, [], rfl, Nat.zero_le _, by omega, Nat.le_refl _, v0, v1, v2, v3, vf, BInv.nil _ _ _, HW1.out, by rw [HZ1.out]; exact Nat.le_refl _, by simp, by rw [List.drop_zero, HKl.out]; cases K <;> simp⟩
                  case round =>
                    obtain ⟨i, v, ts, rfl, hi0, hi1, hi2, t0, t1, t2, t3, tf, HI⟩ := hrel
                    clear v0 v1 v2 v3 vf G0 G1 G2 G3 Gf
                    have hws := HI.out.2.2.1
                    obtain ⟨av, cv, hv⟩ := HI.out.1.form
                    subst hv
                    by_cases hlt : i < M
                    · obtain ⟨b', o', rfl, hb', hcb⟩ := hcells.out (by omega)
                      have HCB := hid hcb
                      clear hcb
                      have hbsl : Hid (BySl 0 wr.heap.size wr (.slice (if cap - 3 = i then some ⟨b', o', none⟩ else some ⟨b', o' + i, none⟩) (M - i) (cap - 3 - i)) (body.drop i)) := by
                        have hq := HBm.out.agree (Agree.below HI.out.2.1) (Nat.le_refl _) (B' := wr.heap.size) (by omega)
                        rw [← HBL.out] at hq
                        have := bySl_rest hq i (by rw [HBL.out]; omega) rfl
                        rw [HBL.out] at this
                        exact this
                      have hcapM : M ≤ cap - 3 := by omega
                      have hne : Hid (body.drop i ≠ []) := by intro e; have := congrArg List.length e; simp [HBL.out] at this; omega
                      have hcI : (i : Int) ≤ (cap - 3 : Nat) := by omega
                      rw [if_neg (by omega)] at hbsl
                      go_wp2_with fail
                      refine (hrk.out _ (body.drop i) wr hbsl.out).mono ?_
                      rintro e w1 ⟨hres, hb1⟩
                      have Hb1 := hid hb1
                      have hs1 := hb1.size
                      have hvw : wq.heap.size < wr.heap.size := by omega
                      have U0 : w1.cell? ⟨wq.heap.size, 0, none⟩ = some (.int .i64 3) := (hb1.cell (p := ⟨wq.heap.size, 0, none⟩) hvw).trans t0
                      have U1 : w1.cell? ⟨wq.heap.size, 1, none⟩ = some (.int .u64 0) := (hb1.cell (p := ⟨wq.heap.size, 1, none⟩) hvw).trans t1
                      have U2 : w1.cell? ⟨wq.heap.size, 2, none⟩ = some (.slice none 0 0) := (hb1.cell (p := ⟨wq.heap.size, 2, none⟩) hvw).trans t2
                      have U3 : w1.cell? ⟨wq.heap.size, 3, none⟩ = some (.slice av ts.length cv) := (hb1.cell (p := ⟨wq.heap.size, 3, none⟩) hvw).trans t3
                      have Uf : ∀ o, w1.frozen? ⟨wq.heap.size, o, none⟩ = false := fun o => (hb1.frozen (p := ⟨wq.heap.size, o, none⟩) hvw).trans (tf o)
                      have hvw1 : wq.heap.size < w1.heap.size := by omega
                      have Hbq : Hid (Below wq.heap.size wq w1) := HI.out.2.1.trans (hb1.mono (by omega))
                      clear hb1 t0 t1 t2 t3 tf
                      obtain ⟨k', rfl⟩ : ∃ k', gk = k' + 1 := ⟨gk - 1, by omega⟩
                      rcases hres with ⟨hnone, rfl⟩ | ⟨t1', m, sb1, sk1, hsome, rfl, hr1⟩
                      · have HRn := HNone.out (by rw [Hid, HBk.out, HK.out, ← HI.out.2.2.2.2, rdList_fail hne.out hnone]; rfl)
                        obtain ⟨hz', g0, g1, g2, g3, gf, hbel⟩ := res_facts32 (HBel.out.trans (Hbq.out.mono (by omega)))
                        have HB2 := hid hbel
                        clear hbel hnone
                        go_wp2_with fail
                        obtain ⟨q0, q1, q2, q3⟩ := set4_read (u0 := .int .i64 0) (u1 := .int .u64 0) (u2 := .slice none 0 0) (u3 := .slice none 0 0) g0 g1 g2 g3
                        refine bodyPost_ret (v := .tuple #[.agg #[.int .i64 0, .int .u64 0, .slice none 0 0, .slice none 0 0], .int .i64 0]) (by simp [results, Try.results84, go_sem, q0, q1, q2, q3, hz']) rfl ⟨.inl ⟨HRn.out, rfl⟩, (HB2.out.trans (bset4 (Nat.le_refl _) _ _ _ _)).alloc (by simp; omega) _⟩
                      · have hm := rd_pos hsome
                        have hml : m ≤ M - i := by have := hm.2; rw [List.length_drop, HBL.out] at this; exact this
                        have HSm := hid hsome
                        obtain ⟨a3, l3, p3, a4, l4, p4, rfl, rfl⟩ := hr1.sl
                        have Hr1 := hid hr1
                        have hmz : ((m : Int) == 0) = false := by simp; omega
                        clear hsome hr1
                        have inv1 : BInv (fun _ => False) (wq.heap.size + 1) ts (.slice av ts.length cv) ((w1.alloc (Obj.cells #[Value.int .i64 t1'.hd.1, Value.int .u64 t1'.hd.2.1, Value.slice a3 l3 p3, Value.slice a4 l4 p4] 86)).alloc (Obj.cells #[Value.int .i64 t1'.hd.1, Value.int .u64 t1'.hd.2.1, Value.slice a3 l3 p3, Value.slice a4 l4 p4] 86)) :=
                          HI.out.1.agree (fun _ h => h.elim) ((((Agree.below Hb1.out).alloc hs1 _).alloc (by simp; omega) _)) (by simp; omega)
                        have hr2 : Hid (RepS (fun b => False ∨ (wr.heap.size ≤ b ∧ b < w1.heap.size)) ((w1.alloc (Obj.cells #[Value.int .i64 t1'.hd.1, Value.int .u64 t1'.hd.2.1, Value.slice a3 l3 p3, Value.slice a4 l4 p4] 86)).alloc (Obj.cells #[Value.int .i64 t1'.hd.1, Value.int .u64 t1'.hd.2.1, Value.slice a3 l3 p3, Value.slice a4 l4 p4] 86)) (d' + 1) t1' (.slice a3 l3 p3) (.slice a4 l4 p4)) :=
                          Hr1.out.agree (fun b hb => (Below.heap_alloc _ _ _ (by simp; have := hb.2; omega)).trans (Below.heap_alloc _ _ _ hb.2)) (fun b hb => .inr hb)
                        have hlt0 := hid HI.out.1.lt
                        obtain ⟨ps, hl, hown, hkid⟩ := inv1
                        have HO := hid hown
                        have HKid := hid hkid
                        have HLn := hid hl
                        clear hown hkid hl
                        have htl := HI.out.2.2.2.1
                        have hnews := hid (new4 (w1.alloc (Obj.cells #[Value.int .i64 t1'.hd.1, Value.int .u64 t1'.hd.2.1, Value.slice a3 l3 p3, Value.slice a4 l4 p4] 86)) t1' (.slice a3 l3 p3) (.slice a4 l4 p4))
                        have hone := hid (one4 t1' a3 l3 p3 a4 l4 p4)
                        go_wp2_with (at_builtin; go_must (refine wpList_append_lies _ rfl _ _ 84 rfl (wq.heap.size + 1) 86 i0 _ 4 64 Try.underlying84 hi hz0 hz1 hz2 rfl (by decide) _ ts.length (cellsK ts ps) rfl HO.out ⟨w1.heap.size + 1, 0, none⟩ 1 1 (cell4 t1' (.slice a3 l3 p3, .slice a4 l4 p4)) rfl rfl (by simpa using hnews.out) hone.out (by omega) (by unfold maxLen; omega) (by omega) (by simp; omega) (w1.heap.size + 1 + 1) (by simp) ?_))
                        intro g' cap' w2 hown2 hgrow2 hat2 hlt2
                        have hs2 := hgrow2.size
                        simp at hs2
                        have hneb : some wq.heap.size ≠ (Value.slice av ts.length cv).ownBlock := fun e => by have := (hlt0.out _ e.symm).1; omega
                        have J0 : w2.cell? ⟨wq.heap.size, 0, none⟩ = some (.int .i64 3) := (hgrow2.cell_far ⟨wq.heap.size, 0, none⟩ (by simp; omega) hneb).trans ((World.cell?_alloc_past _ _ _ (by simp; omega)).trans ((World.cell?_alloc_past _ _ _ hvw1).trans U0))
                        have J1 : w2.cell? ⟨wq.heap.size, 1, none⟩ = some (.int .u64 0) := (hgrow2.cell_far ⟨wq.heap.size, 1, none⟩ (by simp; omega) hneb).trans ((World.cell?_alloc_past _ _ _ (by simp; omega)).trans ((World.cell?_alloc_past _ _ _ hvw1).trans U1))
                        have J2 : w2.cell? ⟨wq.heap.size, 2, none⟩ = some (.slice none 0 0) := (hgrow2.cell_far ⟨wq.heap.size, 2, none⟩ (by simp; omega) hneb).trans ((World.cell?_alloc_past _ _ _ (by simp; omega)).trans ((World.cell?_alloc_past _ _ _ hvw1).trans U2))
                        have J3 : w2.cell? ⟨wq.heap.size, 3, none⟩ = some (.slice av ts.length cv) := (hgrow2.cell_far ⟨wq.heap.size, 3, none⟩ (by simp; omega) hneb).trans ((World.cell?_alloc_past _ _ _ (by simp; omega)).trans ((World.cell?_alloc_past _ _ _ hvw1).trans U3))
                        have Jf : ∀ o, w2.frozen? ⟨wq.heap.size, o, none⟩ = false := fun o => (hgrow2.frozen_far ⟨wq.heap.size, o, none⟩ (by simp; omega) hneb).trans ((World.frozen?_alloc_past _ _ _ (by simp; omega)).trans ((World.frozen?_alloc_past _ _ _ hvw1).trans (Uf o)))
                        have inv2 : Hid (BInv (fun _ => False) (wq.heap.size + 1) (ts ++ [t1']) (.slice (some ⟨g', 0, none⟩) (ts.length + 1) cap') w2) :=
                          BInv.push (g := g') (cap := cap') HLn.out (fun _ h => h.elim) (by simp; omega) HKid.out hr2.out hws (by simp; omega) (fun r e => ⟨(hlt0.out r e).1, .inl (hlt0.out r e).2⟩) hown2 hgrow2 (by simpa using hat2)
                        have bel2 : Hid (Below wq.heap.size wq w2) := ((Hbq.out.alloc (by omega) _).alloc (by simp; omega) _).grown hgrow2 (by simp; omega) (fun r e => by have := (hlt0.out r e).1; omega)
                        have hrel' : Hid ((rdList (rd d') k' (body.drop (i + m))).map (ts ++ [t1'] ++ ·) = K) := by
                          have e := HI.out.2.2.2.2
                          rw [rdList_step hne.out HSm.out, Option.map_map, List.drop_drop] at e
                          rw [Hid, ← e]
                          congr 1
                          funext x
                          simp
                        clear hown2 hgrow2 hat2 U0 U1 U2 U3 Uf
                        go_wp2_with fail
                        go_roundg k'
                        case measure => omega
                        case rel => exact ⟨i + m, .slice (some ⟨g', 0, none⟩) (ts.length + 1) cap', ts ++ [t1'], by go_num, by omega, by omega, by omega, (cell_set_ne (by omega)).trans J0, (cell_set_ne (by omega)).trans J1, (cell_set_ne (by omega)).trans J2, World.cell?_setCell_same _ _ _ J3, fun o => by rw [World.frozen?_setCell]; exact Jf o, inv2.out.agree (fun _ h => h.elim) ((Agree.refl _ _ _).setCell (.inl (by simp)) _) (by simp), bel2.out.setCell (Nat.le_refl _) _, by simp; omega, by simp; omega, hrel'.out⟩
                    · go_wp2_with fail
                      go_meet
                      have hts := HI.out.1.done (by have := HI.out.2.2.2.1; omega)
                      have hKs : K = some ts := by
                        rw [← HI.out.2.2.2.2, List.drop_of_length_le (by rw [HBL.out]; omega)]
                        cases gk <;> simp [rdList]
                      refine ⟨Tr.mk 3 0 [] ts, _, _, _, _, _, _, t0, t1, t2, t3, ?_, ⟨Int.le_refl _, (by decide : (0 : Int) ≤ 18446744073709551615), BySlS.none _ _, ?_⟩, HI.out.2.1⟩
                      · rw [HBk.out, HK.out, hKs]; rfl
                      · exact hts.agree (fun _ _ _ r => r.agree (fun _ _ => rfl) (fun b hb => hb.elim (fun h => h.elim) id)) (fun _ _ => rfl) (fun b hb => hb.elim (fun h => h.elim) id)
              · have HBn : Hid (rdBody d (rdKids d) x0 body = none) := by rw [Hid, rdBody, if_neg h1, if_neg h2', if_neg h3']
                have HRn := HNone.out HBn
                go_wp2_with fail
                obtain ⟨q0, q1, q2, q3⟩ := set4_read (u0 := .int .i64 0) (u1 := .int .u64 0) (u2 := .slice none 0 0) (u3 := .slice none 0 0) G0 G1 G2 G3
                refine bodyPost_ret (v := .tuple #[.agg #[.int .i64 0, .int .u64 0, .slice none 0 0, .slice none 0 0], .int .i64 0]) (by simp [results, Try.results84, go_sem, q0, q1, q2, q3]) rfl ⟨.inl ⟨HRn.out, rfl⟩, (HB.out.trans (HW1.out.mono (by omega))).trans (bset4 (Nat.le_refl _) _ _ _ _)⟩
        case rest =>
          obtain ⟨t, a, a', l, c, l', c', t0, t1, t2, t3, HX⟩ := hcut
          clear v0 v1 v2 v3 vf G0 G1 G2 G3 Gf
          have hzq := hz
          obtain ⟨hz', g0, g1, g2, g3, gf, hbel⟩ := res_facts32 (HBel.out.trans (HX.out.2.2.mono (by omega)))
          have HB2 := hid hbel
          clear hbel
          go_wp2_with fail
          obtain ⟨q0, q1, q2, q3⟩ := set4_read (u0 := .int .i64 t.hd.1) (u1 := .int .u64 t.hd.2.1) (u2 := .slice a l c) (u3 := .slice a' l' c') g0 g1 g2 g3
          have hAg : AgreeS (fun b => wq.heap.size + 1 ≤ b ∧ b < wc.heap.size) wc ((((wc.setCell ⟨w.heap.size, 0, none⟩ (.int .i64 t.hd.1)).setCell ⟨w.heap.size, 1, none⟩ (.int .u64 t.hd.2.1)).setCell ⟨w.heap.size, 2, none⟩ (.slice a l c)).setCell ⟨w.heap.size, 3, none⟩ (.slice a' l' c')) := fun b hb => by
            have hne : b ≠ w.heap.size := by have := hb.1; omega
            rw [Below.heap_setCell _ _ _ _ hne, Below.heap_setCell _ _ _ _ hne, Below.heap_setCell _ _ _ _ hne, Below.heap_setCell _ _ _ _ hne]
          refine bodyPost_ret (v := .tuple #[.agg #[.int .i64 t.hd.1, .int .u64 t.hd.2.1, .slice a l c, .slice a' l' c'], .int .i64 (3 + (M : Int))]) (by simp [results, Try.results84, go_sem, q0, q1, q2, q3]) rfl ⟨.inr ?_, HB2.out.trans (bset4 (Nat.le_refl _) _ _ _ _)⟩
          have hfin : R = some (t, 3 + M) := by rw [hrd.out, HX.out.1]; rfl
          have hrep := HX.out.2.1.agree hAg (S' := fun b => w.heap.size ≤ b ∧ b < ((((wc.setCell ⟨w.heap.size, 0, none⟩ (.int .i64 t.hd.1)).setCell ⟨w.heap.size, 1, none⟩ (.int .u64 t.hd.2.1)).setCell ⟨w.heap.size, 2, none⟩ (.slice a l c)).setCell ⟨w.heap.size, 3, none⟩ (.slice a' l' c')).heap.size) (fun b hb => ⟨by have := hb.1; omega, by simp; exact hb.2⟩)
          exact ⟨t, 3 + M, .slice a l c, .slice a' l' c', hfin, by rw [show ((3 + M : Nat) : Int) = 3 + (M : Int) by omega], hrep⟩

theorem rreadOk : ∀ d, d ≤ 8 → RReadOk d
  | 0, _ => rread_of (by omega) (fun _ e => by omega)
  | d + 1, h => rread_of h (fun d' e => by have : d = d' := by omega
                                           subst this
                                           exact rreadOk d (by omega))

end Go.Proofs.Ytenfahecnkdhaaa.Tlv
end

section
/-
  What the writer's method number of tlv lays.
-/
namespace Go.Proofs.Ytenfahecnkdhaaa.Tlv
open Go.RowKit
attribute [local go_sem ↓] Go.wp_at_zero Go.wp_at_succ

/-- The writer at block pb has laid the bytes xs, in a row of its own from block B on. -/
def WInv (B pb : Nat) (xs : List Int) (w : World) : Prop :=
  ∃ v, w.cell? ⟨pb, 0, none⟩ = some v ∧ w.frozen? ⟨pb, 0, none⟩ = false ∧ B ≤ pb ∧ w.ownsRow B 5 1 v xs.length (xs.map (Value.int .u8)) ∧ v.ownBlock ≠ some pb

theorem ownsRow_form {w : World} {base n e size : Nat} {v : Value} {xs : List Value} (h : w.ownsRow base e size v n xs) : ∃ a c, v = .slice a n c := by
  rcases h.2 with ⟨rfl, h0⟩ | ⟨g, cap, cur, rfl, _⟩
  · exact ⟨_, _, by rw [h0]⟩
  · exact ⟨_, _, rfl⟩

theorem ownsRow_set_ne {w : World} {base e size n : Nat} {v : Value} {xs : List Value} (h : w.ownsRow base e size v n xs) {p : Addr} (hp : v.ownBlock ≠ some p.block) (u : Value) : (w.setCell p u).ownsRow base e size v n xs := by
  obtain ⟨h1, h2⟩ := h
  refine ⟨h1, ?_⟩
  rcases h2 with h2 | ⟨g, cap, cur, rfl, hg, hh, r⟩
  · exact Or.inl h2
  · exact Or.inr ⟨g, cap, cur, rfl, hg, by rw [Below.heap_setCell _ _ _ _ (by intro e; exact hp (by simp [Value.ownBlock, e]))]; exact hh, r⟩

/-- More bytes, behind the append that lays them and the store of the new slice into the writer. -/
theorem WInv.push {B pb g cap H : Nat} {ys news : List Int} {v : Value} {w2 : World} (hown : w2.ownsRow B 5 1 (.slice (some ⟨g, 0, none⟩) (ys.length + news.length) cap) (ys.length + news.length) (ys.map (Value.int .u8) ++ news.map (Value.int .u8)))
    (hpb : B ≤ pb) (hpH : pb < H) (hne : v.ownBlock ≠ some pb) (c2 : w2.cell? ⟨pb, 0, none⟩ = some v) (f2 : w2.frozen? ⟨pb, 0, none⟩ = false) (hat : v.ownBlock = some g ∨ g = H) :
    WInv B pb (ys ++ news) (w2.setCell ⟨pb, 0, none⟩ (.slice (some ⟨g, 0, none⟩) (ys.length + news.length) cap)) := by
  have hg : g ≠ pb := by
    rintro rfl
    rcases hat with h | h
    · exact hne h
    · omega
  have hv : (Value.slice (some ⟨g, 0, none⟩) (ys.length + news.length) cap).ownBlock ≠ some pb := by simpa [Value.ownBlock] using hg
  refine ⟨_, World.cell?_setCell_same _ _ _ c2, by rw [World.frozen?_setCell]; exact f2, hpb, ?_, hv⟩
  rw [List.length_append, List.map_append]
  exact ownsRow_set_ne hown hv _

/-- One byte more. -/
theorem byte_new (w : World) (x : Int) : ∀ j u, [Value.int IntKind.u8 x][j]? = some u → (w.alloc (.cells #[.int .u8 x] 5)).cell? ((⟨w.heap.size, 0, none⟩ : Addr).add j) = some u :=
  World.news_of_block (cs := #[Value.int .u8 x]) (t := 5) (fr := (0, 0)) (heap_alloc_new _ _)

theorem shr_at (x : Int) (m : Nat) (h0 : 0 ≤ x) (hm : m ≤ 8) : ∃ y, y = x / 256 ^ m ∧ 0 ≤ y ∧ Op.shift .shr .u64 x .i64 (IntKind.i64.wrap (8 * (m : Int))) = pure (.int .u64 y) := by
  refine ⟨_, rfl, Int.ediv_nonneg h0 (Int.le_of_lt (Int.pow_pos (by omega))), ?_⟩
  have e : IntKind.i64.wrap (8 * (m : Int)) = 8 * m := by rw [IntKind.wrap_i64]; omega
  rw [e, shift_shr .u64 .i64 x (8 * (m : Int)) (by omega) (by simp [IntKind.bits]; omega)]
  have e2 : (8 * (m : Int)).toNat = 8 * m := by omega
  rw [e2, Int.pow_mul]
  rfl

set_option maxHeartbeats 1000000 in
set_option maxRecDepth 100000 in
theorem number_put (B pb : Nat) (xs : List Int) (x : Int) (w : World) (h : WInv B pb xs w) (h0 : 0 ≤ x) (h1 : x ≤ 18446744073709551615) (hl : xs.length ≤ 100000) :
    Calls Try.prog 89 #[.pointer (some ⟨pb, 0, none⟩), .int .u64 x] w fun e w' => e = .returned (.tuple #[]) ∧ WInv B pb (xs ++ numB (nsz x).toNat x) w' ∧ Below B w w' := by
  have hb := nsz_bd x
  have H := hid h
  clear h
  obtain ⟨i0, hi, hz0, hz1, hz2⟩ := info_parts Try.info5
  go_enter Try.func89, Try.ntmps89
  go_wp2_with fail
  refine (numberSize_any _ _ h0 h1).mono ?_
  rintro e w1 ⟨rfl, hw1⟩
  rw [hw1]
  clear hw1 w1
  obtain ⟨N, hN⟩ := Int.eq_ofNat_of_zero_le hb.1
  rw [hN] at hb ⊢
  have HN := hid hN
  clear hN
  go_wp2_with fail
  go_loopw [4] (fun i wr => ∃ (k : Nat) (ys : List Int), k ≤ N ∧ i = .int .i64 ((k : Int) - 1) ∧ Hid (WInv B pb ys wr ∧ Below B w wr ∧ ys ++ numB k x = xs ++ numB N x)) (fun i _ => (intOf i + 1).toNat)
  case atStart => exact ⟨N, xs, Nat.le_refl _, rfl, H.out, Below.refl _ _, rfl⟩
  case round =>
    obtain ⟨k, ys, hk, rfl, HI⟩ := hrel
    cases k with
    | zero =>
      go_wp2_with fail
      go_end0
      refine ⟨rfl, ?_, HI.out.2.1⟩
      have e : ys = xs ++ numB N x := by have := HI.out.2.2; simpa [numB] using this
      rw [HN.out, Int.toNat_natCast, ← e]
      exact HI.out.1
    | succ m =>
      obtain ⟨v, c0, f0, hpb, hown, hne⟩ := HI.out.1
      obtain ⟨a, c, rfl⟩ := ownsRow_form hown
      have HO := hid hown
      have HNE := hid hne
      have hyl : ys.length ≤ 100008 := by have := congrArg List.length HI.out.2.2; simp [numB_length] at this; omega
      have hm : (((m + 1 : Nat) : Int) - 1) = m := by omega
      rw [hm]
      clear hown hne
      have hpz : pb < wr.heap.size := World.block_lt_of_cell? wr _ c0
      go_wp2_with fail
      obtain ⟨y, hy, hy0, hsh⟩ : ∃ y, y = x / 256 ^ m ∧ 0 ≤ y ∧ Op.shift .shr .u64 x .i64 (IntKind.i64.wrap (8 * (m : Int))) = pure (.int .u64 y) := shr_at x m h0 (by omega)
      have HY := hid hy
      clear hy
      have HO2 : Hid ((wr.alloc (.cells #[.int .u8 (IntKind.u8.wrap y)] 5)).drew.ownsRow B 5 1 (.slice a ys.length c) ys.length (ys.map (Value.int .u8))) := HO.out.alloc _
      have hnews := hid (byte_new wr (IntKind.u8.wrap y))
      have hone : Hid (∀ u ∈ [Value.int IntKind.u8 (IntKind.u8.wrap y)], u.oneCell' = true) := by intro u hu; simp at hu; subst hu; rfl
      have hB := HI.out.2.1.size
      have hBp : B ≤ wr.heap.size + 1 := by omega
      go_region_law (refine step_append_lies _ (by rfl) (.tmp 16) (.tmp 22) 26 (by rfl) B 5 i0 (.int .u8 0) 1 1 Try.underlying26 hi hz0 hz1 hz2 rfl (by omega) (.slice a ys.length c) ys.length (ys.map (Value.int .u8)) (by simp [Act.eval]) HO2.out ⟨wr.heap.size, 0, none⟩ 1 1 [.int .u8 (IntKind.u8.wrap y)] (by simp [Act.eval]) rfl hnews.out hone.out (by omega) (by unfold maxLen; omega) (by omega) (by simp; exact hBp) (wr.heap.size + 1) (by simp) ?_; intro g cap w2 hown2 hgrow2 hat2 hlt2; have c2 : w2.cell? ⟨pb, 0, none⟩ = some (.slice a ys.length c) := (hgrow2.cell_far ⟨pb, 0, none⟩ (by simp; omega) (fun e => HNE.out e.symm)).trans ((World.cell?_alloc_past _ _ _ hpz).trans c0); have f2 : w2.frozen? ⟨pb, 0, none⟩ = false := (hgrow2.frozen_far ⟨pb, 0, none⟩ (by simp; omega) (fun e => HNE.out e.symm)).trans ((World.frozen?_alloc_past _ _ _ hpz).trans f0); have HO3 := hid hown2; have HG := hid hgrow2; have HAT := hid hat2; clear hown2 hgrow2 hat2)
      all_goals go_wp2_with fail
      all_goals
        refine ⟨⟨m, ys ++ [IntKind.u8.wrap y], by omega, rfl, ?_, ?_, ?_⟩, by simp [intOf]⟩
        · exact WInv.push (v := .slice a ys.length c) (H := wr.heap.size + 1) (news := [IntKind.u8.wrap y]) (by simpa using HO3.out) hpb (by omega) HNE.out c2 f2 HAT.out
        · exact (((HI.out.2.1.alloc (by omega) _).drew).grown HG.out (by simp; omega) (fun r e => (HO.out.lt r e).1)).setCell hpb _
        · rw [← HI.out.2.2, List.append_assoc, IntKind.wrap_u8, HY.out]
          rfl

end Go.Proofs.Ytenfahecnkdhaaa.Tlv
end

section
/-
  What the writer's method put of tlv lays, and each.
-/
namespace Go.Proofs.Ytenfahecnkdhaaa.Tlv
open Go.RowKit
attribute [local go_sem ↓] Go.wp_at_zero Go.wp_at_succ

/-- What put does with a tree that is nested at most n deep. -/
def PutOk (n : Nat) : Prop := ∀ (t : Tr n) (sb sk : Value) (B pb : Nat) (xs : List Int) (room : Int) (w : World), Rep 0 B w n t sb sk → Rt n t room → room ≤ 65535 → WInv B pb xs w → xs.length + (formOf n t).length ≤ 70000 →
  Calls Try.prog 79 #[.pointer (some ⟨pb, 0, none⟩), .agg #[.int .i64 t.hd.1, .int .u64 t.hd.2.1, sb, sk]] w fun e w' => e = .returned (.tuple #[]) ∧ WInv B pb (xs ++ formOf n t) w' ∧ Below B w w'

theorem cell_apart {w : World} {p : Addr} {u : Value} {q : Addr} (h : q.block ≠ p.block) : (w.setCell p u).cell? q = w.cell? q := World.cell?_of_block (w := w) (Below.heap_setCell _ _ _ _ h)

theorem addr_add (b o j : Nat) : (⟨b, o, none⟩ : Addr).add j = ⟨b, o + j, none⟩ := by unfold Addr.add; split <;> simp_all

theorem WInv.agree {B pb : Nat} {xs : List Int} {w w' : World} (h : WInv B pb xs w) (hA : Agree B w.heap.size w w') : WInv B pb xs w' := by
  obtain ⟨v, c0, f0, hpb, hown, hne⟩ := h
  have hp : pb < w.heap.size := World.block_lt_of_cell? w _ c0
  exact ⟨v, (hA.cell (p := ⟨pb, 0, none⟩) hpb hp).trans c0, (World.frozen?_of_block (w := w) (a := ⟨pb, 0, none⟩) (hA pb hpb hp)).trans f0, hpb, ownsRow_agree hown hA, hne⟩

theorem WInv.lt {B pb : Nat} {xs : List Int} {w : World} (h : WInv B pb xs w) : B < w.heap.size := by
  obtain ⟨v, c0, f0, hpb, hown, hne⟩ := h
  have hp : pb < w.heap.size := World.block_lt_of_cell? w _ c0
  omega

set_option maxHeartbeats 1000000 in
set_option maxRecDepth 100000 in
theorem each_any {n : Nat} (hn : PutOk n) (ks : List (Tr n)) (v : Value) (B pb : Nat) (xs : List Int) (w : World) (h : KSl 0 B w (Rep 0 B w n) v ks) (hk : ∀ k ∈ ks, ∃ r, r ≤ 65535 ∧ Rt n k r) (hw : WInv B pb xs w)
    (hl : xs.length + ((ks.map (formOf n)).flatten).length ≤ 70000) :
    Calls Try.prog 90 #[v, .func (.func 79) #[.pointer (some ⟨pb, 0, none⟩)] #[]] w fun e w' => e = .returned (.tuple #[]) ∧ WInv B pb (xs ++ (ks.map (formOf n)).flatten) w' ∧ Below B w w' := by
  obtain ⟨a, cap, rfl, h2, h3, h4, h5, h7⟩ := h
  have A := hid h7
  have HW := hid hw
  have HR := hid hk
  have HLn := hid hl
  clear h7 h4 hw hk hl
  go_enter Try.func90, Try.ntmps90
  go_wp2_with fail
  go_loopw [8] (fun i wr => ∃ (k : Nat) (ys : List Int), k ≤ ks.length ∧ i = .int .i64 k ∧ Hid (WInv B pb ys wr ∧ Below B w wr ∧ ys ++ ((ks.drop k).map (formOf n)).flatten = xs ++ (ks.map (formOf n)).flatten)) (fun i _ => ks.length - (intOf i).toNat)
  case atStart => exact ⟨0, xs, Nat.zero_le _, rfl, HW.out, Below.refl _ _, rfl⟩
  case round =>
    obtain ⟨k, ys, hk, rfl, HI⟩ := hrel
    by_cases hlt : k < ks.length
    · obtain ⟨b, o, rfl, _, hbs, hc⟩ := A.out (by intro e; subst e; simp at hlt)
      obtain ⟨sb, sk, c0, c1, c2, c3, hrep⟩ := hc k ks[k] (List.getElem?_eq_getElem hlt)
      clear hc
      obtain ⟨a1, l1, p1, a2, l2, p2, rfl, rfl⟩ := hrep.sl
      have hR := hid hrep
      clear hrep
      have hbel := hid HI.out.2.1
      have d0 := (hbel.out.cell (p := ⟨b, o + k * 4, none⟩) hbs).trans c0
      have d1 := (hbel.out.cell (p := ⟨b, o + k * 4 + 1, none⟩) hbs).trans c1
      have d2 := (hbel.out.cell (p := ⟨b, o + k * 4 + 2, none⟩) hbs).trans c2
      have d3 := (hbel.out.cell (p := ⟨b, o + k * 4 + 3, none⟩) hbs).trans c3
      clear c0 c1 c2 c3
      have hdrop : Hid (ks.drop k = ks[k] :: ks.drop (k + 1)) := List.drop_eq_getElem_cons hlt
      have hmem : Hid (∃ r, r ≤ 65535 ∧ Rt n ks[k] r) := HR.out _ (List.getElem_mem hlt)
      generalize ks[k] = t at *
      have hBz := HI.out.1.lt
      go_wp2_with fail
      obtain ⟨r, hr0, hr1⟩ := hmem.out
      have hlen : ys.length + (formOf n t).length ≤ 70000 := by
        have := congrArg List.length HI.out.2.2
        rw [hdrop.out] at this
        simp only [List.length_append, List.map_cons, List.flatten_cons] at this
        have := HLn.out
        omega
      refine (hn t _ _ B pb ys r _ (hR.out.agree ((Agree.below hbel.out).alloc (by omega) _) (Nat.le_refl _) (Nat.le_refl _)) hr1 hr0 (HI.out.1.agree ((Agree.refl _ _ _).alloc (Nat.le_refl _) _)) hlen).mono ?_
      rintro e w1 ⟨rfl, hw1, hb1⟩
      have HW1 := hid hw1
      have HB1 : Hid (Below B w w1) := (hbel.out.alloc (by omega) _).trans hb1
      clear hw1 hb1
      go_wp2_with fail
      go_roundw
      case rel => exact ⟨k + 1, ys ++ formOf n t, by omega, by go_num, HW1.out, HB1.out, by rw [← HI.out.2.2, hdrop.out]; simp⟩
      case measure => simp [intOf]; omega
    · go_wp2_with fail
      go_end0
      refine ⟨rfl, ?_, HI.out.2.1⟩
      have e : ys = xs ++ (ks.map (formOf n)).flatten := by have := HI.out.2.2; rwa [List.drop_of_length_le (by omega), List.map_nil, List.flatten_nil, List.append_nil] at this
      rw [← e]
      exact HI.out.1

theorem bodyOf_1 {n : Nat} {t : Tr (n + 1)} (h : t.hd.1 = 1) : bodyOf (n + 1) t = numB (nsz t.hd.2.1).toNat t.hd.2.1 := by
  simp only [bodyOf]
  rw [if_pos h]

theorem bodyOf_2 {n : Nat} {t : Tr (n + 1)} (h : t.hd.1 = 2) : bodyOf (n + 1) t = t.hd.2.2 := by
  simp only [bodyOf]
  rw [if_neg (by omega), if_pos h]

theorem set_two (tag h l : Int) (body xs : List Int) : (((xs ++ [tag, 0, 0] ++ body).map (Value.int .u8)).set (xs.length + 1) (.int .u8 h)).set (xs.length + 2) (.int .u8 l) = (xs ++ tag :: h :: l :: body).map (Value.int .u8) := by
  cases xs <;> simp

set_option maxHeartbeats 2000000 in
set_option maxRecDepth 100000 in
theorem put_any : ∀ n, PutOk n
  | 0 => fun t => by cases t
  | n + 1 => by
    intro t sb sk B pb xs room w hrep hrt hroom hw hlen
    have ih := put_any n
    obtain ⟨hn0, hn1, hby, hks⟩ := hrep
    have HB := hid hby
    have HK := hid hks
    obtain ⟨ab, cb, rfl, hrb⟩ := hby
    obtain ⟨ak, ck, rfl, hrk⟩ := hks
    clear hrb hrk
    have hfacts := hid hrt.facts
    have HF : Hid (formOf (n + 1) t = t.hd.1 :: ((bodyOf (n + 1) t).length / 256 : Int) :: ((bodyOf (n + 1) t).length % 256 : Int) :: bodyOf (n + 1) t) := rfl
    have HLn := hid hlen
    have HW := hid hw
    obtain ⟨v, c0, f0, hpb, hown, hne⟩ := hw
    obtain ⟨a, c, rfl⟩ := ownsRow_form hown
    have HO := hid hown
    have HNE := hid hne
    have hpz : pb < w.heap.size := World.block_lt_of_cell? w _ c0
    clear hrt hlen hown hne
    obtain ⟨i0, hi, hz0, hz1, hz2⟩ := info_parts Try.info5
    have hT1 := hid (rfl : t.kd = t.kd)
    generalize hk1 : t.kd = ks at *
    generalize hk2 : t.hd.2.2 = bs at *
    generalize hk3 : t.hd.2.1 = num at *
    generalize hk4 : t.hd.1 = tag at *
    have HT1 := hid hk1
    have HT2 := hid hk2
    have HT3 := hid hk3
    have HT4 := hid hk4
    clear hk1 hk2 hk3 hk4 hT1
    go_enter Try.func79, Try.ntmps79
    go_upto_region 2 with fail
    go_cut [] (fun wx => wx.cell? ⟨w.heap.size, 0, none⟩ = some (.int .i64 tag) ∧ wx.cell? ⟨w.heap.size, 1, none⟩ = some (.int .u64 num) ∧ wx.cell? ⟨w.heap.size, 2, none⟩ = some (.slice ab bs.length cb) ∧
      wx.cell? ⟨w.heap.size, 3, none⟩ = some (.slice ak ks.length ck) ∧ w.heap.size < wx.heap.size ∧ Hid (WInv B pb (xs ++ [tag, 0, 0]) wx ∧ Below B w wx))
    case first =>
      have hw3 : Hid (IntKind.u8.wrap tag = tag) := by
        have := hfacts.out.2.2.1
        rw [Hid, IntKind.wrap_u8]
        omega
      have HO2 : Hid (((w.alloc (Obj.cells #[Value.int IntKind.i64 tag, Value.int IntKind.u64 num, Value.slice ab bs.length cb, Value.slice ak ks.length ck] 95)).alloc (Obj.cells #[Value.int IntKind.u8 (IntKind.u8.wrap tag), Value.int IntKind.u8 0, Value.int IntKind.u8 0] 5)).drew.ownsRow B 5 1 (.slice a xs.length c) xs.length (xs.map (Value.int .u8))) := (HO.out.alloc _).alloc _
      have hnews : Hid (∀ j u, [Value.int IntKind.u8 (IntKind.u8.wrap tag), Value.int IntKind.u8 0, Value.int IntKind.u8 0][j]? = some u → ((w.alloc (Obj.cells #[Value.int IntKind.i64 tag, Value.int IntKind.u64 num, Value.slice ab bs.length cb, Value.slice ak ks.length ck] 95)).alloc (Obj.cells #[Value.int IntKind.u8 (IntKind.u8.wrap tag), Value.int IntKind.u8 0, Value.int IntKind.u8 0] 5)).cell? ((⟨w.heap.size + 1, 0, none⟩ : Addr).add j) = some u) :=
        World.news_of_block (cs := #[Value.int IntKind.u8 (IntKind.u8.wrap tag), Value.int IntKind.u8 0, Value.int IntKind.u8 0]) (t := 5) (fr := (0, 0)) (by have h := heap_alloc_new (w.alloc (Obj.cells #[Value.int IntKind.i64 tag, Value.int IntKind.u64 num, Value.slice ab bs.length cb, Value.slice ak ks.length ck] 95)) (Obj.cells #[Value.int IntKind.u8 (IntKind.u8.wrap tag), Value.int IntKind.u8 0, Value.int IntKind.u8 0] 5); simpa using h)
      have hone : Hid (∀ u ∈ [Value.int IntKind.u8 (IntKind.u8.wrap tag), Value.int IntKind.u8 0, Value.int IntKind.u8 0], u.oneCell' = true) := by
        intro u hu
        simp only [List.mem_cons, List.not_mem_nil, or_false] at hu
        rcases hu with rfl | rfl | rfl <;> rfl
      have hxl : xs.length ≤ 70000 := by have := HLn.out; omega
      go_region_law (refine step_append_lies _ (by rfl) (.tmp 15) (.tmp 19) 26 (by rfl) B 5 i0 (.int .u8 0) 1 1 Try.underlying26 hi hz0 hz1 hz2 rfl (by omega) (.slice a xs.length c) xs.length (xs.map (Value.int .u8)) (by simp [Act.eval]) HO2.out ⟨w.heap.size + 1, 0, none⟩ 3 3 [Value.int IntKind.u8 (IntKind.u8.wrap tag), Value.int IntKind.u8 0, Value.int IntKind.u8 0] (by simp [Act.eval]) rfl hnews.out hone.out (by omega) (by unfold maxLen; omega) (by omega) (by simp; omega) (w.heap.size + 1 + 1) (by simp) ?_; intro g cap w2 hown2 hgrow2 hat2 hlt2; have c2 : w2.cell? ⟨pb, 0, none⟩ = some (.slice a xs.length c) := (hgrow2.cell_far ⟨pb, 0, none⟩ (by simp; omega) (fun e => HNE.out e.symm)).trans ((World.cell?_alloc_past _ _ _ (by simp; omega)).trans ((World.cell?_alloc_past _ _ _ hpz).trans c0)); have f2 : w2.frozen? ⟨pb, 0, none⟩ = false := (hgrow2.frozen_far ⟨pb, 0, none⟩ (by simp; omega) (fun e => HNE.out e.symm)).trans ((World.frozen?_alloc_past _ _ _ (by simp; omega)).trans ((World.frozen?_alloc_past _ _ _ hpz).trans f0)); have HO3 := hid hown2; have HG := hid hgrow2; have HAT := hid hat2; clear hown2 hgrow2 hat2)
      all_goals go_wp2_with fail
      all_goals go_meet
      all_goals
        have hbx : some w.heap.size ≠ (Value.slice a xs.length c).ownBlock := fun e => by have := (HO.out.lt _ e.symm).2; omega
        have hcb : ∀ o, w2.cell? ⟨w.heap.size, o, none⟩ = (w.alloc (Obj.cells #[Value.int IntKind.i64 tag, Value.int IntKind.u64 num, Value.slice ab bs.length cb, Value.slice ak ks.length ck] 95)).cell? ⟨w.heap.size, o, none⟩ := fun o => (HG.out.cell_far ⟨w.heap.size, o, none⟩ (by simp; omega) hbx).trans (World.cell?_alloc_past _ _ _ (by simp))
        have hz3 := HG.out.size
        simp at hz3
        refine ⟨?_, ?_, ?_, ?_, by simp; omega, ?_, ?_⟩
        · rw [cell_apart (by simp; omega), hcb]; simp [go_sem]
        · rw [cell_apart (by simp; omega), hcb]; simp [go_sem]
        · rw [cell_apart (by simp; omega), hcb]; simp [go_sem]
        · rw [cell_apart (by simp; omega), hcb]; simp [go_sem]
        · have h := HO3.out
          rw [hw3.out] at h
          exact WInv.push (v := .slice a xs.length c) (H := w.heap.size + 1 + 1) (news := [tag, 0, 0]) (by simpa using h) hpb (by omega) HNE.out c2 f2 HAT.out
        · exact (((((Below.refl _ _).alloc (by omega) _).alloc (by simp; omega) _).drew).grown HG.out (by simp; omega) (fun r e => (HO.out.lt r e).1)).setCell hpb _
    case rest =>
      obtain ⟨b0, b1, b2, b3, hbz, HX⟩ := hcut
      have hbl : Hid ((xs ++ [tag, 0, 0]).length + (bodyOf (n + 1) t).length ≤ 70000) := by have h := HLn.out; rw [HF.out] at h; simp only [List.length_cons] at h; simp only [Hid, List.length_append, List.length_cons, List.length_nil]; omega
      go_upto_block 0 with fail
      go_cut [25, 31, 43] (fun _ _ _ wx => Hid (WInv B pb (xs ++ [tag, 0, 0] ++ bodyOf (n + 1) t) wx ∧ Below B w wx))
      case first =>
        by_cases h1 : tag = 1
        · have hb1 := hid (bodyOf_1 (HT4.out.trans h1))
          subst h1
          go_wp2_with fail
          refine (number_put B pb (xs ++ [1, 0, 0]) num wc HX.out.1 hn0 hn1 (by have := hbl.out; omega)).mono ?_
          rintro e w1 ⟨rfl, hw1, hbe1⟩
          have HW1 := hid hw1
          have HB1 := hid hbe1
          clear hw1 hbe1
          go_wp2_with fail
          go_meet
          refine ⟨?_, HX.out.2.trans HB1.out⟩
          rw [hb1.out, HT3.out]
          exact HW1.out
        · by_cases h2 : tag = 2
          · have hb1 := hid (bodyOf_2 (HT4.out.trans h2))
            subst h2
            obtain ⟨ys, hys⟩ : ∃ ys, xs ++ [2, 0, 0] = ys := ⟨_, rfl⟩
            have HYS := hid hys
            have HX1 := HX.out.1
            have hbl1 := hbl.out
            rw [hys] at HX1 hbl1
            have hyn : ys ≠ [] := by rw [← hys]; simp
            clear hys
            obtain ⟨v', c0', f0', _, hown', hne'⟩ := HX1
            have hpz' : pb < wc.heap.size := by omega
            by_cases hbs : bs = []
            · subst hbs
              rcases hown'.2 with ⟨_, h0⟩ | ⟨g, cap, cur, rfl, hgB, hgg, hgl, hgm, hgs, hgt⟩
              · exact absurd (List.length_eq_zero_iff.1 h0) hyn
              · have HC := hid hgt
                have HO4 := hid hown'
                have HNE4 := hid hne'
                clear hgt hown' hne'
                cases ab
                all_goals
                  go_wp2_with fail
                  go_region
                  all_goals
                    go_wp2_with fail
                    go_meet
                    refine ⟨?_, HX.out.2.drew.setCell hpb _⟩
                    rw [hb1.out, HT2.out, List.append_nil, HYS.out]
                    refine ⟨_, World.cell?_setCell_same _ _ _ c0', by simp [f0'], hpb, ?_, by simpa using HNE4.out⟩
                    have h := ownsRow_set_ne HO4.out (p := ⟨pb, 0, none⟩) HNE4.out (Value.slice (some ⟨g, 0, none⟩) ys.length cap)
                    simpa using h.drew
            · obtain ⟨_, _, ea, _, _, _, _, _, h7⟩ := HB.out
              simp only [Value.slice.injEq, true_and] at ea
              obtain ⟨rfl, rfl⟩ := ea
              obtain ⟨b, o, rfl, _, hbB, hcc⟩ := h7 hbs
              obtain ⟨a5, c5, rfl⟩ := ownsRow_form hown'
              have hbpos : 0 < bs.length := List.length_pos_iff.2 hbs
              have hnews : Hid (∀ j u, (bs.map (Value.int .u8))[j]? = some u → wc.cell? ((⟨b, o, none⟩ : Addr).add j) = some u) := by
                intro j u hj
                have hjn : j < bs.length := by
                  have := (List.getElem?_eq_some_iff.1 hj).1
                  simpa using this
                rw [addr_add, HX.out.2.cell (p := ⟨b, o + j, none⟩) hbB, hcc j hjn]
                simp only [List.getElem?_map, List.getElem?_eq_getElem hjn, Option.map_some, Option.some.injEq] at hj
                simp [List.getElem?_eq_getElem hjn, hj]
              have hone : Hid (∀ u ∈ bs.map (Value.int .u8), u.oneCell' = true) := by intro u hu; obtain ⟨x, _, rfl⟩ := List.mem_map.1 hu; rfl
              have HO4 := hid hown'
              have HNE4 := hid hne'
              have hyl : ys.length + bs.length ≤ 70000 := by rw [hb1.out, HT2.out] at hbl1; exact hbl1
              clear hbl1 hown' hne' hcc h7
              go_wp2_with fail
              go_region_law (refine step_append_lies _ (by rfl) (.tmp 37) (.tmp 39) 26 (by rfl) B 5 i0 (.int .u8 0) 1 1 Try.underlying26 hi hz0 hz1 hz2 rfl (by omega) (.slice a5 ys.length c5) ys.length (ys.map (Value.int .u8)) (by simp [Act.eval]) HO4.out.drew ⟨b, o, none⟩ bs.length cb (bs.map (Value.int .u8)) (by simp [Act.eval]) (by simp) hnews.out hone.out (by omega) (by unfold maxLen; omega) (by omega) (by simp; omega) wc.heap.size (by simp) ?_; intro g cap w2 hown2 hgrow2 hat2 hlt2; have c2 : w2.cell? ⟨pb, 0, none⟩ = some (.slice a5 ys.length c5) := (hgrow2.cell_far ⟨pb, 0, none⟩ (by simp; omega) (fun e => HNE4.out e.symm)).trans c0'; have f2 : w2.frozen? ⟨pb, 0, none⟩ = false := (hgrow2.frozen_far ⟨pb, 0, none⟩ (by simp; omega) (fun e => HNE4.out e.symm)).trans f0'; have HO3 := hid hown2; have HG := hid hgrow2; have HAT := hid hat2; clear hown2 hgrow2 hat2)
              all_goals go_wp2_with fail
              all_goals
                go_meet
                refine ⟨?_, (HX.out.2.drew.grown HG.out (by simp; omega) (fun r e => (HO4.out.lt r e).1)).setCell hpb _⟩
                rw [hb1.out, HT2.out, HYS.out]
                exact WInv.push (v := .slice a5 ys.length c5) (H := wc.heap.size) HO3.out hpb (by omega) HNE4.out c2 f2 HAT.out
          · have h3 : tag = 3 := by have := hfacts.out.2.2.1; omega
            have hb1 := hid (bodyOf_kids (HT4.out.trans h3))
            have hkr := hid (hfacts.out.2.2.2 h3)
            subst h3
            go_wp2_with fail
            refine (each_any ih ks _ B pb (xs ++ [3, 0, 0]) wc (HK.out.agree (fun _ _ _ r => r.agree (Agree.below HX.out.2) (Nat.le_refl _) (Nat.le_refl _)) (Agree.below HX.out.2) (Nat.le_refl _) (Nat.le_refl _)) (fun k hk => by obtain ⟨r, h1, h2⟩ := hkr.out k hk; exact ⟨r, by omega, h2⟩) HX.out.1 (by have := hbl.out; rw [hb1.out, HT1.out] at this; exact this)).mono ?_
            rintro e w1 ⟨rfl, hw1, hbe1⟩
            have HW1 := hid hw1
            have HB1 := hid hbe1
            clear hw1 hbe1
            go_wp2_with fail
            go_meet
            refine ⟨?_, HX.out.2.trans HB1.out⟩
            rw [hb1.out, HT1.out]
            exact HW1.out
      case rest =>
        have hroom1 := hfacts.out.2.1
        obtain ⟨body, hbd⟩ : ∃ body, bodyOf (n + 1) t = body := ⟨_, rfl⟩
        rw [hbd] at hcut hroom1 HF
        clear hbl hbd
        have hbl : body.length ≤ 65535 := by omega
        obtain ⟨v', c0', f0', _, hown', hne'⟩ := hcut.out.1
        rcases hown'.2 with ⟨_, h0⟩ | ⟨g, cap, cur, rfl, hgB, hgg, hgl, hgm, hgs, hgt⟩
        · simp at h0
        · have HO4 := hid hown'
          have hgp : g ≠ pb := by simpa [Value.ownBlock] using hne'
          have hx1 : wc.cell? ⟨g, xs.length + 1, none⟩ = some (.int .u8 0) := by rw [hown'.cellAt _ (by simp)]; simp
          have hx2 : wc.cell? ⟨g, xs.length + 2, none⟩ = some (.int .u8 0) := by rw [hown'.cellAt _ (by simp)]; simp
          have hff : ∀ o, wc.frozen? ⟨g, o, none⟩ = false := fun o => hown'.frozenAt o
          have hL : (xs ++ [tag, 0, 0] ++ body).length = xs.length + 3 + body.length := by simp; omega
          rw [hL] at c0'
          have hxl : xs.length ≤ 70000 := by have := HLn.out; omega
          have HNE4 := hid hne'
          clear hL hown' hne' hgg hgl hgm hgs hgt c0 f0 HO HNE hpz b0 b1 b2 b3 hbz
          go_wp2_with fail
          go_big_region
          go_end0
          refine ⟨rfl, ?_, ((hcut.out.2.setCell hgB _).setCell hgB _).drew⟩
          have e1 : ((xs.length : Int) + 3 + body.length - xs.length - 3) = (body.length : Int) := by omega
          rw [HF.out, e1]
          have st := ((HO4.out.stored (xs.length + 1) (.int .u8 ((body.length : Int) / 256))).1.stored (xs.length + 2) (.int .u8 ((body.length : Int) % 256))).1
          rw [set_two] at st
          have hL2 : (xs ++ [tag, 0, 0] ++ body).length = (xs ++ tag :: ((body.length : Int) / 256) :: ((body.length : Int) % 256) :: body).length := by simp
          rw [hL2] at st
          refine ⟨.slice (some ⟨g, 0, none⟩) (xs ++ tag :: ((body.length : Int) / 256) :: ((body.length : Int) % 256) :: body).length cap, ?_, ?_, hpb, st.drew, by simpa [Value.ownBlock] using hgp⟩
          · rw [← hL2, World.cell?_drew, cell_apart (fun e => hgp e.symm), cell_apart (fun e => hgp e.symm), c0']
            simp
            omega
          · rw [World.frozen?_drew, World.frozen?_setCell, World.frozen?_setCell]
            exact f0'

end Go.Proofs.Ytenfahecnkdhaaa.Tlv
end

section
/-
  What bodySize, listSize, Size and Right of tlv answer, for whatever tree lies in memory.
-/
namespace Go.Proofs.Ytenfahecnkdhaaa.Tlv
open Go.RowKit

/-- What bodySize does with a tree that is nested at most n deep. -/
def SizeOk (n : Nat) : Prop := ∀ (t : Tr n) (sb sk : Value) (room deep : Int) (w : World), Rep 0 w.heap.size w n t sb sk → -3 ≤ room → room ≤ 65535 → 0 ≤ deep → deep ≤ 8 →
  Calls Try.prog 88 #[.agg #[.int .i64 t.hd.1, .int .u64 t.hd.2.1, sb, sk], .int .i64 room, .int .i64 deep] w fun e w' =>
    e = .returned (.tuple #[.int .i64 (bsz n t room deep).1, .bool (bsz n t room deep).2]) ∧ Below w.heap.size w w'

theorem lsz_go {α : Type} {f : α → Int → Int → Int × Bool} {ks : List α} {room deep : Int} (h : 0 < deep) : lsz f ks room deep = lszGo f room deep 0 ks := by
  unfold lsz; rw [if_neg (by omega)]

set_option maxHeartbeats 1000000 in
theorem listSize_any {n : Nat} (hn : SizeOk n) (ks : List (Tr n)) (v : Value) (room deep : Int) (w : World) (h : KSl 0 w.heap.size w (Rep 0 w.heap.size w n) v ks) (hr0 : 0 ≤ room) (hr1 : room ≤ 65535) (hd0 : 0 < deep) (hd1 : deep ≤ 8) :
    Calls Try.prog 96 #[v, .int .i64 room, .int .i64 deep] w fun e w' => e = .returned (.tuple #[.int .i64 (lsz (bsz n) ks room deep).1, .bool (lsz (bsz n) ks room deep).2]) ∧ Below w.heap.size w w' := by
  rw [lsz_go hd0]
  obtain ⟨a, cap, rfl, h2, h3, h4, h5, h7⟩ := h
  have A := hid h7
  have hdb : (deep == 0) = false := by simp; omega
  clear h7 h4
  go_enter Try.func96, Try.ntmps96
  go_wp2
  go_loopw [8, 17] (fun c i wr => ∃ (k : Nat) (acc : Int), k ≤ ks.length ∧ i = .int .i64 k ∧ c = .int .i64 acc ∧ 0 ≤ acc ∧ acc ≤ room ∧ Hid (lszGo (bsz n) room deep acc (ks.drop k) = lszGo (bsz n) room deep 0 ks) ∧ Hid (Below w.heap.size w wr)) (fun _ i _ => ks.length - (intOf i).toNat)
  case atStart => exact ⟨0, 0, Nat.zero_le _, rfl, rfl, by omega, by omega, by simp [Hid], Below.refl _ _⟩
  case round =>
    obtain ⟨k, acc, hk, rfl, rfl, ha0, ha1, hgo, hbel⟩ := hrel
    by_cases hlt : k < ks.length
    · obtain ⟨b, o, rfl, _, hbs, hc⟩ := A.out (by intro e; subst e; simp at hlt)
      obtain ⟨sb, sk, c0, c1, c2, c3, hrep⟩ := hc k ks[k] (List.getElem?_eq_getElem hlt)
      clear hc
      obtain ⟨a1, l1, p1, a2, l2, p2, rfl, rfl⟩ := hrep.sl
      have hR := hid hrep
      clear hrep
      have d0 := (hbel.out.cell (p := ⟨b, o + k * 4, none⟩) hbs).trans c0
      have d1 := (hbel.out.cell (p := ⟨b, o + k * 4 + 1, none⟩) hbs).trans c1
      have d2 := (hbel.out.cell (p := ⟨b, o + k * 4 + 2, none⟩) hbs).trans c2
      have d3 := (hbel.out.cell (p := ⟨b, o + k * 4 + 3, none⟩) hbs).trans c3
      clear c0 c1 c2 c3
      have hdrop : Hid (ks.drop k = ks[k] :: ks.drop (k + 1)) := List.drop_eq_getElem_cons hlt
      generalize ks[k] = t at *
      go_wp2_with fail
      have hbz := hbel.out.size
      have hbw : b < wr.heap.size := by omega
      refine (hn t _ _ _ _ _ (hR.out.agree ((Agree.below hbel.out).alloc hbz _) (Nat.le_refl _) (by simp; omega)) (by omega) (by omega) (by omega) (by omega)).mono ?_
      rintro e w1 ⟨rfl, hb1⟩
      have hfit := bsz_fits n t (room - acc - 3) (deep - 1)
      have hst : Hid (lszGo (bsz n) room deep acc (t :: ks.drop (k + 1)) = if (bsz n t (room - acc - 3) (deep - 1)).2 then lszGo (bsz n) room deep (acc + (3 + (bsz n t (room - acc - 3) (deep - 1)).1)) (ks.drop (k + 1)) else (0, false)) := rfl
      have hb2 : Hid (Below w.heap.size w w1) := (hbel.out.alloc hbz _).trans (hb1.mono (by simp; omega))
      clear hb1
      generalize bsz n t (room - acc - 3) (deep - 1) = r at hfit hst ⊢
      obtain ⟨m, ok⟩ := r
      cases ok with
      | true =>
        have hm := hfit rfl
        clear hfit
        simp only at hm
        go_wp2_with fail
        go_roundw
        case rel => exact ⟨k + 1, acc + (3 + m), by omega, by go_num, by go_num, by omega, by omega, by rw [Hid, ← hgo.out, hdrop.out, hst.out]; rfl, hb2⟩
        case measure => simp [intOf]; omega
      | false =>
        clear hfit
        go_wp2_with fail
        go_ret2
        refine ⟨?_, hb2.out⟩
        rw [← hgo.out, hdrop.out, hst.out]
        rfl
    · go_wp2_with fail
      go_ret2
      refine ⟨?_, hbel.out⟩
      rw [← hgo.out, List.drop_of_length_le (by omega)]
      rfl

set_option maxHeartbeats 400000 in
theorem listSize_zero (a : Option Addr) (l c : Nat) (room : Int) (w : World) :
    Calls Try.prog 96 #[.slice a l c, .int .i64 room, .int .i64 0] w fun e w' => e = .returned (.tuple #[.int .i64 0, .bool false]) ∧ w' = w := by
  go_enter Try.func96, Try.ntmps96
  go_wp2_with fail
  go_ret2
  exact ⟨rfl, rfl⟩

theorem bsz_no {n : Nat} {t : Tr (n + 1)} {room deep : Int} (h : room < 0 ∨ oeB t.hd.1 t.hd.2.1 t.hd.2.2.length t.kd.length = false) : bsz (n + 1) t room deep = (0, false) := by
  simp only [bsz]; rw [if_pos h]

theorem bsz_yes {n : Nat} {t : Tr (n + 1)} {room deep : Int} (h0 : 0 ≤ room) (h1 : oeB t.hd.1 t.hd.2.1 t.hd.2.2.length t.kd.length = true) : bsz (n + 1) t room deep =
    if t.hd.1 = 1 then (nsz t.hd.2.1, decide (nsz t.hd.2.1 ≤ room))
    else if t.hd.1 = 2 then ((t.hd.2.2.length : Int), decide ((t.hd.2.2.length : Int) ≤ room))
    else if t.hd.1 = 3 then lsz (bsz n) t.kd room deep
    else (0, false) := by
  simp only [bsz]; rw [if_neg (by rw [h1]; simp; omega)]

set_option maxHeartbeats 1000000 in
theorem bodySize_any : ∀ n, SizeOk n
  | 0 => fun t => by cases t
  | n + 1 => by
    intro t sb sk room deep w hrep hr0 hr1 hd0 hd1
    have ih := bodySize_any n
    obtain ⟨hn0, hn1, hby, hks⟩ := hrep
    have HB := hid hby
    have HK := hid hks
    obtain ⟨ab, cb, rfl, hrb⟩ := hby
    obtain ⟨ak, ck, rfl, hrk⟩ := hks
    clear hrb hrk
    have hoe := bsz_no (t := t) (room := room) (deep := deep)
    have hyes := bsz_yes (t := t) (room := room) (deep := deep)
    have hlb : t.hd.2.2.length ≤ 140737488355328 := by obtain ⟨_, _, _, _, _, _, h, _⟩ := HB.out; exact h
    generalize bsz (n + 1) t room deep = r at *
    generalize hks' : t.kd = ks at *
    have HKS := hid hks'
    clear hks'
    generalize t.hd.2.2 = bs at *
    generalize t.hd.2.1 = num at *
    generalize t.hd.1 = tag at *
    by_cases hneg : room < 0
    · rw [hoe (.inl hneg)]
      clear hoe hyes
      go_enter Try.func88, Try.ntmps88
      go_wp2_with fail
      go_ret2
      exact ⟨rfl, (Below.refl _ _).alloc (Nat.le_refl _) _⟩
    · cases hq : oeB tag num bs.length ks.length with
      | false =>
        rw [hoe (.inr hq)]
        clear hoe hyes
        have HQ := hid hq
        clear hq
        go_enter Try.func88, Try.ntmps88
        go_wp2_with fail
        refine (othersEmpty_any _ _ _ _ _ _ _ _ _).mono ?_
        rintro e w1 ⟨rfl, hb1⟩
        rw [HQ.out]
        have hb2 : Hid (Below w.heap.size w w1) := ((Below.refl _ _).alloc (Nat.le_refl _) _).trans (hb1.mono (by simp))
        clear hb1
        go_wp2_with fail
        go_ret2
        exact ⟨rfl, hb2.out⟩
      | true =>
        have hr := hid (hyes (by omega) hq)
        have HQ := hid hq
        clear hoe hyes hq
        have hroom : 0 ≤ room := by omega
        clear hneg
        go_enter Try.func88, Try.ntmps88
        go_wp2_with fail
        refine (othersEmpty_any _ _ _ _ _ _ _ _ _).mono ?_
        rintro e w1 ⟨rfl, hb1⟩
        rw [HQ.out]
        have hb2 : Hid (Below w.heap.size w w1) := ((Below.refl _ _).alloc (Nat.le_refl _) _).trans (hb1.mono (by simp))
        have hz : w.heap.size < w1.heap.size := by have := hb1.size; simp at this; omega
        obtain ⟨hc, hf⟩ := bcell hb1
        clear hb1 hf
        by_cases h1 : tag = 1
        · subst h1
          go_wp2_with fail
          refine (numberSize_any _ _ hn0 hn1).mono ?_
          rintro e w2 ⟨rfl, hw2⟩
          rw [hw2]
          clear hw2
          go_wp2_with fail
          go_ret2
          refine ⟨?_, hb2.out⟩
          rw [hr.out]
          rfl
        · by_cases h2 : tag = 2
          · subst h2
            go_wp2_with fail
            go_ret2
            refine ⟨?_, hb2.out⟩
            rw [hr.out]
            rfl
          · by_cases h3 : tag = 3
            · subst h3
              by_cases hdz : deep = 0
              · subst hdz
                go_wp2_with fail
                refine (listSize_zero _ _ _ _ _).mono ?_
                rintro e w2 ⟨rfl, hw2⟩
                rw [hw2]
                clear hw2
                go_wp2_with fail
                go_ret2
                refine ⟨?_, hb2.out⟩
                rw [hr.out]
                rfl
              · go_wp2_with fail
                refine (listSize_any ih ks _ _ _ _ (HK.out.agree (fun _ _ _ h => h.agree (Agree.below hb2.out) (Nat.le_refl _) (by omega)) (Agree.below hb2.out) (Nat.le_refl _) (by omega)) hroom hr1 (by omega) hd1).mono ?_
                rintro e w2 ⟨rfl, hb3⟩
                have hb4 : Hid (Below w.heap.size w w2) := hb2.out.trans (hb3.mono (by omega))
                clear hb3
                go_wp2_with fail
                go_ret2
                refine ⟨?_, hb4.out⟩
                rw [hr.out]
                rfl
            · go_wp2_with fail
              go_ret2
              refine ⟨?_, hb2.out⟩
              rw [hr.out, if_neg h1, if_neg h2, if_neg h3]
              rfl

/-- How many bytes a tree's form has; 0: it is not right. -/
def szT (n : Nat) (t : Tr n) : Int := if (bsz n t 65535 8).2 then 3 + (bsz n t 65535 8).1 else 0

set_option maxHeartbeats 400000 in
theorem size_any {n : Nat} (t : Tr n) (sb sk : Value) (w : World) (h : Rep 0 w.heap.size w n t sb sk) :
    Calls Try.prog 78 #[.agg #[.int .i64 t.hd.1, .int .u64 t.hd.2.1, sb, sk]] w fun e w' => e = .returned (.int .i64 (szT n t)) ∧ Below w.heap.size w w' := by
  obtain ⟨a1, l1, p1, a2, l2, p2, rfl, rfl⟩ := h.sl
  have H := hid h
  clear h
  have hfit := bsz_fits n t 65535 8
  go_enter Try.func78, Try.ntmps78
  go_wp2_with fail
  refine (bodySize_any n t _ _ _ _ _ (H.out.agree ((Agree.refl _ _ _).alloc (Nat.le_refl _) _) (Nat.le_refl _) (by simp)) (by omega) (by omega) (by omega) (by omega)).mono ?_
  rintro e w1 ⟨rfl, hb1⟩
  have hb2 : Hid (Below w.heap.size w w1) := ((Below.refl _ _).alloc (Nat.le_refl _) _).trans (hb1.mono (by simp))
  clear hb1
  obtain ⟨r, hr⟩ : ∃ r, bsz n t 65535 8 = r := ⟨_, rfl⟩
  rw [hr] at hfit
  have HR := hid hr
  clear hr
  rw [HR.out]
  obtain ⟨m, ok⟩ := r
  cases ok with
  | true =>
    have hm := hfit rfl
    clear hfit
    simp only at hm
    go_wp2_with fail
    go_ret
    refine ⟨?_, hb2.out⟩
    rw [szT, HR.out]
    rfl
  | false =>
    clear hfit
    go_wp2_with fail
    go_ret
    refine ⟨?_, hb2.out⟩
    rw [szT, HR.out]
    rfl

end Go.Proofs.Ytenfahecnkdhaaa.Tlv
end
