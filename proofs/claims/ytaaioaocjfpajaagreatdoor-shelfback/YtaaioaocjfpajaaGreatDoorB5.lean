/- Of the proof: the texts TlvReadTop, TlvRefRead, TlvNumber, TlvPut, TlvSize, TlvPutTop, TlvTrip, TlvGet, TlvKit, one behind the other. -/
import Derived.Test.YtaaioaocjfpajaaGreatDoorB4
import Derived.Deep.CutBlock
import Derived.Laws.AppendOwnNone
import Derived.Deep.RegionLaw
import Derived.Deep.RegionHeld3
import Derived.Deep.DrawnRows
import Derived.Deep.DeepCutAuto
section
/-
  What read, Get and Take of tlv answer.
-/
namespace Go.Proofs.YtaaioaocjfpajaaGreatDoor.Tlv
open Go.RowKit
attribute [local go_sem ↓] Go.wp_at_zero Go.wp_at_succ

/-- readBody's answer, its value written out. -/
theorem bodyOk_one {d : Nat} (hB : BodyOk d) (tag : Int) (v : Value) (bs : List Int) (w : World) (h : BySl 0 w.heap.size w v bs) (hl : bs.length ≤ 65535) :
    Calls Tryz.prog 198 #[.int .i64 tag, v, .int .i64 d] w fun e w' => ∃ (x y : Int) (a a' : Option Addr) (l c l' c' : Nat) (ok : Bool), e = .returned (.tuple #[.agg #[.int .i64 x, .int .u64 y, .slice a l c, .slice a' l' c'], .bool ok]) ∧
      ((ok = false ∧ rdBody d (rdKids d) tag bs = none) ∨ (ok = true ∧ ∃ t : Tr (d + 1), rdBody d (rdKids d) tag bs = some t ∧ x = t.hd.1 ∧ y = t.hd.2.1 ∧ Rep w.heap.size w'.heap.size w' (d + 1) t (.slice a l c) (.slice a' l' c'))) ∧ Below w.heap.size w w' := by
  refine (hB tag v bs w h hl).mono ?_
  rintro e w' ⟨⟨hn, x, y, a, a', l, c, l', c', rfl⟩ | ⟨t, sb, sk, hs, rfl, hr⟩, hb⟩
  · exact ⟨x, y, a, a', l, c, l', c', false, rfl, .inl ⟨rfl, hn⟩, hb⟩
  · obtain ⟨a1, l1, p1, a2, l2, p2, rfl, rfl⟩ := hr.sl
    exact ⟨_, _, _, _, _, _, _, _, true, rfl, .inr ⟨rfl, t, hs, rfl, rfl, hr⟩, hb⟩

/-- The bytes behind the first three, up to the E-th. -/
theorem bySl_mid {L B : Nat} {w : World} {b o cap E : Nat} {bs : List Int} (h : BySl L B w (.slice (some ⟨b, o, none⟩) bs.length cap) bs) (h3 : 3 ≤ E) (hE : E ≤ bs.length) :
    BySl L B w (.slice (if cap = 3 then some ⟨b, o, none⟩ else some ⟨b, o + 3, none⟩) (E - 3) (cap - 3)) ((bs.take E).drop 3) := by
  obtain ⟨a', cap', e, h2, h3', h4, h5, h6, h7⟩ := h
  simp only [Value.slice.injEq, true_and] at e
  obtain ⟨rfl, rfl⟩ := e
  have hlen : ((bs.take E).drop 3).length = E - 3 := by rw [List.length_drop, List.length_take_of_le hE]
  refine ⟨_, _, by rw [hlen], by rw [hlen]; omega, by omega, fun e => by split at e <;> simp at e, by rw [hlen]; omega, fun x hx => h6 x (List.mem_of_mem_take (List.mem_of_mem_drop hx)), fun hne => ?_⟩
  have hlt : 3 < E := by
    have := List.length_pos_iff.2 hne
    rw [hlen] at this
    omega
  obtain ⟨b', o', e, hL, hB, hc⟩ := h7 (by intro e; subst e; simp at hE; omega)
  simp only [Option.some.injEq, Addr.mk.injEq, and_true] at e
  obtain ⟨rfl, rfl⟩ := e
  rw [if_neg (by omega)]
  refine ⟨b, o + 3, rfl, hL, hB, fun i hi => ?_⟩
  rw [hlen] at hi
  rw [Nat.add_assoc, hc (3 + i) (by omega)]
  simp [show 3 + i < E by omega]

set_option maxHeartbeats 1000000 in
set_option maxRecDepth 100000 in
theorem readOk_of {d : Nat} (_hd8 : d ≤ 8) (hB : BodyOk d) : ReadOk d := by
  intro v bs w h
  obtain ⟨a, cap, rfl, h2, h3, h4, h5, h6, h7⟩ := id h
  have H := hid h
  obtain ⟨R, hR⟩ : ∃ R, rd d bs = R := ⟨_, rfl⟩
  rw [hR]
  have HR := hid hR
  clear hR h h4
  by_cases hs : bs.length < 3
  · clear h6 h7
    go_enter Tryz.func187, Tryz.ntmps187
    go_wp2_with fail
    refine bodyPost_ret (v := .tuple #[.agg #[.int .i64 0, .int .u64 0, .slice none 0 0, .slice none 0 0], .int .i64 0, .bool false]) (by simp [results, Tryz.results187, go_sem]) rfl ⟨.inl ⟨?_, rfl⟩, (Below.refl _ _).alloc (Nat.le_refl _) _⟩
    rw [← HR.out, rd_eq, rd1, if_pos hs]
  · obtain ⟨b, o, rfl, _, hbw, hc⟩ := h7 (by intro e; subst e; simp at hs)
    have c0 := hc 0 (by omega)
    have c1 := hc 1 (by omega)
    have c2 := hc 2 (by omega)
    have y0 : 0 ≤ bs.getD 0 0 ∧ bs.getD 0 0 ≤ 255 := by have := h6 bs[0] (List.getElem_mem _); simpa [List.getElem?_eq_getElem (show 0 < bs.length by omega)] using this
    have y1 : 0 ≤ bs.getD 1 0 ∧ bs.getD 1 0 ≤ 255 := by have := h6 bs[1] (List.getElem_mem _); simpa [List.getElem?_eq_getElem (show 1 < bs.length by omega)] using this
    have y2 : 0 ≤ bs.getD 2 0 ∧ bs.getD 2 0 ≤ 255 := by have := h6 bs[2] (List.getElem_mem _); simpa [List.getElem?_eq_getElem (show 2 < bs.length by omega)] using this
    clear h6 h7 hc
    have he : endOf bs = 3 + (bs.getD 1 0 * 256 + bs.getD 2 0).toNat := rfl
    obtain ⟨E, hE⟩ : ∃ E, endOf bs = E := ⟨_, rfl⟩
    rw [hE] at he
    have HE := hid hE
    have hX0 : Hid (bs.getD 0 0 = bs.getD 0 0) := rfl
    generalize hx0 : bs.getD 0 0 = x0 at *
    generalize bs.getD 1 0 = x1 at *
    generalize bs.getD 2 0 = x2 at *
    have HX0 := hid hx0
    clear hx0 hE hX0
    rw [Nat.add_zero] at c0
    have hEx : (E : Int) = 3 + (x1 * 256 + x2) := by omega
    have HEx := hid hEx
    have HEn := hid he
    clear hEx he
    have hS := hid hs
    obtain ⟨L, hL⟩ : ∃ L, bs.length = L := ⟨_, rfl⟩
    rw [hL] at h2 h5 hs ⊢
    have HL := hid hL
    clear hL
    go_enter Tryz.func187, Tryz.ntmps187
    go_upto_region 3 with fail
    have hb0 : Hid (Below (w.heap.size + 1) (w.alloc (Obj.cells #[Value.int IntKind.i64 0, Value.int IntKind.u64 0, Value.slice none 0 0, Value.slice none 0 0] 156)) (w.alloc (Obj.cells #[Value.int IntKind.i64 0, Value.int IntKind.u64 0, Value.slice none 0 0, Value.slice none 0 0] 156))) := Below.refl _ _
    go_cut [7] (fun s wx => s = .int .i64 (E : Int) ∧ Hid (Below (w.heap.size + 1) (w.alloc (Obj.cells #[Value.int IntKind.i64 0, Value.int IntKind.u64 0, Value.slice none 0 0, Value.slice none 0 0] 156)) wx))
    case first =>
      go_quiet (fail)
      go_wp2_with fail
      go_meet
      exact ⟨congrArg (Value.int .i64) (by have := HEx.out; omega), below_drewN hb0.out _⟩
    case rest =>
      obtain ⟨rfl, HBel⟩ := hcut
      have hE3 : 3 ≤ E := by have := HEn.out; omega
      have hEm : E ≤ 65538 := by have := HEx.out; omega
      obtain ⟨hz, g0, g1, g2, g3, gf, hbel⟩ := res_facts (w1 := wc) (by simpa using HBel.out)
      have HB := hid hbel
      have k0 : wc.cell? ⟨b, o, none⟩ = some (.int .u8 x0) := (hbel.cell (p := ⟨b, o, none⟩) hbw).trans c0
      have HBy : Hid (BySl 0 wc.heap.size wc (.slice (some ⟨b, o, none⟩) bs.length cap) bs) := H.out.agree (Agree.below hbel) (Nat.le_refl _) (by omega)
      clear hbel c0 c1 c2 hb0
      by_cases hlE : L < E
      · go_wp2_with fail
        obtain ⟨q0, q1, q2, q3⟩ := set4_read (u0 := .int .i64 0) (u1 := .int .u64 0) (u2 := .slice none 0 0) (u3 := .slice none 0 0) g0 g1 g2 g3
        refine bodyPost_ret (v := .tuple #[.agg #[.int .i64 0, .int .u64 0, .slice none 0 0, .slice none 0 0], .int .i64 0, .bool false]) (by simp [results, Tryz.results187, go_sem, q0, q1, q2, q3]) rfl ⟨.inl ⟨?_, rfl⟩, HB.out.trans (bset4 (Nat.le_refl _) _ _ _ _)⟩
        rw [← HR.out, rd_eq, rd1, if_neg hS.out, HE.out, HL.out, if_pos hlE]
      · have hcapI : (3 : Int) ≤ cap := by omega
        have hEI : (3 : Int) ≤ E := by omega
        have hEc : (E : Int) ≤ cap := by omega
        have hl0 : (0 : Int) < L := by omega
        have hw0 : IntKind.i64.wrap x0 = x0 := by rw [IntKind.wrap_i64]; omega
        have hbw2 : b < wc.heap.size := by omega
        obtain ⟨A, hA⟩ : ∃ A, (if cap = 3 then some (⟨b, o, none⟩ : Addr) else some ⟨b, o + 3, none⟩) = A := ⟨_, rfl⟩
        have HBm : Hid (BySl 0 wc.heap.size wc (.slice A (E - 3) (cap - 3)) ((bs.take E).drop 3)) := by rw [← hA]; exact bySl_mid HBy.out hE3 (by rw [HL.out]; omega)
        have hbl : Hid (((bs.take E).drop 3).length ≤ 65535) := by rw [Hid, List.length_drop]; have := List.length_take_le E bs; omega
        go_upto_region 6 with fail
        go_cut [8, 9] (fun s8 s9 wx => ∃ (g : Nat) (x y : Int) (a a' : Option Addr) (l c l' c' : Nat) (ok : Bool), s8 = .pointer (some ⟨g, 0, none⟩) ∧ s9 = .bool ok ∧ wx.cell? ⟨g, 0, none⟩ = some (.int .i64 x) ∧ wx.cell? ⟨g, 1, none⟩ = some (.int .u64 y) ∧ wx.cell? ⟨g, 2, none⟩ = some (.slice a l c) ∧ wx.cell? ⟨g, 3, none⟩ = some (.slice a' l' c') ∧
          Hid (((ok = false ∧ rdBody d (rdKids d) x0 ((bs.take E).drop 3) = none) ∨ (ok = true ∧ ∃ t : Tr (d + 1), rdBody d (rdKids d) x0 ((bs.take E).drop 3) = some t ∧ x = t.hd.1 ∧ y = t.hd.2.1 ∧ Rep (w.heap.size + 1) wx.heap.size wx (d + 1) t (.slice a l c) (.slice a' l' c'))) ∧ Below (w.heap.size + 1) (w.alloc (Obj.cells #[Value.int IntKind.i64 0, Value.int IntKind.u64 0, Value.slice none 0 0, Value.slice none 0 0] 156)) wx))
        case first =>
          go_region_with ((go_at_call 198; refine (bodyOk_one hB x0 _ ((bs.take E).drop 3) _ (BySl.agree (L' := 0) HBm.out (by repeat' first | exact Agree.refl _ _ _ | apply Agree.drew | refine Agree.alloc ?_ ?_ _ | (simp; done) | (simp; omega)) (Nat.le_refl _) (by simp)) hbl.out).mono ?_; rintro e w1 ⟨x, y, a, a', l, c, l', c', ok, rfl, hres, hb1⟩; have Hres := hid hres; have Hb1 := hid hb1; obtain ⟨hc, hf⟩ := bcell hb1; have hz1 := hb1.size; clear hres hb1))
          all_goals go_wp2_with fail
          all_goals go_meet
          all_goals simp at hz1
          all_goals first
            | refine ⟨w1.heap.size, x, y, a, a', l, c, l', c', ok, rfl, rfl, by simp, by simp, by simp, by simp, ?_, ?_⟩
              · rcases Hres.out with hr | ⟨h1, t, h2, h3, h4, h5⟩
                · exact .inl hr
                · exact .inr ⟨h1, t, h2, h3, h4, h5.agree ((Agree.refl _ _ _).alloc (Nat.le_refl _) _) (by simp; omega) (by simp)⟩
              · exact ((HBel.out.drew).trans (Hb1.out.mono (by simp; omega))).alloc (by omega) _
            | obtain ⟨r0, r1, r2, r3⟩ := set4_read (w := w1) (b := wc.heap.size) (u0 := .int .i64 x) (u1 := .int .u64 y) (u2 := .slice a l c) (u3 := .slice a' l' c') (x0 := .int .i64 0) (x1 := .int .u64 0) (x2 := .slice none 0 0) (x3 := .slice none 0 0) ((hc _ _ (by simp)).trans (by simp [go_sem])) ((hc _ _ (by simp)).trans (by simp [go_sem])) ((hc _ _ (by simp)).trans (by simp [go_sem])) ((hc _ _ (by simp)).trans (by simp [go_sem]))
              refine ⟨wc.heap.size, x, y, a, a', l, c, l', c', ok, rfl, rfl, r0, r1, r2, r3, ?_, ?_⟩
              · rcases Hres.out with hr | ⟨h1, t, h2, h3, h4, h5⟩
                · exact .inl hr
                · exact .inr ⟨h1, t, h2, h3, h4, h5.agree (Agree.set4 _ (.inl (by simp)) _ _ _ _) (by simp; omega) (by simp)⟩
              · exact (((HBel.out.alloc (by omega) _).drew).trans (Hb1.out.mono (by simp; omega))).trans (bset4 (by omega) _ _ _ _)
        case rest =>
          obtain ⟨g, x, y, a, a', l, c, l', c', ok, rfl, rfl, e0, e1, e2, e3, HX⟩ := hcut
          clear g0 g1 g2 g3 gf hz HBy HBm hbw2 k0
          obtain ⟨hz, g0, g1, g2, g3, gf, hbel⟩ := res_facts (w1 := wc) (by simpa using HX.out.2)
          have HB2 := hid hbel
          clear hbel
          cases ok with
          | false =>
            go_wp2_with fail
            obtain ⟨q0, q1, q2, q3⟩ := set4_read (u0 := .int .i64 0) (u1 := .int .u64 0) (u2 := .slice none 0 0) (u3 := .slice none 0 0) g0 g1 g2 g3
            refine bodyPost_ret (v := .tuple #[.agg #[.int .i64 0, .int .u64 0, .slice none 0 0, .slice none 0 0], .int .i64 0, .bool false]) (by simp [results, Tryz.results187, go_sem, q0, q1, q2, q3]) rfl ⟨.inl ⟨?_, rfl⟩, HB2.out.trans (bset4 (Nat.le_refl _) _ _ _ _)⟩
            rcases HX.out.1 with hr | hr
            · rw [← HR.out, rd_eq, rd1, if_neg hS.out, HE.out, HL.out, if_neg hlE, HX0.out, hr.2]
              rfl
            · exact absurd hr.1 (by simp)
          | true =>
            go_wp2_with fail
            obtain ⟨q0, q1, q2, q3⟩ := set4_read (u0 := .int .i64 x) (u1 := .int .u64 y) (u2 := .slice a l c) (u3 := .slice a' l' c') g0 g1 g2 g3
            refine bodyPost_ret (v := .tuple #[.agg #[.int .i64 x, .int .u64 y, .slice a l c, .slice a' l' c'], .int .i64 E, .bool true]) (by simp [results, Tryz.results187, go_sem, q0, q1, q2, q3]) rfl ⟨.inr ?_, HB2.out.trans (bset4 (Nat.le_refl _) _ _ _ _)⟩
            rcases HX.out.1 with hr | ⟨_, t, h2, rfl, rfl, h5⟩
            · exact absurd hr.1 (by simp)
            · have A4 := Agree.set4 (L := w.heap.size + 1) (B := wc.heap.size) wc (b := w.heap.size) (o0 := 0) (o1 := 1) (o2 := 2) (o3 := 3) (.inl (by omega)) (.int .i64 t.hd.1) (.int .u64 t.hd.2.1) (.slice a l c) (.slice a' l' c')
              have hsz : wc.heap.size ≤ ((((wc.setCell ⟨w.heap.size, 0, none⟩ (.int .i64 t.hd.1)).setCell ⟨w.heap.size, 1, none⟩ (.int .u64 t.hd.2.1)).setCell ⟨w.heap.size, 2, none⟩ (.slice a l c)).setCell ⟨w.heap.size, 3, none⟩ (.slice a' l' c')).heap.size := by simp
              refine ⟨t, E, ?_, .slice a l c, .slice a' l' c', rfl, Rep.agree (L' := w.heap.size) A4 (by omega) hsz h5⟩
              rw [← HR.out, rd_eq, rd1, if_neg hS.out, HE.out, HL.out, if_neg hlE, HX0.out, h2]
              rfl

theorem readOk : ∀ d, d ≤ 8 → ReadOk d
  | 0, _ => readOk_of (by omega) (bodyOk_of listOk_zero)
  | d + 1, h => readOk_of h (bodyOk_of (listOk_succ (readOk d (by omega)) (by omega)))

end Go.Proofs.YtaaioaocjfpajaaGreatDoor.Tlv
end

section
/-
  What the reference's read answers.
-/
namespace Go.Proofs.YtaaioaocjfpajaaGreatDoor.Tlv
open Go.RowKit
attribute [local go_sem ↓] Go.wp_at_zero Go.wp_at_succ

theorem addr_plus (b o j : Nat) : (⟨b, o, none⟩ : Addr).add j = ⟨b, o + j, none⟩ := by unfold Addr.add; split <;> simp_all

end Go.Proofs.YtaaioaocjfpajaaGreatDoor.Tlv
end

section
/-
  What the writer's method number of tlv lays.
-/
namespace Go.Proofs.YtaaioaocjfpajaaGreatDoor.Tlv
open Go.RowKit
attribute [local go_sem ↓] Go.wp_at_zero Go.wp_at_succ

/-- The writer at block pb has laid the bytes xs, in a row of its own from block B on. -/
def WInv (B pb : Nat) (xs : List Int) (w : World) : Prop :=
  ∃ v, w.cell? ⟨pb, 0, none⟩ = some v ∧ w.frozen? ⟨pb, 0, none⟩ = false ∧ B ≤ pb ∧ w.ownsRow B 5 1 v xs.length (xs.map (Value.int .u8)) ∧ v.ownBlock ≠ some pb

theorem ownsRow_form {w : World} {base n e size : Nat} {v : Value} {xs : List Value} (h : w.ownsRow base e size v n xs) : ∃ a c, v = .slice a n c := by
  rcases h.2 with ⟨rfl, h0⟩ | ⟨g, cap, cur, rfl, _⟩
  · exact ⟨_, _, by rw [h0]⟩
  · exact ⟨_, _, rfl⟩

theorem ownsRow_set_ne {w : World} {base e size n : Nat} {v : Value} {xs : List Value} (h : w.ownsRow base e size v n xs) {p : Addr} (hp : v.ownBlock ≠ some p.block) (u : Value) : (w.setCell p u).ownsRow base e size v n xs := by
  obtain ⟨h1, h2⟩ := h
  refine ⟨h1, ?_⟩
  rcases h2 with h2 | ⟨g, cap, cur, rfl, hg, hh, r⟩
  · exact Or.inl h2
  · exact Or.inr ⟨g, cap, cur, rfl, hg, by rw [Below.heap_setCell _ _ _ _ (by intro e; exact hp (by simp [Value.ownBlock, e]))]; exact hh, r⟩

/-- More bytes, behind the append that lays them and the store of the new slice into the writer. -/
theorem WInv.push {B pb g cap H : Nat} {ys news : List Int} {v : Value} {w2 : World} (hown : w2.ownsRow B 5 1 (.slice (some ⟨g, 0, none⟩) (ys.length + news.length) cap) (ys.length + news.length) (ys.map (Value.int .u8) ++ news.map (Value.int .u8)))
    (hpb : B ≤ pb) (hpH : pb < H) (hne : v.ownBlock ≠ some pb) (c2 : w2.cell? ⟨pb, 0, none⟩ = some v) (f2 : w2.frozen? ⟨pb, 0, none⟩ = false) (hat : v.ownBlock = some g ∨ g = H) :
    WInv B pb (ys ++ news) (w2.setCell ⟨pb, 0, none⟩ (.slice (some ⟨g, 0, none⟩) (ys.length + news.length) cap)) := by
  have hg : g ≠ pb := by
    rintro rfl
    rcases hat with h | h
    · exact hne h
    · omega
  have hv : (Value.slice (some ⟨g, 0, none⟩) (ys.length + news.length) cap).ownBlock ≠ some pb := by simpa [Value.ownBlock] using hg
  refine ⟨_, World.cell?_setCell_same _ _ _ c2, by rw [World.frozen?_setCell]; exact f2, hpb, ?_, hv⟩
  rw [List.length_append, List.map_append]
  exact ownsRow_set_ne hown hv _

/-- One byte more. -/
theorem byte_new (w : World) (x : Int) : ∀ j u, [Value.int IntKind.u8 x][j]? = some u → (w.alloc (.cells #[.int .u8 x] 5)).cell? ((⟨w.heap.size, 0, none⟩ : Addr).add j) = some u :=
  World.news_of_block (cs := #[Value.int .u8 x]) (t := 5) (fr := (0, 0)) (heap_alloc_new _ _)

theorem shr_at (x : Int) (m : Nat) (h0 : 0 ≤ x) (hm : m ≤ 8) : ∃ y, y = x / 256 ^ m ∧ 0 ≤ y ∧ Op.shift .shr .u64 x .i64 (IntKind.i64.wrap (8 * (m : Int))) = pure (.int .u64 y) := by
  refine ⟨_, rfl, Int.ediv_nonneg h0 (Int.le_of_lt (Int.pow_pos (by omega))), ?_⟩
  have e : IntKind.i64.wrap (8 * (m : Int)) = 8 * m := by rw [IntKind.wrap_i64]; omega
  rw [e, shift_shr .u64 .i64 x (8 * (m : Int)) (by omega) (by simp [IntKind.bits]; omega)]
  have e2 : (8 * (m : Int)).toNat = 8 * m := by omega
  rw [e2, Int.pow_mul]
  rfl

set_option maxHeartbeats 1000000 in
set_option maxRecDepth 100000 in
theorem number_put (B pb : Nat) (xs : List Int) (x : Int) (w : World) (h : WInv B pb xs w) (h0 : 0 ≤ x) (h1 : x ≤ 18446744073709551615) (hl : xs.length ≤ 100000) :
    Calls Tryz.prog 190 #[.pointer (some ⟨pb, 0, none⟩), .int .u64 x] w fun e w' => e = .returned (.tuple #[]) ∧ WInv B pb (xs ++ numB (nsz x).toNat x) w' ∧ Below B w w' := by
  have hb := nsz_bd x
  have H := hid h
  clear h
  obtain ⟨i0, hi, hz0, hz1, hz2⟩ := info_parts Tryz.info5
  go_enter Tryz.func190, Tryz.ntmps190
  go_wp2_with fail
  refine (numberSize_any _ _ h0 h1).mono ?_
  rintro e w1 ⟨rfl, hw1⟩
  rw [hw1]
  clear hw1 w1
  obtain ⟨N, hN⟩ := Int.eq_ofNat_of_zero_le hb.1
  rw [hN] at hb ⊢
  have HN := hid hN
  clear hN
  go_wp2_with fail
  go_loopw [4] (fun i wr => ∃ (k : Nat) (ys : List Int), k ≤ N ∧ i = .int .i64 ((k : Int) - 1) ∧ Hid (WInv B pb ys wr ∧ Below B w wr ∧ ys ++ numB k x = xs ++ numB N x)) (fun i _ => (intOf i + 1).toNat)
  case atStart => exact ⟨N, xs, Nat.le_refl _, rfl, H.out, Below.refl _ _, rfl⟩
  case round =>
    obtain ⟨k, ys, hk, rfl, HI⟩ := hrel
    cases k with
    | zero =>
      go_wp2_with fail
      go_end0
      refine ⟨rfl, ?_, HI.out.2.1⟩
      have e : ys = xs ++ numB N x := by have := HI.out.2.2; simpa [numB] using this
      rw [HN.out, Int.toNat_natCast, ← e]
      exact HI.out.1
    | succ m =>
      obtain ⟨v, c0, f0, hpb, hown, hne⟩ := HI.out.1
      obtain ⟨a, c, rfl⟩ := ownsRow_form hown
      have HO := hid hown
      have HNE := hid hne
      have hyl : ys.length ≤ 100008 := by have := congrArg List.length HI.out.2.2; simp [numB_length] at this; omega
      have hm : (((m + 1 : Nat) : Int) - 1) = m := by omega
      rw [hm]
      clear hown hne
      have hpz : pb < wr.heap.size := World.block_lt_of_cell? wr _ c0
      go_wp2_with fail
      obtain ⟨y, hy, hy0, hsh⟩ : ∃ y, y = x / 256 ^ m ∧ 0 ≤ y ∧ Op.shift .shr .u64 x .i64 (IntKind.i64.wrap (8 * (m : Int))) = pure (.int .u64 y) := shr_at x m h0 (by omega)
      have HY := hid hy
      clear hy
      have HO2 : Hid ((wr.alloc (.cells #[.int .u8 (IntKind.u8.wrap y)] 5)).drew.ownsRow B 5 1 (.slice a ys.length c) ys.length (ys.map (Value.int .u8))) := HO.out.alloc _
      have hnews := hid (byte_new wr (IntKind.u8.wrap y))
      have hone : Hid (∀ u ∈ [Value.int IntKind.u8 (IntKind.u8.wrap y)], u.oneCell' = true) := by intro u hu; simp at hu; subst hu; rfl
      have hB := HI.out.2.1.size
      have hBp : B ≤ wr.heap.size + 1 := by omega
      go_region_law (refine step_append_lies _ (by rfl) (.tmp 16) (.tmp 22) 54 (by rfl) B 5 i0 (.int .u8 0) 1 1 Tryz.underlying54 hi hz0 hz1 hz2 rfl (by omega) (.slice a ys.length c) ys.length (ys.map (Value.int .u8)) (by simp [Act.eval]) HO2.out ⟨wr.heap.size, 0, none⟩ 1 1 [.int .u8 (IntKind.u8.wrap y)] (by simp [Act.eval]) rfl hnews.out hone.out (by omega) (by unfold maxLen; omega) (by omega) (by simp; exact hBp) (wr.heap.size + 1) (by simp) ?_; intro g cap w2 hown2 hgrow2 hat2 hlt2; have c2 : w2.cell? ⟨pb, 0, none⟩ = some (.slice a ys.length c) := (hgrow2.cell_far ⟨pb, 0, none⟩ (by simp; omega) (fun e => HNE.out e.symm)).trans ((World.cell?_alloc_past _ _ _ hpz).trans c0); have f2 : w2.frozen? ⟨pb, 0, none⟩ = false := (hgrow2.frozen_far ⟨pb, 0, none⟩ (by simp; omega) (fun e => HNE.out e.symm)).trans ((World.frozen?_alloc_past _ _ _ hpz).trans f0); have HO3 := hid hown2; have HG := hid hgrow2; have HAT := hid hat2; clear hown2 hgrow2 hat2)
      all_goals go_wp2_with fail
      all_goals
        refine ⟨⟨m, ys ++ [IntKind.u8.wrap y], by omega, rfl, ?_, ?_, ?_⟩, by simp [intOf]⟩
        · exact WInv.push (v := .slice a ys.length c) (H := wr.heap.size + 1) (news := [IntKind.u8.wrap y]) (by simpa using HO3.out) hpb (by omega) HNE.out c2 f2 HAT.out
        · exact (((HI.out.2.1.alloc (by omega) _).drew).grown HG.out (by simp; omega) (fun r e => (HO.out.lt r e).1)).setCell hpb _
        · rw [← HI.out.2.2, List.append_assoc, IntKind.wrap_u8, HY.out]
          rfl

end Go.Proofs.YtaaioaocjfpajaaGreatDoor.Tlv
end

section
/-
  What the writer's method put of tlv lays, and each.
-/
namespace Go.Proofs.YtaaioaocjfpajaaGreatDoor.Tlv
open Go.RowKit
attribute [local go_sem ↓] Go.wp_at_zero Go.wp_at_succ

/-- What put does with a tree that is nested at most n deep. -/
def PutOk (n : Nat) : Prop := ∀ (t : Tr n) (sb sk : Value) (B pb : Nat) (xs : List Int) (room : Int) (w : World), Rep 0 B w n t sb sk → Rt n t room → room ≤ 65535 → WInv B pb xs w → xs.length + (formOf n t).length ≤ 70000 →
  Calls Tryz.prog 173 #[.pointer (some ⟨pb, 0, none⟩), .agg #[.int .i64 t.hd.1, .int .u64 t.hd.2.1, sb, sk]] w fun e w' => e = .returned (.tuple #[]) ∧ WInv B pb (xs ++ formOf n t) w' ∧ Below B w w'

theorem cell_apart {w : World} {p : Addr} {u : Value} {q : Addr} (h : q.block ≠ p.block) : (w.setCell p u).cell? q = w.cell? q := World.cell?_of_block (w := w) (Below.heap_setCell _ _ _ _ h)

theorem addr_add (b o j : Nat) : (⟨b, o, none⟩ : Addr).add j = ⟨b, o + j, none⟩ := by unfold Addr.add; split <;> simp_all

theorem WInv.agree {B pb : Nat} {xs : List Int} {w w' : World} (h : WInv B pb xs w) (hA : Agree B w.heap.size w w') : WInv B pb xs w' := by
  obtain ⟨v, c0, f0, hpb, hown, hne⟩ := h
  have hp : pb < w.heap.size := World.block_lt_of_cell? w _ c0
  exact ⟨v, (hA.cell (p := ⟨pb, 0, none⟩) hpb hp).trans c0, (World.frozen?_of_block (w := w) (a := ⟨pb, 0, none⟩) (hA pb hpb hp)).trans f0, hpb, ownsRow_agree hown hA, hne⟩

theorem WInv.lt {B pb : Nat} {xs : List Int} {w : World} (h : WInv B pb xs w) : B < w.heap.size := by
  obtain ⟨v, c0, f0, hpb, hown, hne⟩ := h
  have hp : pb < w.heap.size := World.block_lt_of_cell? w _ c0
  omega

set_option maxHeartbeats 1000000 in
set_option maxRecDepth 100000 in
theorem each_any {n : Nat} (hn : PutOk n) (ks : List (Tr n)) (v : Value) (B pb : Nat) (xs : List Int) (w : World) (h : KSl 0 B w (Rep 0 B w n) v ks) (hk : ∀ k ∈ ks, ∃ r, r ≤ 65535 ∧ Rt n k r) (hw : WInv B pb xs w)
    (hl : xs.length + ((ks.map (formOf n)).flatten).length ≤ 70000) :
    Calls Tryz.prog 191 #[v, .func (.func 173) #[.pointer (some ⟨pb, 0, none⟩)] #[]] w fun e w' => e = .returned (.tuple #[]) ∧ WInv B pb (xs ++ (ks.map (formOf n)).flatten) w' ∧ Below B w w' := by
  obtain ⟨a, cap, rfl, h2, h3, h4, h5, h7⟩ := h
  have A := hid h7
  have HW := hid hw
  have HR := hid hk
  have HLn := hid hl
  clear h7 h4 hw hk hl
  go_enter Tryz.func191, Tryz.ntmps191
  go_wp2_with fail
  go_loopw [8] (fun i wr => ∃ (k : Nat) (ys : List Int), k ≤ ks.length ∧ i = .int .i64 k ∧ Hid (WInv B pb ys wr ∧ Below B w wr ∧ ys ++ ((ks.drop k).map (formOf n)).flatten = xs ++ (ks.map (formOf n)).flatten)) (fun i _ => ks.length - (intOf i).toNat)
  case atStart => exact ⟨0, xs, Nat.zero_le _, rfl, HW.out, Below.refl _ _, rfl⟩
  case round =>
    obtain ⟨k, ys, hk, rfl, HI⟩ := hrel
    by_cases hlt : k < ks.length
    · obtain ⟨b, o, rfl, _, hbs, hc⟩ := A.out (by intro e; subst e; simp at hlt)
      obtain ⟨sb, sk, c0, c1, c2, c3, hrep⟩ := hc k ks[k] (List.getElem?_eq_getElem hlt)
      clear hc
      obtain ⟨a1, l1, p1, a2, l2, p2, rfl, rfl⟩ := hrep.sl
      have hR := hid hrep
      clear hrep
      have hbel := hid HI.out.2.1
      have d0 := (hbel.out.cell (p := ⟨b, o + k * 4, none⟩) hbs).trans c0
      have d1 := (hbel.out.cell (p := ⟨b, o + k * 4 + 1, none⟩) hbs).trans c1
      have d2 := (hbel.out.cell (p := ⟨b, o + k * 4 + 2, none⟩) hbs).trans c2
      have d3 := (hbel.out.cell (p := ⟨b, o + k * 4 + 3, none⟩) hbs).trans c3
      clear c0 c1 c2 c3
      have hdrop : Hid (ks.drop k = ks[k] :: ks.drop (k + 1)) := List.drop_eq_getElem_cons hlt
      have hmem : Hid (∃ r, r ≤ 65535 ∧ Rt n ks[k] r) := HR.out _ (List.getElem_mem hlt)
      generalize ks[k] = t at *
      have hBz := HI.out.1.lt
      go_wp2_with fail
      obtain ⟨r, hr0, hr1⟩ := hmem.out
      have hlen : ys.length + (formOf n t).length ≤ 70000 := by
        have := congrArg List.length HI.out.2.2
        rw [hdrop.out] at this
        simp only [List.length_append, List.map_cons, List.flatten_cons] at this
        have := HLn.out
        omega
      refine (hn t _ _ B pb ys r _ (hR.out.agree ((Agree.below hbel.out).alloc (by omega) _) (Nat.le_refl _) (Nat.le_refl _)) hr1 hr0 (HI.out.1.agree ((Agree.refl _ _ _).alloc (Nat.le_refl _) _)) hlen).mono ?_
      rintro e w1 ⟨rfl, hw1, hb1⟩
      have HW1 := hid hw1
      have HB1 : Hid (Below B w w1) := (hbel.out.alloc (by omega) _).trans hb1
      clear hw1 hb1
      go_wp2_with fail
      go_roundw
      case rel => exact ⟨k + 1, ys ++ formOf n t, by omega, by go_num, HW1.out, HB1.out, by rw [← HI.out.2.2, hdrop.out]; simp⟩
      case measure => simp [intOf]; omega
    · go_wp2_with fail
      go_end0
      refine ⟨rfl, ?_, HI.out.2.1⟩
      have e : ys = xs ++ (ks.map (formOf n)).flatten := by have := HI.out.2.2; rwa [List.drop_of_length_le (by omega), List.map_nil, List.flatten_nil, List.append_nil] at this
      rw [← e]
      exact HI.out.1

theorem bodyOf_1 {n : Nat} {t : Tr (n + 1)} (h : t.hd.1 = 1) : bodyOf (n + 1) t = numB (nsz t.hd.2.1).toNat t.hd.2.1 := by
  simp only [bodyOf]
  rw [if_pos h]

theorem bodyOf_2 {n : Nat} {t : Tr (n + 1)} (h : t.hd.1 = 2) : bodyOf (n + 1) t = t.hd.2.2 := by
  simp only [bodyOf]
  rw [if_neg (by omega), if_pos h]

theorem set_two (tag h l : Int) (body xs : List Int) : (((xs ++ [tag, 0, 0] ++ body).map (Value.int .u8)).set (xs.length + 1) (.int .u8 h)).set (xs.length + 2) (.int .u8 l) = (xs ++ tag :: h :: l :: body).map (Value.int .u8) := by
  cases xs <;> simp

set_option maxHeartbeats 2000000 in
set_option maxRecDepth 100000 in
theorem put_any : ∀ n, PutOk n
  | 0 => fun t => by cases t
  | n + 1 => by
    intro t sb sk B pb xs room w hrep hrt hroom hw hlen
    have ih := put_any n
    obtain ⟨hn0, hn1, hby, hks⟩ := hrep
    have HB := hid hby
    have HK := hid hks
    obtain ⟨ab, cb, rfl, hrb⟩ := hby
    obtain ⟨ak, ck, rfl, hrk⟩ := hks
    clear hrb hrk
    have hfacts := hid hrt.facts
    have HF : Hid (formOf (n + 1) t = t.hd.1 :: ((bodyOf (n + 1) t).length / 256 : Int) :: ((bodyOf (n + 1) t).length % 256 : Int) :: bodyOf (n + 1) t) := rfl
    have HLn := hid hlen
    have HW := hid hw
    obtain ⟨v, c0, f0, hpb, hown, hne⟩ := hw
    obtain ⟨a, c, rfl⟩ := ownsRow_form hown
    have HO := hid hown
    have HNE := hid hne
    have hpz : pb < w.heap.size := World.block_lt_of_cell? w _ c0
    clear hrt hlen hown hne
    obtain ⟨i0, hi, hz0, hz1, hz2⟩ := info_parts Tryz.info5
    have hT1 := hid (rfl : t.kd = t.kd)
    generalize hk1 : t.kd = ks at *
    generalize hk2 : t.hd.2.2 = bs at *
    generalize hk3 : t.hd.2.1 = num at *
    generalize hk4 : t.hd.1 = tag at *
    have HT1 := hid hk1
    have HT2 := hid hk2
    have HT3 := hid hk3
    have HT4 := hid hk4
    clear hk1 hk2 hk3 hk4 hT1
    go_enter Tryz.func173, Tryz.ntmps173
    go_upto_region 2 with fail
    go_cut [] (fun wx => wx.cell? ⟨w.heap.size, 0, none⟩ = some (.int .i64 tag) ∧ wx.cell? ⟨w.heap.size, 1, none⟩ = some (.int .u64 num) ∧ wx.cell? ⟨w.heap.size, 2, none⟩ = some (.slice ab bs.length cb) ∧
      wx.cell? ⟨w.heap.size, 3, none⟩ = some (.slice ak ks.length ck) ∧ w.heap.size < wx.heap.size ∧ Hid (WInv B pb (xs ++ [tag, 0, 0]) wx ∧ Below B w wx))
    case first =>
      have hw3 : Hid (IntKind.u8.wrap tag = tag) := by
        have := hfacts.out.2.2.1
        rw [Hid, IntKind.wrap_u8]
        omega
      have HO2 : Hid (((w.alloc (Obj.cells #[Value.int IntKind.i64 tag, Value.int IntKind.u64 num, Value.slice ab bs.length cb, Value.slice ak ks.length ck] 156)).alloc (Obj.cells #[Value.int IntKind.u8 (IntKind.u8.wrap tag), Value.int IntKind.u8 0, Value.int IntKind.u8 0] 5)).drew.ownsRow B 5 1 (.slice a xs.length c) xs.length (xs.map (Value.int .u8))) := (HO.out.alloc _).alloc _
      have hnews : Hid (∀ j u, [Value.int IntKind.u8 (IntKind.u8.wrap tag), Value.int IntKind.u8 0, Value.int IntKind.u8 0][j]? = some u → ((w.alloc (Obj.cells #[Value.int IntKind.i64 tag, Value.int IntKind.u64 num, Value.slice ab bs.length cb, Value.slice ak ks.length ck] 156)).alloc (Obj.cells #[Value.int IntKind.u8 (IntKind.u8.wrap tag), Value.int IntKind.u8 0, Value.int IntKind.u8 0] 5)).cell? ((⟨w.heap.size + 1, 0, none⟩ : Addr).add j) = some u) :=
        World.news_of_block (cs := #[Value.int IntKind.u8 (IntKind.u8.wrap tag), Value.int IntKind.u8 0, Value.int IntKind.u8 0]) (t := 5) (fr := (0, 0)) (by have h := heap_alloc_new (w.alloc (Obj.cells #[Value.int IntKind.i64 tag, Value.int IntKind.u64 num, Value.slice ab bs.length cb, Value.slice ak ks.length ck] 156)) (Obj.cells #[Value.int IntKind.u8 (IntKind.u8.wrap tag), Value.int IntKind.u8 0, Value.int IntKind.u8 0] 5); simpa using h)
      have hone : Hid (∀ u ∈ [Value.int IntKind.u8 (IntKind.u8.wrap tag), Value.int IntKind.u8 0, Value.int IntKind.u8 0], u.oneCell' = true) := by
        intro u hu
        simp only [List.mem_cons, List.not_mem_nil, or_false] at hu
        rcases hu with rfl | rfl | rfl <;> rfl
      have hxl : xs.length ≤ 70000 := by have := HLn.out; omega
      go_region_law (refine step_append_lies _ (by rfl) (.tmp 15) (.tmp 19) 54 (by rfl) B 5 i0 (.int .u8 0) 1 1 Tryz.underlying54 hi hz0 hz1 hz2 rfl (by omega) (.slice a xs.length c) xs.length (xs.map (Value.int .u8)) (by simp [Act.eval]) HO2.out ⟨w.heap.size + 1, 0, none⟩ 3 3 [Value.int IntKind.u8 (IntKind.u8.wrap tag), Value.int IntKind.u8 0, Value.int IntKind.u8 0] (by simp [Act.eval]) rfl hnews.out hone.out (by omega) (by unfold maxLen; omega) (by omega) (by simp; omega) (w.heap.size + 1 + 1) (by simp) ?_; intro g cap w2 hown2 hgrow2 hat2 hlt2; have c2 : w2.cell? ⟨pb, 0, none⟩ = some (.slice a xs.length c) := (hgrow2.cell_far ⟨pb, 0, none⟩ (by simp; omega) (fun e => HNE.out e.symm)).trans ((World.cell?_alloc_past _ _ _ (by simp; omega)).trans ((World.cell?_alloc_past _ _ _ hpz).trans c0)); have f2 : w2.frozen? ⟨pb, 0, none⟩ = false := (hgrow2.frozen_far ⟨pb, 0, none⟩ (by simp; omega) (fun e => HNE.out e.symm)).trans ((World.frozen?_alloc_past _ _ _ (by simp; omega)).trans ((World.frozen?_alloc_past _ _ _ hpz).trans f0)); have HO3 := hid hown2; have HG := hid hgrow2; have HAT := hid hat2; clear hown2 hgrow2 hat2)
      all_goals go_wp2_with fail
      all_goals go_meet
      all_goals
        have hbx : some w.heap.size ≠ (Value.slice a xs.length c).ownBlock := fun e => by have := (HO.out.lt _ e.symm).2; omega
        have hcb : ∀ o, w2.cell? ⟨w.heap.size, o, none⟩ = (w.alloc (Obj.cells #[Value.int IntKind.i64 tag, Value.int IntKind.u64 num, Value.slice ab bs.length cb, Value.slice ak ks.length ck] 156)).cell? ⟨w.heap.size, o, none⟩ := fun o => (HG.out.cell_far ⟨w.heap.size, o, none⟩ (by simp; omega) hbx).trans (World.cell?_alloc_past _ _ _ (by simp))
        have hz3 := HG.out.size
        simp at hz3
        refine ⟨?_, ?_, ?_, ?_, by simp; omega, ?_, ?_⟩
        · rw [cell_apart (by simp; omega), hcb]; simp [go_sem]
        · rw [cell_apart (by simp; omega), hcb]; simp [go_sem]
        · rw [cell_apart (by simp; omega), hcb]; simp [go_sem]
        · rw [cell_apart (by simp; omega), hcb]; simp [go_sem]
        · have h := HO3.out
          rw [hw3.out] at h
          exact WInv.push (v := .slice a xs.length c) (H := w.heap.size + 1 + 1) (news := [tag, 0, 0]) (by simpa using h) hpb (by omega) HNE.out c2 f2 HAT.out
        · exact (((((Below.refl _ _).alloc (by omega) _).alloc (by simp; omega) _).drew).grown HG.out (by simp; omega) (fun r e => (HO.out.lt r e).1)).setCell hpb _
    case rest =>
      obtain ⟨b0, b1, b2, b3, hbz, HX⟩ := hcut
      have hbl : Hid ((xs ++ [tag, 0, 0]).length + (bodyOf (n + 1) t).length ≤ 70000) := by have h := HLn.out; rw [HF.out] at h; simp only [List.length_cons] at h; simp only [Hid, List.length_append, List.length_cons, List.length_nil]; omega
      go_upto_block 0 with fail
      go_cut [25, 31, 43] (fun _ _ _ wx => Hid (WInv B pb (xs ++ [tag, 0, 0] ++ bodyOf (n + 1) t) wx ∧ Below B w wx))
      case first =>
        by_cases h1 : tag = 1
        · have hb1 := hid (bodyOf_1 (HT4.out.trans h1))
          subst h1
          go_wp2_with fail
          refine (number_put B pb (xs ++ [1, 0, 0]) num wc HX.out.1 hn0 hn1 (by have := hbl.out; omega)).mono ?_
          rintro e w1 ⟨rfl, hw1, hbe1⟩
          have HW1 := hid hw1
          have HB1 := hid hbe1
          clear hw1 hbe1
          go_wp2_with fail
          go_meet
          refine ⟨?_, HX.out.2.trans HB1.out⟩
          rw [hb1.out, HT3.out]
          exact HW1.out
        · by_cases h2 : tag = 2
          · have hb1 := hid (bodyOf_2 (HT4.out.trans h2))
            subst h2
            obtain ⟨ys, hys⟩ : ∃ ys, xs ++ [2, 0, 0] = ys := ⟨_, rfl⟩
            have HYS := hid hys
            have HX1 := HX.out.1
            have hbl1 := hbl.out
            rw [hys] at HX1 hbl1
            have hyn : ys ≠ [] := by rw [← hys]; simp
            clear hys
            obtain ⟨v', c0', f0', _, hown', hne'⟩ := HX1
            have hpz' : pb < wc.heap.size := by omega
            by_cases hbs : bs = []
            · subst hbs
              rcases hown'.2 with ⟨_, h0⟩ | ⟨g, cap, cur, rfl, hgB, hgg, hgl, hgm, hgs, hgt⟩
              · exact absurd (List.length_eq_zero_iff.1 h0) hyn
              · have HC := hid hgt
                have HO4 := hid hown'
                have HNE4 := hid hne'
                clear hgt hown' hne'
                cases ab
                all_goals
                  go_wp2_with fail
                  go_region
                  all_goals
                    go_wp2_with fail
                    go_meet
                    refine ⟨?_, HX.out.2.drew.setCell hpb _⟩
                    rw [hb1.out, HT2.out, List.append_nil, HYS.out]
                    refine ⟨_, World.cell?_setCell_same _ _ _ c0', by simp [f0'], hpb, ?_, by simpa using HNE4.out⟩
                    have h := ownsRow_set_ne HO4.out (p := ⟨pb, 0, none⟩) HNE4.out (Value.slice (some ⟨g, 0, none⟩) ys.length cap)
                    simpa using h.drew
            · obtain ⟨_, _, ea, _, _, _, _, _, h7⟩ := HB.out
              simp only [Value.slice.injEq, true_and] at ea
              obtain ⟨rfl, rfl⟩ := ea
              obtain ⟨b, o, rfl, _, hbB, hcc⟩ := h7 hbs
              obtain ⟨a5, c5, rfl⟩ := ownsRow_form hown'
              have hbpos : 0 < bs.length := List.length_pos_iff.2 hbs
              have hnews : Hid (∀ j u, (bs.map (Value.int .u8))[j]? = some u → wc.cell? ((⟨b, o, none⟩ : Addr).add j) = some u) := by
                intro j u hj
                have hjn : j < bs.length := by
                  have := (List.getElem?_eq_some_iff.1 hj).1
                  simpa using this
                rw [addr_add, HX.out.2.cell (p := ⟨b, o + j, none⟩) hbB, hcc j hjn]
                simp only [List.getElem?_map, List.getElem?_eq_getElem hjn, Option.map_some, Option.some.injEq] at hj
                simp [List.getElem?_eq_getElem hjn, hj]
              have hone : Hid (∀ u ∈ bs.map (Value.int .u8), u.oneCell' = true) := by intro u hu; obtain ⟨x, _, rfl⟩ := List.mem_map.1 hu; rfl
              have HO4 := hid hown'
              have HNE4 := hid hne'
              have hyl : ys.length + bs.length ≤ 70000 := by rw [hb1.out, HT2.out] at hbl1; exact hbl1
              clear hbl1 hown' hne' hcc h7
              go_wp2_with fail
              go_region_law (refine step_append_lies _ (by rfl) (.tmp 37) (.tmp 39) 54 (by rfl) B 5 i0 (.int .u8 0) 1 1 Tryz.underlying54 hi hz0 hz1 hz2 rfl (by omega) (.slice a5 ys.length c5) ys.length (ys.map (Value.int .u8)) (by simp [Act.eval]) HO4.out.drew ⟨b, o, none⟩ bs.length cb (bs.map (Value.int .u8)) (by simp [Act.eval]) (by simp) hnews.out hone.out (by omega) (by unfold maxLen; omega) (by omega) (by simp; omega) wc.heap.size (by simp) ?_; intro g cap w2 hown2 hgrow2 hat2 hlt2; have c2 : w2.cell? ⟨pb, 0, none⟩ = some (.slice a5 ys.length c5) := (hgrow2.cell_far ⟨pb, 0, none⟩ (by simp; omega) (fun e => HNE4.out e.symm)).trans c0'; have f2 : w2.frozen? ⟨pb, 0, none⟩ = false := (hgrow2.frozen_far ⟨pb, 0, none⟩ (by simp; omega) (fun e => HNE4.out e.symm)).trans f0'; have HO3 := hid hown2; have HG := hid hgrow2; have HAT := hid hat2; clear hown2 hgrow2 hat2)
              all_goals go_wp2_with fail
              all_goals
                go_meet
                refine ⟨?_, (HX.out.2.drew.grown HG.out (by simp; omega) (fun r e => (HO4.out.lt r e).1)).setCell hpb _⟩
                rw [hb1.out, HT2.out, HYS.out]
                exact WInv.push (v := .slice a5 ys.length c5) (H := wc.heap.size) HO3.out hpb (by omega) HNE4.out c2 f2 HAT.out
          · have h3 : tag = 3 := by have := hfacts.out.2.2.1; omega
            have hb1 := hid (bodyOf_kids (HT4.out.trans h3))
            have hkr := hid (hfacts.out.2.2.2 h3)
            subst h3
            go_wp2_with fail
            refine (each_any ih ks _ B pb (xs ++ [3, 0, 0]) wc (HK.out.agree (fun _ _ _ r => r.agree (Agree.below HX.out.2) (Nat.le_refl _) (Nat.le_refl _)) (Agree.below HX.out.2) (Nat.le_refl _) (Nat.le_refl _)) (fun k hk => by obtain ⟨r, h1, h2⟩ := hkr.out k hk; exact ⟨r, by omega, h2⟩) HX.out.1 (by have := hbl.out; rw [hb1.out, HT1.out] at this; exact this)).mono ?_
            rintro e w1 ⟨rfl, hw1, hbe1⟩
            have HW1 := hid hw1
            have HB1 := hid hbe1
            clear hw1 hbe1
            go_wp2_with fail
            go_meet
            refine ⟨?_, HX.out.2.trans HB1.out⟩
            rw [hb1.out, HT1.out]
            exact HW1.out
      case rest =>
        have hroom1 := hfacts.out.2.1
        obtain ⟨body, hbd⟩ : ∃ body, bodyOf (n + 1) t = body := ⟨_, rfl⟩
        rw [hbd] at hcut hroom1 HF
        clear hbl hbd
        have hbl : body.length ≤ 65535 := by omega
        obtain ⟨v', c0', f0', _, hown', hne'⟩ := hcut.out.1
        rcases hown'.2 with ⟨_, h0⟩ | ⟨g, cap, cur, rfl, hgB, hgg, hgl, hgm, hgs, hgt⟩
        · simp at h0
        · have HO4 := hid hown'
          have hgp : g ≠ pb := by simpa [Value.ownBlock] using hne'
          have hx1 : wc.cell? ⟨g, xs.length + 1, none⟩ = some (.int .u8 0) := by rw [hown'.cellAt _ (by simp)]; simp
          have hx2 : wc.cell? ⟨g, xs.length + 2, none⟩ = some (.int .u8 0) := by rw [hown'.cellAt _ (by simp)]; simp
          have hff : ∀ o, wc.frozen? ⟨g, o, none⟩ = false := fun o => hown'.frozenAt o
          have hL : (xs ++ [tag, 0, 0] ++ body).length = xs.length + 3 + body.length := by simp; omega
          rw [hL] at c0'
          have hxl : xs.length ≤ 70000 := by have := HLn.out; omega
          have HNE4 := hid hne'
          clear hL hown' hne' hgg hgl hgm hgs hgt c0 f0 HO HNE hpz b0 b1 b2 b3 hbz
          go_wp2_with fail
          go_big_region
          go_end0
          refine ⟨rfl, ?_, ((hcut.out.2.setCell hgB _).setCell hgB _).drew⟩
          have e1 : ((xs.length : Int) + 3 + body.length - xs.length - 3) = (body.length : Int) := by omega
          rw [HF.out, e1]
          have st := ((HO4.out.stored (xs.length + 1) (.int .u8 ((body.length : Int) / 256))).1.stored (xs.length + 2) (.int .u8 ((body.length : Int) % 256))).1
          rw [set_two] at st
          have hL2 : (xs ++ [tag, 0, 0] ++ body).length = (xs ++ tag :: ((body.length : Int) / 256) :: ((body.length : Int) % 256) :: body).length := by simp
          rw [hL2] at st
          refine ⟨.slice (some ⟨g, 0, none⟩) (xs ++ tag :: ((body.length : Int) / 256) :: ((body.length : Int) % 256) :: body).length cap, ?_, ?_, hpb, st.drew, by simpa [Value.ownBlock] using hgp⟩
          · rw [← hL2, World.cell?_drew, cell_apart (fun e => hgp e.symm), cell_apart (fun e => hgp e.symm), c0']
            simp
            omega
          · rw [World.frozen?_drew, World.frozen?_setCell, World.frozen?_setCell]
            exact f0'

end Go.Proofs.YtaaioaocjfpajaaGreatDoor.Tlv
end

section
/-
  What bodySize, listSize, Size and Right of tlv answer, for whatever tree lies in memory.
-/
namespace Go.Proofs.YtaaioaocjfpajaaGreatDoor.Tlv
open Go.RowKit

/-- What bodySize does with a tree that is nested at most n deep. -/
def SizeOk (n : Nat) : Prop := ∀ (t : Tr n) (sb sk : Value) (room deep : Int) (w : World), Rep 0 w.heap.size w n t sb sk → -3 ≤ room → room ≤ 65535 → 0 ≤ deep → deep ≤ 8 →
  Calls Tryz.prog 98 #[.agg #[.int .i64 t.hd.1, .int .u64 t.hd.2.1, sb, sk], .int .i64 room, .int .i64 deep] w fun e w' =>
    e = .returned (.tuple #[.int .i64 (bsz n t room deep).1, .bool (bsz n t room deep).2]) ∧ Below w.heap.size w w'

theorem lsz_go {α : Type} {f : α → Int → Int → Int × Bool} {ks : List α} {room deep : Int} (h : 0 < deep) : lsz f ks room deep = lszGo f room deep 0 ks := by
  unfold lsz; rw [if_neg (by omega)]

set_option maxHeartbeats 1000000 in
theorem listSize_any {n : Nat} (hn : SizeOk n) (ks : List (Tr n)) (v : Value) (room deep : Int) (w : World) (h : KSl 0 w.heap.size w (Rep 0 w.heap.size w n) v ks) (hr0 : 0 ≤ room) (hr1 : room ≤ 65535) (hd0 : 0 < deep) (hd1 : deep ≤ 8) :
    Calls Tryz.prog 136 #[v, .int .i64 room, .int .i64 deep] w fun e w' => e = .returned (.tuple #[.int .i64 (lsz (bsz n) ks room deep).1, .bool (lsz (bsz n) ks room deep).2]) ∧ Below w.heap.size w w' := by
  rw [lsz_go hd0]
  obtain ⟨a, cap, rfl, h2, h3, h4, h5, h7⟩ := h
  have A := hid h7
  have hdb : (deep == 0) = false := by simp; omega
  clear h7 h4
  go_enter Tryz.func136, Tryz.ntmps136
  go_wp2
  go_loopw [8, 17] (fun c i wr => ∃ (k : Nat) (acc : Int), k ≤ ks.length ∧ i = .int .i64 k ∧ c = .int .i64 acc ∧ 0 ≤ acc ∧ acc ≤ room ∧ Hid (lszGo (bsz n) room deep acc (ks.drop k) = lszGo (bsz n) room deep 0 ks) ∧ Hid (Below w.heap.size w wr)) (fun _ i _ => ks.length - (intOf i).toNat)
  case atStart => exact ⟨0, 0, Nat.zero_le _, rfl, rfl, by omega, by omega, by simp [Hid], Below.refl _ _⟩
  case round =>
    obtain ⟨k, acc, hk, rfl, rfl, ha0, ha1, hgo, hbel⟩ := hrel
    by_cases hlt : k < ks.length
    · obtain ⟨b, o, rfl, _, hbs, hc⟩ := A.out (by intro e; subst e; simp at hlt)
      obtain ⟨sb, sk, c0, c1, c2, c3, hrep⟩ := hc k ks[k] (List.getElem?_eq_getElem hlt)
      clear hc
      obtain ⟨a1, l1, p1, a2, l2, p2, rfl, rfl⟩ := hrep.sl
      have hR := hid hrep
      clear hrep
      have d0 := (hbel.out.cell (p := ⟨b, o + k * 4, none⟩) hbs).trans c0
      have d1 := (hbel.out.cell (p := ⟨b, o + k * 4 + 1, none⟩) hbs).trans c1
      have d2 := (hbel.out.cell (p := ⟨b, o + k * 4 + 2, none⟩) hbs).trans c2
      have d3 := (hbel.out.cell (p := ⟨b, o + k * 4 + 3, none⟩) hbs).trans c3
      clear c0 c1 c2 c3
      have hdrop : Hid (ks.drop k = ks[k] :: ks.drop (k + 1)) := List.drop_eq_getElem_cons hlt
      generalize ks[k] = t at *
      go_wp2_with fail
      have hbz := hbel.out.size
      have hbw : b < wr.heap.size := by omega
      refine (hn t _ _ _ _ _ (hR.out.agree ((Agree.below hbel.out).alloc hbz _) (Nat.le_refl _) (by simp; omega)) (by omega) (by omega) (by omega) (by omega)).mono ?_
      rintro e w1 ⟨rfl, hb1⟩
      have hfit := bsz_fits n t (room - acc - 3) (deep - 1)
      have hst : Hid (lszGo (bsz n) room deep acc (t :: ks.drop (k + 1)) = if (bsz n t (room - acc - 3) (deep - 1)).2 then lszGo (bsz n) room deep (acc + (3 + (bsz n t (room - acc - 3) (deep - 1)).1)) (ks.drop (k + 1)) else (0, false)) := rfl
      have hb2 : Hid (Below w.heap.size w w1) := (hbel.out.alloc hbz _).trans (hb1.mono (by simp; omega))
      clear hb1
      generalize bsz n t (room - acc - 3) (deep - 1) = r at hfit hst ⊢
      obtain ⟨m, ok⟩ := r
      cases ok with
      | true =>
        have hm := hfit rfl
        clear hfit
        simp only at hm
        go_wp2_with fail
        go_roundw
        case rel => exact ⟨k + 1, acc + (3 + m), by omega, by go_num, by go_num, by omega, by omega, by rw [Hid, ← hgo.out, hdrop.out, hst.out]; rfl, hb2⟩
        case measure => simp [intOf]; omega
      | false =>
        clear hfit
        go_wp2_with fail
        go_ret2
        refine ⟨?_, hb2.out⟩
        rw [← hgo.out, hdrop.out, hst.out]
        rfl
    · go_wp2_with fail
      go_ret2
      refine ⟨?_, hbel.out⟩
      rw [← hgo.out, List.drop_of_length_le (by omega)]
      rfl

set_option maxHeartbeats 400000 in
theorem listSize_zero (a : Option Addr) (l c : Nat) (room : Int) (w : World) :
    Calls Tryz.prog 136 #[.slice a l c, .int .i64 room, .int .i64 0] w fun e w' => e = .returned (.tuple #[.int .i64 0, .bool false]) ∧ w' = w := by
  go_enter Tryz.func136, Tryz.ntmps136
  go_wp2_with fail
  go_ret2
  exact ⟨rfl, rfl⟩

theorem bsz_no {n : Nat} {t : Tr (n + 1)} {room deep : Int} (h : room < 0 ∨ oeB t.hd.1 t.hd.2.1 t.hd.2.2.length t.kd.length = false) : bsz (n + 1) t room deep = (0, false) := by
  simp only [bsz]; rw [if_pos h]

theorem bsz_yes {n : Nat} {t : Tr (n + 1)} {room deep : Int} (h0 : 0 ≤ room) (h1 : oeB t.hd.1 t.hd.2.1 t.hd.2.2.length t.kd.length = true) : bsz (n + 1) t room deep =
    if t.hd.1 = 1 then (nsz t.hd.2.1, decide (nsz t.hd.2.1 ≤ room))
    else if t.hd.1 = 2 then ((t.hd.2.2.length : Int), decide ((t.hd.2.2.length : Int) ≤ room))
    else if t.hd.1 = 3 then lsz (bsz n) t.kd room deep
    else (0, false) := by
  simp only [bsz]; rw [if_neg (by rw [h1]; simp; omega)]

set_option maxHeartbeats 1000000 in
theorem bodySize_any : ∀ n, SizeOk n
  | 0 => fun t => by cases t
  | n + 1 => by
    intro t sb sk room deep w hrep hr0 hr1 hd0 hd1
    have ih := bodySize_any n
    obtain ⟨hn0, hn1, hby, hks⟩ := hrep
    have HB := hid hby
    have HK := hid hks
    obtain ⟨ab, cb, rfl, hrb⟩ := hby
    obtain ⟨ak, ck, rfl, hrk⟩ := hks
    clear hrb hrk
    have hoe := bsz_no (t := t) (room := room) (deep := deep)
    have hyes := bsz_yes (t := t) (room := room) (deep := deep)
    have hlb : t.hd.2.2.length ≤ 140737488355328 := by obtain ⟨_, _, _, _, _, _, h, _⟩ := HB.out; exact h
    generalize bsz (n + 1) t room deep = r at *
    generalize hks' : t.kd = ks at *
    have HKS := hid hks'
    clear hks'
    generalize t.hd.2.2 = bs at *
    generalize t.hd.2.1 = num at *
    generalize t.hd.1 = tag at *
    by_cases hneg : room < 0
    · rw [hoe (.inl hneg)]
      clear hoe hyes
      go_enter Tryz.func98, Tryz.ntmps98
      go_wp2_with fail
      go_ret2
      exact ⟨rfl, (Below.refl _ _).alloc (Nat.le_refl _) _⟩
    · cases hq : oeB tag num bs.length ks.length with
      | false =>
        rw [hoe (.inr hq)]
        clear hoe hyes
        have HQ := hid hq
        clear hq
        go_enter Tryz.func98, Tryz.ntmps98
        go_wp2_with fail
        refine (othersEmpty_any _ _ _ _ _ _ _ _ _).mono ?_
        rintro e w1 ⟨rfl, hb1⟩
        rw [HQ.out]
        have hb2 : Hid (Below w.heap.size w w1) := ((Below.refl _ _).alloc (Nat.le_refl _) _).trans (hb1.mono (by simp))
        clear hb1
        go_wp2_with fail
        go_ret2
        exact ⟨rfl, hb2.out⟩
      | true =>
        have hr := hid (hyes (by omega) hq)
        have HQ := hid hq
        clear hoe hyes hq
        have hroom : 0 ≤ room := by omega
        clear hneg
        go_enter Tryz.func98, Tryz.ntmps98
        go_wp2_with fail
        refine (othersEmpty_any _ _ _ _ _ _ _ _ _).mono ?_
        rintro e w1 ⟨rfl, hb1⟩
        rw [HQ.out]
        have hb2 : Hid (Below w.heap.size w w1) := ((Below.refl _ _).alloc (Nat.le_refl _) _).trans (hb1.mono (by simp))
        have hz : w.heap.size < w1.heap.size := by have := hb1.size; simp at this; omega
        obtain ⟨hc, hf⟩ := bcell hb1
        clear hb1 hf
        by_cases h1 : tag = 1
        · subst h1
          go_wp2_with fail
          refine (numberSize_any _ _ hn0 hn1).mono ?_
          rintro e w2 ⟨rfl, hw2⟩
          rw [hw2]
          clear hw2
          go_wp2_with fail
          go_ret2
          refine ⟨?_, hb2.out⟩
          rw [hr.out]
          rfl
        · by_cases h2 : tag = 2
          · subst h2
            go_wp2_with fail
            go_ret2
            refine ⟨?_, hb2.out⟩
            rw [hr.out]
            rfl
          · by_cases h3 : tag = 3
            · subst h3
              by_cases hdz : deep = 0
              · subst hdz
                go_wp2_with fail
                refine (listSize_zero _ _ _ _ _).mono ?_
                rintro e w2 ⟨rfl, hw2⟩
                rw [hw2]
                clear hw2
                go_wp2_with fail
                go_ret2
                refine ⟨?_, hb2.out⟩
                rw [hr.out]
                rfl
              · go_wp2_with fail
                refine (listSize_any ih ks _ _ _ _ (HK.out.agree (fun _ _ _ h => h.agree (Agree.below hb2.out) (Nat.le_refl _) (by omega)) (Agree.below hb2.out) (Nat.le_refl _) (by omega)) hroom hr1 (by omega) hd1).mono ?_
                rintro e w2 ⟨rfl, hb3⟩
                have hb4 : Hid (Below w.heap.size w w2) := hb2.out.trans (hb3.mono (by omega))
                clear hb3
                go_wp2_with fail
                go_ret2
                refine ⟨?_, hb4.out⟩
                rw [hr.out]
                rfl
            · go_wp2_with fail
              go_ret2
              refine ⟨?_, hb2.out⟩
              rw [hr.out, if_neg h1, if_neg h2, if_neg h3]
              rfl

/-- How many bytes a tree's form has; 0: it is not right. -/
def szT (n : Nat) (t : Tr n) : Int := if (bsz n t 65535 8).2 then 3 + (bsz n t 65535 8).1 else 0

set_option maxHeartbeats 400000 in
theorem size_any {n : Nat} (t : Tr n) (sb sk : Value) (w : World) (h : Rep 0 w.heap.size w n t sb sk) :
    Calls Tryz.prog 72 #[.agg #[.int .i64 t.hd.1, .int .u64 t.hd.2.1, sb, sk]] w fun e w' => e = .returned (.int .i64 (szT n t)) ∧ Below w.heap.size w w' := by
  obtain ⟨a1, l1, p1, a2, l2, p2, rfl, rfl⟩ := h.sl
  have H := hid h
  clear h
  have hfit := bsz_fits n t 65535 8
  go_enter Tryz.func72, Tryz.ntmps72
  go_wp2_with fail
  refine (bodySize_any n t _ _ _ _ _ (H.out.agree ((Agree.refl _ _ _).alloc (Nat.le_refl _) _) (Nat.le_refl _) (by simp)) (by omega) (by omega) (by omega) (by omega)).mono ?_
  rintro e w1 ⟨rfl, hb1⟩
  have hb2 : Hid (Below w.heap.size w w1) := ((Below.refl _ _).alloc (Nat.le_refl _) _).trans (hb1.mono (by simp))
  clear hb1
  obtain ⟨r, hr⟩ : ∃ r, bsz n t 65535 8 = r := ⟨_, rfl⟩
  rw [hr] at hfit
  have HR := hid hr
  clear hr
  rw [HR.out]
  obtain ⟨m, ok⟩ := r
  cases ok with
  | true =>
    have hm := hfit rfl
    clear hfit
    simp only at hm
    go_wp2_with fail
    go_ret
    refine ⟨?_, hb2.out⟩
    rw [szT, HR.out]
    rfl
  | false =>
    clear hfit
    go_wp2_with fail
    go_ret
    refine ⟨?_, hb2.out⟩
    rw [szT, HR.out]
    rfl

end Go.Proofs.YtaaioaocjfpajaaGreatDoor.Tlv
end

section
/-
  What Put of tlv answers.
-/
namespace Go.Proofs.YtaaioaocjfpajaaGreatDoor.Tlv
open Go.RowKit

theorem numB_byte : ∀ (k : Nat) (x : Int), ∀ y ∈ numB k x, 0 ≤ y ∧ y ≤ 255
  | 0, _, y, h => by simp [numB] at h
  | k + 1, x, y, h => by
    simp only [numB, List.mem_cons] at h
    rcases h with rfl | h
    · omega
    · exact numB_byte k x y h

/-- A form's bytes are bytes. -/
theorem form_byte : ∀ (n : Nat) (t : Tr n) (L B : Nat) (w : World) (sb sk : Value) (room : Int), Rep L B w n t sb sk → Rt n t room → room ≤ 65535 → ∀ x ∈ formOf n t, 0 ≤ x ∧ x ≤ 255
  | 0, t, _, _, _, _, _, _, _, _, _ => by cases t
  | n + 1, t, L, B, w, sb, sk, room, hr, ht, hroom => by
    obtain ⟨h0, h1, h2, h3⟩ := ht.facts
    obtain ⟨_, _, hby, hks⟩ := hr
    have hb : ∀ x ∈ bodyOf (n + 1) t, 0 ≤ x ∧ x ≤ 255 := by
      rcases h2 with h2 | h2 | h2
      · rw [bodyOf_1 h2]
        exact numB_byte _ _
      · rw [bodyOf_2 h2]
        obtain ⟨_, _, _, _, _, _, _, h, _⟩ := hby
        exact h
      · rw [bodyOf_kids h2]
        intro x hx
        obtain ⟨l, hl, hx⟩ := List.mem_flatten.1 hx
        obtain ⟨k, hk, rfl⟩ := List.mem_map.1 hl
        obtain ⟨r, hr0, hr1⟩ := h3 h2 k hk
        obtain ⟨j, hj⟩ := List.getElem?_of_mem hk
        obtain ⟨_, _, _, _, _, _, _, h7⟩ := hks
        obtain ⟨b, o, _, _, _, hc⟩ := h7 (by intro e; rw [e] at hj; simp at hj)
        obtain ⟨sb', sk', _, _, _, _, hrep⟩ := hc j k hj
        exact form_byte n k L B w sb' sk' r hrep hr1 (by omega) x hx
    intro x hx
    simp only [formOf, List.mem_cons] at hx
    rcases hx with rfl | rfl | rfl | hx
    · omega
    · omega
    · omega
    · exact hb x hx

set_option maxHeartbeats 1000000 in
set_option maxRecDepth 100000 in
theorem Put_yes {n : Nat} (t : Tr n) (sb sk : Value) (w : World) (h : Rep 0 w.heap.size w n t sb sk) (hz : szT n t ≠ 0) :
    Calls Tryz.prog 139 #[.agg #[.int .i64 t.hd.1, .int .u64 t.hd.2.1, sb, sk]] w fun e w' => ∃ v, e = .returned (.tuple #[v, .int .i64 0]) ∧ BySl w.heap.size w'.heap.size w' v (formOf n t) ∧ Below w.heap.size w w' := by
  obtain ⟨a1, l1, p1, a2, l2, p2, rfl, rfl⟩ := h.sl
  have H := hid h
  clear h
  have hok : (bsz n t 65535 8).2 = true := by
    unfold szT at hz
    split at hz
    · assumption
    · exact absurd rfl hz
  have hsz : szT n t = 3 + ((bodyOf n t).length : Int) := by rw [szT, if_pos hok, bsz_len _ _ _ _ hok]
  have hbd := bsz_fits _ _ _ _ hok
  rw [bsz_len _ _ _ _ hok] at hbd
  have HOK := hid hok
  have HSZ := hid hsz
  clear hz hok hsz
  obtain ⟨m, hm⟩ : ∃ m, (bodyOf n t).length = m := ⟨_, rfl⟩
  rw [hm] at hbd
  have HM := hid hm
  clear hm
  go_enter Tryz.func139, Tryz.ntmps139
  go_wp2_with fail
  refine (size_any t _ _ _ (H.out.agree ((Agree.refl _ _ _).alloc (Nat.le_refl _) _) (Nat.le_refl _) (by simp))).mono ?_
  rintro e w1 ⟨rfl, hb1⟩
  rw [HSZ.out, HM.out]
  have hb2 : Hid (Below w.heap.size w w1) := ((Below.refl _ _).alloc (Nat.le_refl _) _).trans (hb1.mono (by simp))
  have hbz : w.heap.size < w1.heap.size := by have := hb1.size; simp at this; omega
  obtain ⟨hc, hf⟩ := bcell hb1
  have b0 : w1.cell? ⟨w.heap.size, 0, none⟩ = some (.int .i64 t.hd.1) := by rw [hc _ _ (by simp)]; simp [go_sem]
  have b1 : w1.cell? ⟨w.heap.size, 1, none⟩ = some (.int .u64 t.hd.2.1) := by rw [hc _ _ (by simp)]; simp [go_sem]
  have b2 : w1.cell? ⟨w.heap.size, 2, none⟩ = some (.slice a1 l1 p1) := by rw [hc _ _ (by simp)]; simp [go_sem]
  have b3 : w1.cell? ⟨w.heap.size, 3, none⟩ = some (.slice a2 l2 p2) := by rw [hc _ _ (by simp)]; simp [go_sem]
  clear hb1 hc hf
  obtain ⟨i0, hi, hz0, hz1, hz2⟩ := info_parts Tryz.info5
  go_wp2_with (at_make; refine wpList_make_own _ rfl _ _ 54 rfl w1.heap.size 5 i0 (.int .u8 0) 1 Tryz.underlying54 hi hz0 hz1 .i64 .i64 _ (3 + m) rfl rfl (by omega) (by rw [hz2]; omega) (by unfold maxLen; omega) (Nat.le_refl _) ?_; intro w2 hown2 hgrow2; have k0 := hgrow2.cell b0 (by simp); have k1 := hgrow2.cell b1 (by simp); have k2 := hgrow2.cell b2 (by simp); have k3 := hgrow2.cell b3 (by simp); have hz3 := hgrow2.size; have HO2 := hid hown2; have HG2 := hid hgrow2; clear b0 b1 b2 b3 hown2 hgrow2; have hw2 : w.heap.size < w2.heap.size := by omega)
  have hrow : w1.heap.size < w2.heap.size := (HO2.out.lt _ rfl).2
  have hA : Agree 0 w.heap.size w (w2.alloc (Obj.cells #[Value.slice (some ⟨w1.heap.size, 0, none⟩) 0 (3 + m)] 255)) := ((Agree.below hb2.out).trans (fun k _ h2 => HG2.out.block k (by omega) (by simp))).alloc (by omega) _
  have hW : WInv w1.heap.size w2.heap.size [] (w2.alloc (Obj.cells #[Value.slice (some ⟨w1.heap.size, 0, none⟩) 0 (3 + m)] 255)) :=
    ⟨_, by simp, by simp, by omega, HO2.out.alloc _, by simp [Value.ownBlock]; omega⟩
  have hfl : (formOf n t).length = 3 + m := by rw [formOf, ← HM.out]; simp only [List.length_cons]; omega
  refine (put_any n t _ _ w1.heap.size w2.heap.size [] 65535 _ (Rep.agree (L' := 0) (B' := w1.heap.size) hA (Nat.le_refl _) (by omega) H.out) ⟨8, HOK.out⟩ (by omega) hW (by rw [hfl]; simp; omega)).mono ?_
  rintro e w3 ⟨rfl, hW3, hb3⟩
  have HW3 := hid hW3
  obtain ⟨v, c3, f3, _, hown3, _⟩ := hW3
  rw [List.nil_append] at hown3
  obtain ⟨av, cv, rfl⟩ := ownsRow_form hown3
  have HO3 := hid hown3
  have hbel : Hid (Below w.heap.size w w3) := ((hb2.out.grown HG2.out (by omega) (by intro k e; cases e)).alloc (by omega) _).trans (hb3.mono (by omega))
  have HFL := hid hfl
  clear hown3 hW hA hb3 hfl
  go_wp2_with fail
  go_ret2
  refine ⟨_, rfl, ?_, hbel.out⟩
  have K := BySl.own HO3.out (by rw [HFL.out]; omega) (form_byte n t _ _ _ _ _ 65535 H.out ⟨8, HOK.out⟩ (by omega))
  exact K.agree (Agree.refl _ _ _) (by omega) (Nat.le_refl _)

end Go.Proofs.YtaaioaocjfpajaaGreatDoor.Tlv
end

section
/-
  Plain mathematics: a right tree's form is read as that tree, whatever is behind it; and bytes that are read are the form of what they are read as.
-/
namespace Go.Proofs.YtaaioaocjfpajaaGreatDoor.Tlv

/-- Lists whose members are the same, one by one. -/
def sameL {α β : Type} (f : α → β → Bool) : List α → List β → Bool
  | [], [] => true
  | a :: xs, b :: ys => f a b && sameL f xs ys
  | _, _ => false

/-- Trees that are the same, however deep they may be. -/
def sameT : (n : Nat) → Tr n → (m : Nat) → Tr m → Bool
  | 0, t, _, _ => by cases t
  | _ + 1, _, 0, u => by cases u
  | n + 1, t, m + 1, u => decide (t.hd = u.hd) && sameL (fun a b => sameT n a m b) t.kd u.kd

theorem sameL_len {α β : Type} {f : α → β → Bool} : ∀ {xs : List α} {ys : List β}, sameL f xs ys = true → xs.length = ys.length
  | [], [], _ => rfl
  | [], _ :: _, h => by simp [sameL] at h
  | _ :: _, [], h => by simp [sameL] at h
  | _ :: _, _ :: _, h => by simp only [sameL, Bool.and_eq_true] at h; simp [sameL_len h.2]

/-- Numbers that fit. -/
def NumOk : (n : Nat) → Tr n → Prop
  | 0, _ => True
  | n + 1, t => 0 ≤ t.hd.2.1 ∧ t.hd.2.1 ≤ 18446744073709551615 ∧ ∀ k ∈ t.kd, NumOk n k

theorem bl_zero (f : Nat) : Lib.bitLenAux f 0 = 0 := by cases f <;> simp [Lib.bitLenAux]

theorem bl_bounds : ∀ (f x : Nat), x < 2 ^ f → x ≠ 0 → 1 ≤ Lib.bitLenAux f x ∧ 2 ^ (Lib.bitLenAux f x - 1) ≤ x ∧ x < 2 ^ Lib.bitLenAux f x := by
  intro f
  induction f with
  | zero => intro x h h0; simp at h; omega
  | succ f ih =>
    intro x h h0
    simp only [Lib.bitLenAux]
    rw [if_neg h0]
    by_cases h2 : x / 2 = 0
    · rw [h2, bl_zero]
      simp
      omega
    · obtain ⟨a, b, c⟩ := ih (x / 2) (by rw [Nat.pow_succ] at h; omega) h2
      obtain ⟨k, hk⟩ : ∃ k, Lib.bitLenAux f (x / 2) = k + 1 := ⟨Lib.bitLenAux f (x / 2) - 1, by omega⟩
      rw [hk] at b c ⊢
      simp only [Nat.add_sub_cancel] at b
      refine ⟨by omega, ?_, ?_⟩
      · rw [show 1 + (k + 1) - 1 = k + 1 by omega, Nat.pow_succ]; omega
      · rw [show 1 + (k + 1) = k + 1 + 1 by omega, Nat.pow_succ]; omega

theorem p256 (k : Nat) : (256 : Int) ^ k = ((2 ^ (8 * k) : Nat) : Int) := by
  rw [Nat.pow_mul]
  simp

/-- How many bytes a number has. -/
theorem nsz_spec (x : Int) (h0 : 0 ≤ x) (h1 : x ≤ 18446744073709551615) : x < 256 ^ (nsz x).toNat ∧ ∀ k, (nsz x).toNat = k + 1 → 256 ^ k ≤ x := by
  by_cases hz : x = 0
  · subst hz
    have e : nsz 0 = 0 := by decide +kernel
    rw [e]
    exact ⟨by simp, fun k hk => by simp at hk⟩
  · obtain ⟨a, b, c⟩ := bl_bounds 64 x.toNat (by simp only [Nat.reducePow]; omega) (by omega)
    have hq : (nsz x).toNat = (Lib.bitLen x.toNat + 7) / 8 := by unfold nsz; omega
    have hbl : Lib.bitLen x.toNat = Lib.bitLenAux 64 x.toNat := rfl
    rw [← hbl] at a b c
    refine ⟨?_, fun k hk => ?_⟩
    · rw [p256, hq]
      have := Nat.pow_le_pow_right (show 0 < 2 by omega) (show Lib.bitLen x.toNat ≤ 8 * ((Lib.bitLen x.toNat + 7) / 8) by omega)
      omega
    · rw [p256]
      have := Nat.pow_le_pow_right (show 0 < 2 by omega) (show 8 * k ≤ Lib.bitLen x.toNat - 1 by omega)
      omega

theorem p256_pos (k : Nat) : (0 : Int) < 256 ^ k := Int.pow_pos (by omega)

theorem fold_numB : ∀ (k : Nat) (x a : Int), (numB k x).foldl (fun a x => a * 256 + x) a = a * 256 ^ k + x % 256 ^ k
  | 0, x, a => by simp [numB, Int.emod_one]
  | k + 1, x, a => by
    simp only [numB, List.foldl_cons]
    rw [fold_numB k x]
    have hp := p256_pos k
    have e1 := Int.mul_ediv_add_emod x (256 ^ k)
    have e2 := Int.mul_ediv_add_emod (x / 256 ^ k) 256
    have r0 := Int.emod_nonneg x (show (256 : Int) ^ k ≠ 0 by omega)
    have r1 := Int.emod_lt_of_pos x hp
    have hm : x % 256 ^ (k + 1) = (x / 256 ^ k % 256) * 256 ^ k + x % 256 ^ k := by
      have ex : x = (x / 256 ^ k % 256) * 256 ^ k + x % 256 ^ k + (256 ^ k * 256) * (x / 256 ^ k / 256) := by
        calc x = 256 ^ k * (x / 256 ^ k) + x % 256 ^ k := e1.symm
          _ = 256 ^ k * (256 * (x / 256 ^ k / 256) + x / 256 ^ k % 256) + x % 256 ^ k := by rw [e2]
          _ = _ := by rw [Int.mul_add, Int.mul_assoc, Int.mul_comm (256 ^ k) (x / 256 ^ k % 256)]; omega
      have hle : (x / 256 ^ k % 256) * 256 ^ k ≤ 255 * 256 ^ k := Int.mul_le_mul_of_nonneg_right (by omega) (by omega)
      have hge : 0 ≤ (x / 256 ^ k % 256) * 256 ^ k := Int.mul_nonneg (by omega) (by omega)
      rw [Int.pow_succ]
      conv => lhs; rw [ex]
      rw [Int.add_mul_emod_self_left]
      exact Int.emod_eq_of_lt (by omega) (by omega)
    rw [hm, Int.pow_succ, Int.add_mul, Int.mul_assoc, Int.mul_comm 256 (256 ^ k), Int.add_assoc]

theorem val_numB (x : Int) (h0 : 0 ≤ x) (h1 : x ≤ 18446744073709551615) : valB (numB (nsz x).toNat x) = x := by
  unfold valB
  rw [fold_numB, Int.zero_mul, Int.zero_add]
  exact Int.emod_eq_of_lt h0 (nsz_spec x h0 h1).1

theorem numB_head (x : Int) (h0 : 0 ≤ x) (h1 : x ≤ 18446744073709551615) : (numB (nsz x).toNat x).head? ≠ some 0 := by
  obtain ⟨a, b⟩ := nsz_spec x h0 h1
  cases hk : (nsz x).toNat with
  | zero => simp [numB]
  | succ k =>
    have hb := b k hk
    rw [hk, Int.pow_succ] at a
    have hp := p256_pos k
    simp only [numB, List.head?_cons, ne_eq, Option.some.injEq]
    have h1 : 1 ≤ x / 256 ^ k := (Int.le_ediv_iff_mul_le hp).2 (by omega)
    have h2 : x / 256 ^ k < 256 := (Int.ediv_lt_iff_lt_mul hp).2 (by omega)
    omega

theorem fold_bytes : ∀ (bs : List Int) (a : Int), bs.foldl (fun a x => a * 256 + x) a = a * 256 ^ bs.length + valB bs
  | [], a => by simp [valB]
  | b :: bs, a => by
    have e : valB (b :: bs) = (b :: bs).foldl (fun a x => a * 256 + x) 0 := rfl
    rw [e]
    simp only [List.foldl_cons, List.length_cons]
    rw [fold_bytes bs (a * 256 + b), fold_bytes bs (0 * 256 + b), Int.pow_succ, Int.add_mul, Int.mul_assoc, Int.mul_comm 256, Int.zero_mul, Int.zero_add, Int.add_assoc]

theorem valB_cons (b : Int) (bs : List Int) : valB (b :: bs) = b * 256 ^ bs.length + valB bs := by
  have e : valB (b :: bs) = bs.foldl (fun a x => a * 256 + x) (0 * 256 + b) := rfl
  rw [e, fold_bytes]
  simp

theorem numB_val : ∀ (bs : List Int) (a : Int), (∀ x ∈ bs, 0 ≤ x ∧ x ≤ 255) → numB bs.length (a * 256 ^ bs.length + valB bs) = bs
  | [], a, _ => rfl
  | b :: bs, a, h => by
    have hb := h b (List.mem_cons_self ..)
    have hv := valB_bd bs (fun x hx => h x (List.mem_cons_of_mem _ hx))
    have hp := p256_pos bs.length
    have e : a * 256 ^ (b :: bs).length + valB (b :: bs) = (a * 256 + b) * 256 ^ bs.length + valB bs := by
      rw [valB_cons, List.length_cons, Int.pow_succ, Int.add_mul, Int.mul_assoc, Int.mul_comm 256, Int.add_assoc]
    rw [e, List.length_cons]
    simp only [numB]
    rw [numB_val bs (a * 256 + b) (fun x hx => h x (List.mem_cons_of_mem _ hx))]
    have e2 : ((a * 256 + b) * 256 ^ bs.length + valB bs) / 256 ^ bs.length = a * 256 + b := by
      rw [Int.add_comm, Int.add_mul_ediv_right _ _ (by omega), Int.ediv_eq_zero_of_lt hv.1 hv.2, Int.zero_add]
    rw [e2]
    congr 1
    omega

theorem pow_le8' (k : Nat) (h : k ≤ 8) : (256 : Int) ^ k ≤ 18446744073709551616 := by
  rw [p256]
  have := Nat.pow_le_pow_right (show 0 < 2 by omega) (show 8 * k ≤ 64 by omega)
  simp only [Nat.reducePow] at this
  omega

theorem nsz_val (bs : List Int) (h : ∀ x ∈ bs, 0 ≤ x ∧ x ≤ 255) (hl : bs.length ≤ 8) (hz : bs.head? ≠ some 0) : (nsz (valB bs)).toNat = bs.length := by
  have hv := valB_bd bs h
  have h8 : (256 : Int) ^ bs.length ≤ 18446744073709551616 := pow_le8' _ hl
  obtain ⟨a, b⟩ := nsz_spec (valB bs) hv.1 (by omega)
  have mono : ∀ i j : Nat, i ≤ j → (256 : Int) ^ i ≤ 256 ^ j := fun i j hij => by
    rw [p256, p256]
    have := Nat.pow_le_pow_right (show 0 < 2 by omega) (show 8 * i ≤ 8 * j by omega)
    omega
  have up : (nsz (valB bs)).toNat ≤ bs.length := by
    cases hk : (nsz (valB bs)).toNat with
    | zero => omega
    | succ k =>
      have := b k hk
      by_cases hlt : bs.length ≤ k
      · have := mono _ _ hlt; omega
      · omega
  have lo : bs.length ≤ (nsz (valB bs)).toNat := by
    cases bs with
    | nil => simp
    | cons c cs =>
      have hc := h c (List.mem_cons_self ..)
      have hcv := valB_bd cs (fun x hx => h x (List.mem_cons_of_mem _ hx))
      have hc0 : c ≠ 0 := by intro e; subst e; simp at hz
      have hp := p256_pos cs.length
      have hge : (256 : Int) ^ cs.length ≤ valB (c :: cs) := by
        rw [valB_cons]
        have : 1 * (256 : Int) ^ cs.length ≤ c * 256 ^ cs.length := Int.mul_le_mul_of_nonneg_right (by omega) (by omega)
        omega
      by_cases hlt : (nsz (valB (c :: cs))).toNat ≤ cs.length
      · have := mono _ _ hlt; omega
      · simp only [List.length_cons]; omega
  omega

theorem lszGo_mono {n : Nat} (hn : ∀ (t : Tr n) (r r' deep : Int), (bsz n t r deep).2 = true → 0 ≤ r' → ((bodyOf n t).length : Int) ≤ r' → (bsz n t r' deep).2 = true) (room room' deep : Int) (ks : List (Tr n)) : ∀ acc acc',
    (lszGo (bsz n) room deep acc ks).2 = true → 0 ≤ acc' → acc' + (((ks.map (formOf n)).flatten).length : Int) ≤ room' → (lszGo (bsz n) room' deep acc' ks).2 = true := by
  induction ks with
  | nil => intro acc acc' _ _ _; rfl
  | cons k ks ih =>
    intro acc acc' h h0 h1
    simp only [lszGo] at h ⊢
    split at h
    · rename_i hk
      simp only [List.map_cons, List.flatten_cons, List.length_append] at h1
      have hf : (formOf n k).length = 3 + (bodyOf n k).length := by simp [formOf]; omega
      have hk' := hn k _ (room' - acc' - 3) _ hk (by omega) (by omega)
      rw [if_pos hk']
      have e := bsz_len n k _ _ hk'
      exact ih _ _ h (by omega) (by omega)
    · simp at h

theorem bsz_mono : ∀ (n : Nat) (t : Tr n) (room room' deep : Int), (bsz n t room deep).2 = true → 0 ≤ room' → ((bodyOf n t).length : Int) ≤ room' → (bsz n t room' deep).2 = true
  | 0, t, _, _, _, _, _, _ => by cases t
  | n + 1, t, room, room', deep, h, h0, h1 => by
    have hl := bsz_len _ _ _ _ h
    rw [← hl] at h1
    simp only [bsz] at h h1 ⊢
    split at h
    · simp at h
    · rename_i hoe
      rw [if_neg hoe] at h1
      have ho := (not_or.1 hoe).2
      rw [if_neg (by simp only [not_or]; exact ⟨by omega, ho⟩)]
      split at h
      · rename_i e; rw [if_pos e] at h1 ⊢; simpa using h1
      · rename_i e1
        rw [if_neg e1] at h1 ⊢
        split at h
        · rename_i e; rw [if_pos e] at h1 ⊢; simpa using h1
        · rename_i e2
          rw [if_neg e2] at h1 ⊢
          split at h
          · rename_i e
            rw [if_pos e] at h1 ⊢
            unfold lsz at h h1 ⊢
            split at h
            · simp at h
            · rename_i e4
              rw [if_neg e4] at h1 ⊢
              have hl := (lszGo_len (bsz_len n) room deep _ 0 h).1
              exact lszGo_mono (bsz_mono n) room room' deep _ 0 0 h (by omega) (by omega)
          · simp at h

theorem oeB_iff {tag num : Int} {lb lk : Nat} : oeB tag num lb lk = true ↔ (tag = 1 ∨ num = 0) ∧ (tag = 2 ∨ lb = 0) ∧ (tag = 3 ∨ lk = 0) := by
  unfold oeB
  simp only [Bool.and_eq_true, Bool.or_eq_true, beq_iff_eq]
  constructor
  · rintro ⟨⟨a, b⟩, c⟩
    exact ⟨a, b.imp id (by omega), c.imp id (by omega)⟩
  · rintro ⟨a, b, c⟩
    exact ⟨⟨a, b.imp id (by omega)⟩, c.imp id (by omega)⟩

theorem rdList_form {d : Nat} (hd : ∀ (bs : List Int) (t : Tr (d + 1)) (m : Nat), (∀ x ∈ bs, 0 ≤ x ∧ x ≤ 255) → rd d bs = some (t, m) → formOf (d + 1) t = bs.take m ∧ (bsz (d + 1) t 65535 d).2 = true) :
    ∀ (k : Nat) (bs : List Int) (ks : List (Tr (d + 1))), (∀ x ∈ bs, 0 ≤ x ∧ x ≤ 255) → rdList (rd d) k bs = some ks → (ks.map (formOf (d + 1))).flatten = bs ∧ ∀ acc : Int, 0 ≤ acc → acc + (bs.length : Int) ≤ 65535 → (lszGo (bsz (d + 1)) 65535 ((d : Int) + 1) acc ks).2 = true := by
  intro k
  induction k with
  | zero =>
    intro bs ks hb h
    cases bs with
    | nil => simp only [rdList, Option.some.injEq] at h; subst h; exact ⟨rfl, fun _ _ _ => rfl⟩
    | cons b bs => simp [rdList] at h
  | succ k ih =>
    intro bs ks hb h
    by_cases hne : bs = []
    · subst hne
      simp only [rdList, Option.some.injEq] at h
      subst h
      exact ⟨rfl, fun _ _ _ => rfl⟩
    · cases hr : rd d bs with
      | none => rw [rdList_fail hne hr] at h; simp at h
      | some tm =>
        obtain ⟨t, m⟩ := tm
        rw [rdList_step hne hr] at h
        simp only [Option.map_eq_some_iff] at h
        obtain ⟨ks', hks, rfl⟩ := h
        obtain ⟨h1, h2⟩ := ih (bs.drop m) ks' (fun x hx => hb x (List.mem_of_mem_drop hx)) hks
        obtain ⟨f1, f2⟩ := hd bs t m hb hr
        have hm := rd_pos hr
        refine ⟨?_, fun acc h0 ha => ?_⟩
        · simp only [List.map_cons, List.flatten_cons]
          rw [h1, f1, List.take_append_drop]
        · have hfl : (formOf (d + 1) t).length = m := by rw [f1]; simp; omega
          have hf : (formOf (d + 1) t).length = 3 + (bodyOf (d + 1) t).length := by simp [formOf]; omega
          have hk' := bsz_mono _ _ _ (65535 - acc - 3) _ f2 (by omega) (by omega)
          simp only [lszGo]
          rw [show (d : Int) + 1 - 1 = d by omega, if_pos hk']
          have e := bsz_len _ _ _ _ hk'
          exact h2 _ (by omega) (by rw [e, List.length_drop]; omega)

theorem bsz_1 {n : Nat} (num : Int) (room deep : Int) (h0 : 0 ≤ room) : bsz (n + 1) (Tr.mk 1 num [] []) room deep = (nsz num, decide (nsz num ≤ room)) := by
  simp only [bsz]
  rw [if_neg (by simp only [not_or]; exact ⟨by omega, by simp [Tr.mk, Tr.hd, Tr.kd, oeB]⟩)]
  rfl

theorem bsz_2 {n : Nat} (bs : List Int) (room deep : Int) (h0 : 0 ≤ room) : bsz (n + 1) (Tr.mk 2 0 bs []) room deep = ((bs.length : Int), decide ((bs.length : Int) ≤ room)) := by
  simp only [bsz]
  rw [if_neg (by simp only [not_or]; exact ⟨by omega, by simp [Tr.mk, Tr.hd, Tr.kd, oeB]⟩)]
  rfl

theorem bsz_3 {n : Nat} (ks : List (Tr n)) (room deep : Int) (h0 : 0 ≤ room) : bsz (n + 1) (Tr.mk 3 0 [] ks) room deep = lsz (bsz n) ks room deep := by
  simp only [bsz]
  rw [if_neg (by simp only [not_or]; exact ⟨by omega, by simp [Tr.mk, Tr.hd, Tr.kd, oeB]⟩)]
  rfl

theorem rd_form_of {d : Nat} (hkid : ∀ (body : List Int) (ks : List (Tr d)), (∀ x ∈ body, 0 ≤ x ∧ x ≤ 255) → rdKids d body = some ks → (ks.map (formOf d)).flatten = body ∧ ((body.length : Int) ≤ 65535 → (lsz (bsz d) ks 65535 d).2 = true))
    (bs : List Int) (t : Tr (d + 1)) (m : Nat) (hb : ∀ x ∈ bs, 0 ≤ x ∧ x ≤ 255) (h : rd d bs = some (t, m)) : formOf (d + 1) t = bs.take m ∧ (bsz (d + 1) t 65535 d).2 = true := by
  rw [rd_eq, rd1] at h
  split at h
  · simp at h
  · rename_i h3
    split at h
    · simp at h
    · rename_i hE
      simp only [Option.map_eq_some_iff, Prod.mk.injEq] at h
      obtain ⟨t', hbody, rfl, rfl⟩ := h
      match bs, h3 with
      | [], h3 => simp at h3
      | [_], h3 => simp at h3
      | [_, _], h3 => simp at h3
      | b0 :: b1 :: b2 :: r, h3 =>
        have c0 := hb b0 (by simp)
        have c1 := hb b1 (by simp)
        have c2 := hb b2 (by simp)
        have eE : endOf (b0 :: b1 :: b2 :: r) = 3 + (b1 * 256 + b2).toNat := rfl
        rw [eE] at hE hbody ⊢
        obtain ⟨n, hn⟩ : ∃ n : Nat, b1 * 256 + b2 = n := ⟨(b1 * 256 + b2).toNat, by omega⟩
        rw [hn] at hE hbody ⊢
        simp only [Int.toNat_natCast, List.length_cons] at hE hbody ⊢
        have et : (b0 :: b1 :: b2 :: r).take (3 + n) = b0 :: b1 :: b2 :: r.take n := by rw [show 3 + n = n + 1 + 1 + 1 by omega]; rfl
        rw [et] at hbody ⊢
        have hd3 : (b0 :: b1 :: b2 :: r.take n).drop 3 = r.take n := rfl
        rw [hd3] at hbody
        have e0 : (b0 :: b1 :: b2 :: r).getD 0 0 = b0 := rfl
        rw [e0] at hbody
        have hlen : (r.take n).length = n := by rw [List.length_take]; omega
        have hbr : ∀ x ∈ r.take n, 0 ≤ x ∧ x ≤ 255 := fun x hx => hb x (by simp [List.mem_of_mem_take hx])
        obtain ⟨body, hB⟩ : ∃ body, r.take n = body := ⟨_, rfl⟩
        rw [hB] at hbody hlen hbr ⊢
        have fin : t'.hd.1 = b0 → bodyOf (d + 1) t' = body → formOf (d + 1) t' = b0 :: b1 :: b2 :: body := by
          intro e1 e2
          simp only [formOf]
          rw [e1, e2, hlen]
          congr 1
          congr 1
          · omega
          · congr 1
            omega
        unfold rdBody at hbody
        split at hbody
        · rename_i e1
          split at hbody
          · simp at hbody
          · rename_i hno
            simp only [not_or, Nat.not_lt] at hno
            simp only [Option.some.injEq] at hbody
            subst hbody
            have hv := valB_bd body hbr
            have h8 := pow_le8' _ hno.1
            refine ⟨fin (by simp [Tr.mk, Tr.hd, e1]) ?_, ?_⟩
            · rw [bodyOf_1 rfl]
              show numB (nsz (valB body)).toNat (valB body) = body
              rw [nsz_val body hbr hno.1 hno.2]
              have := numB_val body 0 hbr
              simpa using this
            · rw [bsz_1 _ _ _ (by omega)]
              have := nsz_bd (valB body)
              simp
              omega
        · split at hbody
          · rename_i e1 e2
            simp only [Option.some.injEq] at hbody
            subst hbody
            refine ⟨fin (by simp [Tr.mk, Tr.hd, e2]) (bodyOf_2 rfl), ?_⟩
            rw [bsz_2 _ _ _ (by omega)]
            simp
            omega
          · split at hbody
            · rename_i e1 e2 e3
              simp only [Option.map_eq_some_iff] at hbody
              obtain ⟨ks, hks, rfl⟩ := hbody
              obtain ⟨k1, k2⟩ := hkid body ks hbr hks
              refine ⟨fin (by simp [Tr.mk, Tr.hd, e3]) ?_, ?_⟩
              · rw [bodyOf_kids rfl]
                exact k1
              · rw [bsz_3 _ _ _ (by omega)]
                exact k2 (by omega)
            · simp at hbody

/-- Bytes that are read are the form of what they are read as. -/
theorem rd_form : ∀ (d : Nat) (bs : List Int) (t : Tr (d + 1)) (m : Nat), (∀ x ∈ bs, 0 ≤ x ∧ x ≤ 255) → rd d bs = some (t, m) → formOf (d + 1) t = bs.take m ∧ (bsz (d + 1) t 65535 d).2 = true := by
  intro d
  induction d with
  | zero => exact rd_form_of (fun body ks _ h => by simp [rdKids] at h)
  | succ d ih =>
    refine rd_form_of (fun body ks hb h => ?_)
    simp only [rdKids] at h
    obtain ⟨h1, h2⟩ := rdList_form ih _ _ _ hb h
    refine ⟨h1, fun hl => ?_⟩
    unfold lsz
    rw [if_neg (by omega)]
    exact h2 0 (by omega) (by omega)

theorem rdList_same {n d : Nat} (hn : ∀ (t : Tr n) (room : Int) (rest : List Int), NumOk n t → room ≤ 65535 → (bsz n t room d).2 = true → ∃ t', rd d (formOf n t ++ rest) = some (t', (formOf n t).length) ∧ sameT (d + 1) t' n t = true) (room : Int) (hr : room ≤ 65535) (ks : List (Tr n)) : ∀ acc : Int, 0 ≤ acc → (∀ k ∈ ks, NumOk n k) →
    (lszGo (bsz n) room ((d : Int) + 1) acc ks).2 = true → ∀ fuel, ((ks.map (formOf n)).flatten).length ≤ fuel → ∃ ks', rdList (rd d) fuel (ks.map (formOf n)).flatten = some ks' ∧ sameL (fun a b => sameT (d + 1) a n b) ks' ks = true := by
  induction ks with
  | nil => intro acc _ _ _ fuel _; exact ⟨[], by cases fuel <;> rfl, rfl⟩
  | cons k ks ih =>
    intro acc h0 hnum h fuel hfuel
    simp only [lszGo] at h
    split at h
    · rename_i hk
      rw [show (d : Int) + 1 - 1 = d by omega] at hk h
      have hfit := bsz_fits _ _ _ _ hk
      obtain ⟨k', e1, e2⟩ := hn k _ ((ks.map (formOf n)).flatten) (hnum k (List.mem_cons_self ..)) (by omega) hk
      have hf : (formOf n k).length = 3 + (bodyOf n k).length := by simp [formOf]; omega
      simp only [List.map_cons, List.flatten_cons, List.length_append] at hfuel ⊢
      obtain ⟨f, rfl⟩ : ∃ f, fuel = f + 1 := ⟨fuel - 1, by omega⟩
      obtain ⟨ks', e3, e4⟩ := ih _ (by omega) (fun k hk => hnum k (List.mem_cons_of_mem _ hk)) h f (by omega)
      refine ⟨k' :: ks', ?_, by simp [sameL, e2, e4]⟩
      rw [rdList_step (by intro e; have := congrArg List.length e; rw [List.length_append, hf, List.length_nil] at this; omega) e1, List.drop_left, e3]
      rfl
    · simp at h

/-- A right tree's form is read as that tree, whatever is behind it. -/
theorem form_rd : ∀ (n d : Nat) (t : Tr n) (room : Int) (rest : List Int), NumOk n t → room ≤ 65535 → (bsz n t room d).2 = true → ∃ t', rd d (formOf n t ++ rest) = some (t', (formOf n t).length) ∧ sameT (d + 1) t' n t = true
  | 0, _, t, _, _, _, _, _ => by cases t
  | n + 1, d, t, room, rest, hnum, hroom, h => by
    have hfit := bsz_fits _ _ _ _ h
    have hlen := bsz_len _ _ _ _ h
    obtain ⟨body, hB⟩ : ∃ body, bodyOf (n + 1) t = body := ⟨_, rfl⟩
    have hL : ((body.length : Nat) : Int) ≤ 65535 := by rw [← hB]; omega
    have hform : formOf (n + 1) t = t.hd.1 :: ((body.length : Int) / 256) :: ((body.length : Int) % 256) :: body := by simp only [formOf]; rw [hB]
    have key : ∀ t' : Tr (d + 1), rdBody d (rdKids d) t.hd.1 body = some t' → rd d (formOf (n + 1) t ++ rest) = some (t', (formOf (n + 1) t).length) := by
      intro t' ht'
      rw [rd_eq, rd1, hform]
      have eE : endOf (t.hd.1 :: ((body.length : Int) / 256) :: ((body.length : Int) % 256) :: body ++ rest) = 3 + body.length := by
        show 3 + ((body.length : Int) / 256 * 256 + (body.length : Int) % 256).toNat = 3 + body.length
        omega
      rw [if_neg (by simp), eE, if_neg (by simp; omega)]
      have e2 : ((t.hd.1 :: ((body.length : Int) / 256) :: ((body.length : Int) % 256) :: body ++ rest).take (3 + body.length)).drop 3 = body := by
        rw [show 3 + body.length = body.length + 1 + 1 + 1 by omega]
        show (body ++ rest).take body.length = body
        exact List.take_left
      rw [e2]
      show (rdBody d (rdKids d) t.hd.1 body).map _ = _
      rw [ht']
      simp
      omega
    obtain ⟨hn0, hn1, hn2⟩ := hnum
    have htag := (Rt.facts (t := t) (room := room) ⟨_, h⟩).2.2.1
    have hoe : oeB t.hd.1 t.hd.2.1 t.hd.2.2.length t.kd.length = true := by
      simp only [bsz] at h
      split at h
      · simp at h
      · rename_i hc
        simpa using (not_or.1 hc).2
    obtain ⟨o1, o2, o3⟩ := oeB_iff.1 hoe
    have hdx : ∀ (a b : Int) (c : List Int) (ks : List (Tr d)), t.hd.1 = a → t.hd.2.1 = b → t.hd.2.2 = c → sameL (fun a b => sameT d a n b) ks t.kd = true → sameT (d + 1) (Tr.mk a b c ks) (n + 1) t = true := by
      intro a b c ks h1 h2 h3 h4
      simp only [sameT, Bool.and_eq_true, decide_eq_true_eq]
      exact ⟨Prod.ext h1.symm (Prod.ext h2.symm h3.symm), h4⟩
    have hnil : t.kd.length = 0 → sameL (fun (a : Tr d) b => sameT d a n b) [] t.kd = true := by
      intro e
      rw [List.eq_nil_of_length_eq_zero e]
      rfl
    rcases htag with e | e | e
    · have hb : numB (nsz t.hd.2.1).toNat t.hd.2.1 = body := by rw [← hB, bodyOf_1 e]
      refine ⟨Tr.mk 1 (valB body) [] [], key _ ?_, hdx _ _ _ _ e ?_ ?_ (hnil (by omega))⟩
      · unfold rdBody
        rw [if_pos e, if_neg]
        rw [← hb, numB_length]
        have := nsz_bd t.hd.2.1
        simp only [not_or]
        exact ⟨by omega, numB_head _ hn0 hn1⟩
      · rw [← hb]
        exact (val_numB _ hn0 hn1).symm
      · exact List.eq_nil_of_length_eq_zero (by omega)
    · have hb : t.hd.2.2 = body := by rw [← hB, bodyOf_2 e]
      refine ⟨Tr.mk 2 0 body [], key _ ?_, hdx _ _ _ _ e (by omega) hb (hnil (by omega))⟩
      unfold rdBody
      rw [if_neg (by omega), if_pos e]
    · have hb : (t.kd.map (formOf n)).flatten = body := by rw [← hB, bodyOf_kids e]
      simp only [bsz] at h
      rw [if_neg (by simp only [not_or]; exact ⟨by omega, by rw [hoe]; simp⟩), if_neg (by omega), if_neg (by omega), if_pos e] at h
      unfold lsz at h
      split at h
      · simp at h
      · rename_i hd0
        obtain ⟨d', rfl⟩ : ∃ d', d = d' + 1 := ⟨d - 1, by omega⟩
        obtain ⟨ks', e1, e2⟩ := rdList_same (fun t room rest a b c => form_rd n d' t room rest a b c) room hroom t.kd 0 (by omega) hn2 (by simpa using h) body.length (by rw [hb]; omega)
        refine ⟨Tr.mk 3 0 [] ks', key _ ?_, hdx _ _ _ _ e (by omega) (List.eq_nil_of_length_eq_zero (by omega)) e2⟩
        unfold rdBody
        rw [if_neg (by omega), if_neg (by omega), if_pos e]
        show (rdList (rd d') body.length body).map _ = _
        rw [← hb] at e1 ⊢
        rw [e1]
        rfl

/-- What is behind a value changes nothing. -/
theorem rd_append {d : Nat} {bs : List Int} {t : Tr (d + 1)} {m : Nat} (h : rd d bs = some (t, m)) (rest : List Int) : rd d (bs ++ rest) = some (t, m) := by
  rw [rd_eq, rd1] at h ⊢
  split at h
  · simp at h
  · rename_i h3
    have hE : endOf (bs ++ rest) = endOf bs := by
      unfold endOf
      rw [List.getD_eq_getElem?_getD, List.getD_eq_getElem?_getD, List.getD_eq_getElem?_getD, List.getD_eq_getElem?_getD, List.getElem?_append_left (by omega), List.getElem?_append_left (by omega)]
    split at h
    · simp at h
    · rename_i hl
      rw [if_neg (by simp; omega), hE, if_neg (by simp; omega), List.take_append_of_le_length (by omega)]
      have h0 : (bs ++ rest).getD 0 0 = bs.getD 0 0 := by
        rw [List.getD_eq_getElem?_getD, List.getD_eq_getElem?_getD, List.getElem?_append_left (by omega)]
      rw [h0]
      exact h

/-- A form that is cut off is none. -/
theorem cut_none {n : Nat} {t : Tr n} (hn : NumOk n t) (h : (bsz n t 65535 8).2 = true) {c : Nat} (hc : c < (formOf n t).length) : rd 8 ((formOf n t).take c) = none := by
  cases e : rd 8 ((formOf n t).take c) with
  | none => rfl
  | some tm =>
    obtain ⟨t', m⟩ := tm
    have hm := (rd_pos e).2
    have e2 := rd_append e ((formOf n t).drop c)
    rw [List.take_append_drop] at e2
    obtain ⟨t'', e3, _⟩ := form_rd n 8 t 65535 [] hn (by omega) h
    rw [List.append_nil, e2] at e3
    simp only [Option.some.injEq, Prod.mk.injEq] at e3
    rw [List.length_take] at hm
    omega

end Go.Proofs.YtaaioaocjfpajaaGreatDoor.Tlv
end

section
/-
  What Get of tlv answers.
-/
namespace Go.Proofs.YtaaioaocjfpajaaGreatDoor.Tlv
open Go.RowKit

/-- The tree that bytes are. -/
def getT (bs : List Int) : Option (Tr 9) := match rd 8 bs with
  | some (t, m) => if m = bs.length then some t else none
  | none => none

set_option maxHeartbeats 1000000 in
set_option maxRecDepth 100000 in
theorem get_any (v : Value) (bs : List Int) (w : World) (h : BySl 0 w.heap.size w v bs) :
    Calls Tryz.prog 169 #[v] w fun e w' => ((getT bs = none ∧ e = .returned (.tuple #[.agg #[.int .i64 0, .int .u64 0, .slice none 0 0, .slice none 0 0], .int .i64 3])) ∨
      (∃ (t : Tr 9) (sb sk : Value), getT bs = some t ∧ e = .returned (.tuple #[.agg #[.int .i64 t.hd.1, .int .u64 t.hd.2.1, sb, sk], .int .i64 0]) ∧ Rep w.heap.size w'.heap.size w' 9 t sb sk)) ∧ Below w.heap.size w w' := by
  obtain ⟨a, cap, rfl, hr⟩ := id h
  clear hr
  have H := hid h
  clear h
  obtain ⟨R, hR⟩ : ∃ R, getT bs = R := ⟨_, rfl⟩
  rw [hR]
  have HR := hid hR
  clear hR
  have hS : w.heap.size ≤ (w.alloc (Obj.cells #[Value.int IntKind.i64 0, Value.int IntKind.u64 0, Value.slice none 0 0, Value.slice none 0 0] 156)).heap.size := by simp
  have hbs : Hid (BySl 0 (w.alloc (Obj.cells #[Value.int IntKind.i64 0, Value.int IntKind.u64 0, Value.slice none 0 0, Value.slice none 0 0] 156)).heap.size (w.alloc (Obj.cells #[Value.int IntKind.i64 0, Value.int IntKind.u64 0, Value.slice none 0 0, Value.slice none 0 0] 156)) (.slice a bs.length cap) bs) := H.out.agree ((Agree.refl _ _ _).alloc (Nat.le_refl _) _) (Nat.le_refl _) hS
  have hrd := hid (readOk 8 (Nat.le_refl _))
  clear hS
  obtain ⟨L, hL⟩ : ∃ L, bs.length = L := ⟨_, rfl⟩
  have HL := hid hL
  rw [hL] at hbs ⊢
  clear hL
  go_enter Tryz.func169, Tryz.ntmps169
  go_wp2_with fail
  refine (hrd.out _ bs _ hbs.out).mono ?_
  rintro e w1 ⟨hres, hb1⟩
  obtain ⟨hz, g0, g1, g2, g3, gf, hbel⟩ := res_facts hb1
  have HB := hid hbel
  clear hb1 hbel
  rcases hres with ⟨hn, rfl⟩ | ⟨t, m, sb, sk, hs, rfl, hr1⟩
  · have HN := hid hn
    clear hn
    go_wp2_with fail
    obtain ⟨q0, q1, q2, q3⟩ := set4_read (u0 := .int .i64 0) (u1 := .int .u64 0) (u2 := .slice none 0 0) (u3 := .slice none 0 0) g0 g1 g2 g3
    refine bodyPost_ret (v := .tuple #[.agg #[.int .i64 0, .int .u64 0, .slice none 0 0, .slice none 0 0], .int .i64 3]) (by simp [results, Tryz.results169, go_sem, q0, q1, q2, q3, hz]) rfl ⟨.inl ⟨?_, rfl⟩, (HB.out.trans (bset4 (Nat.le_refl _) _ _ _ _)).alloc (by simp; omega) _⟩
    rw [← HR.out, getT, HN.out]
  · obtain ⟨a1, l1, p1, a2, l2, p2, rfl, rfl⟩ := hr1.sl
    have HS := hid hs
    have Hr1 := hid hr1
    clear hs hr1
    by_cases hm : m = L
    · have hmb : ((m : Int) != (L : Int)) = false := by simp [hm]
      have HM := hid hm
      clear hm
      go_wp2_with fail
      obtain ⟨q0, q1, q2, q3⟩ := set4_read (u0 := .int .i64 t.hd.1) (u1 := .int .u64 t.hd.2.1) (u2 := .slice a1 l1 p1) (u3 := .slice a2 l2 p2) g0 g1 g2 g3
      refine bodyPost_ret (v := .tuple #[.agg #[.int .i64 t.hd.1, .int .u64 t.hd.2.1, .slice a1 l1 p1, .slice a2 l2 p2], .int .i64 0]) (by simp [results, Tryz.results169, go_sem, q0, q1, q2, q3, hz]) rfl ⟨.inr ⟨t, .slice a1 l1 p1, .slice a2 l2 p2, ?_, rfl, ?_⟩, (HB.out.trans (bset4 (Nat.le_refl _) _ _ _ _)).alloc (by simp; omega) _⟩
      · rw [← HR.out, getT, HS.out]
        simp only
        rw [if_pos (by rw [HL.out]; exact HM.out)]
      · exact Rep.agree (L' := w.heap.size) ((Agree.set4 w1 (.inl (by simp)) _ _ _ _).alloc (by simp) _) (by simp) (by simp) Hr1.out
    · have hmb : ((m : Int) != (L : Int)) = true := by simp; omega
      have HM := hid hm
      clear hm
      go_wp2_with fail
      obtain ⟨q0, q1, q2, q3⟩ := set4_read (u0 := .int .i64 0) (u1 := .int .u64 0) (u2 := .slice none 0 0) (u3 := .slice none 0 0) g0 g1 g2 g3
      refine bodyPost_ret (v := .tuple #[.agg #[.int .i64 0, .int .u64 0, .slice none 0 0, .slice none 0 0], .int .i64 3]) (by simp [results, Tryz.results169, go_sem, q0, q1, q2, q3, hz]) rfl ⟨.inl ⟨?_, rfl⟩, (HB.out.trans (bset4 (Nat.le_refl _) _ _ _ _)).alloc (by simp; omega) _⟩
      rw [← HR.out, getT, HS.out]
      simp only
      rw [if_neg (by rw [HL.out]; exact HM.out)]

end Go.Proofs.YtaaioaocjfpajaaGreatDoor.Tlv
end

section
/-
  What forms and bytes have in common, as the statements of layers above need it.
-/
namespace Go.Proofs.YtaaioaocjfpajaaGreatDoor.Tlv
open Go.RowKit

theorem bytes_news {B : Nat} {w w' : World} {ad : Addr} {l c : Nat} {bs : List Int} (h : BySl 0 B w (.slice (some ad) l c) bs) (hb : Below B w w') : ∀ j u, (bs.map (Value.int .u8))[j]? = some u → w'.cell? (ad.add j) = some u := by
  intro j u hj
  have hjn : j < bs.length := by
    have := (List.getElem?_eq_some_iff.1 hj).1
    simpa using this
  obtain ⟨a', c', e, _, _, _, _, _, h7⟩ := h
  simp only [Value.slice.injEq] at e
  obtain ⟨rfl, _, _⟩ := e
  obtain ⟨b, o, e, _, hbB, hc⟩ := h7 (by intro e; subst e; simp at hjn)
  simp only [Option.some.injEq] at e
  subst e
  rw [addr_plus, hb.cell (p := ⟨b, o + j, none⟩) hbB, hc j hjn]
  simp only [List.getElem?_map, List.getElem?_eq_getElem hjn, Option.map_some, Option.some.injEq] at hj
  simp [List.getElem?_eq_getElem hjn, hj]

theorem BySl.bytes {L B : Nat} {w : World} {v : Value} {bs : List Int} (h : BySl L B w v bs) : ∀ x ∈ bs, 0 ≤ x ∧ x ≤ 255 := by
  obtain ⟨_, _, _, _, _, _, _, h6, _⟩ := h
  exact h6

end Go.Proofs.YtaaioaocjfpajaaGreatDoor.Tlv
end
