/- Of the proof: the texts TlvClone, TlvBack, TlvForm, TlvRead, TlvReadNum, TlvReadList, TlvReadBody, TlvReadTop, TlvRefRead, TlvNumber, TlvPut, TlvSize, TlvPutTop, TlvTrip, TlvGet, TlvKit, CrcPlain, one behind the other. -/
import Derived.Test.YthmimipoooemjaaGreatDoorB3
import Derived.Deep.RegionHeld3
import Derived.Deep.DeepCutAuto
import Derived.Deep.DrawnRows
import Derived.Deep.LoopGhost
import Derived.Deep.RegionLaw
import Derived.Deep.AppendLies
import Derived.Deep.CutBlock
import Derived.Laws.AppendOwnNone
import Derived.WalkKit
section
/-
  What clone and Many of tlv make: the tree that came in, in new memory.
-/
namespace Go.Proofs.YthmimipoooemjaaGreatDoor.Tlv
open Go.RowKit
attribute [local go_sem ↓] Go.wp_at_zero Go.wp_at_succ

theorem cell_far {w : World} {p : Addr} {u : Value} {q : Addr} (h : q.block ≠ p.block) : (w.setCell p u).cell? q = w.cell? q := World.cell?_of_block (w := w) (Below.heap_setCell _ _ _ _ h)

theorem cell_far4 {w : World} {b o0 o1 o2 o3 : Nat} {u0 u1 u2 u3 : Value} {q : Addr} (h : q.block ≠ b) : ((((w.setCell ⟨b, o0, none⟩ u0).setCell ⟨b, o1, none⟩ u1).setCell ⟨b, o2, none⟩ u2).setCell ⟨b, o3, none⟩ u3).cell? q = w.cell? q := by
  rw [cell_far h, cell_far h, cell_far h, cell_far h]

theorem cell_set_ne {w : World} {b i j : Nat} {u : Value} (h : i ≠ j) : (w.setCell ⟨b, i, none⟩ u).cell? ⟨b, j, none⟩ = w.cell? ⟨b, j, none⟩ := World.cell?_setCell_other _ _ _ _ (fun e => h (congrArg Addr.off e))

theorem set4_read {w : World} {b : Nat} {u0 u1 u2 u3 x0 x1 x2 x3 : Value} (h0 : w.cell? ⟨b, 0, none⟩ = some x0) (h1 : w.cell? ⟨b, 1, none⟩ = some x1) (h2 : w.cell? ⟨b, 2, none⟩ = some x2) (h3 : w.cell? ⟨b, 3, none⟩ = some x3) :
    ((((w.setCell ⟨b, 0, none⟩ u0).setCell ⟨b, 1, none⟩ u1).setCell ⟨b, 2, none⟩ u2).setCell ⟨b, 3, none⟩ u3).cell? ⟨b, 0, none⟩ = some u0 ∧
    ((((w.setCell ⟨b, 0, none⟩ u0).setCell ⟨b, 1, none⟩ u1).setCell ⟨b, 2, none⟩ u2).setCell ⟨b, 3, none⟩ u3).cell? ⟨b, 1, none⟩ = some u1 ∧
    ((((w.setCell ⟨b, 0, none⟩ u0).setCell ⟨b, 1, none⟩ u1).setCell ⟨b, 2, none⟩ u2).setCell ⟨b, 3, none⟩ u3).cell? ⟨b, 2, none⟩ = some u2 ∧
    ((((w.setCell ⟨b, 0, none⟩ u0).setCell ⟨b, 1, none⟩ u1).setCell ⟨b, 2, none⟩ u2).setCell ⟨b, 3, none⟩ u3).cell? ⟨b, 3, none⟩ = some u3 := by
  have o : ∀ (w : World) (i j : Nat) (u : Value), i ≠ j → (w.setCell ⟨b, i, none⟩ u).cell? ⟨b, j, none⟩ = w.cell? ⟨b, j, none⟩ := fun w i j u h => World.cell?_setCell_other _ _ _ _ (fun e => h (congrArg Addr.off e))
  refine ⟨?_, ?_, ?_, ?_⟩
  · rw [o _ _ _ _ (by omega), o _ _ _ _ (by omega), o _ _ _ _ (by omega)]
    exact World.cell?_setCell_same _ _ _ h0
  · rw [o _ _ _ _ (by omega), o _ _ _ _ (by omega)]
    exact World.cell?_setCell_same _ _ _ ((o _ _ _ _ (by omega)).trans h1)
  · rw [o _ _ _ _ (by omega)]
    exact World.cell?_setCell_same _ _ _ ((o _ _ _ _ (by omega)).trans ((o _ _ _ _ (by omega)).trans h2))
  · exact World.cell?_setCell_same _ _ _ ((o _ _ _ _ (by omega)).trans ((o _ _ _ _ (by omega)).trans ((o _ _ _ _ (by omega)).trans h3)))

/-- What clone does with a tree that is nested at most n deep. -/
def CloneOk (n : Nat) : Prop := ∀ (t : Tr n) (sb sk : Value) (deep : Int) (w : World), Rep 0 w.heap.size w n t sb sk → (n : Int) ≤ deep → deep ≤ 131072 →
  Calls Tryz.prog 203 #[.agg #[.int .i64 t.hd.1, .int .u64 t.hd.2.1, sb, sk], .int .i64 deep] w fun e w' =>
    ∃ sb' sk', e = .returned (.tuple #[.agg #[.int .i64 t.hd.1, .int .u64 t.hd.2.1, sb', sk'], .bool true]) ∧ Rep w.heap.size w'.heap.size w' n t sb' sk' ∧ Below w.heap.size w w'

set_option maxHeartbeats 2000000 in
set_option maxRecDepth 100000 in
theorem clone_any : ∀ n, CloneOk n
  | 0 => fun t => by cases t
  | n + 1 => by
    intro t sb sk deep w hrep hd0 hd1
    have ih := clone_any n
    obtain ⟨hn0, hn1, hby, hks⟩ := hrep
    have HB := hid hby
    have HK := hid hks
    obtain ⟨ab, cb, rfl, hrb⟩ := hby
    obtain ⟨ak, ck, rfl, hrk⟩ := hks
    clear hrb hrk
    have hdb : (deep == 0) = false := by simp; omega
    generalize hT1 : t.kd = ks at *
    generalize hT2 : t.hd.2.2 = bs at *
    generalize hT3 : t.hd.2.1 = num at *
    generalize t.hd.1 = tag at *
    have HT1 := hid hT1
    have HT2 := hid hT2
    have HT3 := hid hT3
    clear hT1 hT2 hT3
    go_enter Tryz.func203, Tryz.ntmps203
    go_upto_region 3 with fail
    obtain ⟨W0, hW0⟩ : ∃ W0, W0 = (w.alloc (Obj.cells #[Value.int IntKind.i64 tag, Value.int IntKind.u64 num, Value.slice ab bs.length cb, Value.slice ak ks.length ck] 203)).alloc (Obj.cells #[Value.int IntKind.i64 0, Value.int IntKind.u64 0, Value.slice none 0 0, Value.slice none 0 0] 203) := ⟨_, rfl⟩
    have HW0 := hid hW0
    clear hW0
    go_cut [6] (fun s wx => ∃ (g c' L1 B1 : Nat) (a' : Option Addr), s = .pointer (some ⟨g, 0, none⟩) ∧ w.heap.size + 2 ≤ g ∧ g < wx.heap.size ∧ wx.cell? ⟨g, 0, none⟩ = some (.int .i64 tag) ∧ wx.cell? ⟨g, 1, none⟩ = some (.int .u64 num) ∧
      wx.cell? ⟨g, 2, none⟩ = some (.slice a' bs.length c') ∧ wx.cell? ⟨g, 3, none⟩ = some (.slice none 0 0) ∧ (∀ o, wx.frozen? ⟨g, o, none⟩ = false) ∧ Hid (BySl L1 B1 wx (.slice a' bs.length c') bs ∧ w.heap.size + 2 ≤ L1 ∧ B1 ≤ wx.heap.size ∧ (g < L1 ∨ B1 ≤ g) ∧ Below (w.heap.size + 2) W0 wx))
    case first =>
      go_region_held3 (fun w' => w'.cell? ⟨w.heap.size, 0, none⟩ = some (.int .i64 tag) ∧ w'.cell? ⟨w.heap.size, 1, none⟩ = some (.int .u64 num) ∧ w'.cell? ⟨w.heap.size, 2, none⟩ = some (.slice ab bs.length cb)) (first | go_keep | (refine ⟨?_, ?_, ?_⟩ <;> (rw [cell_far4 (by simp; omega)]; assumption)))
        ((go_at_call 126; refine (clone_bytes _ bs _ (HB.out.agree (by repeat' first | exact Agree.refl _ _ _ | apply Agree.drew | refine Agree.alloc ?_ ?_ _ | (simp; done) | (simp; omega)) (Nat.le_refl _) (by simp; omega))).mono ?_; rintro e w1 ⟨v', rfl, hv, hb⟩; obtain ⟨a', c', rfl, hr'⟩ := id hv; clear hr'; have Hv := hid hv; have Hb := hid hb; obtain ⟨hc, hf⟩ := bcell hb; have hz := hb.size; clear hv hb; have q0 : w1.cell? ⟨w.heap.size, 0, none⟩ = some (.int .i64 tag) := (hc _ _ (by simp; try omega)).trans (by simp [go_sem]); have q1 : w1.cell? ⟨w.heap.size, 1, none⟩ = some (.int .u64 num) := (hc _ _ (by simp; try omega)).trans (by simp [go_sem]); have q2 : w1.cell? ⟨w.heap.size, 2, none⟩ = some (.slice ab bs.length cb) := (hc _ _ (by simp; try omega)).trans (by simp [go_sem])))
      · go_wp2_with fail
        go_meet
        simp at hz
        refine ⟨w1.heap.size, c', w.heap.size + 2, w1.heap.size, a', rfl, by omega, by simp, by simp, by simp, by simp, by simp, by simp, Hv.out.agree ((Agree.refl _ _ _).alloc (Nat.le_refl _) _) (by simp) (Nat.le_refl _), by omega, by simp, by omega, ?_⟩
        rw [HW0.out]
        exact (((Below.refl _ _).drew).trans (Hb.out.mono (by simp))).alloc (by omega) _
      · go_wp2_with fail
        go_meet
        simp at hz
        obtain ⟨r0, r1, r2, r3⟩ := set4_read (w := w1) (b := w.heap.size + 1 + 1) (u0 := .int .i64 tag) (u1 := .int .u64 num) (u2 := .slice a' bs.length c') (u3 := .slice none 0 0) (x0 := .int .i64 0) (x1 := .int .u64 0) (x2 := .slice none 0 0) (x3 := .slice none 0 0) ((hc _ _ (by simp)).trans (by simp [go_sem])) ((hc _ _ (by simp)).trans (by simp [go_sem])) ((hc _ _ (by simp)).trans (by simp [go_sem])) ((hc _ _ (by simp)).trans (by simp [go_sem]))
        refine ⟨w.heap.size + 1 + 1, c', w.heap.size + 3, w1.heap.size, a', rfl, by omega, by simp; omega, r0, r1, r2, r3, ?_, Hv.out.agree (Agree.set4 _ (.inl (by simp)) _ _ _ _) (by simp) (Nat.le_refl _), by omega, by simp, by omega, ?_⟩
        · intro o
          simp only [World.frozen?_setCell]
          rw [hf _ _ (by simp)]
          simp [go_sem]
        · rw [HW0.out]
          exact ((((Below.refl _ _).alloc (by simp) _).drew).trans (Hb.out.mono (by simp))).trans (bset4 (by omega) _ _ _ _)
    case rest =>
      obtain ⟨g, c', L1, B1, a', rfl, hg0, hg1, e0, e1, e2, e3, hfr, HX⟩ := hcut
      have xb : ∀ o, wc.cell? ⟨w.heap.size, o, none⟩ = W0.cell? ⟨w.heap.size, o, none⟩ := fun o => HX.out.2.2.2.2.cell (p := ⟨w.heap.size, o, none⟩) (by simp)
      have b3 : wc.cell? ⟨w.heap.size, 3, none⟩ = some (.slice ak ks.length ck) := by rw [xb, HW0.out]; simp [go_sem]
      clear xb
      have hB0 : Hid (Below w.heap.size w W0) := by rw [Hid, HW0.out]; exact ((Below.refl _ _).alloc (Nat.le_refl _) _).alloc (by simp) _
      have hkl : ks.length ≤ 2199023255552 := by obtain ⟨_, _, _, _, _, _, h, _⟩ := HK.out; exact h
      obtain ⟨i0, hi, hz0, hz1, hz2⟩ := info_parts Tryz.info203
      go_wp2_with fail
      go_loopw [25] (fun i wr => ∃ (k : Nat) (v : Value), k ≤ ks.length ∧ i = .int .i64 k ∧ wr.cell? ⟨g, 0, none⟩ = some (.int .i64 tag) ∧ wr.cell? ⟨g, 1, none⟩ = some (.int .u64 num) ∧
        wr.cell? ⟨g, 2, none⟩ = some (.slice a' bs.length c') ∧ wr.cell? ⟨g, 3, none⟩ = some v ∧ (∀ o, wr.frozen? ⟨g, o, none⟩ = false) ∧ g < wr.heap.size ∧
        Hid (CInv wc.heap.size (ks.take k) v wr ∧ BySl L1 B1 wr (.slice a' bs.length c') bs ∧ Below (w.heap.size + 2) W0 wr ∧ wc.heap.size ≤ wr.heap.size)) (fun i _ => ks.length - (intOf i).toNat)
      case atStart => exact ⟨0, _, Nat.zero_le _, rfl, e0, e1, e2, e3, hfr, hg1, CInv.nil _ _, HX.out.1, HX.out.2.2.2.2, Nat.le_refl _⟩
      case round =>
        obtain ⟨k, v, hk, rfl, f0, f1, f2, f3, hfr', hgs, HI⟩ := hrel
        clear e0 e1 e2 e3 hfr b3
        by_cases hlt : k < ks.length
        · obtain ⟨_, _, ea, _, _, _, _, h7⟩ := HK.out
          simp only [Value.slice.injEq, true_and] at ea
          obtain ⟨rfl, rfl⟩ := ea
          obtain ⟨b, o, rfl, _, hbs, hc⟩ := h7 (by intro e; subst e; simp at hlt)
          clear h7
          obtain ⟨sb, sk, c0, c1, c2, c3, hrep⟩ := hc k ks[k] (List.getElem?_eq_getElem hlt)
          clear hc
          obtain ⟨a1, l1, p1, a2, l2, p2, rfl, rfl⟩ := hrep.sl
          have hR := hid hrep
          clear hrep
          have hbel : Hid (Below w.heap.size w wr) := hB0.out.trans (HI.out.2.2.1.mono (by omega))
          have d0 := (hbel.out.cell (p := ⟨b, o + k * 4, none⟩) hbs).trans c0
          have d1 := (hbel.out.cell (p := ⟨b, o + k * 4 + 1, none⟩) hbs).trans c1
          have d2 := (hbel.out.cell (p := ⟨b, o + k * 4 + 2, none⟩) hbs).trans c2
          have d3 := (hbel.out.cell (p := ⟨b, o + k * 4 + 3, none⟩) hbs).trans c3
          clear c0 c1 c2 c3
          have htake : Hid (ks.take (k + 1) = ks.take k ++ [ks[k]]) := List.take_succ_eq_append_getElem hlt
          generalize ks[k] = t1 at *
          have hlk : Hid ((ks.take k).length = k) := List.length_take_of_le (by omega)
          have hbz := hbel.out.size
          have hbw : b < wr.heap.size := by omega
          obtain ⟨av, cv, hv⟩ := HI.out.1.form
          rw [hlk.out] at hv
          subst hv
          go_wp2_with fail
          refine (ih t1 _ _ _ _ (hR.out.agree ((Agree.below hbel.out).alloc hbz _) (Nat.le_refl _) (by simp; omega)) (by omega) (by omega)).mono ?_
          rintro e w1 ⟨sb', sk', rfl, hr1, hb1⟩
          obtain ⟨a3, l3, p3, a4, l4, p4, rfl, rfl⟩ := hr1.sl
          have Hr1 := hid hr1
          have Hb1 := hid hb1
          obtain ⟨hc, hf⟩ := bcell hb1
          have hz := hb1.size
          simp at hz
          have hgw : g < w1.heap.size := by omega
          have g0 : w1.cell? ⟨g, 0, none⟩ = some (.int .i64 tag) := by rw [hc _ _ (by simp; omega), World.cell?_alloc_past _ _ _ hgs]; exact f0
          have g1 : w1.cell? ⟨g, 1, none⟩ = some (.int .u64 num) := by rw [hc _ _ (by simp; omega), World.cell?_alloc_past _ _ _ hgs]; exact f1
          have g2 : w1.cell? ⟨g, 2, none⟩ = some (.slice a' bs.length c') := by rw [hc _ _ (by simp; omega), World.cell?_alloc_past _ _ _ hgs]; exact f2
          have g3 : w1.cell? ⟨g, 3, none⟩ = some (.slice av k cv) := by rw [hc _ _ (by simp; omega), World.cell?_alloc_past _ _ _ hgs]; exact f3
          have gf : ∀ o, w1.frozen? ⟨g, o, none⟩ = false := fun o => by rw [hf _ _ (by simp; omega), World.frozen?_alloc_past _ _ _ hgs]; exact hfr' o
          clear hr1 hb1 hc hf f0 f1 f2 f3 hfr' d0 d1 d2 d3
          have inv1 : CInv wc.heap.size (ks.take k) (.slice av k cv) ((w1.alloc (Obj.cells #[Value.int .i64 t1.hd.1, Value.int .u64 t1.hd.2.1, Value.slice a3 l3 p3, Value.slice a4 l4 p4] 203)).alloc (Obj.cells #[Value.int .i64 t1.hd.1, Value.int .u64 t1.hd.2.1, Value.slice a3 l3 p3, Value.slice a4 l4 p4] 203)) :=
            HI.out.1.agree (((((Agree.refl _ _ _).alloc (Nat.le_refl _) _).trans (Agree.below (Hb1.out.mono (by simp)))).alloc (by omega) _).alloc (by simp; omega) _) (by simp; omega)
          have hr2 : Hid (Rep (wr.heap.size + 1) w1.heap.size ((w1.alloc (Obj.cells #[Value.int .i64 t1.hd.1, Value.int .u64 t1.hd.2.1, Value.slice a3 l3 p3, Value.slice a4 l4 p4] 203)).alloc (Obj.cells #[Value.int .i64 t1.hd.1, Value.int .u64 t1.hd.2.1, Value.slice a3 l3 p3, Value.slice a4 l4 p4] 203)) n t1 (.slice a3 l3 p3) (.slice a4 l4 p4)) :=
            Hr1.out.agree (((Agree.refl _ _ _).alloc (Nat.le_refl _) _).alloc (by simp) _) (by simp) (Nat.le_refl _)
          have hlt0 := hid HI.out.1.lt
          obtain ⟨ps, hl, hown, hkid⟩ := inv1
          rw [hlk.out] at hown
          have HO := hid hown
          have HKid := hid hkid
          have HL := hid hl
          clear hown hkid hl
          have hws := HI.out.2.2.2
          go_wp2_with (at_builtin; go_must (refine wpList_append_lies _ rfl _ _ 201 rfl wc.heap.size 203 i0 _ 4 64 Tryz.underlying201 hi hz0 hz1 hz2 rfl (by decide) _ k (cellsK (ks.take k) ps) rfl HO.out ⟨w1.heap.size + 1, 0, none⟩ 1 1 (cell4 t1 (.slice a3 l3 p3, .slice a4 l4 p4)) rfl rfl ?_ ?_ (by omega) (by unfold maxLen; omega) (by omega) (by simp; omega) (w1.heap.size + 1 + 1) (by simp) ?_))
          · exact World.news_of_block (cs := #[Value.int .i64 t1.hd.1, Value.int .u64 t1.hd.2.1, Value.slice a3 l3 p3, Value.slice a4 l4 p4]) (t := 203) (fr := (0, 0)) (by have h := heap_alloc_new (w1.alloc (Obj.cells #[Value.int .i64 t1.hd.1, Value.int .u64 t1.hd.2.1, Value.slice a3 l3 p3, Value.slice a4 l4 p4] 203)) (Obj.cells #[Value.int .i64 t1.hd.1, Value.int .u64 t1.hd.2.1, Value.slice a3 l3 p3, Value.slice a4 l4 p4] 203); simpa using h)
          · intro u hu
            simp only [cell4, List.mem_cons, List.not_mem_nil, or_false] at hu
            rcases hu with rfl | rfl | rfl | rfl <;> rfl
          intro g' cap' w2 hown2 hgrow2 hat2 hlt2
          have hne : some g ≠ (Value.slice av k cv).ownBlock := fun e => by have := (hlt0.out g e.symm).1; omega
          have j0 : w2.cell? ⟨g, 0, none⟩ = some (.int .i64 tag) := by rw [hgrow2.cell_far ⟨g, 0, none⟩ (by simp; omega) hne, World.cell?_alloc_past _ _ _ (by simp; omega), World.cell?_alloc_past _ _ _ hgw]; exact g0
          have j1 : w2.cell? ⟨g, 1, none⟩ = some (.int .u64 num) := by rw [hgrow2.cell_far ⟨g, 1, none⟩ (by simp; omega) hne, World.cell?_alloc_past _ _ _ (by simp; omega), World.cell?_alloc_past _ _ _ hgw]; exact g1
          have j2 : w2.cell? ⟨g, 2, none⟩ = some (.slice a' bs.length c') := by rw [hgrow2.cell_far ⟨g, 2, none⟩ (by simp; omega) hne, World.cell?_alloc_past _ _ _ (by simp; omega), World.cell?_alloc_past _ _ _ hgw]; exact g2
          have j3 : w2.cell? ⟨g, 3, none⟩ = some (.slice av k cv) := by rw [hgrow2.cell_far ⟨g, 3, none⟩ (by simp; omega) hne, World.cell?_alloc_past _ _ _ (by simp; omega), World.cell?_alloc_past _ _ _ hgw]; exact g3
          have jf : ∀ o, w2.frozen? ⟨g, o, none⟩ = false := fun o => by rw [hgrow2.frozen_far ⟨g, o, none⟩ (by simp; omega) hne, World.frozen?_alloc_past _ _ _ (by simp; omega), World.frozen?_alloc_past _ _ _ hgw]; exact gf o
          have hz2 := hgrow2.size
          simp at hz2
          have inv2 : Hid (CInv wc.heap.size (ks.take (k + 1)) (.slice (some ⟨g', 0, none⟩) (k + 1) cap') w2) := by
            have P := CInv.push (g := g') (cap := cap') HL.out HKid.out hr2.out (by omega) (by simp; omega) (fun r e => .inl (by have := (hlt0.out r e).2; omega)) (by rw [hlk.out]; exact hown2) hgrow2 (by simpa using hat2)
            rw [hlk.out, ← htake.out] at P
            exact P
          have bel2 : Hid (Below (w.heap.size + 2) W0 w2) := (((HI.out.2.2.1.alloc (by omega) _).trans (Hb1.out.mono (by simp; omega))).alloc (by omega) _ |>.alloc (by simp; omega) _).grown hgrow2 (by simp; omega) (fun r e => by have := (hlt0.out r e).1; omega)
          have hB1 := HX.out.2.2.1
          have hgB := HX.out.2.2.2.1
          have hL1 := HX.out.2.1
          have byl2 : Hid (BySl L1 B1 w2 (.slice a' bs.length c') bs) := by
            have hA : Agree L1 B1 _ w2 := fun r h1 h2 => hgrow2.block r (by simp; omega) (fun e => by have := (hlt0.out r e.symm).1; omega)
            exact HI.out.2.1.agree (((((Agree.refl _ _ _).alloc (by omega) _).trans (Agree.below (Hb1.out.mono (by simp; omega)))).alloc (by omega) _ |>.alloc (by simp; omega) _).trans hA) (Nat.le_refl _) (Nat.le_refl _)
          clear hown2 hgrow2 hat2 g0 g1 g2 g3 gf
          go_wp2_with fail
          go_roundw
          case rel =>
            refine ⟨k + 1, .slice (some ⟨g', 0, none⟩) (k + 1) cap', by omega, by go_num, (cell_set_ne (by omega)).trans j0, (cell_set_ne (by omega)).trans j1, (cell_set_ne (by omega)).trans j2, World.cell?_setCell_same _ _ _ j3, fun o => by rw [World.frozen?_setCell]; exact jf o, by simp; omega, ?_⟩
            exact ⟨inv2.out.agree ((Agree.refl _ _ _).setCell (.inl (by simpa using hg1)) _) (by simp), byl2.out.agree ((Agree.refl _ _ _).setCell hgB _) (Nat.le_refl _) (Nat.le_refl _), bel2.out.setCell (by simpa using hg0) _, by simp; omega⟩
          case measure => simp [intOf]; omega
        · have xb : ∀ o, wr.cell? ⟨w.heap.size + 1, o, none⟩ = W0.cell? ⟨w.heap.size + 1, o, none⟩ := fun o => HI.out.2.2.1.cell (p := ⟨w.heap.size + 1, o, none⟩) (by simp)
          have xf : ∀ o, wr.frozen? ⟨w.heap.size + 1, o, none⟩ = W0.frozen? ⟨w.heap.size + 1, o, none⟩ := fun o => HI.out.2.2.1.frozen (p := ⟨w.heap.size + 1, o, none⟩) (by simp)
          have r0 : wr.cell? ⟨w.heap.size + 1, 0, none⟩ = some (.int .i64 0) := by rw [xb, HW0.out]; simp [go_sem]
          have r1 : wr.cell? ⟨w.heap.size + 1, 1, none⟩ = some (.int .u64 0) := by rw [xb, HW0.out]; simp [go_sem]
          have r2 : wr.cell? ⟨w.heap.size + 1, 2, none⟩ = some (.slice none 0 0) := by rw [xb, HW0.out]; simp [go_sem]
          have r3 : wr.cell? ⟨w.heap.size + 1, 3, none⟩ = some (.slice none 0 0) := by rw [xb, HW0.out]; simp [go_sem]
          have rf : ∀ o, wr.frozen? ⟨w.heap.size + 1, o, none⟩ = false := fun o => by rw [xf, HW0.out]; simp [go_sem]
          clear xb xf
          obtain ⟨av, cv, hv⟩ := HI.out.1.form
          subst hv
          go_wp2_with fail
          have hgB := HX.out.2.2.2.1
          have hL1 := HX.out.2.1
          have hB1 := HX.out.2.2.1
          have hws := HI.out.2.2.2
          obtain ⟨q0, q1, q2, q3⟩ := set4_read (u0 := .int .i64 tag) (u1 := .int .u64 num) (u2 := .slice a' bs.length c') (u3 := .slice av k cv) r0 r1 r2 r3
          refine bodyPost_ret (v := .tuple #[.agg #[.int .i64 tag, .int .u64 num, .slice a' bs.length c', .slice av k cv], .bool true]) (by simp [results, Tryz.results203, go_sem, q0, q1, q2, q3]) rfl ⟨_, _, rfl, ⟨by rw [HT3.out]; exact hn0, by rw [HT3.out]; exact hn1, ?_, ?_⟩, ?_⟩
          · rw [HT2.out]
            exact HI.out.2.1.agree (Agree.set4 _ (.inl (by omega)) _ _ _ _) (by omega) (by simp; omega)
          · rw [HT1.out]
            have K := HI.out.1.done (by simp; omega)
            rw [List.take_of_length_le (by omega), show ks.length = k by omega] at K
            have A4 := Agree.set4 (L := wc.heap.size) (B := wr.heap.size) wr (b := w.heap.size + 1) (o0 := 0) (o1 := 1) (o2 := 2) (o3 := 3) (.inl (by omega)) (.int .i64 tag) (.int .u64 num) (.slice a' bs.length c') (.slice av k cv)
            have hsz : wr.heap.size ≤ ((((wr.setCell ⟨w.heap.size + 1, 0, none⟩ (.int .i64 tag)).setCell ⟨w.heap.size + 1, 1, none⟩ (.int .u64 num)).setCell ⟨w.heap.size + 1, 2, none⟩ (.slice a' bs.length c')).setCell ⟨w.heap.size + 1, 3, none⟩ (.slice av k cv)).heap.size := by simp
            exact K.agree (L' := w.heap.size) (fun _ _ _ r => Rep.agree (L' := w.heap.size) A4 (by omega) hsz r) A4 (by omega) hsz
          · exact (hB0.out.trans (HI.out.2.2.1.mono (by omega))).trans (bset4 (by omega) _ _ _ _)

end Go.Proofs.YthmimipoooemjaaGreatDoor.Tlv
end

section
/-
  The cells of one value of the reference's.
-/
namespace Go.Proofs.YthmimipoooemjaaGreatDoor.Tlv
open Go.RowKit
attribute [local go_sem ↓] Go.wp_at_zero Go.wp_at_succ

end Go.Proofs.YthmimipoooemjaaGreatDoor.Tlv
end

section
/-
  Plain mathematics: a tree's form.
-/
namespace Go.Proofs.YthmimipoooemjaaGreatDoor.Tlv

/-- The k lowest bytes of x, the highest first. -/
def numB : Nat → Int → List Int
  | 0, _ => []
  | k + 1, x => (x / 256 ^ k % 256) :: numB k x

theorem numB_length : ∀ k x, (numB k x).length = k
  | 0, _ => rfl
  | k + 1, x => by simp [numB, numB_length k x]

/-- What is behind the first three bytes of a form. -/
def bodyOf : (n : Nat) → Tr n → List Int
  | 0, t => by cases t
  | n + 1, t =>
    if t.hd.1 = 1 then numB (nsz t.hd.2.1).toNat t.hd.2.1
    else if t.hd.1 = 2 then t.hd.2.2
    else if t.hd.1 = 3 then (t.kd.map fun k => k.hd.1 :: ((bodyOf n k).length / 256 : Int) :: ((bodyOf n k).length % 256 : Int) :: bodyOf n k).flatten
    else []

/-- A tree's form. -/
def formOf (n : Nat) (t : Tr n) : List Int := t.hd.1 :: ((bodyOf n t).length / 256 : Int) :: ((bodyOf n t).length % 256 : Int) :: bodyOf n t

theorem bodyOf_kids {n : Nat} {t : Tr (n + 1)} (h : t.hd.1 = 3) : bodyOf (n + 1) t = (t.kd.map (formOf n)).flatten := by
  simp only [bodyOf]
  rw [if_neg (by omega), if_neg (by omega), if_pos h]
  rfl

/-- t is right, as far as 'room' goes. -/
def Rt (n : Nat) (t : Tr n) (room : Int) : Prop := ∃ deep, (bsz n t room deep).2 = true

theorem lszGo_len {n : Nat} (hn : ∀ (t : Tr n) room deep, (bsz n t room deep).2 = true → (bsz n t room deep).1 = ((bodyOf n t).length : Int)) (room deep : Int) (ks : List (Tr n)) : ∀ acc,
    (lszGo (bsz n) room deep acc ks).2 = true → (lszGo (bsz n) room deep acc ks).1 = acc + (((ks.map (formOf n)).flatten).length : Int) ∧ ∀ k ∈ ks, ∃ r, r ≤ room - acc - 3 ∧ Rt n k r := by
  induction ks with
  | nil => intro acc _; simp [lszGo]
  | cons k ks ih =>
    intro acc h2
    simp only [lszGo] at h2 ⊢
    split at h2
    · rename_i hk
      rw [if_pos hk]
      have b := bsz_fits n k _ _ hk
      have e := hn k _ _ hk
      have := ih _ h2
      refine ⟨?_, ?_⟩
      · rw [this.1, e]
        simp [formOf]
        omega
      · intro k' hk'
        rcases List.mem_cons.1 hk' with rfl | hk'
        · exact ⟨_, Int.le_refl _, _, hk⟩
        · obtain ⟨r, h1, h2⟩ := this.2 k' hk'
          exact ⟨r, by omega, h2⟩
    · simp at h2

theorem bsz_len : ∀ n (t : Tr n) room deep, (bsz n t room deep).2 = true → (bsz n t room deep).1 = ((bodyOf n t).length : Int)
  | 0, t, _, _, _ => by cases t
  | n + 1, t, room, deep, h => by
    simp only [bsz] at h ⊢
    split at h
    · simp at h
    · rename_i h0
      rw [if_neg h0]
      split at h
      · rename_i h1
        rw [if_pos h1]
        simp only [bodyOf]
        rw [if_pos h1, numB_length]
        have := nsz_bd t.hd.2.1
        omega
      · rename_i h1
        rw [if_neg h1]
        split at h
        · rename_i h2
          rw [if_pos h2]
          simp only [bodyOf]
          rw [if_neg h1, if_pos h2]
        · rename_i h2
          rw [if_neg h2]
          split at h
          · rename_i h3
            rw [if_pos h3, bodyOf_kids h3]
            unfold lsz at h ⊢
            split at h
            · simp at h
            · rename_i h4
              rw [if_neg h4]
              have := (lszGo_len (bsz_len n) room deep _ 0 h).1
              omega
          · simp at h

/-- What is right has a tag from 1 to 3, no more bytes than the room, and in it what is right. -/
theorem Rt.facts {n : Nat} {t : Tr (n + 1)} {room : Int} (h : Rt (n + 1) t room) : 0 ≤ room ∧ ((bodyOf (n + 1) t).length : Int) ≤ room ∧ (t.hd.1 = 1 ∨ t.hd.1 = 2 ∨ t.hd.1 = 3) ∧ (t.hd.1 = 3 → ∀ k ∈ t.kd, ∃ r, r ≤ room - 3 ∧ Rt n k r) := by
  obtain ⟨deep, h⟩ := h
  have hf := bsz_fits _ _ _ _ h
  have hl := bsz_len _ _ _ _ h
  refine ⟨by omega, by omega, ?_⟩
  simp only [bsz] at h
  split at h
  · simp at h
  · split at h
    · rename_i h1; exact ⟨.inl h1, fun e => by omega⟩
    · split at h
      · rename_i h1; exact ⟨.inr (.inl h1), fun e => by omega⟩
      · split at h
        · rename_i h3
          refine ⟨.inr (.inr h3), fun _ k hk => ?_⟩
          unfold lsz at h
          split at h
          · simp at h
          · obtain ⟨r, h1, h2⟩ := (lszGo_len (bsz_len n) room deep _ 0 h).2 k hk
            exact ⟨r, by omega, h2⟩
        · simp at h

end Go.Proofs.YthmimipoooemjaaGreatDoor.Tlv
end

section
/-
  Plain mathematics: the tree that bytes begin with.
-/
namespace Go.Proofs.YthmimipoooemjaaGreatDoor.Tlv

/-- The number of bytes, the highest first. -/
def valB (bs : List Int) : Int := bs.foldl (fun a x => a * 256 + x) 0

/-- The values that bytes are, one behind the other, by what one of them is. -/
def rdList {α : Type} (f : List Int → Option (α × Nat)) : Nat → List Int → Option (List α)
  | _, [] => some []
  | 0, _ :: _ => none
  | k + 1, b :: bs => match f (b :: bs) with
    | none => none
    | some (v, m) => (rdList f k ((b :: bs).drop m)).map (v :: ·)

/-- A value of its tag and what is behind the first three bytes, lists nested at most d deep. -/
def rdBody (d : Nat) (f : List Int → Option (List (Tr d))) (tag : Int) (bs : List Int) : Option (Tr (d + 1)) :=
  if tag = 1 then (if 8 < bs.length ∨ bs.head? = some 0 then none else some (Tr.mk 1 (valB bs) [] []))
  else if tag = 2 then some (Tr.mk 2 0 bs [])
  else if tag = 3 then (f bs).map fun ks => Tr.mk 3 0 [] ks
  else none

/-- How many bytes the form that b begins with has, as its first three tell. -/
def endOf (b : List Int) : Nat := 3 + (b.getD 1 0 * 256 + b.getD 2 0).toNat

/-- The tree that b begins with, and how many bytes its form has. -/
def rd1 (d : Nat) (f : List Int → Option (List (Tr d))) (b : List Int) : Option (Tr (d + 1) × Nat) :=
  if b.length < 3 then none else if b.length < endOf b then none
  else (rdBody d f (b.getD 0 0) ((b.take (endOf b)).drop 3)).map fun v => (v, endOf b)

def rd : (d : Nat) → List Int → Option (Tr (d + 1) × Nat)
  | 0 => rd1 0 fun _ => none
  | d + 1 => rd1 (d + 1) fun b => rdList (rd d) b.length b

end Go.Proofs.YthmimipoooemjaaGreatDoor.Tlv
end

section
/-
  What readNumber of tlv answers.
-/
namespace Go.Proofs.YthmimipoooemjaaGreatDoor.Tlv
open Go.RowKit
end Go.Proofs.YthmimipoooemjaaGreatDoor.Tlv
end

section
/-
  What readList of tlv answers, by what read answers.
-/
namespace Go.Proofs.YthmimipoooemjaaGreatDoor.Tlv
open Go.RowKit
end Go.Proofs.YthmimipoooemjaaGreatDoor.Tlv
end

section
/-
  What readBody of tlv answers.
-/
namespace Go.Proofs.YthmimipoooemjaaGreatDoor.Tlv
open Go.RowKit
end Go.Proofs.YthmimipoooemjaaGreatDoor.Tlv
end

section
/-
  What read, Get and Take of tlv answer.
-/
namespace Go.Proofs.YthmimipoooemjaaGreatDoor.Tlv
open Go.RowKit
attribute [local go_sem ↓] Go.wp_at_zero Go.wp_at_succ

end Go.Proofs.YthmimipoooemjaaGreatDoor.Tlv
end

section
/-
  What the reference's read answers.
-/
namespace Go.Proofs.YthmimipoooemjaaGreatDoor.Tlv
open Go.RowKit
attribute [local go_sem ↓] Go.wp_at_zero Go.wp_at_succ

theorem addr_plus (b o j : Nat) : (⟨b, o, none⟩ : Addr).add j = ⟨b, o + j, none⟩ := by unfold Addr.add; split <;> simp_all

end Go.Proofs.YthmimipoooemjaaGreatDoor.Tlv
end

section
/-
  What the writer's method number of tlv lays.
-/
namespace Go.Proofs.YthmimipoooemjaaGreatDoor.Tlv
open Go.RowKit
attribute [local go_sem ↓] Go.wp_at_zero Go.wp_at_succ

/-- The writer at block pb has laid the bytes xs, in a row of its own from block B on. -/
def WInv (B pb : Nat) (xs : List Int) (w : World) : Prop :=
  ∃ v, w.cell? ⟨pb, 0, none⟩ = some v ∧ w.frozen? ⟨pb, 0, none⟩ = false ∧ B ≤ pb ∧ w.ownsRow B 5 1 v xs.length (xs.map (Value.int .u8)) ∧ v.ownBlock ≠ some pb

theorem ownsRow_form {w : World} {base n e size : Nat} {v : Value} {xs : List Value} (h : w.ownsRow base e size v n xs) : ∃ a c, v = .slice a n c := by
  rcases h.2 with ⟨rfl, h0⟩ | ⟨g, cap, cur, rfl, _⟩
  · exact ⟨_, _, by rw [h0]⟩
  · exact ⟨_, _, rfl⟩

theorem ownsRow_set_ne {w : World} {base e size n : Nat} {v : Value} {xs : List Value} (h : w.ownsRow base e size v n xs) {p : Addr} (hp : v.ownBlock ≠ some p.block) (u : Value) : (w.setCell p u).ownsRow base e size v n xs := by
  obtain ⟨h1, h2⟩ := h
  refine ⟨h1, ?_⟩
  rcases h2 with h2 | ⟨g, cap, cur, rfl, hg, hh, r⟩
  · exact Or.inl h2
  · exact Or.inr ⟨g, cap, cur, rfl, hg, by rw [Below.heap_setCell _ _ _ _ (by intro e; exact hp (by simp [Value.ownBlock, e]))]; exact hh, r⟩

/-- More bytes, behind the append that lays them and the store of the new slice into the writer. -/
theorem WInv.push {B pb g cap H : Nat} {ys news : List Int} {v : Value} {w2 : World} (hown : w2.ownsRow B 5 1 (.slice (some ⟨g, 0, none⟩) (ys.length + news.length) cap) (ys.length + news.length) (ys.map (Value.int .u8) ++ news.map (Value.int .u8)))
    (hpb : B ≤ pb) (hpH : pb < H) (hne : v.ownBlock ≠ some pb) (c2 : w2.cell? ⟨pb, 0, none⟩ = some v) (f2 : w2.frozen? ⟨pb, 0, none⟩ = false) (hat : v.ownBlock = some g ∨ g = H) :
    WInv B pb (ys ++ news) (w2.setCell ⟨pb, 0, none⟩ (.slice (some ⟨g, 0, none⟩) (ys.length + news.length) cap)) := by
  have hg : g ≠ pb := by
    rintro rfl
    rcases hat with h | h
    · exact hne h
    · omega
  have hv : (Value.slice (some ⟨g, 0, none⟩) (ys.length + news.length) cap).ownBlock ≠ some pb := by simpa [Value.ownBlock] using hg
  refine ⟨_, World.cell?_setCell_same _ _ _ c2, by rw [World.frozen?_setCell]; exact f2, hpb, ?_, hv⟩
  rw [List.length_append, List.map_append]
  exact ownsRow_set_ne hown hv _

/-- One byte more. -/
theorem byte_new (w : World) (x : Int) : ∀ j u, [Value.int IntKind.u8 x][j]? = some u → (w.alloc (.cells #[.int .u8 x] 5)).cell? ((⟨w.heap.size, 0, none⟩ : Addr).add j) = some u :=
  World.news_of_block (cs := #[Value.int .u8 x]) (t := 5) (fr := (0, 0)) (heap_alloc_new _ _)

theorem shr_at (x : Int) (m : Nat) (h0 : 0 ≤ x) (hm : m ≤ 8) : ∃ y, y = x / 256 ^ m ∧ 0 ≤ y ∧ Op.shift .shr .u64 x .i64 (IntKind.i64.wrap (8 * (m : Int))) = pure (.int .u64 y) := by
  refine ⟨_, rfl, Int.ediv_nonneg h0 (Int.le_of_lt (Int.pow_pos (by omega))), ?_⟩
  have e : IntKind.i64.wrap (8 * (m : Int)) = 8 * m := by rw [IntKind.wrap_i64]; omega
  rw [e, shift_shr .u64 .i64 x (8 * (m : Int)) (by omega) (by simp [IntKind.bits]; omega)]
  have e2 : (8 * (m : Int)).toNat = 8 * m := by omega
  rw [e2, Int.pow_mul]
  rfl

set_option maxHeartbeats 1000000 in
set_option maxRecDepth 100000 in
theorem number_put (B pb : Nat) (xs : List Int) (x : Int) (w : World) (h : WInv B pb xs w) (h0 : 0 ≤ x) (h1 : x ≤ 18446744073709551615) (hl : xs.length ≤ 100000) :
    Calls Tryz.prog 204 #[.pointer (some ⟨pb, 0, none⟩), .int .u64 x] w fun e w' => e = .returned (.tuple #[]) ∧ WInv B pb (xs ++ numB (nsz x).toNat x) w' ∧ Below B w w' := by
  have hb := nsz_bd x
  have H := hid h
  clear h
  obtain ⟨i0, hi, hz0, hz1, hz2⟩ := info_parts Tryz.info5
  go_enter Tryz.func204, Tryz.ntmps204
  go_wp2_with fail
  refine (numberSize_any _ _ h0 h1).mono ?_
  rintro e w1 ⟨rfl, hw1⟩
  rw [hw1]
  clear hw1 w1
  obtain ⟨N, hN⟩ := Int.eq_ofNat_of_zero_le hb.1
  rw [hN] at hb ⊢
  have HN := hid hN
  clear hN
  go_wp2_with fail
  go_loopw [4] (fun i wr => ∃ (k : Nat) (ys : List Int), k ≤ N ∧ i = .int .i64 ((k : Int) - 1) ∧ Hid (WInv B pb ys wr ∧ Below B w wr ∧ ys ++ numB k x = xs ++ numB N x)) (fun i _ => (intOf i + 1).toNat)
  case atStart => exact ⟨N, xs, Nat.le_refl _, rfl, H.out, Below.refl _ _, rfl⟩
  case round =>
    obtain ⟨k, ys, hk, rfl, HI⟩ := hrel
    cases k with
    | zero =>
      go_wp2_with fail
      go_end0
      refine ⟨rfl, ?_, HI.out.2.1⟩
      have e : ys = xs ++ numB N x := by have := HI.out.2.2; simpa [numB] using this
      rw [HN.out, Int.toNat_natCast, ← e]
      exact HI.out.1
    | succ m =>
      obtain ⟨v, c0, f0, hpb, hown, hne⟩ := HI.out.1
      obtain ⟨a, c, rfl⟩ := ownsRow_form hown
      have HO := hid hown
      have HNE := hid hne
      have hyl : ys.length ≤ 100008 := by have := congrArg List.length HI.out.2.2; simp [numB_length] at this; omega
      have hm : (((m + 1 : Nat) : Int) - 1) = m := by omega
      rw [hm]
      clear hown hne
      have hpz : pb < wr.heap.size := World.block_lt_of_cell? wr _ c0
      go_wp2_with fail
      obtain ⟨y, hy, hy0, hsh⟩ : ∃ y, y = x / 256 ^ m ∧ 0 ≤ y ∧ Op.shift .shr .u64 x .i64 (IntKind.i64.wrap (8 * (m : Int))) = pure (.int .u64 y) := shr_at x m h0 (by omega)
      have HY := hid hy
      clear hy
      have HO2 : Hid ((wr.alloc (.cells #[.int .u8 (IntKind.u8.wrap y)] 5)).drew.ownsRow B 5 1 (.slice a ys.length c) ys.length (ys.map (Value.int .u8))) := HO.out.alloc _
      have hnews := hid (byte_new wr (IntKind.u8.wrap y))
      have hone : Hid (∀ u ∈ [Value.int IntKind.u8 (IntKind.u8.wrap y)], u.oneCell' = true) := by intro u hu; simp at hu; subst hu; rfl
      have hB := HI.out.2.1.size
      have hBp : B ≤ wr.heap.size + 1 := by omega
      go_region_law (refine step_append_lies _ (by rfl) (.tmp 16) (.tmp 22) 54 (by rfl) B 5 i0 (.int .u8 0) 1 1 Tryz.underlying54 hi hz0 hz1 hz2 rfl (by omega) (.slice a ys.length c) ys.length (ys.map (Value.int .u8)) (by simp [Act.eval]) HO2.out ⟨wr.heap.size, 0, none⟩ 1 1 [.int .u8 (IntKind.u8.wrap y)] (by simp [Act.eval]) rfl hnews.out hone.out (by omega) (by unfold maxLen; omega) (by omega) (by simp; exact hBp) (wr.heap.size + 1) (by simp) ?_; intro g cap w2 hown2 hgrow2 hat2 hlt2; have c2 : w2.cell? ⟨pb, 0, none⟩ = some (.slice a ys.length c) := (hgrow2.cell_far ⟨pb, 0, none⟩ (by simp; omega) (fun e => HNE.out e.symm)).trans ((World.cell?_alloc_past _ _ _ hpz).trans c0); have f2 : w2.frozen? ⟨pb, 0, none⟩ = false := (hgrow2.frozen_far ⟨pb, 0, none⟩ (by simp; omega) (fun e => HNE.out e.symm)).trans ((World.frozen?_alloc_past _ _ _ hpz).trans f0); have HO3 := hid hown2; have HG := hid hgrow2; have HAT := hid hat2; clear hown2 hgrow2 hat2)
      all_goals go_wp2_with fail
      all_goals
        refine ⟨⟨m, ys ++ [IntKind.u8.wrap y], by omega, rfl, ?_, ?_, ?_⟩, by simp [intOf]⟩
        · exact WInv.push (v := .slice a ys.length c) (H := wr.heap.size + 1) (news := [IntKind.u8.wrap y]) (by simpa using HO3.out) hpb (by omega) HNE.out c2 f2 HAT.out
        · exact (((HI.out.2.1.alloc (by omega) _).drew).grown HG.out (by simp; omega) (fun r e => (HO.out.lt r e).1)).setCell hpb _
        · rw [← HI.out.2.2, List.append_assoc, IntKind.wrap_u8, HY.out]
          rfl

end Go.Proofs.YthmimipoooemjaaGreatDoor.Tlv
end

section
/-
  What the writer's method put of tlv lays, and each.
-/
namespace Go.Proofs.YthmimipoooemjaaGreatDoor.Tlv
open Go.RowKit
attribute [local go_sem ↓] Go.wp_at_zero Go.wp_at_succ

/-- What put does with a tree that is nested at most n deep. -/
def PutOk (n : Nat) : Prop := ∀ (t : Tr n) (sb sk : Value) (B pb : Nat) (xs : List Int) (room : Int) (w : World), Rep 0 B w n t sb sk → Rt n t room → room ≤ 65535 → WInv B pb xs w → xs.length + (formOf n t).length ≤ 70000 →
  Calls Tryz.prog 161 #[.pointer (some ⟨pb, 0, none⟩), .agg #[.int .i64 t.hd.1, .int .u64 t.hd.2.1, sb, sk]] w fun e w' => e = .returned (.tuple #[]) ∧ WInv B pb (xs ++ formOf n t) w' ∧ Below B w w'

theorem cell_apart {w : World} {p : Addr} {u : Value} {q : Addr} (h : q.block ≠ p.block) : (w.setCell p u).cell? q = w.cell? q := World.cell?_of_block (w := w) (Below.heap_setCell _ _ _ _ h)

theorem addr_add (b o j : Nat) : (⟨b, o, none⟩ : Addr).add j = ⟨b, o + j, none⟩ := by unfold Addr.add; split <;> simp_all

theorem WInv.agree {B pb : Nat} {xs : List Int} {w w' : World} (h : WInv B pb xs w) (hA : Agree B w.heap.size w w') : WInv B pb xs w' := by
  obtain ⟨v, c0, f0, hpb, hown, hne⟩ := h
  have hp : pb < w.heap.size := World.block_lt_of_cell? w _ c0
  exact ⟨v, (hA.cell (p := ⟨pb, 0, none⟩) hpb hp).trans c0, (World.frozen?_of_block (w := w) (a := ⟨pb, 0, none⟩) (hA pb hpb hp)).trans f0, hpb, ownsRow_agree hown hA, hne⟩

theorem WInv.lt {B pb : Nat} {xs : List Int} {w : World} (h : WInv B pb xs w) : B < w.heap.size := by
  obtain ⟨v, c0, f0, hpb, hown, hne⟩ := h
  have hp : pb < w.heap.size := World.block_lt_of_cell? w _ c0
  omega

set_option maxHeartbeats 1000000 in
set_option maxRecDepth 100000 in
theorem each_any {n : Nat} (hn : PutOk n) (ks : List (Tr n)) (v : Value) (B pb : Nat) (xs : List Int) (w : World) (h : KSl 0 B w (Rep 0 B w n) v ks) (hk : ∀ k ∈ ks, ∃ r, r ≤ 65535 ∧ Rt n k r) (hw : WInv B pb xs w)
    (hl : xs.length + ((ks.map (formOf n)).flatten).length ≤ 70000) :
    Calls Tryz.prog 205 #[v, .func (.func 161) #[.pointer (some ⟨pb, 0, none⟩)] #[]] w fun e w' => e = .returned (.tuple #[]) ∧ WInv B pb (xs ++ (ks.map (formOf n)).flatten) w' ∧ Below B w w' := by
  obtain ⟨a, cap, rfl, h2, h3, h4, h5, h7⟩ := h
  have A := hid h7
  have HW := hid hw
  have HR := hid hk
  have HLn := hid hl
  clear h7 h4 hw hk hl
  go_enter Tryz.func205, Tryz.ntmps205
  go_wp2_with fail
  go_loopw [8] (fun i wr => ∃ (k : Nat) (ys : List Int), k ≤ ks.length ∧ i = .int .i64 k ∧ Hid (WInv B pb ys wr ∧ Below B w wr ∧ ys ++ ((ks.drop k).map (formOf n)).flatten = xs ++ (ks.map (formOf n)).flatten)) (fun i _ => ks.length - (intOf i).toNat)
  case atStart => exact ⟨0, xs, Nat.zero_le _, rfl, HW.out, Below.refl _ _, rfl⟩
  case round =>
    obtain ⟨k, ys, hk, rfl, HI⟩ := hrel
    by_cases hlt : k < ks.length
    · obtain ⟨b, o, rfl, _, hbs, hc⟩ := A.out (by intro e; subst e; simp at hlt)
      obtain ⟨sb, sk, c0, c1, c2, c3, hrep⟩ := hc k ks[k] (List.getElem?_eq_getElem hlt)
      clear hc
      obtain ⟨a1, l1, p1, a2, l2, p2, rfl, rfl⟩ := hrep.sl
      have hR := hid hrep
      clear hrep
      have hbel := hid HI.out.2.1
      have d0 := (hbel.out.cell (p := ⟨b, o + k * 4, none⟩) hbs).trans c0
      have d1 := (hbel.out.cell (p := ⟨b, o + k * 4 + 1, none⟩) hbs).trans c1
      have d2 := (hbel.out.cell (p := ⟨b, o + k * 4 + 2, none⟩) hbs).trans c2
      have d3 := (hbel.out.cell (p := ⟨b, o + k * 4 + 3, none⟩) hbs).trans c3
      clear c0 c1 c2 c3
      have hdrop : Hid (ks.drop k = ks[k] :: ks.drop (k + 1)) := List.drop_eq_getElem_cons hlt
      have hmem : Hid (∃ r, r ≤ 65535 ∧ Rt n ks[k] r) := HR.out _ (List.getElem_mem hlt)
      generalize ks[k] = t at *
      have hBz := HI.out.1.lt
      go_wp2_with fail
      obtain ⟨r, hr0, hr1⟩ := hmem.out
      have hlen : ys.length + (formOf n t).length ≤ 70000 := by
        have := congrArg List.length HI.out.2.2
        rw [hdrop.out] at this
        simp only [List.length_append, List.map_cons, List.flatten_cons] at this
        have := HLn.out
        omega
      refine (hn t _ _ B pb ys r _ (hR.out.agree ((Agree.below hbel.out).alloc (by omega) _) (Nat.le_refl _) (Nat.le_refl _)) hr1 hr0 (HI.out.1.agree ((Agree.refl _ _ _).alloc (Nat.le_refl _) _)) hlen).mono ?_
      rintro e w1 ⟨rfl, hw1, hb1⟩
      have HW1 := hid hw1
      have HB1 : Hid (Below B w w1) := (hbel.out.alloc (by omega) _).trans hb1
      clear hw1 hb1
      go_wp2_with fail
      go_roundw
      case rel => exact ⟨k + 1, ys ++ formOf n t, by omega, by go_num, HW1.out, HB1.out, by rw [← HI.out.2.2, hdrop.out]; simp⟩
      case measure => simp [intOf]; omega
    · go_wp2_with fail
      go_end0
      refine ⟨rfl, ?_, HI.out.2.1⟩
      have e : ys = xs ++ (ks.map (formOf n)).flatten := by have := HI.out.2.2; rwa [List.drop_of_length_le (by omega), List.map_nil, List.flatten_nil, List.append_nil] at this
      rw [← e]
      exact HI.out.1

theorem bodyOf_1 {n : Nat} {t : Tr (n + 1)} (h : t.hd.1 = 1) : bodyOf (n + 1) t = numB (nsz t.hd.2.1).toNat t.hd.2.1 := by
  simp only [bodyOf]
  rw [if_pos h]

theorem bodyOf_2 {n : Nat} {t : Tr (n + 1)} (h : t.hd.1 = 2) : bodyOf (n + 1) t = t.hd.2.2 := by
  simp only [bodyOf]
  rw [if_neg (by omega), if_pos h]

theorem set_two (tag h l : Int) (body xs : List Int) : (((xs ++ [tag, 0, 0] ++ body).map (Value.int .u8)).set (xs.length + 1) (.int .u8 h)).set (xs.length + 2) (.int .u8 l) = (xs ++ tag :: h :: l :: body).map (Value.int .u8) := by
  cases xs <;> simp

set_option maxHeartbeats 2000000 in
set_option maxRecDepth 100000 in
theorem put_any : ∀ n, PutOk n
  | 0 => fun t => by cases t
  | n + 1 => by
    intro t sb sk B pb xs room w hrep hrt hroom hw hlen
    have ih := put_any n
    obtain ⟨hn0, hn1, hby, hks⟩ := hrep
    have HB := hid hby
    have HK := hid hks
    obtain ⟨ab, cb, rfl, hrb⟩ := hby
    obtain ⟨ak, ck, rfl, hrk⟩ := hks
    clear hrb hrk
    have hfacts := hid hrt.facts
    have HF : Hid (formOf (n + 1) t = t.hd.1 :: ((bodyOf (n + 1) t).length / 256 : Int) :: ((bodyOf (n + 1) t).length % 256 : Int) :: bodyOf (n + 1) t) := rfl
    have HLn := hid hlen
    have HW := hid hw
    obtain ⟨v, c0, f0, hpb, hown, hne⟩ := hw
    obtain ⟨a, c, rfl⟩ := ownsRow_form hown
    have HO := hid hown
    have HNE := hid hne
    have hpz : pb < w.heap.size := World.block_lt_of_cell? w _ c0
    clear hrt hlen hown hne
    obtain ⟨i0, hi, hz0, hz1, hz2⟩ := info_parts Tryz.info5
    have hT1 := hid (rfl : t.kd = t.kd)
    generalize hk1 : t.kd = ks at *
    generalize hk2 : t.hd.2.2 = bs at *
    generalize hk3 : t.hd.2.1 = num at *
    generalize hk4 : t.hd.1 = tag at *
    have HT1 := hid hk1
    have HT2 := hid hk2
    have HT3 := hid hk3
    have HT4 := hid hk4
    clear hk1 hk2 hk3 hk4 hT1
    go_enter Tryz.func161, Tryz.ntmps161
    go_upto_region 2 with fail
    go_cut [] (fun wx => wx.cell? ⟨w.heap.size, 0, none⟩ = some (.int .i64 tag) ∧ wx.cell? ⟨w.heap.size, 1, none⟩ = some (.int .u64 num) ∧ wx.cell? ⟨w.heap.size, 2, none⟩ = some (.slice ab bs.length cb) ∧
      wx.cell? ⟨w.heap.size, 3, none⟩ = some (.slice ak ks.length ck) ∧ w.heap.size < wx.heap.size ∧ Hid (WInv B pb (xs ++ [tag, 0, 0]) wx ∧ Below B w wx))
    case first =>
      have hw3 : Hid (IntKind.u8.wrap tag = tag) := by
        have := hfacts.out.2.2.1
        rw [Hid, IntKind.wrap_u8]
        omega
      have HO2 : Hid (((w.alloc (Obj.cells #[Value.int IntKind.i64 tag, Value.int IntKind.u64 num, Value.slice ab bs.length cb, Value.slice ak ks.length ck] 203)).alloc (Obj.cells #[Value.int IntKind.u8 (IntKind.u8.wrap tag), Value.int IntKind.u8 0, Value.int IntKind.u8 0] 5)).drew.ownsRow B 5 1 (.slice a xs.length c) xs.length (xs.map (Value.int .u8))) := (HO.out.alloc _).alloc _
      have hnews : Hid (∀ j u, [Value.int IntKind.u8 (IntKind.u8.wrap tag), Value.int IntKind.u8 0, Value.int IntKind.u8 0][j]? = some u → ((w.alloc (Obj.cells #[Value.int IntKind.i64 tag, Value.int IntKind.u64 num, Value.slice ab bs.length cb, Value.slice ak ks.length ck] 203)).alloc (Obj.cells #[Value.int IntKind.u8 (IntKind.u8.wrap tag), Value.int IntKind.u8 0, Value.int IntKind.u8 0] 5)).cell? ((⟨w.heap.size + 1, 0, none⟩ : Addr).add j) = some u) :=
        World.news_of_block (cs := #[Value.int IntKind.u8 (IntKind.u8.wrap tag), Value.int IntKind.u8 0, Value.int IntKind.u8 0]) (t := 5) (fr := (0, 0)) (by have h := heap_alloc_new (w.alloc (Obj.cells #[Value.int IntKind.i64 tag, Value.int IntKind.u64 num, Value.slice ab bs.length cb, Value.slice ak ks.length ck] 203)) (Obj.cells #[Value.int IntKind.u8 (IntKind.u8.wrap tag), Value.int IntKind.u8 0, Value.int IntKind.u8 0] 5); simpa using h)
      have hone : Hid (∀ u ∈ [Value.int IntKind.u8 (IntKind.u8.wrap tag), Value.int IntKind.u8 0, Value.int IntKind.u8 0], u.oneCell' = true) := by
        intro u hu
        simp only [List.mem_cons, List.not_mem_nil, or_false] at hu
        rcases hu with rfl | rfl | rfl <;> rfl
      have hxl : xs.length ≤ 70000 := by have := HLn.out; omega
      go_region_law (refine step_append_lies _ (by rfl) (.tmp 15) (.tmp 19) 54 (by rfl) B 5 i0 (.int .u8 0) 1 1 Tryz.underlying54 hi hz0 hz1 hz2 rfl (by omega) (.slice a xs.length c) xs.length (xs.map (Value.int .u8)) (by simp [Act.eval]) HO2.out ⟨w.heap.size + 1, 0, none⟩ 3 3 [Value.int IntKind.u8 (IntKind.u8.wrap tag), Value.int IntKind.u8 0, Value.int IntKind.u8 0] (by simp [Act.eval]) rfl hnews.out hone.out (by omega) (by unfold maxLen; omega) (by omega) (by simp; omega) (w.heap.size + 1 + 1) (by simp) ?_; intro g cap w2 hown2 hgrow2 hat2 hlt2; have c2 : w2.cell? ⟨pb, 0, none⟩ = some (.slice a xs.length c) := (hgrow2.cell_far ⟨pb, 0, none⟩ (by simp; omega) (fun e => HNE.out e.symm)).trans ((World.cell?_alloc_past _ _ _ (by simp; omega)).trans ((World.cell?_alloc_past _ _ _ hpz).trans c0)); have f2 : w2.frozen? ⟨pb, 0, none⟩ = false := (hgrow2.frozen_far ⟨pb, 0, none⟩ (by simp; omega) (fun e => HNE.out e.symm)).trans ((World.frozen?_alloc_past _ _ _ (by simp; omega)).trans ((World.frozen?_alloc_past _ _ _ hpz).trans f0)); have HO3 := hid hown2; have HG := hid hgrow2; have HAT := hid hat2; clear hown2 hgrow2 hat2)
      all_goals go_wp2_with fail
      all_goals go_meet
      all_goals
        have hbx : some w.heap.size ≠ (Value.slice a xs.length c).ownBlock := fun e => by have := (HO.out.lt _ e.symm).2; omega
        have hcb : ∀ o, w2.cell? ⟨w.heap.size, o, none⟩ = (w.alloc (Obj.cells #[Value.int IntKind.i64 tag, Value.int IntKind.u64 num, Value.slice ab bs.length cb, Value.slice ak ks.length ck] 203)).cell? ⟨w.heap.size, o, none⟩ := fun o => (HG.out.cell_far ⟨w.heap.size, o, none⟩ (by simp; omega) hbx).trans (World.cell?_alloc_past _ _ _ (by simp))
        have hz3 := HG.out.size
        simp at hz3
        refine ⟨?_, ?_, ?_, ?_, by simp; omega, ?_, ?_⟩
        · rw [cell_apart (by simp; omega), hcb]; simp [go_sem]
        · rw [cell_apart (by simp; omega), hcb]; simp [go_sem]
        · rw [cell_apart (by simp; omega), hcb]; simp [go_sem]
        · rw [cell_apart (by simp; omega), hcb]; simp [go_sem]
        · have h := HO3.out
          rw [hw3.out] at h
          exact WInv.push (v := .slice a xs.length c) (H := w.heap.size + 1 + 1) (news := [tag, 0, 0]) (by simpa using h) hpb (by omega) HNE.out c2 f2 HAT.out
        · exact (((((Below.refl _ _).alloc (by omega) _).alloc (by simp; omega) _).drew).grown HG.out (by simp; omega) (fun r e => (HO.out.lt r e).1)).setCell hpb _
    case rest =>
      obtain ⟨b0, b1, b2, b3, hbz, HX⟩ := hcut
      have hbl : Hid ((xs ++ [tag, 0, 0]).length + (bodyOf (n + 1) t).length ≤ 70000) := by have h := HLn.out; rw [HF.out] at h; simp only [List.length_cons] at h; simp only [Hid, List.length_append, List.length_cons, List.length_nil]; omega
      go_upto_block 0 with fail
      go_cut [25, 31, 43] (fun _ _ _ wx => Hid (WInv B pb (xs ++ [tag, 0, 0] ++ bodyOf (n + 1) t) wx ∧ Below B w wx))
      case first =>
        by_cases h1 : tag = 1
        · have hb1 := hid (bodyOf_1 (HT4.out.trans h1))
          subst h1
          go_wp2_with fail
          refine (number_put B pb (xs ++ [1, 0, 0]) num wc HX.out.1 hn0 hn1 (by have := hbl.out; omega)).mono ?_
          rintro e w1 ⟨rfl, hw1, hbe1⟩
          have HW1 := hid hw1
          have HB1 := hid hbe1
          clear hw1 hbe1
          go_wp2_with fail
          go_meet
          refine ⟨?_, HX.out.2.trans HB1.out⟩
          rw [hb1.out, HT3.out]
          exact HW1.out
        · by_cases h2 : tag = 2
          · have hb1 := hid (bodyOf_2 (HT4.out.trans h2))
            subst h2
            obtain ⟨ys, hys⟩ : ∃ ys, xs ++ [2, 0, 0] = ys := ⟨_, rfl⟩
            have HYS := hid hys
            have HX1 := HX.out.1
            have hbl1 := hbl.out
            rw [hys] at HX1 hbl1
            have hyn : ys ≠ [] := by rw [← hys]; simp
            clear hys
            obtain ⟨v', c0', f0', _, hown', hne'⟩ := HX1
            have hpz' : pb < wc.heap.size := by omega
            by_cases hbs : bs = []
            · subst hbs
              rcases hown'.2 with ⟨_, h0⟩ | ⟨g, cap, cur, rfl, hgB, hgg, hgl, hgm, hgs, hgt⟩
              · exact absurd (List.length_eq_zero_iff.1 h0) hyn
              · have HC := hid hgt
                have HO4 := hid hown'
                have HNE4 := hid hne'
                clear hgt hown' hne'
                cases ab
                all_goals
                  go_wp2_with fail
                  go_region
                  all_goals
                    go_wp2_with fail
                    go_meet
                    refine ⟨?_, HX.out.2.drew.setCell hpb _⟩
                    rw [hb1.out, HT2.out, List.append_nil, HYS.out]
                    refine ⟨_, World.cell?_setCell_same _ _ _ c0', by simp [f0'], hpb, ?_, by simpa using HNE4.out⟩
                    have h := ownsRow_set_ne HO4.out (p := ⟨pb, 0, none⟩) HNE4.out (Value.slice (some ⟨g, 0, none⟩) ys.length cap)
                    simpa using h.drew
            · obtain ⟨_, _, ea, _, _, _, _, _, h7⟩ := HB.out
              simp only [Value.slice.injEq, true_and] at ea
              obtain ⟨rfl, rfl⟩ := ea
              obtain ⟨b, o, rfl, _, hbB, hcc⟩ := h7 hbs
              obtain ⟨a5, c5, rfl⟩ := ownsRow_form hown'
              have hbpos : 0 < bs.length := List.length_pos_iff.2 hbs
              have hnews : Hid (∀ j u, (bs.map (Value.int .u8))[j]? = some u → wc.cell? ((⟨b, o, none⟩ : Addr).add j) = some u) := by
                intro j u hj
                have hjn : j < bs.length := by
                  have := (List.getElem?_eq_some_iff.1 hj).1
                  simpa using this
                rw [addr_add, HX.out.2.cell (p := ⟨b, o + j, none⟩) hbB, hcc j hjn]
                simp only [List.getElem?_map, List.getElem?_eq_getElem hjn, Option.map_some, Option.some.injEq] at hj
                simp [List.getElem?_eq_getElem hjn, hj]
              have hone : Hid (∀ u ∈ bs.map (Value.int .u8), u.oneCell' = true) := by intro u hu; obtain ⟨x, _, rfl⟩ := List.mem_map.1 hu; rfl
              have HO4 := hid hown'
              have HNE4 := hid hne'
              have hyl : ys.length + bs.length ≤ 70000 := by rw [hb1.out, HT2.out] at hbl1; exact hbl1
              clear hbl1 hown' hne' hcc h7
              go_wp2_with fail
              go_region_law (refine step_append_lies _ (by rfl) (.tmp 37) (.tmp 39) 54 (by rfl) B 5 i0 (.int .u8 0) 1 1 Tryz.underlying54 hi hz0 hz1 hz2 rfl (by omega) (.slice a5 ys.length c5) ys.length (ys.map (Value.int .u8)) (by simp [Act.eval]) HO4.out.drew ⟨b, o, none⟩ bs.length cb (bs.map (Value.int .u8)) (by simp [Act.eval]) (by simp) hnews.out hone.out (by omega) (by unfold maxLen; omega) (by omega) (by simp; omega) wc.heap.size (by simp) ?_; intro g cap w2 hown2 hgrow2 hat2 hlt2; have c2 : w2.cell? ⟨pb, 0, none⟩ = some (.slice a5 ys.length c5) := (hgrow2.cell_far ⟨pb, 0, none⟩ (by simp; omega) (fun e => HNE4.out e.symm)).trans c0'; have f2 : w2.frozen? ⟨pb, 0, none⟩ = false := (hgrow2.frozen_far ⟨pb, 0, none⟩ (by simp; omega) (fun e => HNE4.out e.symm)).trans f0'; have HO3 := hid hown2; have HG := hid hgrow2; have HAT := hid hat2; clear hown2 hgrow2 hat2)
              all_goals go_wp2_with fail
              all_goals
                go_meet
                refine ⟨?_, (HX.out.2.drew.grown HG.out (by simp; omega) (fun r e => (HO4.out.lt r e).1)).setCell hpb _⟩
                rw [hb1.out, HT2.out, HYS.out]
                exact WInv.push (v := .slice a5 ys.length c5) (H := wc.heap.size) HO3.out hpb (by omega) HNE4.out c2 f2 HAT.out
          · have h3 : tag = 3 := by have := hfacts.out.2.2.1; omega
            have hb1 := hid (bodyOf_kids (HT4.out.trans h3))
            have hkr := hid (hfacts.out.2.2.2 h3)
            subst h3
            go_wp2_with fail
            refine (each_any ih ks _ B pb (xs ++ [3, 0, 0]) wc (HK.out.agree (fun _ _ _ r => r.agree (Agree.below HX.out.2) (Nat.le_refl _) (Nat.le_refl _)) (Agree.below HX.out.2) (Nat.le_refl _) (Nat.le_refl _)) (fun k hk => by obtain ⟨r, h1, h2⟩ := hkr.out k hk; exact ⟨r, by omega, h2⟩) HX.out.1 (by have := hbl.out; rw [hb1.out, HT1.out] at this; exact this)).mono ?_
            rintro e w1 ⟨rfl, hw1, hbe1⟩
            have HW1 := hid hw1
            have HB1 := hid hbe1
            clear hw1 hbe1
            go_wp2_with fail
            go_meet
            refine ⟨?_, HX.out.2.trans HB1.out⟩
            rw [hb1.out, HT1.out]
            exact HW1.out
      case rest =>
        have hroom1 := hfacts.out.2.1
        obtain ⟨body, hbd⟩ : ∃ body, bodyOf (n + 1) t = body := ⟨_, rfl⟩
        rw [hbd] at hcut hroom1 HF
        clear hbl hbd
        have hbl : body.length ≤ 65535 := by omega
        obtain ⟨v', c0', f0', _, hown', hne'⟩ := hcut.out.1
        rcases hown'.2 with ⟨_, h0⟩ | ⟨g, cap, cur, rfl, hgB, hgg, hgl, hgm, hgs, hgt⟩
        · simp at h0
        · have HO4 := hid hown'
          have hgp : g ≠ pb := by simpa [Value.ownBlock] using hne'
          have hx1 : wc.cell? ⟨g, xs.length + 1, none⟩ = some (.int .u8 0) := by rw [hown'.cellAt _ (by simp)]; simp
          have hx2 : wc.cell? ⟨g, xs.length + 2, none⟩ = some (.int .u8 0) := by rw [hown'.cellAt _ (by simp)]; simp
          have hff : ∀ o, wc.frozen? ⟨g, o, none⟩ = false := fun o => hown'.frozenAt o
          have hL : (xs ++ [tag, 0, 0] ++ body).length = xs.length + 3 + body.length := by simp; omega
          rw [hL] at c0'
          have hxl : xs.length ≤ 70000 := by have := HLn.out; omega
          have HNE4 := hid hne'
          clear hL hown' hne' hgg hgl hgm hgs hgt c0 f0 HO HNE hpz b0 b1 b2 b3 hbz
          go_wp2_with fail
          go_big_region
          go_end0
          refine ⟨rfl, ?_, ((hcut.out.2.setCell hgB _).setCell hgB _).drew⟩
          have e1 : ((xs.length : Int) + 3 + body.length - xs.length - 3) = (body.length : Int) := by omega
          rw [HF.out, e1]
          have st := ((HO4.out.stored (xs.length + 1) (.int .u8 ((body.length : Int) / 256))).1.stored (xs.length + 2) (.int .u8 ((body.length : Int) % 256))).1
          rw [set_two] at st
          have hL2 : (xs ++ [tag, 0, 0] ++ body).length = (xs ++ tag :: ((body.length : Int) / 256) :: ((body.length : Int) % 256) :: body).length := by simp
          rw [hL2] at st
          refine ⟨.slice (some ⟨g, 0, none⟩) (xs ++ tag :: ((body.length : Int) / 256) :: ((body.length : Int) % 256) :: body).length cap, ?_, ?_, hpb, st.drew, by simpa [Value.ownBlock] using hgp⟩
          · rw [← hL2, World.cell?_drew, cell_apart (fun e => hgp e.symm), cell_apart (fun e => hgp e.symm), c0']
            simp
            omega
          · rw [World.frozen?_drew, World.frozen?_setCell, World.frozen?_setCell]
            exact f0'

end Go.Proofs.YthmimipoooemjaaGreatDoor.Tlv
end

section
/-
  What bodySize, listSize, Size and Right of tlv answer, for whatever tree lies in memory.
-/
namespace Go.Proofs.YthmimipoooemjaaGreatDoor.Tlv
open Go.RowKit

/-- What bodySize does with a tree that is nested at most n deep. -/
def SizeOk (n : Nat) : Prop := ∀ (t : Tr n) (sb sk : Value) (room deep : Int) (w : World), Rep 0 w.heap.size w n t sb sk → -3 ≤ room → room ≤ 65535 → 0 ≤ deep → deep ≤ 8 →
  Calls Tryz.prog 155 #[.agg #[.int .i64 t.hd.1, .int .u64 t.hd.2.1, sb, sk], .int .i64 room, .int .i64 deep] w fun e w' =>
    e = .returned (.tuple #[.int .i64 (bsz n t room deep).1, .bool (bsz n t room deep).2]) ∧ Below w.heap.size w w'

theorem lsz_go {α : Type} {f : α → Int → Int → Int × Bool} {ks : List α} {room deep : Int} (h : 0 < deep) : lsz f ks room deep = lszGo f room deep 0 ks := by
  unfold lsz; rw [if_neg (by omega)]

set_option maxHeartbeats 1000000 in
theorem listSize_any {n : Nat} (hn : SizeOk n) (ks : List (Tr n)) (v : Value) (room deep : Int) (w : World) (h : KSl 0 w.heap.size w (Rep 0 w.heap.size w n) v ks) (hr0 : 0 ≤ room) (hr1 : room ≤ 65535) (hd0 : 0 < deep) (hd1 : deep ≤ 8) :
    Calls Tryz.prog 202 #[v, .int .i64 room, .int .i64 deep] w fun e w' => e = .returned (.tuple #[.int .i64 (lsz (bsz n) ks room deep).1, .bool (lsz (bsz n) ks room deep).2]) ∧ Below w.heap.size w w' := by
  rw [lsz_go hd0]
  obtain ⟨a, cap, rfl, h2, h3, h4, h5, h7⟩ := h
  have A := hid h7
  have hdb : (deep == 0) = false := by simp; omega
  clear h7 h4
  go_enter Tryz.func202, Tryz.ntmps202
  go_wp2
  go_loopw [8, 17] (fun c i wr => ∃ (k : Nat) (acc : Int), k ≤ ks.length ∧ i = .int .i64 k ∧ c = .int .i64 acc ∧ 0 ≤ acc ∧ acc ≤ room ∧ Hid (lszGo (bsz n) room deep acc (ks.drop k) = lszGo (bsz n) room deep 0 ks) ∧ Hid (Below w.heap.size w wr)) (fun _ i _ => ks.length - (intOf i).toNat)
  case atStart => exact ⟨0, 0, Nat.zero_le _, rfl, rfl, by omega, by omega, by simp [Hid], Below.refl _ _⟩
  case round =>
    obtain ⟨k, acc, hk, rfl, rfl, ha0, ha1, hgo, hbel⟩ := hrel
    by_cases hlt : k < ks.length
    · obtain ⟨b, o, rfl, _, hbs, hc⟩ := A.out (by intro e; subst e; simp at hlt)
      obtain ⟨sb, sk, c0, c1, c2, c3, hrep⟩ := hc k ks[k] (List.getElem?_eq_getElem hlt)
      clear hc
      obtain ⟨a1, l1, p1, a2, l2, p2, rfl, rfl⟩ := hrep.sl
      have hR := hid hrep
      clear hrep
      have d0 := (hbel.out.cell (p := ⟨b, o + k * 4, none⟩) hbs).trans c0
      have d1 := (hbel.out.cell (p := ⟨b, o + k * 4 + 1, none⟩) hbs).trans c1
      have d2 := (hbel.out.cell (p := ⟨b, o + k * 4 + 2, none⟩) hbs).trans c2
      have d3 := (hbel.out.cell (p := ⟨b, o + k * 4 + 3, none⟩) hbs).trans c3
      clear c0 c1 c2 c3
      have hdrop : Hid (ks.drop k = ks[k] :: ks.drop (k + 1)) := List.drop_eq_getElem_cons hlt
      generalize ks[k] = t at *
      go_wp2_with fail
      have hbz := hbel.out.size
      have hbw : b < wr.heap.size := by omega
      refine (hn t _ _ _ _ _ (hR.out.agree ((Agree.below hbel.out).alloc hbz _) (Nat.le_refl _) (by simp; omega)) (by omega) (by omega) (by omega) (by omega)).mono ?_
      rintro e w1 ⟨rfl, hb1⟩
      have hfit := bsz_fits n t (room - acc - 3) (deep - 1)
      have hst : Hid (lszGo (bsz n) room deep acc (t :: ks.drop (k + 1)) = if (bsz n t (room - acc - 3) (deep - 1)).2 then lszGo (bsz n) room deep (acc + (3 + (bsz n t (room - acc - 3) (deep - 1)).1)) (ks.drop (k + 1)) else (0, false)) := rfl
      have hb2 : Hid (Below w.heap.size w w1) := (hbel.out.alloc hbz _).trans (hb1.mono (by simp; omega))
      clear hb1
      generalize bsz n t (room - acc - 3) (deep - 1) = r at hfit hst ⊢
      obtain ⟨m, ok⟩ := r
      cases ok with
      | true =>
        have hm := hfit rfl
        clear hfit
        simp only at hm
        go_wp2_with fail
        go_roundw
        case rel => exact ⟨k + 1, acc + (3 + m), by omega, by go_num, by go_num, by omega, by omega, by rw [Hid, ← hgo.out, hdrop.out, hst.out]; rfl, hb2⟩
        case measure => simp [intOf]; omega
      | false =>
        clear hfit
        go_wp2_with fail
        go_ret2
        refine ⟨?_, hb2.out⟩
        rw [← hgo.out, hdrop.out, hst.out]
        rfl
    · go_wp2_with fail
      go_ret2
      refine ⟨?_, hbel.out⟩
      rw [← hgo.out, List.drop_of_length_le (by omega)]
      rfl

set_option maxHeartbeats 400000 in
theorem listSize_zero (a : Option Addr) (l c : Nat) (room : Int) (w : World) :
    Calls Tryz.prog 202 #[.slice a l c, .int .i64 room, .int .i64 0] w fun e w' => e = .returned (.tuple #[.int .i64 0, .bool false]) ∧ w' = w := by
  go_enter Tryz.func202, Tryz.ntmps202
  go_wp2_with fail
  go_ret2
  exact ⟨rfl, rfl⟩

theorem bsz_no {n : Nat} {t : Tr (n + 1)} {room deep : Int} (h : room < 0 ∨ oeB t.hd.1 t.hd.2.1 t.hd.2.2.length t.kd.length = false) : bsz (n + 1) t room deep = (0, false) := by
  simp only [bsz]; rw [if_pos h]

theorem bsz_yes {n : Nat} {t : Tr (n + 1)} {room deep : Int} (h0 : 0 ≤ room) (h1 : oeB t.hd.1 t.hd.2.1 t.hd.2.2.length t.kd.length = true) : bsz (n + 1) t room deep =
    if t.hd.1 = 1 then (nsz t.hd.2.1, decide (nsz t.hd.2.1 ≤ room))
    else if t.hd.1 = 2 then ((t.hd.2.2.length : Int), decide ((t.hd.2.2.length : Int) ≤ room))
    else if t.hd.1 = 3 then lsz (bsz n) t.kd room deep
    else (0, false) := by
  simp only [bsz]; rw [if_neg (by rw [h1]; simp; omega)]

set_option maxHeartbeats 1000000 in
theorem bodySize_any : ∀ n, SizeOk n
  | 0 => fun t => by cases t
  | n + 1 => by
    intro t sb sk room deep w hrep hr0 hr1 hd0 hd1
    have ih := bodySize_any n
    obtain ⟨hn0, hn1, hby, hks⟩ := hrep
    have HB := hid hby
    have HK := hid hks
    obtain ⟨ab, cb, rfl, hrb⟩ := hby
    obtain ⟨ak, ck, rfl, hrk⟩ := hks
    clear hrb hrk
    have hoe := bsz_no (t := t) (room := room) (deep := deep)
    have hyes := bsz_yes (t := t) (room := room) (deep := deep)
    have hlb : t.hd.2.2.length ≤ 140737488355328 := by obtain ⟨_, _, _, _, _, _, h, _⟩ := HB.out; exact h
    generalize bsz (n + 1) t room deep = r at *
    generalize hks' : t.kd = ks at *
    have HKS := hid hks'
    clear hks'
    generalize t.hd.2.2 = bs at *
    generalize t.hd.2.1 = num at *
    generalize t.hd.1 = tag at *
    by_cases hneg : room < 0
    · rw [hoe (.inl hneg)]
      clear hoe hyes
      go_enter Tryz.func155, Tryz.ntmps155
      go_wp2_with fail
      go_ret2
      exact ⟨rfl, (Below.refl _ _).alloc (Nat.le_refl _) _⟩
    · cases hq : oeB tag num bs.length ks.length with
      | false =>
        rw [hoe (.inr hq)]
        clear hoe hyes
        have HQ := hid hq
        clear hq
        go_enter Tryz.func155, Tryz.ntmps155
        go_wp2_with fail
        refine (othersEmpty_any _ _ _ _ _ _ _ _ _).mono ?_
        rintro e w1 ⟨rfl, hb1⟩
        rw [HQ.out]
        have hb2 : Hid (Below w.heap.size w w1) := ((Below.refl _ _).alloc (Nat.le_refl _) _).trans (hb1.mono (by simp))
        clear hb1
        go_wp2_with fail
        go_ret2
        exact ⟨rfl, hb2.out⟩
      | true =>
        have hr := hid (hyes (by omega) hq)
        have HQ := hid hq
        clear hoe hyes hq
        have hroom : 0 ≤ room := by omega
        clear hneg
        go_enter Tryz.func155, Tryz.ntmps155
        go_wp2_with fail
        refine (othersEmpty_any _ _ _ _ _ _ _ _ _).mono ?_
        rintro e w1 ⟨rfl, hb1⟩
        rw [HQ.out]
        have hb2 : Hid (Below w.heap.size w w1) := ((Below.refl _ _).alloc (Nat.le_refl _) _).trans (hb1.mono (by simp))
        have hz : w.heap.size < w1.heap.size := by have := hb1.size; simp at this; omega
        obtain ⟨hc, hf⟩ := bcell hb1
        clear hb1 hf
        by_cases h1 : tag = 1
        · subst h1
          go_wp2_with fail
          refine (numberSize_any _ _ hn0 hn1).mono ?_
          rintro e w2 ⟨rfl, hw2⟩
          rw [hw2]
          clear hw2
          go_wp2_with fail
          go_ret2
          refine ⟨?_, hb2.out⟩
          rw [hr.out]
          rfl
        · by_cases h2 : tag = 2
          · subst h2
            go_wp2_with fail
            go_ret2
            refine ⟨?_, hb2.out⟩
            rw [hr.out]
            rfl
          · by_cases h3 : tag = 3
            · subst h3
              by_cases hdz : deep = 0
              · subst hdz
                go_wp2_with fail
                refine (listSize_zero _ _ _ _ _).mono ?_
                rintro e w2 ⟨rfl, hw2⟩
                rw [hw2]
                clear hw2
                go_wp2_with fail
                go_ret2
                refine ⟨?_, hb2.out⟩
                rw [hr.out]
                rfl
              · go_wp2_with fail
                refine (listSize_any ih ks _ _ _ _ (HK.out.agree (fun _ _ _ h => h.agree (Agree.below hb2.out) (Nat.le_refl _) (by omega)) (Agree.below hb2.out) (Nat.le_refl _) (by omega)) hroom hr1 (by omega) hd1).mono ?_
                rintro e w2 ⟨rfl, hb3⟩
                have hb4 : Hid (Below w.heap.size w w2) := hb2.out.trans (hb3.mono (by omega))
                clear hb3
                go_wp2_with fail
                go_ret2
                refine ⟨?_, hb4.out⟩
                rw [hr.out]
                rfl
            · go_wp2_with fail
              go_ret2
              refine ⟨?_, hb2.out⟩
              rw [hr.out, if_neg h1, if_neg h2, if_neg h3]
              rfl

/-- How many bytes a tree's form has; 0: it is not right. -/
def szT (n : Nat) (t : Tr n) : Int := if (bsz n t 65535 8).2 then 3 + (bsz n t 65535 8).1 else 0

set_option maxHeartbeats 400000 in
theorem size_any {n : Nat} (t : Tr n) (sb sk : Value) (w : World) (h : Rep 0 w.heap.size w n t sb sk) :
    Calls Tryz.prog 108 #[.agg #[.int .i64 t.hd.1, .int .u64 t.hd.2.1, sb, sk]] w fun e w' => e = .returned (.int .i64 (szT n t)) ∧ Below w.heap.size w w' := by
  obtain ⟨a1, l1, p1, a2, l2, p2, rfl, rfl⟩ := h.sl
  have H := hid h
  clear h
  have hfit := bsz_fits n t 65535 8
  go_enter Tryz.func108, Tryz.ntmps108
  go_wp2_with fail
  refine (bodySize_any n t _ _ _ _ _ (H.out.agree ((Agree.refl _ _ _).alloc (Nat.le_refl _) _) (Nat.le_refl _) (by simp)) (by omega) (by omega) (by omega) (by omega)).mono ?_
  rintro e w1 ⟨rfl, hb1⟩
  have hb2 : Hid (Below w.heap.size w w1) := ((Below.refl _ _).alloc (Nat.le_refl _) _).trans (hb1.mono (by simp))
  clear hb1
  obtain ⟨r, hr⟩ : ∃ r, bsz n t 65535 8 = r := ⟨_, rfl⟩
  rw [hr] at hfit
  have HR := hid hr
  clear hr
  rw [HR.out]
  obtain ⟨m, ok⟩ := r
  cases ok with
  | true =>
    have hm := hfit rfl
    clear hfit
    simp only at hm
    go_wp2_with fail
    go_ret
    refine ⟨?_, hb2.out⟩
    rw [szT, HR.out]
    rfl
  | false =>
    clear hfit
    go_wp2_with fail
    go_ret
    refine ⟨?_, hb2.out⟩
    rw [szT, HR.out]
    rfl

end Go.Proofs.YthmimipoooemjaaGreatDoor.Tlv
end

section
/-
  What Put of tlv answers.
-/
namespace Go.Proofs.YthmimipoooemjaaGreatDoor.Tlv
open Go.RowKit

theorem numB_byte : ∀ (k : Nat) (x : Int), ∀ y ∈ numB k x, 0 ≤ y ∧ y ≤ 255
  | 0, _, y, h => by simp [numB] at h
  | k + 1, x, y, h => by
    simp only [numB, List.mem_cons] at h
    rcases h with rfl | h
    · omega
    · exact numB_byte k x y h

/-- A form's bytes are bytes. -/
theorem form_byte : ∀ (n : Nat) (t : Tr n) (L B : Nat) (w : World) (sb sk : Value) (room : Int), Rep L B w n t sb sk → Rt n t room → room ≤ 65535 → ∀ x ∈ formOf n t, 0 ≤ x ∧ x ≤ 255
  | 0, t, _, _, _, _, _, _, _, _, _ => by cases t
  | n + 1, t, L, B, w, sb, sk, room, hr, ht, hroom => by
    obtain ⟨h0, h1, h2, h3⟩ := ht.facts
    obtain ⟨_, _, hby, hks⟩ := hr
    have hb : ∀ x ∈ bodyOf (n + 1) t, 0 ≤ x ∧ x ≤ 255 := by
      rcases h2 with h2 | h2 | h2
      · rw [bodyOf_1 h2]
        exact numB_byte _ _
      · rw [bodyOf_2 h2]
        obtain ⟨_, _, _, _, _, _, _, h, _⟩ := hby
        exact h
      · rw [bodyOf_kids h2]
        intro x hx
        obtain ⟨l, hl, hx⟩ := List.mem_flatten.1 hx
        obtain ⟨k, hk, rfl⟩ := List.mem_map.1 hl
        obtain ⟨r, hr0, hr1⟩ := h3 h2 k hk
        obtain ⟨j, hj⟩ := List.getElem?_of_mem hk
        obtain ⟨_, _, _, _, _, _, _, h7⟩ := hks
        obtain ⟨b, o, _, _, _, hc⟩ := h7 (by intro e; rw [e] at hj; simp at hj)
        obtain ⟨sb', sk', _, _, _, _, hrep⟩ := hc j k hj
        exact form_byte n k L B w sb' sk' r hrep hr1 (by omega) x hx
    intro x hx
    simp only [formOf, List.mem_cons] at hx
    rcases hx with rfl | rfl | rfl | hx
    · omega
    · omega
    · omega
    · exact hb x hx

set_option maxHeartbeats 1000000 in
set_option maxRecDepth 100000 in
theorem Put_yes {n : Nat} (t : Tr n) (sb sk : Value) (w : World) (h : Rep 0 w.heap.size w n t sb sk) (hz : szT n t ≠ 0) :
    Calls Tryz.prog 113 #[.agg #[.int .i64 t.hd.1, .int .u64 t.hd.2.1, sb, sk]] w fun e w' => ∃ v, e = .returned (.tuple #[v, .int .i64 0]) ∧ BySl w.heap.size w'.heap.size w' v (formOf n t) ∧ Below w.heap.size w w' := by
  obtain ⟨a1, l1, p1, a2, l2, p2, rfl, rfl⟩ := h.sl
  have H := hid h
  clear h
  have hok : (bsz n t 65535 8).2 = true := by
    unfold szT at hz
    split at hz
    · assumption
    · exact absurd rfl hz
  have hsz : szT n t = 3 + ((bodyOf n t).length : Int) := by rw [szT, if_pos hok, bsz_len _ _ _ _ hok]
  have hbd := bsz_fits _ _ _ _ hok
  rw [bsz_len _ _ _ _ hok] at hbd
  have HOK := hid hok
  have HSZ := hid hsz
  clear hz hok hsz
  obtain ⟨m, hm⟩ : ∃ m, (bodyOf n t).length = m := ⟨_, rfl⟩
  rw [hm] at hbd
  have HM := hid hm
  clear hm
  go_enter Tryz.func113, Tryz.ntmps113
  go_wp2_with fail
  refine (size_any t _ _ _ (H.out.agree ((Agree.refl _ _ _).alloc (Nat.le_refl _) _) (Nat.le_refl _) (by simp))).mono ?_
  rintro e w1 ⟨rfl, hb1⟩
  rw [HSZ.out, HM.out]
  have hb2 : Hid (Below w.heap.size w w1) := ((Below.refl _ _).alloc (Nat.le_refl _) _).trans (hb1.mono (by simp))
  have hbz : w.heap.size < w1.heap.size := by have := hb1.size; simp at this; omega
  obtain ⟨hc, hf⟩ := bcell hb1
  have b0 : w1.cell? ⟨w.heap.size, 0, none⟩ = some (.int .i64 t.hd.1) := by rw [hc _ _ (by simp)]; simp [go_sem]
  have b1 : w1.cell? ⟨w.heap.size, 1, none⟩ = some (.int .u64 t.hd.2.1) := by rw [hc _ _ (by simp)]; simp [go_sem]
  have b2 : w1.cell? ⟨w.heap.size, 2, none⟩ = some (.slice a1 l1 p1) := by rw [hc _ _ (by simp)]; simp [go_sem]
  have b3 : w1.cell? ⟨w.heap.size, 3, none⟩ = some (.slice a2 l2 p2) := by rw [hc _ _ (by simp)]; simp [go_sem]
  clear hb1 hc hf
  obtain ⟨i0, hi, hz0, hz1, hz2⟩ := info_parts Tryz.info5
  go_wp2_with (at_make; refine wpList_make_own _ rfl _ _ 54 rfl w1.heap.size 5 i0 (.int .u8 0) 1 Tryz.underlying54 hi hz0 hz1 .i64 .i64 _ (3 + m) rfl rfl (by omega) (by rw [hz2]; omega) (by unfold maxLen; omega) (Nat.le_refl _) ?_; intro w2 hown2 hgrow2; have k0 := hgrow2.cell b0 (by simp); have k1 := hgrow2.cell b1 (by simp); have k2 := hgrow2.cell b2 (by simp); have k3 := hgrow2.cell b3 (by simp); have hz3 := hgrow2.size; have HO2 := hid hown2; have HG2 := hid hgrow2; clear b0 b1 b2 b3 hown2 hgrow2; have hw2 : w.heap.size < w2.heap.size := by omega)
  have hrow : w1.heap.size < w2.heap.size := (HO2.out.lt _ rfl).2
  have hA : Agree 0 w.heap.size w (w2.alloc (Obj.cells #[Value.slice (some ⟨w1.heap.size, 0, none⟩) 0 (3 + m)] 255)) := ((Agree.below hb2.out).trans (fun k _ h2 => HG2.out.block k (by omega) (by simp))).alloc (by omega) _
  have hW : WInv w1.heap.size w2.heap.size [] (w2.alloc (Obj.cells #[Value.slice (some ⟨w1.heap.size, 0, none⟩) 0 (3 + m)] 255)) :=
    ⟨_, by simp, by simp, by omega, HO2.out.alloc _, by simp [Value.ownBlock]; omega⟩
  have hfl : (formOf n t).length = 3 + m := by rw [formOf, ← HM.out]; simp only [List.length_cons]; omega
  refine (put_any n t _ _ w1.heap.size w2.heap.size [] 65535 _ (Rep.agree (L' := 0) (B' := w1.heap.size) hA (Nat.le_refl _) (by omega) H.out) ⟨8, HOK.out⟩ (by omega) hW (by rw [hfl]; simp; omega)).mono ?_
  rintro e w3 ⟨rfl, hW3, hb3⟩
  have HW3 := hid hW3
  obtain ⟨v, c3, f3, _, hown3, _⟩ := hW3
  rw [List.nil_append] at hown3
  obtain ⟨av, cv, rfl⟩ := ownsRow_form hown3
  have HO3 := hid hown3
  have hbel : Hid (Below w.heap.size w w3) := ((hb2.out.grown HG2.out (by omega) (by intro k e; cases e)).alloc (by omega) _).trans (hb3.mono (by omega))
  have HFL := hid hfl
  clear hown3 hW hA hb3 hfl
  go_wp2_with fail
  go_ret2
  refine ⟨_, rfl, ?_, hbel.out⟩
  have K := BySl.own HO3.out (by rw [HFL.out]; omega) (form_byte n t _ _ _ _ _ 65535 H.out ⟨8, HOK.out⟩ (by omega))
  exact K.agree (Agree.refl _ _ _) (by omega) (Nat.le_refl _)

end Go.Proofs.YthmimipoooemjaaGreatDoor.Tlv
end

section
/-
  Plain mathematics: a right tree's form is read as that tree, whatever is behind it; and bytes that are read are the form of what they are read as.
-/
namespace Go.Proofs.YthmimipoooemjaaGreatDoor.Tlv

/-- Lists whose members are the same, one by one. -/
def sameL {α β : Type} (f : α → β → Bool) : List α → List β → Bool
  | [], [] => true
  | a :: xs, b :: ys => f a b && sameL f xs ys
  | _, _ => false

/-- Trees that are the same, however deep they may be. -/
def sameT : (n : Nat) → Tr n → (m : Nat) → Tr m → Bool
  | 0, t, _, _ => by cases t
  | _ + 1, _, 0, u => by cases u
  | n + 1, t, m + 1, u => decide (t.hd = u.hd) && sameL (fun a b => sameT n a m b) t.kd u.kd

theorem bsz_1 {n : Nat} (num : Int) (room deep : Int) (h0 : 0 ≤ room) : bsz (n + 1) (Tr.mk 1 num [] []) room deep = (nsz num, decide (nsz num ≤ room)) := by
  simp only [bsz]
  rw [if_neg (by simp only [not_or]; exact ⟨by omega, by simp [Tr.mk, Tr.hd, Tr.kd, oeB]⟩)]
  rfl

theorem bsz_2 {n : Nat} (bs : List Int) (room deep : Int) (h0 : 0 ≤ room) : bsz (n + 1) (Tr.mk 2 0 bs []) room deep = ((bs.length : Int), decide ((bs.length : Int) ≤ room)) := by
  simp only [bsz]
  rw [if_neg (by simp only [not_or]; exact ⟨by omega, by simp [Tr.mk, Tr.hd, Tr.kd, oeB]⟩)]
  rfl

theorem bsz_3 {n : Nat} (ks : List (Tr n)) (room deep : Int) (h0 : 0 ≤ room) : bsz (n + 1) (Tr.mk 3 0 [] ks) room deep = lsz (bsz n) ks room deep := by
  simp only [bsz]
  rw [if_neg (by simp only [not_or]; exact ⟨by omega, by simp [Tr.mk, Tr.hd, Tr.kd, oeB]⟩)]
  rfl

end Go.Proofs.YthmimipoooemjaaGreatDoor.Tlv
end

section
/-
  What Get of tlv answers.
-/
namespace Go.Proofs.YthmimipoooemjaaGreatDoor.Tlv
open Go.RowKit

/-- The tree that bytes are. -/
def getT (bs : List Int) : Option (Tr 9) := match rd 8 bs with
  | some (t, m) => if m = bs.length then some t else none
  | none => none

end Go.Proofs.YthmimipoooemjaaGreatDoor.Tlv
end

section
/-
  What forms and bytes have in common, as the statements of layers above need it.
-/
namespace Go.Proofs.YthmimipoooemjaaGreatDoor.Tlv
open Go.RowKit
theorem BySl.bytes {L B : Nat} {w : World} {v : Value} {bs : List Int} (h : BySl L B w v bs) : ∀ x ∈ bs, 0 ≤ x ∧ x ≤ 255 := by
  obtain ⟨_, _, _, _, _, _, _, h6, _⟩ := h
  exact h6

end Go.Proofs.YthmimipoooemjaaGreatDoor.Tlv
end

section
/-
  The check sum in plain mathematics: a register's step is linear, bytes by a table are bytes bit by bit, noughts are steps alone, a product with a power is that many steps, and no burst of up to 32 bits is lost.
-/
namespace Go.Proofs.YthmimipoooemjaaGreatDoor.Crc

/-- One bit on. -/
def stp (r : Nat) : Nat := if r % 2 = 1 then r / 2 ^^^ 2197175160 else r / 2
/-- k bits on. -/
def stps : Nat → Nat → Nat
  | 0, r => r
  | k + 1, r => stps k (stp r)
/-- The register behind one byte more. -/
def byt (r c : Nat) : Nat := stps 8 (r ^^^ c)
/-- The register behind bytes. -/
def reg (r : Nat) : List Nat → Nat
  | [] => r
  | c :: t => reg (byt r c) t
/-- All 32 bits turned. -/
def nt (r : Nat) : Nat := 4294967295 - r
/-- The sum of more bytes. -/
def more (s : Nat) (bs : List Nat) : Nat := nt (reg (nt s) bs)

theorem xor_half (a b : Nat) : (a ^^^ b) / 2 = a / 2 ^^^ b / 2 := by
  apply Nat.eq_of_testBit_eq
  intro i
  simp [Nat.testBit_div_two]
theorem xor_odd (a b : Nat) : (a ^^^ b) % 2 = (a % 2 + b % 2) % 2 := by
  have h := Nat.testBit_xor a b 0
  rw [Nat.testBit_zero, Nat.testBit_zero, Nat.testBit_zero] at h
  rcases Nat.mod_two_eq_zero_or_one a with ha | ha <;> rcases Nat.mod_two_eq_zero_or_one b with hb | hb <;> rcases Nat.mod_two_eq_zero_or_one (a ^^^ b) with hx | hx <;> rw [ha, hb, hx] at h <;> rw [ha, hb, hx] <;> revert h <;> decide

theorem stp_xor (a b : Nat) : stp (a ^^^ b) = stp a ^^^ stp b := by
  unfold stp
  rw [xor_odd, xor_half]
  rcases Nat.mod_two_eq_zero_or_one a with ha | ha <;> rcases Nat.mod_two_eq_zero_or_one b with hb | hb <;> simp [ha, hb]
  · rw [Nat.xor_assoc]
  · rw [Nat.xor_assoc, Nat.xor_assoc, Nat.xor_comm 2197175160]
  · rw [Nat.xor_assoc, Nat.xor_comm (b / 2), ← Nat.xor_assoc 2197175160]
    simp
theorem stps_xor : ∀ (k a b : Nat), stps k (a ^^^ b) = stps k a ^^^ stps k b
  | 0, _, _ => rfl
  | k + 1, a, b => by rw [stps, stp_xor, stps_xor k]; rfl
theorem stps_add : ∀ (j k r : Nat), stps (j + k) r = stps k (stps j r)
  | 0, k, r => by rw [Nat.zero_add]; rfl
  | j + 1, k, r => by rw [Nat.add_right_comm]; exact stps_add j k (stp r)
theorem stps_succ (k r : Nat) : stps (k + 1) r = stp (stps k r) := stps_add k 1 r
theorem stp_lt {r : Nat} (h : r < 4294967296) : stp r < 4294967296 := by
  unfold stp
  split
  · exact Nat.xor_lt_two_pow (n := 32) (by omega) (by decide)
  · omega
theorem stps_lt : ∀ (k : Nat) {r : Nat}, r < 4294967296 → stps k r < 4294967296
  | 0, _, h => h
  | k + 1, _, h => stps_lt k (stp_lt h)
theorem xor_lt32 {a b : Nat} (h : a < 4294967296) (k : b < 4294967296) : a ^^^ b < 4294967296 := Nat.xor_lt_two_pow (n := 32) h k
theorem byt_lt {r c : Nat} (h : r < 4294967296) (k : c < 256) : byt r c < 4294967296 := stps_lt 8 (xor_lt32 h (by omega))
theorem reg_lt : ∀ (bs : List Nat) {r : Nat}, (∀ x ∈ bs, x < 256) → r < 4294967296 → reg r bs < 4294967296
  | [], _, _, h => h
  | c :: t, _, hb, h => reg_lt t (fun x hx => hb x (.tail _ hx)) (byt_lt h (hb c (.head _)))
theorem nt_lt (r : Nat) : nt r < 4294967296 := by unfold nt; omega
theorem more_lt (s : Nat) (bs : List Nat) : more s bs < 4294967296 := nt_lt _
theorem reg_append : ∀ (a : List Nat) (r : Nat) (b : List Nat), reg r (a ++ b) = reg (reg r a) b
  | [], _, _ => rfl
  | c :: t, r, b => reg_append t (byt r c) b
theorem reg_snoc (r : Nat) (a : List Nat) (c : Nat) : reg r (a ++ [c]) = byt (reg r a) c := reg_append a r [c]
/-- Turned is the exclusive or with all 32 bits. -/
theorem nt_xor {r : Nat} (h : r < 4294967296) : nt r = 4294967295 ^^^ r := by
  have e : 4294967295 = 2 ^ 32 - 1 := rfl
  unfold nt
  apply Nat.eq_of_testBit_eq
  intro i
  have h1 : 4294967295 - r = 2 ^ 32 - (r + 1) := by omega
  rw [h1, Nat.testBit_two_pow_sub_succ h, Nat.testBit_xor, e, Nat.testBit_two_pow_sub_one]
  by_cases hi : i < 32
  · simp [hi]
  · have : r.testBit i = false := Nat.testBit_lt_two_pow (Nat.lt_of_lt_of_le h (Nat.pow_le_pow_right (n := 2) (i := 32) (j := i) (by decide) (by omega)))
    simp [hi, this]

theorem stp_even (r : Nat) : stp (2 * r) = r := by
  unfold stp
  rw [if_neg (by omega)]
  omega
theorem stps_pow : ∀ (k r : Nat), stps k (2 ^ k * r) = r
  | 0, r => by simp [stps]
  | k + 1, r => by rw [stps, Nat.pow_succ, Nat.mul_comm (2 ^ k), Nat.mul_assoc, stp_even]; exact stps_pow k r

theorem byte_split (r : Nat) : r = 256 * (r / 256) ^^^ r % 256 := by
  have h := Nat.two_pow_add_eq_or_of_lt (i := 8) (b := r % 256) (Nat.mod_lt _ (by decide)) (r / 256)
  have h2 : 2 ^ 8 * (r / 256) + r % 256 = r := Nat.div_add_mod r 256
  apply Nat.eq_of_testBit_eq
  intro i
  rw [h2] at h
  rw [Nat.testBit_xor]
  have e : r.testBit i = (2 ^ 8 * (r / 256) ||| r % 256).testBit i := by rw [← h]
  rw [e, Nat.testBit_or]
  have e1 : (2 ^ 8 * (r / 256)).testBit i = (decide (8 ≤ i) && (r / 256).testBit (i - 8)) := Nat.testBit_two_pow_mul
  have e2 : (r % 2 ^ 8).testBit i = (decide (i < 8) && r.testBit i) := Nat.testBit_mod_two_pow r 8 i
  have e1' : (256 * (r / 256)).testBit i = (decide (8 ≤ i) && (r / 256).testBit (i - 8)) := e1
  have e2' : (r % 256).testBit i = (decide (i < 8) && r.testBit i) := e2
  rw [e1, e2']
  by_cases hi : i < 8
  · simp [hi, show ¬ 8 ≤ i by omega]
  · simp [hi, show 8 ≤ i by omega]

/-- A byte by the table. -/
theorem byt_tab (r c : Nat) : byt r c = r / 256 ^^^ stps 8 (r % 256 ^^^ c) := by
  unfold byt
  have e : r ^^^ c = 256 * (r / 256) ^^^ (r % 256 ^^^ c) := by
    conv => lhs; rw [byte_split r]
    rw [Nat.xor_assoc]
  rw [e, stps_xor]
  have h : stps 8 (256 * (r / 256)) = r / 256 := stps_pow 8 (r / 256)
  rw [h]

end Go.Proofs.YthmimipoooemjaaGreatDoor.Crc
end
