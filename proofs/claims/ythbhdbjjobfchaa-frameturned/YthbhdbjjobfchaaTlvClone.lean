/-
  What clone and Many of tlv make: the tree that came in, in new memory.
-/
import Derived.Test.YthbhdbjjobfchaaTlvKids
import Derived.Deep.RegionHeld3
import Derived.Deep.DeepCutAuto
import Derived.Deep.DrawnRows
import Derived.Deep.LoopGhost
namespace Go.Proofs.Ythbhdbjjobfchaa.Tlv
open Go.RowKit
attribute [local go_sem ↓] Go.wp_at_zero Go.wp_at_succ

theorem cell_far {w : World} {p : Addr} {u : Value} {q : Addr} (h : q.block ≠ p.block) : (w.setCell p u).cell? q = w.cell? q := World.cell?_of_block (w := w) (Below.heap_setCell _ _ _ _ h)

theorem cell_far4 {w : World} {b o0 o1 o2 o3 : Nat} {u0 u1 u2 u3 : Value} {q : Addr} (h : q.block ≠ b) : ((((w.setCell ⟨b, o0, none⟩ u0).setCell ⟨b, o1, none⟩ u1).setCell ⟨b, o2, none⟩ u2).setCell ⟨b, o3, none⟩ u3).cell? q = w.cell? q := by
  rw [cell_far h, cell_far h, cell_far h, cell_far h]

theorem cell_set_ne {w : World} {b i j : Nat} {u : Value} (h : i ≠ j) : (w.setCell ⟨b, i, none⟩ u).cell? ⟨b, j, none⟩ = w.cell? ⟨b, j, none⟩ := World.cell?_setCell_other _ _ _ _ (fun e => h (congrArg Addr.off e))

theorem set4_read {w : World} {b : Nat} {u0 u1 u2 u3 x0 x1 x2 x3 : Value} (h0 : w.cell? ⟨b, 0, none⟩ = some x0) (h1 : w.cell? ⟨b, 1, none⟩ = some x1) (h2 : w.cell? ⟨b, 2, none⟩ = some x2) (h3 : w.cell? ⟨b, 3, none⟩ = some x3) :
    ((((w.setCell ⟨b, 0, none⟩ u0).setCell ⟨b, 1, none⟩ u1).setCell ⟨b, 2, none⟩ u2).setCell ⟨b, 3, none⟩ u3).cell? ⟨b, 0, none⟩ = some u0 ∧
    ((((w.setCell ⟨b, 0, none⟩ u0).setCell ⟨b, 1, none⟩ u1).setCell ⟨b, 2, none⟩ u2).setCell ⟨b, 3, none⟩ u3).cell? ⟨b, 1, none⟩ = some u1 ∧
    ((((w.setCell ⟨b, 0, none⟩ u0).setCell ⟨b, 1, none⟩ u1).setCell ⟨b, 2, none⟩ u2).setCell ⟨b, 3, none⟩ u3).cell? ⟨b, 2, none⟩ = some u2 ∧
    ((((w.setCell ⟨b, 0, none⟩ u0).setCell ⟨b, 1, none⟩ u1).setCell ⟨b, 2, none⟩ u2).setCell ⟨b, 3, none⟩ u3).cell? ⟨b, 3, none⟩ = some u3 := by
  have o : ∀ (w : World) (i j : Nat) (u : Value), i ≠ j → (w.setCell ⟨b, i, none⟩ u).cell? ⟨b, j, none⟩ = w.cell? ⟨b, j, none⟩ := fun w i j u h => World.cell?_setCell_other _ _ _ _ (fun e => h (congrArg Addr.off e))
  refine ⟨?_, ?_, ?_, ?_⟩
  · rw [o _ _ _ _ (by omega), o _ _ _ _ (by omega), o _ _ _ _ (by omega)]
    exact World.cell?_setCell_same _ _ _ h0
  · rw [o _ _ _ _ (by omega), o _ _ _ _ (by omega)]
    exact World.cell?_setCell_same _ _ _ ((o _ _ _ _ (by omega)).trans h1)
  · rw [o _ _ _ _ (by omega)]
    exact World.cell?_setCell_same _ _ _ ((o _ _ _ _ (by omega)).trans ((o _ _ _ _ (by omega)).trans h2))
  · exact World.cell?_setCell_same _ _ _ ((o _ _ _ _ (by omega)).trans ((o _ _ _ _ (by omega)).trans ((o _ _ _ _ (by omega)).trans h3)))

/-- What clone does with a tree that is nested at most n deep. -/
def CloneOk (n : Nat) : Prop := ∀ (t : Tr n) (sb sk : Value) (deep : Int) (w : World), Rep 0 w.heap.size w n t sb sk → (n : Int) ≤ deep → deep ≤ 131072 →
  Calls Try.prog 58 #[.agg #[.int .i64 t.hd.1, .int .u64 t.hd.2.1, sb, sk], .int .i64 deep] w fun e w' =>
    ∃ sb' sk', e = .returned (.tuple #[.agg #[.int .i64 t.hd.1, .int .u64 t.hd.2.1, sb', sk'], .bool true]) ∧ Rep w.heap.size w'.heap.size w' n t sb' sk' ∧ Below w.heap.size w w'

set_option maxHeartbeats 2000000 in
set_option maxRecDepth 100000 in
theorem clone_any : ∀ n, CloneOk n
  | 0 => fun t => by cases t
  | n + 1 => by
    intro t sb sk deep w hrep hd0 hd1
    have ih := clone_any n
    obtain ⟨hn0, hn1, hby, hks⟩ := hrep
    have HB := hid hby
    have HK := hid hks
    obtain ⟨ab, cb, rfl, hrb⟩ := hby
    obtain ⟨ak, ck, rfl, hrk⟩ := hks
    clear hrb hrk
    have hdb : (deep == 0) = false := by simp; omega
    generalize hT1 : t.kd = ks at *
    generalize hT2 : t.hd.2.2 = bs at *
    generalize hT3 : t.hd.2.1 = num at *
    generalize t.hd.1 = tag at *
    have HT1 := hid hT1
    have HT2 := hid hT2
    have HT3 := hid hT3
    clear hT1 hT2 hT3
    go_enter Try.func58, Try.ntmps58
    go_upto_region 3 with fail
    obtain ⟨W0, hW0⟩ : ∃ W0, W0 = (w.alloc (Obj.cells #[Value.int IntKind.i64 tag, Value.int IntKind.u64 num, Value.slice ab bs.length cb, Value.slice ak ks.length ck] 88)).alloc (Obj.cells #[Value.int IntKind.i64 0, Value.int IntKind.u64 0, Value.slice none 0 0, Value.slice none 0 0] 88) := ⟨_, rfl⟩
    have HW0 := hid hW0
    clear hW0
    go_cut [6] (fun s wx => ∃ (g c' L1 B1 : Nat) (a' : Option Addr), s = .pointer (some ⟨g, 0, none⟩) ∧ w.heap.size + 2 ≤ g ∧ g < wx.heap.size ∧ wx.cell? ⟨g, 0, none⟩ = some (.int .i64 tag) ∧ wx.cell? ⟨g, 1, none⟩ = some (.int .u64 num) ∧
      wx.cell? ⟨g, 2, none⟩ = some (.slice a' bs.length c') ∧ wx.cell? ⟨g, 3, none⟩ = some (.slice none 0 0) ∧ (∀ o, wx.frozen? ⟨g, o, none⟩ = false) ∧ Hid (BySl L1 B1 wx (.slice a' bs.length c') bs ∧ w.heap.size + 2 ≤ L1 ∧ B1 ≤ wx.heap.size ∧ (g < L1 ∨ B1 ≤ g) ∧ Below (w.heap.size + 2) W0 wx))
    case first =>
      go_region_held3 (fun w' => w'.cell? ⟨w.heap.size, 0, none⟩ = some (.int .i64 tag) ∧ w'.cell? ⟨w.heap.size, 1, none⟩ = some (.int .u64 num) ∧ w'.cell? ⟨w.heap.size, 2, none⟩ = some (.slice ab bs.length cb)) (first | go_keep | (refine ⟨?_, ?_, ?_⟩ <;> (rw [cell_far4 (by simp; omega)]; assumption)))
        ((go_at_call 52; refine (clone_bytes _ bs _ (HB.out.agree (by repeat' first | exact Agree.refl _ _ _ | apply Agree.drew | refine Agree.alloc ?_ ?_ _ | (simp; done) | (simp; omega)) (Nat.le_refl _) (by simp; omega))).mono ?_; rintro e w1 ⟨v', rfl, hv, hb⟩; obtain ⟨a', c', rfl, hr'⟩ := id hv; clear hr'; have Hv := hid hv; have Hb := hid hb; obtain ⟨hc, hf⟩ := bcell hb; have hz := hb.size; clear hv hb; have q0 : w1.cell? ⟨w.heap.size, 0, none⟩ = some (.int .i64 tag) := (hc _ _ (by simp; try omega)).trans (by simp [go_sem]); have q1 : w1.cell? ⟨w.heap.size, 1, none⟩ = some (.int .u64 num) := (hc _ _ (by simp; try omega)).trans (by simp [go_sem]); have q2 : w1.cell? ⟨w.heap.size, 2, none⟩ = some (.slice ab bs.length cb) := (hc _ _ (by simp; try omega)).trans (by simp [go_sem])))
      · go_wp2_with fail
        go_meet
        simp at hz
        refine ⟨w1.heap.size, c', w.heap.size + 2, w1.heap.size, a', rfl, by omega, by simp, by simp, by simp, by simp, by simp, by simp, Hv.out.agree ((Agree.refl _ _ _).alloc (Nat.le_refl _) _) (by simp) (Nat.le_refl _), by omega, by simp, by omega, ?_⟩
        rw [HW0.out]
        exact (((Below.refl _ _).drew).trans (Hb.out.mono (by simp))).alloc (by omega) _
      · go_wp2_with fail
        go_meet
        simp at hz
        obtain ⟨r0, r1, r2, r3⟩ := set4_read (w := w1) (b := w.heap.size + 1 + 1) (u0 := .int .i64 tag) (u1 := .int .u64 num) (u2 := .slice a' bs.length c') (u3 := .slice none 0 0) (x0 := .int .i64 0) (x1 := .int .u64 0) (x2 := .slice none 0 0) (x3 := .slice none 0 0) ((hc _ _ (by simp)).trans (by simp [go_sem])) ((hc _ _ (by simp)).trans (by simp [go_sem])) ((hc _ _ (by simp)).trans (by simp [go_sem])) ((hc _ _ (by simp)).trans (by simp [go_sem]))
        refine ⟨w.heap.size + 1 + 1, c', w.heap.size + 3, w1.heap.size, a', rfl, by omega, by simp; omega, r0, r1, r2, r3, ?_, Hv.out.agree (Agree.set4 _ (.inl (by simp)) _ _ _ _) (by simp) (Nat.le_refl _), by omega, by simp, by omega, ?_⟩
        · intro o
          simp only [World.frozen?_setCell]
          rw [hf _ _ (by simp)]
          simp [go_sem]
        · rw [HW0.out]
          exact ((((Below.refl _ _).alloc (by simp) _).drew).trans (Hb.out.mono (by simp))).trans (bset4 (by omega) _ _ _ _)
    case rest =>
      obtain ⟨g, c', L1, B1, a', rfl, hg0, hg1, e0, e1, e2, e3, hfr, HX⟩ := hcut
      have xb : ∀ o, wc.cell? ⟨w.heap.size, o, none⟩ = W0.cell? ⟨w.heap.size, o, none⟩ := fun o => HX.out.2.2.2.2.cell (p := ⟨w.heap.size, o, none⟩) (by simp)
      have b3 : wc.cell? ⟨w.heap.size, 3, none⟩ = some (.slice ak ks.length ck) := by rw [xb, HW0.out]; simp [go_sem]
      clear xb
      have hB0 : Hid (Below w.heap.size w W0) := by rw [Hid, HW0.out]; exact ((Below.refl _ _).alloc (Nat.le_refl _) _).alloc (by simp) _
      have hkl : ks.length ≤ 2199023255552 := by obtain ⟨_, _, _, _, _, _, h, _⟩ := HK.out; exact h
      obtain ⟨i0, hi, hz0, hz1, hz2⟩ := info_parts Try.info88
      go_wp2_with fail
      go_loopw [25] (fun i wr => ∃ (k : Nat) (v : Value), k ≤ ks.length ∧ i = .int .i64 k ∧ wr.cell? ⟨g, 0, none⟩ = some (.int .i64 tag) ∧ wr.cell? ⟨g, 1, none⟩ = some (.int .u64 num) ∧
        wr.cell? ⟨g, 2, none⟩ = some (.slice a' bs.length c') ∧ wr.cell? ⟨g, 3, none⟩ = some v ∧ (∀ o, wr.frozen? ⟨g, o, none⟩ = false) ∧ g < wr.heap.size ∧
        Hid (CInv wc.heap.size (ks.take k) v wr ∧ BySl L1 B1 wr (.slice a' bs.length c') bs ∧ Below (w.heap.size + 2) W0 wr ∧ wc.heap.size ≤ wr.heap.size)) (fun i _ => ks.length - (intOf i).toNat)
      case atStart => exact ⟨0, _, Nat.zero_le _, rfl, e0, e1, e2, e3, hfr, hg1, CInv.nil _ _, HX.out.1, HX.out.2.2.2.2, Nat.le_refl _⟩
      case round =>
        obtain ⟨k, v, hk, rfl, f0, f1, f2, f3, hfr', hgs, HI⟩ := hrel
        clear e0 e1 e2 e3 hfr b3
        by_cases hlt : k < ks.length
        · obtain ⟨_, _, ea, _, _, _, _, h7⟩ := HK.out
          simp only [Value.slice.injEq, true_and] at ea
          obtain ⟨rfl, rfl⟩ := ea
          obtain ⟨b, o, rfl, _, hbs, hc⟩ := h7 (by intro e; subst e; simp at hlt)
          clear h7
          obtain ⟨sb, sk, c0, c1, c2, c3, hrep⟩ := hc k ks[k] (List.getElem?_eq_getElem hlt)
          clear hc
          obtain ⟨a1, l1, p1, a2, l2, p2, rfl, rfl⟩ := hrep.sl
          have hR := hid hrep
          clear hrep
          have hbel : Hid (Below w.heap.size w wr) := hB0.out.trans (HI.out.2.2.1.mono (by omega))
          have d0 := (hbel.out.cell (p := ⟨b, o + k * 4, none⟩) hbs).trans c0
          have d1 := (hbel.out.cell (p := ⟨b, o + k * 4 + 1, none⟩) hbs).trans c1
          have d2 := (hbel.out.cell (p := ⟨b, o + k * 4 + 2, none⟩) hbs).trans c2
          have d3 := (hbel.out.cell (p := ⟨b, o + k * 4 + 3, none⟩) hbs).trans c3
          clear c0 c1 c2 c3
          have htake : Hid (ks.take (k + 1) = ks.take k ++ [ks[k]]) := List.take_succ_eq_append_getElem hlt
          generalize ks[k] = t1 at *
          have hlk : Hid ((ks.take k).length = k) := List.length_take_of_le (by omega)
          have hbz := hbel.out.size
          have hbw : b < wr.heap.size := by omega
          obtain ⟨av, cv, hv⟩ := HI.out.1.form
          rw [hlk.out] at hv
          subst hv
          go_wp2_with fail
          refine (ih t1 _ _ _ _ (hR.out.agree ((Agree.below hbel.out).alloc hbz _) (Nat.le_refl _) (by simp; omega)) (by omega) (by omega)).mono ?_
          rintro e w1 ⟨sb', sk', rfl, hr1, hb1⟩
          obtain ⟨a3, l3, p3, a4, l4, p4, rfl, rfl⟩ := hr1.sl
          have Hr1 := hid hr1
          have Hb1 := hid hb1
          obtain ⟨hc, hf⟩ := bcell hb1
          have hz := hb1.size
          simp at hz
          have hgw : g < w1.heap.size := by omega
          have g0 : w1.cell? ⟨g, 0, none⟩ = some (.int .i64 tag) := by rw [hc _ _ (by simp; omega), World.cell?_alloc_past _ _ _ hgs]; exact f0
          have g1 : w1.cell? ⟨g, 1, none⟩ = some (.int .u64 num) := by rw [hc _ _ (by simp; omega), World.cell?_alloc_past _ _ _ hgs]; exact f1
          have g2 : w1.cell? ⟨g, 2, none⟩ = some (.slice a' bs.length c') := by rw [hc _ _ (by simp; omega), World.cell?_alloc_past _ _ _ hgs]; exact f2
          have g3 : w1.cell? ⟨g, 3, none⟩ = some (.slice av k cv) := by rw [hc _ _ (by simp; omega), World.cell?_alloc_past _ _ _ hgs]; exact f3
          have gf : ∀ o, w1.frozen? ⟨g, o, none⟩ = false := fun o => by rw [hf _ _ (by simp; omega), World.frozen?_alloc_past _ _ _ hgs]; exact hfr' o
          clear hr1 hb1 hc hf f0 f1 f2 f3 hfr' d0 d1 d2 d3
          have inv1 : CInv wc.heap.size (ks.take k) (.slice av k cv) ((w1.alloc (Obj.cells #[Value.int .i64 t1.hd.1, Value.int .u64 t1.hd.2.1, Value.slice a3 l3 p3, Value.slice a4 l4 p4] 88)).alloc (Obj.cells #[Value.int .i64 t1.hd.1, Value.int .u64 t1.hd.2.1, Value.slice a3 l3 p3, Value.slice a4 l4 p4] 88)) :=
            HI.out.1.agree (((((Agree.refl _ _ _).alloc (Nat.le_refl _) _).trans (Agree.below (Hb1.out.mono (by simp)))).alloc (by omega) _).alloc (by simp; omega) _) (by simp; omega)
          have hr2 : Hid (Rep (wr.heap.size + 1) w1.heap.size ((w1.alloc (Obj.cells #[Value.int .i64 t1.hd.1, Value.int .u64 t1.hd.2.1, Value.slice a3 l3 p3, Value.slice a4 l4 p4] 88)).alloc (Obj.cells #[Value.int .i64 t1.hd.1, Value.int .u64 t1.hd.2.1, Value.slice a3 l3 p3, Value.slice a4 l4 p4] 88)) n t1 (.slice a3 l3 p3) (.slice a4 l4 p4)) :=
            Hr1.out.agree (((Agree.refl _ _ _).alloc (Nat.le_refl _) _).alloc (by simp) _) (by simp) (Nat.le_refl _)
          have hlt0 := hid HI.out.1.lt
          obtain ⟨ps, hl, hown, hkid⟩ := inv1
          rw [hlk.out] at hown
          have HO := hid hown
          have HKid := hid hkid
          have HL := hid hl
          clear hown hkid hl
          have hws := HI.out.2.2.2
          go_wp2_with (at_builtin; go_must (refine wpList_append_lies _ rfl _ _ 86 rfl wc.heap.size 88 i0 _ 4 64 Try.underlying86 hi hz0 hz1 hz2 rfl (by decide) _ k (cellsK (ks.take k) ps) rfl HO.out ⟨w1.heap.size + 1, 0, none⟩ 1 1 (cell4 t1 (.slice a3 l3 p3, .slice a4 l4 p4)) rfl rfl ?_ ?_ (by omega) (by unfold maxLen; omega) (by omega) (by simp; omega) (w1.heap.size + 1 + 1) (by simp) ?_))
          · exact World.news_of_block (cs := #[Value.int .i64 t1.hd.1, Value.int .u64 t1.hd.2.1, Value.slice a3 l3 p3, Value.slice a4 l4 p4]) (t := 88) (fr := (0, 0)) (by have h := heap_alloc_new (w1.alloc (Obj.cells #[Value.int .i64 t1.hd.1, Value.int .u64 t1.hd.2.1, Value.slice a3 l3 p3, Value.slice a4 l4 p4] 88)) (Obj.cells #[Value.int .i64 t1.hd.1, Value.int .u64 t1.hd.2.1, Value.slice a3 l3 p3, Value.slice a4 l4 p4] 88); simpa using h)
          · intro u hu
            simp only [cell4, List.mem_cons, List.not_mem_nil, or_false] at hu
            rcases hu with rfl | rfl | rfl | rfl <;> rfl
          intro g' cap' w2 hown2 hgrow2 hat2 hlt2
          have hne : some g ≠ (Value.slice av k cv).ownBlock := fun e => by have := (hlt0.out g e.symm).1; omega
          have j0 : w2.cell? ⟨g, 0, none⟩ = some (.int .i64 tag) := by rw [hgrow2.cell_far ⟨g, 0, none⟩ (by simp; omega) hne, World.cell?_alloc_past _ _ _ (by simp; omega), World.cell?_alloc_past _ _ _ hgw]; exact g0
          have j1 : w2.cell? ⟨g, 1, none⟩ = some (.int .u64 num) := by rw [hgrow2.cell_far ⟨g, 1, none⟩ (by simp; omega) hne, World.cell?_alloc_past _ _ _ (by simp; omega), World.cell?_alloc_past _ _ _ hgw]; exact g1
          have j2 : w2.cell? ⟨g, 2, none⟩ = some (.slice a' bs.length c') := by rw [hgrow2.cell_far ⟨g, 2, none⟩ (by simp; omega) hne, World.cell?_alloc_past _ _ _ (by simp; omega), World.cell?_alloc_past _ _ _ hgw]; exact g2
          have j3 : w2.cell? ⟨g, 3, none⟩ = some (.slice av k cv) := by rw [hgrow2.cell_far ⟨g, 3, none⟩ (by simp; omega) hne, World.cell?_alloc_past _ _ _ (by simp; omega), World.cell?_alloc_past _ _ _ hgw]; exact g3
          have jf : ∀ o, w2.frozen? ⟨g, o, none⟩ = false := fun o => by rw [hgrow2.frozen_far ⟨g, o, none⟩ (by simp; omega) hne, World.frozen?_alloc_past _ _ _ (by simp; omega), World.frozen?_alloc_past _ _ _ hgw]; exact gf o
          have hz2 := hgrow2.size
          simp at hz2
          have inv2 : Hid (CInv wc.heap.size (ks.take (k + 1)) (.slice (some ⟨g', 0, none⟩) (k + 1) cap') w2) := by
            have P := CInv.push (g := g') (cap := cap') HL.out HKid.out hr2.out (by omega) (by simp; omega) (fun r e => .inl (by have := (hlt0.out r e).2; omega)) (by rw [hlk.out]; exact hown2) hgrow2 (by simpa using hat2)
            rw [hlk.out, ← htake.out] at P
            exact P
          have bel2 : Hid (Below (w.heap.size + 2) W0 w2) := (((HI.out.2.2.1.alloc (by omega) _).trans (Hb1.out.mono (by simp; omega))).alloc (by omega) _ |>.alloc (by simp; omega) _).grown hgrow2 (by simp; omega) (fun r e => by have := (hlt0.out r e).1; omega)
          have hB1 := HX.out.2.2.1
          have hgB := HX.out.2.2.2.1
          have hL1 := HX.out.2.1
          have byl2 : Hid (BySl L1 B1 w2 (.slice a' bs.length c') bs) := by
            have hA : Agree L1 B1 _ w2 := fun r h1 h2 => hgrow2.block r (by simp; omega) (fun e => by have := (hlt0.out r e.symm).1; omega)
            exact HI.out.2.1.agree (((((Agree.refl _ _ _).alloc (by omega) _).trans (Agree.below (Hb1.out.mono (by simp; omega)))).alloc (by omega) _ |>.alloc (by simp; omega) _).trans hA) (Nat.le_refl _) (Nat.le_refl _)
          clear hown2 hgrow2 hat2 g0 g1 g2 g3 gf
          go_wp2_with fail
          go_roundw
          case rel =>
            refine ⟨k + 1, .slice (some ⟨g', 0, none⟩) (k + 1) cap', by omega, by go_num, (cell_set_ne (by omega)).trans j0, (cell_set_ne (by omega)).trans j1, (cell_set_ne (by omega)).trans j2, World.cell?_setCell_same _ _ _ j3, fun o => by rw [World.frozen?_setCell]; exact jf o, by simp; omega, ?_⟩
            exact ⟨inv2.out.agree ((Agree.refl _ _ _).setCell (.inl (by simpa using hg1)) _) (by simp), byl2.out.agree ((Agree.refl _ _ _).setCell hgB _) (Nat.le_refl _) (Nat.le_refl _), bel2.out.setCell (by simpa using hg0) _, by simp; omega⟩
          case measure => simp [intOf]; omega
        · have xb : ∀ o, wr.cell? ⟨w.heap.size + 1, o, none⟩ = W0.cell? ⟨w.heap.size + 1, o, none⟩ := fun o => HI.out.2.2.1.cell (p := ⟨w.heap.size + 1, o, none⟩) (by simp)
          have xf : ∀ o, wr.frozen? ⟨w.heap.size + 1, o, none⟩ = W0.frozen? ⟨w.heap.size + 1, o, none⟩ := fun o => HI.out.2.2.1.frozen (p := ⟨w.heap.size + 1, o, none⟩) (by simp)
          have r0 : wr.cell? ⟨w.heap.size + 1, 0, none⟩ = some (.int .i64 0) := by rw [xb, HW0.out]; simp [go_sem]
          have r1 : wr.cell? ⟨w.heap.size + 1, 1, none⟩ = some (.int .u64 0) := by rw [xb, HW0.out]; simp [go_sem]
          have r2 : wr.cell? ⟨w.heap.size + 1, 2, none⟩ = some (.slice none 0 0) := by rw [xb, HW0.out]; simp [go_sem]
          have r3 : wr.cell? ⟨w.heap.size + 1, 3, none⟩ = some (.slice none 0 0) := by rw [xb, HW0.out]; simp [go_sem]
          have rf : ∀ o, wr.frozen? ⟨w.heap.size + 1, o, none⟩ = false := fun o => by rw [xf, HW0.out]; simp [go_sem]
          clear xb xf
          obtain ⟨av, cv, hv⟩ := HI.out.1.form
          subst hv
          go_wp2_with fail
          have hgB := HX.out.2.2.2.1
          have hL1 := HX.out.2.1
          have hB1 := HX.out.2.2.1
          have hws := HI.out.2.2.2
          obtain ⟨q0, q1, q2, q3⟩ := set4_read (u0 := .int .i64 tag) (u1 := .int .u64 num) (u2 := .slice a' bs.length c') (u3 := .slice av k cv) r0 r1 r2 r3
          refine bodyPost_ret (v := .tuple #[.agg #[.int .i64 tag, .int .u64 num, .slice a' bs.length c', .slice av k cv], .bool true]) (by simp [results, Try.results58, go_sem, q0, q1, q2, q3]) rfl ⟨_, _, rfl, ⟨by rw [HT3.out]; exact hn0, by rw [HT3.out]; exact hn1, ?_, ?_⟩, ?_⟩
          · rw [HT2.out]
            exact HI.out.2.1.agree (Agree.set4 _ (.inl (by omega)) _ _ _ _) (by omega) (by simp; omega)
          · rw [HT1.out]
            have K := HI.out.1.done (by simp; omega)
            rw [List.take_of_length_le (by omega), show ks.length = k by omega] at K
            have A4 := Agree.set4 (L := wc.heap.size) (B := wr.heap.size) wr (b := w.heap.size + 1) (o0 := 0) (o1 := 1) (o2 := 2) (o3 := 3) (.inl (by omega)) (.int .i64 tag) (.int .u64 num) (.slice a' bs.length c') (.slice av k cv)
            have hsz : wr.heap.size ≤ ((((wr.setCell ⟨w.heap.size + 1, 0, none⟩ (.int .i64 tag)).setCell ⟨w.heap.size + 1, 1, none⟩ (.int .u64 num)).setCell ⟨w.heap.size + 1, 2, none⟩ (.slice a' bs.length c')).setCell ⟨w.heap.size + 1, 3, none⟩ (.slice av k cv)).heap.size := by simp
            exact K.agree (L' := w.heap.size) (fun _ _ _ r => Rep.agree (L' := w.heap.size) A4 (by omega) hsz r) A4 (by omega) hsz
          · exact (hB0.out.trans (HI.out.2.2.1.mono (by omega))).trans (bset4 (by omega) _ _ _ _)

end Go.Proofs.Ythbhdbjjobfchaa.Tlv
