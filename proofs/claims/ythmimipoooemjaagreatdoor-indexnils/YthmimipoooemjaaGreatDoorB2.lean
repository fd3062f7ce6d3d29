/- Of the proof: the texts TlvClone, TlvBack, TlvForm, TlvRead, TlvReadNum, TlvReadList, TlvReadBody, TlvReadTop, TlvRefRead, TlvNumber, TlvPut, TlvSize, TlvPutTop, TlvTrip, TlvGet, TlvKit, CrcPlain, CrcOnce, CrcMore, CrcSmall, CrcApp, FrBase, TlvMany, FrValue, CrcBurst, FrMath, TlvSame, FrKit, FrSame, FrPut, PkBegin, PkNil, FrFirst, FrRecord, CrcOpen, FrTake, FrRange, FrScanM, FrTellR, FrTells, FrScanE, FrAlive, TlvRForm, TlvRefForm, FrRPut, FrLight, FrRow, FrScan, FrAt, PkAdd, IxSave, one behind the other. -/
import Derived.Test.YthmimipoooemjaaGreatDoorB1
import Derived.Deep.RegionHeld3
import Derived.Deep.DeepCutAuto
import Derived.Deep.DrawnRows
import Derived.Deep.LoopGhost
import Derived.Deep.RegionLaw
import Derived.Deep.AppendLies
import Derived.Deep.CutBlock
import Derived.Laws.AppendOwnNone
import Derived.WalkKit
import Derived.Test.YthmimipoooemjaaGreatDoorRows
import Derived.WalkSpells
import Derived.WalkLawsBesides
import Derived.Laws.NewBlocks
import Derived.Laws.LoneSync
import Derived.Laws.BitsAll
import Derived.RegionCalls
import Derived.Defers
import Derived.Deep.QuietTactic
import Derived.BigQuiet
import Derived.Lib.SlBytesConst
import Derived.Lib.AppendZerosOnto
import Derived.Deep.MidRow
import Derived.Laws.BytesArg
import Derived.Laws.ResultCell
import Derived.Stop.BytesEq
import Derived.Test.YthmimipoooemjaaGreatDoorPkShelf
import Derived.Laws.Cover3
import Derived.Deep.RegionWith
import Derived.RangeFuncNested
import Derived.RangeFuncBound
import Derived.RangeFuncCalls
import Derived.RangeFuncLeaves
import Derived.Shelf.Abstract
import Derived.Shelf.RegionOpen
import Derived.OwnWalkIn
import Derived.TacticsInMore
import Derived.LoopNIn
import Derived.LoopIn
import Derived.RangeFuncBox
section
/-
  What clone and Many of tlv make: the tree that came in, in new memory.
-/
namespace Go.Proofs.YthmimipoooemjaaGreatDoor.Tlv
open Go.RowKit
attribute [local go_sem ↓] Go.wp_at_zero Go.wp_at_succ

theorem cell_far {w : World} {p : Addr} {u : Value} {q : Addr} (h : q.block ≠ p.block) : (w.setCell p u).cell? q = w.cell? q := World.cell?_of_block (w := w) (Below.heap_setCell _ _ _ _ h)

theorem cell_far4 {w : World} {b o0 o1 o2 o3 : Nat} {u0 u1 u2 u3 : Value} {q : Addr} (h : q.block ≠ b) : ((((w.setCell ⟨b, o0, none⟩ u0).setCell ⟨b, o1, none⟩ u1).setCell ⟨b, o2, none⟩ u2).setCell ⟨b, o3, none⟩ u3).cell? q = w.cell? q := by
  rw [cell_far h, cell_far h, cell_far h, cell_far h]

theorem cell_set_ne {w : World} {b i j : Nat} {u : Value} (h : i ≠ j) : (w.setCell ⟨b, i, none⟩ u).cell? ⟨b, j, none⟩ = w.cell? ⟨b, j, none⟩ := World.cell?_setCell_other _ _ _ _ (fun e => h (congrArg Addr.off e))

theorem set4_read {w : World} {b : Nat} {u0 u1 u2 u3 x0 x1 x2 x3 : Value} (h0 : w.cell? ⟨b, 0, none⟩ = some x0) (h1 : w.cell? ⟨b, 1, none⟩ = some x1) (h2 : w.cell? ⟨b, 2, none⟩ = some x2) (h3 : w.cell? ⟨b, 3, none⟩ = some x3) :
    ((((w.setCell ⟨b, 0, none⟩ u0).setCell ⟨b, 1, none⟩ u1).setCell ⟨b, 2, none⟩ u2).setCell ⟨b, 3, none⟩ u3).cell? ⟨b, 0, none⟩ = some u0 ∧
    ((((w.setCell ⟨b, 0, none⟩ u0).setCell ⟨b, 1, none⟩ u1).setCell ⟨b, 2, none⟩ u2).setCell ⟨b, 3, none⟩ u3).cell? ⟨b, 1, none⟩ = some u1 ∧
    ((((w.setCell ⟨b, 0, none⟩ u0).setCell ⟨b, 1, none⟩ u1).setCell ⟨b, 2, none⟩ u2).setCell ⟨b, 3, none⟩ u3).cell? ⟨b, 2, none⟩ = some u2 ∧
    ((((w.setCell ⟨b, 0, none⟩ u0).setCell ⟨b, 1, none⟩ u1).setCell ⟨b, 2, none⟩ u2).setCell ⟨b, 3, none⟩ u3).cell? ⟨b, 3, none⟩ = some u3 := by
  have o : ∀ (w : World) (i j : Nat) (u : Value), i ≠ j → (w.setCell ⟨b, i, none⟩ u).cell? ⟨b, j, none⟩ = w.cell? ⟨b, j, none⟩ := fun w i j u h => World.cell?_setCell_other _ _ _ _ (fun e => h (congrArg Addr.off e))
  refine ⟨?_, ?_, ?_, ?_⟩
  · rw [o _ _ _ _ (by omega), o _ _ _ _ (by omega), o _ _ _ _ (by omega)]
    exact World.cell?_setCell_same _ _ _ h0
  · rw [o _ _ _ _ (by omega), o _ _ _ _ (by omega)]
    exact World.cell?_setCell_same _ _ _ ((o _ _ _ _ (by omega)).trans h1)
  · rw [o _ _ _ _ (by omega)]
    exact World.cell?_setCell_same _ _ _ ((o _ _ _ _ (by omega)).trans ((o _ _ _ _ (by omega)).trans h2))
  · exact World.cell?_setCell_same _ _ _ ((o _ _ _ _ (by omega)).trans ((o _ _ _ _ (by omega)).trans ((o _ _ _ _ (by omega)).trans h3)))

/-- What clone does with a tree that is nested at most n deep. -/
def CloneOk (n : Nat) : Prop := ∀ (t : Tr n) (sb sk : Value) (deep : Int) (w : World), Rep 0 w.heap.size w n t sb sk → (n : Int) ≤ deep → deep ≤ 131072 →
  Calls Tryz.prog 203 #[.agg #[.int .i64 t.hd.1, .int .u64 t.hd.2.1, sb, sk], .int .i64 deep] w fun e w' =>
    ∃ sb' sk', e = .returned (.tuple #[.agg #[.int .i64 t.hd.1, .int .u64 t.hd.2.1, sb', sk'], .bool true]) ∧ Rep w.heap.size w'.heap.size w' n t sb' sk' ∧ Below w.heap.size w w'

set_option maxHeartbeats 2000000 in
set_option maxRecDepth 100000 in
theorem clone_any : ∀ n, CloneOk n
  | 0 => fun t => by cases t
  | n + 1 => by
    intro t sb sk deep w hrep hd0 hd1
    have ih := clone_any n
    obtain ⟨hn0, hn1, hby, hks⟩ := hrep
    have HB := hid hby
    have HK := hid hks
    obtain ⟨ab, cb, rfl, hrb⟩ := hby
    obtain ⟨ak, ck, rfl, hrk⟩ := hks
    clear hrb hrk
    have hdb : (deep == 0) = false := by simp; omega
    generalize hT1 : t.kd = ks at *
    generalize hT2 : t.hd.2.2 = bs at *
    generalize hT3 : t.hd.2.1 = num at *
    generalize t.hd.1 = tag at *
    have HT1 := hid hT1
    have HT2 := hid hT2
    have HT3 := hid hT3
    clear hT1 hT2 hT3
    go_enter Tryz.func203, Tryz.ntmps203
    go_upto_region 3 with fail
    obtain ⟨W0, hW0⟩ : ∃ W0, W0 = (w.alloc (Obj.cells #[Value.int IntKind.i64 tag, Value.int IntKind.u64 num, Value.slice ab bs.length cb, Value.slice ak ks.length ck] 203)).alloc (Obj.cells #[Value.int IntKind.i64 0, Value.int IntKind.u64 0, Value.slice none 0 0, Value.slice none 0 0] 203) := ⟨_, rfl⟩
    have HW0 := hid hW0
    clear hW0
    go_cut [6] (fun s wx => ∃ (g c' L1 B1 : Nat) (a' : Option Addr), s = .pointer (some ⟨g, 0, none⟩) ∧ w.heap.size + 2 ≤ g ∧ g < wx.heap.size ∧ wx.cell? ⟨g, 0, none⟩ = some (.int .i64 tag) ∧ wx.cell? ⟨g, 1, none⟩ = some (.int .u64 num) ∧
      wx.cell? ⟨g, 2, none⟩ = some (.slice a' bs.length c') ∧ wx.cell? ⟨g, 3, none⟩ = some (.slice none 0 0) ∧ (∀ o, wx.frozen? ⟨g, o, none⟩ = false) ∧ Hid (BySl L1 B1 wx (.slice a' bs.length c') bs ∧ w.heap.size + 2 ≤ L1 ∧ B1 ≤ wx.heap.size ∧ (g < L1 ∨ B1 ≤ g) ∧ Below (w.heap.size + 2) W0 wx))
    case first =>
      go_region_held3 (fun w' => w'.cell? ⟨w.heap.size, 0, none⟩ = some (.int .i64 tag) ∧ w'.cell? ⟨w.heap.size, 1, none⟩ = some (.int .u64 num) ∧ w'.cell? ⟨w.heap.size, 2, none⟩ = some (.slice ab bs.length cb)) (first | go_keep | (refine ⟨?_, ?_, ?_⟩ <;> (rw [cell_far4 (by simp; omega)]; assumption)))
        ((go_at_call 126; refine (clone_bytes _ bs _ (HB.out.agree (by repeat' first | exact Agree.refl _ _ _ | apply Agree.drew | refine Agree.alloc ?_ ?_ _ | (simp; done) | (simp; omega)) (Nat.le_refl _) (by simp; omega))).mono ?_; rintro e w1 ⟨v', rfl, hv, hb⟩; obtain ⟨a', c', rfl, hr'⟩ := id hv; clear hr'; have Hv := hid hv; have Hb := hid hb; obtain ⟨hc, hf⟩ := bcell hb; have hz := hb.size; clear hv hb; have q0 : w1.cell? ⟨w.heap.size, 0, none⟩ = some (.int .i64 tag) := (hc _ _ (by simp; try omega)).trans (by simp [go_sem]); have q1 : w1.cell? ⟨w.heap.size, 1, none⟩ = some (.int .u64 num) := (hc _ _ (by simp; try omega)).trans (by simp [go_sem]); have q2 : w1.cell? ⟨w.heap.size, 2, none⟩ = some (.slice ab bs.length cb) := (hc _ _ (by simp; try omega)).trans (by simp [go_sem])))
      · go_wp2_with fail
        go_meet
        simp at hz
        refine ⟨w1.heap.size, c', w.heap.size + 2, w1.heap.size, a', rfl, by omega, by simp, by simp, by simp, by simp, by simp, by simp, Hv.out.agree ((Agree.refl _ _ _).alloc (Nat.le_refl _) _) (by simp) (Nat.le_refl _), by omega, by simp, by omega, ?_⟩
        rw [HW0.out]
        exact (((Below.refl _ _).drew).trans (Hb.out.mono (by simp))).alloc (by omega) _
      · go_wp2_with fail
        go_meet
        simp at hz
        obtain ⟨r0, r1, r2, r3⟩ := set4_read (w := w1) (b := w.heap.size + 1 + 1) (u0 := .int .i64 tag) (u1 := .int .u64 num) (u2 := .slice a' bs.length c') (u3 := .slice none 0 0) (x0 := .int .i64 0) (x1 := .int .u64 0) (x2 := .slice none 0 0) (x3 := .slice none 0 0) ((hc _ _ (by simp)).trans (by simp [go_sem])) ((hc _ _ (by simp)).trans (by simp [go_sem])) ((hc _ _ (by simp)).trans (by simp [go_sem])) ((hc _ _ (by simp)).trans (by simp [go_sem]))
        refine ⟨w.heap.size + 1 + 1, c', w.heap.size + 3, w1.heap.size, a', rfl, by omega, by simp; omega, r0, r1, r2, r3, ?_, Hv.out.agree (Agree.set4 _ (.inl (by simp)) _ _ _ _) (by simp) (Nat.le_refl _), by omega, by simp, by omega, ?_⟩
        · intro o
          simp only [World.frozen?_setCell]
          rw [hf _ _ (by simp)]
          simp [go_sem]
        · rw [HW0.out]
          exact ((((Below.refl _ _).alloc (by simp) _).drew).trans (Hb.out.mono (by simp))).trans (bset4 (by omega) _ _ _ _)
    case rest =>
      obtain ⟨g, c', L1, B1, a', rfl, hg0, hg1, e0, e1, e2, e3, hfr, HX⟩ := hcut
      have xb : ∀ o, wc.cell? ⟨w.heap.size, o, none⟩ = W0.cell? ⟨w.heap.size, o, none⟩ := fun o => HX.out.2.2.2.2.cell (p := ⟨w.heap.size, o, none⟩) (by simp)
      have b3 : wc.cell? ⟨w.heap.size, 3, none⟩ = some (.slice ak ks.length ck) := by rw [xb, HW0.out]; simp [go_sem]
      clear xb
      have hB0 : Hid (Below w.heap.size w W0) := by rw [Hid, HW0.out]; exact ((Below.refl _ _).alloc (Nat.le_refl _) _).alloc (by simp) _
      have hkl : ks.length ≤ 2199023255552 := by obtain ⟨_, _, _, _, _, _, h, _⟩ := HK.out; exact h
      obtain ⟨i0, hi, hz0, hz1, hz2⟩ := info_parts Tryz.info203
      go_wp2_with fail
      go_loopw [25] (fun i wr => ∃ (k : Nat) (v : Value), k ≤ ks.length ∧ i = .int .i64 k ∧ wr.cell? ⟨g, 0, none⟩ = some (.int .i64 tag) ∧ wr.cell? ⟨g, 1, none⟩ = some (.int .u64 num) ∧
        wr.cell? ⟨g, 2, none⟩ = some (.slice a' bs.length c') ∧ wr.cell? ⟨g, 3, none⟩ = some v ∧ (∀ o, wr.frozen? ⟨g, o, none⟩ = false) ∧ g < wr.heap.size ∧
        Hid (CInv wc.heap.size (ks.take k) v wr ∧ BySl L1 B1 wr (.slice a' bs.length c') bs ∧ Below (w.heap.size + 2) W0 wr ∧ wc.heap.size ≤ wr.heap.size)) (fun i _ => ks.length - (intOf i).toNat)
      case atStart => exact ⟨0, _, Nat.zero_le _, rfl, e0, e1, e2, e3, hfr, hg1, CInv.nil _ _, HX.out.1, HX.out.2.2.2.2, Nat.le_refl _⟩
      case round =>
        obtain ⟨k, v, hk, rfl, f0, f1, f2, f3, hfr', hgs, HI⟩ := hrel
        clear e0 e1 e2 e3 hfr b3
        by_cases hlt : k < ks.length
        · obtain ⟨_, _, ea, _, _, _, _, h7⟩ := HK.out
          simp only [Value.slice.injEq, true_and] at ea
          obtain ⟨rfl, rfl⟩ := ea
          obtain ⟨b, o, rfl, _, hbs, hc⟩ := h7 (by intro e; subst e; simp at hlt)
          clear h7
          obtain ⟨sb, sk, c0, c1, c2, c3, hrep⟩ := hc k ks[k] (List.getElem?_eq_getElem hlt)
          clear hc
          obtain ⟨a1, l1, p1, a2, l2, p2, rfl, rfl⟩ := hrep.sl
          have hR := hid hrep
          clear hrep
          have hbel : Hid (Below w.heap.size w wr) := hB0.out.trans (HI.out.2.2.1.mono (by omega))
          have d0 := (hbel.out.cell (p := ⟨b, o + k * 4, none⟩) hbs).trans c0
          have d1 := (hbel.out.cell (p := ⟨b, o + k * 4 + 1, none⟩) hbs).trans c1
          have d2 := (hbel.out.cell (p := ⟨b, o + k * 4 + 2, none⟩) hbs).trans c2
          have d3 := (hbel.out.cell (p := ⟨b, o + k * 4 + 3, none⟩) hbs).trans c3
          clear c0 c1 c2 c3
          have htake : Hid (ks.take (k + 1) = ks.take k ++ [ks[k]]) := List.take_succ_eq_append_getElem hlt
          generalize ks[k] = t1 at *
          have hlk : Hid ((ks.take k).length = k) := List.length_take_of_le (by omega)
          have hbz := hbel.out.size
          have hbw : b < wr.heap.size := by omega
          obtain ⟨av, cv, hv⟩ := HI.out.1.form
          rw [hlk.out] at hv
          subst hv
          go_wp2_with fail
          refine (ih t1 _ _ _ _ (hR.out.agree ((Agree.below hbel.out).alloc hbz _) (Nat.le_refl _) (by simp; omega)) (by omega) (by omega)).mono ?_
          rintro e w1 ⟨sb', sk', rfl, hr1, hb1⟩
          obtain ⟨a3, l3, p3, a4, l4, p4, rfl, rfl⟩ := hr1.sl
          have Hr1 := hid hr1
          have Hb1 := hid hb1
          obtain ⟨hc, hf⟩ := bcell hb1
          have hz := hb1.size
          simp at hz
          have hgw : g < w1.heap.size := by omega
          have g0 : w1.cell? ⟨g, 0, none⟩ = some (.int .i64 tag) := by rw [hc _ _ (by simp; omega), World.cell?_alloc_past _ _ _ hgs]; exact f0
          have g1 : w1.cell? ⟨g, 1, none⟩ = some (.int .u64 num) := by rw [hc _ _ (by simp; omega), World.cell?_alloc_past _ _ _ hgs]; exact f1
          have g2 : w1.cell? ⟨g, 2, none⟩ = some (.slice a' bs.length c') := by rw [hc _ _ (by simp; omega), World.cell?_alloc_past _ _ _ hgs]; exact f2
          have g3 : w1.cell? ⟨g, 3, none⟩ = some (.slice av k cv) := by rw [hc _ _ (by simp; omega), World.cell?_alloc_past _ _ _ hgs]; exact f3
          have gf : ∀ o, w1.frozen? ⟨g, o, none⟩ = false := fun o => by rw [hf _ _ (by simp; omega), World.frozen?_alloc_past _ _ _ hgs]; exact hfr' o
          clear hr1 hb1 hc hf f0 f1 f2 f3 hfr' d0 d1 d2 d3
          have inv1 : CInv wc.heap.size (ks.take k) (.slice av k cv) ((w1.alloc (Obj.cells #[Value.int .i64 t1.hd.1, Value.int .u64 t1.hd.2.1, Value.slice a3 l3 p3, Value.slice a4 l4 p4] 203)).alloc (Obj.cells #[Value.int .i64 t1.hd.1, Value.int .u64 t1.hd.2.1, Value.slice a3 l3 p3, Value.slice a4 l4 p4] 203)) :=
            HI.out.1.agree (((((Agree.refl _ _ _).alloc (Nat.le_refl _) _).trans (Agree.below (Hb1.out.mono (by simp)))).alloc (by omega) _).alloc (by simp; omega) _) (by simp; omega)
          have hr2 : Hid (Rep (wr.heap.size + 1) w1.heap.size ((w1.alloc (Obj.cells #[Value.int .i64 t1.hd.1, Value.int .u64 t1.hd.2.1, Value.slice a3 l3 p3, Value.slice a4 l4 p4] 203)).alloc (Obj.cells #[Value.int .i64 t1.hd.1, Value.int .u64 t1.hd.2.1, Value.slice a3 l3 p3, Value.slice a4 l4 p4] 203)) n t1 (.slice a3 l3 p3) (.slice a4 l4 p4)) :=
            Hr1.out.agree (((Agree.refl _ _ _).alloc (Nat.le_refl _) _).alloc (by simp) _) (by simp) (Nat.le_refl _)
          have hlt0 := hid HI.out.1.lt
          obtain ⟨ps, hl, hown, hkid⟩ := inv1
          rw [hlk.out] at hown
          have HO := hid hown
          have HKid := hid hkid
          have HL := hid hl
          clear hown hkid hl
          have hws := HI.out.2.2.2
          go_wp2_with (at_builtin; go_must (refine wpList_append_lies _ rfl _ _ 201 rfl wc.heap.size 203 i0 _ 4 64 Tryz.underlying201 hi hz0 hz1 hz2 rfl (by decide) _ k (cellsK (ks.take k) ps) rfl HO.out ⟨w1.heap.size + 1, 0, none⟩ 1 1 (cell4 t1 (.slice a3 l3 p3, .slice a4 l4 p4)) rfl rfl ?_ ?_ (by omega) (by unfold maxLen; omega) (by omega) (by simp; omega) (w1.heap.size + 1 + 1) (by simp) ?_))
          · exact World.news_of_block (cs := #[Value.int .i64 t1.hd.1, Value.int .u64 t1.hd.2.1, Value.slice a3 l3 p3, Value.slice a4 l4 p4]) (t := 203) (fr := (0, 0)) (by have h := heap_alloc_new (w1.alloc (Obj.cells #[Value.int .i64 t1.hd.1, Value.int .u64 t1.hd.2.1, Value.slice a3 l3 p3, Value.slice a4 l4 p4] 203)) (Obj.cells #[Value.int .i64 t1.hd.1, Value.int .u64 t1.hd.2.1, Value.slice a3 l3 p3, Value.slice a4 l4 p4] 203); simpa using h)
          · intro u hu
            simp only [cell4, List.mem_cons, List.not_mem_nil, or_false] at hu
            rcases hu with rfl | rfl | rfl | rfl <;> rfl
          intro g' cap' w2 hown2 hgrow2 hat2 hlt2
          have hne : some g ≠ (Value.slice av k cv).ownBlock := fun e => by have := (hlt0.out g e.symm).1; omega
          have j0 : w2.cell? ⟨g, 0, none⟩ = some (.int .i64 tag) := by rw [hgrow2.cell_far ⟨g, 0, none⟩ (by simp; omega) hne, World.cell?_alloc_past _ _ _ (by simp; omega), World.cell?_alloc_past _ _ _ hgw]; exact g0
          have j1 : w2.cell? ⟨g, 1, none⟩ = some (.int .u64 num) := by rw [hgrow2.cell_far ⟨g, 1, none⟩ (by simp; omega) hne, World.cell?_alloc_past _ _ _ (by simp; omega), World.cell?_alloc_past _ _ _ hgw]; exact g1
          have j2 : w2.cell? ⟨g, 2, none⟩ = some (.slice a' bs.length c') := by rw [hgrow2.cell_far ⟨g, 2, none⟩ (by simp; omega) hne, World.cell?_alloc_past _ _ _ (by simp; omega), World.cell?_alloc_past _ _ _ hgw]; exact g2
          have j3 : w2.cell? ⟨g, 3, none⟩ = some (.slice av k cv) := by rw [hgrow2.cell_far ⟨g, 3, none⟩ (by simp; omega) hne, World.cell?_alloc_past _ _ _ (by simp; omega), World.cell?_alloc_past _ _ _ hgw]; exact g3
          have jf : ∀ o, w2.frozen? ⟨g, o, none⟩ = false := fun o => by rw [hgrow2.frozen_far ⟨g, o, none⟩ (by simp; omega) hne, World.frozen?_alloc_past _ _ _ (by simp; omega), World.frozen?_alloc_past _ _ _ hgw]; exact gf o
          have hz2 := hgrow2.size
          simp at hz2
          have inv2 : Hid (CInv wc.heap.size (ks.take (k + 1)) (.slice (some ⟨g', 0, none⟩) (k + 1) cap') w2) := by
            have P := CInv.push (g := g') (cap := cap') HL.out HKid.out hr2.out (by omega) (by simp; omega) (fun r e => .inl (by have := (hlt0.out r e).2; omega)) (by rw [hlk.out]; exact hown2) hgrow2 (by simpa using hat2)
            rw [hlk.out, ← htake.out] at P
            exact P
          have bel2 : Hid (Below (w.heap.size + 2) W0 w2) := (((HI.out.2.2.1.alloc (by omega) _).trans (Hb1.out.mono (by simp; omega))).alloc (by omega) _ |>.alloc (by simp; omega) _).grown hgrow2 (by simp; omega) (fun r e => by have := (hlt0.out r e).1; omega)
          have hB1 := HX.out.2.2.1
          have hgB := HX.out.2.2.2.1
          have hL1 := HX.out.2.1
          have byl2 : Hid (BySl L1 B1 w2 (.slice a' bs.length c') bs) := by
            have hA : Agree L1 B1 _ w2 := fun r h1 h2 => hgrow2.block r (by simp; omega) (fun e => by have := (hlt0.out r e.symm).1; omega)
            exact HI.out.2.1.agree (((((Agree.refl _ _ _).alloc (by omega) _).trans (Agree.below (Hb1.out.mono (by simp; omega)))).alloc (by omega) _ |>.alloc (by simp; omega) _).trans hA) (Nat.le_refl _) (Nat.le_refl _)
          clear hown2 hgrow2 hat2 g0 g1 g2 g3 gf
          go_wp2_with fail
          go_roundw
          case rel =>
            refine ⟨k + 1, .slice (some ⟨g', 0, none⟩) (k + 1) cap', by omega, by go_num, (cell_set_ne (by omega)).trans j0, (cell_set_ne (by omega)).trans j1, (cell_set_ne (by omega)).trans j2, World.cell?_setCell_same _ _ _ j3, fun o => by rw [World.frozen?_setCell]; exact jf o, by simp; omega, ?_⟩
            exact ⟨inv2.out.agree ((Agree.refl _ _ _).setCell (.inl (by simpa using hg1)) _) (by simp), byl2.out.agree ((Agree.refl _ _ _).setCell hgB _) (Nat.le_refl _) (Nat.le_refl _), bel2.out.setCell (by simpa using hg0) _, by simp; omega⟩
          case measure => simp [intOf]; omega
        · have xb : ∀ o, wr.cell? ⟨w.heap.size + 1, o, none⟩ = W0.cell? ⟨w.heap.size + 1, o, none⟩ := fun o => HI.out.2.2.1.cell (p := ⟨w.heap.size + 1, o, none⟩) (by simp)
          have xf : ∀ o, wr.frozen? ⟨w.heap.size + 1, o, none⟩ = W0.frozen? ⟨w.heap.size + 1, o, none⟩ := fun o => HI.out.2.2.1.frozen (p := ⟨w.heap.size + 1, o, none⟩) (by simp)
          have r0 : wr.cell? ⟨w.heap.size + 1, 0, none⟩ = some (.int .i64 0) := by rw [xb, HW0.out]; simp [go_sem]
          have r1 : wr.cell? ⟨w.heap.size + 1, 1, none⟩ = some (.int .u64 0) := by rw [xb, HW0.out]; simp [go_sem]
          have r2 : wr.cell? ⟨w.heap.size + 1, 2, none⟩ = some (.slice none 0 0) := by rw [xb, HW0.out]; simp [go_sem]
          have r3 : wr.cell? ⟨w.heap.size + 1, 3, none⟩ = some (.slice none 0 0) := by rw [xb, HW0.out]; simp [go_sem]
          have rf : ∀ o, wr.frozen? ⟨w.heap.size + 1, o, none⟩ = false := fun o => by rw [xf, HW0.out]; simp [go_sem]
          clear xb xf
          obtain ⟨av, cv, hv⟩ := HI.out.1.form
          subst hv
          go_wp2_with fail
          have hgB := HX.out.2.2.2.1
          have hL1 := HX.out.2.1
          have hB1 := HX.out.2.2.1
          have hws := HI.out.2.2.2
          obtain ⟨q0, q1, q2, q3⟩ := set4_read (u0 := .int .i64 tag) (u1 := .int .u64 num) (u2 := .slice a' bs.length c') (u3 := .slice av k cv) r0 r1 r2 r3
          refine bodyPost_ret (v := .tuple #[.agg #[.int .i64 tag, .int .u64 num, .slice a' bs.length c', .slice av k cv], .bool true]) (by simp [results, Tryz.results203, go_sem, q0, q1, q2, q3]) rfl ⟨_, _, rfl, ⟨by rw [HT3.out]; exact hn0, by rw [HT3.out]; exact hn1, ?_, ?_⟩, ?_⟩
          · rw [HT2.out]
            exact HI.out.2.1.agree (Agree.set4 _ (.inl (by omega)) _ _ _ _) (by omega) (by simp; omega)
          · rw [HT1.out]
            have K := HI.out.1.done (by simp; omega)
            rw [List.take_of_length_le (by omega), show ks.length = k by omega] at K
            have A4 := Agree.set4 (L := wc.heap.size) (B := wr.heap.size) wr (b := w.heap.size + 1) (o0 := 0) (o1 := 1) (o2 := 2) (o3 := 3) (.inl (by omega)) (.int .i64 tag) (.int .u64 num) (.slice a' bs.length c') (.slice av k cv)
            have hsz : wr.heap.size ≤ ((((wr.setCell ⟨w.heap.size + 1, 0, none⟩ (.int .i64 tag)).setCell ⟨w.heap.size + 1, 1, none⟩ (.int .u64 num)).setCell ⟨w.heap.size + 1, 2, none⟩ (.slice a' bs.length c')).setCell ⟨w.heap.size + 1, 3, none⟩ (.slice av k cv)).heap.size := by simp
            exact K.agree (L' := w.heap.size) (fun _ _ _ r => Rep.agree (L' := w.heap.size) A4 (by omega) hsz r) A4 (by omega) hsz
          · exact (hB0.out.trans (HI.out.2.2.1.mono (by omega))).trans (bset4 (by omega) _ _ _ _)

end Go.Proofs.YthmimipoooemjaaGreatDoor.Tlv
end

section
/-
  The cells of one value of the reference's.
-/
namespace Go.Proofs.YthmimipoooemjaaGreatDoor.Tlv
open Go.RowKit
attribute [local go_sem ↓] Go.wp_at_zero Go.wp_at_succ

end Go.Proofs.YthmimipoooemjaaGreatDoor.Tlv
end

section
/-
  Plain mathematics: a tree's form.
-/
namespace Go.Proofs.YthmimipoooemjaaGreatDoor.Tlv

/-- The k lowest bytes of x, the highest first. -/
def numB : Nat → Int → List Int
  | 0, _ => []
  | k + 1, x => (x / 256 ^ k % 256) :: numB k x

theorem numB_length : ∀ k x, (numB k x).length = k
  | 0, _ => rfl
  | k + 1, x => by simp [numB, numB_length k x]

/-- What is behind the first three bytes of a form. -/
def bodyOf : (n : Nat) → Tr n → List Int
  | 0, t => by cases t
  | n + 1, t =>
    if t.hd.1 = 1 then numB (nsz t.hd.2.1).toNat t.hd.2.1
    else if t.hd.1 = 2 then t.hd.2.2
    else if t.hd.1 = 3 then (t.kd.map fun k => k.hd.1 :: ((bodyOf n k).length / 256 : Int) :: ((bodyOf n k).length % 256 : Int) :: bodyOf n k).flatten
    else []

/-- A tree's form. -/
def formOf (n : Nat) (t : Tr n) : List Int := t.hd.1 :: ((bodyOf n t).length / 256 : Int) :: ((bodyOf n t).length % 256 : Int) :: bodyOf n t

theorem bodyOf_kids {n : Nat} {t : Tr (n + 1)} (h : t.hd.1 = 3) : bodyOf (n + 1) t = (t.kd.map (formOf n)).flatten := by
  simp only [bodyOf]
  rw [if_neg (by omega), if_neg (by omega), if_pos h]
  rfl

/-- t is right, as far as 'room' goes. -/
def Rt (n : Nat) (t : Tr n) (room : Int) : Prop := ∃ deep, (bsz n t room deep).2 = true

theorem lszGo_len {n : Nat} (hn : ∀ (t : Tr n) room deep, (bsz n t room deep).2 = true → (bsz n t room deep).1 = ((bodyOf n t).length : Int)) (room deep : Int) (ks : List (Tr n)) : ∀ acc,
    (lszGo (bsz n) room deep acc ks).2 = true → (lszGo (bsz n) room deep acc ks).1 = acc + (((ks.map (formOf n)).flatten).length : Int) ∧ ∀ k ∈ ks, ∃ r, r ≤ room - acc - 3 ∧ Rt n k r := by
  induction ks with
  | nil => intro acc _; simp [lszGo]
  | cons k ks ih =>
    intro acc h2
    simp only [lszGo] at h2 ⊢
    split at h2
    · rename_i hk
      rw [if_pos hk]
      have b := bsz_fits n k _ _ hk
      have e := hn k _ _ hk
      have := ih _ h2
      refine ⟨?_, ?_⟩
      · rw [this.1, e]
        simp [formOf]
        omega
      · intro k' hk'
        rcases List.mem_cons.1 hk' with rfl | hk'
        · exact ⟨_, Int.le_refl _, _, hk⟩
        · obtain ⟨r, h1, h2⟩ := this.2 k' hk'
          exact ⟨r, by omega, h2⟩
    · simp at h2

theorem bsz_len : ∀ n (t : Tr n) room deep, (bsz n t room deep).2 = true → (bsz n t room deep).1 = ((bodyOf n t).length : Int)
  | 0, t, _, _, _ => by cases t
  | n + 1, t, room, deep, h => by
    simp only [bsz] at h ⊢
    split at h
    · simp at h
    · rename_i h0
      rw [if_neg h0]
      split at h
      · rename_i h1
        rw [if_pos h1]
        simp only [bodyOf]
        rw [if_pos h1, numB_length]
        have := nsz_bd t.hd.2.1
        omega
      · rename_i h1
        rw [if_neg h1]
        split at h
        · rename_i h2
          rw [if_pos h2]
          simp only [bodyOf]
          rw [if_neg h1, if_pos h2]
        · rename_i h2
          rw [if_neg h2]
          split at h
          · rename_i h3
            rw [if_pos h3, bodyOf_kids h3]
            unfold lsz at h ⊢
            split at h
            · simp at h
            · rename_i h4
              rw [if_neg h4]
              have := (lszGo_len (bsz_len n) room deep _ 0 h).1
              omega
          · simp at h

/-- What is right has a tag from 1 to 3, no more bytes than the room, and in it what is right. -/
theorem Rt.facts {n : Nat} {t : Tr (n + 1)} {room : Int} (h : Rt (n + 1) t room) : 0 ≤ room ∧ ((bodyOf (n + 1) t).length : Int) ≤ room ∧ (t.hd.1 = 1 ∨ t.hd.1 = 2 ∨ t.hd.1 = 3) ∧ (t.hd.1 = 3 → ∀ k ∈ t.kd, ∃ r, r ≤ room - 3 ∧ Rt n k r) := by
  obtain ⟨deep, h⟩ := h
  have hf := bsz_fits _ _ _ _ h
  have hl := bsz_len _ _ _ _ h
  refine ⟨by omega, by omega, ?_⟩
  simp only [bsz] at h
  split at h
  · simp at h
  · split at h
    · rename_i h1; exact ⟨.inl h1, fun e => by omega⟩
    · split at h
      · rename_i h1; exact ⟨.inr (.inl h1), fun e => by omega⟩
      · split at h
        · rename_i h3
          refine ⟨.inr (.inr h3), fun _ k hk => ?_⟩
          unfold lsz at h
          split at h
          · simp at h
          · obtain ⟨r, h1, h2⟩ := (lszGo_len (bsz_len n) room deep _ 0 h).2 k hk
            exact ⟨r, by omega, h2⟩
        · simp at h

end Go.Proofs.YthmimipoooemjaaGreatDoor.Tlv
end

section
/-
  Plain mathematics: the tree that bytes begin with.
-/
namespace Go.Proofs.YthmimipoooemjaaGreatDoor.Tlv

/-- The number of bytes, the highest first. -/
def valB (bs : List Int) : Int := bs.foldl (fun a x => a * 256 + x) 0

/-- The values that bytes are, one behind the other, by what one of them is. -/
def rdList {α : Type} (f : List Int → Option (α × Nat)) : Nat → List Int → Option (List α)
  | _, [] => some []
  | 0, _ :: _ => none
  | k + 1, b :: bs => match f (b :: bs) with
    | none => none
    | some (v, m) => (rdList f k ((b :: bs).drop m)).map (v :: ·)

/-- A value of its tag and what is behind the first three bytes, lists nested at most d deep. -/
def rdBody (d : Nat) (f : List Int → Option (List (Tr d))) (tag : Int) (bs : List Int) : Option (Tr (d + 1)) :=
  if tag = 1 then (if 8 < bs.length ∨ bs.head? = some 0 then none else some (Tr.mk 1 (valB bs) [] []))
  else if tag = 2 then some (Tr.mk 2 0 bs [])
  else if tag = 3 then (f bs).map fun ks => Tr.mk 3 0 [] ks
  else none

/-- How many bytes the form that b begins with has, as its first three tell. -/
def endOf (b : List Int) : Nat := 3 + (b.getD 1 0 * 256 + b.getD 2 0).toNat

/-- The tree that b begins with, and how many bytes its form has. -/
def rd1 (d : Nat) (f : List Int → Option (List (Tr d))) (b : List Int) : Option (Tr (d + 1) × Nat) :=
  if b.length < 3 then none else if b.length < endOf b then none
  else (rdBody d f (b.getD 0 0) ((b.take (endOf b)).drop 3)).map fun v => (v, endOf b)

def rd : (d : Nat) → List Int → Option (Tr (d + 1) × Nat)
  | 0 => rd1 0 fun _ => none
  | d + 1 => rd1 (d + 1) fun b => rdList (rd d) b.length b

end Go.Proofs.YthmimipoooemjaaGreatDoor.Tlv
end

section
/-
  What readNumber of tlv answers.
-/
namespace Go.Proofs.YthmimipoooemjaaGreatDoor.Tlv
open Go.RowKit
end Go.Proofs.YthmimipoooemjaaGreatDoor.Tlv
end

section
/-
  What readList of tlv answers, by what read answers.
-/
namespace Go.Proofs.YthmimipoooemjaaGreatDoor.Tlv
open Go.RowKit
end Go.Proofs.YthmimipoooemjaaGreatDoor.Tlv
end

section
/-
  What readBody of tlv answers.
-/
namespace Go.Proofs.YthmimipoooemjaaGreatDoor.Tlv
open Go.RowKit
end Go.Proofs.YthmimipoooemjaaGreatDoor.Tlv
end

section
/-
  What read, Get and Take of tlv answer.
-/
namespace Go.Proofs.YthmimipoooemjaaGreatDoor.Tlv
open Go.RowKit
attribute [local go_sem ↓] Go.wp_at_zero Go.wp_at_succ

end Go.Proofs.YthmimipoooemjaaGreatDoor.Tlv
end

section
/-
  What the reference's read answers.
-/
namespace Go.Proofs.YthmimipoooemjaaGreatDoor.Tlv
open Go.RowKit
attribute [local go_sem ↓] Go.wp_at_zero Go.wp_at_succ

theorem addr_plus (b o j : Nat) : (⟨b, o, none⟩ : Addr).add j = ⟨b, o + j, none⟩ := by unfold Addr.add; split <;> simp_all

end Go.Proofs.YthmimipoooemjaaGreatDoor.Tlv
end

section
/-
  What the writer's method number of tlv lays.
-/
namespace Go.Proofs.YthmimipoooemjaaGreatDoor.Tlv
open Go.RowKit
attribute [local go_sem ↓] Go.wp_at_zero Go.wp_at_succ

/-- The writer at block pb has laid the bytes xs, in a row of its own from block B on. -/
def WInv (B pb : Nat) (xs : List Int) (w : World) : Prop :=
  ∃ v, w.cell? ⟨pb, 0, none⟩ = some v ∧ w.frozen? ⟨pb, 0, none⟩ = false ∧ B ≤ pb ∧ w.ownsRow B 5 1 v xs.length (xs.map (Value.int .u8)) ∧ v.ownBlock ≠ some pb

theorem ownsRow_form {w : World} {base n e size : Nat} {v : Value} {xs : List Value} (h : w.ownsRow base e size v n xs) : ∃ a c, v = .slice a n c := by
  rcases h.2 with ⟨rfl, h0⟩ | ⟨g, cap, cur, rfl, _⟩
  · exact ⟨_, _, by rw [h0]⟩
  · exact ⟨_, _, rfl⟩

theorem ownsRow_set_ne {w : World} {base e size n : Nat} {v : Value} {xs : List Value} (h : w.ownsRow base e size v n xs) {p : Addr} (hp : v.ownBlock ≠ some p.block) (u : Value) : (w.setCell p u).ownsRow base e size v n xs := by
  obtain ⟨h1, h2⟩ := h
  refine ⟨h1, ?_⟩
  rcases h2 with h2 | ⟨g, cap, cur, rfl, hg, hh, r⟩
  · exact Or.inl h2
  · exact Or.inr ⟨g, cap, cur, rfl, hg, by rw [Below.heap_setCell _ _ _ _ (by intro e; exact hp (by simp [Value.ownBlock, e]))]; exact hh, r⟩

/-- More bytes, behind the append that lays them and the store of the new slice into the writer. -/
theorem WInv.push {B pb g cap H : Nat} {ys news : List Int} {v : Value} {w2 : World} (hown : w2.ownsRow B 5 1 (.slice (some ⟨g, 0, none⟩) (ys.length + news.length) cap) (ys.length + news.length) (ys.map (Value.int .u8) ++ news.map (Value.int .u8)))
    (hpb : B ≤ pb) (hpH : pb < H) (hne : v.ownBlock ≠ some pb) (c2 : w2.cell? ⟨pb, 0, none⟩ = some v) (f2 : w2.frozen? ⟨pb, 0, none⟩ = false) (hat : v.ownBlock = some g ∨ g = H) :
    WInv B pb (ys ++ news) (w2.setCell ⟨pb, 0, none⟩ (.slice (some ⟨g, 0, none⟩) (ys.length + news.length) cap)) := by
  have hg : g ≠ pb := by
    rintro rfl
    rcases hat with h | h
    · exact hne h
    · omega
  have hv : (Value.slice (some ⟨g, 0, none⟩) (ys.length + news.length) cap).ownBlock ≠ some pb := by simpa [Value.ownBlock] using hg
  refine ⟨_, World.cell?_setCell_same _ _ _ c2, by rw [World.frozen?_setCell]; exact f2, hpb, ?_, hv⟩
  rw [List.length_append, List.map_append]
  exact ownsRow_set_ne hown hv _

/-- One byte more. -/
theorem byte_new (w : World) (x : Int) : ∀ j u, [Value.int IntKind.u8 x][j]? = some u → (w.alloc (.cells #[.int .u8 x] 5)).cell? ((⟨w.heap.size, 0, none⟩ : Addr).add j) = some u :=
  World.news_of_block (cs := #[Value.int .u8 x]) (t := 5) (fr := (0, 0)) (heap_alloc_new _ _)

theorem shr_at (x : Int) (m : Nat) (h0 : 0 ≤ x) (hm : m ≤ 8) : ∃ y, y = x / 256 ^ m ∧ 0 ≤ y ∧ Op.shift .shr .u64 x .i64 (IntKind.i64.wrap (8 * (m : Int))) = pure (.int .u64 y) := by
  refine ⟨_, rfl, Int.ediv_nonneg h0 (Int.le_of_lt (Int.pow_pos (by omega))), ?_⟩
  have e : IntKind.i64.wrap (8 * (m : Int)) = 8 * m := by rw [IntKind.wrap_i64]; omega
  rw [e, shift_shr .u64 .i64 x (8 * (m : Int)) (by omega) (by simp [IntKind.bits]; omega)]
  have e2 : (8 * (m : Int)).toNat = 8 * m := by omega
  rw [e2, Int.pow_mul]
  rfl

set_option maxHeartbeats 1000000 in
set_option maxRecDepth 100000 in
theorem number_put (B pb : Nat) (xs : List Int) (x : Int) (w : World) (h : WInv B pb xs w) (h0 : 0 ≤ x) (h1 : x ≤ 18446744073709551615) (hl : xs.length ≤ 100000) :
    Calls Tryz.prog 204 #[.pointer (some ⟨pb, 0, none⟩), .int .u64 x] w fun e w' => e = .returned (.tuple #[]) ∧ WInv B pb (xs ++ numB (nsz x).toNat x) w' ∧ Below B w w' := by
  have hb := nsz_bd x
  have H := hid h
  clear h
  obtain ⟨i0, hi, hz0, hz1, hz2⟩ := info_parts Tryz.info5
  go_enter Tryz.func204, Tryz.ntmps204
  go_wp2_with fail
  refine (numberSize_any _ _ h0 h1).mono ?_
  rintro e w1 ⟨rfl, hw1⟩
  rw [hw1]
  clear hw1 w1
  obtain ⟨N, hN⟩ := Int.eq_ofNat_of_zero_le hb.1
  rw [hN] at hb ⊢
  have HN := hid hN
  clear hN
  go_wp2_with fail
  go_loopw [4] (fun i wr => ∃ (k : Nat) (ys : List Int), k ≤ N ∧ i = .int .i64 ((k : Int) - 1) ∧ Hid (WInv B pb ys wr ∧ Below B w wr ∧ ys ++ numB k x = xs ++ numB N x)) (fun i _ => (intOf i + 1).toNat)
  case atStart => exact ⟨N, xs, Nat.le_refl _, rfl, H.out, Below.refl _ _, rfl⟩
  case round =>
    obtain ⟨k, ys, hk, rfl, HI⟩ := hrel
    cases k with
    | zero =>
      go_wp2_with fail
      go_end0
      refine ⟨rfl, ?_, HI.out.2.1⟩
      have e : ys = xs ++ numB N x := by have := HI.out.2.2; simpa [numB] using this
      rw [HN.out, Int.toNat_natCast, ← e]
      exact HI.out.1
    | succ m =>
      obtain ⟨v, c0, f0, hpb, hown, hne⟩ := HI.out.1
      obtain ⟨a, c, rfl⟩ := ownsRow_form hown
      have HO := hid hown
      have HNE := hid hne
      have hyl : ys.length ≤ 100008 := by have := congrArg List.length HI.out.2.2; simp [numB_length] at this; omega
      have hm : (((m + 1 : Nat) : Int) - 1) = m := by omega
      rw [hm]
      clear hown hne
      have hpz : pb < wr.heap.size := World.block_lt_of_cell? wr _ c0
      go_wp2_with fail
      obtain ⟨y, hy, hy0, hsh⟩ : ∃ y, y = x / 256 ^ m ∧ 0 ≤ y ∧ Op.shift .shr .u64 x .i64 (IntKind.i64.wrap (8 * (m : Int))) = pure (.int .u64 y) := shr_at x m h0 (by omega)
      have HY := hid hy
      clear hy
      have HO2 : Hid ((wr.alloc (.cells #[.int .u8 (IntKind.u8.wrap y)] 5)).drew.ownsRow B 5 1 (.slice a ys.length c) ys.length (ys.map (Value.int .u8))) := HO.out.alloc _
      have hnews := hid (byte_new wr (IntKind.u8.wrap y))
      have hone : Hid (∀ u ∈ [Value.int IntKind.u8 (IntKind.u8.wrap y)], u.oneCell' = true) := by intro u hu; simp at hu; subst hu; rfl
      have hB := HI.out.2.1.size
      have hBp : B ≤ wr.heap.size + 1 := by omega
      go_region_law (refine step_append_lies _ (by rfl) (.tmp 16) (.tmp 22) 54 (by rfl) B 5 i0 (.int .u8 0) 1 1 Tryz.underlying54 hi hz0 hz1 hz2 rfl (by omega) (.slice a ys.length c) ys.length (ys.map (Value.int .u8)) (by simp [Act.eval]) HO2.out ⟨wr.heap.size, 0, none⟩ 1 1 [.int .u8 (IntKind.u8.wrap y)] (by simp [Act.eval]) rfl hnews.out hone.out (by omega) (by unfold maxLen; omega) (by omega) (by simp; exact hBp) (wr.heap.size + 1) (by simp) ?_; intro g cap w2 hown2 hgrow2 hat2 hlt2; have c2 : w2.cell? ⟨pb, 0, none⟩ = some (.slice a ys.length c) := (hgrow2.cell_far ⟨pb, 0, none⟩ (by simp; omega) (fun e => HNE.out e.symm)).trans ((World.cell?_alloc_past _ _ _ hpz).trans c0); have f2 : w2.frozen? ⟨pb, 0, none⟩ = false := (hgrow2.frozen_far ⟨pb, 0, none⟩ (by simp; omega) (fun e => HNE.out e.symm)).trans ((World.frozen?_alloc_past _ _ _ hpz).trans f0); have HO3 := hid hown2; have HG := hid hgrow2; have HAT := hid hat2; clear hown2 hgrow2 hat2)
      all_goals go_wp2_with fail
      all_goals
        refine ⟨⟨m, ys ++ [IntKind.u8.wrap y], by omega, rfl, ?_, ?_, ?_⟩, by simp [intOf]⟩
        · exact WInv.push (v := .slice a ys.length c) (H := wr.heap.size + 1) (news := [IntKind.u8.wrap y]) (by simpa using HO3.out) hpb (by omega) HNE.out c2 f2 HAT.out
        · exact (((HI.out.2.1.alloc (by omega) _).drew).grown HG.out (by simp; omega) (fun r e => (HO.out.lt r e).1)).setCell hpb _
        · rw [← HI.out.2.2, List.append_assoc, IntKind.wrap_u8, HY.out]
          rfl

end Go.Proofs.YthmimipoooemjaaGreatDoor.Tlv
end

section
/-
  What the writer's method put of tlv lays, and each.
-/
namespace Go.Proofs.YthmimipoooemjaaGreatDoor.Tlv
open Go.RowKit
attribute [local go_sem ↓] Go.wp_at_zero Go.wp_at_succ

/-- What put does with a tree that is nested at most n deep. -/
def PutOk (n : Nat) : Prop := ∀ (t : Tr n) (sb sk : Value) (B pb : Nat) (xs : List Int) (room : Int) (w : World), Rep 0 B w n t sb sk → Rt n t room → room ≤ 65535 → WInv B pb xs w → xs.length + (formOf n t).length ≤ 70000 →
  Calls Tryz.prog 161 #[.pointer (some ⟨pb, 0, none⟩), .agg #[.int .i64 t.hd.1, .int .u64 t.hd.2.1, sb, sk]] w fun e w' => e = .returned (.tuple #[]) ∧ WInv B pb (xs ++ formOf n t) w' ∧ Below B w w'

theorem cell_apart {w : World} {p : Addr} {u : Value} {q : Addr} (h : q.block ≠ p.block) : (w.setCell p u).cell? q = w.cell? q := World.cell?_of_block (w := w) (Below.heap_setCell _ _ _ _ h)

theorem addr_add (b o j : Nat) : (⟨b, o, none⟩ : Addr).add j = ⟨b, o + j, none⟩ := by unfold Addr.add; split <;> simp_all

theorem WInv.agree {B pb : Nat} {xs : List Int} {w w' : World} (h : WInv B pb xs w) (hA : Agree B w.heap.size w w') : WInv B pb xs w' := by
  obtain ⟨v, c0, f0, hpb, hown, hne⟩ := h
  have hp : pb < w.heap.size := World.block_lt_of_cell? w _ c0
  exact ⟨v, (hA.cell (p := ⟨pb, 0, none⟩) hpb hp).trans c0, (World.frozen?_of_block (w := w) (a := ⟨pb, 0, none⟩) (hA pb hpb hp)).trans f0, hpb, ownsRow_agree hown hA, hne⟩

theorem WInv.lt {B pb : Nat} {xs : List Int} {w : World} (h : WInv B pb xs w) : B < w.heap.size := by
  obtain ⟨v, c0, f0, hpb, hown, hne⟩ := h
  have hp : pb < w.heap.size := World.block_lt_of_cell? w _ c0
  omega

set_option maxHeartbeats 1000000 in
set_option maxRecDepth 100000 in
theorem each_any {n : Nat} (hn : PutOk n) (ks : List (Tr n)) (v : Value) (B pb : Nat) (xs : List Int) (w : World) (h : KSl 0 B w (Rep 0 B w n) v ks) (hk : ∀ k ∈ ks, ∃ r, r ≤ 65535 ∧ Rt n k r) (hw : WInv B pb xs w)
    (hl : xs.length + ((ks.map (formOf n)).flatten).length ≤ 70000) :
    Calls Tryz.prog 205 #[v, .func (.func 161) #[.pointer (some ⟨pb, 0, none⟩)] #[]] w fun e w' => e = .returned (.tuple #[]) ∧ WInv B pb (xs ++ (ks.map (formOf n)).flatten) w' ∧ Below B w w' := by
  obtain ⟨a, cap, rfl, h2, h3, h4, h5, h7⟩ := h
  have A := hid h7
  have HW := hid hw
  have HR := hid hk
  have HLn := hid hl
  clear h7 h4 hw hk hl
  go_enter Tryz.func205, Tryz.ntmps205
  go_wp2_with fail
  go_loopw [8] (fun i wr => ∃ (k : Nat) (ys : List Int), k ≤ ks.length ∧ i = .int .i64 k ∧ Hid (WInv B pb ys wr ∧ Below B w wr ∧ ys ++ ((ks.drop k).map (formOf n)).flatten = xs ++ (ks.map (formOf n)).flatten)) (fun i _ => ks.length - (intOf i).toNat)
  case atStart => exact ⟨0, xs, Nat.zero_le _, rfl, HW.out, Below.refl _ _, rfl⟩
  case round =>
    obtain ⟨k, ys, hk, rfl, HI⟩ := hrel
    by_cases hlt : k < ks.length
    · obtain ⟨b, o, rfl, _, hbs, hc⟩ := A.out (by intro e; subst e; simp at hlt)
      obtain ⟨sb, sk, c0, c1, c2, c3, hrep⟩ := hc k ks[k] (List.getElem?_eq_getElem hlt)
      clear hc
      obtain ⟨a1, l1, p1, a2, l2, p2, rfl, rfl⟩ := hrep.sl
      have hR := hid hrep
      clear hrep
      have hbel := hid HI.out.2.1
      have d0 := (hbel.out.cell (p := ⟨b, o + k * 4, none⟩) hbs).trans c0
      have d1 := (hbel.out.cell (p := ⟨b, o + k * 4 + 1, none⟩) hbs).trans c1
      have d2 := (hbel.out.cell (p := ⟨b, o + k * 4 + 2, none⟩) hbs).trans c2
      have d3 := (hbel.out.cell (p := ⟨b, o + k * 4 + 3, none⟩) hbs).trans c3
      clear c0 c1 c2 c3
      have hdrop : Hid (ks.drop k = ks[k] :: ks.drop (k + 1)) := List.drop_eq_getElem_cons hlt
      have hmem : Hid (∃ r, r ≤ 65535 ∧ Rt n ks[k] r) := HR.out _ (List.getElem_mem hlt)
      generalize ks[k] = t at *
      have hBz := HI.out.1.lt
      go_wp2_with fail
      obtain ⟨r, hr0, hr1⟩ := hmem.out
      have hlen : ys.length + (formOf n t).length ≤ 70000 := by
        have := congrArg List.length HI.out.2.2
        rw [hdrop.out] at this
        simp only [List.length_append, List.map_cons, List.flatten_cons] at this
        have := HLn.out
        omega
      refine (hn t _ _ B pb ys r _ (hR.out.agree ((Agree.below hbel.out).alloc (by omega) _) (Nat.le_refl _) (Nat.le_refl _)) hr1 hr0 (HI.out.1.agree ((Agree.refl _ _ _).alloc (Nat.le_refl _) _)) hlen).mono ?_
      rintro e w1 ⟨rfl, hw1, hb1⟩
      have HW1 := hid hw1
      have HB1 : Hid (Below B w w1) := (hbel.out.alloc (by omega) _).trans hb1
      clear hw1 hb1
      go_wp2_with fail
      go_roundw
      case rel => exact ⟨k + 1, ys ++ formOf n t, by omega, by go_num, HW1.out, HB1.out, by rw [← HI.out.2.2, hdrop.out]; simp⟩
      case measure => simp [intOf]; omega
    · go_wp2_with fail
      go_end0
      refine ⟨rfl, ?_, HI.out.2.1⟩
      have e : ys = xs ++ (ks.map (formOf n)).flatten := by have := HI.out.2.2; rwa [List.drop_of_length_le (by omega), List.map_nil, List.flatten_nil, List.append_nil] at this
      rw [← e]
      exact HI.out.1

theorem bodyOf_1 {n : Nat} {t : Tr (n + 1)} (h : t.hd.1 = 1) : bodyOf (n + 1) t = numB (nsz t.hd.2.1).toNat t.hd.2.1 := by
  simp only [bodyOf]
  rw [if_pos h]

theorem bodyOf_2 {n : Nat} {t : Tr (n + 1)} (h : t.hd.1 = 2) : bodyOf (n + 1) t = t.hd.2.2 := by
  simp only [bodyOf]
  rw [if_neg (by omega), if_pos h]

theorem set_two (tag h l : Int) (body xs : List Int) : (((xs ++ [tag, 0, 0] ++ body).map (Value.int .u8)).set (xs.length + 1) (.int .u8 h)).set (xs.length + 2) (.int .u8 l) = (xs ++ tag :: h :: l :: body).map (Value.int .u8) := by
  cases xs <;> simp

set_option maxHeartbeats 2000000 in
set_option maxRecDepth 100000 in
theorem put_any : ∀ n, PutOk n
  | 0 => fun t => by cases t
  | n + 1 => by
    intro t sb sk B pb xs room w hrep hrt hroom hw hlen
    have ih := put_any n
    obtain ⟨hn0, hn1, hby, hks⟩ := hrep
    have HB := hid hby
    have HK := hid hks
    obtain ⟨ab, cb, rfl, hrb⟩ := hby
    obtain ⟨ak, ck, rfl, hrk⟩ := hks
    clear hrb hrk
    have hfacts := hid hrt.facts
    have HF : Hid (formOf (n + 1) t = t.hd.1 :: ((bodyOf (n + 1) t).length / 256 : Int) :: ((bodyOf (n + 1) t).length % 256 : Int) :: bodyOf (n + 1) t) := rfl
    have HLn := hid hlen
    have HW := hid hw
    obtain ⟨v, c0, f0, hpb, hown, hne⟩ := hw
    obtain ⟨a, c, rfl⟩ := ownsRow_form hown
    have HO := hid hown
    have HNE := hid hne
    have hpz : pb < w.heap.size := World.block_lt_of_cell? w _ c0
    clear hrt hlen hown hne
    obtain ⟨i0, hi, hz0, hz1, hz2⟩ := info_parts Tryz.info5
    have hT1 := hid (rfl : t.kd = t.kd)
    generalize hk1 : t.kd = ks at *
    generalize hk2 : t.hd.2.2 = bs at *
    generalize hk3 : t.hd.2.1 = num at *
    generalize hk4 : t.hd.1 = tag at *
    have HT1 := hid hk1
    have HT2 := hid hk2
    have HT3 := hid hk3
    have HT4 := hid hk4
    clear hk1 hk2 hk3 hk4 hT1
    go_enter Tryz.func161, Tryz.ntmps161
    go_upto_region 2 with fail
    go_cut [] (fun wx => wx.cell? ⟨w.heap.size, 0, none⟩ = some (.int .i64 tag) ∧ wx.cell? ⟨w.heap.size, 1, none⟩ = some (.int .u64 num) ∧ wx.cell? ⟨w.heap.size, 2, none⟩ = some (.slice ab bs.length cb) ∧
      wx.cell? ⟨w.heap.size, 3, none⟩ = some (.slice ak ks.length ck) ∧ w.heap.size < wx.heap.size ∧ Hid (WInv B pb (xs ++ [tag, 0, 0]) wx ∧ Below B w wx))
    case first =>
      have hw3 : Hid (IntKind.u8.wrap tag = tag) := by
        have := hfacts.out.2.2.1
        rw [Hid, IntKind.wrap_u8]
        omega
      have HO2 : Hid (((w.alloc (Obj.cells #[Value.int IntKind.i64 tag, Value.int IntKind.u64 num, Value.slice ab bs.length cb, Value.slice ak ks.length ck] 203)).alloc (Obj.cells #[Value.int IntKind.u8 (IntKind.u8.wrap tag), Value.int IntKind.u8 0, Value.int IntKind.u8 0] 5)).drew.ownsRow B 5 1 (.slice a xs.length c) xs.length (xs.map (Value.int .u8))) := (HO.out.alloc _).alloc _
      have hnews : Hid (∀ j u, [Value.int IntKind.u8 (IntKind.u8.wrap tag), Value.int IntKind.u8 0, Value.int IntKind.u8 0][j]? = some u → ((w.alloc (Obj.cells #[Value.int IntKind.i64 tag, Value.int IntKind.u64 num, Value.slice ab bs.length cb, Value.slice ak ks.length ck] 203)).alloc (Obj.cells #[Value.int IntKind.u8 (IntKind.u8.wrap tag), Value.int IntKind.u8 0, Value.int IntKind.u8 0] 5)).cell? ((⟨w.heap.size + 1, 0, none⟩ : Addr).add j) = some u) :=
        World.news_of_block (cs := #[Value.int IntKind.u8 (IntKind.u8.wrap tag), Value.int IntKind.u8 0, Value.int IntKind.u8 0]) (t := 5) (fr := (0, 0)) (by have h := heap_alloc_new (w.alloc (Obj.cells #[Value.int IntKind.i64 tag, Value.int IntKind.u64 num, Value.slice ab bs.length cb, Value.slice ak ks.length ck] 203)) (Obj.cells #[Value.int IntKind.u8 (IntKind.u8.wrap tag), Value.int IntKind.u8 0, Value.int IntKind.u8 0] 5); simpa using h)
      have hone : Hid (∀ u ∈ [Value.int IntKind.u8 (IntKind.u8.wrap tag), Value.int IntKind.u8 0, Value.int IntKind.u8 0], u.oneCell' = true) := by
        intro u hu
        simp only [List.mem_cons, List.not_mem_nil, or_false] at hu
        rcases hu with rfl | rfl | rfl <;> rfl
      have hxl : xs.length ≤ 70000 := by have := HLn.out; omega
      go_region_law (refine step_append_lies _ (by rfl) (.tmp 15) (.tmp 19) 54 (by rfl) B 5 i0 (.int .u8 0) 1 1 Tryz.underlying54 hi hz0 hz1 hz2 rfl (by omega) (.slice a xs.length c) xs.length (xs.map (Value.int .u8)) (by simp [Act.eval]) HO2.out ⟨w.heap.size + 1, 0, none⟩ 3 3 [Value.int IntKind.u8 (IntKind.u8.wrap tag), Value.int IntKind.u8 0, Value.int IntKind.u8 0] (by simp [Act.eval]) rfl hnews.out hone.out (by omega) (by unfold maxLen; omega) (by omega) (by simp; omega) (w.heap.size + 1 + 1) (by simp) ?_; intro g cap w2 hown2 hgrow2 hat2 hlt2; have c2 : w2.cell? ⟨pb, 0, none⟩ = some (.slice a xs.length c) := (hgrow2.cell_far ⟨pb, 0, none⟩ (by simp; omega) (fun e => HNE.out e.symm)).trans ((World.cell?_alloc_past _ _ _ (by simp; omega)).trans ((World.cell?_alloc_past _ _ _ hpz).trans c0)); have f2 : w2.frozen? ⟨pb, 0, none⟩ = false := (hgrow2.frozen_far ⟨pb, 0, none⟩ (by simp; omega) (fun e => HNE.out e.symm)).trans ((World.frozen?_alloc_past _ _ _ (by simp; omega)).trans ((World.frozen?_alloc_past _ _ _ hpz).trans f0)); have HO3 := hid hown2; have HG := hid hgrow2; have HAT := hid hat2; clear hown2 hgrow2 hat2)
      all_goals go_wp2_with fail
      all_goals go_meet
      all_goals
        have hbx : some w.heap.size ≠ (Value.slice a xs.length c).ownBlock := fun e => by have := (HO.out.lt _ e.symm).2; omega
        have hcb : ∀ o, w2.cell? ⟨w.heap.size, o, none⟩ = (w.alloc (Obj.cells #[Value.int IntKind.i64 tag, Value.int IntKind.u64 num, Value.slice ab bs.length cb, Value.slice ak ks.length ck] 203)).cell? ⟨w.heap.size, o, none⟩ := fun o => (HG.out.cell_far ⟨w.heap.size, o, none⟩ (by simp; omega) hbx).trans (World.cell?_alloc_past _ _ _ (by simp))
        have hz3 := HG.out.size
        simp at hz3
        refine ⟨?_, ?_, ?_, ?_, by simp; omega, ?_, ?_⟩
        · rw [cell_apart (by simp; omega), hcb]; simp [go_sem]
        · rw [cell_apart (by simp; omega), hcb]; simp [go_sem]
        · rw [cell_apart (by simp; omega), hcb]; simp [go_sem]
        · rw [cell_apart (by simp; omega), hcb]; simp [go_sem]
        · have h := HO3.out
          rw [hw3.out] at h
          exact WInv.push (v := .slice a xs.length c) (H := w.heap.size + 1 + 1) (news := [tag, 0, 0]) (by simpa using h) hpb (by omega) HNE.out c2 f2 HAT.out
        · exact (((((Below.refl _ _).alloc (by omega) _).alloc (by simp; omega) _).drew).grown HG.out (by simp; omega) (fun r e => (HO.out.lt r e).1)).setCell hpb _
    case rest =>
      obtain ⟨b0, b1, b2, b3, hbz, HX⟩ := hcut
      have hbl : Hid ((xs ++ [tag, 0, 0]).length + (bodyOf (n + 1) t).length ≤ 70000) := by have h := HLn.out; rw [HF.out] at h; simp only [List.length_cons] at h; simp only [Hid, List.length_append, List.length_cons, List.length_nil]; omega
      go_upto_block 0 with fail
      go_cut [25, 31, 43] (fun _ _ _ wx => Hid (WInv B pb (xs ++ [tag, 0, 0] ++ bodyOf (n + 1) t) wx ∧ Below B w wx))
      case first =>
        by_cases h1 : tag = 1
        · have hb1 := hid (bodyOf_1 (HT4.out.trans h1))
          subst h1
          go_wp2_with fail
          refine (number_put B pb (xs ++ [1, 0, 0]) num wc HX.out.1 hn0 hn1 (by have := hbl.out; omega)).mono ?_
          rintro e w1 ⟨rfl, hw1, hbe1⟩
          have HW1 := hid hw1
          have HB1 := hid hbe1
          clear hw1 hbe1
          go_wp2_with fail
          go_meet
          refine ⟨?_, HX.out.2.trans HB1.out⟩
          rw [hb1.out, HT3.out]
          exact HW1.out
        · by_cases h2 : tag = 2
          · have hb1 := hid (bodyOf_2 (HT4.out.trans h2))
            subst h2
            obtain ⟨ys, hys⟩ : ∃ ys, xs ++ [2, 0, 0] = ys := ⟨_, rfl⟩
            have HYS := hid hys
            have HX1 := HX.out.1
            have hbl1 := hbl.out
            rw [hys] at HX1 hbl1
            have hyn : ys ≠ [] := by rw [← hys]; simp
            clear hys
            obtain ⟨v', c0', f0', _, hown', hne'⟩ := HX1
            have hpz' : pb < wc.heap.size := by omega
            by_cases hbs : bs = []
            · subst hbs
              rcases hown'.2 with ⟨_, h0⟩ | ⟨g, cap, cur, rfl, hgB, hgg, hgl, hgm, hgs, hgt⟩
              · exact absurd (List.length_eq_zero_iff.1 h0) hyn
              · have HC := hid hgt
                have HO4 := hid hown'
                have HNE4 := hid hne'
                clear hgt hown' hne'
                cases ab
                all_goals
                  go_wp2_with fail
                  go_region
                  all_goals
                    go_wp2_with fail
                    go_meet
                    refine ⟨?_, HX.out.2.drew.setCell hpb _⟩
                    rw [hb1.out, HT2.out, List.append_nil, HYS.out]
                    refine ⟨_, World.cell?_setCell_same _ _ _ c0', by simp [f0'], hpb, ?_, by simpa using HNE4.out⟩
                    have h := ownsRow_set_ne HO4.out (p := ⟨pb, 0, none⟩) HNE4.out (Value.slice (some ⟨g, 0, none⟩) ys.length cap)
                    simpa using h.drew
            · obtain ⟨_, _, ea, _, _, _, _, _, h7⟩ := HB.out
              simp only [Value.slice.injEq, true_and] at ea
              obtain ⟨rfl, rfl⟩ := ea
              obtain ⟨b, o, rfl, _, hbB, hcc⟩ := h7 hbs
              obtain ⟨a5, c5, rfl⟩ := ownsRow_form hown'
              have hbpos : 0 < bs.length := List.length_pos_iff.2 hbs
              have hnews : Hid (∀ j u, (bs.map (Value.int .u8))[j]? = some u → wc.cell? ((⟨b, o, none⟩ : Addr).add j) = some u) := by
                intro j u hj
                have hjn : j < bs.length := by
                  have := (List.getElem?_eq_some_iff.1 hj).1
                  simpa using this
                rw [addr_add, HX.out.2.cell (p := ⟨b, o + j, none⟩) hbB, hcc j hjn]
                simp only [List.getElem?_map, List.getElem?_eq_getElem hjn, Option.map_some, Option.some.injEq] at hj
                simp [List.getElem?_eq_getElem hjn, hj]
              have hone : Hid (∀ u ∈ bs.map (Value.int .u8), u.oneCell' = true) := by intro u hu; obtain ⟨x, _, rfl⟩ := List.mem_map.1 hu; rfl
              have HO4 := hid hown'
              have HNE4 := hid hne'
              have hyl : ys.length + bs.length ≤ 70000 := by rw [hb1.out, HT2.out] at hbl1; exact hbl1
              clear hbl1 hown' hne' hcc h7
              go_wp2_with fail
              go_region_law (refine step_append_lies _ (by rfl) (.tmp 37) (.tmp 39) 54 (by rfl) B 5 i0 (.int .u8 0) 1 1 Tryz.underlying54 hi hz0 hz1 hz2 rfl (by omega) (.slice a5 ys.length c5) ys.length (ys.map (Value.int .u8)) (by simp [Act.eval]) HO4.out.drew ⟨b, o, none⟩ bs.length cb (bs.map (Value.int .u8)) (by simp [Act.eval]) (by simp) hnews.out hone.out (by omega) (by unfold maxLen; omega) (by omega) (by simp; omega) wc.heap.size (by simp) ?_; intro g cap w2 hown2 hgrow2 hat2 hlt2; have c2 : w2.cell? ⟨pb, 0, none⟩ = some (.slice a5 ys.length c5) := (hgrow2.cell_far ⟨pb, 0, none⟩ (by simp; omega) (fun e => HNE4.out e.symm)).trans c0'; have f2 : w2.frozen? ⟨pb, 0, none⟩ = false := (hgrow2.frozen_far ⟨pb, 0, none⟩ (by simp; omega) (fun e => HNE4.out e.symm)).trans f0'; have HO3 := hid hown2; have HG := hid hgrow2; have HAT := hid hat2; clear hown2 hgrow2 hat2)
              all_goals go_wp2_with fail
              all_goals
                go_meet
                refine ⟨?_, (HX.out.2.drew.grown HG.out (by simp; omega) (fun r e => (HO4.out.lt r e).1)).setCell hpb _⟩
                rw [hb1.out, HT2.out, HYS.out]
                exact WInv.push (v := .slice a5 ys.length c5) (H := wc.heap.size) HO3.out hpb (by omega) HNE4.out c2 f2 HAT.out
          · have h3 : tag = 3 := by have := hfacts.out.2.2.1; omega
            have hb1 := hid (bodyOf_kids (HT4.out.trans h3))
            have hkr := hid (hfacts.out.2.2.2 h3)
            subst h3
            go_wp2_with fail
            refine (each_any ih ks _ B pb (xs ++ [3, 0, 0]) wc (HK.out.agree (fun _ _ _ r => r.agree (Agree.below HX.out.2) (Nat.le_refl _) (Nat.le_refl _)) (Agree.below HX.out.2) (Nat.le_refl _) (Nat.le_refl _)) (fun k hk => by obtain ⟨r, h1, h2⟩ := hkr.out k hk; exact ⟨r, by omega, h2⟩) HX.out.1 (by have := hbl.out; rw [hb1.out, HT1.out] at this; exact this)).mono ?_
            rintro e w1 ⟨rfl, hw1, hbe1⟩
            have HW1 := hid hw1
            have HB1 := hid hbe1
            clear hw1 hbe1
            go_wp2_with fail
            go_meet
            refine ⟨?_, HX.out.2.trans HB1.out⟩
            rw [hb1.out, HT1.out]
            exact HW1.out
      case rest =>
        have hroom1 := hfacts.out.2.1
        obtain ⟨body, hbd⟩ : ∃ body, bodyOf (n + 1) t = body := ⟨_, rfl⟩
        rw [hbd] at hcut hroom1 HF
        clear hbl hbd
        have hbl : body.length ≤ 65535 := by omega
        obtain ⟨v', c0', f0', _, hown', hne'⟩ := hcut.out.1
        rcases hown'.2 with ⟨_, h0⟩ | ⟨g, cap, cur, rfl, hgB, hgg, hgl, hgm, hgs, hgt⟩
        · simp at h0
        · have HO4 := hid hown'
          have hgp : g ≠ pb := by simpa [Value.ownBlock] using hne'
          have hx1 : wc.cell? ⟨g, xs.length + 1, none⟩ = some (.int .u8 0) := by rw [hown'.cellAt _ (by simp)]; simp
          have hx2 : wc.cell? ⟨g, xs.length + 2, none⟩ = some (.int .u8 0) := by rw [hown'.cellAt _ (by simp)]; simp
          have hff : ∀ o, wc.frozen? ⟨g, o, none⟩ = false := fun o => hown'.frozenAt o
          have hL : (xs ++ [tag, 0, 0] ++ body).length = xs.length + 3 + body.length := by simp; omega
          rw [hL] at c0'
          have hxl : xs.length ≤ 70000 := by have := HLn.out; omega
          have HNE4 := hid hne'
          clear hL hown' hne' hgg hgl hgm hgs hgt c0 f0 HO HNE hpz b0 b1 b2 b3 hbz
          go_wp2_with fail
          go_big_region
          go_end0
          refine ⟨rfl, ?_, ((hcut.out.2.setCell hgB _).setCell hgB _).drew⟩
          have e1 : ((xs.length : Int) + 3 + body.length - xs.length - 3) = (body.length : Int) := by omega
          rw [HF.out, e1]
          have st := ((HO4.out.stored (xs.length + 1) (.int .u8 ((body.length : Int) / 256))).1.stored (xs.length + 2) (.int .u8 ((body.length : Int) % 256))).1
          rw [set_two] at st
          have hL2 : (xs ++ [tag, 0, 0] ++ body).length = (xs ++ tag :: ((body.length : Int) / 256) :: ((body.length : Int) % 256) :: body).length := by simp
          rw [hL2] at st
          refine ⟨.slice (some ⟨g, 0, none⟩) (xs ++ tag :: ((body.length : Int) / 256) :: ((body.length : Int) % 256) :: body).length cap, ?_, ?_, hpb, st.drew, by simpa [Value.ownBlock] using hgp⟩
          · rw [← hL2, World.cell?_drew, cell_apart (fun e => hgp e.symm), cell_apart (fun e => hgp e.symm), c0']
            simp
            omega
          · rw [World.frozen?_drew, World.frozen?_setCell, World.frozen?_setCell]
            exact f0'

end Go.Proofs.YthmimipoooemjaaGreatDoor.Tlv
end

section
/-
  What bodySize, listSize, Size and Right of tlv answer, for whatever tree lies in memory.
-/
namespace Go.Proofs.YthmimipoooemjaaGreatDoor.Tlv
open Go.RowKit

/-- What bodySize does with a tree that is nested at most n deep. -/
def SizeOk (n : Nat) : Prop := ∀ (t : Tr n) (sb sk : Value) (room deep : Int) (w : World), Rep 0 w.heap.size w n t sb sk → -3 ≤ room → room ≤ 65535 → 0 ≤ deep → deep ≤ 8 →
  Calls Tryz.prog 155 #[.agg #[.int .i64 t.hd.1, .int .u64 t.hd.2.1, sb, sk], .int .i64 room, .int .i64 deep] w fun e w' =>
    e = .returned (.tuple #[.int .i64 (bsz n t room deep).1, .bool (bsz n t room deep).2]) ∧ Below w.heap.size w w'

theorem lsz_go {α : Type} {f : α → Int → Int → Int × Bool} {ks : List α} {room deep : Int} (h : 0 < deep) : lsz f ks room deep = lszGo f room deep 0 ks := by
  unfold lsz; rw [if_neg (by omega)]

set_option maxHeartbeats 1000000 in
theorem listSize_any {n : Nat} (hn : SizeOk n) (ks : List (Tr n)) (v : Value) (room deep : Int) (w : World) (h : KSl 0 w.heap.size w (Rep 0 w.heap.size w n) v ks) (hr0 : 0 ≤ room) (hr1 : room ≤ 65535) (hd0 : 0 < deep) (hd1 : deep ≤ 8) :
    Calls Tryz.prog 202 #[v, .int .i64 room, .int .i64 deep] w fun e w' => e = .returned (.tuple #[.int .i64 (lsz (bsz n) ks room deep).1, .bool (lsz (bsz n) ks room deep).2]) ∧ Below w.heap.size w w' := by
  rw [lsz_go hd0]
  obtain ⟨a, cap, rfl, h2, h3, h4, h5, h7⟩ := h
  have A := hid h7
  have hdb : (deep == 0) = false := by simp; omega
  clear h7 h4
  go_enter Tryz.func202, Tryz.ntmps202
  go_wp2
  go_loopw [8, 17] (fun c i wr => ∃ (k : Nat) (acc : Int), k ≤ ks.length ∧ i = .int .i64 k ∧ c = .int .i64 acc ∧ 0 ≤ acc ∧ acc ≤ room ∧ Hid (lszGo (bsz n) room deep acc (ks.drop k) = lszGo (bsz n) room deep 0 ks) ∧ Hid (Below w.heap.size w wr)) (fun _ i _ => ks.length - (intOf i).toNat)
  case atStart => exact ⟨0, 0, Nat.zero_le _, rfl, rfl, by omega, by omega, by simp [Hid], Below.refl _ _⟩
  case round =>
    obtain ⟨k, acc, hk, rfl, rfl, ha0, ha1, hgo, hbel⟩ := hrel
    by_cases hlt : k < ks.length
    · obtain ⟨b, o, rfl, _, hbs, hc⟩ := A.out (by intro e; subst e; simp at hlt)
      obtain ⟨sb, sk, c0, c1, c2, c3, hrep⟩ := hc k ks[k] (List.getElem?_eq_getElem hlt)
      clear hc
      obtain ⟨a1, l1, p1, a2, l2, p2, rfl, rfl⟩ := hrep.sl
      have hR := hid hrep
      clear hrep
      have d0 := (hbel.out.cell (p := ⟨b, o + k * 4, none⟩) hbs).trans c0
      have d1 := (hbel.out.cell (p := ⟨b, o + k * 4 + 1, none⟩) hbs).trans c1
      have d2 := (hbel.out.cell (p := ⟨b, o + k * 4 + 2, none⟩) hbs).trans c2
      have d3 := (hbel.out.cell (p := ⟨b, o + k * 4 + 3, none⟩) hbs).trans c3
      clear c0 c1 c2 c3
      have hdrop : Hid (ks.drop k = ks[k] :: ks.drop (k + 1)) := List.drop_eq_getElem_cons hlt
      generalize ks[k] = t at *
      go_wp2_with fail
      have hbz := hbel.out.size
      have hbw : b < wr.heap.size := by omega
      refine (hn t _ _ _ _ _ (hR.out.agree ((Agree.below hbel.out).alloc hbz _) (Nat.le_refl _) (by simp; omega)) (by omega) (by omega) (by omega) (by omega)).mono ?_
      rintro e w1 ⟨rfl, hb1⟩
      have hfit := bsz_fits n t (room - acc - 3) (deep - 1)
      have hst : Hid (lszGo (bsz n) room deep acc (t :: ks.drop (k + 1)) = if (bsz n t (room - acc - 3) (deep - 1)).2 then lszGo (bsz n) room deep (acc + (3 + (bsz n t (room - acc - 3) (deep - 1)).1)) (ks.drop (k + 1)) else (0, false)) := rfl
      have hb2 : Hid (Below w.heap.size w w1) := (hbel.out.alloc hbz _).trans (hb1.mono (by simp; omega))
      clear hb1
      generalize bsz n t (room - acc - 3) (deep - 1) = r at hfit hst ⊢
      obtain ⟨m, ok⟩ := r
      cases ok with
      | true =>
        have hm := hfit rfl
        clear hfit
        simp only at hm
        go_wp2_with fail
        go_roundw
        case rel => exact ⟨k + 1, acc + (3 + m), by omega, by go_num, by go_num, by omega, by omega, by rw [Hid, ← hgo.out, hdrop.out, hst.out]; rfl, hb2⟩
        case measure => simp [intOf]; omega
      | false =>
        clear hfit
        go_wp2_with fail
        go_ret2
        refine ⟨?_, hb2.out⟩
        rw [← hgo.out, hdrop.out, hst.out]
        rfl
    · go_wp2_with fail
      go_ret2
      refine ⟨?_, hbel.out⟩
      rw [← hgo.out, List.drop_of_length_le (by omega)]
      rfl

set_option maxHeartbeats 400000 in
theorem listSize_zero (a : Option Addr) (l c : Nat) (room : Int) (w : World) :
    Calls Tryz.prog 202 #[.slice a l c, .int .i64 room, .int .i64 0] w fun e w' => e = .returned (.tuple #[.int .i64 0, .bool false]) ∧ w' = w := by
  go_enter Tryz.func202, Tryz.ntmps202
  go_wp2_with fail
  go_ret2
  exact ⟨rfl, rfl⟩

theorem bsz_no {n : Nat} {t : Tr (n + 1)} {room deep : Int} (h : room < 0 ∨ oeB t.hd.1 t.hd.2.1 t.hd.2.2.length t.kd.length = false) : bsz (n + 1) t room deep = (0, false) := by
  simp only [bsz]; rw [if_pos h]

theorem bsz_yes {n : Nat} {t : Tr (n + 1)} {room deep : Int} (h0 : 0 ≤ room) (h1 : oeB t.hd.1 t.hd.2.1 t.hd.2.2.length t.kd.length = true) : bsz (n + 1) t room deep =
    if t.hd.1 = 1 then (nsz t.hd.2.1, decide (nsz t.hd.2.1 ≤ room))
    else if t.hd.1 = 2 then ((t.hd.2.2.length : Int), decide ((t.hd.2.2.length : Int) ≤ room))
    else if t.hd.1 = 3 then lsz (bsz n) t.kd room deep
    else (0, false) := by
  simp only [bsz]; rw [if_neg (by rw [h1]; simp; omega)]

set_option maxHeartbeats 1000000 in
theorem bodySize_any : ∀ n, SizeOk n
  | 0 => fun t => by cases t
  | n + 1 => by
    intro t sb sk room deep w hrep hr0 hr1 hd0 hd1
    have ih := bodySize_any n
    obtain ⟨hn0, hn1, hby, hks⟩ := hrep
    have HB := hid hby
    have HK := hid hks
    obtain ⟨ab, cb, rfl, hrb⟩ := hby
    obtain ⟨ak, ck, rfl, hrk⟩ := hks
    clear hrb hrk
    have hoe := bsz_no (t := t) (room := room) (deep := deep)
    have hyes := bsz_yes (t := t) (room := room) (deep := deep)
    have hlb : t.hd.2.2.length ≤ 140737488355328 := by obtain ⟨_, _, _, _, _, _, h, _⟩ := HB.out; exact h
    generalize bsz (n + 1) t room deep = r at *
    generalize hks' : t.kd = ks at *
    have HKS := hid hks'
    clear hks'
    generalize t.hd.2.2 = bs at *
    generalize t.hd.2.1 = num at *
    generalize t.hd.1 = tag at *
    by_cases hneg : room < 0
    · rw [hoe (.inl hneg)]
      clear hoe hyes
      go_enter Tryz.func155, Tryz.ntmps155
      go_wp2_with fail
      go_ret2
      exact ⟨rfl, (Below.refl _ _).alloc (Nat.le_refl _) _⟩
    · cases hq : oeB tag num bs.length ks.length with
      | false =>
        rw [hoe (.inr hq)]
        clear hoe hyes
        have HQ := hid hq
        clear hq
        go_enter Tryz.func155, Tryz.ntmps155
        go_wp2_with fail
        refine (othersEmpty_any _ _ _ _ _ _ _ _ _).mono ?_
        rintro e w1 ⟨rfl, hb1⟩
        rw [HQ.out]
        have hb2 : Hid (Below w.heap.size w w1) := ((Below.refl _ _).alloc (Nat.le_refl _) _).trans (hb1.mono (by simp))
        clear hb1
        go_wp2_with fail
        go_ret2
        exact ⟨rfl, hb2.out⟩
      | true =>
        have hr := hid (hyes (by omega) hq)
        have HQ := hid hq
        clear hoe hyes hq
        have hroom : 0 ≤ room := by omega
        clear hneg
        go_enter Tryz.func155, Tryz.ntmps155
        go_wp2_with fail
        refine (othersEmpty_any _ _ _ _ _ _ _ _ _).mono ?_
        rintro e w1 ⟨rfl, hb1⟩
        rw [HQ.out]
        have hb2 : Hid (Below w.heap.size w w1) := ((Below.refl _ _).alloc (Nat.le_refl _) _).trans (hb1.mono (by simp))
        have hz : w.heap.size < w1.heap.size := by have := hb1.size; simp at this; omega
        obtain ⟨hc, hf⟩ := bcell hb1
        clear hb1 hf
        by_cases h1 : tag = 1
        · subst h1
          go_wp2_with fail
          refine (numberSize_any _ _ hn0 hn1).mono ?_
          rintro e w2 ⟨rfl, hw2⟩
          rw [hw2]
          clear hw2
          go_wp2_with fail
          go_ret2
          refine ⟨?_, hb2.out⟩
          rw [hr.out]
          rfl
        · by_cases h2 : tag = 2
          · subst h2
            go_wp2_with fail
            go_ret2
            refine ⟨?_, hb2.out⟩
            rw [hr.out]
            rfl
          · by_cases h3 : tag = 3
            · subst h3
              by_cases hdz : deep = 0
              · subst hdz
                go_wp2_with fail
                refine (listSize_zero _ _ _ _ _).mono ?_
                rintro e w2 ⟨rfl, hw2⟩
                rw [hw2]
                clear hw2
                go_wp2_with fail
                go_ret2
                refine ⟨?_, hb2.out⟩
                rw [hr.out]
                rfl
              · go_wp2_with fail
                refine (listSize_any ih ks _ _ _ _ (HK.out.agree (fun _ _ _ h => h.agree (Agree.below hb2.out) (Nat.le_refl _) (by omega)) (Agree.below hb2.out) (Nat.le_refl _) (by omega)) hroom hr1 (by omega) hd1).mono ?_
                rintro e w2 ⟨rfl, hb3⟩
                have hb4 : Hid (Below w.heap.size w w2) := hb2.out.trans (hb3.mono (by omega))
                clear hb3
                go_wp2_with fail
                go_ret2
                refine ⟨?_, hb4.out⟩
                rw [hr.out]
                rfl
            · go_wp2_with fail
              go_ret2
              refine ⟨?_, hb2.out⟩
              rw [hr.out, if_neg h1, if_neg h2, if_neg h3]
              rfl

/-- How many bytes a tree's form has; 0: it is not right. -/
def szT (n : Nat) (t : Tr n) : Int := if (bsz n t 65535 8).2 then 3 + (bsz n t 65535 8).1 else 0

set_option maxHeartbeats 400000 in
theorem size_any {n : Nat} (t : Tr n) (sb sk : Value) (w : World) (h : Rep 0 w.heap.size w n t sb sk) :
    Calls Tryz.prog 108 #[.agg #[.int .i64 t.hd.1, .int .u64 t.hd.2.1, sb, sk]] w fun e w' => e = .returned (.int .i64 (szT n t)) ∧ Below w.heap.size w w' := by
  obtain ⟨a1, l1, p1, a2, l2, p2, rfl, rfl⟩ := h.sl
  have H := hid h
  clear h
  have hfit := bsz_fits n t 65535 8
  go_enter Tryz.func108, Tryz.ntmps108
  go_wp2_with fail
  refine (bodySize_any n t _ _ _ _ _ (H.out.agree ((Agree.refl _ _ _).alloc (Nat.le_refl _) _) (Nat.le_refl _) (by simp)) (by omega) (by omega) (by omega) (by omega)).mono ?_
  rintro e w1 ⟨rfl, hb1⟩
  have hb2 : Hid (Below w.heap.size w w1) := ((Below.refl _ _).alloc (Nat.le_refl _) _).trans (hb1.mono (by simp))
  clear hb1
  obtain ⟨r, hr⟩ : ∃ r, bsz n t 65535 8 = r := ⟨_, rfl⟩
  rw [hr] at hfit
  have HR := hid hr
  clear hr
  rw [HR.out]
  obtain ⟨m, ok⟩ := r
  cases ok with
  | true =>
    have hm := hfit rfl
    clear hfit
    simp only at hm
    go_wp2_with fail
    go_ret
    refine ⟨?_, hb2.out⟩
    rw [szT, HR.out]
    rfl
  | false =>
    clear hfit
    go_wp2_with fail
    go_ret
    refine ⟨?_, hb2.out⟩
    rw [szT, HR.out]
    rfl

end Go.Proofs.YthmimipoooemjaaGreatDoor.Tlv
end

section
/-
  What Put of tlv answers.
-/
namespace Go.Proofs.YthmimipoooemjaaGreatDoor.Tlv
open Go.RowKit

theorem numB_byte : ∀ (k : Nat) (x : Int), ∀ y ∈ numB k x, 0 ≤ y ∧ y ≤ 255
  | 0, _, y, h => by simp [numB] at h
  | k + 1, x, y, h => by
    simp only [numB, List.mem_cons] at h
    rcases h with rfl | h
    · omega
    · exact numB_byte k x y h

/-- A form's bytes are bytes. -/
theorem form_byte : ∀ (n : Nat) (t : Tr n) (L B : Nat) (w : World) (sb sk : Value) (room : Int), Rep L B w n t sb sk → Rt n t room → room ≤ 65535 → ∀ x ∈ formOf n t, 0 ≤ x ∧ x ≤ 255
  | 0, t, _, _, _, _, _, _, _, _, _ => by cases t
  | n + 1, t, L, B, w, sb, sk, room, hr, ht, hroom => by
    obtain ⟨h0, h1, h2, h3⟩ := ht.facts
    obtain ⟨_, _, hby, hks⟩ := hr
    have hb : ∀ x ∈ bodyOf (n + 1) t, 0 ≤ x ∧ x ≤ 255 := by
      rcases h2 with h2 | h2 | h2
      · rw [bodyOf_1 h2]
        exact numB_byte _ _
      · rw [bodyOf_2 h2]
        obtain ⟨_, _, _, _, _, _, _, h, _⟩ := hby
        exact h
      · rw [bodyOf_kids h2]
        intro x hx
        obtain ⟨l, hl, hx⟩ := List.mem_flatten.1 hx
        obtain ⟨k, hk, rfl⟩ := List.mem_map.1 hl
        obtain ⟨r, hr0, hr1⟩ := h3 h2 k hk
        obtain ⟨j, hj⟩ := List.getElem?_of_mem hk
        obtain ⟨_, _, _, _, _, _, _, h7⟩ := hks
        obtain ⟨b, o, _, _, _, hc⟩ := h7 (by intro e; rw [e] at hj; simp at hj)
        obtain ⟨sb', sk', _, _, _, _, hrep⟩ := hc j k hj
        exact form_byte n k L B w sb' sk' r hrep hr1 (by omega) x hx
    intro x hx
    simp only [formOf, List.mem_cons] at hx
    rcases hx with rfl | rfl | rfl | hx
    · omega
    · omega
    · omega
    · exact hb x hx

set_option maxHeartbeats 1000000 in
set_option maxRecDepth 100000 in
theorem Put_yes {n : Nat} (t : Tr n) (sb sk : Value) (w : World) (h : Rep 0 w.heap.size w n t sb sk) (hz : szT n t ≠ 0) :
    Calls Tryz.prog 113 #[.agg #[.int .i64 t.hd.1, .int .u64 t.hd.2.1, sb, sk]] w fun e w' => ∃ v, e = .returned (.tuple #[v, .int .i64 0]) ∧ BySl w.heap.size w'.heap.size w' v (formOf n t) ∧ Below w.heap.size w w' := by
  obtain ⟨a1, l1, p1, a2, l2, p2, rfl, rfl⟩ := h.sl
  have H := hid h
  clear h
  have hok : (bsz n t 65535 8).2 = true := by
    unfold szT at hz
    split at hz
    · assumption
    · exact absurd rfl hz
  have hsz : szT n t = 3 + ((bodyOf n t).length : Int) := by rw [szT, if_pos hok, bsz_len _ _ _ _ hok]
  have hbd := bsz_fits _ _ _ _ hok
  rw [bsz_len _ _ _ _ hok] at hbd
  have HOK := hid hok
  have HSZ := hid hsz
  clear hz hok hsz
  obtain ⟨m, hm⟩ : ∃ m, (bodyOf n t).length = m := ⟨_, rfl⟩
  rw [hm] at hbd
  have HM := hid hm
  clear hm
  go_enter Tryz.func113, Tryz.ntmps113
  go_wp2_with fail
  refine (size_any t _ _ _ (H.out.agree ((Agree.refl _ _ _).alloc (Nat.le_refl _) _) (Nat.le_refl _) (by simp))).mono ?_
  rintro e w1 ⟨rfl, hb1⟩
  rw [HSZ.out, HM.out]
  have hb2 : Hid (Below w.heap.size w w1) := ((Below.refl _ _).alloc (Nat.le_refl _) _).trans (hb1.mono (by simp))
  have hbz : w.heap.size < w1.heap.size := by have := hb1.size; simp at this; omega
  obtain ⟨hc, hf⟩ := bcell hb1
  have b0 : w1.cell? ⟨w.heap.size, 0, none⟩ = some (.int .i64 t.hd.1) := by rw [hc _ _ (by simp)]; simp [go_sem]
  have b1 : w1.cell? ⟨w.heap.size, 1, none⟩ = some (.int .u64 t.hd.2.1) := by rw [hc _ _ (by simp)]; simp [go_sem]
  have b2 : w1.cell? ⟨w.heap.size, 2, none⟩ = some (.slice a1 l1 p1) := by rw [hc _ _ (by simp)]; simp [go_sem]
  have b3 : w1.cell? ⟨w.heap.size, 3, none⟩ = some (.slice a2 l2 p2) := by rw [hc _ _ (by simp)]; simp [go_sem]
  clear hb1 hc hf
  obtain ⟨i0, hi, hz0, hz1, hz2⟩ := info_parts Tryz.info5
  go_wp2_with (at_make; refine wpList_make_own _ rfl _ _ 54 rfl w1.heap.size 5 i0 (.int .u8 0) 1 Tryz.underlying54 hi hz0 hz1 .i64 .i64 _ (3 + m) rfl rfl (by omega) (by rw [hz2]; omega) (by unfold maxLen; omega) (Nat.le_refl _) ?_; intro w2 hown2 hgrow2; have k0 := hgrow2.cell b0 (by simp); have k1 := hgrow2.cell b1 (by simp); have k2 := hgrow2.cell b2 (by simp); have k3 := hgrow2.cell b3 (by simp); have hz3 := hgrow2.size; have HO2 := hid hown2; have HG2 := hid hgrow2; clear b0 b1 b2 b3 hown2 hgrow2; have hw2 : w.heap.size < w2.heap.size := by omega)
  have hrow : w1.heap.size < w2.heap.size := (HO2.out.lt _ rfl).2
  have hA : Agree 0 w.heap.size w (w2.alloc (Obj.cells #[Value.slice (some ⟨w1.heap.size, 0, none⟩) 0 (3 + m)] 255)) := ((Agree.below hb2.out).trans (fun k _ h2 => HG2.out.block k (by omega) (by simp))).alloc (by omega) _
  have hW : WInv w1.heap.size w2.heap.size [] (w2.alloc (Obj.cells #[Value.slice (some ⟨w1.heap.size, 0, none⟩) 0 (3 + m)] 255)) :=
    ⟨_, by simp, by simp, by omega, HO2.out.alloc _, by simp [Value.ownBlock]; omega⟩
  have hfl : (formOf n t).length = 3 + m := by rw [formOf, ← HM.out]; simp only [List.length_cons]; omega
  refine (put_any n t _ _ w1.heap.size w2.heap.size [] 65535 _ (Rep.agree (L' := 0) (B' := w1.heap.size) hA (Nat.le_refl _) (by omega) H.out) ⟨8, HOK.out⟩ (by omega) hW (by rw [hfl]; simp; omega)).mono ?_
  rintro e w3 ⟨rfl, hW3, hb3⟩
  have HW3 := hid hW3
  obtain ⟨v, c3, f3, _, hown3, _⟩ := hW3
  rw [List.nil_append] at hown3
  obtain ⟨av, cv, rfl⟩ := ownsRow_form hown3
  have HO3 := hid hown3
  have hbel : Hid (Below w.heap.size w w3) := ((hb2.out.grown HG2.out (by omega) (by intro k e; cases e)).alloc (by omega) _).trans (hb3.mono (by omega))
  have HFL := hid hfl
  clear hown3 hW hA hb3 hfl
  go_wp2_with fail
  go_ret2
  refine ⟨_, rfl, ?_, hbel.out⟩
  have K := BySl.own HO3.out (by rw [HFL.out]; omega) (form_byte n t _ _ _ _ _ 65535 H.out ⟨8, HOK.out⟩ (by omega))
  exact K.agree (Agree.refl _ _ _) (by omega) (Nat.le_refl _)

end Go.Proofs.YthmimipoooemjaaGreatDoor.Tlv
end

section
/-
  Plain mathematics: a right tree's form is read as that tree, whatever is behind it; and bytes that are read are the form of what they are read as.
-/
namespace Go.Proofs.YthmimipoooemjaaGreatDoor.Tlv

/-- Lists whose members are the same, one by one. -/
def sameL {α β : Type} (f : α → β → Bool) : List α → List β → Bool
  | [], [] => true
  | a :: xs, b :: ys => f a b && sameL f xs ys
  | _, _ => false

/-- Trees that are the same, however deep they may be. -/
def sameT : (n : Nat) → Tr n → (m : Nat) → Tr m → Bool
  | 0, t, _, _ => by cases t
  | _ + 1, _, 0, u => by cases u
  | n + 1, t, m + 1, u => decide (t.hd = u.hd) && sameL (fun a b => sameT n a m b) t.kd u.kd

theorem bsz_1 {n : Nat} (num : Int) (room deep : Int) (h0 : 0 ≤ room) : bsz (n + 1) (Tr.mk 1 num [] []) room deep = (nsz num, decide (nsz num ≤ room)) := by
  simp only [bsz]
  rw [if_neg (by simp only [not_or]; exact ⟨by omega, by simp [Tr.mk, Tr.hd, Tr.kd, oeB]⟩)]
  rfl

theorem bsz_2 {n : Nat} (bs : List Int) (room deep : Int) (h0 : 0 ≤ room) : bsz (n + 1) (Tr.mk 2 0 bs []) room deep = ((bs.length : Int), decide ((bs.length : Int) ≤ room)) := by
  simp only [bsz]
  rw [if_neg (by simp only [not_or]; exact ⟨by omega, by simp [Tr.mk, Tr.hd, Tr.kd, oeB]⟩)]
  rfl

theorem bsz_3 {n : Nat} (ks : List (Tr n)) (room deep : Int) (h0 : 0 ≤ room) : bsz (n + 1) (Tr.mk 3 0 [] ks) room deep = lsz (bsz n) ks room deep := by
  simp only [bsz]
  rw [if_neg (by simp only [not_or]; exact ⟨by omega, by simp [Tr.mk, Tr.hd, Tr.kd, oeB]⟩)]
  rfl

end Go.Proofs.YthmimipoooemjaaGreatDoor.Tlv
end

section
/-
  What Get of tlv answers.
-/
namespace Go.Proofs.YthmimipoooemjaaGreatDoor.Tlv
open Go.RowKit

/-- The tree that bytes are. -/
def getT (bs : List Int) : Option (Tr 9) := match rd 8 bs with
  | some (t, m) => if m = bs.length then some t else none
  | none => none

end Go.Proofs.YthmimipoooemjaaGreatDoor.Tlv
end

section
/-
  What forms and bytes have in common, as the statements of layers above need it.
-/
namespace Go.Proofs.YthmimipoooemjaaGreatDoor.Tlv
open Go.RowKit
theorem BySl.bytes {L B : Nat} {w : World} {v : Value} {bs : List Int} (h : BySl L B w v bs) : ∀ x ∈ bs, 0 ≤ x ∧ x ≤ 255 := by
  obtain ⟨_, _, _, _, _, _, _, h6, _⟩ := h
  exact h6

end Go.Proofs.YthmimipoooemjaaGreatDoor.Tlv
end

section
/-
  The check sum in plain mathematics: a register's step is linear, bytes by a table are bytes bit by bit, noughts are steps alone, a product with a power is that many steps, and no burst of up to 32 bits is lost.
-/
namespace Go.Proofs.YthmimipoooemjaaGreatDoor.Crc

/-- One bit on. -/
def stp (r : Nat) : Nat := if r % 2 = 1 then r / 2 ^^^ 2197175160 else r / 2
/-- k bits on. -/
def stps : Nat → Nat → Nat
  | 0, r => r
  | k + 1, r => stps k (stp r)
/-- The register behind one byte more. -/
def byt (r c : Nat) : Nat := stps 8 (r ^^^ c)
/-- The register behind bytes. -/
def reg (r : Nat) : List Nat → Nat
  | [] => r
  | c :: t => reg (byt r c) t
/-- All 32 bits turned. -/
def nt (r : Nat) : Nat := 4294967295 - r
/-- The sum of more bytes. -/
def more (s : Nat) (bs : List Nat) : Nat := nt (reg (nt s) bs)

theorem xor_half (a b : Nat) : (a ^^^ b) / 2 = a / 2 ^^^ b / 2 := by
  apply Nat.eq_of_testBit_eq
  intro i
  simp [Nat.testBit_div_two]
theorem xor_odd (a b : Nat) : (a ^^^ b) % 2 = (a % 2 + b % 2) % 2 := by
  have h := Nat.testBit_xor a b 0
  rw [Nat.testBit_zero, Nat.testBit_zero, Nat.testBit_zero] at h
  rcases Nat.mod_two_eq_zero_or_one a with ha | ha <;> rcases Nat.mod_two_eq_zero_or_one b with hb | hb <;> rcases Nat.mod_two_eq_zero_or_one (a ^^^ b) with hx | hx <;> rw [ha, hb, hx] at h <;> rw [ha, hb, hx] <;> revert h <;> decide

theorem stp_xor (a b : Nat) : stp (a ^^^ b) = stp a ^^^ stp b := by
  unfold stp
  rw [xor_odd, xor_half]
  rcases Nat.mod_two_eq_zero_or_one a with ha | ha <;> rcases Nat.mod_two_eq_zero_or_one b with hb | hb <;> simp [ha, hb]
  · rw [Nat.xor_assoc]
  · rw [Nat.xor_assoc, Nat.xor_assoc, Nat.xor_comm 2197175160]
  · rw [Nat.xor_assoc, Nat.xor_comm (b / 2), ← Nat.xor_assoc 2197175160]
    simp
theorem stps_xor : ∀ (k a b : Nat), stps k (a ^^^ b) = stps k a ^^^ stps k b
  | 0, _, _ => rfl
  | k + 1, a, b => by rw [stps, stp_xor, stps_xor k]; rfl
theorem stps_add : ∀ (j k r : Nat), stps (j + k) r = stps k (stps j r)
  | 0, k, r => by rw [Nat.zero_add]; rfl
  | j + 1, k, r => by rw [Nat.add_right_comm]; exact stps_add j k (stp r)
theorem stps_succ (k r : Nat) : stps (k + 1) r = stp (stps k r) := stps_add k 1 r
theorem stp_lt {r : Nat} (h : r < 4294967296) : stp r < 4294967296 := by
  unfold stp
  split
  · exact Nat.xor_lt_two_pow (n := 32) (by omega) (by decide)
  · omega
theorem stps_lt : ∀ (k : Nat) {r : Nat}, r < 4294967296 → stps k r < 4294967296
  | 0, _, h => h
  | k + 1, _, h => stps_lt k (stp_lt h)
theorem xor_lt32 {a b : Nat} (h : a < 4294967296) (k : b < 4294967296) : a ^^^ b < 4294967296 := Nat.xor_lt_two_pow (n := 32) h k
theorem byt_lt {r c : Nat} (h : r < 4294967296) (k : c < 256) : byt r c < 4294967296 := stps_lt 8 (xor_lt32 h (by omega))
theorem reg_lt : ∀ (bs : List Nat) {r : Nat}, (∀ x ∈ bs, x < 256) → r < 4294967296 → reg r bs < 4294967296
  | [], _, _, h => h
  | c :: t, _, hb, h => reg_lt t (fun x hx => hb x (.tail _ hx)) (byt_lt h (hb c (.head _)))
theorem nt_lt (r : Nat) : nt r < 4294967296 := by unfold nt; omega
theorem more_lt (s : Nat) (bs : List Nat) : more s bs < 4294967296 := nt_lt _
theorem reg_append : ∀ (a : List Nat) (r : Nat) (b : List Nat), reg r (a ++ b) = reg (reg r a) b
  | [], _, _ => rfl
  | c :: t, r, b => reg_append t (byt r c) b
theorem reg_snoc (r : Nat) (a : List Nat) (c : Nat) : reg r (a ++ [c]) = byt (reg r a) c := reg_append a r [c]
/-- Turned is the exclusive or with all 32 bits. -/
theorem nt_xor {r : Nat} (h : r < 4294967296) : nt r = 4294967295 ^^^ r := by
  have e : 4294967295 = 2 ^ 32 - 1 := rfl
  unfold nt
  apply Nat.eq_of_testBit_eq
  intro i
  have h1 : 4294967295 - r = 2 ^ 32 - (r + 1) := by omega
  rw [h1, Nat.testBit_two_pow_sub_succ h, Nat.testBit_xor, e, Nat.testBit_two_pow_sub_one]
  by_cases hi : i < 32
  · simp [hi]
  · have : r.testBit i = false := Nat.testBit_lt_two_pow (Nat.lt_of_lt_of_le h (Nat.pow_le_pow_right (n := 2) (i := 32) (j := i) (by decide) (by omega)))
    simp [hi, this]

theorem stp_even (r : Nat) : stp (2 * r) = r := by
  unfold stp
  rw [if_neg (by omega)]
  omega
theorem stps_pow : ∀ (k r : Nat), stps k (2 ^ k * r) = r
  | 0, r => by simp [stps]
  | k + 1, r => by rw [stps, Nat.pow_succ, Nat.mul_comm (2 ^ k), Nat.mul_assoc, stp_even]; exact stps_pow k r

theorem byte_split (r : Nat) : r = 256 * (r / 256) ^^^ r % 256 := by
  have h := Nat.two_pow_add_eq_or_of_lt (i := 8) (b := r % 256) (Nat.mod_lt _ (by decide)) (r / 256)
  have h2 : 2 ^ 8 * (r / 256) + r % 256 = r := Nat.div_add_mod r 256
  apply Nat.eq_of_testBit_eq
  intro i
  rw [h2] at h
  rw [Nat.testBit_xor]
  have e : r.testBit i = (2 ^ 8 * (r / 256) ||| r % 256).testBit i := by rw [← h]
  rw [e, Nat.testBit_or]
  have e1 : (2 ^ 8 * (r / 256)).testBit i = (decide (8 ≤ i) && (r / 256).testBit (i - 8)) := Nat.testBit_two_pow_mul
  have e2 : (r % 2 ^ 8).testBit i = (decide (i < 8) && r.testBit i) := Nat.testBit_mod_two_pow r 8 i
  have e1' : (256 * (r / 256)).testBit i = (decide (8 ≤ i) && (r / 256).testBit (i - 8)) := e1
  have e2' : (r % 256).testBit i = (decide (i < 8) && r.testBit i) := e2
  rw [e1, e2']
  by_cases hi : i < 8
  · simp [hi, show ¬ 8 ≤ i by omega]
  · simp [hi, show 8 ≤ i by omega]

/-- A byte by the table. -/
theorem byt_tab (r c : Nat) : byt r c = r / 256 ^^^ stps 8 (r % 256 ^^^ c) := by
  unfold byt
  have e : r ^^^ c = 256 * (r / 256) ^^^ (r % 256 ^^^ c) := by
    conv => lhs; rw [byte_split r]
    rw [Nat.xor_assoc]
  rw [e, stps_xor]
  have h : stps 8 (256 * (r / 256)) = r / 256 := stps_pow 8 (r / 256)
  rw [h]

end Go.Proofs.YthmimipoooemjaaGreatDoor.Crc
end

section
/-
  How a table and bytes lie in memory; what the parts of sync.Once and sync/atomic do, and step.
-/
namespace Go.Proofs.YthmimipoooemjaaGreatDoor.Crc
open Go.RowKit

theorem hid {p : Prop} (h : p) : Hid p := h

theorem disable (w : World) : (callFunc 275 #[]).run Tryz.prog w = .ok (.value (.tuple #[])) w := run_call_mark0 Tryz.func275 (by kernel_rfl) (by kernel_rfl) (by kernel_rfl) .disable (by kernel_rfl) w
theorem enable (w : World) : (callFunc 277 #[]).run Tryz.prog w = .ok (.value (.tuple #[])) w := run_call_mark0 Tryz.func277 (by kernel_rfl) (by kernel_rfl) (by kernel_rfl) .enable (by kernel_rfl) w
theorem acquire (a : Addr) (w : World) : (callFunc 278 #[.pointer (some a)]).run Tryz.prog w = .ok (.value (.tuple #[])) w := run_call_marked Tryz.func278 (by kernel_rfl) (by kernel_rfl) (by kernel_rfl) .acquire (by kernel_rfl) a w
theorem releaseMerge (a : Addr) (w : World) : (callFunc 280 #[.pointer (some a)]).run Tryz.prog w = .ok (.value (.tuple #[])) w := run_call_marked Tryz.func280 (by kernel_rfl) (by kernel_rfl) (by kernel_rfl) .releaseMerge (by kernel_rfl) a w

set_option maxRecDepth 100000 in
/-- The flag is stored, by a deferred call. -/
theorem store_deferred (a : Addr) (x : Value) (u : FrameMode) (w : World) (hc : w.cell? a = some x) (hz : w.frozen? a = false) :
    CallsD Tryz.prog 270 #[.pointer (some a), .bool true] u w fun e u' w' => u' = u ∧ (e = .returned (.tuple #[]) ∧ w' = w.drew.setCell a (.int .u32 1)) := by
  have hc' : w.drew.cell? a = some x := by go_simp
  have hz' : w.drew.frozen? a = false := by go_simp
  have hst := run_call_store (P := Tryz.prog) Tryz.func273 (by kernel_rfl) (by kernel_rfl) (by kernel_rfl) (by kernel_rfl) (k := .u32) (y := 1) hc' hz'
  go_enter_d Tryz.func270, Tryz.ntmps270
  go_wp2
  go_region_calls
  all_goals (go_end0; exact ⟨rfl, rfl⟩)

set_option maxRecDepth 100000 in
/-- The lock is let go, by a deferred call. -/
theorem unlock_deferred (a : Addr) (u : FrameMode) (w : World) (hc : w.cell? a = some (.int .i32 1)) (hz : w.frozen? a = false) :
    CallsD Tryz.prog 269 #[.pointer (some a)] u w fun e u' w' => u' = u ∧ (e = .returned (.tuple #[]) ∧ w' = w.setCell a (.int .i32 0)) := by
  have hd := disable
  have he := enable
  have hr := releaseMerge
  have hadd := run_call_add (P := Tryz.prog) Tryz.func281 (by kernel_rfl) (by kernel_rfl) (by kernel_rfl) .i32 (by kernel_rfl) (y := -1) (s := 0) hc hz (by simp [go_sem]; rfl)
  have hcv := run_convert_to_unsafe (P := Tryz.prog) (src := 368) (dst := 372) Tryz.underlying368 Tryz.underlying372 (by kernel_rfl) hc
  go_enter_d Tryz.func269, Tryz.ntmps269
  go_wp2
  go_end0
  go_wp2
  go_end0
  exact ⟨rfl, rfl⟩

set_option maxRecDepth 100000 in
/-- The lock, free, is taken. -/
theorem lock_free (a : Addr) (w : World) (hc : w.cell? a = some (.int .i32 0)) (hz : w.frozen? a = false) :
    Calls Tryz.prog 268 #[.pointer (some a)] w fun e w' => e = .returned (.tuple #[]) ∧ w' = w.setCell a (.int .i32 1) := by
  have hd := disable
  have he := enable
  have ha := acquire
  have hcas := run_call_cas_hit (P := Tryz.prog) Tryz.func276 (by kernel_rfl) (by kernel_rfl) (by kernel_rfl) .i32 (by kernel_rfl) (y := 1) hc hz
  have hc' : (w.setCell a (.int .i32 1)).cell? a = some (.int .i32 1) := World.cell?_setCell_same w a _ hc
  have hcv := run_convert_to_unsafe (P := Tryz.prog) (src := 368) (dst := 372) Tryz.underlying368 Tryz.underlying372 (by kernel_rfl) hc'
  go_enter Tryz.func268, Tryz.ntmps268
  go_wp2
  first | go_end0 | (simp only [Exit.inBlock, Exit.then]; refine bodyPost_ret (results_none rfl _ _ _) rfl ?_) | refine bodyPost_ret (results_none rfl _ _ _) rfl ?_
  go_wp2
  go_end0
  exact ⟨rfl, rfl⟩

theorem and_one (r : Nat) (hr : r < 4294967296) : bits .and .u32 (r : Int) 1 = ((r % 2 : Nat) : Int) := by
  have h := u32_and_nat r 1 hr (by decide)
  rw [Nat.and_one_is_mod] at h
  exact h
theorem xor_div (r : Nat) (hr : r < 4294967296) : bits .xor .u32 ((r : Int) / 2) 2197175160 = ((r / 2 ^^^ 2197175160 : Nat) : Int) := by
  have h := u32_xor_nat (r / 2) 2197175160 (by omega) (by decide)
  rw [← h]
  rfl

/-- step. -/
theorem step_any (r : Nat) (hr : r < 4294967296) (w : World) :
    Calls Tryz.prog 260 #[.int .u32 r] w fun e w' => e = .returned (.int .u32 (stp r : Nat)) ∧ w' = w := by
  have h1 := and_one r hr
  have h2 := xor_div r hr
  by_cases h : r % 2 = 1
  · have hb : (bits .and .u32 (r : Int) 1 != 0) = true := by rw [h1, h]; rfl
    clear h1
    go_enter Tryz.func260, Tryz.ntmps260
    go_wp2
    go_ret
    refine ⟨?_, rfl⟩
    rw [stp, if_pos h]
    rfl
  · have hb : (bits .and .u32 (r : Int) 1 != 0) = false := by rw [h1, show r % 2 = 0 by omega]; rfl
    clear h1 h2
    go_enter Tryz.func260, Tryz.ntmps260
    go_wp2
    go_ret
    refine ⟨?_, rfl⟩
    rw [stp, if_neg h]
    rfl

/-- '(*sync.Once).Do', done already. -/
theorem do_done (a : Addr) (fv : Value) (w : World) (h0 : w.cell? a = some (.int .u32 1)) :
    Calls Tryz.prog 240 #[.pointer (some a), fv] w fun e w' => e = .returned (.tuple #[]) ∧ w' = w := by
  have hl := run_call_load (P := Tryz.prog) Tryz.func267 (by kernel_rfl) (by kernel_rfl) (by kernel_rfl) .u32 (by kernel_rfl) h0
  have hnot : ∀ (x : Bool) (w : World), (Op.unary .not (.bool x)).run Tryz.prog w = .ok (.bool (!x)) w := fun _ _ => rfl
  have hd' : ((1 : Int) != 0) = true := by decide
  go_enter Tryz.func240, Tryz.ntmps240
  go_wp2
  go_end0
  exact ⟨rfl, rfl⟩

/-- All blocks but b hold what they held. -/
structure Kept (b : Nat) (w w' : World) : Prop where
  os : w'.os = w.os
  tape : w'.tape = w.tape
  output : w'.output = w.output
  size : w.heap.size ≤ w'.heap.size
  block : ∀ k, k < w.heap.size → k ≠ b → w'.heap[k]? = w.heap[k]?

theorem Kept.refl (b : Nat) (w : World) : Kept b w w := ⟨rfl, rfl, rfl, Nat.le_refl _, fun _ _ _ => rfl⟩
theorem Kept.trans {b : Nat} {u v w : World} (h : Kept b u v) (k : Kept b v w) : Kept b u w := ⟨k.os.trans h.os, k.tape.trans h.tape, k.output.trans h.output, Nat.le_trans h.size k.size, fun i h1 h2 => (k.block i (Nat.lt_of_lt_of_le h1 h.size) h2).trans (h.block i h1 h2)⟩
theorem Kept.below {b : Nat} {u w : World} (h : Below u.heap.size u w) : Kept b u w := ⟨h.os, h.tape, h.output, h.size, fun k hk _ => h.block k hk⟩
theorem Kept.alloc {b : Nat} {u w : World} (h : Kept b u w) (o : Obj) : Kept b u (w.alloc o) := h.trans (Kept.below ((Below.refl _ _).alloc (Nat.le_refl _) _))
theorem Kept.setCell {b : Nat} {u w : World} (h : Kept b u w) {p : Addr} (hp : p.block = b) (x : Value) : Kept b u (w.setCell p x) := h.trans ⟨rfl, rfl, rfl, by simp, fun k _ hk => Below.heap_setCell _ _ _ _ (by omega)⟩
theorem Kept.drew {b : Nat} {u w : World} (h : Kept b u w) : Kept b u w.drew := ⟨h.os, h.tape, h.output, h.size, h.block⟩
theorem Kept.cell {b : Nat} {w w' : World} (h : Kept b w w') {p : Addr} (h1 : p.block < w.heap.size) (h2 : p.block ≠ b) : w'.cell? p = w.cell? p := World.cell?_of_block (w := w) (h.block p.block h1 h2)
theorem Kept.frozen {b : Nat} {w w' : World} (h : Kept b w w') {p : Addr} (h1 : p.block < w.heap.size) (h2 : p.block ≠ b) : w'.frozen? p = w.frozen? p := World.frozen?_of_block (w := w) (h.block p.block h1 h2)
/-- A block that was not there yet. -/
theorem Kept.toBelow {b : Nat} {u v w : World} (h : Below u.heap.size u v) (k : Kept b v w) (hb : u.heap.size ≤ b) : Below u.heap.size u w :=
  h.trans ⟨k.os, k.tape, k.output, k.size, fun i hi => k.block i (Nat.lt_of_lt_of_le hi h.size) (by omega)⟩

/-- The rows of a table up to i are filled. -/
def Filled (b : Nat) (w wr : World) (i : Nat) : Prop :=
  Kept b w wr ∧ wr.heap.size = w.heap.size ∧ (∀ j, j < i → wr.cell? ⟨b, 3 + j, none⟩ = some (.int .u32 (stps 8 j : Nat))) ∧ (∀ j, j < 3 ∨ 3 + i ≤ j → wr.cell? ⟨b, j, none⟩ = w.cell? ⟨b, j, none⟩) ∧
    ∀ j, wr.frozen? ⟨b, j, none⟩ = w.frozen? ⟨b, j, none⟩

theorem Filled.next {b i : Nat} {w wr : World} (h : Filled b w wr i) (x : Value) (hx : w.cell? ⟨b, 3 + i, none⟩ = some x) : Filled b w (wr.setCell ⟨b, 3 + i, none⟩ (.int .u32 (stps 8 i : Nat))) (i + 1) := by
  obtain ⟨h1, h2, h3, h4, h5⟩ := h
  refine ⟨h1.setCell rfl _, by simpa using h2, fun j hj => ?_, fun j hj => ?_, fun j => by simpa using h5 j⟩
  · by_cases e : j = i
    · subst e
      exact World.cell?_setCell_same _ _ _ ((h4 _ (.inr (Nat.le_refl _))).trans hx)
    · rw [World.cell?_setCell_other _ _ _ _ (by simp only [ne_eq, Addr.mk.injEq, true_and, and_true]; omega)]
      exact h3 j (by omega)
  · rw [World.cell?_setCell_other _ _ _ _ (by simp only [ne_eq, Addr.mk.injEq, true_and, and_true]; omega)]
    exact h4 j (by omega)

set_option maxHeartbeats 1000000 in
set_option maxRecDepth 100000 in
theorem fill_any (b : Nat) (w : World) (hc : ∀ j, j < 256 → ∃ x, w.cell? ⟨b, 3 + j, none⟩ = some x) (hf : ∀ j, w.frozen? ⟨b, j, none⟩ = false) :
    Calls Tryz.prog 241 #[.pointer (some ⟨b, 0, none⟩)] w fun e w' => e = .returned (.tuple #[]) ∧ Filled b w w' 256 := by
  have HC := hid hc
  have HF := hid hf
  clear hc hf
  go_enter Tryz.func241, Tryz.ntmps241
  go_wp2
  go_loopw [4] (fun i wr => ∃ k : Nat, k ≤ 256 ∧ i = .int .i64 k ∧ Hid (Filled b w wr k)) (fun i _ => 256 - (intOf i).toNat)
  case atStart => exact ⟨0, by omega, rfl, Kept.refl _ _, rfl, by omega, fun _ _ => rfl, fun _ => rfl⟩
  case round =>
    obtain ⟨k, hk, rfl, H⟩ := hrel
    by_cases hlt : k < 256
    · obtain ⟨x, hx⟩ := HC.out k hlt
      have c1 := (H.out.2.2.2.1 (3 + k) (.inr (Nat.le_refl _))).trans hx
      have f1 := (H.out.2.2.2.2 (3 + k)).trans (HF.out _)
      have hlt1 : (k : Int) < 256 := by omega
      go_wp2
      go_loopw [3, 9] (fun r i w2 => ∃ m : Nat, m ≤ 8 ∧ i = .int .i64 m ∧ r = .int .u32 (stps m k : Nat) ∧ w2 = wr) (fun _ i _ => 8 - (intOf i).toNat)
      case atStart => exact ⟨0, by omega, rfl, rfl, rfl⟩
      case round =>
        obtain ⟨m, hm, rfl, rfl, hw2⟩ := hrel
        subst hw2
        by_cases hlt8 : m < 8
        · have hl := stps_lt m (r := k) (by omega)
          have e := stps_succ m k
          generalize stps m k = r at *
          go_wp2_with (go_at_call 260; refine (step_any _ hl _).mono ?_; rintro e w2 ⟨rfl, h2⟩; subst w2)
          go_roundw
          case rel => exact ⟨m + 1, by omega, by go_num, by rw [e], trivial⟩
          case measure => simp [intOf]; omega
        · have : m = 8 := by omega
          subst this
          go_wp2
          go_roundw
          case rel => exact ⟨k + 1, by omega, by go_num, H.out.next x hx⟩
          case measure => simp [intOf]; omega
    · have : k = 256 := by omega
      subst this
      go_wp2
      go_end0
      exact ⟨rfl, H.out⟩

end Go.Proofs.YthmimipoooemjaaGreatDoor.Crc
end

section
/-
  A table in memory; what Do, More and Sum of it do.
-/
namespace Go.Proofs.YthmimipoooemjaaGreatDoor.Crc
open Go.RowKit

/-- A table lies at b: f says whether its rows are filled, n how many bytes it has gone through. -/
def Tab (w : World) (b f : Nat) (n : Int) : Prop :=
  b < w.heap.size ∧ w.cell? ⟨b, 0, none⟩ = some (.int .u32 f) ∧ w.cell? ⟨b, 1, none⟩ = some (.int .i32 0) ∧ w.cell? ⟨b, 259, none⟩ = some (.int .i64 n) ∧ (∀ j, j < 256 → ∃ x, w.cell? ⟨b, 3 + j, none⟩ = some x) ∧
    (f = 1 → ∀ j, j < 256 → w.cell? ⟨b, 3 + j, none⟩ = some (.int .u32 (stps 8 j : Nat))) ∧ ∀ j, w.frozen? ⟨b, j, none⟩ = false

set_option maxHeartbeats 1600000 in
set_option maxRecDepth 100000 in
theorem slow_any (b : Nat) (n : Int) (w : World) (h : Tab w b 0 n) :
    Calls Tryz.prog 259 #[.pointer (some ⟨b, 0, none⟩), .func (.func 241) #[.pointer (some ⟨b, 0, none⟩)] #[]] w fun e w' => e = .returned (.tuple #[]) ∧ Kept b w w' ∧ Tab w' b 1 n := by
  obtain ⟨hb, h0, h1, h259, hr, -, hf⟩ := h
  have f0 := hf 0
  have f1 := hf 1
  have HR := hid hr
  have HF := hid hf
  clear hr hf
  have hl := run_call_load (P := Tryz.prog) Tryz.func267 (by kernel_rfl) (by kernel_rfl) (by kernel_rfl) .u32 (by kernel_rfl) (w := w.setCell ⟨b, 1, none⟩ (.int .i32 1)) (a := ⟨b, 0, none⟩) (x := 0) ((World.cell?_setCell_other _ ⟨b, 1, none⟩ ⟨b, 0, none⟩ _ (by simp)).trans h0)
  have hnot : ∀ (x : Bool) (w : World), (Op.unary .not (.bool x)).run Tryz.prog w = .ok (.bool (!x)) w := fun _ _ => rfl
  go_enter_defers Tryz.func259, Tryz.ntmps259
  go_wp2_with (first | (go_at_call 268; refine (lock_free ⟨b, 1, none⟩ _ (by go_simp) (by go_simp)).mono ?_; rintro e w' ⟨rfl, rfl⟩) | (go_at_call 258; go_in))
  refine (fill_any b _ (fun j hj => ?_) (fun j => by simpa using HF.out j)).mono ?_
  · obtain ⟨x, hx⟩ := HR.out j hj
    exact ⟨x, (World.cell?_setCell_other _ _ _ _ (by simp only [ne_eq, Addr.mk.injEq, true_and, and_true]; omega)).trans hx⟩
  rintro e w2 ⟨rfl, K, hs, hrows, hcells, hfz⟩
  go_wp2
  -- the door: two deferred calls, the last laid first
  have hw1 : Kept b w (w.setCell ⟨b, 1, none⟩ (.int .i32 1)) := (Kept.refl b w).setCell (p := ⟨b, 1, none⟩) rfl _
  have d0 : w2.cell? ⟨b, 0, none⟩ = some (.int .u32 0) := (hcells 0 (by omega)).trans ((World.cell?_setCell_other _ ⟨b, 1, none⟩ ⟨b, 0, none⟩ _ (by simp)).trans h0)
  have d1 : w2.cell? ⟨b, 1, none⟩ = some (.int .i32 1) := (hcells 1 (by omega)).trans (World.cell?_setCell_same _ _ _ h1)
  have d259 : w2.cell? ⟨b, 259, none⟩ = some (.int .i64 n) := (hcells 259 (by omega)).trans ((World.cell?_setCell_other _ ⟨b, 1, none⟩ ⟨b, 259, none⟩ _ (by simp)).trans h259)
  have g : ∀ j, w2.frozen? ⟨b, j, none⟩ = false := fun j => by rw [hfz j]; simpa using HF.out j
  refine leaves_cons (f := 270) (args := #[.pointer (some ⟨b, 0, none⟩), .bool true]) (by simp) (by simp [go_sem]) ?_
  refine (store_deferred ⟨b, 0, none⟩ (.int .u32 0) .returning _ d0 (g 0)).mono ?_
  rintro e u' w3 ⟨rfl, rfl, rfl⟩
  refine leaves_cons (f := 269) (args := #[.pointer (some ⟨b, 1, none⟩)]) (by simp [settle]) (by simp [go_sem]) ?_
  refine (unlock_deferred ⟨b, 1, none⟩ _ _ ?_ (by simpa using g 1)).mono ?_
  · refine (World.cell?_setCell_other _ ⟨b, 0, none⟩ ⟨b, 1, none⟩ _ (by simp)).trans ?_
    rw [World.cell?_drew]
    exact d1
  rintro e u' w3 ⟨rfl, rfl, rfl⟩
  have hk : Kept b w ((w2.drew.setCell ⟨b, 0, none⟩ (.int .u32 1)).setCell ⟨b, 1, none⟩ (.int .i32 0)) := ((hw1.trans K).drew.setCell (p := ⟨b, 0, none⟩) rfl _).setCell (p := ⟨b, 1, none⟩) rfl _
  have c1 : (w2.drew.setCell ⟨b, 0, none⟩ (.int .u32 1)).cell? ⟨b, 1, none⟩ = some (.int .i32 1) := (World.cell?_setCell_other _ ⟨b, 0, none⟩ ⟨b, 1, none⟩ _ (by simp)).trans (by rw [World.cell?_drew]; exact d1)
  have ho : ∀ j, 1 < j → ((w2.drew.setCell ⟨b, 0, none⟩ (.int .u32 1)).setCell ⟨b, 1, none⟩ (.int .i32 0)).cell? ⟨b, j, none⟩ = w2.cell? ⟨b, j, none⟩ := fun j hj => by
    rw [World.cell?_setCell_other _ ⟨b, 1, none⟩ ⟨b, j, none⟩ _ (by simp only [ne_eq, Addr.mk.injEq, true_and, and_true]; omega), World.cell?_setCell_other _ ⟨b, 0, none⟩ ⟨b, j, none⟩ _ (by simp only [ne_eq, Addr.mk.injEq, true_and, and_true]; omega), World.cell?_drew]
  have ht : Tab ((w2.drew.setCell ⟨b, 0, none⟩ (.int .u32 1)).setCell ⟨b, 1, none⟩ (.int .i32 0)) b 1 n := by
    refine ⟨by have := hs; simp at this; simp; omega, ?_, ?_, ?_, ?_, ?_, ?_⟩
    · rw [World.cell?_setCell_other _ ⟨b, 1, none⟩ ⟨b, 0, none⟩ _ (by simp)]
      exact World.cell?_setCell_same _ _ _ (by rw [World.cell?_drew]; exact d0)
    · exact World.cell?_setCell_same _ _ _ c1
    · rw [ho 259 (by omega)]; exact d259
    · intro j hj
      exact ⟨_, (ho (3 + j) (by omega)).trans (hrows j hj)⟩
    · intro _ j hj
      exact (ho (3 + j) (by omega)).trans (hrows j hj)
    · intro j
      simpa using g j
  exact ⟨_, results_none rfl _ _ _, rfl, hk, ht⟩

/-- '(*sync.Once).Do' of a table. -/
theorem do_any (b f : Nat) (n : Int) (w : World) (hf : f = 0 ∨ f = 1) (h : Tab w b f n) :
    Calls Tryz.prog 240 #[.pointer (some ⟨b, 0, none⟩), .func (.func 241) #[.pointer (some ⟨b, 0, none⟩)] #[]] w fun e w' => e = .returned (.tuple #[]) ∧ Kept b w w' ∧ Tab w' b 1 n := by
  rcases hf with rfl | rfl
  · have h0 := h.2.1
    have hl := run_call_load (P := Tryz.prog) Tryz.func267 (by kernel_rfl) (by kernel_rfl) (by kernel_rfl) .u32 (by kernel_rfl) h0
    have hnot : ∀ (x : Bool) (w : World), (Op.unary .not (.bool x)).run Tryz.prog w = .ok (.bool (!x)) w := fun _ _ => rfl
    have H := hid h
    clear h
    go_enter Tryz.func240, Tryz.ntmps240
    go_wp2_with (first | (go_at_call 259; refine (slow_any b n _ H.out).mono ?_; rintro e w' ⟨rfl, hk, ht⟩) | (go_at_call 258; go_in))
    go_end0
    exact ⟨rfl, hk, ht⟩
  · refine (do_done ⟨b, 0, none⟩ _ w h.2.1).mono ?_
    rintro e w' ⟨rfl, rfl⟩
    exact ⟨rfl, Kept.refl _ _, h⟩

/-- v is a slice of the bytes bs, in blocks other than b. -/
def BySl (b : Nat) (w : World) (v : Value) (bs : List Nat) : Prop :=
  ∃ a cap, v = .slice a bs.length cap ∧ bs.length ≤ cap ∧ cap ≤ maxLen ∧ (a = none → bs = [] ∧ cap = 0) ∧ bs.length ≤ 140737488355328 ∧ (∀ x ∈ bs, x < 256) ∧
    (bs ≠ [] → ∃ g o, a = some ⟨g, o, none⟩ ∧ g ≠ b ∧ g < w.heap.size ∧ ∀ i, i < bs.length → w.cell? ⟨g, o + i, none⟩ = some (.int .u8 (bs.getD i 0 : Nat)))

theorem BySl.kept {b : Nat} {w w' : World} {v : Value} {bs : List Nat} (h : BySl b w v bs) (k : Kept b w w') : BySl b w' v bs := by
  obtain ⟨a, cap, h1, h2, h3, h4, h5, h6, h7⟩ := h
  refine ⟨a, cap, h1, h2, h3, h4, h5, h6, fun hne => ?_⟩
  obtain ⟨g, o, e, hgb, hg, hc⟩ := h7 hne
  exact ⟨g, o, e, hgb, Nat.lt_of_lt_of_le hg k.size, fun i hi => (k.cell (p := ⟨g, o + i, none⟩) hg hgb).trans (hc i hi)⟩

theorem BySl.none (b : Nat) (w : World) : BySl b w (.slice none 0 0) [] := ⟨_, 0, rfl, Nat.le_refl _, Nat.zero_le _, fun _ => ⟨rfl, rfl⟩, by simp, by simp, fun h => absurd rfl h⟩

theorem not_u32 (s : Nat) (hs : s < 4294967296) : bits .xor .u32 IntKind.u32.max (s : Int) = ((nt s : Nat) : Int) := by
  have h := u32_xor_nat 4294967295 s (by decide) hs
  rw [nt_xor hs]
  exact h

/-- The bytes are counted. -/
theorem add_any (a : Addr) (n d : Int) (w : World) (hc : w.cell? a = some (.int .i64 n)) (hz : w.frozen? a = false) :
    Calls Tryz.prog 172 #[.pointer (some a), .int .i64 d] w fun e w' => e = .returned (.int .i64 (wrap64 (n + d))) ∧ w' = w.setCell a (.int .i64 (wrap64 (n + d))) := by
  have hadd := run_call_add (P := Tryz.prog) Tryz.func211 (by kernel_rfl) (by kernel_rfl) (by kernel_rfl) .i64 (by kernel_rfl) (y := d) (s := wrap64 (n + d)) hc hz (by simp [go_sem, wrap64, IntKind.wrap_i64])
  go_enter Tryz.func172, Tryz.ntmps172
  go_wp2
  go_ret
  exact ⟨rfl, rfl⟩

theorem Tab.add {b f : Nat} {n : Int} {w : World} (h : Tab w b f n) (m : Int) : Tab (w.setCell ⟨b, 259, none⟩ (.int .i64 m)) b f m := by
  obtain ⟨h1, h2, h3, h4, h5, h6, h7⟩ := h
  have ho : ∀ j, j ≠ 259 → (w.setCell ⟨b, 259, none⟩ (.int .i64 m)).cell? ⟨b, j, none⟩ = w.cell? ⟨b, j, none⟩ := fun j hj => World.cell?_setCell_other _ _ _ _ (by simp only [ne_eq, Addr.mk.injEq, true_and, and_true]; omega)
  refine ⟨by simpa using h1, (ho 0 (by omega)).trans h2, (ho 1 (by omega)).trans h3, World.cell?_setCell_same _ _ _ h4, fun j hj => ?_, fun e j hj => (ho _ (by omega)).trans (h6 e j hj), fun j => by simpa using h7 j⟩
  obtain ⟨x, hx⟩ := h5 j hj
  exact ⟨x, (ho _ (by omega)).trans hx⟩

theorem Tab.kept {b f g : Nat} {n : Int} {w w' : World} (h : Tab w b f n) (k : Kept g w w') (hg : b ≠ g) : Tab w' b f n := by
  obtain ⟨h1, h2, h3, h4, h5, h6, h7⟩ := h
  have ho : ∀ j, w'.cell? ⟨b, j, none⟩ = w.cell? ⟨b, j, none⟩ := fun j => k.cell (p := ⟨b, j, none⟩) h1 hg
  refine ⟨Nat.lt_of_lt_of_le h1 k.size, (ho 0).trans h2, (ho 1).trans h3, (ho _).trans h4, fun j hj => ?_, fun e j hj => (ho _).trans (h6 e j hj), fun j => (k.frozen (p := ⟨b, j, none⟩) h1 hg).trans (h7 j)⟩
  obtain ⟨x, hx⟩ := h5 j hj
  exact ⟨x, (ho _).trans hx⟩
theorem Tab.below {b f : Nat} {n : Int} {w w' : World} (h : Tab w b f n) (k : Below w.heap.size w w') : Tab w' b f n := h.kept (Kept.below (b := b + 1) k) (by omega)

theorem tab_step (r c : Nat) (hr : r < 4294967296) (hc : c < 256) : bits .xor .u32 ((r : Int) / 256) ((stps 8 (r % 256 ^^^ c) : Nat) : Int) = ((byt r c : Nat) : Int) := by
  have h := u32_xor_nat (r / 256) (stps 8 (r % 256 ^^^ c)) (by omega) (stps_lt 8 (Nat.lt_trans (Nat.xor_lt_two_pow (n := 8) (Nat.mod_lt _ (by decide)) hc) (by decide)))
  rw [byt_tab, ← h]
  rfl

set_option maxHeartbeats 1600000 in
set_option maxRecDepth 100000 in
theorem more_any (b f : Nat) (n : Int) (s : Nat) (hs : s < 4294967296) (v : Value) (bs : List Nat) (w : World) (hf : f = 0 ∨ f = 1) (ht : Tab w b f n) (hv : BySl b w v bs) :
    Calls Tryz.prog 207 #[.pointer (some ⟨b, 0, none⟩), .int .u32 s, v] w fun e w' => e = .returned (.int .u32 (more s bs : Nat)) ∧ Kept b w w' ∧ Tab w' b 1 (wrap64 (n + bs.length)) := by
  obtain ⟨a, cap, rfl, hr⟩ := id hv
  clear hr
  have H := hid hv
  have T := hid ht
  clear hv ht
  have hmf : ∀ (fn : Fn) (first cap : Array Value) (w : World), (Instr.makeFunc fn first cap).run Tryz.prog w = .ok (.func fn first cap) w := fun _ _ _ _ => rfl
  have hsg : IntKind.u32.signed = false := rfl
  have hn := not_u32 s hs
  go_enter Tryz.func207, Tryz.ntmps207
  go_wp2_with (go_at_call 240; refine (do_any b f n _ hf T.out).mono ?_; rintro e w1 ⟨rfl, hk, ht⟩)
  refine (add_any ⟨b, 259, none⟩ n _ _ ht.2.2.2.1 (ht.2.2.2.2.2.2 _)).mono ?_
  rintro e w2 ⟨rfl, rfl⟩
  have ht2 := hid (ht.add (wrap64 (n + bs.length)))
  have hk2 : Hid (Kept b w (w1.setCell ⟨b, 259, none⟩ (.int .i64 (wrap64 (n + bs.length))))) := hk.setCell (p := ⟨b, 259, none⟩) rfl _
  clear hk ht
  generalize w1.setCell ⟨b, 259, none⟩ (.int .i64 (wrap64 (n + bs.length))) = W at *
  have HW := hid (H.out.kept hk2.out)
  go_wp2
  have HT := hid (ht2.out.2.2.2.2.2.1 rfl)
  obtain ⟨a', cap', e', h2, h3, h4, h5, h6, h7⟩ := HW.out
  cases e'
  have H6 := hid h6
  have H7 := hid h7
  clear h6 h7 h4 hn
  go_loopw [7, 28] (fun r i wr => ∃ k : Nat, k ≤ bs.length ∧ i = .int .i64 k ∧ r = .int .u32 (reg (nt s) (bs.take k) : Nat) ∧ wr = W) (fun _ i _ => bs.length - (intOf i).toNat)
  case atStart => exact ⟨0, Nat.zero_le _, rfl, rfl, rfl⟩
  case round =>
    obtain ⟨k, hk, rfl, rfl, hwr⟩ := hrel
    subst wr
    by_cases hlt : k < bs.length
    · obtain ⟨g, o, rfl, _, _, hc⟩ := H7.out (by intro e; subst e; simp at hlt)
      have c1 := hc k hlt
      clear hc
      have hx : bs.getD k 0 < 256 := by
        have := H6.out (bs[k]) (List.getElem_mem hlt)
        simpa [List.getElem?_eq_getElem hlt] using this
      have hsn : Hid (reg (nt s) (bs.take (k + 1)) = byt (reg (nt s) (bs.take k)) (bs.getD k 0)) := by
        rw [Hid, List.take_succ_eq_append_getElem hlt, reg_snoc]
        simp [List.getElem?_eq_getElem hlt]
      have hr := reg_lt (bs.take k) (r := nt s) (fun x hx => H6.out x (List.mem_of_mem_take hx)) (nt_lt s)
      generalize bs.getD k 0 = c at *
      generalize reg (nt s) (bs.take k) = r at *
      have hj : r % 256 ^^^ c < 256 := Nat.xor_lt_two_pow (n := 8) (Nat.mod_lt _ (by decide)) hx
      have c2 := HT.out (r % 256 ^^^ c) hj
      have hst := tab_step r c hr hx
      have hx8 : bits .xor .u8 ((r : Int) % 256) (c : Int) = ((r % 256 ^^^ c : Nat) : Int) := u8_xor_nat (r % 256) c (by omega) hx
      generalize r % 256 ^^^ c = j at *
      have hj2 : 0 ≤ (j : Int) ∧ (j : Int) < 256 := by omega
      generalize stps 8 j = y at *
      generalize byt r c = z at *
      go_wp2
      go_roundw
      case rel => exact ⟨k + 1, by omega, by go_num, by rw [hsn.out], by first | rfl | trivial⟩
      case measure => simp [intOf]; omega
    · have e : bs.take k = bs := List.take_of_length_le (by omega)
      rw [e]
      have hl := reg_lt bs (r := nt s) H6.out (nt_lt s)
      have hn := not_u32 _ hl
      go_wp2
      go_ret
      exact ⟨rfl, hk2.out, ht2.out⟩

set_option maxHeartbeats 400000 in
theorem sum_any (b f : Nat) (n : Int) (v : Value) (bs : List Nat) (w : World) (hf : f = 0 ∨ f = 1) (ht : Tab w b f n) (hv : BySl b w v bs) :
    Calls Tryz.prog 164 #[.pointer (some ⟨b, 0, none⟩), v] w fun e w' => e = .returned (.int .u32 (more 0 bs : Nat)) ∧ Kept b w w' ∧ Tab w' b 1 (wrap64 (n + bs.length)) := by
  obtain ⟨a, cap, rfl, hr⟩ := id hv
  clear hr
  have H := hid hv
  have T := hid ht
  clear hv ht
  go_enter Tryz.func164, Tryz.ntmps164
  go_wp2_with (go_at_call 207; refine (more_any b f n 0 (by decide) _ bs _ hf T.out H.out).mono ?_; rintro e w1 ⟨rfl, hk, ht⟩)
  go_ret
  exact ⟨rfl, hk, ht⟩

end Go.Proofs.YthmimipoooemjaaGreatDoor.Crc
end

section
/-
  A new table; the chapter's example; whether bytes are the same; how many were counted.
-/
namespace Go.Proofs.YthmimipoooemjaaGreatDoor.Crc
open Go.RowKit

def Z61 : Array Value := #[.int .u32 0, .int .i32 0, .int .u32 0] ++ (Array.replicate 256 (.int .u32 0) ++ #[.int .i64 0])
theorem zero61 (w : World) : (zeroValue 125).run Tryz.prog w = .ok (.agg Z61) w := by kernel_rfl
theorem Z61_at (j : Nat) (h : j < 256) : Z61[3 + j]? = some (.int .u32 0) := by
  rw [Z61, Array.getElem?_append_right (by simp), Array.getElem?_append_left (by simp; omega)]
  simp [h]

set_option maxHeartbeats 400000 in
set_option maxRecDepth 100000 in
theorem new_any (w : World) :
    Calls Tryz.prog 12 #[] w fun e w' => e = .returned (.pointer (some ⟨w.heap.size, 0, none⟩)) ∧ Below w.heap.size w w' ∧ w'.heap.size = w.heap.size + 1 ∧ Tab w' w.heap.size 0 0 := by
  have hz := zero61
  go_enter Tryz.func12, Tryz.ntmps12
  go_wp2
  go_ret
  have ho : ∀ j, (w.alloc (.cells Z61 125)).cell? ⟨w.heap.size, j, none⟩ = Z61[j]? := fun j => World.cell?_alloc_at _ _ _ _ rfl
  refine ⟨rfl, (Below.refl _ _).alloc (Nat.le_refl _) _, by simp, by simp, ho 0, ho 1, ho 259, fun j hj => ⟨_, (ho _).trans (Z61_at j hj)⟩, fun e => absurd e (by decide), fun j => World.frozen?_alloc_at _ _ _ _ rfl⟩

end Go.Proofs.YthmimipoooemjaaGreatDoor.Crc
end

section
/-
  Bytes laid behind bytes: append to a row of the call's own, bytes.Clone, slices.Grow of nil, slices.Concat of two, the reference's Seal.
-/
namespace Go.Proofs.YthmimipoooemjaaGreatDoor.Crc
open Go.RowKit

theorem Tryz.info5 : (Tryz.prog.info? 5).map (fun i => (i.zero, i.size, i.bytes)) = some (some (.int .u8 0), 1, 1) := by kernel_rfl

/-- Bytes as cells. -/
def cl (xs : List Nat) : List Value := xs.map fun x : Nat => .int .u8 (x : Int)
theorem cl_length (xs : List Nat) : (cl xs).length = xs.length := by simp [cl]
theorem cl_append (xs ys : List Nat) : cl (xs ++ ys) = cl xs ++ cl ys := by simp [cl]
theorem cl_at (xs : List Nat) (i : Nat) (h : i < xs.length) : (cl xs)[i]? = some (.int .u8 (xs.getD i 0 : Nat)) := by simp [cl, List.getElem?_eq_getElem h]

/-- v is a row of the call's own, from block base on, of the bytes xs. -/
def Own (w : World) (base : Nat) (v : Value) (xs : List Nat) : Prop := w.ownsRow base 5 1 v xs.length (cl xs)

theorem Own.ge {w : World} {base : Nat} {v : Value} {xs : List Nat} (h : Own w base v xs) : ∀ k, v.ownBlock = some k → base ≤ k := by
  intro k hk
  rcases h.2 with ⟨rfl, _⟩ | ⟨g, cap, cur, rfl, hb, _⟩
  · simp [Value.ownBlock] at hk
  · simp [Value.ownBlock] at hk
    omega

theorem Own.mono {w : World} {base base' : Nat} {v : Value} {xs : List Nat} (h : Own w base v xs) (hb : base' ≤ base) : Own w base' v xs := by
  refine ⟨h.1, ?_⟩
  rcases h.2 with h | ⟨g, cap, cur, rfl, hg, r⟩
  · exact .inl h
  · exact .inr ⟨g, cap, cur, rfl, by omega, r⟩

theorem Own.bySl {w : World} {base b : Nat} {v : Value} {xs : List Nat} (h : Own w base v xs) (hb : b < base) (hl : xs.length ≤ 100000) (hx : ∀ x ∈ xs, x < 256) : BySl b w v xs := by
  rcases h.2 with ⟨rfl, h0⟩ | ⟨g, cap, cur, rfl, hg, hh, hn, hc, hs, ht⟩
  · have : xs = [] := List.length_eq_zero_iff.1 h0
    subst this
    exact BySl.none _ _
  · refine ⟨_, cap, rfl, hn, hc, by simp, by omega, hx, fun _ => ⟨g, 0, rfl, by omega, (Array.getElem?_eq_some_iff.1 hh).1, fun i hi => ?_⟩⟩
    have h1 : w.ownsRow base 5 1 (.slice (some ⟨g, 0, none⟩) xs.length cap) xs.length (cl xs) := h
    rw [Nat.zero_add, h1.cellAt i (by omega)]
    exact cl_at xs i hi

theorem addr_add (g o i : Nat) : (⟨g, o, none⟩ : Addr).add i = ⟨g, o + i, none⟩ := by unfold Addr.add; split <;> simp_all

/-- append(v, x...), v of the call's own. -/
theorem app_bytes {ops : Array Oper} {rest : List Oper} {o : Oper} {a : Act} {Q : Exit → Act → World → Prop} (w : World) (hgd : o.guard = none) (s x : Operand)
    (ho : o.op = .call { callee := .builtin .append, args := #[s, x], argTypes := #[54, 54] }) (base b : Nat) (v vx : Value) (xs ys : List Nat) (hs : a.eval s = v) (hx : a.eval x = vx)
    (hown : Own w base v xs) (hy : BySl b w vx ys) (hlen : xs.length + ys.length ≤ 100000) (hbase : base ≤ w.heap.size)
    (h : ∀ v' w', Own w' base v' (xs ++ ys) → Below base w w' → wpList Tryz.prog ops Q rest (a.put o.dst v') w') : wpList Tryz.prog ops Q (o :: rest) a w := by
  obtain ⟨i0, hi, hz0, hz1, hz2⟩ := info_parts Tryz.info5
  obtain ⟨ad, cap, rfl, h2, h3, h4, h5, h6, h7⟩ := hy
  cases ad with
  | none =>
    obtain ⟨rfl, rfl⟩ := h4 rfl
    refine wpList_append_own_none hgd s x 54 ho base 5 i0 1 Tryz.underlying54 hi v xs.length (cl xs) hs hown hx ?_
    exact h v w (by rw [List.append_nil]; exact hown) (Below.refl _ _)
  | some ad =>
    refine wpList_append_own w hgd s x 54 ho base 5 i0 (.int .u8 0) 1 1 Tryz.underlying54 hi hz0 hz1 hz2 rfl (by decide) v xs.length (cl xs) hs hown ad ys.length cap (cl ys) hx ?_ ?_ ?_ ?_ ?_ hbase ?_
    · rw [cl_length, Nat.mul_one]
    · intro j u hj
      have hjn : j < ys.length := by
        have := (List.getElem?_eq_some_iff.1 hj).1
        rwa [cl_length] at this
      obtain ⟨g, o, e, _, hb, hc⟩ := h7 (by intro e; subst e; simp at hjn)
      simp only [Option.some.injEq] at e
      subst e
      rw [addr_add, hc j hjn, ← cl_at ys j hjn]
      exact hj
    · intro u hu; obtain ⟨x, _, rfl⟩ := List.mem_map.1 hu; rfl
    · unfold maxLen; omega
    · omega
    · intro v' w' h8 h9 _
      refine h v' w' ?_ ((Below.refl _ w).grown h9 hbase hown.ge)
      unfold Own
      rw [cl_append, List.length_append]
      exact h8

theorem Tryz.nilEq (w : World) (a : Option Addr) (n c n' c' : Nat) : (binOp .eql 54 (.slice a n c) (.slice none n' c')).run Tryz.prog w = .ok (.bool a.isNone) w :=
  Lib.run_eql_slice_nil w _ _ a n c n' c' Tryz.underlying54

theorem own_empty (w : World) : Own (w.alloc (.cells #[] 5)) w.heap.size (.slice (some ⟨w.heap.size, 0, none⟩) 0 0) [] := World.ownsRow_made w #[] 0 (Nat.le_refl _) (Nat.zero_le _) rfl

set_option maxHeartbeats 1000000 in
theorem clone_any (b : Nat) (v : Value) (bs : List Nat) (w : World) (hb : b < w.heap.size) (h : BySl b w v bs) (hl : bs.length ≤ 100000) :
    Calls Tryz.prog 126 #[v] w fun e w' => ∃ v', e = .returned v' ∧ BySl b w' v' bs ∧ Below w.heap.size w w' := by
  have q22 := Tryz.nilEq
  have H := hid h
  obtain ⟨a, cap, rfl, h2, h3, h4, h5, h6, h7⟩ := h
  have H6 := hid h6
  clear h6 h7
  cases a with
  | none =>
    obtain ⟨rfl, rfl⟩ := h4 rfl
    go_enter Tryz.func126, Tryz.ntmps126
    go_wp2
    go_ret
    exact ⟨_, rfl, BySl.none _ _, Below.refl _ _⟩
  | some ad =>
    clear h4
    go_enter Tryz.func126, Tryz.ntmps126
    go_wp2_with (at_builtin; refine app_bytes _ rfl _ _ rfl w.heap.size b _ _ [] bs rfl rfl (own_empty w) (H.out.kept ((Kept.refl _ _).alloc _)) (by simpa using hl) (by simp) ?_; intro v' w' hown hbel)
    go_wp2
    go_ret
    exact ⟨v', rfl, Own.bySl hown hb hl H6.out, ((Below.refl _ w).alloc (Nat.le_refl _) _).trans hbel⟩

/-- slices.Grow of nil. -/
theorem own_grown (w : World) (n G : Nat) (hG : n ≤ G) (hm : G ≤ maxLen) : Own (w.drew.alloc (.cells (Builtin.zeroCells (Value.int .u8 0).cells n ++ Builtin.zeroCells (Value.int .u8 0).cells (G - n)) 5)) w.heap.size (.slice (some ⟨w.heap.size, 0, none⟩) 0 G) [] := by
  exact World.ownsRow_made w.drew _ G (Nat.le_refl _) hm (by rw [Array.size_append, size_zeroCells, size_zeroCells]; simp [Value.cells]; omega)

set_option maxHeartbeats 1000000 in
theorem grow_any (n : Nat) (w : World) (h0 : 0 < n) (hn : n ≤ 100000) :
    Calls Tryz.prog 208 #[.slice none 0 0, .int .i64 n] w fun e w' => ∃ v, e = .returned v ∧ Own w' w.heap.size v [] ∧ Below w.heap.size w w' := by
  obtain ⟨i0, hi, hz0, hz1, hz2⟩ := info_parts Tryz.info5
  have hrz : ∀ ty, (Builtin.append_ #[54, 3] ty #[.slice none 0 0, .int .i64 n]).run Tryz.prog w = _ := fun ty => Lib.run_append_nil_zeros w 54 3 ty 5 i0 (.int .u8 0) .i64 .i64 Tryz.underlying54 Tryz.underlying3 hi hz0 n h0 (by omega) (by omega) (by rw [hz2]; omega)
  have hGn : n ≤ grownCap w n 0 5 := grownCap_ge w _ _ _
  have hGm := grownCap_le_maxLen w n 0 5 (by unfold maxLen; omega)
  generalize grownCap w n 0 5 = G at *
  have hG63 : G ≤ 9223372036854775807 := by unfold maxLen at hGm; omega
  have HG := hid hGm
  clear hGm hz0 hz1 hz2 hi
  have hnn : ¬ ((n : Int) < 0) := by omega
  have hn2 : (n : Int) > 0 := by omega
  go_enter Tryz.func208, Tryz.ntmps208
  go_wp2_with (at_builtin; refine Lib.wpList_append_run _ rfl _ _ _ _ rfl _ _ rfl rfl _ _ (hrz _) ?_)
  all_goals (go_ret; exact ⟨_, rfl, own_grown w n G hGn HG.out, (Below.refl _ _).drew.alloc (Nat.le_refl _) _⟩)

theorem grow_int (z : Int) (n : Nat) (w : World) (hz : z = n) (h0 : 0 < n) (hn : n ≤ 100000) :
    Calls Tryz.prog 208 #[.slice none 0 0, .int .i64 z] w fun e w' => ∃ v, e = .returned v ∧ Own w' w.heap.size v [] ∧ Below w.heap.size w w' := by
  subst hz
  exact grow_any n w h0 hn

set_option maxHeartbeats 2000000 in
set_option maxRecDepth 100000 in
/-- slices.Concat of two. -/
theorem concat_any (b g : Nat) (v1 v2 : Value) (xs ys : List Nat) (w : World) (c0 : w.cell? ⟨g, 0, none⟩ = some v1) (c1 : w.cell? ⟨g, 1, none⟩ = some v2) (hg : g < w.heap.size) (h1 : BySl b w v1 xs) (h2 : BySl b w v2 ys) (hpos : 0 < ys.length) (hl : xs.length + ys.length ≤ 100000) :
    Calls Tryz.prog 165 #[.slice (some ⟨g, 0, none⟩) 2 2] w fun e w' => ∃ v, e = .returned v ∧ Own w' w.heap.size v (xs ++ ys) ∧ Below w.heap.size w w' := by
  have H1 := hid h1
  have H2 := hid h2
  obtain ⟨a1, k1, rfl, r1⟩ := h1
  obtain ⟨a2, k2, rfl, r2⟩ := h2
  clear r1 r2
  obtain ⟨L1, hL1⟩ : ∃ L, xs.length = L := ⟨_, rfl⟩
  obtain ⟨L2, hL2⟩ : ∃ L, ys.length = L := ⟨_, rfl⟩
  rw [hL1] at H1 c0 hl
  rw [hL2] at H2 c1 hl hpos
  have HL1 := hid hL1
  have HL2 := hid hL2
  clear hL1 hL2
  go_enter Tryz.func165, Tryz.ntmps165
  go_wp2
  refine wp_loop_rounds 3 ?_
  rw [rounds_succ]
  go_wp2
  rw [rounds_succ]
  go_wp2
  rw [rounds_succ]
  go_wp2_with fail
  refine (grow_int _ (L1 + L2) w (by omega) (by omega) hl).mono ?_
  rintro e w1 ⟨v, rfl, hown, hbel⟩
  have HO := hid hown
  have HB := hid hbel
  have hs1 := hbel.size
  have d0 : w1.cell? ⟨g, 0, none⟩ = some (.slice a1 L1 k1) := (hbel.cell (p := ⟨g, 0, none⟩) hg).trans c0
  have d1 : w1.cell? ⟨g, 1, none⟩ = some (.slice a2 L2 k2) := (hbel.cell (p := ⟨g, 1, none⟩) hg).trans c1
  clear hown hbel c0 c1
  go_wp2
  refine wp_loop_rounds 3 ?_
  rw [rounds_succ]
  go_wp2_with (at_builtin; refine app_bytes _ rfl _ _ rfl w.heap.size b _ _ [] xs rfl rfl HO.out (H1.out.kept (Kept.below HB.out)) (by have := HL1.out; simp; omega) hs1 ?_; intro v' w2 hown2 hbel2)
  have HO2 := hid hown2
  have HB2 := hid (HB.out.trans hbel2)
  have hs2 := hbel2.size
  have e0 : w2.cell? ⟨g, 0, none⟩ = some (.slice a1 L1 k1) := (hbel2.cell (p := ⟨g, 0, none⟩) hg).trans d0
  have e1 : w2.cell? ⟨g, 1, none⟩ = some (.slice a2 L2 k2) := (hbel2.cell (p := ⟨g, 1, none⟩) hg).trans d1
  clear hown2 hbel2 d0 d1 HO HB
  go_wp2
  rw [rounds_succ]
  go_wp2_with (at_builtin; refine app_bytes _ rfl _ _ rfl w.heap.size b _ _ ([] ++ xs) ys rfl rfl HO2.out (H2.out.kept (Kept.below HB2.out)) (by have := HL1.out; have := HL2.out; simp; omega) (by omega) ?_; intro v'' w3 hown3 hbel3)
  have HO3 := hid hown3
  have HB3 := hid (HB2.out.trans hbel3)
  clear hown3 hbel3 e0 e1 HO2 HB2
  go_wp2
  rw [rounds_succ]
  go_wp2
  go_ret
  exact ⟨_, rfl, by simpa using HO3.out, HB3.out⟩

/-- A sum in four bytes, the lowest first. -/
def le4 (s : Nat) : List Nat := [s % 256, s / 256 % 256, s / 65536 % 256, s / 16777216]
theorem le4_lt {s : Nat} (hs : s < 4294967296) : ∀ x ∈ le4 s, x < 256 := by
  intro x hx
  simp only [le4, List.mem_cons, List.not_mem_nil, or_false] at hx
  omega
theorem le4_len (s : Nat) : (le4 s).length = 4 := rfl

theorem Own.alloc {w : World} {base : Nat} {v : Value} {xs : List Nat} (h : Own w base v xs) (o : Obj) : Own (w.alloc o) base v xs :=
  World.ownsRow.kept h (World.grownBy_alloc w o none) (by cases v.ownBlock <;> simp)

theorem bySl_le4 (b : Nat) (w : World) (hb : b < w.heap.size) {s : Nat} (hs : s < 4294967296) (t : TypeId) :
    BySl b (w.alloc (.cells #[.int .u8 ((s : Int) % 256), .int .u8 ((s : Int) / 256 % 256), .int .u8 ((s : Int) / 65536 % 256), .int .u8 ((s : Int) / 16777216)] t)) (.slice (some ⟨w.heap.size, 0, none⟩) 4 4) (le4 s) := by
  refine ⟨_, 4, rfl, by simp [le4_len], by decide, by simp, by simp [le4_len], le4_lt hs, fun _ => ⟨w.heap.size, 0, rfl, by omega, by simp, fun i hi => ?_⟩⟩
  rw [le4_len] at hi
  rw [Nat.zero_add, World.cell?_alloc_at _ _ _ _ rfl]
  have : i = 0 ∨ i = 1 ∨ i = 2 ∨ i = 3 := by omega
  rcases this with rfl | rfl | rfl | rfl <;> rfl

set_option maxHeartbeats 400000 in
theorem sumBytes_any (s : Nat) (hs : s < 4294967296) (w : World) :
    Calls Tryz.prog 163 #[.int .u32 s] w fun e w' => e = .returned (.agg #[.int .u8 ((s : Int) % 256), .int .u8 ((s : Int) / 256 % 256), .int .u8 ((s : Int) / 65536 % 256), .int .u8 ((s : Int) / 16777216)]) ∧ Below w.heap.size w w' := by
  go_enter Tryz.func163, Tryz.ntmps163
  go_wp2
  exact bodyPost_ret (v := .agg #[.int .u8 ((s : Int) % 256), .int .u8 ((s : Int) / 256 % 256), .int .u8 ((s : Int) / 65536 % 256), .int .u8 ((s : Int) / 16777216)]) (by simp [results, Tryz.results163, go_sem]) rfl ⟨rfl, (Below.refl _ _).alloc (Nat.le_refl _) _⟩

set_option maxHeartbeats 2000000 in
set_option maxRecDepth 100000 in
theorem seal_any (b f : Nat) (n : Int) (v : Value) (bs : List Nat) (w : World) (hf : f = 0 ∨ f = 1) (ht : Tab w b f n) (h : BySl b w v bs) (hl : bs.length ≤ 80000) :
    Calls Tryz.prog 115 #[.pointer (some ⟨b, 0, none⟩), v] w fun e w' => ∃ v', e = .returned v' ∧ Own w' w.heap.size v' (bs ++ le4 (more 0 bs)) ∧ Kept b w w' ∧ Tab w' b 1 (wrap64 (n + bs.length)) := by
  have H := hid h
  have T := hid ht
  obtain ⟨a, cap, rfl, r⟩ := h
  clear r ht
  have hm := more_lt 0 bs
  obtain ⟨s, hs⟩ : ∃ s, more 0 bs = s := ⟨_, rfl⟩
  have HS := hid hs
  rw [hs] at hm ⊢
  clear hs
  go_enter Tryz.func115, Tryz.ntmps115
  go_wp2_with fail
  refine (sum_any b f n _ bs _ hf T.out H.out).mono ?_
  rintro e w1 ⟨rfl, hk1, ht1⟩
  rw [HS.out]
  have HK1 := hid hk1
  have HT1 := hid ht1
  clear hk1 ht1
  go_wp2_with fail
  refine (sumBytes_any s hm _).mono ?_
  rintro e w2 ⟨rfl, hb2⟩
  have HB2 := hid hb2
  clear hb2
  go_wp2_with fail
  have hz1 := HK1.out.size
  have hz2 := HB2.out.size
  have hbw : b < w.heap.size := T.out.1
  have hk2 := HK1.out.trans (Kept.below (b := b) HB2.out)
  refine (concat_any b (w2.heap.size + 1) _ _ bs (le4 s) _ (by rw [World.cell?_alloc_at _ _ _ _ (by simp)]; rfl) (by rw [World.cell?_alloc_at _ _ _ _ (by simp)]; rfl) (by simp)
    (H.out.kept ((hk2.alloc _).alloc _)) ((bySl_le4 b w2 (by omega) hm 258).kept ((Kept.refl _ _).alloc _)) (by simp [le4_len]) (by simp [le4_len]; omega)).mono ?_
  rintro e w3 ⟨v, rfl, hown, hbel⟩
  have HO := hid hown
  have HB := hid hbel
  clear hown hbel hz1 hz2
  go_wp2_with fail
  go_ret
  refine ⟨_, rfl, HO.out.mono (by have := hk2.size; simp; omega), ((hk2.alloc _).alloc _).trans (Kept.below HB.out), (((HT1.out.below HB2.out).below ((Below.refl _ _).alloc (Nat.le_refl _) _)).below ((Below.refl _ _).alloc (Nat.le_refl _) _)).below HB.out⟩

end Go.Proofs.YthmimipoooemjaaGreatDoor.Crc
end

section
/-
  How records lie in memory; which are right.
-/
namespace Go.Proofs.YthmimipoooemjaaGreatDoor
open Go.RowKit
open Tlv (BySlS AgreeS)
open Crc (hid Kept Tab)

theorem Tryz.info35 : (Tryz.prog.info? 56).map (·.size) = some 34 := by kernel_rfl
/-- Bytes as cells. -/
def u8s (xs : List Int) : List Value := xs.map (Value.int .u8)
theorem u8s_length (xs : List Int) : (u8s xs).length = xs.length := by simp [u8s]
/-- A record's cells. -/
def recA (k : Int) (nm : List Int) (v : Value) : List Value := .int .i64 k :: (u8s nm ++ [v])
theorem recA_length (k : Int) (nm : List Int) (v : Value) (h : nm.length = 32) : (recA k nm v).length = 34 := by simp [recA, u8s_length, h]
theorem recA_0 (k : Int) (nm : List Int) (v : Value) : (recA k nm v)[0]? = some (.int .i64 k) := rfl
theorem recA_33 (k : Int) (nm : List Int) (v : Value) (h : nm.length = 32) : (recA k nm v)[33]? = some v := by
  rw [recA, List.getElem?_cons_succ, List.getElem?_append_right (by rw [u8s_length, h]; omega), u8s_length, h]; rfl
/-- May such a record stand in a pack? -/
def rightB (k : Int) (l : Nat) : Bool := decide (1 ≤ k) && (decide (k ≤ 9) && decide ((l : Int) ≤ 5000))

set_option maxHeartbeats 400000 in
theorem right13_any (C : List Value) (k : Int) (a : Option Addr) (l c : Nat) (w : World) (h0 : C[0]? = some (.int .i64 k)) (h33 : C[33]? = some (.slice a l c)) :
    Calls Tryz.prog 107 #[.agg C.toArray] w fun e w' => e = .returned (.bool (rightB k l)) ∧ Below w.heap.size w w' := by
  go_enter Tryz.func107, Tryz.ntmps107
  go_wp2
  all_goals (go_ret; refine ⟨?_, (Below.refl _ _).alloc (Nat.le_refl _) _⟩; simp [rightB, *] <;> omega)

end Go.Proofs.YthmimipoooemjaaGreatDoor
end

section
/-
  What Many of tlv makes.
-/
namespace Go.Proofs.YthmimipoooemjaaGreatDoor.Tlv
open Go.RowKit

set_option maxHeartbeats 400000 in
theorem many_any {n : Nat} (ks : List (Tr n)) (v : Value) (w : World) (h : KSl 0 w.heap.size w (Rep 0 w.heap.size w n) v ks) (hn : n < 131072) :
    Calls Tryz.prog 156 #[v] w fun e w' => ∃ sb' sk', e = .returned (.agg #[.int .i64 3, .int .u64 0, sb', sk']) ∧ Rep w.heap.size w'.heap.size w' (n + 1) (Tr.mk 3 0 [] ks) sb' sk' ∧ Below w.heap.size w w' := by
  obtain ⟨ak, ck, rfl, hr⟩ := id h
  clear hr
  have H := hid h
  clear h
  go_enter Tryz.func156, Tryz.ntmps156
  go_wp2_with fail
  have hA : Agree 0 w.heap.size w (w.alloc (Obj.cells #[Value.int IntKind.i64 0, Value.int IntKind.u64 0, Value.slice none 0 0, Value.slice none 0 0] 203)) := (Agree.refl _ _ _).alloc (Nat.le_refl _) _
  have hS : w.heap.size ≤ (w.alloc (Obj.cells #[Value.int IntKind.i64 0, Value.int IntKind.u64 0, Value.slice none 0 0, Value.slice none 0 0] 203)).heap.size := by simp
  refine (clone_any (n + 1) (Tr.mk 3 0 [] ks) _ _ _ _ ⟨by simp [Tr.mk, Tr.hd], by simp [Tr.mk, Tr.hd], BySl.none _ _ _, H.out.agree (fun _ _ _ r => r.agree hA (Nat.le_refl _) hS) hA (Nat.le_refl _) hS⟩ (by omega) (by omega)).mono ?_
  rintro e w1 ⟨sb', sk', rfl, hr1, hb1⟩
  obtain ⟨a3, l3, p3, a4, l4, p4, rfl, rfl⟩ := hr1.sl
  simp only [show (Tr.mk 3 0 [] ks).hd.1 = 3 from rfl, show (Tr.mk 3 0 [] ks).hd.2.1 = 0 from rfl]
  have Hr1 := hid hr1
  have Hb1 := hid hb1
  obtain ⟨hc, hf⟩ := bcell hb1
  have hz := hb1.size
  simp at hz
  have hgw : w.heap.size < w1.heap.size := by omega
  have g0 : w1.cell? ⟨w.heap.size, 0, none⟩ = some (.int .i64 0) := by rw [hc _ _ (by simp)]; simp [go_sem]
  have g1 : w1.cell? ⟨w.heap.size, 1, none⟩ = some (.int .u64 0) := by rw [hc _ _ (by simp)]; simp [go_sem]
  have g2 : w1.cell? ⟨w.heap.size, 2, none⟩ = some (.slice none 0 0) := by rw [hc _ _ (by simp)]; simp [go_sem]
  have g3 : w1.cell? ⟨w.heap.size, 3, none⟩ = some (.slice none 0 0) := by rw [hc _ _ (by simp)]; simp [go_sem]
  have gf : ∀ o, w1.frozen? ⟨w.heap.size, o, none⟩ = false := fun o => by rw [hf _ _ (by simp)]; simp [go_sem]
  clear hc hf hr1 hb1
  go_wp2_with fail
  obtain ⟨q0, q1, q2, q3⟩ := set4_read (u0 := .int .i64 3) (u1 := .int .u64 0) (u2 := .slice a3 l3 p3) (u3 := .slice a4 l4 p4) g0 g1 g2 g3
  refine bodyPost_ret (v := .agg #[.int .i64 3, .int .u64 0, .slice a3 l3 p3, .slice a4 l4 p4]) (by simp [results, Tryz.results156, go_sem, q0, q1, q2, q3, hgw]) rfl ⟨_, _, rfl, ?_, ?_⟩
  · exact Rep.agree (L' := w.heap.size) ((Agree.set4 w1 (.inl (by simp)) _ _ _ _).alloc (by simp) _) (by simp) (by simp) Hr1.out
  · exact (((((Below.refl _ w).alloc (Nat.le_refl _) _).trans (Hb1.out.mono (by simp))).trans (bset4 (Nat.le_refl _) _ _ _ _)).alloc (by simp; omega) _)

end Go.Proofs.YthmimipoooemjaaGreatDoor.Tlv
end

section
/-
  The value, in tlv's words, that a right record has; its mathematics.
-/
namespace Go.Proofs.YthmimipoooemjaaGreatDoor
open Go.RowKit
open Tlv (Tr BySlS AgreeS Agree)
open Crc (hid Kept Tab)

/-- A record's value. -/
def recT (k : Int) (nm bs : List Int) : Tr 2 := Tr.mk 3 0 [] [(Tr.mk 1 k [] [] : Tr 1), Tr.mk 2 0 nm [], Tr.mk 2 0 bs []]

theorem name_in {W : World} {g o : Nat} {k : Int} {nm : List Int} {v : Value} (h : W.rangeAt g o (recA k nm v)) (hn : nm.length = 32) (hx : ∀ x ∈ nm, 0 ≤ x ∧ x ≤ 255) :
    Tlv.BySl 0 W.heap.size W (.slice (some ⟨g, o + 1, none⟩) 32 32) nm := by
  refine ⟨_, 32, by rw [hn], by omega, by decide, by simp, by omega, hx, fun _ => ⟨g, o + 1, rfl, Nat.zero_le _, ?_, fun i hi => ?_⟩⟩
  · exact World.block_lt_of_cell? _ _ (h 0 _ (recA_0 _ _ _))
  · have := h (1 + i) (.int .u8 (nm.getD i 0)) (by
      rw [recA, Nat.add_comm, List.getElem?_cons_succ, List.getElem?_append_left (by rw [u8s_length]; exact hi)]
      simp [u8s, List.getElem?_eq_getElem hi])
    rw [← this]
    congr 2
    omega

theorem bySl_lift {L : Nat} {V w' : World} {v : Value} {bs : List Int} (h : Tlv.BySl L V.heap.size V v bs) (hb : Below V.heap.size V w') : Tlv.BySl L w'.heap.size w' v bs :=
  h.agree (Agree.below hb) (Nat.le_refl _) hb.size

theorem rep1 {L B : Nat} {w : World} (k : Int) (h0 : 0 ≤ k) (h1 : k ≤ 18446744073709551615) : Tlv.Rep L B w 1 (Tr.mk 1 k [] []) (.slice none 0 0) (.slice none 0 0) :=
  ⟨h0, h1, Tlv.BySl.none _ _ _, Tlv.KSl.none _ _ _ _⟩
theorem rep2 {L B : Nat} {w : World} {v : Value} {bs : List Int} (h : Tlv.BySl L B w v bs) : Tlv.Rep L B w 1 (Tr.mk 2 0 bs []) v (.slice none 0 0) :=
  ⟨Int.le_refl _, by simp [Tr.mk, Tlv.Tr.hd], h, Tlv.KSl.none _ _ _ _⟩

/-- Three values laid in a row. -/
theorem three_in {B : Nat} {w : World} (ts : Tr 1) (tn : Tr 1) (tb : Tr 1) (vn vb : Value) (x0 : Int) (hw : w.heap.size = B)
    (hs : ts = Tr.mk 1 x0 [] []) (h0 : 0 ≤ x0) (h1 : x0 ≤ 18446744073709551615) {nm bs : List Int} (hn : tn = Tr.mk 2 0 nm []) (hb : tb = Tr.mk 2 0 bs []) (bn : Tlv.BySl 0 B w vn nm) (bb : Tlv.BySl 0 B w vb bs) (ty : TypeId) :
    Tlv.KSl 0 (B + 1) (w.alloc (.cells #[.int .i64 1, .int .u64 x0, .slice none 0 0, .slice none 0 0, .int .i64 2, .int .u64 0, vn, .slice none 0 0, .int .i64 2, .int .u64 0, vb, .slice none 0 0] ty))
      (Tlv.Rep 0 (B + 1) (w.alloc (.cells #[.int .i64 1, .int .u64 x0, .slice none 0 0, .slice none 0 0, .int .i64 2, .int .u64 0, vn, .slice none 0 0, .int .i64 2, .int .u64 0, vb, .slice none 0 0] ty)) 1)
      (.slice (some ⟨B, 0, none⟩) 3 3) [ts, tn, tb] := by
  subst hs hn hb hw
  have hA : ∀ o : Obj, Agree 0 w.heap.size w (w.alloc o) := fun o => (Agree.refl _ _ _).alloc (Nat.le_refl _) _
  have hc : ∀ (C : Array Value) (j : Nat), (w.alloc (.cells C ty)).cell? ⟨w.heap.size, j, none⟩ = C[j]? := fun C j => World.cell?_alloc_at _ _ _ _ rfl
  refine ⟨_, 3, rfl, Nat.le_refl _, by decide, by simp, by simp, fun _ => ⟨w.heap.size, 0, rfl, Nat.zero_le _, by omega, fun j t hj => ?_⟩⟩
  match j, hj with
  | 0, hj =>
    simp only [List.getElem?_cons_zero, Option.some.injEq] at hj
    subst hj
    exact ⟨_, _, hc _ _, hc _ _, hc _ _, hc _ _, rep1 _ h0 h1⟩
  | 1, hj =>
    simp only [List.getElem?_cons_succ, List.getElem?_cons_zero, Option.some.injEq] at hj
    subst hj
    exact ⟨_, _, hc _ _, hc _ _, hc _ _, hc _ _, rep2 (bn.agree (hA _) (Nat.le_refl _) (by omega))⟩
  | 2, hj =>
    simp only [List.getElem?_cons_succ, List.getElem?_cons_zero, Option.some.injEq] at hj
    subst hj
    exact ⟨_, _, hc _ _, hc _ _, hc _ _, hc _ _, rep2 (bb.agree (hA _) (Nat.le_refl _) (by omega))⟩

/-- Bytes of tlv, as a walk that holds a world needs it. -/
theorem bytes44 {S : World → Prop} {W0 : World} {L : Nat} {bs : List Int} {v : Value} (hL : bs.length = L) (hS : ∀ V, S V → Below W0.heap.size W0 V) (hb : Tlv.BySl 0 W0.heap.size W0 v bs) :
    ∀ V, S V → Calls Tryz.prog 158 #[v] V fun e w' => ∃ a' c', e = .returned (.agg #[.int .i64 2, .int .u64 0, .slice a' L c', .slice none 0 0]) ∧ (Tlv.BySl W0.heap.size w'.heap.size w' (.slice a' L c') bs ∧ Below V.heap.size V w') := by
  intro V hV
  have hk := hS V hV
  refine (Tlv.bytes_any v bs V (hb.agree (Agree.below hk) (Nat.le_refl _) hk.size)).mono ?_
  rintro e w' ⟨v', rfl, hv, hb'⟩
  obtain ⟨a', c', rfl, hr⟩ := id hv
  refine ⟨a', c', by rw [hL], ?_, hb'⟩
  rw [← hL]
  exact hv.agree (Agree.refl _ _ _) hk.size (Nat.le_refl _)

theorem number43 (n : Int) (V : World) : Calls Tryz.prog 157 #[.int .u64 n] V fun e w' => e = .returned (.agg #[.int .i64 1, .int .u64 n, .slice none 0 0, .slice none 0 0]) ∧ Below V.heap.size V w' := Tlv.number_any n V

theorem many42 {L : Nat} {w : World} {k : Int} {nm bs : List Int} {vn vb : Value} (h0 : 0 ≤ k) (h1 : k ≤ 9) (bn : Tlv.BySl L w.heap.size w vn nm) (bb : Tlv.BySl L w.heap.size w vb bs) :
    Calls Tryz.prog 156 #[.slice (some ⟨w.heap.size, 0, none⟩) 3 3] (w.alloc (.cells #[.int .i64 1, .int .u64 k, .slice none 0 0, .slice none 0 0, .int .i64 2, .int .u64 0, vn, .slice none 0 0, .int .i64 2, .int .u64 0, vb, .slice none 0 0] 203))
      fun e w' => ∃ a3 l3 p3 a4 l4 p4, e = .returned (.agg #[.int .i64 3, .int .u64 0, .slice a3 l3 p3, .slice a4 l4 p4]) ∧ Tlv.Rep w.heap.size w'.heap.size w' 2 (recT k nm bs) (.slice a3 l3 p3) (.slice a4 l4 p4) ∧ Below w.heap.size w w' := by
  have h := three_in (B := w.heap.size) (w := w) (Tr.mk 1 k [] []) (Tr.mk 2 0 nm []) (Tr.mk 2 0 bs []) vn vb k rfl rfl h0 (by omega) rfl rfl (bn.agree (Agree.refl _ _ _) (Nat.zero_le _) (Nat.le_refl _)) (bb.agree (Agree.refl _ _ _) (Nat.zero_le _) (Nat.le_refl _)) 203
  refine (Tlv.many_any _ _ _ (by simpa using h) (by omega)).mono ?_
  rintro e w5 ⟨sb', sk', rfl, hr5, hb5⟩
  obtain ⟨a3, l3, p3, a4, l4, p4, rfl, rfl⟩ := hr5.sl
  exact ⟨_, _, _, _, _, _, rfl, hr5.agree (Agree.refl _ _ _) (by simp) (Nat.le_refl _), ((Below.refl _ w).alloc (Nat.le_refl _) _).trans (hb5.mono (by simp))⟩

set_option maxHeartbeats 2000000 in
set_option maxRecDepth 100000 in
theorem value_any (k : Int) (nm bs : List Int) (v : Value) (w : World) (hk0 : 1 ≤ k) (hk1 : k ≤ 9) (hn : nm.length = 32) (hx : ∀ x ∈ nm, 0 ≤ x ∧ x ≤ 255) (hb : Tlv.BySl 0 w.heap.size w v bs) :
    Calls Tryz.prog 109 #[.agg (recA k nm v).toArray] w fun e w' => ∃ sb sk, e = .returned (.agg #[.int .i64 3, .int .u64 0, sb, sk]) ∧ Tlv.Rep w.heap.size w'.heap.size w' 2 (recT k nm bs) sb sk ∧ Below w.heap.size w w' := by
  obtain ⟨a, cap, rfl, hr⟩ := id hb
  clear hr
  have HB := hid hb
  have hc0 := recA_0 k nm (.slice a bs.length cap)
  have hc33 := recA_33 k nm (.slice a bs.length cap) hn
  have HN := hid hn
  have HX := hid hx
  clear hb hn hx
  obtain ⟨C, hC⟩ : ∃ C, recA k nm (.slice a bs.length cap) = C := ⟨_, rfl⟩
  have HC := hid hC
  rw [hC] at hc0 hc33
  rw [hC]
  clear hC
  go_enter Tryz.func109, Tryz.ntmps109
  go_wp2
  obtain ⟨W0, hW0⟩ : ∃ W0, (w.alloc (.cells C.toArray 56)).alloc (.cells #[.int .i64 0, .int .u64 0, .slice none 0 0, .slice none 0 0] 203) = W0 := ⟨_, rfl⟩
  have hz : W0.heap.size = w.heap.size + 2 := by rw [← hW0]; simp
  have hbel : Below w.heap.size w W0 := by rw [← hW0]; exact ((Below.refl _ _).alloc (Nat.le_refl _) _).alloc (by simp) _
  have hrg : W0.rangeAt w.heap.size 0 C := by
    rw [← hW0]
    refine World.rangeAt_alloc (fun j v hv => ?_) _
    rw [Nat.zero_add, World.cell?_alloc_at _ _ _ _ rfl]
    simpa using hv
  have HG : Hid (∀ j u, (#[.int .i64 0, .int .u64 0, .slice none 0 0, .slice none 0 0] : Array Value)[j]? = some u → W0.cell? ⟨w.heap.size + 1, j, none⟩ = some u) := fun j u hj => by
    rw [← hW0, World.cell?_alloc_at _ _ _ _ (by simp), hj]
  have HF : Hid (∀ j, W0.frozen? ⟨w.heap.size + 1, j, none⟩ = false) := fun j => by
    rw [← hW0, World.frozen?_alloc_at _ _ _ _ (by simp)]
  rw [hW0]
  clear hW0
  have r0 : ∀ V, Below (w.heap.size + 1) W0 V → V.cell? ⟨w.heap.size, 0, none⟩ = some (.int .i64 k) := fun V h => (h.cell (p := ⟨w.heap.size, 0, none⟩) (by simp)).trans (hrg 0 _ hc0)
  have r33 : ∀ V, Below (w.heap.size + 1) W0 V → V.cell? ⟨w.heap.size, 33, none⟩ = some (.slice a bs.length cap) := fun V h => (h.cell (p := ⟨w.heap.size, 33, none⟩) (by simp)).trans (by have := hrg 33 _ hc33; simpa using this)
  have hwn := name_in (by rw [HC.out]; exact hrg) HN.out HX.out
  rw [Nat.zero_add] at hwn
  have K44n := hid (bytes44 (S := fun V => Below W0.heap.size W0 V) HN.out (fun V h => h) hwn)
  have K44b := hid (bytes44 (S := fun V => Below W0.heap.size W0 V) (L := bs.length) rfl (fun V h => h) (HB.out.agree (Agree.below hbel) (Nat.le_refl _) hbel.size))
  have HZ := hid hz
  have HZ2 : Hid (w.heap.size + 1 ≤ W0.heap.size) := by rw [Hid]; omega
  have HBEL := hid hbel
  clear hz hbel hrg hwn hc0 hc33
  have hwk : IntKind.u64.wrap k = k := by rw [IntKind.wrap_u64]; omega
  go_region_held3 (fun V => Below (w.heap.size + 1) W0 V) (first | (with_reducible exact Below.refl _ _) | (with_reducible exact (Below.refl _ _).drew) | (with_reducible exact HK2.out.mono HZ2.out) | (with_reducible exact HK3.out.mono HZ2.out) | (with_reducible exact HK4.out.mono HZ2.out) | (with_reducible exact (HK4.out.alloc HK4.out.size _).mono HZ2.out) | (with_reducible exact HK5.out.mono HZ2.out) | (with_reducible exact (HK5.out.mono HZ2.out).trans (Tlv.bset4 (Nat.le_refl _) _ _ _ _))) (first
    | (go_at_call 157; refine (number43 _ _).mono ?_; rintro e w2 ⟨rfl, hb2⟩; have HK2 : Hid (Below W0.heap.size W0 w2) := (Below.refl _ _).drew.trans hb2; clear hb2)
    | (go_at_call_of 158 (Value.slice (some ⟨w.heap.size, 1, none⟩) 32 32); refine (K44n.out _ ?_).mono ?_; (with_reducible exact HK2.out); rintro e w3 ⟨an, cn, rfl, hv3, hb3⟩; have HV3 := hid hv3; have HK3 : Hid (Below W0.heap.size W0 w3) := HK2.out.trans (hb3.mono HK2.out.size); clear hv3 hb3)
    | (go_at_call_of 158 (Value.slice a bs.length cap); refine (K44b.out _ ?_).mono ?_; (with_reducible exact HK3.out); rintro e w4 ⟨ab, cb, rfl, hv4, hb4⟩; have HV3' := hid (bySl_lift HV3.out hb4); have HV4 := hid hv4; have HK4 : Hid (Below W0.heap.size W0 w4) := HK3.out.trans (hb4.mono HK3.out.size); clear hv4 hb4 HV3)
    | (go_at_call 156; refine (many42 (by omega) hk1 HV3'.out HV4.out).mono ?_; rintro e w5 ⟨a3, l3, p3, a4, l4, p4, rfl, hr5, hb5⟩; have HR5 := hid hr5; have HK5 : Hid (Below W0.heap.size W0 w5) := HK4.out.trans (hb5.mono HK4.out.size); have hz5 : w.heap.size + 1 < w5.heap.size := (by have h1 := HK5.out.size; have h2 := HZ.out; omega); have hf5 : ∀ j, w5.frozen? ⟨w.heap.size + 1, j, none⟩ = false := (fun j => (HK5.out.frozen (p := ⟨w.heap.size + 1, j, none⟩) (by have h2 := HZ.out; simp; omega)).trans (HF.out j)); have hc5 : ∀ j u, (#[.int .i64 0, .int .u64 0, .slice none 0 0, .slice none 0 0] : Array Value)[j]? = some u → w5.cell? ⟨w.heap.size + 1, j, none⟩ = some u := (fun j u hj => (HK5.out.cell (p := ⟨w.heap.size + 1, j, none⟩) (by have h2 := HZ.out; simp; omega)).trans (HG.out j u hj)); have g0 := hc5 0 _ rfl; have g1 := hc5 1 _ rfl; have g2 := hc5 2 _ rfl; have g3 := hc5 3 _ rfl; clear hr5 hb5 hc5))
  go_wp2_with fail
  obtain ⟨q0, q1, q2, q3⟩ := Tlv.set4_read (u0 := .int .i64 3) (u1 := .int .u64 0) (u2 := .slice a3 l3 p3) (u3 := .slice a4 l4 p4) g0 g1 g2 g3
  refine bodyPost_ret (v := .agg #[.int .i64 3, .int .u64 0, .slice a3 l3 p3, .slice a4 l4 p4]) (by simp [results, Tryz.results109, go_sem, q0, q1, q2, q3]) rfl ⟨_, _, rfl, ?_, ?_⟩
  · have h1 := HK4.out.size
    have h2 := HZ.out
    exact HR5.out.agree (Agree.set4 _ (.inl (by omega)) _ _ _ _) (by omega) (by simp)
  · exact HBEL.out.trans (((HK5.out.mono HZ2.out).mono (Nat.le_succ _)).trans (Tlv.bset4 (Nat.le_succ _) _ _ _ _))
end Go.Proofs.YthmimipoooemjaaGreatDoor
end

section
/-
  Bits within 32 that follow one another are told: in plain mathematics.
-/
namespace Go.Proofs.YthmimipoooemjaaGreatDoor.Crc
open Go.RowKit

/-- Bit p of bytes is turned. -/
def flip (xs : List Nat) (p : Nat) : List Nat := xs.set (p / 8) (xs.getD (p / 8) 0 ^^^ 2 ^ (p % 8))
/-- The first k of the bits are turned, from place p on. -/
def turn (xs : List Nat) (p m : Nat) : Nat → List Nat
  | 0 => xs
  | k + 1 => if m.testBit k then flip (turn xs p m k) (p + k) else turn xs p m k

end Go.Proofs.YthmimipoooemjaaGreatDoor.Crc
end

section
/-
  Plain mathematics of frames: a record's form, and what is read of one.
-/
namespace Go.Proofs.YthmimipoooemjaaGreatDoor
open Go.RowKit
open Tlv (Tr)

def nats (xs : List Int) : List Nat := xs.map Int.toNat
def ints (xs : List Nat) : List Int := xs.map fun x : Nat => (x : Int)
theorem nats_length (xs : List Int) : (nats xs).length = xs.length := by simp [nats]
theorem ints_length (xs : List Nat) : (ints xs).length = xs.length := by simp [ints]
theorem nats_ints (xs : List Nat) : nats (ints xs) = xs := by simp [nats, ints, Function.comp_def]
theorem nats_append (a b : List Int) : nats (a ++ b) = nats a ++ nats b := by simp [nats]
theorem nats_lt (xs : List Int) (h : ∀ x ∈ xs, 0 ≤ x ∧ x ≤ 255) : ∀ x ∈ nats xs, x < 256 := by
  intro x hx
  obtain ⟨y, hy, rfl⟩ := List.mem_map.1 hx
  have := h y hy
  omega
theorem ints_bd (xs : List Nat) (h : ∀ x ∈ xs, x < 256) : ∀ x ∈ ints xs, 0 ≤ x ∧ x ≤ 255 := by
  intro x hx
  obtain ⟨y, hy, rfl⟩ := List.mem_map.1 hx
  have := h y hy
  omega

/-- The sum behind. -/
def sumI (xs : List Int) : List Int := ints (Crc.le4 (Crc.more 0 (nats xs)))
/-- Bytes with their sum behind them. -/
def sealI (xs : List Int) : List Int := xs ++ sumI xs
theorem sumI_length (xs : List Int) : (sumI xs).length = 4 := by rw [sumI, ints_length, Crc.le4_len]
theorem sealI_length (xs : List Int) : (sealI xs).length = xs.length + 4 := by rw [sealI, List.length_append, sumI_length]
theorem sealI_nats (xs : List Int) : nats (sealI xs) = nats xs ++ Crc.le4 (Crc.more 0 (nats xs)) := by rw [sealI, nats_append, sumI, nats_ints]
theorem sealI_bd (xs : List Int) (h : ∀ x ∈ xs, 0 ≤ x ∧ x ≤ 255) : ∀ x ∈ sealI xs, 0 ≤ x ∧ x ≤ 255 := by
  intro x hx
  rcases List.mem_append.1 hx with hx | hx
  · exact h x hx
  · exact ints_bd _ (Crc.le4_lt (Crc.more_lt _ _)) x hx

/-- What a right record is. -/
def RightR (k : Int) (nm bs : List Int) : Prop := 1 ≤ k ∧ k ≤ 9 ∧ bs.length ≤ 5000 ∧ nm.length = 32 ∧ (∀ x ∈ nm, 0 ≤ x ∧ x ≤ 255) ∧ ∀ x ∈ bs, 0 ≤ x ∧ x ≤ 255

/-- A record's form. -/
def formR (k : Int) (nm bs : List Int) : List Int := Tlv.formOf 2 (recT k nm bs)
/-- Its frame. -/
def frameR (k : Int) (nm bs : List Int) : List Int := sealI (formR k nm bs)

theorem nsz_small {k : Int} (h0 : 1 ≤ k) (h1 : k ≤ 9) : Tlv.nsz k = 1 := by
  have : k = 1 ∨ k = 2 ∨ k = 3 ∨ k = 4 ∨ k = 5 ∨ k = 6 ∨ k = 7 ∨ k = 8 ∨ k = 9 := by omega
  rcases this with rfl | rfl | rfl | rfl | rfl | rfl | rfl | rfl | rfl <;> decide

theorem recT_right {k : Int} {nm bs : List Int} (h : RightR k nm bs) : (Tlv.bsz 2 (recT k nm bs) 65535 8).2 = true := by
  obtain ⟨h0, h1, hl, hn, _, _⟩ := h
  rw [recT, Tlv.bsz_3 _ _ _ (by omega), Tlv.lsz_go (by omega)]
  have e := nsz_small h0 h1
  simp only [Tlv.lszGo]
  rw [Tlv.bsz_1 _ _ _ (by omega), e]
  simp only [show decide ((1 : Int) ≤ 65535 - 0 - 3) = true from rfl, if_true]
  rw [Tlv.bsz_2 _ _ _ (by omega), hn]
  simp only [show decide (((32 : Nat) : Int) ≤ 65535 - (0 + (3 + 1)) - 3) = true from rfl, if_true]
  rw [Tlv.bsz_2 _ _ _ (by omega)]
  simp only [show decide ((bs.length : Int) ≤ 65535 - (0 + (3 + 1) + (3 + ((32 : Nat) : Int))) - 3) = true by simp; omega, if_true]

/-- The form, byte by byte. -/
theorem formR_eq {k : Int} {nm bs : List Int} (h : RightR k nm bs) : formR k nm bs =
    3 :: ((42 + bs.length : Nat) : Int) / 256 :: ((42 + bs.length : Nat) : Int) % 256 :: (1 :: 0 :: 1 :: k :: 2 :: 0 :: 32 :: (nm ++ 2 :: (bs.length : Int) / 256 :: (bs.length : Int) % 256 :: bs)) := by
  obtain ⟨h0, h1, hl, hn, _, _⟩ := h
  have e := nsz_small h0 h1
  have b1 : Tlv.bodyOf 1 (Tr.mk 1 k [] []) = [k] := by
    have : Tlv.bodyOf 1 (Tr.mk 1 k [] []) = Tlv.numB (Tlv.nsz k).toNat k := rfl
    rw [this, e]
    have : Tlv.numB (1 : Int).toNat k = [k / 1 % 256] := rfl
    rw [this]
    congr 1
    omega
  have b2 : ∀ xs, Tlv.bodyOf 1 (Tr.mk 2 0 xs []) = xs := fun _ => rfl
  have f1 : Tlv.formOf 1 (Tr.mk 1 k [] []) = [1, 0, 1, k] := by
    have : Tlv.formOf 1 (Tr.mk 1 k [] []) = 1 :: ((Tlv.bodyOf 1 (Tr.mk 1 k [] [])).length / 256 : Int) :: ((Tlv.bodyOf 1 (Tr.mk 1 k [] [])).length % 256 : Int) :: Tlv.bodyOf 1 (Tr.mk 1 k [] []) := rfl
    rw [this, b1]
    simp
  have f2 : ∀ xs : List Int, Tlv.formOf 1 (Tr.mk 2 0 xs []) = 2 :: (xs.length : Int) / 256 :: (xs.length : Int) % 256 :: xs := fun _ => rfl
  have bd : Tlv.bodyOf 2 (recT k nm bs) = 1 :: 0 :: 1 :: k :: 2 :: 0 :: 32 :: (nm ++ 2 :: (bs.length : Int) / 256 :: (bs.length : Int) % 256 :: bs) := by
    rw [Tlv.bodyOf_kids rfl]
    have : (recT k nm bs).kd.map (Tlv.formOf 1) = [Tlv.formOf 1 (Tr.mk 1 k [] []), Tlv.formOf 1 (Tr.mk 2 0 nm []), Tlv.formOf 1 (Tr.mk 2 0 bs [])] := rfl
    rw [this, f1, f2, f2, hn]
    simp
  have : formR k nm bs = 3 :: ((Tlv.bodyOf 2 (recT k nm bs)).length / 256 : Int) :: ((Tlv.bodyOf 2 (recT k nm bs)).length % 256 : Int) :: Tlv.bodyOf 2 (recT k nm bs) := rfl
  rw [this, bd]
  have hlen : (1 :: 0 :: 1 :: k :: 2 :: 0 :: 32 :: (nm ++ 2 :: (bs.length : Int) / 256 :: (bs.length : Int) % 256 :: bs)).length = 42 + bs.length := by
    simp [hn]; omega
  rw [hlen]

theorem formR_length {k : Int} {nm bs : List Int} (h : RightR k nm bs) : (formR k nm bs).length = 45 + bs.length := by
  rw [formR_eq h]
  have := h.2.2.2.1
  simp [this]; omega

theorem frameR_length {k : Int} {nm bs : List Int} (h : RightR k nm bs) : (frameR k nm bs).length = 49 + bs.length := by
  rw [frameR, sealI_length, formR_length h]; omega

theorem formR_bd {k : Int} {nm bs : List Int} (h : RightR k nm bs) : ∀ x ∈ formR k nm bs, 0 ≤ x ∧ x ≤ 255 := by
  rw [formR_eq h]
  obtain ⟨h0, h1, hl, hn, hx, hy⟩ := h
  intro x hm
  simp only [List.mem_cons, List.mem_append] at hm
  rcases hm with rfl | rfl | rfl | rfl | rfl | rfl | rfl | rfl | rfl | rfl | hm | rfl | rfl | rfl | hm
  all_goals first | omega | exact hx x hm | exact hy x hm

theorem frameR_bd {k : Int} {nm bs : List Int} (h : RightR k nm bs) : ∀ x ∈ frameR k nm bs, 0 ≤ x ∧ x ≤ 255 := sealI_bd _ (formR_bd h)

theorem szT_rec {k : Int} {nm bs : List Int} (h : RightR k nm bs) : Tlv.szT 2 (recT k nm bs) = ((45 + bs.length : Nat) : Int) := by
  have h1 := recT_right h
  rw [Tlv.szT, if_pos h1, Tlv.bsz_len _ _ _ _ h1]
  have h2 := formR_length h
  have h3 : (formR k nm bs).length = 3 + (Tlv.bodyOf 2 (recT k nm bs)).length := by rw [formR]; simp [Tlv.formOf]; omega
  omega

/-- The record whose value a tree is. -/
def recOf (t : Tr 9) : Option (Int × List Int × List Int) :=
  match t.kd with
  | [a, b, c] => if t.hd.1 = 3 ∧ a.hd.1 = 1 ∧ b.hd.1 = 2 ∧ c.hd.1 = 2 ∧ b.hd.2.2.length = 32 ∧ 1 ≤ a.hd.2.1 ∧ a.hd.2.1 ≤ 9 ∧ c.hd.2.2.length ≤ 5000 then some (a.hd.2.1, b.hd.2.2, c.hd.2.2) else none
  | _ => none

/-- What is copied into 32 bytes. -/
def pad32 (xs : List Int) : List Int := xs.take 32 ++ List.replicate (32 - xs.length) 0
/-- No record, but a fault. -/
def noRec (f : Int) : Int × (Int × List Int × List Int) × Nat := (f, (0, List.replicate 32 0, []), 0)
/-- What Take answers: the fault, the record, how many bytes. -/
def takeF (bs : List Int) : Int × (Int × List Int × List Int) × Nat :=
  match Tlv.rd 8 bs with
  | none => noRec 16
  | some (t, m) =>
    if bs.length - m < 4 then noRec 16
    else if sumI (bs.take m) ≠ (bs.drop m).take 4 then noRec 4
    else match recOf t with
      | none => noRec 3
      | some r => (0, r, m + 4)

end Go.Proofs.YthmimipoooemjaaGreatDoor
end

section
/-
  What Same of tlv answers of any two trees.
-/
namespace Go.Proofs.YthmimipoooemjaaGreatDoor.Tlv
open Go.RowKit
attribute [local go_sem ↓] Go.wp_at_zero Go.wp_at_succ

end Go.Proofs.YthmimipoooemjaaGreatDoor.Tlv
end

section
/-
  Records as a whole: made, loaded, stored; the statements' Own and Back; which are the same.
-/
namespace Go.Proofs.YthmimipoooemjaaGreatDoor
open Go.RowKit
open Tlv (Tr BySlS AgreeS Agree)
open Crc (hid Kept Tab)

section
variable {P : Program}
theorem results_cell_mid {fn : Func} {p : Tmp} {ty : TypeId} (h : fn.results = #[.cell p ty]) (tmps : Array Value) (w : World) (g o : Nat) (cs : List Value) (d : TypeDesc)
    (hp : tmps.getD p undef = .pointer (some ⟨g, o, none⟩)) (hc : w.rangeAt g o cs)
    (hu : P.underlying ty = some d) (hd : d.isRow = true) (hi : (P.info? ty).map (·.size) = some cs.length) :
    (results fn tmps).run P w = .ok (.agg cs.toArray) w := by
  have hp' : tmps[p]?.getD undef = .pointer (some ⟨g, o, none⟩) := by simpa using hp
  simp [results, h, hp', asAddr, run_loadVar_mid w g o ty cs d hc hu hd hi]
end

theorem there_of_block {w : World} {g : Nat} {cs : Array Value} {t : TypeId} (h : w.heap[g]? = some (.cells cs t (0, 0))) (o n : Nat) (hn : o + n ≤ cs.size) : w.there g o n := fun j hj => by
  have hlt : o + j < cs.size := by omega
  rw [cell_of_row w g (o + j) cs t (0, 0) h, frozen_of_row w g _ cs t h]
  exact ⟨by simp [hlt], rfl⟩

theorem range_new (w : World) (C : List Value) (ty : TypeId) : (w.alloc (.cells C.toArray ty)).rangeAt w.heap.size 0 C := fun j v hv => by
  rw [Nat.zero_add, World.cell?_alloc_at _ _ _ _ rfl]
  simpa using hv
theorem there_new (w : World) (C : List Value) (ty : TypeId) : (w.alloc (.cells C.toArray ty)).there w.heap.size 0 C.length := there_of_block (heap_alloc_new _ _) 0 C.length (by simp)

theorem rangeAt_below {B : Nat} {w w' : World} {g o : Nat} {C : List Value} (h : w.rangeAt g o C) (hb : Below B w w') (hg : g < B) : w'.rangeAt g o C := fun j v hv => (hb.cell (p := ⟨g, o + j, none⟩) hg).trans (h j v hv)
theorem rangeAt_kept {b : Nat} {w w' : World} {g o : Nat} {C : List Value} (h : w.rangeAt g o C) (hk : Kept b w w') (hg : g < w.heap.size) (hb : g ≠ b) : w'.rangeAt g o C := fun j v hv => (hk.cell (p := ⟨g, o + j, none⟩) hg hb).trans (h j v hv)
theorem setCells_below {B g : Nat} (h : B ≤ g) (w : World) (o : Nat) (cs : List Value) : Below B w (w.setCells g o cs) := by
  induction cs generalizing w o with
  | nil => exact Below.refl _ _
  | cons c cs ih => rw [World.setCells]; exact ((Below.refl B w).setCell (p := ⟨g, o, none⟩) h c).trans (ih _ _)
theorem setCells_size (w : World) (g o : Nat) (cs : List Value) : (w.setCells g o cs).heap.size = w.heap.size := by
  induction cs generalizing w o with
  | nil => rfl
  | cons c cs ih => rw [World.setCells, ih]; simp

end Go.Proofs.YthmimipoooemjaaGreatDoor
end

section
/-
  Which records are the same: the program's answer, and the reference's.
-/
namespace Go.Proofs.YthmimipoooemjaaGreatDoor
open Go.RowKit
open Tlv (Tr BySlS AgreeS Agree)
open Crc (hid Kept Tab)
end Go.Proofs.YthmimipoooemjaaGreatDoor
end

section
/-
  What Size and Put answer.
-/
namespace Go.Proofs.YthmimipoooemjaaGreatDoor
open Go.RowKit
open Tlv (Tr BySlS AgreeS Agree)
open Crc (hid Kept Tab)

/-- A table at b, its rows filled or not. -/
def TabX (w : World) (b : Nat) : Prop := ∃ f n, (f = 0 ∨ f = 1) ∧ Tab w b f n
theorem TabX.below {w w' : World} {b : Nat} (h : TabX w b) (k : Below w.heap.size w w') : TabX w' b := by
  obtain ⟨f, n, hf, ht⟩ := h
  exact ⟨f, n, hf, ht.below k⟩
theorem TabX.lt {w : World} {b : Nat} (h : TabX w b) : b < w.heap.size := by
  obtain ⟨f, n, hf, ht⟩ := h
  exact ht.1
theorem TabX.kept {b g : Nat} {w w' : World} (h : TabX w b) (k : Kept g w w') (hg : b ≠ g) : TabX w' b := by
  obtain ⟨f, n, hf, ht⟩ := h
  exact ⟨f, n, hf, ht.kept k hg⟩
theorem TabX.of {b : Nat} {n : Int} {w : World} (h : Tab w b 1 n) : TabX w b := ⟨1, n, .inr rfl, h⟩

theorem toCrc {S : Nat → Prop} {b : Nat} {w : World} {v : Value} {xs : List Int} (h : BySlS S w v xs) (hS : ∀ g, S g → g ≠ b ∧ g < w.heap.size) : Crc.BySl b w v (nats xs) := by
  obtain ⟨a, cap, rfl, h2, h3, h4, h5, h6, h7⟩ := h
  refine ⟨a, cap, by rw [nats_length], by rw [nats_length]; exact h2, h3, fun e => ⟨by rw [(h4 e).1]; rfl, (h4 e).2⟩, by rw [nats_length]; exact h5, nats_lt _ h6, fun hne => ?_⟩
  have hne' : xs ≠ [] := fun e => hne (by rw [e]; rfl)
  obtain ⟨g, o, e, hg, hc⟩ := h7 hne'
  refine ⟨g, o, e, (hS g hg).1, (hS g hg).2, fun i hi => ?_⟩
  rw [nats_length] at hi
  rw [hc i hi]
  have hx := h6 (xs.getD i 0) (by rw [List.getD_eq_getElem?_getD, List.getElem?_eq_getElem hi]; simp)
  simp only [nats, List.getD_eq_getElem?_getD, List.getElem?_map, List.getElem?_eq_getElem hi, Option.map_some, Option.getD_some] at hx ⊢
  congr 2
  omega

theorem BySlS.mono {S S' : Nat → Prop} {w : World} {v : Value} {xs : List Int} (h : BySlS S w v xs) (hS : ∀ g, S g → S' g) : BySlS S' w v xs := h.agree (fun _ _ => rfl) hS
theorem BySlS.kept {b : Nat} {S : Nat → Prop} {w w' : World} {v : Value} {xs : List Int} (h : BySlS S w v xs) (k : Kept b w w') (hS : ∀ g, S g → g ≠ b ∧ g < w.heap.size) : BySlS S w' v xs := h.agree (fun g hg => k.block g (hS g hg).2 (hS g hg).1) (fun _ h => h)
theorem BySlS.below {B : Nat} {S : Nat → Prop} {w w' : World} {v : Value} {xs : List Int} (h : BySlS S w v xs) (k : Below B w w') (hS : ∀ g, S g → g < B) : BySlS S w' v xs := h.agree (fun g hg => k.block g (hS g hg)) (fun _ h => h)

theorem rightB_of {k : Int} {nm bs : List Int} (h : RightR k nm bs) : rightB k bs.length = true := by
  obtain ⟨h1, h2, h3, _⟩ := h
  simp [rightB]; omega
theorem right_of {k : Int} {nm bs : List Int} (h : rightB k bs.length = true) (hn : nm.length = 32) (hx : ∀ x ∈ nm, 0 ≤ x ∧ x ≤ 255) (hy : ∀ x ∈ bs, 0 ≤ x ∧ x ≤ 255) : RightR k nm bs := by
  simp [rightB] at h
  exact ⟨by omega, by omega, by omega, hn, hx, hy⟩

set_option maxHeartbeats 1000000 in
set_option maxRecDepth 100000 in
theorem put_nil (C : List Value) (w : World) :
    Calls Tryz.prog 176 #[.pointer none, .agg C.toArray] w fun e w' => e = .returned (.tuple #[.slice none 0 0, .int .i64 18]) ∧ Below w.heap.size w w' := by
  go_enter Tryz.func176, Tryz.ntmps176
  go_wp2_with fail
  go_ret2
  exact ⟨rfl, (Below.refl _ _).alloc (Nat.le_refl _) _⟩

set_option maxHeartbeats 1000000 in
set_option maxRecDepth 100000 in
theorem put_no (ad : Addr) (k : Int) (nm bs : List Int) (a : Option Addr) (cap : Nat) (w : World) (hn : nm.length = 32) (hR : rightB k bs.length = false) :
    Calls Tryz.prog 176 #[.pointer (some ad), .agg (recA k nm (.slice a bs.length cap)).toArray] w fun e w' => e = .returned (.tuple #[.slice none 0 0, .int .i64 1]) ∧ Below w.heap.size w w' := by
  have HC0 := hid (recA_0 k nm (.slice a bs.length cap))
  have HC33 := hid (recA_33 k nm (.slice a bs.length cap) hn)
  have HL := hid (recA_length k nm (.slice a bs.length cap) hn)
  have HRR := hid hR
  clear hR
  obtain ⟨C, hC⟩ : ∃ C, recA k nm (.slice a bs.length cap) = C := ⟨_, rfl⟩
  rw [hC] at HC0 HC33 HL
  rw [hC]
  clear hC hn
  have HR := hid (range_new w C 56)
  have HI : Hid ((Tryz.prog.info? 56).map (·.size) = some C.length) := by rw [Hid, HL.out]; exact Tryz.info35
  go_enter Tryz.func176, Tryz.ntmps176
  go_wp2_with (refine wpList_load_mid (by rfl) 56 _ (by rfl) w.heap.size 0 (by rfl) C _ ?hc Tryz.underlying56 rfl HI.out ?_; (case hc => exact HR.out))
  refine (right13_any C k _ _ _ _ HC0.out HC33.out).mono ?_
  rintro e w1 ⟨rfl, hb1⟩
  rw [HRR.out]
  have HB1 : Hid (Below w.heap.size w w1) := ((Below.refl _ _).alloc (Nat.le_refl _) _).trans (hb1.mono (by simp))
  clear hb1
  go_wp2_with fail
  go_ret2
  exact ⟨rfl, HB1.out⟩

set_option maxHeartbeats 2000000 in
set_option maxRecDepth 100000 in
theorem put_yes (b : Nat) (k : Int) (nm bs : List Int) (v : Value) (w : World) (hT : TabX w b) (hb : Tlv.BySl 0 w.heap.size w v bs) (hR : RightR k nm bs) :
    Calls Tryz.prog 176 #[.pointer (some ⟨b, 0, none⟩), .agg (recA k nm v).toArray] w fun e w' => ∃ v', e = .returned (.tuple #[v', .int .i64 0]) ∧ Crc.Own w' w.heap.size v' (nats (frameR k nm bs)) ∧ Kept b w w' ∧ TabX w' b := by
  obtain ⟨a, cap, rfl, hr⟩ := id hb
  clear hr
  have HB := hid hb
  have hn := hR.2.2.2.1
  have HC0 := hid (recA_0 k nm (.slice a bs.length cap))
  have HC33 := hid (recA_33 k nm (.slice a bs.length cap) hn)
  have HL := hid (recA_length k nm (.slice a bs.length cap) hn)
  have HRR := hid hR
  have HSZ := hid (szT_rec hR)
  have HFL := hid (formR_length hR)
  have HT := hid hT
  have hbw := hT.lt
  clear hR hb hT
  have HV := hid (value_any k nm bs (.slice a bs.length cap))
  obtain ⟨C, hC⟩ : ∃ C, recA k nm (.slice a bs.length cap) = C := ⟨_, rfl⟩
  rw [hC] at HC0 HC33 HL HV
  rw [hC]
  clear hC hn
  have HR := hid (range_new w C 56)
  have HI : Hid ((Tryz.prog.info? 56).map (·.size) = some C.length) := by rw [Hid, HL.out]; exact Tryz.info35
  go_enter Tryz.func176, Tryz.ntmps176
  go_wp2_with (refine wpList_load_mid (by rfl) 56 _ (by rfl) w.heap.size 0 (by rfl) C _ ?hc Tryz.underlying56 rfl HI.out ?_; (case hc => exact HR.out))
  refine (right13_any C k _ _ _ _ HC0.out HC33.out).mono ?_
  rintro e w1 ⟨rfl, hb1⟩
  rw [rightB_of HRR.out]
  have HB1 : Hid (Below w.heap.size w w1) := ((Below.refl _ _).alloc (Nat.le_refl _) _).trans (hb1.mono (by simp))
  have HR1 := hid (rangeAt_below HR.out hb1 (by simp))
  clear hb1
  go_wp2_with (refine wpList_load_mid (by rfl) 56 _ (by rfl) w.heap.size 0 (by rfl) C _ ?hc Tryz.underlying56 rfl HI.out ?_; (case hc => exact HR1.out))
  refine (HV.out w1 HRR.out.1 HRR.out.2.1 HRR.out.2.2.2.1 HRR.out.2.2.2.2.1 (HB.out.agree (Agree.below HB1.out) (Nat.le_refl _) HB1.out.size)).mono ?_
  rintro e w2 ⟨sb, sk, rfl, hr2, hb2⟩
  have HR2 := hid hr2
  have HB2 : Hid (Below w.heap.size w w2) := HB1.out.trans (hb2.mono HB1.out.size)
  clear hr2 hb2
  go_wp2_with fail
  refine (Tlv.Put_yes (recT k nm bs) sb sk _ (HR2.out.agree (Agree.refl _ _ _) (Nat.zero_le _) (Nat.le_refl _)) (by rw [HSZ.out]; omega)).mono ?_
  rintro e w3 ⟨vf, rfl, hf3, hb3⟩
  obtain ⟨af, cf, rfl, hrf⟩ := id hf3
  clear hrf
  have HF3 := hid hf3
  have HB3 : Hid (Below w.heap.size w w3) := HB2.out.trans (hb3.mono HB2.out.size)
  have hz2 : w.heap.size ≤ w2.heap.size := HB2.out.size
  clear hf3 hb3
  go_wp2_with fail
  obtain ⟨f, n, hf, ht⟩ := (HT.out.below HB3.out)
  have hcf : Crc.BySl b w3 (.slice af (Tlv.formOf 2 (recT k nm bs)).length cf) (nats (formR k nm bs)) := toCrc HF3.out.toS (fun g hg => ⟨by omega, hg.2⟩)
  refine (Crc.seal_any b f n _ (nats (formR k nm bs)) _ hf ht hcf (by rw [nats_length, HFL.out]; have := HRR.out.2.2.1; omega)).mono ?_
  rintro e w4 ⟨v', rfl, ho, hk4, ht4⟩
  have HO := hid ho
  have HK4 := hid hk4
  have HT4 := hid ht4
  clear ho hk4 ht4 ht hcf hf
  go_wp2_with fail
  go_ret2
  refine ⟨v', rfl, ?_, (Kept.below HB3.out).trans HK4.out, TabX.of HT4.out⟩
  rw [frameR, sealI_nats]
  exact HO.out.mono HB3.out.size

end Go.Proofs.YthmimipoooemjaaGreatDoor
end

section
/-
  A pack is begun.
-/
namespace Go.Proofs.YthmimipoooemjaaGreatDoor
open Go.RowKit Go.Shelf
open Sim (hid Kp No PS Done Blk nm pCreate finds pBytes)

theorem TabX.kp {L : Nat → Prop} {w w' : World} {b : Nat} (h : TabX w b) (k : Kp L w w') (hb : ¬ L b) : TabX w' b := by
  have hlt := h.lt
  obtain ⟨f, n, hf, ht⟩ := h
  refine ⟨f, n, hf, ?_⟩
  obtain ⟨h1, h2, h3, h4, h5, h6, h7⟩ := ht
  have c : ∀ j, w'.cell? ⟨b, j, none⟩ = w.cell? ⟨b, j, none⟩ := fun j => k.cell (p := ⟨b, j, none⟩) hlt hb
  refine ⟨Nat.lt_of_lt_of_le h1 k.size, (c _).trans h2, (c _).trans h3, (c _).trans h4, fun j hj => ?_, fun e j hj => (c _).trans (h6 e j hj), fun j => (k.frozen (p := ⟨b, j, none⟩) hlt hb).trans (h7 j)⟩
  obtain ⟨x, hx⟩ := h5 j hj
  exact ⟨x, (c _).trans hx⟩
theorem kp_kept {b : Nat} {w w' : World} (k : Crc.Kept b w w') : Kp (fun x => x = b) w w' := ⟨k.os, k.tape, k.output, k.size, fun i hi hL => k.block i hi hL⟩
theorem sys_kept {P : Nat → Prop} {N b s : Nat} {w w' : World} {p : PS} (h : Sim.Sys P N w s p) (k : Crc.Kept b w w') (hb : ¬ P b) : Sim.Sys P N w' s p :=
  h.kp (kp_kept k) (fun x hx => by rw [hx]; exact hb)

/-- A writer's cells. -/
def wrC (s b : Nat) (i sz ct : Int) (cl : Bool) : List Value := [.pointer (some ⟨s, 0, none⟩), .pointer (some ⟨b, 0, none⟩), .int .i64 i, .int .i64 sz, .int .i64 ct, .bool cl]
def WrAt (w : World) (g s b : Nat) (i sz ct : Int) (cl : Bool) : Prop := Blk w g 230 (wrC s b i sz ct cl)

theorem name_le (p : ByteArray) (hp : p.size ≤ 100) (i : Nat) (h : i < 100) : (sortB p i).size ≤ 20000000 := by
  have := dec_small i h
  have e : (sortB p i).size = p.size + (Lib.decDigits i).length := by
    rw [sortB, ByteArray.size_append]
    rfl
  omega

end Go.Proofs.YthmimipoooemjaaGreatDoor
end

section
/-
  What is said of no file system, no table, no writer.
-/
namespace Go.Proofs.YthmimipoooemjaaGreatDoor
open Go.RowKit Go.Shelf
open Sim (hid Kp No PS Done Blk nm pCreate finds pBytes)
theorem wrongW_any (w : World) (g s b : Nat) (i sz ct : Int) (cl : Bool) (h : WrAt w g s b i sz ct cl) : Calls Tryz.prog 141 #[.pointer (some ⟨g, 0, none⟩)] w fun e w' => e = .returned (.int .i64 (if cl then 13 else 0)) ∧ w' = w := by
  have c0 : w.cell? ⟨g, 0, none⟩ = some (.pointer (some ⟨s, 0, none⟩)) := h.cell 0
  have c5 : w.cell? ⟨g, 5, none⟩ = some (.bool cl) := h.cell 5
  clear h
  cases cl with
  | false =>
    go_enter Tryz.func141, Tryz.ntmps141
    go_wp2
    go_ret
    exact ⟨rfl, rfl⟩
  | true =>
    go_enter Tryz.func141, Tryz.ntmps141
    go_wp2
    go_ret
    exact ⟨rfl, rfl⟩
theorem pread_nil (v : Value) (z : Int) (w : World) : Calls Tryz.prog 99 #[.pointer none, v, .int .i64 z] w fun e w' => e = .returned (.tuple #[.slice none 0 0, .int .i64 18]) ∧ w' = w := by
  go_enter Tryz.func99, Tryz.ntmps99
  go_wp2
  go_ret2
  exact ⟨rfl, rfl⟩
theorem load_nil (a : Addr) (z : Int) (w : World) : Calls Tryz.prog 58 #[.pointer none, .pointer (some a), .int .i64 z] w fun e w' => e = .returned (.tuple #[.slice none 0 0, .int .i64 18]) ∧ w' = w := by
  go_enter Tryz.func58, Tryz.ntmps58
  go_wp2_with (go_at_call 99; refine (pread_nil _ _ _).mono ?_; rintro e w1 ⟨rfl, h⟩; subst w1)
  go_ret2
  exact ⟨rfl, rfl⟩
theorem pickI_nil (f : Value) (w : World) : Calls Tryz.prog 96 #[.pointer none, f] w fun e w' => e = .returned (.slice none 0 0) ∧ w' = w := by
  go_enter Tryz.func96, Tryz.ntmps96
  go_wp2_with (go_at_call 110; refine (Sim.list_nil _).mono ?_; rintro e w1 ⟨rfl, h⟩; subst w1)
  go_loop [5, 13] (fun l i => l = .slice none 0 0 ∧ i = .int .i64 0) (fun _ _ => 0)
  case atStart => exact ⟨rfl, rfl⟩
  case round =>
    obtain ⟨rfl, rfl⟩ := hrel
    go_wp2
    go_ret
    exact ⟨rfl, rfl⟩
theorem ids_nil (w : World) : Calls Tryz.prog 57 #[.pointer none] w fun e w' => e = .returned (.slice none 0 0) ∧ Below w.heap.size w w' := by
  have hs : Hid (∀ V, Calls Tryz.prog 98 #[.slice none 0 0] V fun e w' => e = .returned (.tuple #[]) ∧ w' = V) := fun V => Any.slices_Sort_int_none Sim.Tryz.sortI none 0 V
  go_enter Tryz.func57, Tryz.ntmps57
  go_wp2_with (first
    | (go_at_call 96; refine (pickI_nil _ _).mono ?_; rintro e w1 ⟨rfl, h⟩; subst w1)
    | (go_at_call 98; refine (hs.out _).mono ?_; rintro e w1 ⟨rfl, h⟩; subst w1))
  go_ret
  exact ⟨rfl, Below.refl _ _⟩
end Go.Proofs.YthmimipoooemjaaGreatDoor
end

section
/-
  The form that bytes begin with, cut out by its own head.
-/
namespace Go.Proofs.YthmimipoooemjaaGreatDoor
open Go.RowKit
open Tlv (Tr BySlS AgreeS Agree)
open Crc (hid Kept Tab)
end Go.Proofs.YthmimipoooemjaaGreatDoor
end

section
/-
  The record whose value a tree is, as the program finds it.
-/
namespace Go.Proofs.YthmimipoooemjaaGreatDoor
open Go.RowKit
open Tlv (Tr BySlS AgreeS Agree)
open Crc (hid Kept Tab)
/-- What lies at g: a record of kind k, of no name yet, with the body v. -/
def Half (w W : World) (k : Int) (nm : List Int) (v : Value) (g : Nat) : Prop := Below w.heap.size w W ∧ w.heap.size ≤ g ∧ g < W.heap.size ∧ W.rangeAt g 0 (recA k nm v) ∧ W.there g 0 34

theorem Half.drew {w W : World} {k : Int} {nm : List Int} {v : Value} {g : Nat} (h : Half w W k nm v g) : Half w W.drew k nm v g := by
  obtain ⟨h1, h2, h3, h4, h5⟩ := h
  exact ⟨h1.drew, h2, h3, by rwa [World.rangeAt_drew], by rwa [World.there_drew]⟩

theorem app_right {A A0 T : List Value} {i : Nat} (h : A.length = A0.length) (hi : A.length ≤ i) : (A ++ T)[i]? = (A0 ++ T)[i]? := by
  rw [List.getElem?_append_right hi, List.getElem?_append_right (by omega), h]

theorem Half.named {w W : World} {k : Int} {bn : List Int} {v : Value} {g : Nat} (h : Half w W k (List.replicate 32 0) v g) (ht : W.there g 1 (u8s (bn.take 32)).length) : Half w (W.setCells g 1 (u8s (bn.take 32))) k (pad32 bn) v g := by
  obtain ⟨h1, h2, h3, h4, h5⟩ := h
  refine ⟨h1.trans (setCells_below h2 _ _ _), h2, by rw [setCells_size]; exact h3, fun j u hj => ?_, World.there_setCells h5 _ _ _⟩
  have hl : (u8s (bn.take 32)).length = (bn.take 32).length := u8s_length _
  have hl2 : (bn.take 32).length ≤ 32 := by rw [List.length_take]; omega
  have key : j = 0 ∨ (1 ≤ j ∧ j < 1 + (bn.take 32).length) ∨ 1 + (bn.take 32).length ≤ j := by omega
  rcases key with rfl | ⟨j1, j2⟩ | j3
  · rw [Nat.zero_add, World.cell?_setCells_out g _ 1 W ⟨g, 0, none⟩ (fun _ _ => .inl (by simp))]
    exact h4 0 u hj
  · obtain ⟨i, rfl⟩ : ∃ i, j = 1 + i := ⟨j - 1, by omega⟩
    have hi : i < (u8s (bn.take 32)).length := by omega
    rw [Nat.zero_add, World.cell?_setCells_in g _ 1 W (fun i hi => (ht i hi).1) i hi, ← hj, recA, Nat.add_comm, List.getElem?_cons_succ, show u8s (pad32 bn) = u8s (bn.take 32) ++ u8s (List.replicate (32 - bn.length) 0) by simp [pad32, u8s], List.append_assoc, List.getElem?_append_left hi]
    exact (List.getElem?_eq_getElem hi).symm
  · rw [Nat.zero_add, World.cell?_setCells_out g _ 1 W ⟨g, j, none⟩ (fun _ _ => .inr (by show 1 + _ ≤ j; omega))]
    have h6 := h4 j u (by
      rw [← hj]
      obtain ⟨i, rfl⟩ : ∃ i, j = i + 1 := ⟨j - 1, by omega⟩
      rw [recA, recA, List.getElem?_cons_succ, List.getElem?_cons_succ]
      have e1 : u8s (pad32 bn) = u8s (bn.take 32) ++ u8s (List.replicate (32 - bn.length) 0) := by simp [pad32, u8s]
      have e2 : u8s (List.replicate 32 0) = u8s (List.replicate (bn.take 32).length 0) ++ u8s (List.replicate (32 - bn.length) 0) := by
        simp only [u8s, List.map_replicate, List.replicate_append_replicate]
        congr 1
        rw [List.length_take]
        omega
      rw [e1, e2, List.append_assoc, List.append_assoc]
      exact app_right (by rw [u8s_length, u8s_length]; simp) (by rw [u8s_length, List.length_replicate]; omega))
    rw [Nat.zero_add] at h6
    exact h6

end Go.Proofs.YthmimipoooemjaaGreatDoor
end

section
/-
  What Open and the reference's Open do.
-/
namespace Go.Proofs.YthmimipoooemjaaGreatDoor.Crc
open Go.RowKit

/-- Four bytes held against four. -/
theorem eq62 (a b c d a' b' c' d' : Int) (w : World) : (Op.equalIn 10000 258 (.agg #[.int .u8 a, .int .u8 b, .int .u8 c, .int .u8 d]) (.agg #[.int .u8 a', .int .u8 b', .int .u8 c', .int .u8 d'])).run Tryz.prog w = .ok (a == a' && b == b' && c == c' && d == d') w := by
  have u5 := Tryz.underlying5
  have a5 := Tryz.isAgg5
  have z5 := Tryz.sizeOf5
  rw [show (10000 : Nat) = 9999 + 1 from rfl, Op.equalIn]
  simp only [Sem.run_bind, run_underlying Tryz.underlying258, Result.andThen_ok]
  simp only [Std.Legacy.Range.forIn_eq_forIn_range', Std.Legacy.Range.size, Nat.sub_zero, Nat.add_sub_cancel, Nat.div_one, List.range'_succ, List.range'_zero, List.forIn_cons, List.forIn_nil]
  go_simp
  by_cases h1 : a = a' <;> by_cases h2 : b = b' <;> by_cases h3 : c = c' <;> by_cases h4 : d = d' <;> simp [h1, h2, h3, h4]

theorem BySl.take {b : Nat} {w : World} {a : Option Addr} {cap k : Nat} {bs : List Nat} (h : BySl b w (.slice a bs.length cap) bs) (hk : k ≤ bs.length) : BySl b w (.slice a k cap) (bs.take k) := by
  obtain ⟨a', cap', e, h2, h3, h4, h5, h6, h7⟩ := h
  cases e
  have hl : (bs.take k).length = k := List.length_take_of_le hk
  refine ⟨a, cap, by rw [hl], by omega, h3, fun e => ⟨by rw [(h4 e).1]; simp, (h4 e).2⟩, by omega, fun x hx => h6 x (List.mem_of_mem_take hx), fun hne => ?_⟩
  obtain ⟨g, o, e, hgb, hg, hc⟩ := h7 (by intro e; subst e; simp at hne)
  refine ⟨g, o, e, hgb, hg, fun i hi => ?_⟩
  rw [hl] at hi
  rw [hc i (by omega)]
  simp [hi]

set_option maxHeartbeats 2000000 in
set_option maxRecDepth 100000 in
theorem open_any (b f : Nat) (n : Int) (v : Value) (xs : List Nat) (y0 y1 y2 y3 : Nat) (w : World) (hf : f = 0 ∨ f = 1) (ht : Tab w b f n) (h : BySl b w v (xs ++ [y0, y1, y2, y3])) (hl : xs.length ≤ 80000) :
    Calls Tryz.prog 127 #[.pointer (some ⟨b, 0, none⟩), v] w fun e w' => Kept b w w' ∧ Tab w' b 1 (wrap64 (n + xs.length)) ∧
      ∃ v' q, e = .returned (.tuple #[v', .int .i64 q]) ∧ ((le4 (more 0 xs) = [y0, y1, y2, y3] ∧ q = 0 ∧ BySl b w' v' xs) ∨ (le4 (more 0 xs) ≠ [y0, y1, y2, y3] ∧ q = 4 ∧ v' = .slice none 0 0)) := by
  have H := hid h
  have T := hid ht
  obtain ⟨a, cap, rfl, h2, h3, h4, h5, h6, h7⟩ := h
  obtain ⟨g, o, rfl, hgb, hg, hc⟩ := h7 (by simp)
  have hN : (xs ++ [y0, y1, y2, y3]).length = xs.length + 4 := by simp
  have hat : ∀ i, (xs ++ [y0, y1, y2, y3]).getD (xs.length + i) 0 = [y0, y1, y2, y3].getD i 0 := fun i => by simp [List.getElem?_append_right]
  have k0 := hc (xs.length + 0) (by omega)
  have k1 := hc (xs.length + 1) (by omega)
  have k2 := hc (xs.length + 2) (by omega)
  have k3 := hc (xs.length + 3) (by omega)
  rw [hat] at k0 k1 k2 k3
  simp only [List.getD_cons_zero, List.getD_cons_succ, Nat.add_zero, ← Nat.add_assoc] at k0 k1 k2 k3
  have H1 : Hid (BySl b w (.slice (some ⟨g, o, none⟩) xs.length cap) xs) := by
    have := BySl.take H.out (k := xs.length) (by omega)
    rw [List.take_left' rfl] at this
    exact this
  rw [hN] at H h2 ⊢
  obtain ⟨N, hN2⟩ : ∃ N, xs.length = N := ⟨_, rfl⟩
  have HN := hid hN2
  rw [hN2] at H h2 k0 k1 k2 k3 hl H1 ⊢
  have hm := more_lt 0 xs
  obtain ⟨s, hs⟩ : ∃ s, more 0 xs = s := ⟨_, rfl⟩
  have HS := hid hs
  rw [hs] at hm ⊢
  clear hs hN2 hat hc h7 h6 h4 h5 hN ht
  unfold maxLen at h3
  go_enter Tryz.func127, Tryz.ntmps127
  go_upto_region 6 with fail
  have hcN : ¬ cap = N := by omega
  have c12 : Hid (Calls Tryz.prog 164 #[.pointer (some ⟨b, 0, none⟩), .slice (some ⟨g, o, none⟩) N cap] w.drew fun e w1 => e = .returned (.int .u32 (s : Nat)) ∧ Hid (Kept b w w1) ∧ Hid (Tab w1 b 1 (wrap64 (n + N))) ∧ g < w1.heap.size ∧
      w1.cell? ⟨g, o + N, none⟩ = some (.int .u8 (y0 : Nat)) ∧ w1.cell? ⟨g, o + N + 1, none⟩ = some (.int .u8 (y1 : Nat)) ∧ w1.cell? ⟨g, o + N + 2, none⟩ = some (.int .u8 (y2 : Nat)) ∧ w1.cell? ⟨g, o + N + 3, none⟩ = some (.int .u8 (y3 : Nat))) := by
    have h := sum_any b f n (.slice (some ⟨g, o, none⟩) N cap) xs w.drew hf T.out H1.out
    refine h.mono ?_
    rw [HS.out, HN.out]
    rintro e w1 ⟨rfl, hk0, ht1⟩
    have hk1 : Kept b w w1 := ((Kept.refl b w).drew).trans hk0
    exact ⟨rfl, hk1, ht1, Nat.lt_of_lt_of_le hg hk1.size, (hk1.cell (p := ⟨g, o + N, none⟩) hg hgb).trans k0, (hk1.cell (p := ⟨g, o + N + 1, none⟩) hg hgb).trans k1, (hk1.cell (p := ⟨g, o + N + 2, none⟩) hg hgb).trans k2, (hk1.cell (p := ⟨g, o + N + 3, none⟩) hg hgb).trans k3⟩
  have c22 : Hid (∀ w1 : World, g < w1.heap.size → w1.cell? ⟨g, o + N, none⟩ = some (.int .u8 (y0 : Nat)) → w1.cell? ⟨g, o + N + 1, none⟩ = some (.int .u8 (y1 : Nat)) → w1.cell? ⟨g, o + N + 2, none⟩ = some (.int .u8 (y2 : Nat)) → w1.cell? ⟨g, o + N + 3, none⟩ = some (.int .u8 (y3 : Nat)) →
      Calls Tryz.prog 163 #[.int .u32 s] w1 fun e w2 => e = .returned (.agg #[.int .u8 ((s : Int) % 256), .int .u8 ((s : Int) / 256 % 256), .int .u8 ((s : Int) / 65536 % 256), .int .u8 ((s : Int) / 16777216)]) ∧ Hid (Below w1.heap.size w1 w2) ∧
        w2.cell? ⟨g, o + N, none⟩ = some (.int .u8 (y0 : Nat)) ∧ w2.cell? ⟨g, o + N + 1, none⟩ = some (.int .u8 (y1 : Nat)) ∧ w2.cell? ⟨g, o + N + 2, none⟩ = some (.int .u8 (y2 : Nat)) ∧ w2.cell? ⟨g, o + N + 3, none⟩ = some (.int .u8 (y3 : Nat))) := by
    intro w1 hg1 d0 d1 d2 d3
    refine (sumBytes_any s hm w1).mono ?_
    rintro e w2 ⟨rfl, hb⟩
    exact ⟨rfl, hb, (hb.cell (p := ⟨g, o + N, none⟩) hg1).trans d0, (hb.cell (p := ⟨g, o + N + 1, none⟩) hg1).trans d1, (hb.cell (p := ⟨g, o + N + 2, none⟩) hg1).trans d2, (hb.cell (p := ⟨g, o + N + 3, none⟩) hg1).trans d3⟩
  have hat : ∀ w, (Instr.arrayAt 258 (.slice (some ⟨g, o + N, none⟩) 4 (cap - N))).run Tryz.prog w = .ok (.pointer (some ⟨g, o + N, none⟩)) w := fun w => run_arrayAt w 258 5 4 _ 4 _ Tryz.underlying258 (Nat.le_refl _)
  have heq := fun w => eq62 ((s : Int) % 256) ((s : Int) / 256 % 256) ((s : Int) / 65536 % 256) ((s : Int) / 16777216) y0 y1 y2 y3 w
  have hE : Hid (((s : Int) % 256 == (y0 : Int) && (s : Int) / 256 % 256 == (y1 : Int) && (s : Int) / 65536 % 256 == (y2 : Int) && (s : Int) / 16777216 == (y3 : Int)) = decide (le4 s = [y0, y1, y2, y3])) := by
    rw [Hid, Bool.eq_iff_iff]
    simp [le4]
    omega
  generalize ((s : Int) % 256 == (y0 : Int) && (s : Int) / 256 % 256 == (y1 : Int) && (s : Int) / 65536 % 256 == (y2 : Int) && (s : Int) / 16777216 == (y3 : Int)) = E at heq hE
  go_cut [25] (fun c wx => c = .bool (!E) ∧ Hid (Kept b w wx) ∧ Hid (Tab wx b 1 (wrap64 (n + N))))
  case first =>
    go_region_with (first | (go_at_call 164; refine c12.out.mono ?_; rintro e w1 ⟨rfl, HK1, HT1, hg1, d0, d1, d2, d3⟩) | (go_at_call 163; refine (c22.out w1 hg1 d0 d1 d2 d3).mono ?_; rintro e w2 ⟨rfl, HB2, e0, e1, e2, e3⟩))
    all_goals (go_wp2_with fail; go_meet; exact ⟨rfl, HK1.out.trans (Kept.below HB2.out), HT1.out.below HB2.out⟩)
  case rest =>
    obtain ⟨rfl, HK, HT⟩ := hcut
    clear c12 c22 heq hat k0 k1 k2 k3
    cases E
    · go_wp2_with fail
      go_ret2
      exact ⟨HK.out, HT.out, _, _, rfl, .inr ⟨of_decide_eq_false hE.out.symm, rfl, rfl⟩⟩
    · go_wp2_with fail
      have hkb := HK.out
      refine (clone_any b _ xs _ HT.out.1 (H1.out.kept hkb) (by rw [HN.out]; omega)).mono ?_
      rintro e w3 ⟨v', rfl, hv, hb3⟩
      have HV := hid hv
      have HB3 := hid hb3
      clear hv hb3 hkb
      go_wp2_with fail
      go_ret2
      exact ⟨HK.out.trans (Kept.below HB3.out), HT.out.below HB3.out, _, _, rfl, .inl ⟨of_decide_eq_true hE.out.symm, rfl, HV.out⟩⟩

end Go.Proofs.YthmimipoooemjaaGreatDoor.Crc
end

section
/-
  What Take answers.
-/
namespace Go.Proofs.YthmimipoooemjaaGreatDoor
open Go.RowKit
open Tlv (Tr BySlS AgreeS Agree)
open Crc (hid Kept Tab)
theorem Kept.then {b : Nat} {w W V : World} (h : Kept b w W) (k : Below w.heap.size W V) : Kept b w V :=
  ⟨k.os.trans h.os, k.tape.trans h.tape, k.output.trans h.output, Nat.le_trans h.size k.size, fun i hi hb => (k.block i hi).trans (h.block i hi hb)⟩
theorem Kept.set {b : Nat} {u w : World} {g o : Nat} {cs : List Value} (hg : u.heap.size ≤ g ∧ b < u.heap.size) (h : Kept b u w) : Kept b u (w.setCells g o cs) :=
  Kept.then h (setCells_below hg.1 _ _ _)
theorem TabX.set {b g o : Nat} {u w : World} {cs : List Value} (h : TabX w b) (hg : u.heap.size ≤ g ∧ b < u.heap.size) : TabX (w.setCells g o cs) b := by
  obtain ⟨f, n, hf, ht⟩ := h
  have hb := setCells_below (B := u.heap.size) hg.1 w o cs
  refine ⟨f, n, hf, ?_⟩
  obtain ⟨h1, h2, h3, h4, h5, h6, h7⟩ := ht
  have c : ∀ j, (w.setCells g o cs).cell? ⟨b, j, none⟩ = w.cell? ⟨b, j, none⟩ := fun j => hb.cell (p := ⟨b, j, none⟩) hg.2
  refine ⟨by rw [setCells_size]; exact h1, (c _).trans h2, (c _).trans h3, (c _).trans h4, fun j hj => ?_, fun e j hj => (c _).trans (h6 e j hj), fun j => (hb.frozen (p := ⟨b, j, none⟩) hg.2).trans (h7 j)⟩
  obtain ⟨x, hx⟩ := h5 j hj
  exact ⟨x, (c _).trans hx⟩

end Go.Proofs.YthmimipoooemjaaGreatDoor
end

section
/-
  A range over a function that itself writes one block and hands out memory that it has made: the caller's law.
-/
namespace Go.Proofs.YthmimipoooemjaaGreatDoor
open Go.RowKit
open Tlv (Tr BySlS AgreeS Agree)
open Crc (hid Kept Tab)
theorem put_below {B l : Nat} (W : World) (o : Obj) (h : B ≤ l) (hl : l < W.heap.size) : Below B W (W.putObj l o) :=
  (Below.refl B W).grown (grownBy_putObj' W l o) (by omega) (fun k e => by cases e; omega)

/-- The record of a loop, in a block from B on, is put anew; all else stands. -/
structure Putl (B : Nat) (U W : World) : Prop where
  os : W.os = U.os
  tape : W.tape = U.tape
  output : W.output = U.output
  size : W.heap.size = U.heap.size
  at' : ∃ l lp, B ≤ l ∧ U.heap[l]? = some (.loop lp) ∧ ∀ i, i ≠ l → W.heap[i]? = U.heap[i]?

theorem Putl.below {B : Nat} {U W : World} (h : Putl B U W) : Below B U W := by
  obtain ⟨l, lp, h1, h2, h3⟩ := h.at'
  exact ⟨h.os, h.tape, h.output, by have := h.size; omega, fun k hk => h3 k (by omega)⟩
/-- Cells stand. -/
theorem Putl.block {B : Nat} {U W : World} (h : Putl B U W) {g : Nat} {cs : Array Value} {t : TypeId} {fr : Nat × Nat} (hg : U.heap[g]? = some (.cells cs t fr)) : W.heap[g]? = some (.cells cs t fr) := by
  obtain ⟨l, lp, h1, h2, h3⟩ := h.at'
  rw [h3 g (fun e => by rw [e, h2] at hg; cases hg)]
  exact hg
theorem Putl.cell {B : Nat} {U W : World} (h : Putl B U W) {g o : Nat} {v : Value} (hc : U.cell? ⟨g, o, none⟩ = some v) : W.cell? ⟨g, o, none⟩ = some v := by
  obtain ⟨l, lp, h1, h2, h3⟩ := h.at'
  rw [World.cell?_of_block (w := U) (a := ⟨g, o, none⟩) (h3 g (fun e => by
    rw [e] at hc
    simp [World.cell?, h2] at hc))]
  exact hc

/-- What an iterator that may write block b, and no other that was there, tells: in round k values as V says, in memory from m on, where the caller had none yet; N rounds. T: what it asks of the world, and leaves. -/
def Tells (n gf : Nat) (lb : Array Value) (b : Nat) (T : World → Prop) (V : Nat → Nat → Array Value → World → Prop) (N : Nat) : Prop :=
  ∀ (l : Nat) (J : Nat → Nat → World → Prop) (Jx : Nat → World → Prop) (W : World), T W → (∀ k m U W', J k m U → T W' → Kept b U W' → J k m W') →
    (∀ k m U vs, k < N → m ≤ U.heap.size → J k m U → T U → V k m vs U → YieldAt Fence.wide (n - 1) Tryz.prog l vs U fun e W' => (e = .returned (.bool true) ∧ J (k + 1) W'.heap.size W' ∧ T W') ∨ (e = .returned (.bool false) ∧ Jx (k + 1) W')) →
    J 0 W.heap.size W →
    CallsIn Fence.wide n Tryz.prog gf (#[.func (.yield l) #[] #[]] ++ lb) W fun e W' => (∃ v, e = .returned v) ∧ ((∃ m, J N m W' ∧ T W') ∨ ∃ k, k ≤ N ∧ Jx k W')

/-- How the body of a round may be left: k rounds have come, this one with them. -/
def roundEnds (B : Nat) (T : World → Prop) (I : Nat → Nat → World → Prop) (Ix : Code → Nat → World → Prop) (k : Nat) (W : World) : Exit → Act → World → Prop
  | .normal, _, V => KeepsFrom B W V ∧ I k V.heap.size V ∧ T V
  | .ret, _, V => KeepsFrom B W V ∧ Ix .ret k V
  | .exit id, _, V => KeepsFrom B W V ∧ Ix (.exit id) k V
  | _, _, _ => False

theorem over_func {g : Operand} {ps : Array Tmp} {assign body : Code} {Q : Exit → Act → World → Prop} {a : Act} {w : World} {n gf : Nat} {lb : Array Value}
    (hg : a.eval g = .func (.func gf) #[] lb) (eg : ∀ args w, (callFunc gf args).run Tryz.prog w = .ok (.enter gf args) w)
    {b : Nat} {T : World → Prop} {V : Nat → Nat → Array Value → World → Prop} {N : Nat} (hseq : Tells (n - 1) gf lb b T V N) (hps : ∀ k m vs U, V k m vs U → vs.size = ps.size)
    (hb : b < w.heap.size) (hT : ∀ U W, T U → Below w.heap.size U W → T W) (hT0 : T w)
    (I : Nat → Nat → World → Prop) (Ix : Code → Nat → World → Prop) (hIk : ∀ k m U W, I k m U → T W → Kept b U W → I k m W) (hI : ∀ k m U W, I k m U → Putl w.heap.size U W → I k m W)
    (hIx : ∀ c k U W, Ix c k U → Putl w.heap.size U W → Ix c k W)
    (h0 : ∀ W, Below w.heap.size w W → W.heap.size = w.heap.size + 2 → I 0 W.heap.size W)
    (asg : Array Value → World → World) (hasg : ∀ vs W, Below W.heap.size W (asg vs W)) (hVa : ∀ k m vs U, V k m vs U → V k m vs (asg vs U)) (hIa : ∀ k m vs U, V k m vs U → I k m U → I k m (asg vs U)) (a₁ : Nat → Array Value → World → Act)
    (hV : ∀ k m vs U W, V k m vs U → Putl w.heap.size U W → V k m vs W)
    (hassign : ∀ (l k m : Nat) (vs : Array Value) (W : World) (K : Act → World → Prop), k < N → V k m vs W → K (a₁ k vs W) (asg vs W) →
      assign.wpIn (Fence.wide.inRound l) (n - 1 - 1) Tryz.prog (Exit.then K (fun _ _ _ => False)) { tmps := (ps.zip vs).foldl (fun t (p, v) => t.setIfInBounds p v) a.tmps, defers := [] } W)
    (hbody : ∀ (l k m : Nat) (vs : Array Value) (U W : World), k < N → m ≤ U.heap.size → V k m vs W → I k m W → T W → W.heap.size = (asg vs U).heap.size → (∀ i, U.heap.size ≤ i → W.heap[i]? = (asg vs U).heap[i]?) → w.heap.size ≤ U.heap.size → body.wpIn (Fence.wide.inRound l) (n - 1 - 1) Tryz.prog (roundEnds w.heap.size T I Ix (k + 1) W) (a₁ k vs U) W)
    (hdone : ∀ (D m : Nat) (W : World), w.heap.size ≤ D → I N m W → T W → W.heap[D]? = some (.deferred (some [])) → Q .normal { a with defers := { target := .collected D, args := #[] } :: a.defers } W)
    (hstop : ∀ (D : Nat) (c : Code) (k : Nat) (W : World), w.heap.size ≤ D → k ≤ N → Ix c k W → W.heap[D]? = some (.deferred (some [])) → c.wpIn Fence.wide n Tryz.prog Q { a with defers := { target := .collected D, args := #[] } :: a.defers } W) :
    (Code.rangeFunc g ps assign body).wpIn Fence.wide n Tryz.prog Q a w := by
  refine wpIn_rangeFunc fun fn hfn => ?_
  -- the record of the loop, by its state and the jump that is pending; it lies in the second of two new blocks
  let rec0 : LoopState → Option Code → Loop := fun st pe => { state := st, pending := pe, fn, tmps := a.tmps, params := ps, assign, body, defers := w.heap.size }
  have hB : ∀ (W : World) (o : Obj) (l : Nat), w.heap.size ≤ l → l < W.heap.size → Below w.heap.size W (W.putObj l o) := fun W o l h1 h2 => put_below W o h1 h2
  let Rec : LoopState → Option Code → World → Prop := fun st pe W => W.heap[w.heap.size + 1]? = some (.loop (rec0 st pe)) ∧ W.heap[w.heap.size]? = some (.deferred (some []))
  have start : Below w.heap.size w ((w.alloc (.deferred (some []))).alloc (.loop (rec0 .ready none))) := ((Below.refl _ w).alloc (Nat.le_refl _) _).alloc (by simp) _
  have r0 : Rec .ready none ((w.alloc (.deferred (some []))).alloc (.loop (rec0 .ready none))) := by
    refine ⟨?_, (Below.heap_alloc _ _ _ (by simp)).trans (World.alloc_heap_new w _)⟩
    have h := World.alloc_heap_new (w.alloc (.deferred (some []))) (.loop (rec0 .ready none))
    rwa [World.size_alloc] at h
  have hlt : ∀ {st pe W}, Rec st pe W → w.heap.size + 1 < W.heap.size := fun h => (Array.getElem?_eq_some_iff.1 h.1).1
  -- the record is put anew
  have put : ∀ {st pe W} (st' : LoopState) (pe' : Option Code), Rec st pe W → Rec st' pe' (W.putObj (w.heap.size + 1) (.loop (rec0 st' pe'))) := fun st' pe' h =>
    ⟨World.putObj_heap_same (hlt h), (World.putObj_heap_other (by omega)).trans h.2⟩
  have keep : ∀ {st pe W V}, Rec st pe W → KeepsFrom w.heap.size W V → Rec st pe V := fun h k => ⟨k.same _ _ (by omega) h.1 rfl, k.same _ _ (Nat.le_refl _) h.2 rfl⟩
  have psz : ∀ (W : World) (o : Obj) (l : Nat), (W.putObj l o).heap.size = W.heap.size := fun W o l => by simp [World.putObj]
  have poth : ∀ (W : World) (o : Obj), ∀ i, i ≠ w.heap.size + 1 → (W.putObj (w.heap.size + 1) o).heap[i]? = W.heap[i]? := fun W o i hi => World.putObj_heap_other (by omega)
  have putI : ∀ {k m st pe W} (st' : LoopState) (pe' : Option Code), Rec st pe W → I k m W → I k m (W.putObj (w.heap.size + 1) (.loop (rec0 st' pe'))) := fun {k m st pe W} st' pe' h hi =>
    hI k m W _ hi ⟨rfl, rfl, rfl, psz _ _ _, w.heap.size + 1, _, by omega, h.1, poth W _⟩
  have putIx : ∀ {c k st pe W} (st' : LoopState) (pe' : Option Code), Rec st pe W → Ix c k W → Ix c k (W.putObj (w.heap.size + 1) (.loop (rec0 st' pe'))) := fun {c k st pe W} st' pe' h hi =>
    hIx c k W _ hi ⟨rfl, rfl, rfl, psz _ _ _, w.heap.size + 1, _, by omega, h.1, poth W _⟩
  refine ⟨w.heap.size + 1, [{ target := .collected w.heap.size, args := #[] }], (w.alloc (.deferred (some []))).alloc (.loop (rec0 .ready none)), { target := .fn (.func gf) lb, args := #[.func (.yield (w.heap.size + 1)) #[] #[]] },
    (w.alloc (.deferred (some []))).alloc (.loop (rec0 .ready none)), gf, #[.func (.yield (w.heap.size + 1)) #[] #[]] ++ lb, (w.alloc (.deferred (some []))).alloc (.loop (rec0 .ready none)), ?_, ?_, fun _ _ => trivial, ?_, fun h => by simp [Fence.wide] at h, ?_⟩
  · exact run_enterLoop_outer _ _ _ _ _
  · simp only [resolve, hg]
    simp [go_sem]
  · simp [invoke, go_sem, eg]
  · refine (hseq (w.heap.size + 1) (fun k m W => I k m W ∧ Rec .ready none W) (fun k W => ∃ c, Ix c k W ∧ Rec .done (some c) W) _ (hT _ _ hT0 start) ?_ ?_ ⟨h0 _ start (by simp), r0⟩).mono ?_
    · -- the iterator writes block b
      rintro k m U W' ⟨hi, hr⟩ hTW hk
      have hs := hlt hr
      exact ⟨hIk k m U W' hi hTW hk, (hk.block _ hs (by omega)).trans hr.1, (hk.block _ (by omega) (by omega)).trans hr.2⟩
    · -- one round
      rintro k m U vs hkN hmU ⟨hi, hr⟩ hTU hVU
      have hs := hlt hr
      have ba := hasg vs U
      have hra : Rec .ready none (asg vs U) := ⟨(ba.block _ hs).trans hr.1, (ba.block _ (by omega)).trans hr.2⟩
      have hsa := hlt hra
      refine ⟨fn, _, assign, body, run_yield (P := Tryz.prog) (args := vs) hr.1 (hps k m vs U hVU), roundIn_of_wpIn hfn (hassign _ k m vs U _ hkN hVU ⟨_, run_beginRound hra.1 rfl, ?_⟩)⟩
      have b1 := hB (asg vs U) (.loop { rec0 .ready none with state := .busy }) _ (by omega) hsa
      have hTa : T (asg vs U) := hT _ _ hTU (ba.mono (by omega))
      have hIa' : I k m (asg vs U) := hIa k m vs U hVU hi
      have hVa' : V k m vs (asg vs U) := hVa k m vs U hVU
      refine wpIn_mono (hbody _ k m vs U _ hkN hmU ?_ (putI .busy none hra hIa') (hT _ _ hTa b1) ?_ ?_ (by omega)) ?_
      · exact hV k m vs _ _ hVa' ⟨rfl, rfl, rfl, psz _ _ _, w.heap.size + 1, _, by omega, hra.1, poth _ _⟩
      · exact psz _ _ _
      · intro i hi
        exact poth _ _ i (by omega)
      have hr1 : Rec .busy none ((asg vs U).putObj (w.heap.size + 1) (.loop { rec0 .ready none with state := .busy })) := put .busy none hra
      have ends : ∀ (jump : Option Code) (V : World), KeepsFrom w.heap.size ((asg vs U).putObj (w.heap.size + 1) (.loop { rec0 .ready none with state := .busy })) V →
          (Instr.endRound (w.heap.size + 1) jump).run Tryz.prog V = .ok (.bool jump.isNone) (V.putObj (w.heap.size + 1) (.loop (rec0 (if jump.isNone then .ready else .done) jump))) ∧
          Rec (if jump.isNone then .ready else .done) jump (V.putObj (w.heap.size + 1) (.loop (rec0 (if jump.isNone then .ready else .done) jump))) ∧ Below w.heap.size V (V.putObj (w.heap.size + 1) (.loop (rec0 (if jump.isNone then .ready else .done) jump))) ∧ Rec .busy none V := fun jump V hk => by
        have hr2 := keep hr1 hk
        exact ⟨run_endRound (P := Tryz.prog) jump hr2.1, put _ _ hr2, hB V _ _ (by omega) (hlt hr2), hr2⟩
      rintro e a3 V hp
      cases e with
      | normal =>
        obtain ⟨hk, hi2, ht2⟩ := hp
        obtain ⟨h1, h2, h3, h4⟩ := ends none V hk
        exact ⟨_, _, h1, .inl ⟨rfl, ⟨by rw [psz]; exact putI _ _ h4 hi2, h2⟩, hT _ _ ht2 h3⟩⟩
      | ret =>
        obtain ⟨hk, hi2⟩ := hp
        obtain ⟨h1, h2, h3, h4⟩ := ends (some .ret) V hk
        exact ⟨_, _, h1, .inr ⟨rfl, .ret, putIx _ _ h4 hi2, h2⟩⟩
      | exit id =>
        obtain ⟨hk, hi2⟩ := hp
        obtain ⟨h1, h2, h3, h4⟩ := ends (some (.exit id)) V hk
        exact ⟨_, _, h1, .inr ⟨rfl, .exit id, putIx _ _ h4 hi2, h2⟩⟩
      | goto t => exact hp.elim
      | panic ch => exact hp.elim
      | outgrown => exact hp.elim
    · -- behind the iterator
      rintro e V ⟨⟨v, rfl⟩, (⟨m, ⟨hi, hr⟩, ht⟩ | ⟨k, hk, c, hi, hr⟩)⟩
      · exact ⟨none, _, run_endLoop (P := Tryz.prog) hr.1 (by simp [rec0]), hdone _ m _ (Nat.le_refl _) (putI .exhausted none hr hi) (hT _ _ ht (hB V _ _ (Nat.le_succ _) (hlt hr))) ((World.putObj_heap_other (by omega)).trans hr.2)⟩
      · exact ⟨some c, _, run_endLoop (P := Tryz.prog) hr.1 (by simp [rec0]), hstop _ c k _ (Nat.le_refl _) hk (putIx .exhausted (some c) hr hi) ((World.putObj_heap_other (by omega)).trans hr.2)⟩

end Go.Proofs.YthmimipoooemjaaGreatDoor
end

section
/-
  Plain mathematics: what a scan is told, frame behind frame.
-/
namespace Go.Proofs.YthmimipoooemjaaGreatDoor

/-- What is told: where, and what Take answers there. -/
abbrev Item : Type := Nat × (Int × (Int × List Int × List Int) × Nat)

def toldN : Nat → List Int → Nat → List Item
  | 0, _, _ => []
  | k + 1, xs, p => if xs.length ≤ p then [] else (p, takeF (xs.drop p)) :: if (takeF (xs.drop p)).1 = 0 then toldN k xs (p + (takeF (xs.drop p)).2.2) else []

/-- All that is told from p on. -/
def tl (xs : List Int) (p : Nat) : List Item := toldN (xs.length + 1 - p) xs p

/-- The good ones, where the first that is none begins, and the fault there. -/
def scanR : List Item → Nat → List Item × Nat × Int
  | [], p => ([], p, 0)
  | x :: L, _ => if x.2.1 = 0 then (x :: (scanR L (x.1 + x.2.2.2)).1, (scanR L (x.1 + x.2.2.2)).2) else ([], x.1, x.2.1)

def scanF (xs : List Int) : List Item × Nat × Int := scanR (tl xs 0) 0

end Go.Proofs.YthmimipoooemjaaGreatDoor
end

section
/-
  The iterator of a scan: one round's Take, walked by itself.
-/
namespace Go.Proofs.YthmimipoooemjaaGreatDoor
open Go.RowKit
open Tlv (Tr BySlS AgreeS Agree)
open Crc (hid Kept Tab)
end Go.Proofs.YthmimipoooemjaaGreatDoor
end

section
/-
  What the iterator of a scan tells, round by round.
-/
namespace Go.Proofs.YthmimipoooemjaaGreatDoor
open Go.RowKit Go.Shelf
open Tlv (Tr BySlS AgreeS Agree)
open Crc (hid Kept Tab)
attribute [local go_sem] Oper.semAt_some

/-- A placed record's cells. -/
def placedA (p n : Nat) (C : List Value) : List Value := .int .i64 (p : Int) :: .int .i64 (n : Int) :: C
/-- The iterator's world: the table at b; the bytes; both below B; the two boxes that it has taken along, at p and q. -/
def Ts (B b p q : Nat) (v : Value) (xs : List Int) (W : World) : Prop :=
  (B ≤ W.heap.size ∧ b < B ∧ p < B ∧ q < B ∧ p ≠ b ∧ q ≠ b) ∧ TabX W b ∧ BySlS (fun x => x ≠ b ∧ x < B) W v xs ∧ W.cell? ⟨p, 0, none⟩ = some v ∧ W.cell? ⟨q, 0, none⟩ = some (.pointer (some ⟨b, 0, none⟩))

theorem tabX_below {B b : Nat} {w w' : World} (h : TabX w b) (k : Below B w w') (hb : b < B) : TabX w' b := by
  obtain ⟨f, n, hf, h1, h2, h3, h4, h5, h6, h7⟩ := h
  have c : ∀ j, w'.cell? ⟨b, j, none⟩ = w.cell? ⟨b, j, none⟩ := fun j => k.cell (p := ⟨b, j, none⟩) hb
  refine ⟨f, n, hf, Nat.lt_of_lt_of_le h1 k.size, (c _).trans h2, (c _).trans h3, (c _).trans h4, fun j hj => ?_, fun e j hj => (c _).trans (h6 e j hj), fun j => (k.frozen (p := ⟨b, j, none⟩) hb).trans (h7 j)⟩
  obtain ⟨x, hx⟩ := h5 j hj
  exact ⟨x, (c _).trans hx⟩

theorem Ts.below {B b p q : Nat} {v : Value} {xs : List Int} {U V : World} (h : Ts B b p q v xs U) (k : Below B U V) : Ts B b p q v xs V := by
  obtain ⟨⟨h1, h2, h3, h4, h5, h6⟩, ht, hv, hp, hq⟩ := h
  exact ⟨⟨Nat.le_trans h1 k.size, h2, h3, h4, h5, h6⟩, tabX_below ht k h2, BySlS.below hv k (fun g hg => hg.2), (k.cell (p := ⟨p, 0, none⟩) h3).trans hp, (k.cell (p := ⟨q, 0, none⟩) h4).trans hq⟩
end Go.Proofs.YthmimipoooemjaaGreatDoor
end

section
/-
  Scan of no table, and of no byte; Take and At of no table.
-/
namespace Go.Proofs.YthmimipoooemjaaGreatDoor
open Go.RowKit Go.Shelf
open Tlv (Tr BySlS AgreeS Agree)
open Crc (hid Kept Tab)
attribute [local go_sem] Oper.semAt_some

end Go.Proofs.YthmimipoooemjaaGreatDoor
end

section
/-
  What must come at any rate: the chapter's example, and a record.
-/
namespace Go.Proofs.YthmimipoooemjaaGreatDoor
open Go.RowKit
open Tlv (Tr BySlS AgreeS Agree)
open Crc (hid Kept Tab)
end Go.Proofs.YthmimipoooemjaaGreatDoor
end

section
/-
  Plain mathematics: the form as the reference makes it is the form.
-/
namespace Go.Proofs.YthmimipoooemjaaGreatDoor.Tlv
end Go.Proofs.YthmimipoooemjaaGreatDoor.Tlv
end

section
/-
  What the reference's form makes of a tree.
-/
namespace Go.Proofs.YthmimipoooemjaaGreatDoor.Tlv
open Go.RowKit
attribute [local go_sem ↓] Go.wp_at_zero Go.wp_at_succ

end Go.Proofs.YthmimipoooemjaaGreatDoor.Tlv
end

section
/-
  What the reference's Put answers.
-/
namespace Go.Proofs.YthmimipoooemjaaGreatDoor
open Go.RowKit
open Tlv (Tr BySlS AgreeS Agree)
open Crc (hid Kept Tab)
end Go.Proofs.YthmimipoooemjaaGreatDoor
end

section
/-
  Are records few, and short? Put, Size and the reference's Put of any record.
-/
namespace Go.Proofs.YthmimipoooemjaaGreatDoor
open Go.RowKit
open Tlv (Tr BySlS AgreeS Agree)
open Crc (hid Kept Tab)
/-- What Put answers of any record. -/
def putX (k : Int) (nm bs : List Int) : List Int := if rightB k bs.length then frameR k nm bs else []
def putF (k : Int) (l : Nat) : Int := if rightB k l then 0 else 1

theorem BySlS.len {S : Nat → Prop} {w : World} {v : Value} {xs : List Int} (h : BySlS S w v xs) : ∃ a c, v = .slice a xs.length c := by
  obtain ⟨a, c, rfl, _⟩ := h
  exact ⟨a, c, rfl⟩

theorem own_all {w : World} {base : Nat} {v : Value} {xs : List Int} (h : Crc.Own w base v (nats xs)) (hl : xs.length ≤ 100000) (hx : ∀ x ∈ xs, 0 ≤ x ∧ x ≤ 255) : BySlS (fun g => base ≤ g ∧ g < w.heap.size) w v xs := by
  rcases h.2 with ⟨rfl, h0⟩ | ⟨g, cap, cur, rfl, hb, hg, hn, hc, hs, ht⟩
  · rw [nats_length] at h0
    have : xs = [] := List.length_eq_zero_iff.1 h0
    subst this
    exact Tlv.BySlS.none _ _
  · rw [nats_length] at hn ⊢
    refine ⟨_, cap, rfl, hn, hc, by simp, by omega, hx, fun _ => ⟨g, 0, rfl, ⟨hb, (Array.getElem?_eq_some_iff.1 hg).1⟩, fun i hi => ?_⟩⟩
    have hi2 : i < (nats xs).length := by rw [nats_length]; exact hi
    rw [Nat.zero_add, World.ownsRow.cellAt (show w.ownsRow base 5 1 _ (nats xs).length (Crc.cl (nats xs)) from h) i (by omega), Crc.cl_at _ i hi2]
    have hb2 := hx (xs.getD i 0) (by rw [List.getD_eq_getElem?_getD, List.getElem?_eq_getElem hi]; simp)
    simp only [nats, List.getD_eq_getElem?_getD, List.getElem?_map, List.getElem?_eq_getElem hi, Option.map_some, Option.getD_some] at hb2 ⊢
    congr 2
    omega

theorem put_one (b : Nat) (k : Int) (nm bs : List Int) (v : Value) (w : World) (hT : TabX w b) (hb : Tlv.BySl 0 w.heap.size w v bs) (hn : nm.length = 32) (hx : ∀ x ∈ nm, 0 ≤ x ∧ x ≤ 255) :
    Calls Tryz.prog 176 #[.pointer (some ⟨b, 0, none⟩), .agg (recA k nm v).toArray] w fun e w' => ∃ a c, e = .returned (.tuple #[.slice a (putX k nm bs).length c, .int .i64 (putF k bs.length)]) ∧ BySlS (fun g => w.heap.size ≤ g ∧ g < w'.heap.size) w' (.slice a (putX k nm bs).length c) (putX k nm bs) ∧ Kept b w w' ∧ TabX w' b := by
  obtain ⟨av, cv, rfl, _, _, _, _, h6, _⟩ := id hb
  unfold putX putF
  cases hr : rightB k bs.length with
  | false =>
    refine (put_no _ k nm bs av cv w hn hr).mono ?_
    rintro e w1 ⟨rfl, hb1⟩
    exact ⟨none, 0, rfl, Tlv.BySlS.none _ _, Kept.below hb1, hT.below hb1⟩
  | true =>
    have hR := right_of hr hn hx h6
    refine (put_yes b k nm bs _ w hT hb hR).mono ?_
    rintro e w1 ⟨v', rfl, ho, hk, ht⟩
    have h1 := own_all ho (by rw [frameR_length hR]; have := hR.2.2.1; omega) (frameR_bd hR)
    obtain ⟨a, c, rfl⟩ := BySlS.len h1
    exact ⟨a, c, rfl, h1, hk, ht⟩

end Go.Proofs.YthmimipoooemjaaGreatDoor
end

section
/-
  A slice of placed records that a call builds by append: how it lies in memory.
-/
namespace Go.Proofs.YthmimipoooemjaaGreatDoor
open Go.RowKit
open Tlv (Tr BySlS AgreeS Agree)
open Crc (hid Kept Tab)

/-- A told record's cells, its body behind u. -/
def recI (x : Item) (u : Value) : List Value := recA x.2.2.1.1 x.2.2.1.2.1 u
def plI (x : Item) (u : Value) : List Value := placedA x.1 x.2.2.2 (recI x u)
def nmOk (x : Item) : Prop := x.2.2.1.2.1.length = 32 ∧ ∀ y ∈ x.2.2.1.2.1, 0 ≤ y ∧ y ≤ 255

theorem plI_length {x : Item} (h : nmOk x) (u : Value) : (plI x u).length = 36 := by rw [plI, placedA, List.length_cons, List.length_cons, recI, recA_length _ _ _ h.1]
def cellsP : List Item → List Value → List Value
  | x :: L, u :: us => plI x u ++ cellsP L us
  | _, _ => []

theorem cellsP_snoc (x : Item) (u : Value) : ∀ (L : List Item) (us : List Value), us.length = L.length → cellsP (L ++ [x]) (us ++ [u]) = cellsP L us ++ plI x u
  | [], [], _ => by simp [cellsP]
  | [], _ :: _, h => by simp at h
  | _ :: _, [], h => by simp at h
  | y :: L, v :: us, h => by
    simp only [List.cons_append, cellsP, List.append_assoc]
    rw [cellsP_snoc x u L us (by simpa using h)]

theorem cellsP_at : ∀ (L : List Item) (us : List Value) (j : Nat) (x : Item) (u : Value) (r : Nat), (∀ y ∈ L, nmOk y) → L[j]? = some x → us[j]? = some u → r < 36 → (cellsP L us)[j * 36 + r]? = (plI x u)[r]?
  | [], _, _, _, _, _, _, h, _, _ => by simp at h
  | _ :: _, [], _, _, _, _, _, _, h, _ => by simp at h
  | y :: L, v :: us, 0, x, u, r, hn, h1, h2, h3 => by
    simp only [List.getElem?_cons_zero, Option.some.injEq] at h1 h2
    subst h1 h2
    simp only [cellsP, Nat.zero_mul, Nat.zero_add]
    rw [List.getElem?_append_left (by rw [plI_length (hn _ (List.mem_cons_self ..))]; exact h3)]
  | y :: L, v :: us, j + 1, x, u, r, hn, h1, h2, h3 => by
    simp only [List.getElem?_cons_succ] at h1 h2
    simp only [cellsP]
    have hl := plI_length (hn y (List.mem_cons_self ..)) v
    rw [List.getElem?_append_right (by rw [hl]; omega), hl, ← cellsP_at L us j x u r (fun z hz => hn z (List.mem_cons_of_mem _ hz)) h1 h2 h3]
    congr 1
    omega

/-- Cells from base on, b left out, stand. -/
structure CellsKept (base b : Nat) (w w' : World) : Prop where
  size : w.heap.size ≤ w'.heap.size
  block : ∀ g cs t fr, base ≤ g → g ≠ b → w.heap[g]? = some (.cells cs t fr) → w'.heap[g]? = some (.cells cs t fr)
  cell : ∀ g o v, base ≤ g → g ≠ b → w.cell? ⟨g, o, none⟩ = some v → w'.cell? ⟨g, o, none⟩ = some v

theorem CellsKept.trans {base b : Nat} {u v w : World} (h : CellsKept base b u v) (k : CellsKept base b v w) : CellsKept base b u w :=
  ⟨Nat.le_trans h.size k.size, fun g cs t fr h1 h2 h3 => k.block g cs t fr h1 h2 (h.block g cs t fr h1 h2 h3), fun g o x h1 h2 h3 => k.cell g o x h1 h2 (h.cell g o x h1 h2 h3)⟩

/-- v is a slice of the placed records L that the call itself has built, in blocks from base on. -/
def PRow (ty : TypeId) (base b : Nat) (w : World) (v : Value) (L : List Item) : Prop :=
  ∃ us : List Value, us.length = L.length ∧ w.ownsRow base ty 36 v L.length (cellsP L us) ∧ (∀ x ∈ L, nmOk x) ∧
    ∀ (j : Nat) (x : Item) (u : Value), L[j]? = some x → us[j]? = some u → BySlS (fun g => base ≤ g ∧ g ≠ b ∧ g < w.heap.size ∧ v.ownBlock ≠ some g) w u x.2.2.1.2.2

theorem PRow.nil (ty : TypeId) (base b : Nat) (w : World) : PRow ty base b w (.slice none 0 0) [] := ⟨[], rfl, World.ownsRow_nil _ _ _ _, by simp, by simp⟩

theorem PRow.form {ty : TypeId} {base b : Nat} {w : World} {v : Value} {L : List Item} (h : PRow ty base b w v L) : ∃ a c, v = .slice a L.length c := by
  obtain ⟨us, _, hown, _⟩ := h
  rcases hown.2 with ⟨rfl, h0⟩ | ⟨g, cap, cur, rfl, _⟩
  · exact ⟨_, _, by rw [h0]⟩
  · exact ⟨_, _, rfl⟩
theorem PRow.lt {ty : TypeId} {base b : Nat} {w : World} {v : Value} {L : List Item} (h : PRow ty base b w v L) : ∀ r, v.ownBlock = some r → base ≤ r ∧ r < w.heap.size := by
  obtain ⟨us, _, hown, _⟩ := h
  exact hown.lt

theorem bySlS_cells {base b : Nat} {S : Nat → Prop} {w w' : World} {u : Value} {xs : List Int} (h : BySlS S w u xs) (k : CellsKept base b w w') (hS : ∀ g, S g → base ≤ g ∧ g ≠ b) : BySlS S w' u xs := by
  obtain ⟨a, cap, h1, h2, h3, h4, h5, h6, h7⟩ := h
  refine ⟨a, cap, h1, h2, h3, h4, h5, h6, fun hne => ?_⟩
  obtain ⟨g, o, e, hg, hc⟩ := h7 hne
  exact ⟨g, o, e, hg, fun i hi => k.cell g _ _ (hS g hg).1 (hS g hg).2 (hc i hi)⟩

theorem PRow.cells {ty : TypeId} {base b : Nat} {w w' : World} {v : Value} {L : List Item} (h : PRow ty base b w v L) (k : CellsKept base b w w') (hb : b < base) : PRow ty base b w' v L := by
  obtain ⟨us, hl, hown, hn, hk⟩ := h
  have hz := k.size
  refine ⟨us, hl, ⟨hown.1, ?_⟩, hn, fun j x u hj hu => BySlS.mono (bySlS_cells (hk j x u hj hu) k (fun g hg => ⟨hg.1, hg.2.1⟩)) (fun g hg => ⟨hg.1, hg.2.1, by omega, hg.2.2.2⟩)⟩
  rcases hown.2 with h2 | ⟨g, cap, cur, hv, hg, hh, r⟩
  · exact Or.inl h2
  · exact Or.inr ⟨g, cap, cur, hv, hg, k.block g _ _ _ hg (by omega) hh, r⟩

/-- One record more, behind the append that lays it. -/
theorem PRow.push {ty : TypeId} {base b g cap : Nat} {L : List Item} {x : Item} {v u : Value} {us : List Value} {w w' : World} (hl : us.length = L.length) (hn : ∀ y ∈ L, nmOk y) (hx : nmOk x)
    (hk : ∀ (j : Nat) (x : Item) (u : Value), L[j]? = some x → us[j]? = some u → BySlS (fun g => base ≤ g ∧ g ≠ b ∧ g < w.heap.size ∧ v.ownBlock ≠ some g) w u x.2.2.1.2.2)
    (hu : BySlS (fun g => base ≤ g ∧ g ≠ b ∧ g < w.heap.size ∧ v.ownBlock ≠ some g) w u x.2.2.1.2.2)
    (hown : w'.ownsRow base ty 36 (.slice (some ⟨g, 0, none⟩) (L.length + 1) cap) (L.length + 1) (cellsP L us ++ plI x u)) (hgrow : w.grownBy w' v.ownBlock) (hat : v.ownBlock = some g ∨ g = w.heap.size) :
    PRow ty base b w' (.slice (some ⟨g, 0, none⟩) (L.length + 1) cap) (L ++ [x]) := by
  have old : ∀ {u : Value} {xs : List Int}, BySlS (fun g => base ≤ g ∧ g ≠ b ∧ g < w.heap.size ∧ v.ownBlock ≠ some g) w u xs → BySlS (fun q => base ≤ q ∧ q ≠ b ∧ q < w'.heap.size ∧ (Value.slice (some ⟨g, 0, none⟩) (L.length + 1) cap).ownBlock ≠ some q) w' u xs := by
    intro u xs h
    have hz := hgrow.size
    refine BySlS.mono (h.agree (fun q hq => hgrow.block q hq.2.2.1 (fun e => hq.2.2.2 e.symm)) (fun _ h => h)) (fun q hq => ⟨hq.1, hq.2.1, by omega, ?_⟩)
    intro e
    simp only [Value.ownBlock, Option.some.injEq] at e
    subst e
    rcases hat with h1 | h1
    · exact hq.2.2.2 h1
    · omega
  refine ⟨us ++ [u], by simp [hl], ?_, ?_, ?_⟩
  · rw [cellsP_snoc _ _ _ _ hl]
    simpa using hown
  · intro y hy
    rcases List.mem_append.1 hy with hy | hy
    · exact hn y hy
    · rw [List.mem_singleton.1 hy]; exact hx
  · intro j y q hj hq
    by_cases hlt : j < L.length
    · rw [List.getElem?_append_left hlt] at hj
      rw [List.getElem?_append_left (by omega)] at hq
      exact old (hk j y q hj hq)
    · have : j = L.length := by
        have := (List.getElem?_eq_some_iff.1 hj).1
        simp at this
        omega
      subst this
      rw [List.getElem?_append_right (Nat.le_refl _)] at hj
      rw [List.getElem?_append_right (by omega)] at hq
      simp [hl] at hj hq
      subst hj hq
      exact old hu

/-- One record of it. -/
theorem PRow.get {ty : TypeId} {base b : Nat} {w : World} {v : Value} {L : List Item} (h : PRow ty base b w v L) (j : Nat) (x : Item) (hj : L[j]? = some x) : ∃ g cap a c, v = .slice (some ⟨g, 0, none⟩) L.length cap ∧ base ≤ g ∧ g < w.heap.size ∧ nmOk x ∧
    w.rangeAt g (j * 36) (plI x (.slice a x.2.2.1.2.2.length c)) ∧ BySlS (fun q => base ≤ q ∧ q ≠ b ∧ q < w.heap.size ∧ q ≠ g) w (.slice a x.2.2.1.2.2.length c) x.2.2.1.2.2 := by
  obtain ⟨us, hl, hown, hn, hk⟩ := h
  have hjl := (List.getElem?_eq_some_iff.1 hj).1
  obtain ⟨u, hu⟩ : ∃ u, us[j]? = some u := ⟨us[j]'(by omega), List.getElem?_eq_getElem (by omega)⟩
  have hb := hk j x u hj hu
  obtain ⟨a, c, rfl, _⟩ := id hb
  rcases id hown.2 with ⟨_, h0⟩ | ⟨g, cap, cur, rfl, hg, hh, _⟩
  · omega
  · have hnx : nmOk x := hn x (List.mem_of_getElem? hj)
    refine ⟨g, cap, a, c, rfl, hg, (Array.getElem?_eq_some_iff.1 hh).1, hnx, fun r q hq => ?_, BySlS.mono hb (fun q hq => ⟨hq.1, hq.2.1, hq.2.2.1, fun e => hq.2.2.2 (by rw [e]; rfl)⟩)⟩
    have hr : r < 36 := by have := (List.getElem?_eq_some_iff.1 hq).1; rwa [plI_length hnx] at this
    rw [hown.cellAt (j * 36 + r) (by omega), cellsP_at L us j x _ r hn hj hu hr]
    exact hq

end Go.Proofs.YthmimipoooemjaaGreatDoor
end

section
/-
  What Scan answers.
-/
namespace Go.Proofs.YthmimipoooemjaaGreatDoor
open Go.RowKit Go.Shelf
open Tlv (Tr BySlS AgreeS Agree)
open Crc (hid Kept Tab)
attribute [local go_sem] Oper.semAt_some

theorem exec_slice1 {P : Program} {o : Oper} {a : Act} {w w' : World} (ty : TypeId) (x : Operand) (ho : o.op = .buildSlice ty 1 #[(0, x)]) (vx v : Value) (hx : a.eval x = vx) (hr : (Instr.buildSlice ty 1 #[(0, vx)]).run P w = .ok v w') :
    (execOp a.eval o).run P w = .ok (.value v) w' := by
  have e : ((#[(0, x)] : Array (Nat × Operand)).map fun (i, x) => (i, a.eval x)) = #[(0, vx)] := by simp [hx]
  unfold execOp
  simp only [ho, Sem.run_bind, e, hr, Result.andThen_ok]
  rfl

/-- What stands behind k rounds: the three variables at s, what was found, where it goes on. -/
def SI (w : World) (base s b : Nat) (xs : List Int) (k m : Nat) (W : World) : Prop :=
  ∃ (v : Value) (pos : Nat), Boxed W s 47 v ∧ Boxed W (s + 1) 3 (.int .i64 (pos : Int)) ∧ Boxed W (s + 2) 26 (.int .i64 0) ∧ PRow 60 base b W v ((tl xs 0).take k) ∧
    scanF xs = ((tl xs 0).take k ++ (scanR ((tl xs 0).drop k) pos).1, (scanR ((tl xs 0).drop k) pos).2) ∧ Kept b w W ∧ (∀ r, v.ownBlock = some r → r < m) ∧ pos ≤ xs.length ∧ base ≤ m

theorem SI.step {w W W' : World} {base s b k m : Nat} {xs : List Int} (h : SI w base s b xs k m W) (hs : s + 3 ≤ base) (hb : b < s) (hw : s = w.heap.size) (hk : CellsKept base b W W') (hbx : ∀ g t u, s ≤ g → g < s + 3 → Boxed W g t u → Boxed W' g t u) (hkk : Kept b w W') : SI w base s b xs k m W' := by
  obtain ⟨v, pos, h0, h1, h2, h3, h4, h5, h6, h7⟩ := h
  exact ⟨v, pos, hbx _ _ _ (by omega) (by omega) h0, hbx _ _ _ (by omega) (by omega) h1, hbx _ _ _ (by omega) (by omega) h2, h3.cells hk (by omega), h4, hkk, h6, h7⟩

theorem PRow.mono {ty : TypeId} {base base' b : Nat} {w : World} {v : Value} {L : List Item} (h : PRow ty base b w v L) (hb : base' ≤ base) : PRow ty base' b w v L := by
  obtain ⟨us, hl, hown, hn, hk⟩ := h
  refine ⟨us, hl, ⟨hown.1, ?_⟩, hn, fun j x u hj hu => BySlS.mono (hk j x u hj hu) (fun g hg => ⟨by omega, hg.2⟩)⟩
  rcases hown.2 with h2 | ⟨g, cap, cur, hv, hg, r⟩
  · exact Or.inl h2
  · exact Or.inr ⟨g, cap, cur, hv, by omega, r⟩

end Go.Proofs.YthmimipoooemjaaGreatDoor
end

section
/-
  What At answers.
-/
namespace Go.Proofs.YthmimipoooemjaaGreatDoor
open Go.RowKit Go.Shelf
open Tlv (Tr BySlS AgreeS Agree)
open Crc (hid Kept Tab)
end Go.Proofs.YthmimipoooemjaaGreatDoor
end

section
/-
  A record is added to a pack.
-/
namespace Go.Proofs.YthmimipoooemjaaGreatDoor
open Go.RowKit Go.Shelf
open Tlv (BySlS)
open Sim (hid Kp No PS Done Blk nm pCreate finds pBytes pAppend)
theorem byP_of {S : Nat → Prop} {w : World} {v : Value} {xs : List Int} (h : BySlS S w v xs) (hS : ∀ g, S g → g < w.heap.size) : Sim.ByP S w v (nats xs) := by
  obtain ⟨a, cap, rfl, h2, h3, h4, h5, h6, h7⟩ := h
  refine ⟨a, cap, by rw [nats_length], by rw [nats_length]; exact h2, h3, fun e => ⟨by rw [(h4 e).1]; rfl, (h4 e).2⟩, by rw [nats_length]; exact h5, nats_lt _ h6, fun hne => ?_⟩
  obtain ⟨g, o, e, hg, hc⟩ := h7 (fun e => hne (by rw [e]; rfl))
  refine ⟨g, o, e, hg, hS g hg, fun i hi => ?_⟩
  rw [nats_length] at hi
  rw [hc i hi]
  have h := h6 (xs[i]) (List.getElem_mem hi)
  have e1 : xs.getD i 0 = xs[i] := by rw [List.getD_eq_getElem?_getD, List.getElem?_eq_getElem hi]; rfl
  have e2 : (nats xs).getD i 0 = xs[i].toNat := by rw [List.getD_eq_getElem?_getD, nats, List.getElem?_map, List.getElem?_eq_getElem hi]; rfl
  rw [e1, e2, Int.toNat_of_nonneg h.1]

/-- What Add answers, and what it leaves: where, the fault, the files, the writer's size and count. -/
def addF (i sz ct : Nat) (X : List Int) (r : Bool) (p : PS) : Int × Int × PS × Nat × Nat :=
  if r = false then (0, 1, p, sz, ct) else if 12000 < sz + X.length then (0, 2, p, sz, ct)
  else if (pAppend (nm (nameT i)) (nats X) p).1 = 0 then (sz, 0, (pAppend (nm (nameT i)) (nats X) p).2, sz + X.length, ct + 1) else (0, ((pAppend (nm (nameT i)) (nats X) p).1 : Nat), (pAppend (nm (nameT i)) (nats X) p).2, sz, ct)

def Added (P : Nat → Prop) (N : Nat) (w w' : World) (g s b i : Nat) (e : Ending) (r : Int × Int × PS × Nat × Nat) : Prop :=
  e = .returned (.tuple #[.int .i64 r.1, .int .i64 r.2.1]) ∧ WrAt w' g s b i r.2.2.2.1 r.2.2.2.2 false ∧ TabX w' b ∧
    ∃ P', Sim.Sys P' (N + 1) w' s r.2.2.1 ∧ Kp (fun x => P x ∨ x = b ∨ x = g) w w' ∧ (∀ x, P' x → P x ∨ w.heap.size ≤ x)

set_option maxHeartbeats 2000000 in
set_option maxRecDepth 100000 in
theorem addW_any {P : Nat → Prop} {N : Nat} (w : World) (g s b i sz ct : Nat) (p : PS) (k : Int) (nmr bs : List Int) (v : Value) (hi1 : 1 ≤ i) (hi2 : i < 100) (hW : WrAt w g s b i sz ct false) (h : Sim.Sys P N w s p) (hN : N + 1 ≤ 1000) (hT : TabX w b)
    (hb : ¬ P b) (hg : ¬ P g) (hgb : g ≠ b) (hbs : Tlv.BySl 0 w.heap.size w v bs) (hn : nmr.length = 32) (hx : ∀ x ∈ nmr, 0 ≤ x ∧ x ≤ 255) (h200 : (putX k nmr bs).length ≤ 12000) (hsz : sz ≤ 12000) (hct : ct ≤ 20000000) :
    Calls Tryz.prog 139 #[.pointer (some ⟨g, 0, none⟩), .agg (recA k nmr v).toArray] w fun e w' => Added P N w w' g s b i e (addF i sz ct (putX k nmr bs) (rightB k bs.length) p) := by
  obtain ⟨av, cv, rfl, _⟩ := id hbs
  have hcl := recA_length k nmr (.slice av bs.length cv) hn
  have HPUT := hid (fun V hV hb => put_one b k nmr bs (.slice av bs.length cv) V hV hb hn hx)
  obtain ⟨C, hC⟩ : ∃ C, recA k nmr (.slice av bs.length cv) = C := ⟨_, rfl⟩
  rw [hC] at hcl HPUT
  rw [hC]
  clear hC
  have HI : Hid ((Tryz.prog.info? 56).map (·.size) = some C.length) := by rw [Hid, hcl]; exact Tryz.info35
  have hal : Below w.heap.size w (w.alloc (.cells C.toArray 56)) := (Below.refl _ _).alloc (Nat.le_refl _) _
  have HRN := hid (range_new w C 56)
  have HAL := hid hal
  have HSY := hid h
  have HTT := hid (hT.below hal)
  have hWa : WrAt (w.alloc (.cells C.toArray 56)) g s b i sz ct false := hW.kp (Kp.below (L := No) hal) (fun h => h)
  have HWA := hid hWa
  have HBA := hid (hbs.agree (Tlv.Agree.below hal) (Nat.le_refl _) hal.size)
  have hsw : (w.alloc (.cells C.toArray 56)).heap.size = w.heap.size + 1 := by simp
  have HGW : Hid (g < w.heap.size ∧ b < w.heap.size) := ⟨hW.lt, hT.lt⟩
  obtain ⟨X, hX⟩ : ∃ X, putX k nmr bs = X := ⟨_, rfl⟩
  obtain ⟨F, hF⟩ : ∃ F, putF k bs.length = F := ⟨_, rfl⟩
  have hF' : F = if rightB k bs.length then 0 else 1 := by rw [← hF]; rfl
  rw [hX, hF] at HPUT
  rw [hX] at h200
  rw [hX]
  have HX := hid hX
  have HF := hid hF'
  obtain ⟨R, hR⟩ : ∃ R, rightB k bs.length = R := ⟨_, rfl⟩
  rw [hR] at HF ⊢
  have HXF : Hid (R = false → X = []) := fun e => by rw [← hX, putX, hR, e]; rfl
  clear hX hF hF' hR
  go_enter Tryz.func139, Tryz.ntmps139
  generalize hWW : w.alloc (.cells C.toArray 56) = W at *
  clear h hT hW hbs hal hWa
  go_wp2_with (go_at_call 141; refine (wrongW_any _ _ _ _ _ _ _ _ HWA.out).mono ?_; rintro e w1 ⟨rfl, h⟩; subst w1)
  have hgW : g < W.heap.size := by have := HGW.out; omega
  have hbW : b < W.heap.size := by have := HGW.out; omega
  have cw1 : W.cell? ⟨g, 1, none⟩ = some (.pointer (some ⟨b, 0, none⟩)) := HWA.out.cell 1
  refine wp_region_held_drew (S := fun V => Crc.Kept b W V) (by kernel_rfl) (Crc.Kept.below (Below.refl _ _).drew) (fun hHeld => ?_)
  refine wpAnyH_take (i := 0) (oi := { dst := some 17, op := Op.move (Operand.tmp 0), type := 178, pos := "writer.go:42", after := #[], guard := none }) (v := .pointer (some ⟨g, 0, none⟩)) rfl (by kernel_rfl) (by kernel_rfl) (by kernel_rfl) (fun _ _ _ h => h) (Or.inl ⟨by rfl, fun w' hw' => by (clear hw'; go_simp)⟩) hHeld ?_
  simp only [Act.put, List.setIfInBounds_toArray, List.set_cons_zero, List.set_cons_succ]
  refine wpAnyH_take (i := 1) (oi := { dst := some 18, op := Op.nilCheck (Operand.tmp 17), type := 0, pos := "writer.go:42", after := #[{ on := 0, ground := Ground.data }], guard := none }) (v := .pointer (some ⟨g, 0, none⟩)) rfl (by kernel_rfl) (by kernel_rfl) (by kernel_rfl) (fun _ _ _ h => h) (Or.inl ⟨by rfl, fun w' hw' => by (clear hw'; go_simp)⟩) hHeld ?_
  simp only [Act.put, List.setIfInBounds_toArray, List.set_cons_zero, List.set_cons_succ]
  refine wpAnyH_take (i := 2) (oi := { dst := some 19, op := Op.fieldAddr 230 (Operand.tmp 18) 1, type := 0, pos := "writer.go:42", after := #[{ on := 1, ground := Ground.data }], guard := none }) (v := .pointer (some ⟨g, 1, none⟩)) rfl (by kernel_rfl) (by kernel_rfl) (by kernel_rfl) (fun _ _ _ h => h) (Or.inl ⟨by rfl, fun w' hw' => by (clear hw'; go_simp)⟩) hHeld ?_
  simp only [Act.put, List.setIfInBounds_toArray, List.set_cons_zero, List.set_cons_succ]
  refine wpAnyH_take (i := 3) (oi := { dst := some 20, op := Op.load 32 (Operand.tmp 19), type := 32, pos := "writer.go:42", after := #[{ on := 2, ground := Ground.data }], guard := none }) (v := .pointer (some ⟨b, 0, none⟩)) rfl (by kernel_rfl) (by kernel_rfl) (by kernel_rfl) (fun _ _ _ h => h) (Or.inl ⟨by rfl, fun w' hw' => by (have q := (hw'.cell (p := ⟨g, 1, none⟩) hgW hgb).trans cw1; clear hw'; go_simp)⟩) hHeld ?_
  simp only [Act.put, List.setIfInBounds_toArray, List.set_cons_zero, List.set_cons_succ]
  refine wpAnyH_take (i := 4) (oi := { dst := some 21, op := Op.load 56 (Operand.tmp 3), type := 56, pos := "writer.go:42", after := #[], guard := none }) (v := .agg C.toArray) rfl (by kernel_rfl) (by kernel_rfl) (by kernel_rfl) (fun _ _ _ h => h) (yieldsIf_load_mid (by rfl) _ _ rfl w.heap.size 0 rfl C _ (fun V hV => rangeAt_kept HRN.out hV (by omega) (by have := HGW.out; omega)) Tryz.underlying56 rfl HI.out) hHeld ?_
  simp only [Act.put, List.setIfInBounds_toArray, List.set_cons_zero, List.set_cons_succ]
  refine wpAnyH_ready (rs := [5]) (by kernel_rfl) (by simp) ?_
  refine AllReadyH.cons (o := { dst := some 22, op := Op.call { callee := Callee.value (Operand.func 176), args := #[Operand.tmp 20, Operand.tmp 21], argTypes := #[32, 56] }, type := 160, pos := "writer.go:42", after := #[{ on := 3, ground := Ground.data }, { on := 4, ground := Ground.data }], guard := none }) rfl (fun K hK => ?_) AllReadyH.nil
  go_simp
  refine (HPUT.out _ (HTT.out.below (Below.refl _ _).drew) (HBA.out.agree (Tlv.Agree.below (Below.refl _ _).drew) (Nat.le_refl _) (Nat.le_refl _))).mono ?_
  rintro e w3 ⟨ap, cp, rfl, hp3, hk3, ht3⟩
  have HP3 := hid hp3
  have HK3 : Hid (Crc.Kept b W w3) := (Crc.Kept.below (Below.refl _ _).drew).trans hk3
  have HT3 := hid ht3
  clear hp3 hk3 ht3
  go_wp2_with fail
  refine hK.out _ _ (HK3.out) (fun hh => ?_)
  clear hK K hHeld
  have hHeld := hh
  clear hh
  try simp only [Act.put, List.setIfInBounds_toArray, List.set_cons_zero, List.set_cons_succ]
  refine wpAnyH_take (i := 6) (oi := { dst := some 16, op := Op.move (Operand.tmp 22), type := 160, pos := "writer.go:42", after := #[{ on := 5, ground := Ground.data }], guard := none }) (v := .tuple #[.slice ap X.length cp, .int .i64 F]) rfl (by kernel_rfl) (by kernel_rfl) (by kernel_rfl) (fun _ _ _ h => h) (Or.inl ⟨by rfl, fun w' hw' => by (clear hw'; go_simp)⟩) hHeld ?_
  simp only [Act.put, List.setIfInBounds_toArray, List.set_cons_zero, List.set_cons_succ]
  refine wpAnyH_take (i := 7) (oi := { dst := some 23, op := Op.extract (Operand.tmp 16) 0, type := 54, pos := "writer.go:42", after := #[{ on := 6, ground := Ground.data }], guard := none }) (v := .slice ap X.length cp) rfl (by kernel_rfl) (by kernel_rfl) (by kernel_rfl) (fun _ _ _ h => h) (Or.inl ⟨by rfl, fun w' hw' => by (clear hw'; go_simp)⟩) hHeld ?_
  simp only [Act.put, List.setIfInBounds_toArray, List.set_cons_zero, List.set_cons_succ]
  refine wpAnyH_take (i := 8) (oi := { dst := some 24, op := Op.extract (Operand.tmp 16) 1, type := 26, pos := "writer.go:42", after := #[{ on := 6, ground := Ground.data }, { on := 9, ground := Ground.gcOnly Departure.lateStores }], guard := none }) (v := .int .i64 F) rfl (by kernel_rfl) (by kernel_rfl) (by kernel_rfl) (fun _ _ _ h => h) (Or.inl ⟨by rfl, fun w' hw' => by (clear hw'; go_simp)⟩) hHeld ?_
  simp only [Act.put, List.setIfInBounds_toArray, List.set_cons_zero, List.set_cons_succ]
  refine wpAnyH_take (i := 9) (oi := { dst := some 7, op := Op.assign (Operand.tmp 23), type := 54, pos := "writer.go:42", after := #[{ on := 7, ground := Ground.data }, { on := 5, ground := Ground.chain }, { on := 0, ground := Ground.phase }, { on := 1, ground := Ground.phase }, { on := 2, ground := Ground.phase }, { on := 3, ground := Ground.phase }, { on := 4, ground := Ground.phase }, { on := 5, ground := Ground.phase }, { on := 6, ground := Ground.phase }, { on := 7, ground := Ground.phase }, { on := 8, ground := Ground.textOnly Departure.lateStores }], guard := none }) (v := .slice ap X.length cp) rfl (by kernel_rfl) (by kernel_rfl) (by kernel_rfl) (fun _ _ _ h => h) (Or.inl ⟨by rfl, fun w' hw' => by (clear hw'; go_simp)⟩) hHeld ?_
  simp only [Act.put, List.setIfInBounds_toArray, List.set_cons_zero, List.set_cons_succ]
  refine wpAnyH_take (i := 10) (oi := { dst := some 8, op := Op.assign (Operand.tmp 24), type := 26, pos := "writer.go:42", after := #[{ on := 8, ground := Ground.data }, { on := 9, ground := Ground.chain }, { on := 0, ground := Ground.phase }, { on := 1, ground := Ground.phase }, { on := 2, ground := Ground.phase }, { on := 3, ground := Ground.phase }, { on := 4, ground := Ground.phase }, { on := 5, ground := Ground.phase }, { on := 6, ground := Ground.phase }, { on := 7, ground := Ground.phase }, { on := 8, ground := Ground.phase }, { on := 9, ground := Ground.phase }], guard := none }) (v := .int .i64 F) rfl (by kernel_rfl) (by kernel_rfl) (by kernel_rfl) (fun _ _ _ h => h) (Or.inl ⟨by rfl, fun w' hw' => by (clear hw'; go_simp)⟩) hHeld ?_
  simp only [Act.put, List.setIfInBounds_toArray, List.set_cons_zero, List.set_cons_succ]
  refine wpAnyH_done (by kernel_rfl) ?_ _
  have hK3s := HK3.out.size
  have HSY3 : Hid (Sim.Sys P N w3 s p) := sys_kept (HSY.out.kept (Kp.below HAL.out)) HK3.out hb
  have HW3 : Hid (WrAt w3 g s b i sz ct false) := HWA.out.kp (kp_kept HK3.out) hgb
  have HKW3 : Hid (Kp (fun x => P x ∨ x = b ∨ x = g) w w3) := (Kp.below HAL.out).trans (kp_kept HK3.out) (fun x hx => .inl (.inr (.inl hx)))
  clear hHeld
  cases R with
  | false =>
    have hF1 : F = 1 := HF.out
    subst hF1
    go_wp2_with fail
    go_ret2
    refine ⟨rfl, HW3.out, HT3.out, P, HSY3.out.more (by omega) (by omega), HKW3.out, fun x hx => .inl hx⟩
  | true =>
    have hF1 : F = 0 := HF.out
    subst hF1
    have c3 : w3.cell? ⟨g, 3, none⟩ = some (.int .i64 (sz : Int)) := HW3.out.cell 3
    have hw12 : IntKind.i64.wrap ((sz : Int) + (X.length : Int)) = (sz : Int) + (X.length : Int) := by rw [IntKind.wrap_i64]; omega
    by_cases h12 : 12000 < sz + X.length
    · have h12' : (12000 : Int) < (sz : Int) + (X.length : Int) := by omega
      go_wp2_with fail
      go_ret2
      have e : addF i sz ct X true p = (0, 2, p, sz, ct) := by rw [addF, if_neg (by simp), if_pos h12]
      rw [e]
      exact ⟨rfl, HW3.out, HT3.out, P, HSY3.out.more (by omega) (by omega), HKW3.out, fun x hx => .inl hx⟩
    · have h12' : ¬ (12000 : Int) < (sz : Int) + (X.length : Int) := by omega
      have c0 : w3.cell? ⟨g, 0, none⟩ = some (.pointer (some ⟨s, 0, none⟩)) := HW3.out.cell 0
      have c2 : w3.cell? ⟨g, 2, none⟩ = some (.int .i64 (i : Int)) := HW3.out.cell 2
      have hg3 : g < w3.heap.size := by omega
      have HTM := hid (fun V => ptemp_small i hi1 hi2 V)
      have HBP : Hid (Sim.ByP (fun x => W.heap.size ≤ x ∧ x < w3.heap.size) w3 (.slice ap X.length cp) (nats X)) := byP_of HP3.out (fun x hx => hx.2)
      have HAPP := hid (Sim.append_any w3.drew s p (nameT i) (.slice ap X.length cp) (nats X) (name_le _ (by decide) i hi2) (HSY3.out.kept ((Kp.refl _ _).drew)) hN (HBP.out.kept ((Kp.refl _ _).drew)) (fun x hx hp => by have h1 := HSY.out.lt x hp; have h2 := hx.1; omega) (by rw [nats_length]; exact h200))
      obtain ⟨FA, hFA⟩ : ∃ FA, (pAppend (nm (nameT i)) (nats X) p).1 = FA := ⟨_, rfl⟩
      obtain ⟨q, hq⟩ : ∃ q, (pAppend (nm (nameT i)) (nats X) p).2 = q := ⟨_, rfl⟩
      have HAF : Hid (addF i sz ct X true p = if FA = 0 then ((sz : Int), 0, q, sz + X.length, ct + 1) else (0, (FA : Int), q, sz, ct)) := by rw [Hid, addF, if_neg (by simp), if_neg h12, hFA, hq]
      rw [hFA, hq] at HAPP
      clear hFA hq
      go_wp2_with fail
      refine wp_region_held_drew (S := fun V => ∀ o, V.cell? ⟨g, o, none⟩ = w3.cell? ⟨g, o, none⟩) (by kernel_rfl) (fun _ => rfl) (fun hHeld => ?_)
      refine wpAnyH_take (i := 0) (oi := { dst := some 36, op := Op.move (Operand.tmp 0), type := 178, pos := "writer.go:49", after := #[], guard := none }) (v := .pointer (some ⟨g, 0, none⟩)) rfl (by kernel_rfl) (by kernel_rfl) (by kernel_rfl) (fun _ _ _ h => h) (Or.inl ⟨by rfl, fun w' hw' => by (clear hw'; go_simp)⟩) hHeld ?_
      simp only [Act.put, List.setIfInBounds_toArray, List.set_cons_zero, List.set_cons_succ]
      refine wpAnyH_take (i := 1) (oi := { dst := some 37, op := Op.nilCheck (Operand.tmp 36), type := 0, pos := "writer.go:49", after := #[{ on := 0, ground := Ground.data }], guard := none }) (v := .pointer (some ⟨g, 0, none⟩)) rfl (by kernel_rfl) (by kernel_rfl) (by kernel_rfl) (fun _ _ _ h => h) (Or.inl ⟨by rfl, fun w' hw' => by (clear hw'; go_simp)⟩) hHeld ?_
      simp only [Act.put, List.setIfInBounds_toArray, List.set_cons_zero, List.set_cons_succ]
      refine wpAnyH_take (i := 2) (oi := { dst := some 38, op := Op.fieldAddr 230 (Operand.tmp 37) 0, type := 0, pos := "writer.go:49", after := #[{ on := 1, ground := Ground.data }], guard := none }) (v := .pointer (some ⟨g, 0, none⟩)) rfl (by kernel_rfl) (by kernel_rfl) (by kernel_rfl) (fun _ _ _ h => h) (Or.inl ⟨by rfl, fun w' hw' => by (clear hw'; go_simp)⟩) hHeld ?_
      simp only [Act.put, List.setIfInBounds_toArray, List.set_cons_zero, List.set_cons_succ]
      refine wpAnyH_take (i := 3) (oi := { dst := some 39, op := Op.load 25 (Operand.tmp 38), type := 25, pos := "writer.go:49", after := #[{ on := 2, ground := Ground.data }], guard := none }) (v := .pointer (some ⟨s, 0, none⟩)) rfl (by kernel_rfl) (by kernel_rfl) (by kernel_rfl) (fun _ _ _ h => h) (Or.inl ⟨by rfl, fun w' hw' => by (have q := (hw' 0).trans c0; clear hw'; go_simp)⟩) hHeld ?_
      simp only [Act.put, List.setIfInBounds_toArray, List.set_cons_zero, List.set_cons_succ]
      refine wpAnyH_take (i := 4) (oi := { dst := some 40, op := Op.move (Operand.tmp 0), type := 178, pos := "writer.go:49", after := #[], guard := none }) (v := .pointer (some ⟨g, 0, none⟩)) rfl (by kernel_rfl) (by kernel_rfl) (by kernel_rfl) (fun _ _ _ h => h) (Or.inl ⟨by rfl, fun w' hw' => by (clear hw'; go_simp)⟩) hHeld ?_
      simp only [Act.put, List.setIfInBounds_toArray, List.set_cons_zero, List.set_cons_succ]
      refine wpAnyH_take (i := 5) (oi := { dst := some 41, op := Op.nilCheck (Operand.tmp 40), type := 0, pos := "writer.go:49", after := #[{ on := 4, ground := Ground.data }], guard := none }) (v := .pointer (some ⟨g, 0, none⟩)) rfl (by kernel_rfl) (by kernel_rfl) (by kernel_rfl) (fun _ _ _ h => h) (Or.inl ⟨by rfl, fun w' hw' => by (clear hw'; go_simp)⟩) hHeld ?_
      simp only [Act.put, List.setIfInBounds_toArray, List.set_cons_zero, List.set_cons_succ]
      refine wpAnyH_take (i := 6) (oi := { dst := some 42, op := Op.fieldAddr 230 (Operand.tmp 41) 2, type := 0, pos := "writer.go:49", after := #[{ on := 5, ground := Ground.data }], guard := none }) (v := .pointer (some ⟨g, 2, none⟩)) rfl (by kernel_rfl) (by kernel_rfl) (by kernel_rfl) (fun _ _ _ h => h) (Or.inl ⟨by rfl, fun w' hw' => by (clear hw'; go_simp)⟩) hHeld ?_
      simp only [Act.put, List.setIfInBounds_toArray, List.set_cons_zero, List.set_cons_succ]
      refine wpAnyH_take (i := 7) (oi := { dst := some 43, op := Op.load 3 (Operand.tmp 42), type := 3, pos := "writer.go:49", after := #[{ on := 6, ground := Ground.data }], guard := none }) (v := .int .i64 (i : Int)) rfl (by kernel_rfl) (by kernel_rfl) (by kernel_rfl) (fun _ _ _ h => h) (Or.inl ⟨by rfl, fun w' hw' => by (have q := (hw' 2).trans c2; clear hw'; go_simp)⟩) hHeld ?_
      simp only [Act.put, List.setIfInBounds_toArray, List.set_cons_zero, List.set_cons_succ]
      refine wpAnyH_take (i := 9) (oi := { dst := some 45, op := Op.move (Operand.tmp 7), type := 54, pos := "writer.go:49", after := #[], guard := none }) (v := .slice ap X.length cp) rfl (by kernel_rfl) (by kernel_rfl) (by kernel_rfl) (fun _ _ _ h => h) (Or.inl ⟨by rfl, fun w' hw' => by (clear hw'; go_simp)⟩) hHeld ?_
      simp only [Act.put, List.setIfInBounds_toArray, List.set_cons_zero, List.set_cons_succ]
      refine wpAnyH_ready (rs := [8]) (by kernel_rfl) (by simp) ?_
      refine AllReadyH.cons (o := { dst := some 44, op := Op.call { callee := Callee.value (Operand.func 92), args := #[Operand.tmp 43], argTypes := #[3] }, type := 9, pos := "writer.go:49", after := #[{ on := 7, ground := Ground.data }], guard := none }) rfl (fun K hK => ?_) AllReadyH.nil
      go_simp
      refine (HTM.out _).mono ?_
      rintro e u1 ⟨rfl, hu1⟩
      subst u1
      go_wp2_with fail
      refine hK.out _ _ (fun _ => rfl) (fun hh => ?_)
      clear hK K hHeld
      have hHeld := hh
      clear hh
      try simp only [Act.put, List.setIfInBounds_toArray, List.set_cons_zero, List.set_cons_succ]
      refine wpAnyH_ready (rs := [10]) (by kernel_rfl) (by simp) ?_
      refine AllReadyH.cons (o := { dst := some 46, op := Op.call { callee := Callee.value (Operand.func 121), args := #[Operand.tmp 39, Operand.tmp 44, Operand.tmp 45], argTypes := #[25, 9, 54] }, type := 26, pos := "writer.go:49", after := #[{ on := 3, ground := Ground.data }, { on := 8, ground := Ground.data }, { on := 9, ground := Ground.data }, { on := 8, ground := Ground.chain }], guard := none }) rfl (fun K hK => ?_) AllReadyH.nil
      go_simp
      refine HAPP.out.mono ?_
      rintro e w4 ⟨rfl, P', hS4, hK4, hP4⟩
      have HS4 := hid (And.intro hS4 (And.intro hK4 hP4))
      have HC4 : Hid (∀ o, w4.cell? ⟨g, o, none⟩ = w3.cell? ⟨g, o, none⟩) := fun o => hK4.cell (p := ⟨g, o, none⟩) hg3 hg
      clear hS4 hK4 hP4
      go_wp2_with fail
      refine hK.out _ _ (HC4.out) (fun hh => ?_)
      clear hK K hHeld
      have hHeld := hh
      clear hh
      try simp only [Act.put, List.setIfInBounds_toArray, List.set_cons_zero, List.set_cons_succ]
      refine wpAnyH_take (i := 11) (oi := { dst := some 9, op := Op.assign (Operand.tmp 46), type := 26, pos := "writer.go:49", after := #[{ on := 10, ground := Ground.data }, { on := 10, ground := Ground.chain }, { on := 0, ground := Ground.phase }, { on := 1, ground := Ground.phase }, { on := 2, ground := Ground.phase }, { on := 3, ground := Ground.phase }, { on := 4, ground := Ground.phase }, { on := 5, ground := Ground.phase }, { on := 6, ground := Ground.phase }, { on := 7, ground := Ground.phase }, { on := 8, ground := Ground.phase }, { on := 9, ground := Ground.phase }, { on := 10, ground := Ground.phase }], guard := none }) (v := .int .i64 (FA : Int)) rfl (by kernel_rfl) (by kernel_rfl) (by kernel_rfl) (fun _ _ _ h => h) (Or.inl ⟨by rfl, fun w' hw' => by (clear hw'; go_simp)⟩) hHeld ?_
      simp only [Act.put, List.setIfInBounds_toArray, List.set_cons_zero, List.set_cons_succ]
      refine wpAnyH_done (by kernel_rfl) ?_ _
      have hg4 : g < w4.heap.size := by have := HS4.out.2.1.size; have e : w3.drew.heap.size = w3.heap.size := rfl; omega
      have HW4 : Hid (WrAt w4 g s b i sz ct false) := HW3.out.kp (((Kp.refl (fun x => P x) w3).drew).trans HS4.out.2.1 (fun x hx => .inl hx)) hg
      have HT4 : Hid (TabX w4 b) := HT3.out.kp (((Kp.refl (fun x => P x) w3).drew).trans HS4.out.2.1 (fun x hx => .inl hx)) hb
      have HKW4 : Hid (Kp (fun x => P x ∨ x = b ∨ x = g) w w4) := HKW3.out.trans (((Kp.refl (fun x => P x) w3).drew).trans HS4.out.2.1 (fun x hx => .inl hx)) (fun x hx => .inl (.inl hx))
      have HNP : Hid (¬ P' g) := fun hp => by
        rcases HS4.out.2.2 g hp with h | h
        · exact hg h
        · have e : w3.drew.heap.size = w3.heap.size := rfl
          omega
      have HP5 : Hid (∀ x, P' x → P x ∨ w.heap.size ≤ x) := fun x hx => by
        rcases HS4.out.2.2 x hx with h | h
        · exact .inl h
        · have e : w3.drew.heap.size = w3.heap.size := rfl
          right
          omega
      clear hHeld c0 c2 c3
      by_cases hfa : FA = 0
      · subst hfa
        have d3 : w4.cell? ⟨g, 3, none⟩ = some (.int .i64 (sz : Int)) := HW4.out.cell 3
        have d4 : w4.cell? ⟨g, 4, none⟩ = some (.int .i64 (ct : Int)) := HW4.out.cell 4
        have f3 : w4.frozen? ⟨g, 3, none⟩ = false := HW4.out.frozen 3
        have f4 : w4.frozen? ⟨g, 4, none⟩ = false := HW4.out.frozen 4
        have hwc : IntKind.i64.wrap ((ct : Int) + 1) = (ct : Int) + 1 := by rw [IntKind.wrap_i64]; omega
        go_wp2_with fail
        go_ret2
        rw [HAF.out, if_pos trivial]
        have hB := (Blk.setCell HW4.out 3 (.int .i64 ((sz : Int) + (X.length : Int)))).setCell 4 (.int .i64 ((ct : Int) + 1))
        have hK : Kp (fun x => x = g) w4 ((w4.setCell ⟨g, 3, none⟩ (.int .i64 ((sz : Int) + (X.length : Int)))).setCell ⟨g, 4, none⟩ (.int .i64 ((ct : Int) + 1))) :=
          Kp.setCell (p := ⟨g, 4, none⟩) (Kp.setCell (p := ⟨g, 3, none⟩) (Kp.refl (fun x => x = g) w4) (.inl rfl) _) (.inl rfl) _
        refine ⟨rfl, ?_, HT4.out.kp hK (fun e => hgb e.symm), P', HS4.out.1.kp hK (fun x hx => by rw [hx]; exact HNP.out), HKW4.out.trans hK (fun x hx => .inl (.inr (.inr hx))), HP5.out⟩
        have e1 : ((sz + X.length : Nat) : Int) = (sz : Int) + (X.length : Int) := by simp
        have e2 : ((ct + 1 : Nat) : Int) = (ct : Int) + 1 := by simp
        show WrAt _ g s b i ((sz + X.length : Nat) : Int) ((ct + 1 : Nat) : Int) false
        rw [e1, e2]
        exact hB
      · have hfa' : ¬ ((FA : Int) = 0) := by omega
        go_wp2_with fail
        go_ret2
        rw [HAF.out, if_neg hfa]
        exact ⟨rfl, HW4.out, HT4.out, P', HS4.out.1, HKW4.out, HP5.out⟩
end Go.Proofs.YthmimipoooemjaaGreatDoor
end

section
/-
  Save: what it takes, step by step.
-/
namespace Go.Proofs.YthmimipoooemjaaGreatDoor.Ix
open Go.RowKit Go.Shelf
open Sim (hid Kp No PS Done Blk nm ByP)

theorem nm_sT : nm sT = nT := rfl
theorem nm_sI : nm sI = nI := rfl

theorem removeTemp_any {P : Nat → Prop} {N : Nat} (w : World) (s : Nat) (p : PS) (h : Sim.Sys P N w s p) (hN : N + 1 ≤ 1000) :
    Calls Tryz.prog 117 #[.pointer (some ⟨s, 0, none⟩)] w fun e w' => e = .returned (.int .i64 ((pRm p).1 : Nat)) ∧ Done P (N + 1) w w' s (pRm p).2 := by
  have HC := hid (Sim.remove_any w s p sT (by decide) h hN)
  rw [nm_sT] at HC
  unfold sT at HC
  rw [pRm]
  obtain ⟨R, hR⟩ : ∃ R, Sim.pRemove nT p = R := ⟨_, rfl⟩
  rw [hR] at HC ⊢
  obtain ⟨F, hF⟩ : ∃ F, (if R.1 = 5 then 0 else R.1) = F := ⟨_, rfl⟩
  rw [hF]
  have HF := hid hF
  clear hR h hF
  go_enter Tryz.func117, Tryz.ntmps117
  go_wp2_with fail
  refine HC.out.mono ?_
  rintro e w1 ⟨rfl, hD⟩
  have HD := hid hD
  clear hD
  by_cases hz : R.1 = 5
  · have HZ := hid hz
    rw [hz]
    clear hz
    go_wp2_with fail
    go_ret
    exact ⟨by rw [← HF.out, HZ.out]; rfl, HD.out⟩
  · have HZ := hid hz
    have hz' : ¬ ((R.1 : Int) = 5) := by omega
    clear hz
    go_wp2_with fail
    go_ret
    exact ⟨by rw [← HF.out, if_neg HZ.out]; rfl, HD.out⟩

/-- What a step of a save answers, and leaves. -/
def StpP (bs : List Nat) (j : Nat) (P : Nat → Prop) (N : Nat) (w : World) (s : Nat) (q : PS) (e : Ending) (w' : World) : Prop :=
  ∃ r, Stp bs j q r ∧ e = .returned (.int .i64 (r.1 : Nat)) ∧ Done P (N + 1) w w' s r.2

theorem save1_any {P : Nat → Prop} {N : Nat} (bs : List Nat) (w : World) (s c1 : Nat) (q : PS) (h : Sim.Sys P N w s q) (hN : N + 1 ≤ 1000) (k1 : w.cell? ⟨c1, 0, none⟩ = some (.pointer (some ⟨s, 0, none⟩))) :
    Calls Tryz.prog 116 #[.pointer (some ⟨c1, 0, none⟩)] w fun e w' => StpP bs 0 P N w s q e w' := by
  have HC := hid (removeTemp_any w s q h hN)
  clear h
  go_enter Tryz.func116, Tryz.ntmps116
  go_wp2_with fail
  refine HC.out.mono ?_
  rintro e w1 ⟨rfl, hD⟩
  have HD : Hid (StpP bs 0 P N w s q (.returned (.int .i64 ((pRm q).1 : Nat))) w1) := ⟨_, rfl, rfl, hD⟩
  clear hD HC
  generalize (pRm q).1 = F at *
  go_wp2_with fail
  go_ret
  exact HD.out

theorem save2_any {P : Nat → Prop} {N : Nat} (bs : List Nat) (w : World) (s c1 : Nat) (q : PS) (h : Sim.Sys P N w s q) (hN : N + 1 ≤ 1000) (k1 : w.cell? ⟨c1, 0, none⟩ = some (.pointer (some ⟨s, 0, none⟩))) :
    Calls Tryz.prog 118 #[.pointer (some ⟨c1, 0, none⟩)] w fun e w' => StpP bs 1 P N w s q e w' := by
  have HC := hid (Sim.create_any w s q sT (by decide) h hN)
  rw [nm_sT] at HC
  unfold sT at HC
  clear h
  go_enter Tryz.func118, Tryz.ntmps118
  go_wp2_with fail
  refine HC.out.mono ?_
  rintro e w1 ⟨b, hb, rfl, hD⟩
  have HD : Hid (StpP bs 1 P N w s q (.returned (.int .i64 ((Sim.pCreate nT b q).1 : Nat))) w1) := ⟨_, ⟨b, hb, rfl⟩, rfl, hD⟩
  clear hD HC hb
  generalize (Sim.pCreate nT b q).1 = F at *
  go_wp2_with fail
  go_ret
  exact HD.out

theorem save4_any {P : Nat → Prop} {N : Nat} (bs : List Nat) (w : World) (s c1 : Nat) (q : PS) (h : Sim.Sys P N w s q) (hN : N + 1 ≤ 1000) (k1 : w.cell? ⟨c1, 0, none⟩ = some (.pointer (some ⟨s, 0, none⟩))) :
    Calls Tryz.prog 122 #[.pointer (some ⟨c1, 0, none⟩)] w fun e w' => StpP bs 3 P N w s q e w' := by
  have HC := hid (Sim.fsync_any w s q sT (by decide) h hN)
  rw [nm_sT] at HC
  unfold sT at HC
  clear h
  go_enter Tryz.func122, Tryz.ntmps122
  go_wp2_with fail
  refine HC.out.mono ?_
  rintro e w1 ⟨rfl, hD⟩
  have HD : Hid (StpP bs 3 P N w s q (.returned (.int .i64 ((Sim.pFsync nT q).1 : Nat))) w1) := ⟨_, rfl, rfl, hD⟩
  clear hD HC
  generalize (Sim.pFsync nT q).1 = F at *
  go_wp2_with fail
  go_ret
  exact HD.out

theorem save5_any {P : Nat → Prop} {N : Nat} (bs : List Nat) (w : World) (s c1 : Nat) (q : PS) (h : Sim.Sys P N w s q) (hN : N + 1 ≤ 1000) (k1 : w.cell? ⟨c1, 0, none⟩ = some (.pointer (some ⟨s, 0, none⟩))) :
    Calls Tryz.prog 124 #[.pointer (some ⟨c1, 0, none⟩)] w fun e w' => StpP bs 4 P N w s q e w' := by
  have HC := hid (Sim.rename_any w s q sT sI (by decide) (by decide) h hN)
  rw [nm_sT, nm_sI] at HC
  unfold sT sI at HC
  clear h
  go_enter Tryz.func124, Tryz.ntmps124
  go_wp2_with fail
  refine HC.out.mono ?_
  rintro e w1 ⟨rfl, hD⟩
  have HD : Hid (StpP bs 4 P N w s q (.returned (.int .i64 ((Sim.pRename nT nI q).1 : Nat))) w1) := ⟨_, rfl, rfl, hD⟩
  clear hD HC
  generalize (Sim.pRename nT nI q).1 = F at *
  go_wp2_with fail
  go_ret
  exact HD.out

theorem save6_any {P : Nat → Prop} {N : Nat} (bs : List Nat) (w : World) (s : Nat) (q : PS) (h : Sim.Sys P N w s q) (hN : N + 1 ≤ 1000) :
    Calls Tryz.prog 86 #[.pointer (some ⟨s, 0, none⟩)] w fun e w' => StpP bs 5 P N w s q e w' :=
  (Sim.syncdir_any w s q h hN).mono (by rintro e w1 ⟨rfl, hD⟩; exact ⟨_, rfl, rfl, hD⟩)

theorem save3_any {P Q : Nat → Prop} {N : Nat} (bs : List Nat) (w : World) (s c1 c2 : Nat) (q : PS) (vb : Value) (h : Sim.Sys P N w s q) (hN : N + 1 ≤ 1000) (k1 : w.cell? ⟨c1, 0, none⟩ = some (.pointer (some ⟨s, 0, none⟩)))
    (k2 : w.cell? ⟨c2, 0, none⟩ = some vb) (hy : ByP Q w vb bs) (hQ : ∀ x, Q x → ¬ P x) (hl : bs.length ≤ 12000) :
    Calls Tryz.prog 120 #[.pointer (some ⟨c1, 0, none⟩), .pointer (some ⟨c2, 0, none⟩)] w fun e w' => StpP bs 2 P N w s q e w' := by
  obtain ⟨av, cv, rfl, _⟩ := id hy
  have HC := hid (Sim.append_any w s q sT _ bs (by decide) h hN hy hQ hl)
  rw [nm_sT] at HC
  unfold sT at HC
  clear h hy
  go_enter Tryz.func120, Tryz.ntmps120
  go_wp2_with fail
  refine HC.out.mono ?_
  rintro e w1 ⟨rfl, hD⟩
  have HD : Hid (StpP bs 2 P N w s q (.returned (.int .i64 ((Sim.pAppend nT bs q).1 : Nat))) w1) := ⟨_, rfl, rfl, hD⟩
  clear hD HC
  generalize (Sim.pAppend nT bs q).1 = F at *
  go_wp2_with fail
  go_ret
  exact HD.out

def fnA (c1 c2 s : Nat) : Array Value := #[.func (.func 116) #[] #[.pointer (some ⟨c1, 0, none⟩)], .func (.func 118) #[] #[.pointer (some ⟨c1, 0, none⟩)], .func (.func 120) #[] #[.pointer (some ⟨c1, 0, none⟩), .pointer (some ⟨c2, 0, none⟩)],
  .func (.func 122) #[] #[.pointer (some ⟨c1, 0, none⟩)], .func (.func 124) #[] #[.pointer (some ⟨c1, 0, none⟩)], .func (.func 86) #[.pointer (some ⟨s, 0, none⟩)] #[]]

set_option maxHeartbeats 1000000 in
set_option maxRecDepth 100000 in
theorem saving_any (w : World) (s n c : Nat) (a : Option Addr) :
    Calls Tryz.prog 75 #[.pointer (some ⟨s, 0, none⟩), .slice a n c] w fun e w' => ∃ c1 c2, e = .returned (.agg (fnA c1 c2 s)) ∧ w'.cell? ⟨c1, 0, none⟩ = some (.pointer (some ⟨s, 0, none⟩)) ∧ w'.cell? ⟨c2, 0, none⟩ = some (.slice a n c) ∧ w.heap.size ≤ c1 ∧ w.heap.size ≤ c2 ∧ Below w.heap.size w w' := by
  have hmf : ∀ (fn : Fn) (first cap : Array Value) (w : World), (Instr.makeFunc fn first cap).run Tryz.prog w = .ok (.func fn first cap) w := fun _ _ _ _ => rfl
  obtain ⟨W, hW⟩ : ∃ W, (w.alloc (.cells #[.pointer (some ⟨s, 0, none⟩)] 25)).alloc (.cells #[.slice a n c] 54) = W := ⟨_, rfl⟩
  have hsz : W.heap.size = w.heap.size + 1 + 1 := by rw [← hW]; simp
  have HB : Hid (Below w.heap.size w W) := by rw [← hW]; exact ((Below.refl _ _).alloc (Nat.le_refl _) _).alloc (by simp) _
  have HC1 : Hid (W.cell? ⟨w.heap.size, 0, none⟩ = some (.pointer (some ⟨s, 0, none⟩))) := by
    rw [← hW, Hid, Below.cell ((Below.refl (w.heap.size + 1) _).alloc (by simp) _) (p := ⟨w.heap.size, 0, none⟩) (by simp), World.cell?_alloc_at _ _ _ _ rfl]
    rfl
  have HC2 : Hid (W.cell? ⟨w.heap.size + 1, 0, none⟩ = some (.slice a n c)) := by
    rw [← hW, Hid]
    have e : (w.alloc (.cells #[.pointer (some ⟨s, 0, none⟩)] 25)).heap.size = w.heap.size + 1 := by simp
    rw [← e, World.cell?_alloc_at _ _ _ _ rfl]
    rfl
  have hT : World.there (W.alloc (.cells (List.replicate 6 Value.nilFunc).toArray 163)) W.heap.size 0 6 := there_new W (List.replicate 6 Value.nilFunc) 163
  have HT : Hid (World.there (W.alloc (.cells #[Value.nilFunc, Value.nilFunc, Value.nilFunc, Value.nilFunc, Value.nilFunc, Value.nilFunc] 163)) W.heap.size 0 (fnA w.heap.size (w.heap.size + 1) s).size) := hT
  have HI := hid (show (Tryz.prog.info? 163).map (·.size) = some (fnA w.heap.size (w.heap.size + 1) s).size by kernel_rfl)
  have H1 := hid (show (fnA w.heap.size (w.heap.size + 1) s).all (·.oneCell') = true by simp [fnA, Value.oneCell'])
  rw [hsz] at HT
  clear hT
  have hc1 := HC1.out
  have hlt1 : w.heap.size < W.heap.size := by omega
  go_enter Tryz.func75, Tryz.ntmps75
  go_wp2_with (refine wpList_store_mid (by rfl) 163 _ _ (by rfl) (w.heap.size + 1 + 1) 0 (fnA w.heap.size (w.heap.size + 1) s) (by rfl) (by rfl) ?hT HI.out H1.out ?_)
  case hT => exact HT.out
  obtain ⟨F, hF⟩ : ∃ F, (W.alloc (.cells #[Value.nilFunc, Value.nilFunc, Value.nilFunc, Value.nilFunc, Value.nilFunc, Value.nilFunc] 163)).setCells (w.heap.size + 1 + 1) 0 (fnA w.heap.size (w.heap.size + 1) s).toList = F := ⟨_, rfl⟩
  have hr : F.rangeAt (w.heap.size + 1 + 1) 0 (fnA w.heap.size (w.heap.size + 1) s).toList := by rw [← hF]; exact World.rangeAt_setCells_same _ _ _ _ HT.out
  have hBF : Below (w.heap.size + 1 + 1) W F := by rw [← hF]; exact ((Below.refl _ _).alloc (by omega) _).trans (setCells_below (Nat.le_refl _) _ _ _)
  rw [hF]
  refine bodyPost_ret (v := .agg (fnA w.heap.size (w.heap.size + 1) s)) (results_cell_mid Tryz.results75 _ _ (w.heap.size + 1 + 1) 0 _ _ rfl hr Tryz.underlying163 rfl HI.out) rfl ?_
  exact ⟨w.heap.size, w.heap.size + 1, rfl, (hBF.cell (p := ⟨w.heap.size, 0, none⟩) (by simp; omega)).trans HC1.out, (hBF.cell (p := ⟨w.heap.size + 1, 0, none⟩) (by simp)).trans HC2.out, Nat.le_refl _, by omega, HB.out.trans (hBF.mono (by omega))⟩

end Go.Proofs.YthmimipoooemjaaGreatDoor.Ix
end
