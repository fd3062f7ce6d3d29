/-
  TreeWrites: its walk.
-/
import Derived.Test.YtdooiflmjeibdaaDoorTrOps
import Derived.Test.YtdooiflmjeibdaaDoorTrAlive
import Derived.Test.YtdooiflmjeibdaaDoorTrRef3
import Derived.Test.YtdooiflmjeibdaaDoorTrMovB
import Derived.Deep.DeepCutAuto
namespace Go.Proofs.YtdooiflmjeibdaaDoor.Tr
open Go.RowKit

/-- A rename there and back is nothing. -/
theorem ren_round {t : List It} {p q : ByteArray} {r : Int × List It} (h : RenR t p q r) (h0 : r.1 = 0) :
    rightB r.2 = true ∧ (∀ s, RenR r.2 q p s → s = (0, t)) ∧ (underL r.2 q).length = (underL t p).length := by
  have h' := h
  obtain ⟨hr, hf⟩ := rename_right h h0
  unfold RenR at h
  rw [if_pos hf] at h
  by_cases ha : (underL t p).all (fun x => pathB (tx (mvP p q x).1)) = true
  · rw [if_pos ha] at h
    obtain ⟨zs, hz, hs, rfl⟩ := h
    by_cases hpq : p = q
    · subst hpq
      have hpp : rightB t = true ∧ pathB (tx p) = true := by
        have hf2 := hf
        unfold staysF at hf2
        by_cases hk : askedF t [p, p] = 0
        · refine ⟨asked_right hk, ?_⟩
          have hrt := asked_right hk
          unfold askedF at hk
          rw [hrt, if_pos rfl] at hk
          cases hp : pathB (tx p) with
          | true => rfl
          | false =>
            have e : ([p, p].all fun p => pathB (tx p)) = false := by simp [hp]
            rw [e] at hk
            simp at hk
        · rw [if_neg hk] at hf2
          exact absurd hf2 hk
      have e := ren_self hpp.1 hpp.2 hz hs
      subst e
      refine ⟨hr, fun s hs' => ?_, rfl⟩
      unfold RenR at hs'
      rw [if_pos hf, if_pos ha] at hs'
      obtain ⟨ws, hw, hws, rfl⟩ := hs'
      exact congrArg (Prod.mk 0) (ren_self hpp.1 hpp.2 hw hws)
    · obtain ⟨b1, b2, b3, b4⟩ := ren_back hf hpq ha hz hs
      refine ⟨hr, fun s hs' => ?_, b4⟩
      unfold RenR at hs'
      rw [if_pos b1, if_pos b2] at hs'
      obtain ⟨ws, hw, hws, rfl⟩ := hs'
      exact congrArg (Prod.mk 0) (b3 ws hw hws)
  · rw [if_neg ha] at h
    subst h
    simp at h0

set_option maxHeartbeats 16000000 in
set_option maxRecDepth 100000 in
theorem writes_yes (w : World) (vl vb : Value) (p q : ByteArray) (b : List Nat) (hb : ByP Any w vb b) (hp : p.size ≤ 250) (hq : q.size ≤ 250) (hbl : b.length ≤ 2100)
    (HO : Hid (∀ V, Kp No w V → Calls Tryd.prog 4 #[vl, .int .i64 20] V fun e w' => e = .returned (.bool true) ∧ Kp No V w'))
    (HG : Hid (∀ V, Kp No w V → Calls Tryd.prog 6 #[vl] V fun e w' => ∃ v t, e = .returned v ∧ IOwn w' v t ∧ rightB t = true ∧ Kp No V w')) :
    Calls Tryd.prog 3 #[vl, .string p, .string q, vb] w fun e w' => e = .returned (.bool true) ∧ Kp No w w' := by
  have hpI : ¬ (250 : Int) < (p.size : Int) := by omega
  have hqI : ¬ (250 : Int) < (q.size : Int) := by omega
  have hbI : ¬ (2100 : Int) < (b.length : Int) := by omega
  have HB := hid hb
  have HPS : Hid (p.size ≤ 10000) := by unfold Hid; omega
  have HQS : Hid (q.size ≤ 10000) := by unfold Hid; omega
  have HBS : Hid (b.length ≤ 10000) := by unfold Hid; omega
  obtain ⟨ab, cb, rfl⟩ := hb.form
  clear hb hp hq hbl
  go_enter Tryd.func3, Tryd.ntmps3
  go_upto_region 4 with (first
    | (go_at_call 6; refine (HG.out _ HK0.out).mono ?_; rintro e w1 ⟨v1, t, rfl, hown, hrt, hk⟩; have HK1 := hid (HK0.out.andNone hk); have HT := hid hown; have HR := hid hrt; clear hk hown hrt)
    | (go_at_call 4; refine (HO.out _ (Kp.refl _ _)).mono ?_; rintro e w0 ⟨rfl, hk⟩; have HK0 := hid hk; clear hk))
  obtain ⟨at1, ct, e1⟩ := HT.out.form
  obtain ⟨n, hn⟩ : ∃ n, t.length = n := ⟨_, rfl⟩
  rw [hn] at e1
  subst e1
  have HNL := hid hn
  have hn60 : n ≤ 60 := by rw [← hn]; exact (right_rises HR.out).2
  have HSH := hid (right_short HR.out)
  have HLN : Hid (t.length ≤ 60) := (right_rises HR.out).2
  have HRS : Hid (Rises t) := rises_pair _ (right_rises HR.out).1
  obtain ⟨f2, ys, hrw⟩ : ∃ f2 ys, writeR t p b = (f2, ys) := ⟨_, _, rfl⟩
  obtain ⟨f5, rs, hrm⟩ : ∃ f5 rs, removeR t p true = (f5, rs) := ⟨_, _, rfl⟩
  obtain ⟨m, hm⟩ : ∃ m, (underL t p).length = m := ⟨_, rfl⟩
  have HW := hid (fun (V : World) (k : Kp No w1 V) => (write_any V _ _ t p b (HT.out.kept k).row (by have := HLN.out; omega) HSH.out HPS.out (HB.out.kept (HK1.out.andNone k))).mono fun e w' h => (show ∃ v', e = .returned (.tuple #[v', .int .i64 f2]) ∧ IOwn w' v' ys ∧ Kp No V w' by
    obtain ⟨v', h1, h2, _, h3⟩ := h
    rw [hrw] at h1 h2
    exact ⟨v', h1, h2, h3⟩))
  have HN := hid (fun (V : World) (k : Kp No w1 V) => (rename_any V _ t p q (HT.out.kept k).row (by have := HLN.out; omega) HSH.out HPS.out HQS.out).mono fun e w' h => (show ∃ f3 zs v', e = .returned (.tuple #[v', .int .i64 f3]) ∧ RenR t p q (f3, zs) ∧ IOwn w' v' zs ∧ Kp No V w' by
    obtain ⟨⟨f3, zs⟩, hr, v', h1, h2, _, h3⟩ := h
    exact ⟨f3, zs, v', h1, hr, h2, h3⟩))
  have HM := hid (fun (V : World) (k : Kp No w1 V) => (remove_any V _ t p true (HT.out.kept k).row (by have := HLN.out; omega) HSH.out HPS.out).mono fun e w' h => (show ∃ v', e = .returned (.tuple #[v', .int .i64 f5]) ∧ IOwn w' v' rs ∧ Kp No V w' by
    obtain ⟨v', h1, h2, _, h3⟩ := h
    rw [hrm] at h1 h2
    exact ⟨v', h1, h2, h3⟩))
  have HU := hid (fun (V : World) (k : Kp No w1 V) => (under_any V _ t p (HT.out.kept k).row (by have := HLN.out; omega) HSH.out).mono fun e w' h => (show ∃ a c, e = .returned (.slice a m c) ∧ Kp No V w' by
    obtain ⟨a, n', c, rfl, ho, _, hk⟩ := h
    obtain ⟨_, _, e0⟩ := ho.form
    cases e0
    rw [hm]
    exact ⟨a, c, rfl, hk⟩))
  have HRW : Hid (f2 = 0 → rightB ys = true ∧ ys = putL t (p, false, b)) := fun h0 => by
    have h := write_right (t := t) (p := p) (b := b) (by rw [hrw]; exact h0)
    rw [hrw] at h
    exact ⟨h.1, h.2.1⟩
  have HRM : Hid (f5 = 0 → look rs p = none ∧ rs.length + m = t.length ∧ rightB rs = true) := fun h0 => by
    have h := remove_right (t := t) (p := p) (deep := true) (by rw [hrm]; exact h0)
    rw [hrm] at h
    have e : rs = outL t p := h.2
    refine ⟨by rw [e]; exact out_look, ?_, h.1⟩
    rw [e, ← hm]
    exact parts_len t p
  have HMM := hid hm
  clear hn hrw hrm hm
  have HAL := hid alive_any
  go_upto_if 52 with (go_at_call 7; refine (HW.out _ (Kp.refl _ _)).mono ?_; rintro e w2 ⟨v2, rfl, hown, hk⟩; have HK2 := hid hk; have HO2 := hid hown; clear hk hown)
  go_cut [] (fun wx => Hid (Kp No w1 wx))
  case first =>
    by_cases h0 : f2 = 0
    · have HY := hid (HRW.out h0)
      subst h0
      have HYS : Hid (ys.length ≤ 60) := (right_rises HY.out.1).2
      have HLK : Hid (∀ s, look ys s = if s = p then some (p, false, b) else look t s) := fun s => by rw [HY.out.2]; exact put_look HRS.out s
      have HF := hid (fun (V : World) (k : Kp No w2 V) => (find_yes V v2 ys p (p, false, b) ⟨HPS.out, HBS.out⟩ (HO2.out.kept k).row (by have := HYS.out; omega) (by rw [HLK.out, if_pos rfl])).mono fun e w' h => (show ∃ a c, e = .returned (.tuple #[.agg #[.string p, .bool false, .slice a b.length c], .bool true]) ∧ ByP Any w' (.slice a b.length c) b ∧ Kp No V w' by
        obtain ⟨u, h1, h2, h3⟩ := h
        obtain ⟨a, c, e⟩ := h2.form
        subst e
        exact ⟨a, c, h1, h2, h3⟩))
      go_wp2_with (first
        | (go_at_call 9; refine (rb01_any _ _ _ b b (HBY.out.kept ((Kp.refl No _).alloc _)) (HB.out.kept (((HK1.out.andNone HK2.out).andNone HK3.out).alloc _)) (by have := HBS.out; omega)).mono ?_; rw [decide_eq_true rfl]; rintro e w4 ⟨rfl, hk⟩; have HK4 := hid ((HK3.out.alloc _).andNone hk); clear hk)
        | (go_at_call 8; refine (HF.out _ (Kp.refl _ _)).mono ?_; rintro e w3 ⟨a3, c3, rfl, hby, hk⟩; have HK3 := hid hk; have HBY := hid hby; clear hk hby))
      go_loopw [14] (fun z wr => ∃ i : Nat, z = .int .i64 i ∧ i ≤ n ∧ Hid (Kp No w2 wr)) (fun z _ => n - (intOf z).toNat)
      case atStart => exact ⟨0, rfl, Nat.zero_le _, HK4.out⟩
      case round =>
        obtain ⟨i, rfl, hi, HK⟩ := hrel
        by_cases hlt : i < n
        · have hltI : (i : Int) < (n : Int) := by omega
          have hi0 : (0 : Int) ≤ (i : Int) := by omega
          obtain ⟨y, hy⟩ : ∃ y, t[i]? = some y := ⟨_, List.getElem?_eq_getElem (by rw [HNL.out]; omega)⟩
          have HKW := hid (HK2.out.andNone HK.out)
          obtain ⟨g, o, cap, e, hc⟩ := HT.out.row.cells (by rintro rfl; simp at hy)
          rw [HNL.out] at e
          cases e
          obtain ⟨uy, k0, k1, k2, hby⟩ := hc _ HKW.out i y hy
          obtain ⟨ay, cy, e⟩ := hby.form
          subst e
          have HYM := hid (List.mem_of_getElem? hy)
          have HC := hid (fun (V : World) (k : Kp No wr V) => (show V.cell? ⟨g, o + i * 3, none⟩ = some (.string y.1) ∧ V.cell? ⟨g, o + i * 3 + 1, none⟩ = some (.bool y.2.1) ∧ V.cell? ⟨g, o + i * 3 + 2, none⟩ = some (.slice ay y.2.2.length cy) ∧ ByP Any V (.slice ay y.2.2.length cy) y.2.2 from
            ⟨(k.cell (p := ⟨g, o + i * 3, none⟩) (World.block_lt_of_cell? _ _ k0) (fun h => h)).trans k0, (k.cell (p := ⟨g, o + i * 3 + 1, none⟩) (World.block_lt_of_cell? _ _ k1) (fun h => h)).trans k1, (k.cell (p := ⟨g, o + i * 3 + 2, none⟩) (World.block_lt_of_cell? _ _ k2) (fun h => h)).trans k2, hby.kept k⟩))
          clear hy hc hby
          by_cases hyp : y.1 = p
          · have hne : (y.1.toList != p.toList) = false := by rw [hyp]; simp
            have heq : (y.1.toList == p.toList) = true := by rw [hyp]; simp
            have HF2 := hid ((find_yes wr v2 ys y.1 (p, false, b) ⟨HPS.out, HBS.out⟩ (HO2.out.kept HK.out).row (by have := HYS.out; omega) (by rw [HLK.out, if_pos hyp])).mono fun e w' h => (show ∃ a c, e = .returned (.tuple #[.agg #[.string p, .bool false, .slice a b.length c], .bool true]) ∧ Kp No wr w' by
              obtain ⟨u, h1, h2, h3⟩ := h
              obtain ⟨a, c, e⟩ := h2.form
              subst e
              exact ⟨a, c, h1, h3⟩))
            clear hyp
            go_wp2_with (go_at_call 8; refine HF2.out.mono ?_; rintro e w5 ⟨a5, c5, rfl, hk⟩; have HK5 := hid (hk.alloc (.cells #[.string p, .bool false, .slice a5 b.length c5] 33)); clear hk)
            obtain ⟨z0, z1, z2⟩ : (∀ V, Kp No (w5.alloc (.cells #[.string p, .bool false, .slice a5 b.length c5] 33)) V → V.cell? ⟨w5.heap.size, 0, none⟩ = some (.string ((p, false, b) : It).1)) ∧ (∀ V, Kp No (w5.alloc (.cells #[.string p, .bool false, .slice a5 b.length c5] 33)) V → V.cell? ⟨w5.heap.size, 1, none⟩ = some (.bool ((p, false, b) : It).2.1)) ∧ (∀ V, Kp No (w5.alloc (.cells #[.string p, .bool false, .slice a5 b.length c5] 33)) V → V.cell? ⟨w5.heap.size, 2, none⟩ = some (.slice a5 b.length c5)) := ⟨fun V k => (box_it w5 ((p, false, b) : It) (.slice a5 b.length c5) _ V k).1, fun V k => (box_it w5 ((p, false, b) : It) (.slice a5 b.length c5) _ V k).2.1, fun V k => (box_it w5 ((p, false, b) : It) (.slice a5 b.length c5) _ V k).2.2⟩
            obtain ⟨q0, q1, q2⟩ : (∀ V, Kp No (w5.alloc (.cells #[.string p, .bool false, .slice a5 b.length c5] 33)) V → V.cell? ⟨g, o + i * 3, none⟩ = some (.string y.1)) ∧ (∀ V, Kp No (w5.alloc (.cells #[.string p, .bool false, .slice a5 b.length c5] 33)) V → V.cell? ⟨g, o + i * 3 + 1, none⟩ = some (.bool y.2.1)) ∧ (∀ V, Kp No (w5.alloc (.cells #[.string p, .bool false, .slice a5 b.length c5] 33)) V → V.cell? ⟨g, o + i * 3 + 2, none⟩ = some (.slice ay y.2.2.length cy)) := ⟨fun V k => (HC.out _ (HK5.out.andNone k)).1, fun V k => (HC.out _ (HK5.out.andNone k)).2.1, fun V k => (HC.out _ (HK5.out.andNone k)).2.2.1⟩
            clear k0 k1 k2
            have q0 := q0 _ (Kp.refl _ _)
            have q1 := q1 _ (Kp.refl _ _)
            have q2 := q2 _ (Kp.refl _ _)
            clear z0 z1 z2
            go_quiet (fail)
            go_wp2
            go_roundw
            case rel => exact ⟨i + 1, by go_num, by omega, (HK.out.andNone HK5.out).drewN _⟩
            case measure => simp [intOf] <;> omega
          · have heq : (y.1.toList == p.toList) = false := by
              have := str_eq y.1 p
              rwa [decide_eq_false hyp] at this
            have hne : (y.1.toList != p.toList) = true := by simp [bne, heq]
            have HF2 := hid ((find_yes wr v2 ys y.1 y (HSH.out y HYM.out) (HO2.out.kept HK.out).row (by have := HYS.out; omega) (by rw [HLK.out, if_neg hyp]; exact look_rises HRS.out HYM.out)).mono fun e w' h => (show ∃ a c, e = .returned (.tuple #[.agg #[.string y.1, .bool y.2.1, .slice a y.2.2.length c], .bool true]) ∧ ByP Any w' (.slice a y.2.2.length c) y.2.2 ∧ Kp No wr w' by
              obtain ⟨u, h1, h2, h3⟩ := h
              obtain ⟨a, c, e⟩ := h2.form
              subst e
              exact ⟨a, c, h1, h2, h3⟩))
            clear hyp
            go_wp2_with (go_at_call 8; refine HF2.out.mono ?_; rintro e w5 ⟨a5, c5, rfl, hb5, hk⟩; have HB5 := hid hb5; have HK5 := hid (hk.alloc (.cells #[.string y.1, .bool y.2.1, .slice a5 y.2.2.length c5] 33)); clear hk hb5)
            obtain ⟨z0, z1, z2⟩ : (∀ V, Kp No (w5.alloc (.cells #[.string y.1, .bool y.2.1, .slice a5 y.2.2.length c5] 33)) V → V.cell? ⟨w5.heap.size, 0, none⟩ = some (.string (y).1)) ∧ (∀ V, Kp No (w5.alloc (.cells #[.string y.1, .bool y.2.1, .slice a5 y.2.2.length c5] 33)) V → V.cell? ⟨w5.heap.size, 1, none⟩ = some (.bool (y).2.1)) ∧ (∀ V, Kp No (w5.alloc (.cells #[.string y.1, .bool y.2.1, .slice a5 y.2.2.length c5] 33)) V → V.cell? ⟨w5.heap.size, 2, none⟩ = some (.slice a5 y.2.2.length c5)) := ⟨fun V k => (box_it w5 (y) (.slice a5 y.2.2.length c5) _ V k).1, fun V k => (box_it w5 (y) (.slice a5 y.2.2.length c5) _ V k).2.1, fun V k => (box_it w5 (y) (.slice a5 y.2.2.length c5) _ V k).2.2⟩
            obtain ⟨q0, q1, q2⟩ : (∀ V, Kp No (w5.alloc (.cells #[.string y.1, .bool y.2.1, .slice a5 y.2.2.length c5] 33)) V → V.cell? ⟨g, o + i * 3, none⟩ = some (.string y.1)) ∧ (∀ V, Kp No (w5.alloc (.cells #[.string y.1, .bool y.2.1, .slice a5 y.2.2.length c5] 33)) V → V.cell? ⟨g, o + i * 3 + 1, none⟩ = some (.bool y.2.1)) ∧ (∀ V, Kp No (w5.alloc (.cells #[.string y.1, .bool y.2.1, .slice a5 y.2.2.length c5] 33)) V → V.cell? ⟨g, o + i * 3 + 2, none⟩ = some (.slice ay y.2.2.length cy)) := ⟨fun V k => (HC.out _ (HK5.out.andNone k)).1, fun V k => (HC.out _ (HK5.out.andNone k)).2.1, fun V k => (HC.out _ (HK5.out.andNone k)).2.2.1⟩
            have HCALL : Hid (∀ V, Kp No (w5.alloc (.cells #[.string y.1, .bool y.2.1, .slice a5 y.2.2.length c5] 33)) V → Calls Tryd.prog 10 #[.agg #[.string y.1, .bool y.2.1, .slice a5 y.2.2.length c5], .agg #[.string y.1, .bool y.2.1, .slice ay y.2.2.length cy]] V fun e w' => e = .returned (.bool true) ∧ Kp No V w') := fun V k => by
              have h := rsameitem_any V y y (.slice a5 y.2.2.length c5) (.slice ay y.2.2.length cy) (HB5.out.kept (((Kp.refl No w5).alloc _).andNone k)) (HC.out _ (HK5.out.andNone k)).2.2.2 (HSH.out y HYM.out)
              rw [decide_eq_true rfl] at h
              exact h
            clear k0 k1 k2
            go_region_held3 (fun V => Kp No (w5.alloc (.cells #[.string y.1, .bool y.2.1, .slice a5 y.2.2.length c5] 33)) V) (first | (with_reducible exact Kp.refl _ _) | (with_reducible exact (Kp.refl _ _).drew) | (with_reducible exact HK6.out)) (first | (go_at_call 10; refine (HCALL.out _ (Kp.refl _ _).drew).mono ?_; rintro e w6 ⟨rfl, hk⟩; have HK6 : Hid (Kp No (w5.alloc (.cells #[.string y.1, .bool y.2.1, .slice a5 y.2.2.length c5] 33)) w6) := (Kp.refl _ _).drew.andNone hk; clear hk))
            clear z0 z1 z2 q0 q1 q2
            go_wp2
            go_roundw
            case rel => exact ⟨i + 1, by go_num, by omega, (HK.out.andNone HK5.out).andNone HK6.out⟩
            case measure => simp [intOf] <;> omega
        · have hltI : ¬ (i : Int) < (n : Int) := by omega
          go_wp2_with fail
          go_meet
          exact HK2.out.andNone HK.out
    · go_wp2_with fail
      go_meet
      exact HK2.out
  case rest =>
    have HKC := hid hcut.out
    clear hcut HW HRW
    go_upto_if 116 with (go_at_call 11; refine (HN.out _ HKC.out).mono ?_; rintro e w3 ⟨f3, zs, v3, rfl, hr, hown, hk⟩; have HK3 := hid (HKC.out.andNone hk); have HO3 := hid hown; have HR3 := hid hr; clear hk hown hr)
    go_cut [] (fun wx => Hid (Kp No w1 wx))
    case first =>
      by_cases h0 : f3 = 0
      · subst h0
        have HF := hid (ren_round HR3.out rfl)
        have HZS : Hid (zs.length ≤ 60) := (right_rises HF.out.1).2
        have HN2 := hid (fun (V : World) (k : Kp No w3 V) => (rename_any V v3 zs q p (HO3.out.kept k).row (by have := HZS.out; omega) (right_short HF.out.1) HQS.out HPS.out).mono fun e w' h => (show ∃ a c, e = .returned (.tuple #[.slice a n c, .int .i64 0]) ∧ IOwn w' (.slice a n c) t ∧ Kp No V w' by
          obtain ⟨s, hr, v', h1, h2, _, h3⟩ := h
          have e := HF.out.2.1 s hr
          subst e
          obtain ⟨a, c, e⟩ := h2.form
          rw [HNL.out] at e
          subst e
          exact ⟨a, c, h1, h2, h3⟩))
        have HU2 := hid (fun (V : World) (k : Kp No w3 V) => (under_any V v3 zs q (HO3.out.kept k).row (by have := HZS.out; omega) (right_short HF.out.1)).mono fun e w' h => (show ∃ a c, e = .returned (.slice a m c) ∧ Kp No V w' by
          obtain ⟨a, n', c, rfl, ho, _, hk⟩ := h
          obtain ⟨_, _, e0⟩ := ho.form
          cases e0
          rw [HF.out.2.2, HMM.out]
          exact ⟨a, c, rfl, hk⟩))
        have HSM := hid (fun (V : World) (a : Option Addr) (c : Nat) (k : Kp No w1 V) (ho : IOwn V (.slice a n c) t) => (show Calls Tryd.prog 12 #[.slice a n c, _] V fun e w' => e = .returned (.bool true) ∧ Kp No V w' by
          have h := same_any V _ _ t t ho.row (HT.out.kept k).row (by have := HNL.out; omega) HSH.out
          rw [decide_eq_true rfl] at h
          exact h))
        have hmm : ((m : Int) != (m : Int)) = false := by simp
        go_wp2_with (first
          | (go_at_call 13; refine (HU.out _ (HK3.out.andNone HK6.out)).mono ?_; rintro e w7 ⟨a7, c7, rfl, hk⟩; have HK7 := hid (HK6.out.andNone hk); clear hk)
          | (go_at_call 13; refine (HU2.out _ HK5.out).mono ?_; rintro e w6 ⟨a6, c6, rfl, hk⟩; have HK6 := hid (HK5.out.andNone hk); clear hk)
          | (go_at_call 12; refine (HSM.out _ a4 c4 (HK3.out.andNone HK4.out) HO4.out).mono ?_; rintro e w5 ⟨rfl, hk⟩; have HK5 := hid (HK4.out.andNone hk); clear hk)
          | (go_at_call 11; refine (HN2.out _ (Kp.refl _ _)).mono ?_; rintro e w4 ⟨a4, c4, rfl, hown, hk⟩; have HK4 := hid hk; have HO4 := hid hown; clear hk hown))
        go_meet
        exact HK3.out.andNone HK7.out
      · go_wp2_with fail
        go_meet
        exact HK3.out
    case rest =>
      have HKD := hid hcut.out
      clear hcut HN
      go_upto_if 150 with (go_at_call 14; refine (HM.out _ HKD.out).mono ?_; rintro e w3 ⟨v3, rfl, hown, hk⟩; have HK3 := hid (HKD.out.andNone hk); have HO3 := hid hown; clear hk hown)
      go_cut [] (fun wx => Hid (Kp No w1 wx))
      case first =>
        by_cases h0 : f5 = 0
        · have HF := hid (HRM.out h0)
          subst h0
          obtain ⟨k5, hk5⟩ : ∃ k5, rs.length = k5 := ⟨_, rfl⟩
          obtain ⟨a5, c5, e5⟩ := HO3.out.form
          rw [hk5] at e5
          subst e5
          have hsum : k5 + m = n := by rw [← hk5]; exact HF.out.2.1.trans HNL.out
          have HK5L := hid hk5
          have hwr : IntKind.i64.wrap ((k5 : Int) + (m : Int)) = (n : Int) := by rw [IntKind.wrap_i64]; omega
          have hnn : ((n : Int) != (n : Int)) = false := by simp
          have HFI := hid (find_no w3 _ rs p HO3.out.row (by have := HK5L.out; omega) HF.out.1)
          clear hsum hk5
          go_wp2_with (first
            | (go_at_call 13; refine (HU.out _ (HK3.out.andNone HK4.out)).mono ?_; rintro e w7 ⟨a7, c7, rfl, hk⟩; have HK7 := hid (HK4.out.andNone hk); clear hk)
            | (go_at_call 8; refine HFI.out.mono ?_; rintro e w4 ⟨rfl, hk⟩; have HK4 := hid (hk.alloc (.cells #[.string ⟨#[]⟩, .bool false, .slice none 0 0] 33)); clear hk))
          go_meet
          exact HK3.out.andNone HK7.out
        · go_wp2_with fail
          go_meet
          exact HK3.out
      case rest =>
        have HKE := hid hcut.out
        clear hcut
        go_wp2_with (go_at_call 5; refine (HAL.out _).mono ?_; rintro e w9 ⟨rfl, hk⟩; have HK9 := hid (HKE.out.andNone hk); clear hk)
        go_ret
        exact ⟨rfl, HK1.out.andNone HK9.out⟩

end Go.Proofs.YtdooiflmjeibdaaDoor.Tr
