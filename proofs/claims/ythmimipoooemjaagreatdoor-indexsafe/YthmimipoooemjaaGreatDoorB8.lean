/- Of the proof: the texts FrTake, FrRange, FrScanM, FrTellR, FrTells, FrScanE, FrAlive, TlvRForm, TlvRefForm, FrRPut, FrLight, FrRow, FrScan, FrAt, PkAdd, one behind the other. -/
import Derived.Test.YthmimipoooemjaaGreatDoorB7
import Derived.RangeFuncNested
import Derived.RangeFuncBound
import Derived.RangeFuncCalls
import Derived.RangeFuncLeaves
import Derived.Shelf.Abstract
import Derived.Shelf.RegionOpen
import Derived.OwnWalkIn
import Derived.TacticsInMore
import Derived.LoopNIn
import Derived.LoopIn
import Derived.Test.YthmimipoooemjaaGreatDoorB6
import Derived.Deep.RegionHeld3
import Derived.RangeFuncBox
import Derived.Test.YthmimipoooemjaaGreatDoorB5
import Derived.Deep.LoopGhost
import Derived.Deep.AppendLies
import Derived.Test.YthmimipoooemjaaGreatDoorB3
section
/-
  What Take answers.
-/
namespace Go.Proofs.YthmimipoooemjaaGreatDoor
open Go.RowKit
open Tlv (Tr BySlS AgreeS Agree)
open Crc (hid Kept Tab)

/-- What Take leaves: the record in new memory; of the old the table alone may have turned. -/
def Took (w w' : World) (b : Nat) (e : Ending) (x : Int × (Int × List Int × List Int) × Nat) : Prop :=
  ∃ a c, e = .returned (.tuple #[.agg (recA x.2.1.1 x.2.1.2.1 (.slice a x.2.1.2.2.length c)).toArray, .int .i64 (x.2.2 : Nat), .int .i64 x.1]) ∧
    BySlS (fun g => w.heap.size ≤ g ∧ g < w'.heap.size) w' (.slice a x.2.1.2.2.length c) x.2.1.2.2 ∧ (x.2.1.2.1.length = 32 ∧ ∀ y ∈ x.2.1.2.1, 0 ≤ y ∧ y ≤ 255) ∧ Kept b w w' ∧ TabX w' b

theorem took_none (w w' : World) (f : Int) (b : Nat) (hk : Kept b w w') (ht : TabX w' b) : Took w w' b (.returned (.tuple #[.agg zRec.toArray, .int .i64 0, .int .i64 f])) (noRec f) := by
  refine ⟨none, 0, rfl, Tlv.BySlS.none _ _, ⟨by simp [noRec], ?_⟩, hk, ht⟩
  intro y hy
  rw [(List.mem_replicate.1 hy).2]
  omega

theorem Kept.then {b : Nat} {w W V : World} (h : Kept b w W) (k : Below w.heap.size W V) : Kept b w V :=
  ⟨k.os.trans h.os, k.tape.trans h.tape, k.output.trans h.output, Nat.le_trans h.size k.size, fun i hi hb => (k.block i hi).trans (h.block i hi hb)⟩
theorem setCells_block (w : World) (g o k : Nat) (cs : List Value) (h : k ≠ g) : (w.setCells g o cs).heap[k]? = w.heap[k]? := by
  induction cs generalizing w o with
  | nil => rfl
  | cons c cs ih => rw [World.setCells, ih]; exact Below.heap_setCell _ _ _ _ (by omega)
theorem Kept.set {b : Nat} {u w : World} {g o : Nat} {cs : List Value} (hg : u.heap.size ≤ g ∧ b < u.heap.size) (h : Kept b u w) : Kept b u (w.setCells g o cs) :=
  Kept.then h (setCells_below hg.1 _ _ _)
theorem TabX.set {b g o : Nat} {u w : World} {cs : List Value} (h : TabX w b) (hg : u.heap.size ≤ g ∧ b < u.heap.size) : TabX (w.setCells g o cs) b := by
  obtain ⟨f, n, hf, ht⟩ := h
  have hb := setCells_below (B := u.heap.size) hg.1 w o cs
  refine ⟨f, n, hf, ?_⟩
  obtain ⟨h1, h2, h3, h4, h5, h6, h7⟩ := ht
  have c : ∀ j, (w.setCells g o cs).cell? ⟨b, j, none⟩ = w.cell? ⟨b, j, none⟩ := fun j => hb.cell (p := ⟨b, j, none⟩) hg.2
  refine ⟨by rw [setCells_size]; exact h1, (c _).trans h2, (c _).trans h3, (c _).trans h4, fun j hj => ?_, fun e j hj => (c _).trans (h6 e j hj), fun j => (hb.frozen (p := ⟨b, j, none⟩) hg.2).trans (h7 j)⟩
  obtain ⟨x, hx⟩ := h5 j hj
  exact ⟨x, (c _).trans hx⟩

theorem tail4 {xs : List Int} {m : Nat} (h : 4 ≤ xs.length - m) : ∃ y0 y1 y2 y3 : Nat, nats ((xs.drop m).take 4) = [y0, y1, y2, y3] := by
  have hl : (nats ((xs.drop m).take 4)).length = 4 := by rw [nats_length, List.length_take, List.length_drop]; omega
  match hq : nats ((xs.drop m).take 4), hl with
  | [y0, y1, y2, y3], _ => exact ⟨y0, y1, y2, y3, rfl⟩

theorem bySlS_take {S : Nat → Prop} {w : World} {a : Option Addr} {cap E : Nat} {xs : List Int} (h : BySlS S w (.slice a xs.length cap) xs) (hE : E ≤ xs.length) : BySlS S w (.slice a E cap) (xs.take E) := by
  obtain ⟨a', cap', e, h2, h3, h4, h5, h6, h7⟩ := h
  simp only [Value.slice.injEq, true_and] at e
  obtain ⟨rfl, rfl⟩ := e
  have hl : (xs.take E).length = E := by rw [List.length_take]; omega
  refine ⟨a, cap, by rw [hl], by rw [hl]; omega, h3, fun e => ⟨by rw [(h4 e).1]; simp, (h4 e).2⟩, by rw [hl]; omega, fun x hx => h6 x (List.mem_of_mem_take hx), fun hne => ?_⟩
  obtain ⟨b, o, e, hS, hc⟩ := h7 (fun e => hne (by rw [e]; simp))
  refine ⟨b, o, e, hS, fun i hi => ?_⟩
  rw [hl] at hi
  rw [hc i (by omega)]
  simp [List.getElem?_take_of_lt hi]

set_option maxHeartbeats 4000000 in
set_option maxRecDepth 100000 in
theorem take_any (b : Nat) (v : Value) (xs : List Int) (w : World) (hT : TabX w b) (h : BySlS (fun g => g ≠ b ∧ g < w.heap.size) w v xs) :
    Calls Tryz.prog 154 #[.pointer (some ⟨b, 0, none⟩), v] w fun e w' => Took w w' b e (takeF xs) := by
  obtain ⟨a, cap, rfl, h2, h3, _, h5, h6, _⟩ := id h
  have H := hid h
  have HT := hid hT
  have hbw := hT.lt
  have HX := hid h6
  clear h hT h6
  have hz := zero35
  obtain ⟨Z, hZ⟩ : ∃ Z, zRec = Z := ⟨_, rfl⟩
  have HZ := hid hZ
  rw [hZ] at hz
  clear hZ
  have HZS : Hid (Z.toArray.size = 34) := by rw [← HZ.out]; rfl
  have HI2 : Hid ((Tryz.prog.info? 56).map (·.size) = some Z.toArray.size) := by rw [← HZ.out]; exact Tryz.info35
  have H1 : Hid (Z.toArray.all (·.oneCell') = true) := by rw [← HZ.out]; exact all_oneCell_toArray zRec_one
  have HZB : Hid (w.heap.size ≤ w.heap.size ∧ b < w.heap.size) := ⟨Nat.le_refl _, hbw⟩
  have k0 : Below w.heap.size w (w.alloc (.cells Z.toArray 56)) := (Below.refl _ _).alloc (Nat.le_refl _) _
  have HTH : Hid (World.there (w.alloc (.cells Z.toArray 56)) w.heap.size 0 34) := by
    have h := there_new w Z 56
    rw [show Z.length = 34 from HZS.out] at h
    exact h
  have HK0 := hid k0
  have hz0 : w.heap.size < (w.alloc (.cells Z.toArray 56)).heap.size := by simp
  go_enter Tryz.func154, Tryz.ntmps154
  go_wp2_with fail
  obtain ⟨W0, hW0⟩ : ∃ W0, w.alloc (.cells Z.toArray 56) = W0 := ⟨_, rfl⟩
  rw [hW0] at HTH HK0 hz0
  rw [hW0]
  clear hW0 k0
  have HB0 := hid (BySlS.below H.out HK0.out (fun g hg => hg.2))
  refine (first_any _ xs W0 (HB0.out.to (fun g hg => Nat.lt_of_lt_of_le hg.2 HK0.out.size))).mono ?_
  rintro e w1 ⟨hres, hb1⟩
  have HB1 : Hid (Below w.heap.size w w1) := HK0.out.trans (hb1.mono HK0.out.size)
  have HT1 := hid (there_below HTH.out hb1 hz0)
  have hz1 : w.heap.size < w1.heap.size := Nat.lt_of_lt_of_le hz0 hb1.size
  have hzz : W0.heap.size ≤ w1.heap.size := hb1.size
  have HBX := hid hb1
  clear hb1
  rcases hres with ⟨hn, x, y, a1, l1, c1, a2, l2, c2, sz, rfl⟩ | ⟨t, m, a1, l1, c1, a2, l2, c2, hs, rfl, hr⟩
  · have HE := hid (takeF_none hn)
    clear hn
    have HV : Hid (World.there (w1.alloc (.cells #[.int .i64 x, .int .u64 y, .slice a1 l1 c1, .slice a2 l2 c2] 203)) w.heap.size 0 Z.toArray.size) := by
      rw [Hid, HZS.out]
      exact there_below HT1.out ((Below.refl _ _).alloc (Nat.le_refl _) _) hz1
    have HKV : Hid (Kept b w (w1.alloc (.cells #[.int .i64 x, .int .u64 y, .slice a1 l1 c1, .slice a2 l2 c2] 203))) := (Kept.below HB1.out).alloc _
    have HTV : Hid (TabX (w1.alloc (.cells #[.int .i64 x, .int .u64 y, .slice a1 l1 c1, .slice a2 l2 c2] 203)) b) := (HT.out.below HB1.out).below ((Below.refl _ _).alloc (Nat.le_refl _) _)
    go_wp2_with (refine wpList_store_mid (by rfl) 56 _ _ (by rfl) w.heap.size 0 Z.toArray (by rfl) (by rfl) HV.out HI2.out H1.out ?_)
    have hr : World.rangeAt (World.setCells (w1.alloc (.cells #[.int .i64 x, .int .u64 y, .slice a1 l1 c1, .slice a2 l2 c2] 203)) w.heap.size 0 Z) w.heap.size 0 Z := World.rangeAt_setCells_same _ _ _ _ HV.out
    refine bodyPost_ret (v := .tuple #[.agg Z.toArray, .int .i64 0, .int .i64 16]) (results_cell_mid3 Tryz.results154 _ _ w.heap.size 0 _ _ rfl hr Tryz.underlying56 rfl HI2.out) rfl ?_
    rw [HE.out, ← HZ.out]
    exact took_none w _ 16 b (Kept.set HZB.out HKV.out) (HTV.out.set HZB.out)
  · have HE := hid (takeF_some hs)
    have HM := hid (rd_end hs)
    have hm := Tlv.rd_pos hs
    have HBZ : Hid ((Tlv.bsz 9 t 65535 8).2 = true) := (Tlv.rd_form 8 xs t m HX.out hs).2
    have HML : Hid (m ≤ 65538) := by
      have h1 := (Tlv.rd_form 8 xs t m HX.out hs)
      have h3 : (Tlv.formOf 9 t).length = (xs.take m).length := congrArg List.length h1.1
      have h4 : ((Tlv.bodyOf 9 t).length : Int) ≤ 65535 := (Tlv.Rt.facts ⟨8, h1.2⟩).2.1
      have h5 : (Tlv.formOf 9 t).length = 3 + (Tlv.bodyOf 9 t).length := by simp [Tlv.formOf]; omega
      rw [List.length_take] at h3
      rw [Hid]
      omega
    have HRP := hid hr
    clear hs hr
    have hm64 : (m : Int) ≤ 9223372036854775807 := by have := HML.out; omega
    have hsub : wrap64 ((xs.length : Int) - m) = (xs.length : Int) - m := IntWalk.wrap64_in _ ⟨by omega, by omega⟩
    by_cases h4 : xs.length - m < 4
    · have h4' : (xs.length : Int) - m < 4 := by omega
      have HE2 : Hid (takeF xs = noRec 16) := by rw [Hid, HE.out, if_pos h4]
      have HV : Hid (World.there (w1.alloc (.cells #[.int .i64 t.hd.1, .int .u64 t.hd.2.1, .slice a1 l1 c1, .slice a2 l2 c2] 203)) w.heap.size 0 Z.toArray.size) := by
        rw [Hid, HZS.out]
        exact there_below HT1.out ((Below.refl _ _).alloc (Nat.le_refl _) _) hz1
      have HKV : Hid (Kept b w (w1.alloc (.cells #[.int .i64 t.hd.1, .int .u64 t.hd.2.1, .slice a1 l1 c1, .slice a2 l2 c2] 203))) := (Kept.below HB1.out).alloc _
      have HTV : Hid (TabX (w1.alloc (.cells #[.int .i64 t.hd.1, .int .u64 t.hd.2.1, .slice a1 l1 c1, .slice a2 l2 c2] 203)) b) := (HT.out.below HB1.out).below ((Below.refl _ _).alloc (Nat.le_refl _) _)
      clear h4 HE
      go_wp2_with (refine wpList_store_mid (by rfl) 56 _ _ (by rfl) w.heap.size 0 Z.toArray (by rfl) (by rfl) HV.out HI2.out H1.out ?_)
      have hr : World.rangeAt (World.setCells (w1.alloc (.cells #[.int .i64 t.hd.1, .int .u64 t.hd.2.1, .slice a1 l1 c1, .slice a2 l2 c2] 203)) w.heap.size 0 Z) w.heap.size 0 Z := World.rangeAt_setCells_same _ _ _ _ HV.out
      refine bodyPost_ret (v := .tuple #[.agg Z.toArray, .int .i64 0, .int .i64 16]) (results_cell_mid3 Tryz.results154 _ _ w.heap.size 0 _ _ rfl hr Tryz.underlying56 rfl HI2.out) rfl ?_
      rw [HE2.out, ← HZ.out]
      exact took_none w _ 16 b (Kept.set HZB.out HKV.out) (HTV.out.set HZB.out)
    · have h4' : (4 : Int) ≤ (xs.length : Int) - m := by omega
      have h4n : m + 4 ≤ xs.length := by omega
      have h4c : m + 4 ≤ cap := by omega
      obtain ⟨V, hV⟩ : ∃ V, w1.alloc (.cells #[.int .i64 t.hd.1, .int .u64 t.hd.2.1, .slice a1 l1 c1, .slice a2 l2 c2] 203) = V := ⟨_, rfl⟩
      have kV : Below w1.heap.size w1 V := by rw [← hV]; exact (Below.refl _ _).alloc (Nat.le_refl _) _
      have HBOX : Hid (∀ j u, (#[.int .i64 t.hd.1, .int .u64 t.hd.2.1, .slice a1 l1 c1, .slice a2 l2 c2] : Array Value)[j]? = some u → V.cell? ⟨w1.heap.size, j, none⟩ = some u) := fun j u hj => by
        rw [← hV, World.cell?_alloc_at _ _ _ _ rfl, hj]
      have hzV : w1.heap.size < V.heap.size := by rw [← hV]; simp
      have HKV : Hid (Below w.heap.size w V) := HB1.out.trans (kV.mono HB1.out.size)
      have HTV := hid (there_below HT1.out kV hz1)
      have HRV : Hid (Tlv.Rep W0.heap.size w1.heap.size V 9 t (.slice a1 l1 c1) (.slice a2 l2 c2)) := HRP.out.agree (Agree.below kV) (Nat.le_refl _) (Nat.le_refl _)
      obtain ⟨y0, y1, y2, y3, hy⟩ := tail4 (xs := xs) (m := m) (by omega)
      have HY := hid hy
      have HTK : Hid (nats (xs.take (m + 4)) = nats (xs.take m) ++ [y0, y1, y2, y3]) := by rw [Hid, ← hy, ← nats_append, List.take_add]
      clear hy kV h4
      have HCB : Hid (Crc.BySl b V (.slice a (m + 4) cap) (nats (xs.take m) ++ [y0, y1, y2, y3])) := by
        rw [Hid, ← HTK.out]
        exact toCrc (bySlS_take (BySlS.below H.out HKV.out (fun g hg => hg.2)) h4n) (fun g hg => ⟨hg.1, Nat.lt_of_lt_of_le hg.2 HKV.out.size⟩)
      obtain ⟨f, n, hf, ht⟩ := HT.out.below HKV.out
      have HOP := hid (Crc.open_any b f n (.slice a (m + 4) cap) (nats (xs.take m)) y0 y1 y2 y3 V hf ht HCB.out (by have := HML.out; rw [nats_length, List.length_take]; omega))
      clear ht hf HCB
      go_wp2_with fail
      refine HOP.out.mono ?_
      rintro e w2 ⟨hk2, ht2, v', q, rfl, hq⟩
      have HK2 : Hid (Kept b w w2) := (Kept.below HKV.out).trans hk2
      have HT2 : Hid (TabX w2 b) := TabX.of ht2
      have hbV : w.heap.size < V.heap.size := by omega
      have HH2 := hid (there_kept HTV.out hk2 hbV (by omega))
      have HHZ : Hid (w2.there w.heap.size 0 Z.toArray.size) := by rw [Hid, HZS.out]; exact HH2.out
      have hcb := fun j u hj => (hk2.cell (p := ⟨w1.heap.size, j, none⟩) hzV (by simp; omega)).trans (HBOX.out j u hj)
      have b0 := hcb 0 _ rfl
      have b1 := hcb 1 _ rfl
      have b2 := hcb 2 _ rfl
      have b3 := hcb 3 _ rfl
      have HR2 : Hid (Tlv.Rep W0.heap.size w1.heap.size w2 9 t (.slice a1 l1 c1) (.slice a2 l2 c2)) := HRV.out.agree (fun k h1 h2 => hk2.block k (by omega) (by omega)) (Nat.le_refl _) (Nat.le_refl _)
      have hz2 : V.heap.size ≤ w2.heap.size := hk2.size
      clear hk2 ht2 hcb HOP
      rcases hq with ⟨heq, rfl, hv⟩ | ⟨hne, rfl, rfl⟩
      rotate_left
      · have HE2 : Hid (takeF xs = noRec 4) := by
          rw [Hid, HE.out, if_neg (by omega), if_pos]
          intro hc
          apply hne
          rw [← HY.out, ← hc, sumI, nats_ints]
        clear hne HE
        go_wp2_with (refine wpList_store_mid (by rfl) 56 _ _ (by rfl) w.heap.size 0 Z.toArray (by rfl) (by rfl) HHZ.out HI2.out H1.out ?_)
        have hr : World.rangeAt (World.setCells w2 w.heap.size 0 Z) w.heap.size 0 Z := World.rangeAt_setCells_same _ _ _ _ HHZ.out
        refine bodyPost_ret (v := .tuple #[.agg Z.toArray, .int .i64 0, .int .i64 4]) (results_cell_mid3 Tryz.results154 _ _ w.heap.size 0 _ _ rfl hr Tryz.underlying56 rfl HI2.out) rfl ?_
        rw [HE2.out, ← HZ.out]
        exact took_none w _ 4 b (Kept.set HZB.out HK2.out) (HT2.out.set HZB.out)
      · have HE2 : Hid (takeF xs = match recOf t with
            | none => noRec 3
            | some r => (0, r, m + 4)) := by
          have hc : ¬ sumI (xs.take m) ≠ (xs.drop m).take 4 := by
            intro hc
            apply hc
            rw [sumI, heq, ← HY.out, ints_nats]
            intro x hx
            exact HX.out x (List.mem_of_mem_drop (List.mem_of_mem_take hx))
          rw [Hid, HE.out, if_neg (by omega), if_neg hc]
          cases recOf t <;> rfl
        obtain ⟨av, cv, rfl, _⟩ := id hv
        clear heq HE hv
        go_wp2_with fail
        refine (record_any t _ _ W0.heap.size w1.heap.size w2 HR2.out (by omega) HBZ.out).mono ?_
        rintro e w3 ⟨hres, hb3⟩
        have HK3 : Hid (Kept b w w3) := Kept.then HK2.out (hb3.mono (by omega))
        have HT3 := hid (HT2.out.below hb3)
        have HH3 := hid (there_below HH2.out hb3 (by omega))
        have hz3 : w2.heap.size ≤ w3.heap.size := hb3.size
        clear hb3
        rcases hres with ⟨hn, rfl⟩ | ⟨k, nm, bs, ar, cr, hs, rfl, hbs, hnl, hnx⟩
        · have HE3 : Hid (takeF xs = noRec 3) := by rw [Hid, HE2.out, hn]
          have HHZ3 : Hid (w3.there w.heap.size 0 Z.toArray.size) := by rw [Hid, HZS.out]; exact HH3.out
          have HHZ4 : Hid (World.there (w3.setCells w.heap.size 0 Z) w.heap.size 0 Z.toArray.size) := World.there_setCells HHZ3.out _ _ _
          have HK4 : Hid (Kept b w (w3.setCells w.heap.size 0 Z)) := Kept.set HZB.out HK3.out
          have HT4 : Hid (TabX (w3.setCells w.heap.size 0 Z) b) := HT3.out.set HZB.out
          clear hn HE2
          rw [HZ.out]
          go_wp2_with (first
            | (refine wpList_store_mid (by rfl) 56 _ _ (by rfl) w.heap.size 0 Z.toArray (by rfl) (by rfl) HHZ3.out HI2.out H1.out ?_)
            | (refine wpList_store_mid (by rfl) 56 _ _ (by rfl) w.heap.size 0 Z.toArray (by rfl) (by rfl) HHZ4.out HI2.out H1.out ?_))
          have hr : World.rangeAt (World.setCells (w3.setCells w.heap.size 0 Z) w.heap.size 0 Z) w.heap.size 0 Z := World.rangeAt_setCells_same _ _ _ _ HHZ4.out
          refine bodyPost_ret (v := .tuple #[.agg Z.toArray, .int .i64 0, .int .i64 3]) (results_cell_mid3 Tryz.results154 _ _ w.heap.size 0 _ _ rfl hr Tryz.underlying56 rfl HI2.out) rfl ?_
          rw [HE3.out, ← HZ.out]
          rw [← HZ.out] at HK4 HT4
          exact took_none w _ 3 b (Kept.set HZB.out HK4.out) (HT4.out.set HZB.out)
        · have HE3 : Hid (takeF xs = (0, (k, nm, bs), m + 4)) := by rw [Hid, HE2.out, hs]
          have HBS := hid hbs
          have HNX := hid (And.intro hnl hnx)
          have HCL := hid (recA_length k nm (.slice ar bs.length cr) hnl)
          have HCO := hid (recA_one k nm ar bs.length cr)
          clear hs HE2 hbs hnl hnx
          obtain ⟨C, hC⟩ : ∃ C, recA k nm (.slice ar bs.length cr) = C := ⟨_, rfl⟩
          rw [hC] at HCL HCO
          rw [hC]
          have HC := hid hC
          clear hC
          have HCS : Hid (C.toArray.size = 34) := HCL.out
          have HHZ3 : Hid (w3.there w.heap.size 0 C.toArray.size) := by rw [Hid, HCS.out]; exact HH3.out
          have HHZ4 : Hid (World.there (w3.setCells w.heap.size 0 C) w.heap.size 0 C.toArray.size) := World.there_setCells HHZ3.out _ _ _
          have HRG : Hid (World.rangeAt (w3.setCells w.heap.size 0 C) w.heap.size 0 C) := World.rangeAt_setCells_same _ _ _ _ HHZ3.out
          have HIC : Hid ((Tryz.prog.info? 56).map (·.size) = some C.length) := by rw [Hid, HCL.out]; exact Tryz.info35
          have HI3 : Hid ((Tryz.prog.info? 56).map (·.size) = some C.toArray.size) := HIC.out
          have H3 : Hid (C.toArray.all (·.oneCell') = true) := all_oneCell_toArray HCO.out
          go_wp2_with (first
            | (refine wpList_load_mid (by rfl) 56 _ (by rfl) w.heap.size 0 (by rfl) C _ HRG.out Tryz.underlying56 rfl HIC.out ?_)
            | (refine wpList_store_mid (by rfl) 56 _ _ (by rfl) w.heap.size 0 C.toArray (by rfl) (by rfl) HHZ3.out HI3.out H3.out ?_)
            | (refine wpList_store_mid (by rfl) 56 _ _ (by rfl) w.heap.size 0 C.toArray (by rfl) (by rfl) HHZ4.out HI3.out H3.out ?_))
          have hr : World.rangeAt (World.setCells (w3.setCells w.heap.size 0 C) w.heap.size 0 C) w.heap.size 0 C := World.rangeAt_setCells_same _ _ _ _ HHZ4.out
          refine bodyPost_ret (v := .tuple #[.agg C.toArray, .int .i64 ((m + 4 : Nat) : Int), .int .i64 0]) (results_cell_mid3 Tryz.results154 _ _ w.heap.size 0 _ _ rfl hr Tryz.underlying56 rfl HI3.out) rfl ?_
          rw [HE3.out]
          refine ⟨ar, cr, by rw [HC.out], ?_, HNX.out, Kept.set HZB.out (Kept.set HZB.out HK3.out), (HT3.out.set HZB.out).set HZB.out⟩
          have hblk : ∀ g, W0.heap.size ≤ g → (World.setCells (w3.setCells w.heap.size 0 C) w.heap.size 0 C).heap[g]? = w3.heap[g]? := fun g hg => by
            rw [setCells_block _ _ _ _ _ (by omega), setCells_block _ _ _ _ _ (by omega)]
          refine HBS.out.toS.agree (fun g hg => hblk g hg.1) (fun g hg => ⟨by omega, ?_⟩)
          rw [setCells_size, setCells_size]
          omega
end Go.Proofs.YthmimipoooemjaaGreatDoor
end

section
/-
  A range over a function that itself writes one block and hands out memory that it has made: the caller's law.
-/
namespace Go.Proofs.YthmimipoooemjaaGreatDoor
open Go.RowKit
open Tlv (Tr BySlS AgreeS Agree)
open Crc (hid Kept Tab)
theorem put_below {B l : Nat} (W : World) (o : Obj) (h : B ≤ l) (hl : l < W.heap.size) : Below B W (W.putObj l o) :=
  (Below.refl B W).grown (grownBy_putObj' W l o) (by omega) (fun k e => by cases e; omega)

/-- The record of a loop, in a block from B on, is put anew; all else stands. -/
structure Putl (B : Nat) (U W : World) : Prop where
  os : W.os = U.os
  tape : W.tape = U.tape
  output : W.output = U.output
  size : W.heap.size = U.heap.size
  at' : ∃ l lp, B ≤ l ∧ U.heap[l]? = some (.loop lp) ∧ ∀ i, i ≠ l → W.heap[i]? = U.heap[i]?

theorem Putl.below {B : Nat} {U W : World} (h : Putl B U W) : Below B U W := by
  obtain ⟨l, lp, h1, h2, h3⟩ := h.at'
  exact ⟨h.os, h.tape, h.output, by have := h.size; omega, fun k hk => h3 k (by omega)⟩
/-- Cells stand. -/
theorem Putl.block {B : Nat} {U W : World} (h : Putl B U W) {g : Nat} {cs : Array Value} {t : TypeId} {fr : Nat × Nat} (hg : U.heap[g]? = some (.cells cs t fr)) : W.heap[g]? = some (.cells cs t fr) := by
  obtain ⟨l, lp, h1, h2, h3⟩ := h.at'
  rw [h3 g (fun e => by rw [e, h2] at hg; cases hg)]
  exact hg
theorem Putl.cell {B : Nat} {U W : World} (h : Putl B U W) {g o : Nat} {v : Value} (hc : U.cell? ⟨g, o, none⟩ = some v) : W.cell? ⟨g, o, none⟩ = some v := by
  obtain ⟨l, lp, h1, h2, h3⟩ := h.at'
  rw [World.cell?_of_block (w := U) (a := ⟨g, o, none⟩) (h3 g (fun e => by
    rw [e] at hc
    simp [World.cell?, h2] at hc))]
  exact hc

/-- What an iterator that may write block b, and no other that was there, tells: in round k values as V says, in memory from m on, where the caller had none yet; N rounds. T: what it asks of the world, and leaves. -/
def Tells (n gf : Nat) (lb : Array Value) (b : Nat) (T : World → Prop) (V : Nat → Nat → Array Value → World → Prop) (N : Nat) : Prop :=
  ∀ (l : Nat) (J : Nat → Nat → World → Prop) (Jx : Nat → World → Prop) (W : World), T W → (∀ k m U W', J k m U → T W' → Kept b U W' → J k m W') →
    (∀ k m U vs, k < N → m ≤ U.heap.size → J k m U → T U → V k m vs U → YieldAt Fence.wide (n - 1) Tryz.prog l vs U fun e W' => (e = .returned (.bool true) ∧ J (k + 1) W'.heap.size W' ∧ T W') ∨ (e = .returned (.bool false) ∧ Jx (k + 1) W')) →
    J 0 W.heap.size W →
    CallsIn Fence.wide n Tryz.prog gf (#[.func (.yield l) #[] #[]] ++ lb) W fun e W' => (∃ v, e = .returned v) ∧ ((∃ m, J N m W' ∧ T W') ∨ ∃ k, k ≤ N ∧ Jx k W')

/-- How the body of a round may be left: k rounds have come, this one with them. -/
def roundEnds (B : Nat) (T : World → Prop) (I : Nat → Nat → World → Prop) (Ix : Code → Nat → World → Prop) (k : Nat) (W : World) : Exit → Act → World → Prop
  | .normal, _, V => KeepsFrom B W V ∧ I k V.heap.size V ∧ T V
  | .ret, _, V => KeepsFrom B W V ∧ Ix .ret k V
  | .exit id, _, V => KeepsFrom B W V ∧ Ix (.exit id) k V
  | _, _, _ => False

theorem over_func {g : Operand} {ps : Array Tmp} {assign body : Code} {Q : Exit → Act → World → Prop} {a : Act} {w : World} {n gf : Nat} {lb : Array Value}
    (hg : a.eval g = .func (.func gf) #[] lb) (eg : ∀ args w, (callFunc gf args).run Tryz.prog w = .ok (.enter gf args) w)
    {b : Nat} {T : World → Prop} {V : Nat → Nat → Array Value → World → Prop} {N : Nat} (hseq : Tells (n - 1) gf lb b T V N) (hps : ∀ k m vs U, V k m vs U → vs.size = ps.size)
    (hb : b < w.heap.size) (hT : ∀ U W, T U → Below w.heap.size U W → T W) (hT0 : T w)
    (I : Nat → Nat → World → Prop) (Ix : Code → Nat → World → Prop) (hIk : ∀ k m U W, I k m U → T W → Kept b U W → I k m W) (hI : ∀ k m U W, I k m U → Putl w.heap.size U W → I k m W)
    (hIx : ∀ c k U W, Ix c k U → Putl w.heap.size U W → Ix c k W)
    (h0 : ∀ W, Below w.heap.size w W → W.heap.size = w.heap.size + 2 → I 0 W.heap.size W)
    (asg : Array Value → World → World) (hasg : ∀ vs W, Below W.heap.size W (asg vs W)) (hVa : ∀ k m vs U, V k m vs U → V k m vs (asg vs U)) (hIa : ∀ k m vs U, V k m vs U → I k m U → I k m (asg vs U)) (a₁ : Nat → Array Value → World → Act)
    (hV : ∀ k m vs U W, V k m vs U → Putl w.heap.size U W → V k m vs W)
    (hassign : ∀ (l k m : Nat) (vs : Array Value) (W : World) (K : Act → World → Prop), k < N → V k m vs W → K (a₁ k vs W) (asg vs W) →
      assign.wpIn (Fence.wide.inRound l) (n - 1 - 1) Tryz.prog (Exit.then K (fun _ _ _ => False)) { tmps := (ps.zip vs).foldl (fun t (p, v) => t.setIfInBounds p v) a.tmps, defers := [] } W)
    (hbody : ∀ (l k m : Nat) (vs : Array Value) (U W : World), k < N → m ≤ U.heap.size → V k m vs W → I k m W → T W → W.heap.size = (asg vs U).heap.size → (∀ i, U.heap.size ≤ i → W.heap[i]? = (asg vs U).heap[i]?) → w.heap.size ≤ U.heap.size → body.wpIn (Fence.wide.inRound l) (n - 1 - 1) Tryz.prog (roundEnds w.heap.size T I Ix (k + 1) W) (a₁ k vs U) W)
    (hdone : ∀ (D m : Nat) (W : World), w.heap.size ≤ D → I N m W → T W → W.heap[D]? = some (.deferred (some [])) → Q .normal { a with defers := { target := .collected D, args := #[] } :: a.defers } W)
    (hstop : ∀ (D : Nat) (c : Code) (k : Nat) (W : World), w.heap.size ≤ D → k ≤ N → Ix c k W → W.heap[D]? = some (.deferred (some [])) → c.wpIn Fence.wide n Tryz.prog Q { a with defers := { target := .collected D, args := #[] } :: a.defers } W) :
    (Code.rangeFunc g ps assign body).wpIn Fence.wide n Tryz.prog Q a w := by
  refine wpIn_rangeFunc fun fn hfn => ?_
  -- the record of the loop, by its state and the jump that is pending; it lies in the second of two new blocks
  let rec0 : LoopState → Option Code → Loop := fun st pe => { state := st, pending := pe, fn, tmps := a.tmps, params := ps, assign, body, defers := w.heap.size }
  have hB : ∀ (W : World) (o : Obj) (l : Nat), w.heap.size ≤ l → l < W.heap.size → Below w.heap.size W (W.putObj l o) := fun W o l h1 h2 => put_below W o h1 h2
  let Rec : LoopState → Option Code → World → Prop := fun st pe W => W.heap[w.heap.size + 1]? = some (.loop (rec0 st pe)) ∧ W.heap[w.heap.size]? = some (.deferred (some []))
  have start : Below w.heap.size w ((w.alloc (.deferred (some []))).alloc (.loop (rec0 .ready none))) := ((Below.refl _ w).alloc (Nat.le_refl _) _).alloc (by simp) _
  have r0 : Rec .ready none ((w.alloc (.deferred (some []))).alloc (.loop (rec0 .ready none))) := by
    refine ⟨?_, (Below.heap_alloc _ _ _ (by simp)).trans (World.alloc_heap_new w _)⟩
    have h := World.alloc_heap_new (w.alloc (.deferred (some []))) (.loop (rec0 .ready none))
    rwa [World.size_alloc] at h
  have hlt : ∀ {st pe W}, Rec st pe W → w.heap.size + 1 < W.heap.size := fun h => (Array.getElem?_eq_some_iff.1 h.1).1
  -- the record is put anew
  have put : ∀ {st pe W} (st' : LoopState) (pe' : Option Code), Rec st pe W → Rec st' pe' (W.putObj (w.heap.size + 1) (.loop (rec0 st' pe'))) := fun st' pe' h =>
    ⟨World.putObj_heap_same (hlt h), (World.putObj_heap_other (by omega)).trans h.2⟩
  have keep : ∀ {st pe W V}, Rec st pe W → KeepsFrom w.heap.size W V → Rec st pe V := fun h k => ⟨k.same _ _ (by omega) h.1 rfl, k.same _ _ (Nat.le_refl _) h.2 rfl⟩
  have psz : ∀ (W : World) (o : Obj) (l : Nat), (W.putObj l o).heap.size = W.heap.size := fun W o l => by simp [World.putObj]
  have poth : ∀ (W : World) (o : Obj), ∀ i, i ≠ w.heap.size + 1 → (W.putObj (w.heap.size + 1) o).heap[i]? = W.heap[i]? := fun W o i hi => World.putObj_heap_other (by omega)
  have putI : ∀ {k m st pe W} (st' : LoopState) (pe' : Option Code), Rec st pe W → I k m W → I k m (W.putObj (w.heap.size + 1) (.loop (rec0 st' pe'))) := fun {k m st pe W} st' pe' h hi =>
    hI k m W _ hi ⟨rfl, rfl, rfl, psz _ _ _, w.heap.size + 1, _, by omega, h.1, poth W _⟩
  have putIx : ∀ {c k st pe W} (st' : LoopState) (pe' : Option Code), Rec st pe W → Ix c k W → Ix c k (W.putObj (w.heap.size + 1) (.loop (rec0 st' pe'))) := fun {c k st pe W} st' pe' h hi =>
    hIx c k W _ hi ⟨rfl, rfl, rfl, psz _ _ _, w.heap.size + 1, _, by omega, h.1, poth W _⟩
  refine ⟨w.heap.size + 1, [{ target := .collected w.heap.size, args := #[] }], (w.alloc (.deferred (some []))).alloc (.loop (rec0 .ready none)), { target := .fn (.func gf) lb, args := #[.func (.yield (w.heap.size + 1)) #[] #[]] },
    (w.alloc (.deferred (some []))).alloc (.loop (rec0 .ready none)), gf, #[.func (.yield (w.heap.size + 1)) #[] #[]] ++ lb, (w.alloc (.deferred (some []))).alloc (.loop (rec0 .ready none)), ?_, ?_, fun _ _ => trivial, ?_, fun h => by simp [Fence.wide] at h, ?_⟩
  · exact run_enterLoop_outer _ _ _ _ _
  · simp only [resolve, hg]
    simp [go_sem]
  · simp [invoke, go_sem, eg]
  · refine (hseq (w.heap.size + 1) (fun k m W => I k m W ∧ Rec .ready none W) (fun k W => ∃ c, Ix c k W ∧ Rec .done (some c) W) _ (hT _ _ hT0 start) ?_ ?_ ⟨h0 _ start (by simp), r0⟩).mono ?_
    · -- the iterator writes block b
      rintro k m U W' ⟨hi, hr⟩ hTW hk
      have hs := hlt hr
      exact ⟨hIk k m U W' hi hTW hk, (hk.block _ hs (by omega)).trans hr.1, (hk.block _ (by omega) (by omega)).trans hr.2⟩
    · -- one round
      rintro k m U vs hkN hmU ⟨hi, hr⟩ hTU hVU
      have hs := hlt hr
      have ba := hasg vs U
      have hra : Rec .ready none (asg vs U) := ⟨(ba.block _ hs).trans hr.1, (ba.block _ (by omega)).trans hr.2⟩
      have hsa := hlt hra
      refine ⟨fn, _, assign, body, run_yield (P := Tryz.prog) (args := vs) hr.1 (hps k m vs U hVU), roundIn_of_wpIn hfn (hassign _ k m vs U _ hkN hVU ⟨_, run_beginRound hra.1 rfl, ?_⟩)⟩
      have b1 := hB (asg vs U) (.loop { rec0 .ready none with state := .busy }) _ (by omega) hsa
      have hTa : T (asg vs U) := hT _ _ hTU (ba.mono (by omega))
      have hIa' : I k m (asg vs U) := hIa k m vs U hVU hi
      have hVa' : V k m vs (asg vs U) := hVa k m vs U hVU
      refine wpIn_mono (hbody _ k m vs U _ hkN hmU ?_ (putI .busy none hra hIa') (hT _ _ hTa b1) ?_ ?_ (by omega)) ?_
      · exact hV k m vs _ _ hVa' ⟨rfl, rfl, rfl, psz _ _ _, w.heap.size + 1, _, by omega, hra.1, poth _ _⟩
      · exact psz _ _ _
      · intro i hi
        exact poth _ _ i (by omega)
      have hr1 : Rec .busy none ((asg vs U).putObj (w.heap.size + 1) (.loop { rec0 .ready none with state := .busy })) := put .busy none hra
      have ends : ∀ (jump : Option Code) (V : World), KeepsFrom w.heap.size ((asg vs U).putObj (w.heap.size + 1) (.loop { rec0 .ready none with state := .busy })) V →
          (Instr.endRound (w.heap.size + 1) jump).run Tryz.prog V = .ok (.bool jump.isNone) (V.putObj (w.heap.size + 1) (.loop (rec0 (if jump.isNone then .ready else .done) jump))) ∧
          Rec (if jump.isNone then .ready else .done) jump (V.putObj (w.heap.size + 1) (.loop (rec0 (if jump.isNone then .ready else .done) jump))) ∧ Below w.heap.size V (V.putObj (w.heap.size + 1) (.loop (rec0 (if jump.isNone then .ready else .done) jump))) ∧ Rec .busy none V := fun jump V hk => by
        have hr2 := keep hr1 hk
        exact ⟨run_endRound (P := Tryz.prog) jump hr2.1, put _ _ hr2, hB V _ _ (by omega) (hlt hr2), hr2⟩
      rintro e a3 V hp
      cases e with
      | normal =>
        obtain ⟨hk, hi2, ht2⟩ := hp
        obtain ⟨h1, h2, h3, h4⟩ := ends none V hk
        exact ⟨_, _, h1, .inl ⟨rfl, ⟨by rw [psz]; exact putI _ _ h4 hi2, h2⟩, hT _ _ ht2 h3⟩⟩
      | ret =>
        obtain ⟨hk, hi2⟩ := hp
        obtain ⟨h1, h2, h3, h4⟩ := ends (some .ret) V hk
        exact ⟨_, _, h1, .inr ⟨rfl, .ret, putIx _ _ h4 hi2, h2⟩⟩
      | exit id =>
        obtain ⟨hk, hi2⟩ := hp
        obtain ⟨h1, h2, h3, h4⟩ := ends (some (.exit id)) V hk
        exact ⟨_, _, h1, .inr ⟨rfl, .exit id, putIx _ _ h4 hi2, h2⟩⟩
      | goto t => exact hp.elim
      | panic ch => exact hp.elim
      | outgrown => exact hp.elim
    · -- behind the iterator
      rintro e V ⟨⟨v, rfl⟩, (⟨m, ⟨hi, hr⟩, ht⟩ | ⟨k, hk, c, hi, hr⟩)⟩
      · exact ⟨none, _, run_endLoop (P := Tryz.prog) hr.1 (by simp [rec0]), hdone _ m _ (Nat.le_refl _) (putI .exhausted none hr hi) (hT _ _ ht (hB V _ _ (Nat.le_succ _) (hlt hr))) ((World.putObj_heap_other (by omega)).trans hr.2)⟩
      · exact ⟨some c, _, run_endLoop (P := Tryz.prog) hr.1 (by simp [rec0]), hstop _ c k _ (Nat.le_refl _) hk (putIx .exhausted (some c) hr hi) ((World.putObj_heap_other (by omega)).trans hr.2)⟩

end Go.Proofs.YthmimipoooemjaaGreatDoor
end

section
/-
  Plain mathematics: what a scan is told, frame behind frame.
-/
namespace Go.Proofs.YthmimipoooemjaaGreatDoor

/-- What is told: where, and what Take answers there. -/
abbrev Item : Type := Nat × (Int × (Int × List Int × List Int) × Nat)

def toldN : Nat → List Int → Nat → List Item
  | 0, _, _ => []
  | k + 1, xs, p => if xs.length ≤ p then [] else (p, takeF (xs.drop p)) :: if (takeF (xs.drop p)).1 = 0 then toldN k xs (p + (takeF (xs.drop p)).2.2) else []

/-- All that is told from p on. -/
def tl (xs : List Int) (p : Nat) : List Item := toldN (xs.length + 1 - p) xs p

/-- The good ones, where the first that is none begins, and the fault there. -/
def scanR : List Item → Nat → List Item × Nat × Int
  | [], p => ([], p, 0)
  | x :: L, _ => if x.2.1 = 0 then (x :: (scanR L (x.1 + x.2.2.2)).1, (scanR L (x.1 + x.2.2.2)).2) else ([], x.1, x.2.1)

def scanF (xs : List Int) : List Item × Nat × Int := scanR (tl xs 0) 0

end Go.Proofs.YthmimipoooemjaaGreatDoor
end

section
/-
  The iterator of a scan: one round's Take, walked by itself.
-/
namespace Go.Proofs.YthmimipoooemjaaGreatDoor
open Go.RowKit
open Tlv (Tr BySlS AgreeS Agree)
open Crc (hid Kept Tab)
end Go.Proofs.YthmimipoooemjaaGreatDoor
end

section
/-
  What the iterator of a scan tells, round by round.
-/
namespace Go.Proofs.YthmimipoooemjaaGreatDoor
open Go.RowKit Go.Shelf
open Tlv (Tr BySlS AgreeS Agree)
open Crc (hid Kept Tab)
attribute [local go_sem] Oper.semAt_some

/-- A placed record's cells. -/
def placedA (p n : Nat) (C : List Value) : List Value := .int .i64 (p : Int) :: .int .i64 (n : Int) :: C
/-- The iterator's world: the table at b; the bytes; both below B; the two boxes that it has taken along, at p and q. -/
def Ts (B b p q : Nat) (v : Value) (xs : List Int) (W : World) : Prop :=
  (B ≤ W.heap.size ∧ b < B ∧ p < B ∧ q < B ∧ p ≠ b ∧ q ≠ b) ∧ TabX W b ∧ BySlS (fun x => x ≠ b ∧ x < B) W v xs ∧ W.cell? ⟨p, 0, none⟩ = some v ∧ W.cell? ⟨q, 0, none⟩ = some (.pointer (some ⟨b, 0, none⟩))

theorem tabX_below {B b : Nat} {w w' : World} (h : TabX w b) (k : Below B w w') (hb : b < B) : TabX w' b := by
  obtain ⟨f, n, hf, h1, h2, h3, h4, h5, h6, h7⟩ := h
  have c : ∀ j, w'.cell? ⟨b, j, none⟩ = w.cell? ⟨b, j, none⟩ := fun j => k.cell (p := ⟨b, j, none⟩) hb
  refine ⟨f, n, hf, Nat.lt_of_lt_of_le h1 k.size, (c _).trans h2, (c _).trans h3, (c _).trans h4, fun j hj => ?_, fun e j hj => (c _).trans (h6 e j hj), fun j => (k.frozen (p := ⟨b, j, none⟩) hb).trans (h7 j)⟩
  obtain ⟨x, hx⟩ := h5 j hj
  exact ⟨x, (c _).trans hx⟩

theorem Ts.below {B b p q : Nat} {v : Value} {xs : List Int} {U V : World} (h : Ts B b p q v xs U) (k : Below B U V) : Ts B b p q v xs V := by
  obtain ⟨⟨h1, h2, h3, h4, h5, h6⟩, ht, hv, hp, hq⟩ := h
  exact ⟨⟨Nat.le_trans h1 k.size, h2, h3, h4, h5, h6⟩, tabX_below ht k h2, BySlS.below hv k (fun g hg => hg.2), (k.cell (p := ⟨p, 0, none⟩) h3).trans hp, (k.cell (p := ⟨q, 0, none⟩) h4).trans hq⟩
theorem bySlS_drop {S : Nat → Prop} {w : World} {b o cap E : Nat} {xs : List Int} (h : BySlS S w (.slice (some ⟨b, o, none⟩) xs.length cap) xs) (hE : E < xs.length) : BySlS S w (.slice (some ⟨b, o + E, none⟩) (xs.length - E) (cap - E)) (xs.drop E) := by
  obtain ⟨a', cap', e, h2, h3, h4, h5, h6, h7⟩ := h
  simp only [Value.slice.injEq, true_and] at e
  obtain ⟨rfl, rfl⟩ := e
  have hl : (xs.drop E).length = xs.length - E := List.length_drop
  refine ⟨_, cap - E, by rw [hl], by rw [hl]; omega, by unfold maxLen at *; omega, by simp, by rw [hl]; omega, fun x hx => h6 x (List.mem_of_mem_drop hx), fun _ => ?_⟩
  obtain ⟨b', o', e, hS, hc⟩ := h7 (by intro e; subst e; simp at hE)
  simp only [Option.some.injEq, Addr.mk.injEq, and_true] at e
  obtain ⟨rfl, rfl⟩ := e
  refine ⟨b, o + E, rfl, hS, fun i hi => ?_⟩
  rw [hl] at hi
  rw [Nat.add_assoc, hc (E + i) (by omega)]
  simp

end Go.Proofs.YthmimipoooemjaaGreatDoor
end

section
/-
  Scan of no table, and of no byte; Take and At of no table.
-/
namespace Go.Proofs.YthmimipoooemjaaGreatDoor
open Go.RowKit Go.Shelf
open Tlv (Tr BySlS AgreeS Agree)
open Crc (hid Kept Tab)
attribute [local go_sem] Oper.semAt_some

set_option maxHeartbeats 1000000 in
set_option maxRecDepth 100000 in
theorem take_nil (a : Option Addr) (l c : Nat) (w : World) :
    Calls Tryz.prog 154 #[.pointer none, .slice a l c] w fun e w' => e = .returned (.tuple #[.agg zRec.toArray, .int .i64 0, .int .i64 18]) ∧ Below w.heap.size w w' := by
  have hz := zero35
  obtain ⟨Z, hZ⟩ : ∃ Z, zRec = Z := ⟨_, rfl⟩
  have HZ := hid hZ
  rw [hZ] at hz
  rw [hZ]
  clear hZ
  have HZS : Hid (Z.toArray.size = 34) := by rw [← HZ.out]; rfl
  have HI2 : Hid ((Tryz.prog.info? 56).map (·.size) = some Z.toArray.size) := by rw [← HZ.out]; exact Tryz.info35
  have H1 : Hid (Z.toArray.all (·.oneCell') = true) := by rw [← HZ.out]; exact all_oneCell_toArray zRec_one
  have HT : Hid (World.there (w.alloc (.cells Z.toArray 56)) w.heap.size 0 Z.toArray.size) := there_new w Z 56
  go_enter Tryz.func154, Tryz.ntmps154
  go_wp2_with (refine wpList_store_mid (by rfl) 56 _ _ (by rfl) w.heap.size 0 Z.toArray (by rfl) (by rfl) HT.out HI2.out H1.out ?_)
  have hr : World.rangeAt ((w.alloc (.cells Z.toArray 56)).setCells w.heap.size 0 Z) w.heap.size 0 Z := World.rangeAt_setCells_same _ _ _ _ HT.out
  exact bodyPost_ret (v := .tuple #[.agg Z.toArray, .int .i64 0, .int .i64 18]) (results_cell_mid3 Tryz.results154 _ _ w.heap.size 0 _ _ rfl hr Tryz.underlying56 rfl HI2.out) rfl ⟨rfl, ((Below.refl _ _).alloc (Nat.le_refl _) _).trans (setCells_below (Nat.le_refl _) _ _ _)⟩

end Go.Proofs.YthmimipoooemjaaGreatDoor
end

section
/-
  What must come at any rate: the chapter's example, and a record.
-/
namespace Go.Proofs.YthmimipoooemjaaGreatDoor
open Go.RowKit
open Tlv (Tr BySlS AgreeS Agree)
open Crc (hid Kept Tab)
end Go.Proofs.YthmimipoooemjaaGreatDoor
end

section
/-
  Plain mathematics: the form as the reference makes it is the form.
-/
namespace Go.Proofs.YthmimipoooemjaaGreatDoor.Tlv
theorem form_len (n : Nat) (t : Tr n) : (formOf n t).length = 3 + (bodyOf n t).length := by simp [formOf]; omega

end Go.Proofs.YthmimipoooemjaaGreatDoor.Tlv
end

section
/-
  What the reference's form makes of a tree.
-/
namespace Go.Proofs.YthmimipoooemjaaGreatDoor.Tlv
open Go.RowKit
attribute [local go_sem ↓] Go.wp_at_zero Go.wp_at_succ

end Go.Proofs.YthmimipoooemjaaGreatDoor.Tlv
end

section
/-
  What the reference's Put answers.
-/
namespace Go.Proofs.YthmimipoooemjaaGreatDoor
open Go.RowKit
open Tlv (Tr BySlS AgreeS Agree)
open Crc (hid Kept Tab)
end Go.Proofs.YthmimipoooemjaaGreatDoor
end

section
/-
  Are records few, and short? Put, Size and the reference's Put of any record.
-/
namespace Go.Proofs.YthmimipoooemjaaGreatDoor
open Go.RowKit
open Tlv (Tr BySlS AgreeS Agree)
open Crc (hid Kept Tab)
/-- What Put answers of any record. -/
def putX (k : Int) (nm bs : List Int) : List Int := if rightB k bs.length then frameR k nm bs else []
def putF (k : Int) (l : Nat) : Int := if rightB k l then 0 else 1

theorem BySlS.len {S : Nat → Prop} {w : World} {v : Value} {xs : List Int} (h : BySlS S w v xs) : ∃ a c, v = .slice a xs.length c := by
  obtain ⟨a, c, rfl, _⟩ := h
  exact ⟨a, c, rfl⟩

theorem own_all {w : World} {base : Nat} {v : Value} {xs : List Int} (h : Crc.Own w base v (nats xs)) (hl : xs.length ≤ 100000) (hx : ∀ x ∈ xs, 0 ≤ x ∧ x ≤ 255) : BySlS (fun g => base ≤ g ∧ g < w.heap.size) w v xs := by
  rcases h.2 with ⟨rfl, h0⟩ | ⟨g, cap, cur, rfl, hb, hg, hn, hc, hs, ht⟩
  · rw [nats_length] at h0
    have : xs = [] := List.length_eq_zero_iff.1 h0
    subst this
    exact Tlv.BySlS.none _ _
  · rw [nats_length] at hn ⊢
    refine ⟨_, cap, rfl, hn, hc, by simp, by omega, hx, fun _ => ⟨g, 0, rfl, ⟨hb, (Array.getElem?_eq_some_iff.1 hg).1⟩, fun i hi => ?_⟩⟩
    have hi2 : i < (nats xs).length := by rw [nats_length]; exact hi
    rw [Nat.zero_add, World.ownsRow.cellAt (show w.ownsRow base 5 1 _ (nats xs).length (Crc.cl (nats xs)) from h) i (by omega), Crc.cl_at _ i hi2]
    have hb2 := hx (xs.getD i 0) (by rw [List.getD_eq_getElem?_getD, List.getElem?_eq_getElem hi]; simp)
    simp only [nats, List.getD_eq_getElem?_getD, List.getElem?_map, List.getElem?_eq_getElem hi, Option.map_some, Option.getD_some] at hb2 ⊢
    congr 2
    omega

theorem put_one (b : Nat) (k : Int) (nm bs : List Int) (v : Value) (w : World) (hT : TabX w b) (hb : Tlv.BySl 0 w.heap.size w v bs) (hn : nm.length = 32) (hx : ∀ x ∈ nm, 0 ≤ x ∧ x ≤ 255) :
    Calls Tryz.prog 176 #[.pointer (some ⟨b, 0, none⟩), .agg (recA k nm v).toArray] w fun e w' => ∃ a c, e = .returned (.tuple #[.slice a (putX k nm bs).length c, .int .i64 (putF k bs.length)]) ∧ BySlS (fun g => w.heap.size ≤ g ∧ g < w'.heap.size) w' (.slice a (putX k nm bs).length c) (putX k nm bs) ∧ Kept b w w' ∧ TabX w' b := by
  obtain ⟨av, cv, rfl, _, _, _, _, h6, _⟩ := id hb
  unfold putX putF
  cases hr : rightB k bs.length with
  | false =>
    refine (put_no _ k nm bs av cv w hn hr).mono ?_
    rintro e w1 ⟨rfl, hb1⟩
    exact ⟨none, 0, rfl, Tlv.BySlS.none _ _, Kept.below hb1, hT.below hb1⟩
  | true =>
    have hR := right_of hr hn hx h6
    refine (put_yes b k nm bs _ w hT hb hR).mono ?_
    rintro e w1 ⟨v', rfl, ho, hk, ht⟩
    have h1 := own_all ho (by rw [frameR_length hR]; have := hR.2.2.1; omega) (frameR_bd hR)
    obtain ⟨a, c, rfl⟩ := BySlS.len h1
    exact ⟨a, c, rfl, h1, hk, ht⟩

end Go.Proofs.YthmimipoooemjaaGreatDoor
end

section
/-
  A slice of placed records that a call builds by append: how it lies in memory.
-/
namespace Go.Proofs.YthmimipoooemjaaGreatDoor
open Go.RowKit
open Tlv (Tr BySlS AgreeS Agree)
open Crc (hid Kept Tab)

/-- A told record's cells, its body behind u. -/
def recI (x : Item) (u : Value) : List Value := recA x.2.2.1.1 x.2.2.1.2.1 u
def plI (x : Item) (u : Value) : List Value := placedA x.1 x.2.2.2 (recI x u)
def nmOk (x : Item) : Prop := x.2.2.1.2.1.length = 32 ∧ ∀ y ∈ x.2.2.1.2.1, 0 ≤ y ∧ y ≤ 255

theorem plI_length {x : Item} (h : nmOk x) (u : Value) : (plI x u).length = 36 := by rw [plI, placedA, List.length_cons, List.length_cons, recI, recA_length _ _ _ h.1]
def cellsP : List Item → List Value → List Value
  | x :: L, u :: us => plI x u ++ cellsP L us
  | _, _ => []

theorem cellsP_snoc (x : Item) (u : Value) : ∀ (L : List Item) (us : List Value), us.length = L.length → cellsP (L ++ [x]) (us ++ [u]) = cellsP L us ++ plI x u
  | [], [], _ => by simp [cellsP]
  | [], _ :: _, h => by simp at h
  | _ :: _, [], h => by simp at h
  | y :: L, v :: us, h => by
    simp only [List.cons_append, cellsP, List.append_assoc]
    rw [cellsP_snoc x u L us (by simpa using h)]

theorem cellsP_at : ∀ (L : List Item) (us : List Value) (j : Nat) (x : Item) (u : Value) (r : Nat), (∀ y ∈ L, nmOk y) → L[j]? = some x → us[j]? = some u → r < 36 → (cellsP L us)[j * 36 + r]? = (plI x u)[r]?
  | [], _, _, _, _, _, _, h, _, _ => by simp at h
  | _ :: _, [], _, _, _, _, _, _, h, _ => by simp at h
  | y :: L, v :: us, 0, x, u, r, hn, h1, h2, h3 => by
    simp only [List.getElem?_cons_zero, Option.some.injEq] at h1 h2
    subst h1 h2
    simp only [cellsP, Nat.zero_mul, Nat.zero_add]
    rw [List.getElem?_append_left (by rw [plI_length (hn _ (List.mem_cons_self ..))]; exact h3)]
  | y :: L, v :: us, j + 1, x, u, r, hn, h1, h2, h3 => by
    simp only [List.getElem?_cons_succ] at h1 h2
    simp only [cellsP]
    have hl := plI_length (hn y (List.mem_cons_self ..)) v
    rw [List.getElem?_append_right (by rw [hl]; omega), hl, ← cellsP_at L us j x u r (fun z hz => hn z (List.mem_cons_of_mem _ hz)) h1 h2 h3]
    congr 1
    omega

/-- Cells from base on, b left out, stand. -/
structure CellsKept (base b : Nat) (w w' : World) : Prop where
  size : w.heap.size ≤ w'.heap.size
  block : ∀ g cs t fr, base ≤ g → g ≠ b → w.heap[g]? = some (.cells cs t fr) → w'.heap[g]? = some (.cells cs t fr)
  cell : ∀ g o v, base ≤ g → g ≠ b → w.cell? ⟨g, o, none⟩ = some v → w'.cell? ⟨g, o, none⟩ = some v

theorem CellsKept.trans {base b : Nat} {u v w : World} (h : CellsKept base b u v) (k : CellsKept base b v w) : CellsKept base b u w :=
  ⟨Nat.le_trans h.size k.size, fun g cs t fr h1 h2 h3 => k.block g cs t fr h1 h2 (h.block g cs t fr h1 h2 h3), fun g o x h1 h2 h3 => k.cell g o x h1 h2 (h.cell g o x h1 h2 h3)⟩

/-- v is a slice of the placed records L that the call itself has built, in blocks from base on. -/
def PRow (ty : TypeId) (base b : Nat) (w : World) (v : Value) (L : List Item) : Prop :=
  ∃ us : List Value, us.length = L.length ∧ w.ownsRow base ty 36 v L.length (cellsP L us) ∧ (∀ x ∈ L, nmOk x) ∧
    ∀ (j : Nat) (x : Item) (u : Value), L[j]? = some x → us[j]? = some u → BySlS (fun g => base ≤ g ∧ g ≠ b ∧ g < w.heap.size ∧ v.ownBlock ≠ some g) w u x.2.2.1.2.2

theorem PRow.nil (ty : TypeId) (base b : Nat) (w : World) : PRow ty base b w (.slice none 0 0) [] := ⟨[], rfl, World.ownsRow_nil _ _ _ _, by simp, by simp⟩

theorem PRow.form {ty : TypeId} {base b : Nat} {w : World} {v : Value} {L : List Item} (h : PRow ty base b w v L) : ∃ a c, v = .slice a L.length c := by
  obtain ⟨us, _, hown, _⟩ := h
  rcases hown.2 with ⟨rfl, h0⟩ | ⟨g, cap, cur, rfl, _⟩
  · exact ⟨_, _, by rw [h0]⟩
  · exact ⟨_, _, rfl⟩
theorem PRow.lt {ty : TypeId} {base b : Nat} {w : World} {v : Value} {L : List Item} (h : PRow ty base b w v L) : ∀ r, v.ownBlock = some r → base ≤ r ∧ r < w.heap.size := by
  obtain ⟨us, _, hown, _⟩ := h
  exact hown.lt

theorem bySlS_cells {base b : Nat} {S : Nat → Prop} {w w' : World} {u : Value} {xs : List Int} (h : BySlS S w u xs) (k : CellsKept base b w w') (hS : ∀ g, S g → base ≤ g ∧ g ≠ b) : BySlS S w' u xs := by
  obtain ⟨a, cap, h1, h2, h3, h4, h5, h6, h7⟩ := h
  refine ⟨a, cap, h1, h2, h3, h4, h5, h6, fun hne => ?_⟩
  obtain ⟨g, o, e, hg, hc⟩ := h7 hne
  exact ⟨g, o, e, hg, fun i hi => k.cell g _ _ (hS g hg).1 (hS g hg).2 (hc i hi)⟩

theorem PRow.cells {ty : TypeId} {base b : Nat} {w w' : World} {v : Value} {L : List Item} (h : PRow ty base b w v L) (k : CellsKept base b w w') (hb : b < base) : PRow ty base b w' v L := by
  obtain ⟨us, hl, hown, hn, hk⟩ := h
  have hz := k.size
  refine ⟨us, hl, ⟨hown.1, ?_⟩, hn, fun j x u hj hu => BySlS.mono (bySlS_cells (hk j x u hj hu) k (fun g hg => ⟨hg.1, hg.2.1⟩)) (fun g hg => ⟨hg.1, hg.2.1, by omega, hg.2.2.2⟩)⟩
  rcases hown.2 with h2 | ⟨g, cap, cur, hv, hg, hh, r⟩
  · exact Or.inl h2
  · exact Or.inr ⟨g, cap, cur, hv, hg, k.block g _ _ _ hg (by omega) hh, r⟩

/-- One record more, behind the append that lays it. -/
theorem PRow.push {ty : TypeId} {base b g cap : Nat} {L : List Item} {x : Item} {v u : Value} {us : List Value} {w w' : World} (hl : us.length = L.length) (hn : ∀ y ∈ L, nmOk y) (hx : nmOk x)
    (hk : ∀ (j : Nat) (x : Item) (u : Value), L[j]? = some x → us[j]? = some u → BySlS (fun g => base ≤ g ∧ g ≠ b ∧ g < w.heap.size ∧ v.ownBlock ≠ some g) w u x.2.2.1.2.2)
    (hu : BySlS (fun g => base ≤ g ∧ g ≠ b ∧ g < w.heap.size ∧ v.ownBlock ≠ some g) w u x.2.2.1.2.2)
    (hown : w'.ownsRow base ty 36 (.slice (some ⟨g, 0, none⟩) (L.length + 1) cap) (L.length + 1) (cellsP L us ++ plI x u)) (hgrow : w.grownBy w' v.ownBlock) (hat : v.ownBlock = some g ∨ g = w.heap.size) :
    PRow ty base b w' (.slice (some ⟨g, 0, none⟩) (L.length + 1) cap) (L ++ [x]) := by
  have old : ∀ {u : Value} {xs : List Int}, BySlS (fun g => base ≤ g ∧ g ≠ b ∧ g < w.heap.size ∧ v.ownBlock ≠ some g) w u xs → BySlS (fun q => base ≤ q ∧ q ≠ b ∧ q < w'.heap.size ∧ (Value.slice (some ⟨g, 0, none⟩) (L.length + 1) cap).ownBlock ≠ some q) w' u xs := by
    intro u xs h
    have hz := hgrow.size
    refine BySlS.mono (h.agree (fun q hq => hgrow.block q hq.2.2.1 (fun e => hq.2.2.2 e.symm)) (fun _ h => h)) (fun q hq => ⟨hq.1, hq.2.1, by omega, ?_⟩)
    intro e
    simp only [Value.ownBlock, Option.some.injEq] at e
    subst e
    rcases hat with h1 | h1
    · exact hq.2.2.2 h1
    · omega
  refine ⟨us ++ [u], by simp [hl], ?_, ?_, ?_⟩
  · rw [cellsP_snoc _ _ _ _ hl]
    simpa using hown
  · intro y hy
    rcases List.mem_append.1 hy with hy | hy
    · exact hn y hy
    · rw [List.mem_singleton.1 hy]; exact hx
  · intro j y q hj hq
    by_cases hlt : j < L.length
    · rw [List.getElem?_append_left hlt] at hj
      rw [List.getElem?_append_left (by omega)] at hq
      exact old (hk j y q hj hq)
    · have : j = L.length := by
        have := (List.getElem?_eq_some_iff.1 hj).1
        simp at this
        omega
      subst this
      rw [List.getElem?_append_right (Nat.le_refl _)] at hj
      rw [List.getElem?_append_right (by omega)] at hq
      simp [hl] at hj hq
      subst hj hq
      exact old hu

/-- One record of it. -/
theorem PRow.get {ty : TypeId} {base b : Nat} {w : World} {v : Value} {L : List Item} (h : PRow ty base b w v L) (j : Nat) (x : Item) (hj : L[j]? = some x) : ∃ g cap a c, v = .slice (some ⟨g, 0, none⟩) L.length cap ∧ base ≤ g ∧ g < w.heap.size ∧ nmOk x ∧
    w.rangeAt g (j * 36) (plI x (.slice a x.2.2.1.2.2.length c)) ∧ BySlS (fun q => base ≤ q ∧ q ≠ b ∧ q < w.heap.size ∧ q ≠ g) w (.slice a x.2.2.1.2.2.length c) x.2.2.1.2.2 := by
  obtain ⟨us, hl, hown, hn, hk⟩ := h
  have hjl := (List.getElem?_eq_some_iff.1 hj).1
  obtain ⟨u, hu⟩ : ∃ u, us[j]? = some u := ⟨us[j]'(by omega), List.getElem?_eq_getElem (by omega)⟩
  have hb := hk j x u hj hu
  obtain ⟨a, c, rfl, _⟩ := id hb
  rcases id hown.2 with ⟨_, h0⟩ | ⟨g, cap, cur, rfl, hg, hh, _⟩
  · omega
  · have hnx : nmOk x := hn x (List.mem_of_getElem? hj)
    refine ⟨g, cap, a, c, rfl, hg, (Array.getElem?_eq_some_iff.1 hh).1, hnx, fun r q hq => ?_, BySlS.mono hb (fun q hq => ⟨hq.1, hq.2.1, hq.2.2.1, fun e => hq.2.2.2 (by rw [e]; rfl)⟩)⟩
    have hr : r < 36 := by have := (List.getElem?_eq_some_iff.1 hq).1; rwa [plI_length hnx] at this
    rw [hown.cellAt (j * 36 + r) (by omega), cellsP_at L us j x _ r hn hj hu hr]
    exact hq

end Go.Proofs.YthmimipoooemjaaGreatDoor
end

section
/-
  What Scan answers.
-/
namespace Go.Proofs.YthmimipoooemjaaGreatDoor
open Go.RowKit Go.Shelf
open Tlv (Tr BySlS AgreeS Agree)
open Crc (hid Kept Tab)
attribute [local go_sem] Oper.semAt_some

theorem exec_slice1 {P : Program} {o : Oper} {a : Act} {w w' : World} (ty : TypeId) (x : Operand) (ho : o.op = .buildSlice ty 1 #[(0, x)]) (vx v : Value) (hx : a.eval x = vx) (hr : (Instr.buildSlice ty 1 #[(0, vx)]).run P w = .ok v w') :
    (execOp a.eval o).run P w = .ok (.value v) w' := by
  have e : ((#[(0, x)] : Array (Nat × Operand)).map fun (i, x) => (i, a.eval x)) = #[(0, vx)] := by simp [hx]
  unfold execOp
  simp only [ho, Sem.run_bind, e, hr, Result.andThen_ok]
  rfl

/-- What stands behind k rounds: the three variables at s, what was found, where it goes on. -/
def SI (w : World) (base s b : Nat) (xs : List Int) (k m : Nat) (W : World) : Prop :=
  ∃ (v : Value) (pos : Nat), Boxed W s 47 v ∧ Boxed W (s + 1) 3 (.int .i64 (pos : Int)) ∧ Boxed W (s + 2) 26 (.int .i64 0) ∧ PRow 60 base b W v ((tl xs 0).take k) ∧
    scanF xs = ((tl xs 0).take k ++ (scanR ((tl xs 0).drop k) pos).1, (scanR ((tl xs 0).drop k) pos).2) ∧ Kept b w W ∧ (∀ r, v.ownBlock = some r → r < m) ∧ pos ≤ xs.length ∧ base ≤ m

theorem SI.step {w W W' : World} {base s b k m : Nat} {xs : List Int} (h : SI w base s b xs k m W) (hs : s + 3 ≤ base) (hb : b < s) (hw : s = w.heap.size) (hk : CellsKept base b W W') (hbx : ∀ g t u, s ≤ g → g < s + 3 → Boxed W g t u → Boxed W' g t u) (hkk : Kept b w W') : SI w base s b xs k m W' := by
  obtain ⟨v, pos, h0, h1, h2, h3, h4, h5, h6, h7⟩ := h
  exact ⟨v, pos, hbx _ _ _ (by omega) (by omega) h0, hbx _ _ _ (by omega) (by omega) h1, hbx _ _ _ (by omega) (by omega) h2, h3.cells hk (by omega), h4, hkk, h6, h7⟩

theorem PRow.mono {ty : TypeId} {base base' b : Nat} {w : World} {v : Value} {L : List Item} (h : PRow ty base b w v L) (hb : base' ≤ base) : PRow ty base' b w v L := by
  obtain ⟨us, hl, hown, hn, hk⟩ := h
  refine ⟨us, hl, ⟨hown.1, ?_⟩, hn, fun j x u hj hu => BySlS.mono (hk j x u hj hu) (fun g hg => ⟨by omega, hg.2⟩)⟩
  rcases hown.2 with h2 | ⟨g, cap, cur, hv, hg, r⟩
  · exact Or.inl h2
  · exact Or.inr ⟨g, cap, cur, hv, by omega, r⟩

end Go.Proofs.YthmimipoooemjaaGreatDoor
end

section
/-
  What At answers.
-/
namespace Go.Proofs.YthmimipoooemjaaGreatDoor
open Go.RowKit Go.Shelf
open Tlv (Tr BySlS AgreeS Agree)
open Crc (hid Kept Tab)

set_option maxHeartbeats 1000000 in
set_option maxRecDepth 100000 in
theorem at_bad (b : Nat) (a : Option Addr) (l c : Nat) (z : Int) (w : World) (hz : z < 0 ∨ (l : Int) ≤ z) :
    Calls Tryz.prog 106 #[.pointer (some ⟨b, 0, none⟩), .slice a l c, .int .i64 z] w fun e w' => e = .returned (.tuple #[.agg zRec.toArray, .int .i64 1]) ∧ Below w.heap.size w w' := by
  have hz0 := zero35
  obtain ⟨Z, hZ⟩ : ∃ Z, zRec = Z := ⟨_, rfl⟩
  have HZ := hid hZ
  rw [hZ] at hz0
  rw [hZ]
  clear hZ
  have HI2 : Hid ((Tryz.prog.info? 56).map (·.size) = some Z.toArray.size) := by rw [← HZ.out]; exact Tryz.info35
  have H1 : Hid (Z.toArray.all (·.oneCell') = true) := by rw [← HZ.out]; exact all_oneCell_toArray zRec_one
  have HT : Hid (World.there (w.alloc (.cells Z.toArray 56)) w.heap.size 0 Z.toArray.size) := there_new w Z 56
  have hr : World.rangeAt ((w.alloc (.cells Z.toArray 56)).setCells w.heap.size 0 Z) w.heap.size 0 Z := World.rangeAt_setCells_same _ _ _ _ HT.out
  by_cases hz1 : z < 0
  · clear hz
    go_enter Tryz.func106, Tryz.ntmps106
    go_wp2_with (refine wpList_store_mid (by rfl) 56 _ _ (by rfl) w.heap.size 0 Z.toArray (by rfl) (by rfl) HT.out HI2.out H1.out ?_)
    exact bodyPost_ret (v := .tuple #[.agg Z.toArray, .int .i64 1]) (results_cell_mid2 Tryz.results106 _ _ w.heap.size 0 _ _ rfl hr Tryz.underlying56 rfl HI2.out) rfl ⟨rfl, ((Below.refl _ _).alloc (Nat.le_refl _) _).trans (setCells_below (Nat.le_refl _) _ _ _)⟩
  · have hz2 : (l : Int) ≤ z := by omega
    clear hz
    go_enter Tryz.func106, Tryz.ntmps106
    go_wp2_with (refine wpList_store_mid (by rfl) 56 _ _ (by rfl) w.heap.size 0 Z.toArray (by rfl) (by rfl) HT.out HI2.out H1.out ?_)
    exact bodyPost_ret (v := .tuple #[.agg Z.toArray, .int .i64 1]) (results_cell_mid2 Tryz.results106 _ _ w.heap.size 0 _ _ rfl hr Tryz.underlying56 rfl HI2.out) rfl ⟨rfl, ((Below.refl _ _).alloc (Nat.le_refl _) _).trans (setCells_below (Nat.le_refl _) _ _ _)⟩

/-- What At leaves: as Take does, its length left out. -/
def Atd (w w' : World) (b : Nat) (e : Ending) (x : Int × (Int × List Int × List Int) × Nat) : Prop :=
  ∃ a c, e = .returned (.tuple #[.agg (recA x.2.1.1 x.2.1.2.1 (.slice a x.2.1.2.2.length c)).toArray, .int .i64 x.1]) ∧
    BySlS (fun g => w.heap.size ≤ g ∧ g < w'.heap.size) w' (.slice a x.2.1.2.2.length c) x.2.1.2.2 ∧ (x.2.1.2.1.length = 32 ∧ ∀ y ∈ x.2.1.2.1, 0 ≤ y ∧ y ≤ 255) ∧ Kept b w w' ∧ TabX w' b

set_option maxHeartbeats 1000000 in
set_option maxRecDepth 100000 in
theorem at_any (b k : Nat) (v : Value) (xs : List Int) (w : World) (hT : TabX w b) (hv : BySlS (fun g => g ≠ b ∧ g < w.heap.size) w v xs) (hk : k < xs.length) :
    Calls Tryz.prog 106 #[.pointer (some ⟨b, 0, none⟩), v, .int .i64 (k : Int)] w fun e w' => Atd w w' b e (takeF (xs.drop k)) := by
  obtain ⟨a', cap, rfl, hc, hmax, _, h47, _, h7⟩ := id hv
  obtain ⟨g, o, rfl, hgb, _⟩ := h7 (by intro e; subst e; simp at hk)
  have HVV : Hid (BySlS (fun x => x ≠ b ∧ x < w.heap.size) w (.slice (some ⟨g, o + k, none⟩) (xs.length - k) (cap - k)) (xs.drop k)) := bySlS_drop hv hk
  have HT := hid hT
  clear hv h7 hT
  unfold maxLen at hmax
  have hz0 := zero35
  obtain ⟨Z, hZ⟩ : ∃ Z, zRec = Z := ⟨_, rfl⟩
  have HZ := hid hZ
  rw [hZ] at hz0
  clear hZ
  go_enter Tryz.func106, Tryz.ntmps106
  go_wp2_with fail
  have hB1 : Below w.heap.size w (w.alloc (.cells Z.toArray 56)) := (Below.refl _ _).alloc (Nat.le_refl _) _
  have hHT := there_new w Z 56
  have hs1 : (w.alloc (.cells Z.toArray 56)).heap.size = w.heap.size + 1 := by simp
  generalize hW1 : w.alloc (.cells Z.toArray 56) = W1 at *
  refine (take_any b _ (xs.drop k) W1 (HT.out.below hB1) ?_).mono ?_
  · have h : BySlS (fun x => x ≠ b ∧ x < W1.heap.size) W1 _ _ := BySlS.mono (BySlS.below HVV.out hB1 (fun g hg => hg.2)) (fun g hg => ⟨hg.1, by omega⟩)
    simpa only [List.length_drop] using h
  rintro e w1 ⟨ar, cr, rfl, hby, hnm, hkk, htt⟩
  have hbw := HT.out.lt
  have hz1 := hkk.size
  generalize hX : takeF (xs.drop k) = X at *
  have HPL := hid (recA_length X.2.1.1 X.2.1.2.1 (.slice ar X.2.1.2.2.length cr) hnm.1)
  have HPO := hid (recA_one X.2.1.1 X.2.1.2.1 ar X.2.1.2.2.length cr)
  obtain ⟨C, hC⟩ : ∃ C, recA X.2.1.1 X.2.1.2.1 (.slice ar X.2.1.2.2.length cr) = C := ⟨_, rfl⟩
  rw [hC] at HPL HPO
  rw [hC]
  have HCs : Hid (C.toArray.size = 34) := HPL.out
  have HI : Hid ((Tryz.prog.info? 56).map (·.size) = some C.toArray.size) := by rw [Hid, HCs.out]; exact Tryz.info35
  have HO : Hid (C.toArray.all (·.oneCell') = true) := all_oneCell_toArray HPO.out
  have hZl : Z.length = 34 := by rw [← HZ.out]; exact zRec_length
  rw [hZl] at hHT
  have ha1 : Below w1.heap.size w1 (w1.alloc (.cells Z.toArray 56)) := (Below.refl _ _).alloc (Nat.le_refl _) _
  have hb2 := setCells_below (B := w1.heap.size) (Nat.le_refl _) (w1.alloc (.cells Z.toArray 56)) 0 C
  have ht2 : (w1.alloc (.cells Z.toArray 56)).there w1.heap.size 0 34 := by have h := there_new w1 Z 56; rwa [hZl] at h
  have HT2 : Hid (World.there (w1.alloc (.cells Z.toArray 56)) w1.heap.size 0 C.toArray.size) := by rw [Hid, HCs.out]; exact ht2
  have HR2 : Hid (World.rangeAt ((w1.alloc (.cells Z.toArray 56)).setCells w1.heap.size 0 C) w1.heap.size 0 C) := World.rangeAt_setCells_same _ _ _ _ HT2.out
  have h3 : Below w1.heap.size w1 ((w1.alloc (.cells Z.toArray 56)).setCells w1.heap.size 0 C) := ha1.trans hb2
  have HT3 : Hid (World.there ((w1.alloc (.cells Z.toArray 56)).setCells w1.heap.size 0 C) w.heap.size 0 C.toArray.size) := by
    rw [Hid, HCs.out]
    exact there_below (there_kept hHT hkk (by omega) (by omega)) h3 (by omega)
  have HR3 : Hid (World.rangeAt (((w1.alloc (.cells Z.toArray 56)).setCells w1.heap.size 0 C).setCells w.heap.size 0 C) w.heap.size 0 C) := World.rangeAt_setCells_same _ _ _ _ HT3.out
  have H3 := hid h3
  have HBY := hid (And.intro hby (And.intro hnm (And.intro hkk htt)))
  clear h3 ha1 hb2 ht2 hHT hby hnm hkk htt
  go_wp2_with (first
    | (refine wpList_store_mid (by rfl) 56 _ _ (by rfl) w1.heap.size 0 C.toArray (by rfl) (by rfl) HT2.out HI.out HO.out ?_)
    | (refine wpList_load_mid (by rfl) 56 _ (by rfl) w1.heap.size 0 (by rfl) C _ HR2.out Tryz.underlying56 rfl HI.out ?_)
    | (refine wpList_store_mid (by rfl) 56 _ _ (by rfl) w.heap.size 0 C.toArray (by rfl) (by rfl) HT3.out HI.out HO.out ?_))
  obtain ⟨hby, hnm, hkk, htt⟩ := HBY.out
  have hV : Below w.heap.size w1 (((w1.alloc (.cells Z.toArray 56)).setCells w1.heap.size 0 C).setCells w.heap.size 0 C) := (H3.out.mono (by omega)).trans (setCells_below (Nat.le_refl _) _ _ _)
  refine bodyPost_ret (v := .tuple #[.agg C.toArray, .int .i64 X.1]) (results_cell_mid2 Tryz.results106 _ _ w.heap.size 0 _ _ rfl HR3.out Tryz.underlying56 rfl HI.out) rfl ?_
  rw [hX]
  refine ⟨ar, cr, by rw [hC], hby.agree (fun g hg => (setCells_block _ _ _ _ _ (by omega)).trans (H3.out.block g hg.2)) (fun g hg => ⟨by omega, Nat.lt_of_lt_of_le hg.2 hV.size⟩), hnm, Kept.then ((Kept.below hB1).trans hkk) hV, tabX_below htt hV hbw⟩
end Go.Proofs.YthmimipoooemjaaGreatDoor
end

section
/-
  A record is added to a pack.
-/
namespace Go.Proofs.YthmimipoooemjaaGreatDoor
open Go.RowKit Go.Shelf
open Tlv (BySlS)
open Sim (hid Kp No PS Done Blk nm pCreate finds pBytes pAppend)
theorem build35z : Tryz.prog.built 56 [] = some zRec.toArray := by kernel_rfl

theorem byP_of {S : Nat → Prop} {w : World} {v : Value} {xs : List Int} (h : BySlS S w v xs) (hS : ∀ g, S g → g < w.heap.size) : Sim.ByP S w v (nats xs) := by
  obtain ⟨a, cap, rfl, h2, h3, h4, h5, h6, h7⟩ := h
  refine ⟨a, cap, by rw [nats_length], by rw [nats_length]; exact h2, h3, fun e => ⟨by rw [(h4 e).1]; rfl, (h4 e).2⟩, by rw [nats_length]; exact h5, nats_lt _ h6, fun hne => ?_⟩
  obtain ⟨g, o, e, hg, hc⟩ := h7 (fun e => hne (by rw [e]; rfl))
  refine ⟨g, o, e, hg, hS g hg, fun i hi => ?_⟩
  rw [nats_length] at hi
  rw [hc i hi]
  have h := h6 (xs[i]) (List.getElem_mem hi)
  have e1 : xs.getD i 0 = xs[i] := by rw [List.getD_eq_getElem?_getD, List.getElem?_eq_getElem hi]; rfl
  have e2 : (nats xs).getD i 0 = xs[i].toNat := by rw [List.getD_eq_getElem?_getD, nats, List.getElem?_map, List.getElem?_eq_getElem hi]; rfl
  rw [e1, e2, Int.toNat_of_nonneg h.1]

/-- What Add answers, and what it leaves: where, the fault, the files, the writer's size and count. -/
def addF (i sz ct : Nat) (X : List Int) (r : Bool) (p : PS) : Int × Int × PS × Nat × Nat :=
  if r = false then (0, 1, p, sz, ct) else if 12000 < sz + X.length then (0, 2, p, sz, ct)
  else if (pAppend (nm (nameT i)) (nats X) p).1 = 0 then (sz, 0, (pAppend (nm (nameT i)) (nats X) p).2, sz + X.length, ct + 1) else (0, ((pAppend (nm (nameT i)) (nats X) p).1 : Nat), (pAppend (nm (nameT i)) (nats X) p).2, sz, ct)

def Added (P : Nat → Prop) (N : Nat) (w w' : World) (g s b i : Nat) (e : Ending) (r : Int × Int × PS × Nat × Nat) : Prop :=
  e = .returned (.tuple #[.int .i64 r.1, .int .i64 r.2.1]) ∧ WrAt w' g s b i r.2.2.2.1 r.2.2.2.2 false ∧ TabX w' b ∧
    ∃ P', Sim.Sys P' (N + 1) w' s r.2.2.1 ∧ Kp (fun x => P x ∨ x = b ∨ x = g) w w' ∧ (∀ x, P' x → P x ∨ w.heap.size ≤ x)

set_option maxHeartbeats 2000000 in
set_option maxRecDepth 100000 in
theorem addW_any {P : Nat → Prop} {N : Nat} (w : World) (g s b i sz ct : Nat) (p : PS) (k : Int) (nmr bs : List Int) (v : Value) (hi1 : 1 ≤ i) (hi2 : i < 100) (hW : WrAt w g s b i sz ct false) (h : Sim.Sys P N w s p) (hN : N + 1 ≤ 1000) (hT : TabX w b)
    (hb : ¬ P b) (hg : ¬ P g) (hgb : g ≠ b) (hbs : Tlv.BySl 0 w.heap.size w v bs) (hn : nmr.length = 32) (hx : ∀ x ∈ nmr, 0 ≤ x ∧ x ≤ 255) (h200 : (putX k nmr bs).length ≤ 12000) (hsz : sz ≤ 12000) (hct : ct ≤ 20000000) :
    Calls Tryz.prog 139 #[.pointer (some ⟨g, 0, none⟩), .agg (recA k nmr v).toArray] w fun e w' => Added P N w w' g s b i e (addF i sz ct (putX k nmr bs) (rightB k bs.length) p) := by
  obtain ⟨av, cv, rfl, _⟩ := id hbs
  have hcl := recA_length k nmr (.slice av bs.length cv) hn
  have HPUT := hid (fun V hV hb => put_one b k nmr bs (.slice av bs.length cv) V hV hb hn hx)
  obtain ⟨C, hC⟩ : ∃ C, recA k nmr (.slice av bs.length cv) = C := ⟨_, rfl⟩
  rw [hC] at hcl HPUT
  rw [hC]
  clear hC
  have HI : Hid ((Tryz.prog.info? 56).map (·.size) = some C.length) := by rw [Hid, hcl]; exact Tryz.info35
  have hal : Below w.heap.size w (w.alloc (.cells C.toArray 56)) := (Below.refl _ _).alloc (Nat.le_refl _) _
  have HRN := hid (range_new w C 56)
  have HAL := hid hal
  have HSY := hid h
  have HTT := hid (hT.below hal)
  have hWa : WrAt (w.alloc (.cells C.toArray 56)) g s b i sz ct false := hW.kp (Kp.below (L := No) hal) (fun h => h)
  have HWA := hid hWa
  have HBA := hid (hbs.agree (Tlv.Agree.below hal) (Nat.le_refl _) hal.size)
  have hsw : (w.alloc (.cells C.toArray 56)).heap.size = w.heap.size + 1 := by simp
  have HGW : Hid (g < w.heap.size ∧ b < w.heap.size) := ⟨hW.lt, hT.lt⟩
  obtain ⟨X, hX⟩ : ∃ X, putX k nmr bs = X := ⟨_, rfl⟩
  obtain ⟨F, hF⟩ : ∃ F, putF k bs.length = F := ⟨_, rfl⟩
  have hF' : F = if rightB k bs.length then 0 else 1 := by rw [← hF]; rfl
  rw [hX, hF] at HPUT
  rw [hX] at h200
  rw [hX]
  have HX := hid hX
  have HF := hid hF'
  obtain ⟨R, hR⟩ : ∃ R, rightB k bs.length = R := ⟨_, rfl⟩
  rw [hR] at HF ⊢
  have HXF : Hid (R = false → X = []) := fun e => by rw [← hX, putX, hR, e]; rfl
  clear hX hF hF' hR
  go_enter Tryz.func139, Tryz.ntmps139
  generalize hWW : w.alloc (.cells C.toArray 56) = W at *
  clear h hT hW hbs hal hWa
  go_wp2_with (go_at_call 141; refine (wrongW_any _ _ _ _ _ _ _ _ HWA.out).mono ?_; rintro e w1 ⟨rfl, h⟩; subst w1)
  have hgW : g < W.heap.size := by have := HGW.out; omega
  have hbW : b < W.heap.size := by have := HGW.out; omega
  have cw1 : W.cell? ⟨g, 1, none⟩ = some (.pointer (some ⟨b, 0, none⟩)) := HWA.out.cell 1
  refine wp_region_held_drew (S := fun V => Crc.Kept b W V) (by kernel_rfl) (Crc.Kept.below (Below.refl _ _).drew) (fun hHeld => ?_)
  refine wpAnyH_take (i := 0) (oi := { dst := some 17, op := Op.move (Operand.tmp 0), type := 178, pos := "writer.go:42", after := #[], guard := none }) (v := .pointer (some ⟨g, 0, none⟩)) rfl (by kernel_rfl) (by kernel_rfl) (by kernel_rfl) (fun _ _ _ h => h) (Or.inl ⟨by rfl, fun w' hw' => by (clear hw'; go_simp)⟩) hHeld ?_
  simp only [Act.put, List.setIfInBounds_toArray, List.set_cons_zero, List.set_cons_succ]
  refine wpAnyH_take (i := 1) (oi := { dst := some 18, op := Op.nilCheck (Operand.tmp 17), type := 0, pos := "writer.go:42", after := #[{ on := 0, ground := Ground.data }], guard := none }) (v := .pointer (some ⟨g, 0, none⟩)) rfl (by kernel_rfl) (by kernel_rfl) (by kernel_rfl) (fun _ _ _ h => h) (Or.inl ⟨by rfl, fun w' hw' => by (clear hw'; go_simp)⟩) hHeld ?_
  simp only [Act.put, List.setIfInBounds_toArray, List.set_cons_zero, List.set_cons_succ]
  refine wpAnyH_take (i := 2) (oi := { dst := some 19, op := Op.fieldAddr 230 (Operand.tmp 18) 1, type := 0, pos := "writer.go:42", after := #[{ on := 1, ground := Ground.data }], guard := none }) (v := .pointer (some ⟨g, 1, none⟩)) rfl (by kernel_rfl) (by kernel_rfl) (by kernel_rfl) (fun _ _ _ h => h) (Or.inl ⟨by rfl, fun w' hw' => by (clear hw'; go_simp)⟩) hHeld ?_
  simp only [Act.put, List.setIfInBounds_toArray, List.set_cons_zero, List.set_cons_succ]
  refine wpAnyH_take (i := 3) (oi := { dst := some 20, op := Op.load 32 (Operand.tmp 19), type := 32, pos := "writer.go:42", after := #[{ on := 2, ground := Ground.data }], guard := none }) (v := .pointer (some ⟨b, 0, none⟩)) rfl (by kernel_rfl) (by kernel_rfl) (by kernel_rfl) (fun _ _ _ h => h) (Or.inl ⟨by rfl, fun w' hw' => by (have q := (hw'.cell (p := ⟨g, 1, none⟩) hgW hgb).trans cw1; clear hw'; go_simp)⟩) hHeld ?_
  simp only [Act.put, List.setIfInBounds_toArray, List.set_cons_zero, List.set_cons_succ]
  refine wpAnyH_take (i := 4) (oi := { dst := some 21, op := Op.load 56 (Operand.tmp 3), type := 56, pos := "writer.go:42", after := #[], guard := none }) (v := .agg C.toArray) rfl (by kernel_rfl) (by kernel_rfl) (by kernel_rfl) (fun _ _ _ h => h) (yieldsIf_load_mid (by rfl) _ _ rfl w.heap.size 0 rfl C _ (fun V hV => rangeAt_kept HRN.out hV (by omega) (by have := HGW.out; omega)) Tryz.underlying56 rfl HI.out) hHeld ?_
  simp only [Act.put, List.setIfInBounds_toArray, List.set_cons_zero, List.set_cons_succ]
  refine wpAnyH_ready (rs := [5]) (by kernel_rfl) (by simp) ?_
  refine AllReadyH.cons (o := { dst := some 22, op := Op.call { callee := Callee.value (Operand.func 176), args := #[Operand.tmp 20, Operand.tmp 21], argTypes := #[32, 56] }, type := 160, pos := "writer.go:42", after := #[{ on := 3, ground := Ground.data }, { on := 4, ground := Ground.data }], guard := none }) rfl (fun K hK => ?_) AllReadyH.nil
  go_simp
  refine (HPUT.out _ (HTT.out.below (Below.refl _ _).drew) (HBA.out.agree (Tlv.Agree.below (Below.refl _ _).drew) (Nat.le_refl _) (Nat.le_refl _))).mono ?_
  rintro e w3 ⟨ap, cp, rfl, hp3, hk3, ht3⟩
  have HP3 := hid hp3
  have HK3 : Hid (Crc.Kept b W w3) := (Crc.Kept.below (Below.refl _ _).drew).trans hk3
  have HT3 := hid ht3
  clear hp3 hk3 ht3
  go_wp2_with fail
  refine hK.out _ _ (HK3.out) (fun hh => ?_)
  clear hK K hHeld
  have hHeld := hh
  clear hh
  try simp only [Act.put, List.setIfInBounds_toArray, List.set_cons_zero, List.set_cons_succ]
  refine wpAnyH_take (i := 6) (oi := { dst := some 16, op := Op.move (Operand.tmp 22), type := 160, pos := "writer.go:42", after := #[{ on := 5, ground := Ground.data }], guard := none }) (v := .tuple #[.slice ap X.length cp, .int .i64 F]) rfl (by kernel_rfl) (by kernel_rfl) (by kernel_rfl) (fun _ _ _ h => h) (Or.inl ⟨by rfl, fun w' hw' => by (clear hw'; go_simp)⟩) hHeld ?_
  simp only [Act.put, List.setIfInBounds_toArray, List.set_cons_zero, List.set_cons_succ]
  refine wpAnyH_take (i := 7) (oi := { dst := some 23, op := Op.extract (Operand.tmp 16) 0, type := 54, pos := "writer.go:42", after := #[{ on := 6, ground := Ground.data }], guard := none }) (v := .slice ap X.length cp) rfl (by kernel_rfl) (by kernel_rfl) (by kernel_rfl) (fun _ _ _ h => h) (Or.inl ⟨by rfl, fun w' hw' => by (clear hw'; go_simp)⟩) hHeld ?_
  simp only [Act.put, List.setIfInBounds_toArray, List.set_cons_zero, List.set_cons_succ]
  refine wpAnyH_take (i := 8) (oi := { dst := some 24, op := Op.extract (Operand.tmp 16) 1, type := 26, pos := "writer.go:42", after := #[{ on := 6, ground := Ground.data }, { on := 9, ground := Ground.gcOnly Departure.lateStores }], guard := none }) (v := .int .i64 F) rfl (by kernel_rfl) (by kernel_rfl) (by kernel_rfl) (fun _ _ _ h => h) (Or.inl ⟨by rfl, fun w' hw' => by (clear hw'; go_simp)⟩) hHeld ?_
  simp only [Act.put, List.setIfInBounds_toArray, List.set_cons_zero, List.set_cons_succ]
  refine wpAnyH_take (i := 9) (oi := { dst := some 7, op := Op.assign (Operand.tmp 23), type := 54, pos := "writer.go:42", after := #[{ on := 7, ground := Ground.data }, { on := 5, ground := Ground.chain }, { on := 0, ground := Ground.phase }, { on := 1, ground := Ground.phase }, { on := 2, ground := Ground.phase }, { on := 3, ground := Ground.phase }, { on := 4, ground := Ground.phase }, { on := 5, ground := Ground.phase }, { on := 6, ground := Ground.phase }, { on := 7, ground := Ground.phase }, { on := 8, ground := Ground.textOnly Departure.lateStores }], guard := none }) (v := .slice ap X.length cp) rfl (by kernel_rfl) (by kernel_rfl) (by kernel_rfl) (fun _ _ _ h => h) (Or.inl ⟨by rfl, fun w' hw' => by (clear hw'; go_simp)⟩) hHeld ?_
  simp only [Act.put, List.setIfInBounds_toArray, List.set_cons_zero, List.set_cons_succ]
  refine wpAnyH_take (i := 10) (oi := { dst := some 8, op := Op.assign (Operand.tmp 24), type := 26, pos := "writer.go:42", after := #[{ on := 8, ground := Ground.data }, { on := 9, ground := Ground.chain }, { on := 0, ground := Ground.phase }, { on := 1, ground := Ground.phase }, { on := 2, ground := Ground.phase }, { on := 3, ground := Ground.phase }, { on := 4, ground := Ground.phase }, { on := 5, ground := Ground.phase }, { on := 6, ground := Ground.phase }, { on := 7, ground := Ground.phase }, { on := 8, ground := Ground.phase }, { on := 9, ground := Ground.phase }], guard := none }) (v := .int .i64 F) rfl (by kernel_rfl) (by kernel_rfl) (by kernel_rfl) (fun _ _ _ h => h) (Or.inl ⟨by rfl, fun w' hw' => by (clear hw'; go_simp)⟩) hHeld ?_
  simp only [Act.put, List.setIfInBounds_toArray, List.set_cons_zero, List.set_cons_succ]
  refine wpAnyH_done (by kernel_rfl) ?_ _
  have hK3s := HK3.out.size
  have HSY3 : Hid (Sim.Sys P N w3 s p) := sys_kept (HSY.out.kept (Kp.below HAL.out)) HK3.out hb
  have HW3 : Hid (WrAt w3 g s b i sz ct false) := HWA.out.kp (kp_kept HK3.out) hgb
  have HKW3 : Hid (Kp (fun x => P x ∨ x = b ∨ x = g) w w3) := (Kp.below HAL.out).trans (kp_kept HK3.out) (fun x hx => .inl (.inr (.inl hx)))
  clear hHeld
  cases R with
  | false =>
    have hF1 : F = 1 := HF.out
    subst hF1
    go_wp2_with fail
    go_ret2
    refine ⟨rfl, HW3.out, HT3.out, P, HSY3.out.more (by omega) (by omega), HKW3.out, fun x hx => .inl hx⟩
  | true =>
    have hF1 : F = 0 := HF.out
    subst hF1
    have c3 : w3.cell? ⟨g, 3, none⟩ = some (.int .i64 (sz : Int)) := HW3.out.cell 3
    have hw12 : IntKind.i64.wrap ((sz : Int) + (X.length : Int)) = (sz : Int) + (X.length : Int) := by rw [IntKind.wrap_i64]; omega
    by_cases h12 : 12000 < sz + X.length
    · have h12' : (12000 : Int) < (sz : Int) + (X.length : Int) := by omega
      go_wp2_with fail
      go_ret2
      have e : addF i sz ct X true p = (0, 2, p, sz, ct) := by rw [addF, if_neg (by simp), if_pos h12]
      rw [e]
      exact ⟨rfl, HW3.out, HT3.out, P, HSY3.out.more (by omega) (by omega), HKW3.out, fun x hx => .inl hx⟩
    · have h12' : ¬ (12000 : Int) < (sz : Int) + (X.length : Int) := by omega
      have c0 : w3.cell? ⟨g, 0, none⟩ = some (.pointer (some ⟨s, 0, none⟩)) := HW3.out.cell 0
      have c2 : w3.cell? ⟨g, 2, none⟩ = some (.int .i64 (i : Int)) := HW3.out.cell 2
      have hg3 : g < w3.heap.size := by omega
      have HTM := hid (fun V => ptemp_small i hi1 hi2 V)
      have HBP : Hid (Sim.ByP (fun x => W.heap.size ≤ x ∧ x < w3.heap.size) w3 (.slice ap X.length cp) (nats X)) := byP_of HP3.out (fun x hx => hx.2)
      have HAPP := hid (Sim.append_any w3.drew s p (nameT i) (.slice ap X.length cp) (nats X) (name_le _ (by decide) i hi2) (HSY3.out.kept ((Kp.refl _ _).drew)) hN (HBP.out.kept ((Kp.refl _ _).drew)) (fun x hx hp => by have h1 := HSY.out.lt x hp; have h2 := hx.1; omega) (by rw [nats_length]; exact h200))
      obtain ⟨FA, hFA⟩ : ∃ FA, (pAppend (nm (nameT i)) (nats X) p).1 = FA := ⟨_, rfl⟩
      obtain ⟨q, hq⟩ : ∃ q, (pAppend (nm (nameT i)) (nats X) p).2 = q := ⟨_, rfl⟩
      have HAF : Hid (addF i sz ct X true p = if FA = 0 then ((sz : Int), 0, q, sz + X.length, ct + 1) else (0, (FA : Int), q, sz, ct)) := by rw [Hid, addF, if_neg (by simp), if_neg h12, hFA, hq]
      rw [hFA, hq] at HAPP
      clear hFA hq
      go_wp2_with fail
      refine wp_region_held_drew (S := fun V => ∀ o, V.cell? ⟨g, o, none⟩ = w3.cell? ⟨g, o, none⟩) (by kernel_rfl) (fun _ => rfl) (fun hHeld => ?_)
      refine wpAnyH_take (i := 0) (oi := { dst := some 36, op := Op.move (Operand.tmp 0), type := 178, pos := "writer.go:49", after := #[], guard := none }) (v := .pointer (some ⟨g, 0, none⟩)) rfl (by kernel_rfl) (by kernel_rfl) (by kernel_rfl) (fun _ _ _ h => h) (Or.inl ⟨by rfl, fun w' hw' => by (clear hw'; go_simp)⟩) hHeld ?_
      simp only [Act.put, List.setIfInBounds_toArray, List.set_cons_zero, List.set_cons_succ]
      refine wpAnyH_take (i := 1) (oi := { dst := some 37, op := Op.nilCheck (Operand.tmp 36), type := 0, pos := "writer.go:49", after := #[{ on := 0, ground := Ground.data }], guard := none }) (v := .pointer (some ⟨g, 0, none⟩)) rfl (by kernel_rfl) (by kernel_rfl) (by kernel_rfl) (fun _ _ _ h => h) (Or.inl ⟨by rfl, fun w' hw' => by (clear hw'; go_simp)⟩) hHeld ?_
      simp only [Act.put, List.setIfInBounds_toArray, List.set_cons_zero, List.set_cons_succ]
      refine wpAnyH_take (i := 2) (oi := { dst := some 38, op := Op.fieldAddr 230 (Operand.tmp 37) 0, type := 0, pos := "writer.go:49", after := #[{ on := 1, ground := Ground.data }], guard := none }) (v := .pointer (some ⟨g, 0, none⟩)) rfl (by kernel_rfl) (by kernel_rfl) (by kernel_rfl) (fun _ _ _ h => h) (Or.inl ⟨by rfl, fun w' hw' => by (clear hw'; go_simp)⟩) hHeld ?_
      simp only [Act.put, List.setIfInBounds_toArray, List.set_cons_zero, List.set_cons_succ]
      refine wpAnyH_take (i := 3) (oi := { dst := some 39, op := Op.load 25 (Operand.tmp 38), type := 25, pos := "writer.go:49", after := #[{ on := 2, ground := Ground.data }], guard := none }) (v := .pointer (some ⟨s, 0, none⟩)) rfl (by kernel_rfl) (by kernel_rfl) (by kernel_rfl) (fun _ _ _ h => h) (Or.inl ⟨by rfl, fun w' hw' => by (have q := (hw' 0).trans c0; clear hw'; go_simp)⟩) hHeld ?_
      simp only [Act.put, List.setIfInBounds_toArray, List.set_cons_zero, List.set_cons_succ]
      refine wpAnyH_take (i := 4) (oi := { dst := some 40, op := Op.move (Operand.tmp 0), type := 178, pos := "writer.go:49", after := #[], guard := none }) (v := .pointer (some ⟨g, 0, none⟩)) rfl (by kernel_rfl) (by kernel_rfl) (by kernel_rfl) (fun _ _ _ h => h) (Or.inl ⟨by rfl, fun w' hw' => by (clear hw'; go_simp)⟩) hHeld ?_
      simp only [Act.put, List.setIfInBounds_toArray, List.set_cons_zero, List.set_cons_succ]
      refine wpAnyH_take (i := 5) (oi := { dst := some 41, op := Op.nilCheck (Operand.tmp 40), type := 0, pos := "writer.go:49", after := #[{ on := 4, ground := Ground.data }], guard := none }) (v := .pointer (some ⟨g, 0, none⟩)) rfl (by kernel_rfl) (by kernel_rfl) (by kernel_rfl) (fun _ _ _ h => h) (Or.inl ⟨by rfl, fun w' hw' => by (clear hw'; go_simp)⟩) hHeld ?_
      simp only [Act.put, List.setIfInBounds_toArray, List.set_cons_zero, List.set_cons_succ]
      refine wpAnyH_take (i := 6) (oi := { dst := some 42, op := Op.fieldAddr 230 (Operand.tmp 41) 2, type := 0, pos := "writer.go:49", after := #[{ on := 5, ground := Ground.data }], guard := none }) (v := .pointer (some ⟨g, 2, none⟩)) rfl (by kernel_rfl) (by kernel_rfl) (by kernel_rfl) (fun _ _ _ h => h) (Or.inl ⟨by rfl, fun w' hw' => by (clear hw'; go_simp)⟩) hHeld ?_
      simp only [Act.put, List.setIfInBounds_toArray, List.set_cons_zero, List.set_cons_succ]
      refine wpAnyH_take (i := 7) (oi := { dst := some 43, op := Op.load 3 (Operand.tmp 42), type := 3, pos := "writer.go:49", after := #[{ on := 6, ground := Ground.data }], guard := none }) (v := .int .i64 (i : Int)) rfl (by kernel_rfl) (by kernel_rfl) (by kernel_rfl) (fun _ _ _ h => h) (Or.inl ⟨by rfl, fun w' hw' => by (have q := (hw' 2).trans c2; clear hw'; go_simp)⟩) hHeld ?_
      simp only [Act.put, List.setIfInBounds_toArray, List.set_cons_zero, List.set_cons_succ]
      refine wpAnyH_take (i := 9) (oi := { dst := some 45, op := Op.move (Operand.tmp 7), type := 54, pos := "writer.go:49", after := #[], guard := none }) (v := .slice ap X.length cp) rfl (by kernel_rfl) (by kernel_rfl) (by kernel_rfl) (fun _ _ _ h => h) (Or.inl ⟨by rfl, fun w' hw' => by (clear hw'; go_simp)⟩) hHeld ?_
      simp only [Act.put, List.setIfInBounds_toArray, List.set_cons_zero, List.set_cons_succ]
      refine wpAnyH_ready (rs := [8]) (by kernel_rfl) (by simp) ?_
      refine AllReadyH.cons (o := { dst := some 44, op := Op.call { callee := Callee.value (Operand.func 92), args := #[Operand.tmp 43], argTypes := #[3] }, type := 9, pos := "writer.go:49", after := #[{ on := 7, ground := Ground.data }], guard := none }) rfl (fun K hK => ?_) AllReadyH.nil
      go_simp
      refine (HTM.out _).mono ?_
      rintro e u1 ⟨rfl, hu1⟩
      subst u1
      go_wp2_with fail
      refine hK.out _ _ (fun _ => rfl) (fun hh => ?_)
      clear hK K hHeld
      have hHeld := hh
      clear hh
      try simp only [Act.put, List.setIfInBounds_toArray, List.set_cons_zero, List.set_cons_succ]
      refine wpAnyH_ready (rs := [10]) (by kernel_rfl) (by simp) ?_
      refine AllReadyH.cons (o := { dst := some 46, op := Op.call { callee := Callee.value (Operand.func 121), args := #[Operand.tmp 39, Operand.tmp 44, Operand.tmp 45], argTypes := #[25, 9, 54] }, type := 26, pos := "writer.go:49", after := #[{ on := 3, ground := Ground.data }, { on := 8, ground := Ground.data }, { on := 9, ground := Ground.data }, { on := 8, ground := Ground.chain }], guard := none }) rfl (fun K hK => ?_) AllReadyH.nil
      go_simp
      refine HAPP.out.mono ?_
      rintro e w4 ⟨rfl, P', hS4, hK4, hP4⟩
      have HS4 := hid (And.intro hS4 (And.intro hK4 hP4))
      have HC4 : Hid (∀ o, w4.cell? ⟨g, o, none⟩ = w3.cell? ⟨g, o, none⟩) := fun o => hK4.cell (p := ⟨g, o, none⟩) hg3 hg
      clear hS4 hK4 hP4
      go_wp2_with fail
      refine hK.out _ _ (HC4.out) (fun hh => ?_)
      clear hK K hHeld
      have hHeld := hh
      clear hh
      try simp only [Act.put, List.setIfInBounds_toArray, List.set_cons_zero, List.set_cons_succ]
      refine wpAnyH_take (i := 11) (oi := { dst := some 9, op := Op.assign (Operand.tmp 46), type := 26, pos := "writer.go:49", after := #[{ on := 10, ground := Ground.data }, { on := 10, ground := Ground.chain }, { on := 0, ground := Ground.phase }, { on := 1, ground := Ground.phase }, { on := 2, ground := Ground.phase }, { on := 3, ground := Ground.phase }, { on := 4, ground := Ground.phase }, { on := 5, ground := Ground.phase }, { on := 6, ground := Ground.phase }, { on := 7, ground := Ground.phase }, { on := 8, ground := Ground.phase }, { on := 9, ground := Ground.phase }, { on := 10, ground := Ground.phase }], guard := none }) (v := .int .i64 (FA : Int)) rfl (by kernel_rfl) (by kernel_rfl) (by kernel_rfl) (fun _ _ _ h => h) (Or.inl ⟨by rfl, fun w' hw' => by (clear hw'; go_simp)⟩) hHeld ?_
      simp only [Act.put, List.setIfInBounds_toArray, List.set_cons_zero, List.set_cons_succ]
      refine wpAnyH_done (by kernel_rfl) ?_ _
      have hg4 : g < w4.heap.size := by have := HS4.out.2.1.size; have e : w3.drew.heap.size = w3.heap.size := rfl; omega
      have HW4 : Hid (WrAt w4 g s b i sz ct false) := HW3.out.kp (((Kp.refl (fun x => P x) w3).drew).trans HS4.out.2.1 (fun x hx => .inl hx)) hg
      have HT4 : Hid (TabX w4 b) := HT3.out.kp (((Kp.refl (fun x => P x) w3).drew).trans HS4.out.2.1 (fun x hx => .inl hx)) hb
      have HKW4 : Hid (Kp (fun x => P x ∨ x = b ∨ x = g) w w4) := HKW3.out.trans (((Kp.refl (fun x => P x) w3).drew).trans HS4.out.2.1 (fun x hx => .inl hx)) (fun x hx => .inl (.inl hx))
      have HNP : Hid (¬ P' g) := fun hp => by
        rcases HS4.out.2.2 g hp with h | h
        · exact hg h
        · have e : w3.drew.heap.size = w3.heap.size := rfl
          omega
      have HP5 : Hid (∀ x, P' x → P x ∨ w.heap.size ≤ x) := fun x hx => by
        rcases HS4.out.2.2 x hx with h | h
        · exact .inl h
        · have e : w3.drew.heap.size = w3.heap.size := rfl
          right
          omega
      clear hHeld c0 c2 c3
      by_cases hfa : FA = 0
      · subst hfa
        have d3 : w4.cell? ⟨g, 3, none⟩ = some (.int .i64 (sz : Int)) := HW4.out.cell 3
        have d4 : w4.cell? ⟨g, 4, none⟩ = some (.int .i64 (ct : Int)) := HW4.out.cell 4
        have f3 : w4.frozen? ⟨g, 3, none⟩ = false := HW4.out.frozen 3
        have f4 : w4.frozen? ⟨g, 4, none⟩ = false := HW4.out.frozen 4
        have hwc : IntKind.i64.wrap ((ct : Int) + 1) = (ct : Int) + 1 := by rw [IntKind.wrap_i64]; omega
        go_wp2_with fail
        go_ret2
        rw [HAF.out, if_pos trivial]
        have hB := (Blk.setCell HW4.out 3 (.int .i64 ((sz : Int) + (X.length : Int)))).setCell 4 (.int .i64 ((ct : Int) + 1))
        have hK : Kp (fun x => x = g) w4 ((w4.setCell ⟨g, 3, none⟩ (.int .i64 ((sz : Int) + (X.length : Int)))).setCell ⟨g, 4, none⟩ (.int .i64 ((ct : Int) + 1))) :=
          Kp.setCell (p := ⟨g, 4, none⟩) (Kp.setCell (p := ⟨g, 3, none⟩) (Kp.refl (fun x => x = g) w4) (.inl rfl) _) (.inl rfl) _
        refine ⟨rfl, ?_, HT4.out.kp hK (fun e => hgb e.symm), P', HS4.out.1.kp hK (fun x hx => by rw [hx]; exact HNP.out), HKW4.out.trans hK (fun x hx => .inl (.inr (.inr hx))), HP5.out⟩
        have e1 : ((sz + X.length : Nat) : Int) = (sz : Int) + (X.length : Int) := by simp
        have e2 : ((ct + 1 : Nat) : Int) = (ct : Int) + 1 := by simp
        show WrAt _ g s b i ((sz + X.length : Nat) : Int) ((ct + 1 : Nat) : Int) false
        rw [e1, e2]
        exact hB
      · have hfa' : ¬ ((FA : Int) = 0) := by omega
        go_wp2_with fail
        go_ret2
        rw [HAF.out, if_neg hfa]
        exact ⟨rfl, HW4.out, HT4.out, P', HS4.out.1, HKW4.out, HP5.out⟩
end Go.Proofs.YthmimipoooemjaaGreatDoor
end
