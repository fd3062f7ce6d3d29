/- Of the proof: the texts FrTake, FrRange, FrScanM, FrTellR, FrTells, one behind the other. -/
import Derived.Test.YtkekajmmcjacgaaGreatDoorB8
import Derived.RangeFuncNested
import Derived.RangeFuncBound
import Derived.RangeFuncCalls
import Derived.RangeFuncLeaves
import Derived.Shelf.Abstract
import Derived.Shelf.RegionOpen
import Derived.OwnWalkIn
import Derived.TacticsInMore
import Derived.LoopNIn
import Derived.LoopIn
import Derived.Test.YtkekajmmcjacgaaGreatDoorB7
import Derived.Deep.RegionHeld3
section
/-
  What Take answers.
-/
namespace Go.Proofs.YtkekajmmcjacgaaGreatDoor
open Go.RowKit
open Tlv (Tr BySlS AgreeS Agree)
open Crc (hid Kept Tab)

/-- What Take leaves: the record in new memory; of the old the table alone may have turned. -/
def Took (w w' : World) (b : Nat) (e : Ending) (x : Int × (Int × List Int × List Int) × Nat) : Prop :=
  ∃ a c, e = .returned (.tuple #[.agg (recA x.2.1.1 x.2.1.2.1 (.slice a x.2.1.2.2.length c)).toArray, .int .i64 (x.2.2 : Nat), .int .i64 x.1]) ∧
    BySlS (fun g => w.heap.size ≤ g ∧ g < w'.heap.size) w' (.slice a x.2.1.2.2.length c) x.2.1.2.2 ∧ (x.2.1.2.1.length = 32 ∧ ∀ y ∈ x.2.1.2.1, 0 ≤ y ∧ y ≤ 255) ∧ Kept b w w' ∧ TabX w' b

theorem took_none (w w' : World) (f : Int) (b : Nat) (hk : Kept b w w') (ht : TabX w' b) : Took w w' b (.returned (.tuple #[.agg zRec.toArray, .int .i64 0, .int .i64 f])) (noRec f) := by
  refine ⟨none, 0, rfl, Tlv.BySlS.none _ _, ⟨by simp [noRec], ?_⟩, hk, ht⟩
  intro y hy
  rw [(List.mem_replicate.1 hy).2]
  omega

theorem Kept.then {b : Nat} {w W V : World} (h : Kept b w W) (k : Below w.heap.size W V) : Kept b w V :=
  ⟨k.os.trans h.os, k.tape.trans h.tape, k.output.trans h.output, Nat.le_trans h.size k.size, fun i hi hb => (k.block i hi).trans (h.block i hi hb)⟩
theorem setCells_block (w : World) (g o k : Nat) (cs : List Value) (h : k ≠ g) : (w.setCells g o cs).heap[k]? = w.heap[k]? := by
  induction cs generalizing w o with
  | nil => rfl
  | cons c cs ih => rw [World.setCells, ih]; exact Below.heap_setCell _ _ _ _ (by omega)
theorem Kept.set {b : Nat} {u w : World} {g o : Nat} {cs : List Value} (hg : u.heap.size ≤ g ∧ b < u.heap.size) (h : Kept b u w) : Kept b u (w.setCells g o cs) :=
  Kept.then h (setCells_below hg.1 _ _ _)
theorem TabX.set {b g o : Nat} {u w : World} {cs : List Value} (h : TabX w b) (hg : u.heap.size ≤ g ∧ b < u.heap.size) : TabX (w.setCells g o cs) b := by
  obtain ⟨f, n, hf, ht⟩ := h
  have hb := setCells_below (B := u.heap.size) hg.1 w o cs
  refine ⟨f, n, hf, ?_⟩
  obtain ⟨h1, h2, h3, h4, h5, h6, h7⟩ := ht
  have c : ∀ j, (w.setCells g o cs).cell? ⟨b, j, none⟩ = w.cell? ⟨b, j, none⟩ := fun j => hb.cell (p := ⟨b, j, none⟩) hg.2
  refine ⟨by rw [setCells_size]; exact h1, (c _).trans h2, (c _).trans h3, (c _).trans h4, fun j hj => ?_, fun e j hj => (c _).trans (h6 e j hj), fun j => (hb.frozen (p := ⟨b, j, none⟩) hg.2).trans (h7 j)⟩
  obtain ⟨x, hx⟩ := h5 j hj
  exact ⟨x, (c _).trans hx⟩

theorem tail4 {xs : List Int} {m : Nat} (h : 4 ≤ xs.length - m) : ∃ y0 y1 y2 y3 : Nat, nats ((xs.drop m).take 4) = [y0, y1, y2, y3] := by
  have hl : (nats ((xs.drop m).take 4)).length = 4 := by rw [nats_length, List.length_take, List.length_drop]; omega
  match hq : nats ((xs.drop m).take 4), hl with
  | [y0, y1, y2, y3], _ => exact ⟨y0, y1, y2, y3, rfl⟩

theorem bySlS_take {S : Nat → Prop} {w : World} {a : Option Addr} {cap E : Nat} {xs : List Int} (h : BySlS S w (.slice a xs.length cap) xs) (hE : E ≤ xs.length) : BySlS S w (.slice a E cap) (xs.take E) := by
  obtain ⟨a', cap', e, h2, h3, h4, h5, h6, h7⟩ := h
  simp only [Value.slice.injEq, true_and] at e
  obtain ⟨rfl, rfl⟩ := e
  have hl : (xs.take E).length = E := by rw [List.length_take]; omega
  refine ⟨a, cap, by rw [hl], by rw [hl]; omega, h3, fun e => ⟨by rw [(h4 e).1]; simp, (h4 e).2⟩, by rw [hl]; omega, fun x hx => h6 x (List.mem_of_mem_take hx), fun hne => ?_⟩
  obtain ⟨b, o, e, hS, hc⟩ := h7 (fun e => hne (by rw [e]; simp))
  refine ⟨b, o, e, hS, fun i hi => ?_⟩
  rw [hl] at hi
  rw [hc i (by omega)]
  simp [List.getElem?_take_of_lt hi]

set_option maxHeartbeats 4000000 in
set_option maxRecDepth 100000 in
theorem take_any (b : Nat) (v : Value) (xs : List Int) (w : World) (hT : TabX w b) (h : BySlS (fun g => g ≠ b ∧ g < w.heap.size) w v xs) :
    Calls Tryz.prog 144 #[.pointer (some ⟨b, 0, none⟩), v] w fun e w' => Took w w' b e (takeF xs) := by
  obtain ⟨a, cap, rfl, h2, h3, _, h5, h6, _⟩ := id h
  have H := hid h
  have HT := hid hT
  have hbw := hT.lt
  have HX := hid h6
  clear h hT h6
  have hz := zero35
  obtain ⟨Z, hZ⟩ : ∃ Z, zRec = Z := ⟨_, rfl⟩
  have HZ := hid hZ
  rw [hZ] at hz
  clear hZ
  have HZS : Hid (Z.toArray.size = 34) := by rw [← HZ.out]; rfl
  have HI2 : Hid ((Tryz.prog.info? 52).map (·.size) = some Z.toArray.size) := by rw [← HZ.out]; exact Tryz.info35
  have H1 : Hid (Z.toArray.all (·.oneCell') = true) := by rw [← HZ.out]; exact all_oneCell_toArray zRec_one
  have HZB : Hid (w.heap.size ≤ w.heap.size ∧ b < w.heap.size) := ⟨Nat.le_refl _, hbw⟩
  have k0 : Below w.heap.size w (w.alloc (.cells Z.toArray 52)) := (Below.refl _ _).alloc (Nat.le_refl _) _
  have HTH : Hid (World.there (w.alloc (.cells Z.toArray 52)) w.heap.size 0 34) := by
    have h := there_new w Z 52
    rw [show Z.length = 34 from HZS.out] at h
    exact h
  have HK0 := hid k0
  have hz0 : w.heap.size < (w.alloc (.cells Z.toArray 52)).heap.size := by simp
  go_enter Tryz.func144, Tryz.ntmps144
  go_wp2_with fail
  obtain ⟨W0, hW0⟩ : ∃ W0, w.alloc (.cells Z.toArray 52) = W0 := ⟨_, rfl⟩
  rw [hW0] at HTH HK0 hz0
  rw [hW0]
  clear hW0 k0
  have HB0 := hid (BySlS.below H.out HK0.out (fun g hg => hg.2))
  refine (first_any _ xs W0 (HB0.out.to (fun g hg => Nat.lt_of_lt_of_le hg.2 HK0.out.size))).mono ?_
  rintro e w1 ⟨hres, hb1⟩
  have HB1 : Hid (Below w.heap.size w w1) := HK0.out.trans (hb1.mono HK0.out.size)
  have HT1 := hid (there_below HTH.out hb1 hz0)
  have hz1 : w.heap.size < w1.heap.size := Nat.lt_of_lt_of_le hz0 hb1.size
  have hzz : W0.heap.size ≤ w1.heap.size := hb1.size
  have HBX := hid hb1
  clear hb1
  rcases hres with ⟨hn, x, y, a1, l1, c1, a2, l2, c2, sz, rfl⟩ | ⟨t, m, a1, l1, c1, a2, l2, c2, hs, rfl, hr⟩
  · have HE := hid (takeF_none hn)
    clear hn
    have HV : Hid (World.there (w1.alloc (.cells #[.int .i64 x, .int .u64 y, .slice a1 l1 c1, .slice a2 l2 c2] 218)) w.heap.size 0 Z.toArray.size) := by
      rw [Hid, HZS.out]
      exact there_below HT1.out ((Below.refl _ _).alloc (Nat.le_refl _) _) hz1
    have HKV : Hid (Kept b w (w1.alloc (.cells #[.int .i64 x, .int .u64 y, .slice a1 l1 c1, .slice a2 l2 c2] 218))) := (Kept.below HB1.out).alloc _
    have HTV : Hid (TabX (w1.alloc (.cells #[.int .i64 x, .int .u64 y, .slice a1 l1 c1, .slice a2 l2 c2] 218)) b) := (HT.out.below HB1.out).below ((Below.refl _ _).alloc (Nat.le_refl _) _)
    go_wp2_with (refine wpList_store_mid (by rfl) 52 _ _ (by rfl) w.heap.size 0 Z.toArray (by rfl) (by rfl) HV.out HI2.out H1.out ?_)
    have hr : World.rangeAt (World.setCells (w1.alloc (.cells #[.int .i64 x, .int .u64 y, .slice a1 l1 c1, .slice a2 l2 c2] 218)) w.heap.size 0 Z) w.heap.size 0 Z := World.rangeAt_setCells_same _ _ _ _ HV.out
    refine bodyPost_ret (v := .tuple #[.agg Z.toArray, .int .i64 0, .int .i64 16]) (results_cell_mid3 Tryz.results144 _ _ w.heap.size 0 _ _ rfl hr Tryz.underlying52 rfl HI2.out) rfl ?_
    rw [HE.out, ← HZ.out]
    exact took_none w _ 16 b (Kept.set HZB.out HKV.out) (HTV.out.set HZB.out)
  · have HE := hid (takeF_some hs)
    have HM := hid (rd_end hs)
    have hm := Tlv.rd_pos hs
    have HBZ : Hid ((Tlv.bsz 9 t 65535 8).2 = true) := (Tlv.rd_form 8 xs t m HX.out hs).2
    have HML : Hid (m ≤ 65538) := by
      have h1 := (Tlv.rd_form 8 xs t m HX.out hs)
      have h3 : (Tlv.formOf 9 t).length = (xs.take m).length := congrArg List.length h1.1
      have h4 : ((Tlv.bodyOf 9 t).length : Int) ≤ 65535 := (Tlv.Rt.facts ⟨8, h1.2⟩).2.1
      have h5 : (Tlv.formOf 9 t).length = 3 + (Tlv.bodyOf 9 t).length := by simp [Tlv.formOf]; omega
      rw [List.length_take] at h3
      rw [Hid]
      omega
    have HRP := hid hr
    clear hs hr
    have hm64 : (m : Int) ≤ 9223372036854775807 := by have := HML.out; omega
    have hsub : wrap64 ((xs.length : Int) - m) = (xs.length : Int) - m := IntWalk.wrap64_in _ ⟨by omega, by omega⟩
    by_cases h4 : xs.length - m < 4
    · have h4' : (xs.length : Int) - m < 4 := by omega
      have HE2 : Hid (takeF xs = noRec 16) := by rw [Hid, HE.out, if_pos h4]
      have HV : Hid (World.there (w1.alloc (.cells #[.int .i64 t.hd.1, .int .u64 t.hd.2.1, .slice a1 l1 c1, .slice a2 l2 c2] 218)) w.heap.size 0 Z.toArray.size) := by
        rw [Hid, HZS.out]
        exact there_below HT1.out ((Below.refl _ _).alloc (Nat.le_refl _) _) hz1
      have HKV : Hid (Kept b w (w1.alloc (.cells #[.int .i64 t.hd.1, .int .u64 t.hd.2.1, .slice a1 l1 c1, .slice a2 l2 c2] 218))) := (Kept.below HB1.out).alloc _
      have HTV : Hid (TabX (w1.alloc (.cells #[.int .i64 t.hd.1, .int .u64 t.hd.2.1, .slice a1 l1 c1, .slice a2 l2 c2] 218)) b) := (HT.out.below HB1.out).below ((Below.refl _ _).alloc (Nat.le_refl _) _)
      clear h4 HE
      go_wp2_with (refine wpList_store_mid (by rfl) 52 _ _ (by rfl) w.heap.size 0 Z.toArray (by rfl) (by rfl) HV.out HI2.out H1.out ?_)
      have hr : World.rangeAt (World.setCells (w1.alloc (.cells #[.int .i64 t.hd.1, .int .u64 t.hd.2.1, .slice a1 l1 c1, .slice a2 l2 c2] 218)) w.heap.size 0 Z) w.heap.size 0 Z := World.rangeAt_setCells_same _ _ _ _ HV.out
      refine bodyPost_ret (v := .tuple #[.agg Z.toArray, .int .i64 0, .int .i64 16]) (results_cell_mid3 Tryz.results144 _ _ w.heap.size 0 _ _ rfl hr Tryz.underlying52 rfl HI2.out) rfl ?_
      rw [HE2.out, ← HZ.out]
      exact took_none w _ 16 b (Kept.set HZB.out HKV.out) (HTV.out.set HZB.out)
    · have h4' : (4 : Int) ≤ (xs.length : Int) - m := by omega
      have h4n : m + 4 ≤ xs.length := by omega
      have h4c : m + 4 ≤ cap := by omega
      obtain ⟨V, hV⟩ : ∃ V, w1.alloc (.cells #[.int .i64 t.hd.1, .int .u64 t.hd.2.1, .slice a1 l1 c1, .slice a2 l2 c2] 218) = V := ⟨_, rfl⟩
      have kV : Below w1.heap.size w1 V := by rw [← hV]; exact (Below.refl _ _).alloc (Nat.le_refl _) _
      have HBOX : Hid (∀ j u, (#[.int .i64 t.hd.1, .int .u64 t.hd.2.1, .slice a1 l1 c1, .slice a2 l2 c2] : Array Value)[j]? = some u → V.cell? ⟨w1.heap.size, j, none⟩ = some u) := fun j u hj => by
        rw [← hV, World.cell?_alloc_at _ _ _ _ rfl, hj]
      have hzV : w1.heap.size < V.heap.size := by rw [← hV]; simp
      have HKV : Hid (Below w.heap.size w V) := HB1.out.trans (kV.mono HB1.out.size)
      have HTV := hid (there_below HT1.out kV hz1)
      have HRV : Hid (Tlv.Rep W0.heap.size w1.heap.size V 9 t (.slice a1 l1 c1) (.slice a2 l2 c2)) := HRP.out.agree (Agree.below kV) (Nat.le_refl _) (Nat.le_refl _)
      obtain ⟨y0, y1, y2, y3, hy⟩ := tail4 (xs := xs) (m := m) (by omega)
      have HY := hid hy
      have HTK : Hid (nats (xs.take (m + 4)) = nats (xs.take m) ++ [y0, y1, y2, y3]) := by rw [Hid, ← hy, ← nats_append, List.take_add]
      clear hy kV h4
      have HCB : Hid (Crc.BySl b V (.slice a (m + 4) cap) (nats (xs.take m) ++ [y0, y1, y2, y3])) := by
        rw [Hid, ← HTK.out]
        exact toCrc (bySlS_take (BySlS.below H.out HKV.out (fun g hg => hg.2)) h4n) (fun g hg => ⟨hg.1, Nat.lt_of_lt_of_le hg.2 HKV.out.size⟩)
      obtain ⟨f, n, hf, ht⟩ := HT.out.below HKV.out
      have HOP := hid (Crc.open_any b f n (.slice a (m + 4) cap) (nats (xs.take m)) y0 y1 y2 y3 V hf ht HCB.out (by have := HML.out; rw [nats_length, List.length_take]; omega))
      clear ht hf HCB
      go_wp2_with fail
      refine HOP.out.mono ?_
      rintro e w2 ⟨hk2, ht2, v', q, rfl, hq⟩
      have HK2 : Hid (Kept b w w2) := (Kept.below HKV.out).trans hk2
      have HT2 : Hid (TabX w2 b) := TabX.of ht2
      have hbV : w.heap.size < V.heap.size := by omega
      have HH2 := hid (there_kept HTV.out hk2 hbV (by omega))
      have HHZ : Hid (w2.there w.heap.size 0 Z.toArray.size) := by rw [Hid, HZS.out]; exact HH2.out
      have hcb := fun j u hj => (hk2.cell (p := ⟨w1.heap.size, j, none⟩) hzV (by simp; omega)).trans (HBOX.out j u hj)
      have b0 := hcb 0 _ rfl
      have b1 := hcb 1 _ rfl
      have b2 := hcb 2 _ rfl
      have b3 := hcb 3 _ rfl
      have HR2 : Hid (Tlv.Rep W0.heap.size w1.heap.size w2 9 t (.slice a1 l1 c1) (.slice a2 l2 c2)) := HRV.out.agree (fun k h1 h2 => hk2.block k (by omega) (by omega)) (Nat.le_refl _) (Nat.le_refl _)
      have hz2 : V.heap.size ≤ w2.heap.size := hk2.size
      clear hk2 ht2 hcb HOP
      rcases hq with ⟨heq, rfl, hv⟩ | ⟨hne, rfl, rfl⟩
      rotate_left
      · have HE2 : Hid (takeF xs = noRec 4) := by
          rw [Hid, HE.out, if_neg (by omega), if_pos]
          intro hc
          apply hne
          rw [← HY.out, ← hc, sumI, nats_ints]
        clear hne HE
        go_wp2_with (refine wpList_store_mid (by rfl) 52 _ _ (by rfl) w.heap.size 0 Z.toArray (by rfl) (by rfl) HHZ.out HI2.out H1.out ?_)
        have hr : World.rangeAt (World.setCells w2 w.heap.size 0 Z) w.heap.size 0 Z := World.rangeAt_setCells_same _ _ _ _ HHZ.out
        refine bodyPost_ret (v := .tuple #[.agg Z.toArray, .int .i64 0, .int .i64 4]) (results_cell_mid3 Tryz.results144 _ _ w.heap.size 0 _ _ rfl hr Tryz.underlying52 rfl HI2.out) rfl ?_
        rw [HE2.out, ← HZ.out]
        exact took_none w _ 4 b (Kept.set HZB.out HK2.out) (HT2.out.set HZB.out)
      · have HE2 : Hid (takeF xs = match recOf t with
            | none => noRec 3
            | some r => (0, r, m + 4)) := by
          have hc : ¬ sumI (xs.take m) ≠ (xs.drop m).take 4 := by
            intro hc
            apply hc
            rw [sumI, heq, ← HY.out, ints_nats]
            intro x hx
            exact HX.out x (List.mem_of_mem_drop (List.mem_of_mem_take hx))
          rw [Hid, HE.out, if_neg (by omega), if_neg hc]
          cases recOf t <;> rfl
        obtain ⟨av, cv, rfl, _⟩ := id hv
        clear heq HE hv
        go_wp2_with fail
        refine (record_any t _ _ W0.heap.size w1.heap.size w2 HR2.out (by omega) HBZ.out).mono ?_
        rintro e w3 ⟨hres, hb3⟩
        have HK3 : Hid (Kept b w w3) := Kept.then HK2.out (hb3.mono (by omega))
        have HT3 := hid (HT2.out.below hb3)
        have HH3 := hid (there_below HH2.out hb3 (by omega))
        have hz3 : w2.heap.size ≤ w3.heap.size := hb3.size
        clear hb3
        rcases hres with ⟨hn, rfl⟩ | ⟨k, nm, bs, ar, cr, hs, rfl, hbs, hnl, hnx⟩
        · have HE3 : Hid (takeF xs = noRec 3) := by rw [Hid, HE2.out, hn]
          have HHZ3 : Hid (w3.there w.heap.size 0 Z.toArray.size) := by rw [Hid, HZS.out]; exact HH3.out
          have HHZ4 : Hid (World.there (w3.setCells w.heap.size 0 Z) w.heap.size 0 Z.toArray.size) := World.there_setCells HHZ3.out _ _ _
          have HK4 : Hid (Kept b w (w3.setCells w.heap.size 0 Z)) := Kept.set HZB.out HK3.out
          have HT4 : Hid (TabX (w3.setCells w.heap.size 0 Z) b) := HT3.out.set HZB.out
          clear hn HE2
          rw [HZ.out]
          go_wp2_with (first
            | (refine wpList_store_mid (by rfl) 52 _ _ (by rfl) w.heap.size 0 Z.toArray (by rfl) (by rfl) HHZ3.out HI2.out H1.out ?_)
            | (refine wpList_store_mid (by rfl) 52 _ _ (by rfl) w.heap.size 0 Z.toArray (by rfl) (by rfl) HHZ4.out HI2.out H1.out ?_))
          have hr : World.rangeAt (World.setCells (w3.setCells w.heap.size 0 Z) w.heap.size 0 Z) w.heap.size 0 Z := World.rangeAt_setCells_same _ _ _ _ HHZ4.out
          refine bodyPost_ret (v := .tuple #[.agg Z.toArray, .int .i64 0, .int .i64 3]) (results_cell_mid3 Tryz.results144 _ _ w.heap.size 0 _ _ rfl hr Tryz.underlying52 rfl HI2.out) rfl ?_
          rw [HE3.out, ← HZ.out]
          rw [← HZ.out] at HK4 HT4
          exact took_none w _ 3 b (Kept.set HZB.out HK4.out) (HT4.out.set HZB.out)
        · have HE3 : Hid (takeF xs = (0, (k, nm, bs), m + 4)) := by rw [Hid, HE2.out, hs]
          have HBS := hid hbs
          have HNX := hid (And.intro hnl hnx)
          have HCL := hid (recA_length k nm (.slice ar bs.length cr) hnl)
          have HCO := hid (recA_one k nm ar bs.length cr)
          clear hs HE2 hbs hnl hnx
          obtain ⟨C, hC⟩ : ∃ C, recA k nm (.slice ar bs.length cr) = C := ⟨_, rfl⟩
          rw [hC] at HCL HCO
          rw [hC]
          have HC := hid hC
          clear hC
          have HCS : Hid (C.toArray.size = 34) := HCL.out
          have HHZ3 : Hid (w3.there w.heap.size 0 C.toArray.size) := by rw [Hid, HCS.out]; exact HH3.out
          have HHZ4 : Hid (World.there (w3.setCells w.heap.size 0 C) w.heap.size 0 C.toArray.size) := World.there_setCells HHZ3.out _ _ _
          have HRG : Hid (World.rangeAt (w3.setCells w.heap.size 0 C) w.heap.size 0 C) := World.rangeAt_setCells_same _ _ _ _ HHZ3.out
          have HIC : Hid ((Tryz.prog.info? 52).map (·.size) = some C.length) := by rw [Hid, HCL.out]; exact Tryz.info35
          have HI3 : Hid ((Tryz.prog.info? 52).map (·.size) = some C.toArray.size) := HIC.out
          have H3 : Hid (C.toArray.all (·.oneCell') = true) := all_oneCell_toArray HCO.out
          go_wp2_with (first
            | (refine wpList_load_mid (by rfl) 52 _ (by rfl) w.heap.size 0 (by rfl) C _ HRG.out Tryz.underlying52 rfl HIC.out ?_)
            | (refine wpList_store_mid (by rfl) 52 _ _ (by rfl) w.heap.size 0 C.toArray (by rfl) (by rfl) HHZ3.out HI3.out H3.out ?_)
            | (refine wpList_store_mid (by rfl) 52 _ _ (by rfl) w.heap.size 0 C.toArray (by rfl) (by rfl) HHZ4.out HI3.out H3.out ?_))
          have hr : World.rangeAt (World.setCells (w3.setCells w.heap.size 0 C) w.heap.size 0 C) w.heap.size 0 C := World.rangeAt_setCells_same _ _ _ _ HHZ4.out
          refine bodyPost_ret (v := .tuple #[.agg C.toArray, .int .i64 ((m + 4 : Nat) : Int), .int .i64 0]) (results_cell_mid3 Tryz.results144 _ _ w.heap.size 0 _ _ rfl hr Tryz.underlying52 rfl HI3.out) rfl ?_
          rw [HE3.out]
          refine ⟨ar, cr, by rw [HC.out], ?_, HNX.out, Kept.set HZB.out (Kept.set HZB.out HK3.out), (HT3.out.set HZB.out).set HZB.out⟩
          have hblk : ∀ g, W0.heap.size ≤ g → (World.setCells (w3.setCells w.heap.size 0 C) w.heap.size 0 C).heap[g]? = w3.heap[g]? := fun g hg => by
            rw [setCells_block _ _ _ _ _ (by omega), setCells_block _ _ _ _ _ (by omega)]
          refine HBS.out.toS.agree (fun g hg => hblk g hg.1) (fun g hg => ⟨by omega, ?_⟩)
          rw [setCells_size, setCells_size]
          omega
end Go.Proofs.YtkekajmmcjacgaaGreatDoor
end

section
/-
  A range over a function that itself writes one block and hands out memory that it has made: the caller's law.
-/
namespace Go.Proofs.YtkekajmmcjacgaaGreatDoor
open Go.RowKit
open Tlv (Tr BySlS AgreeS Agree)
open Crc (hid Kept Tab)

/-- The blocks below B, b left out, hold what they held. -/
structure KeptTo (B b : Nat) (U V : World) : Prop where
  os : V.os = U.os
  tape : V.tape = U.tape
  output : V.output = U.output
  size : U.heap.size ≤ V.heap.size
  block : ∀ k, k < B → k ≠ b → V.heap[k]? = U.heap[k]?

theorem KeptTo.of_below {B b : Nat} {U V : World} (h : Below B U V) : KeptTo B b U V := ⟨h.os, h.tape, h.output, h.size, fun k hk _ => h.block k hk⟩
theorem KeptTo.of_kept {B b : Nat} {U V : World} (h : Kept b U V) (hB : B ≤ U.heap.size) : KeptTo B b U V := ⟨h.os, h.tape, h.output, h.size, fun k hk hb => h.block k (by omega) hb⟩

theorem put_below {B l : Nat} (W : World) (o : Obj) (h : B ≤ l) (hl : l < W.heap.size) : Below B W (W.putObj l o) :=
  (Below.refl B W).grown (grownBy_putObj' W l o) (by omega) (fun k e => by cases e; omega)

/-- The record of a loop, in a block from B on, is put anew; all else stands. -/
structure Putl (B : Nat) (U W : World) : Prop where
  os : W.os = U.os
  tape : W.tape = U.tape
  output : W.output = U.output
  size : W.heap.size = U.heap.size
  at' : ∃ l lp, B ≤ l ∧ U.heap[l]? = some (.loop lp) ∧ ∀ i, i ≠ l → W.heap[i]? = U.heap[i]?

theorem Putl.below {B : Nat} {U W : World} (h : Putl B U W) : Below B U W := by
  obtain ⟨l, lp, h1, h2, h3⟩ := h.at'
  exact ⟨h.os, h.tape, h.output, by have := h.size; omega, fun k hk => h3 k (by omega)⟩
/-- Cells stand. -/
theorem Putl.block {B : Nat} {U W : World} (h : Putl B U W) {g : Nat} {cs : Array Value} {t : TypeId} {fr : Nat × Nat} (hg : U.heap[g]? = some (.cells cs t fr)) : W.heap[g]? = some (.cells cs t fr) := by
  obtain ⟨l, lp, h1, h2, h3⟩ := h.at'
  rw [h3 g (fun e => by rw [e, h2] at hg; cases hg)]
  exact hg
theorem Putl.cell {B : Nat} {U W : World} (h : Putl B U W) {g o : Nat} {v : Value} (hc : U.cell? ⟨g, o, none⟩ = some v) : W.cell? ⟨g, o, none⟩ = some v := by
  obtain ⟨l, lp, h1, h2, h3⟩ := h.at'
  rw [World.cell?_of_block (w := U) (a := ⟨g, o, none⟩) (h3 g (fun e => by
    rw [e] at hc
    simp [World.cell?, h2] at hc))]
  exact hc

/-- What an iterator that may write block b, and no other that was there, tells: in round k values as V says, in memory from m on, where the caller had none yet; N rounds. T: what it asks of the world, and leaves. -/
def Tells (n gf : Nat) (lb : Array Value) (b : Nat) (T : World → Prop) (V : Nat → Nat → Array Value → World → Prop) (N : Nat) : Prop :=
  ∀ (l : Nat) (J : Nat → Nat → World → Prop) (Jx : Nat → World → Prop) (W : World), T W → (∀ k m U W', J k m U → T W' → Kept b U W' → J k m W') →
    (∀ k m U vs, k < N → m ≤ U.heap.size → J k m U → T U → V k m vs U → YieldAt Fence.wide (n - 1) Tryz.prog l vs U fun e W' => (e = .returned (.bool true) ∧ J (k + 1) W'.heap.size W' ∧ T W') ∨ (e = .returned (.bool false) ∧ Jx (k + 1) W')) →
    J 0 W.heap.size W →
    CallsIn Fence.wide n Tryz.prog gf (#[.func (.yield l) #[] #[]] ++ lb) W fun e W' => (∃ v, e = .returned v) ∧ ((∃ m, J N m W' ∧ T W') ∨ ∃ k, k ≤ N ∧ Jx k W')

/-- How the body of a round may be left: k rounds have come, this one with them. -/
def roundEnds (B : Nat) (T : World → Prop) (I : Nat → Nat → World → Prop) (Ix : Code → Nat → World → Prop) (k : Nat) (W : World) : Exit → Act → World → Prop
  | .normal, _, V => KeepsFrom B W V ∧ I k V.heap.size V ∧ T V
  | .ret, _, V => KeepsFrom B W V ∧ Ix .ret k V
  | .exit id, _, V => KeepsFrom B W V ∧ Ix (.exit id) k V
  | _, _, _ => False

theorem over_func {g : Operand} {ps : Array Tmp} {assign body : Code} {Q : Exit → Act → World → Prop} {a : Act} {w : World} {n gf : Nat} {lb : Array Value}
    (hg : a.eval g = .func (.func gf) #[] lb) (eg : ∀ args w, (callFunc gf args).run Tryz.prog w = .ok (.enter gf args) w)
    {b : Nat} {T : World → Prop} {V : Nat → Nat → Array Value → World → Prop} {N : Nat} (hseq : Tells (n - 1) gf lb b T V N) (hps : ∀ k m vs U, V k m vs U → vs.size = ps.size)
    (hb : b < w.heap.size) (hT : ∀ U W, T U → Below w.heap.size U W → T W) (hT0 : T w)
    (I : Nat → Nat → World → Prop) (Ix : Code → Nat → World → Prop) (hIk : ∀ k m U W, I k m U → T W → Kept b U W → I k m W) (hI : ∀ k m U W, I k m U → Putl w.heap.size U W → I k m W)
    (hIx : ∀ c k U W, Ix c k U → Putl w.heap.size U W → Ix c k W)
    (h0 : ∀ W, Below w.heap.size w W → W.heap.size = w.heap.size + 2 → I 0 W.heap.size W)
    (asg : Array Value → World → World) (hasg : ∀ vs W, Below W.heap.size W (asg vs W)) (hVa : ∀ k m vs U, V k m vs U → V k m vs (asg vs U)) (hIa : ∀ k m vs U, V k m vs U → I k m U → I k m (asg vs U)) (a₁ : Nat → Array Value → World → Act)
    (hV : ∀ k m vs U W, V k m vs U → Putl w.heap.size U W → V k m vs W)
    (hassign : ∀ (l k m : Nat) (vs : Array Value) (W : World) (K : Act → World → Prop), k < N → V k m vs W → K (a₁ k vs W) (asg vs W) →
      assign.wpIn (Fence.wide.inRound l) (n - 1 - 1) Tryz.prog (Exit.then K (fun _ _ _ => False)) { tmps := (ps.zip vs).foldl (fun t (p, v) => t.setIfInBounds p v) a.tmps, defers := [] } W)
    (hbody : ∀ (l k m : Nat) (vs : Array Value) (U W : World), k < N → m ≤ U.heap.size → V k m vs W → I k m W → T W → W.heap.size = (asg vs U).heap.size → (∀ i, U.heap.size ≤ i → W.heap[i]? = (asg vs U).heap[i]?) → w.heap.size ≤ U.heap.size → body.wpIn (Fence.wide.inRound l) (n - 1 - 1) Tryz.prog (roundEnds w.heap.size T I Ix (k + 1) W) (a₁ k vs U) W)
    (hdone : ∀ (D m : Nat) (W : World), w.heap.size ≤ D → I N m W → T W → W.heap[D]? = some (.deferred (some [])) → Q .normal { a with defers := { target := .collected D, args := #[] } :: a.defers } W)
    (hstop : ∀ (D : Nat) (c : Code) (k : Nat) (W : World), w.heap.size ≤ D → k ≤ N → Ix c k W → W.heap[D]? = some (.deferred (some [])) → c.wpIn Fence.wide n Tryz.prog Q { a with defers := { target := .collected D, args := #[] } :: a.defers } W) :
    (Code.rangeFunc g ps assign body).wpIn Fence.wide n Tryz.prog Q a w := by
  refine wpIn_rangeFunc fun fn hfn => ?_
  -- the record of the loop, by its state and the jump that is pending; it lies in the second of two new blocks
  let rec0 : LoopState → Option Code → Loop := fun st pe => { state := st, pending := pe, fn, tmps := a.tmps, params := ps, assign, body, defers := w.heap.size }
  have hB : ∀ (W : World) (o : Obj) (l : Nat), w.heap.size ≤ l → l < W.heap.size → Below w.heap.size W (W.putObj l o) := fun W o l h1 h2 => put_below W o h1 h2
  let Rec : LoopState → Option Code → World → Prop := fun st pe W => W.heap[w.heap.size + 1]? = some (.loop (rec0 st pe)) ∧ W.heap[w.heap.size]? = some (.deferred (some []))
  have start : Below w.heap.size w ((w.alloc (.deferred (some []))).alloc (.loop (rec0 .ready none))) := ((Below.refl _ w).alloc (Nat.le_refl _) _).alloc (by simp) _
  have r0 : Rec .ready none ((w.alloc (.deferred (some []))).alloc (.loop (rec0 .ready none))) := by
    refine ⟨?_, (Below.heap_alloc _ _ _ (by simp)).trans (World.alloc_heap_new w _)⟩
    have h := World.alloc_heap_new (w.alloc (.deferred (some []))) (.loop (rec0 .ready none))
    rwa [World.size_alloc] at h
  have hlt : ∀ {st pe W}, Rec st pe W → w.heap.size + 1 < W.heap.size := fun h => (Array.getElem?_eq_some_iff.1 h.1).1
  -- the record is put anew
  have put : ∀ {st pe W} (st' : LoopState) (pe' : Option Code), Rec st pe W → Rec st' pe' (W.putObj (w.heap.size + 1) (.loop (rec0 st' pe'))) := fun st' pe' h =>
    ⟨World.putObj_heap_same (hlt h), (World.putObj_heap_other (by omega)).trans h.2⟩
  have keep : ∀ {st pe W V}, Rec st pe W → KeepsFrom w.heap.size W V → Rec st pe V := fun h k => ⟨k.same _ _ (by omega) h.1 rfl, k.same _ _ (Nat.le_refl _) h.2 rfl⟩
  have psz : ∀ (W : World) (o : Obj) (l : Nat), (W.putObj l o).heap.size = W.heap.size := fun W o l => by simp [World.putObj]
  have poth : ∀ (W : World) (o : Obj), ∀ i, i ≠ w.heap.size + 1 → (W.putObj (w.heap.size + 1) o).heap[i]? = W.heap[i]? := fun W o i hi => World.putObj_heap_other (by omega)
  have putI : ∀ {k m st pe W} (st' : LoopState) (pe' : Option Code), Rec st pe W → I k m W → I k m (W.putObj (w.heap.size + 1) (.loop (rec0 st' pe'))) := fun {k m st pe W} st' pe' h hi =>
    hI k m W _ hi ⟨rfl, rfl, rfl, psz _ _ _, w.heap.size + 1, _, by omega, h.1, poth W _⟩
  have putIx : ∀ {c k st pe W} (st' : LoopState) (pe' : Option Code), Rec st pe W → Ix c k W → Ix c k (W.putObj (w.heap.size + 1) (.loop (rec0 st' pe'))) := fun {c k st pe W} st' pe' h hi =>
    hIx c k W _ hi ⟨rfl, rfl, rfl, psz _ _ _, w.heap.size + 1, _, by omega, h.1, poth W _⟩
  refine ⟨w.heap.size + 1, [{ target := .collected w.heap.size, args := #[] }], (w.alloc (.deferred (some []))).alloc (.loop (rec0 .ready none)), { target := .fn (.func gf) lb, args := #[.func (.yield (w.heap.size + 1)) #[] #[]] },
    (w.alloc (.deferred (some []))).alloc (.loop (rec0 .ready none)), gf, #[.func (.yield (w.heap.size + 1)) #[] #[]] ++ lb, (w.alloc (.deferred (some []))).alloc (.loop (rec0 .ready none)), ?_, ?_, fun _ _ => trivial, ?_, fun h => by simp [Fence.wide] at h, ?_⟩
  · exact run_enterLoop_outer _ _ _ _ _
  · simp only [resolve, hg]
    simp [go_sem]
  · simp [invoke, go_sem, eg]
  · refine (hseq (w.heap.size + 1) (fun k m W => I k m W ∧ Rec .ready none W) (fun k W => ∃ c, Ix c k W ∧ Rec .done (some c) W) _ (hT _ _ hT0 start) ?_ ?_ ⟨h0 _ start (by simp), r0⟩).mono ?_
    · -- the iterator writes block b
      rintro k m U W' ⟨hi, hr⟩ hTW hk
      have hs := hlt hr
      exact ⟨hIk k m U W' hi hTW hk, (hk.block _ hs (by omega)).trans hr.1, (hk.block _ (by omega) (by omega)).trans hr.2⟩
    · -- one round
      rintro k m U vs hkN hmU ⟨hi, hr⟩ hTU hVU
      have hs := hlt hr
      have ba := hasg vs U
      have hra : Rec .ready none (asg vs U) := ⟨(ba.block _ hs).trans hr.1, (ba.block _ (by omega)).trans hr.2⟩
      have hsa := hlt hra
      refine ⟨fn, _, assign, body, run_yield (P := Tryz.prog) (args := vs) hr.1 (hps k m vs U hVU), roundIn_of_wpIn hfn (hassign _ k m vs U _ hkN hVU ⟨_, run_beginRound hra.1 rfl, ?_⟩)⟩
      have b1 := hB (asg vs U) (.loop { rec0 .ready none with state := .busy }) _ (by omega) hsa
      have hTa : T (asg vs U) := hT _ _ hTU (ba.mono (by omega))
      have hIa' : I k m (asg vs U) := hIa k m vs U hVU hi
      have hVa' : V k m vs (asg vs U) := hVa k m vs U hVU
      refine wpIn_mono (hbody _ k m vs U _ hkN hmU ?_ (putI .busy none hra hIa') (hT _ _ hTa b1) ?_ ?_ (by omega)) ?_
      · exact hV k m vs _ _ hVa' ⟨rfl, rfl, rfl, psz _ _ _, w.heap.size + 1, _, by omega, hra.1, poth _ _⟩
      · exact psz _ _ _
      · intro i hi
        exact poth _ _ i (by omega)
      have hr1 : Rec .busy none ((asg vs U).putObj (w.heap.size + 1) (.loop { rec0 .ready none with state := .busy })) := put .busy none hra
      have ends : ∀ (jump : Option Code) (V : World), KeepsFrom w.heap.size ((asg vs U).putObj (w.heap.size + 1) (.loop { rec0 .ready none with state := .busy })) V →
          (Instr.endRound (w.heap.size + 1) jump).run Tryz.prog V = .ok (.bool jump.isNone) (V.putObj (w.heap.size + 1) (.loop (rec0 (if jump.isNone then .ready else .done) jump))) ∧
          Rec (if jump.isNone then .ready else .done) jump (V.putObj (w.heap.size + 1) (.loop (rec0 (if jump.isNone then .ready else .done) jump))) ∧ Below w.heap.size V (V.putObj (w.heap.size + 1) (.loop (rec0 (if jump.isNone then .ready else .done) jump))) ∧ Rec .busy none V := fun jump V hk => by
        have hr2 := keep hr1 hk
        exact ⟨run_endRound (P := Tryz.prog) jump hr2.1, put _ _ hr2, hB V _ _ (by omega) (hlt hr2), hr2⟩
      rintro e a3 V hp
      cases e with
      | normal =>
        obtain ⟨hk, hi2, ht2⟩ := hp
        obtain ⟨h1, h2, h3, h4⟩ := ends none V hk
        exact ⟨_, _, h1, .inl ⟨rfl, ⟨by rw [psz]; exact putI _ _ h4 hi2, h2⟩, hT _ _ ht2 h3⟩⟩
      | ret =>
        obtain ⟨hk, hi2⟩ := hp
        obtain ⟨h1, h2, h3, h4⟩ := ends (some .ret) V hk
        exact ⟨_, _, h1, .inr ⟨rfl, .ret, putIx _ _ h4 hi2, h2⟩⟩
      | exit id =>
        obtain ⟨hk, hi2⟩ := hp
        obtain ⟨h1, h2, h3, h4⟩ := ends (some (.exit id)) V hk
        exact ⟨_, _, h1, .inr ⟨rfl, .exit id, putIx _ _ h4 hi2, h2⟩⟩
      | goto t => exact hp.elim
      | panic ch => exact hp.elim
      | outgrown => exact hp.elim
    · -- behind the iterator
      rintro e V ⟨⟨v, rfl⟩, (⟨m, ⟨hi, hr⟩, ht⟩ | ⟨k, hk, c, hi, hr⟩)⟩
      · exact ⟨none, _, run_endLoop (P := Tryz.prog) hr.1 (by simp [rec0]), hdone _ m _ (Nat.le_refl _) (putI .exhausted none hr hi) (hT _ _ ht (hB V _ _ (Nat.le_succ _) (hlt hr))) ((World.putObj_heap_other (by omega)).trans hr.2)⟩
      · exact ⟨some c, _, run_endLoop (P := Tryz.prog) hr.1 (by simp [rec0]), hstop _ c k _ (Nat.le_refl _) hk (putIx .exhausted (some c) hr hi) ((World.putObj_heap_other (by omega)).trans hr.2)⟩

end Go.Proofs.YtkekajmmcjacgaaGreatDoor
end

section
/-
  Plain mathematics: what a scan is told, frame behind frame.
-/
namespace Go.Proofs.YtkekajmmcjacgaaGreatDoor

/-- What is told: where, and what Take answers there. -/
abbrev Item : Type := Nat × (Int × (Int × List Int × List Int) × Nat)

def toldN : Nat → List Int → Nat → List Item
  | 0, _, _ => []
  | k + 1, xs, p => if xs.length ≤ p then [] else (p, takeF (xs.drop p)) :: if (takeF (xs.drop p)).1 = 0 then toldN k xs (p + (takeF (xs.drop p)).2.2) else []

theorem toldN_fuel : ∀ (k m : Nat) (xs : List Int) (p : Nat), xs.length + 1 - p ≤ k → xs.length + 1 - p ≤ m → toldN k xs p = toldN m xs p
  | 0, m, xs, p, h1, h2 => by
    cases m with
    | zero => rfl
    | succ m => rw [toldN, toldN, if_pos (by omega)]
  | k + 1, 0, xs, p, h1, h2 => by rw [toldN, toldN, if_pos (by omega)]
  | k + 1, m + 1, xs, p, h1, h2 => by
    rw [toldN, toldN]
    by_cases h : xs.length ≤ p
    · rw [if_pos h, if_pos h]
    · rw [if_neg h, if_neg h]
      by_cases h0 : (takeF (xs.drop p)).1 = 0
      · have hp := takeF_pos h0
        rw [if_pos h0, if_pos h0, toldN_fuel k m xs _ (by omega) (by omega)]
      · rw [if_neg h0, if_neg h0]

/-- All that is told from p on. -/
def tl (xs : List Int) (p : Nat) : List Item := toldN (xs.length + 1 - p) xs p

theorem tl_end {xs : List Int} {p : Nat} (h : xs.length ≤ p) : tl xs p = [] := by
  rw [tl]
  cases hq : xs.length + 1 - p with
  | zero => rfl
  | succ k => rw [toldN, if_pos h]
theorem tl_bad {xs : List Int} {p : Nat} (h : p < xs.length) (hf : (takeF (xs.drop p)).1 ≠ 0) : tl xs p = [(p, takeF (xs.drop p))] := by
  rw [tl, show xs.length + 1 - p = (xs.length - p) + 1 by omega, toldN, if_neg (by omega), if_neg hf]
theorem tl_good {xs : List Int} {p : Nat} (h : p < xs.length) (hf : (takeF (xs.drop p)).1 = 0) : tl xs p = (p, takeF (xs.drop p)) :: tl xs (p + (takeF (xs.drop p)).2.2) := by
  have hp := takeF_pos hf
  rw [tl, show xs.length + 1 - p = (xs.length - p) + 1 by omega, toldN, if_neg (by omega), if_pos hf, tl, toldN_fuel (xs.length - p) (xs.length + 1 - (p + (takeF (xs.drop p)).2.2)) xs _ (by omega) (by omega)]
theorem tl_head {xs : List Int} {p : Nat} (h : p < xs.length) : ∃ L, tl xs p = (p, takeF (xs.drop p)) :: L ∧ (((takeF (xs.drop p)).1 = 0 ∧ L = tl xs (p + (takeF (xs.drop p)).2.2)) ∨ ((takeF (xs.drop p)).1 ≠ 0 ∧ L = [])) := by
  by_cases hf : (takeF (xs.drop p)).1 = 0
  · exact ⟨_, tl_good h hf, .inl ⟨hf, rfl⟩⟩
  · exact ⟨_, tl_bad h hf, .inr ⟨hf, rfl⟩⟩

/-- The good ones, where the first that is none begins, and the fault there. -/
def scanR : List Item → Nat → List Item × Nat × Int
  | [], p => ([], p, 0)
  | x :: L, _ => if x.2.1 = 0 then (x :: (scanR L (x.1 + x.2.2.2)).1, (scanR L (x.1 + x.2.2.2)).2) else ([], x.1, x.2.1)

def scanF (xs : List Int) : List Item × Nat × Int := scanR (tl xs 0) 0

theorem tl_length_le (xs : List Int) : ∀ (d p : Nat), xs.length - p ≤ d → (tl xs p).length ≤ xs.length - p
  | 0, p, h => by rw [tl_end (by omega)]; simp
  | d + 1, p, h => by
    by_cases hp : xs.length ≤ p
    · rw [tl_end hp]; simp
    · by_cases hf : (takeF (xs.drop p)).1 = 0
      · have hq := takeF_pos hf
        have := tl_length_le xs d (p + (takeF (xs.drop p)).2.2) (by omega)
        rw [tl_good (by omega) hf, List.length_cons]
        omega
      · rw [tl_bad (by omega) hf]; simp; omega

end Go.Proofs.YtkekajmmcjacgaaGreatDoor
end

section
/-
  The iterator of a scan: one round's Take, walked by itself.
-/
namespace Go.Proofs.YtkekajmmcjacgaaGreatDoor
open Go.RowKit
open Tlv (Tr BySlS AgreeS Agree)
open Crc (hid Kept Tab)

/-- What one Take of a scan leaves: the record in a variable of its own at gr. -/
def Tk (W wx : World) (b gr : Nat) (ar : Option Addr) (cr : Nat) (X : Int × (Int × List Int × List Int) × Nat) : Prop :=
  Kept b W wx ∧ TabX wx b ∧ W.heap.size ≤ gr ∧ gr < wx.heap.size ∧ wx.rangeAt gr 0 (recA X.2.1.1 X.2.1.2.1 (.slice ar X.2.1.2.2.length cr)) ∧
    BySlS (fun x => W.heap.size ≤ x ∧ x < wx.heap.size) wx (.slice ar X.2.1.2.2.length cr) X.2.1.2.2 ∧ (X.2.1.2.1.length = 32 ∧ ∀ y ∈ X.2.1.2.1, 0 ≤ y ∧ y ≤ 255)

theorem tk_a {W w1 : World} {b : Nat} {ar : Option Addr} {cr : Nat} {X : Int × (Int × List Int × List Int) × Nat} {Z : List Value} (hZ : Z.length = 34) (hk : Kept b W w1) (ht : TabX w1 b)
    (hby : BySlS (fun x => W.heap.size ≤ x ∧ x < w1.heap.size) w1 (.slice ar X.2.1.2.2.length cr) X.2.1.2.2) (hn : X.2.1.2.1.length = 32 ∧ ∀ y ∈ X.2.1.2.1, 0 ≤ y ∧ y ≤ 255) :
    Tk W ((w1.alloc (.cells Z.toArray 52)).setCells w1.heap.size 0 (recA X.2.1.1 X.2.1.2.1 (.slice ar X.2.1.2.2.length cr))) b w1.heap.size ar cr X := by
  have hz := hk.size
  have ka : Below w1.heap.size w1 (w1.alloc (.cells Z.toArray 52)) := (Below.refl _ _).alloc (Nat.le_refl _) _
  have hb2 := setCells_below (B := w1.heap.size) (Nat.le_refl _) (w1.alloc (.cells Z.toArray 52)) 0 (recA X.2.1.1 X.2.1.2.1 (.slice ar X.2.1.2.2.length cr))
  have hbb := ka.trans hb2
  refine ⟨hk.trans (Kept.below hbb), ht.below hbb, hz, by rw [setCells_size]; simp, ?_, ?_, hn⟩
  · refine World.rangeAt_setCells_same _ _ _ _ ?_
    have h := there_new w1 Z 52
    rwa [hZ, ← recA_length X.2.1.1 X.2.1.2.1 (.slice ar X.2.1.2.2.length cr) hn.1] at h
  · exact BySlS.mono (BySlS.below hby hbb (fun g hg => hg.2)) (fun g hg => ⟨hg.1, by rw [setCells_size]; simp; omega⟩)

theorem tk_b {W W1 w1 : World} {b : Nat} {ar : Option Addr} {cr : Nat} {X : Int × (Int × List Int × List Int) × Nat} (hb : b < W.heap.size) (h1 : Below W.heap.size W W1) (hs : W1.heap.size = W.heap.size + 1) (hth : W1.there W.heap.size 0 34) (hk : Kept b W1 w1) (ht : TabX w1 b)
    (hby : BySlS (fun x => W1.heap.size ≤ x ∧ x < w1.heap.size) w1 (.slice ar X.2.1.2.2.length cr) X.2.1.2.2) (hn : X.2.1.2.1.length = 32 ∧ ∀ y ∈ X.2.1.2.1, 0 ≤ y ∧ y ≤ 255) :
    Tk W (w1.setCells W.heap.size 0 (recA X.2.1.1 X.2.1.2.1 (.slice ar X.2.1.2.2.length cr))) b W.heap.size ar cr X := by
  have hz := hk.size
  have hb2 := setCells_below (B := W.heap.size) (Nat.le_refl _) w1 0 (recA X.2.1.1 X.2.1.2.1 (.slice ar X.2.1.2.2.length cr))
  have hth1 := there_kept hth hk (by omega) (by omega)
  refine ⟨Kept.then ((Kept.below h1).trans hk) hb2, ht.set (u := W) ⟨Nat.le_refl _, hb⟩, Nat.le_refl _, by rw [setCells_size]; omega, ?_, ?_, hn⟩
  · refine World.rangeAt_setCells_same _ _ _ _ ?_
    rw [recA_length _ _ _ hn.1]
    exact hth1
  · exact hby.agree (fun g hg => setCells_block _ _ _ _ _ (by omega)) (fun g hg => ⟨by omega, by rw [setCells_size]; exact hg.2⟩)

set_option maxHeartbeats 4000000 in
set_option maxRecDepth 100000 in
theorem tell_region {Q : Exit → Act → World → Prop} {u3 u5 u6 u7 u8 u9 u10 u11 u12 u13 u14 u15 u16 u17 u18 u19 u20 u21 u22 u23 u24 u25 u26 u27 u28 u29 u30 u31 u32 u33 u34 u35 : Value} {l p q b g o len cap k : Nat} {W : World} (xs : List Int) (X : Int × (Int × List Int × List Int) × Nat) (hX : takeF (xs.drop k) = X)
    (hk : k < len) (hc : len ≤ cap) (hT : TabX W b) (hp : W.cell? ⟨p, 0, none⟩ = some (.slice (some ⟨g, o, none⟩) len cap)) (hq : W.cell? ⟨q, 0, none⟩ = some (.pointer (some ⟨b, 0, none⟩))) (hpb : p ≠ b) (hqb : q ≠ b)
    (hv : BySlS (fun x => x ≠ b ∧ x < W.heap.size) W (.slice (some ⟨g, o + k, none⟩) (len - k) (cap - k)) (xs.drop k))
    (h : ∀ gr ar cr wx, Tk W wx b gr ar cr X → Q .normal { tmps := List.toArray (.func (.yield l) #[] #[] :: .pointer (some ⟨p, 0, none⟩) :: .pointer (some ⟨q, 0, none⟩) :: u3 :: .int .i64 (k : Int) :: .pointer (some ⟨gr, 0, none⟩) :: .int .i64 (X.2.2 : Nat) :: .int .i64 X.1 :: u8 :: u9 :: u10 :: u11 :: .tuple #[.agg (recA X.2.1.1 X.2.1.2.1 (.slice ar X.2.1.2.2.length cr)).toArray, .int .i64 (X.2.2 : Nat), .int .i64 X.1] :: .pointer (some ⟨b, 0, none⟩) :: .slice (some ⟨g, o, none⟩) len cap :: .int .i64 (k : Int) :: .slice (some ⟨g, o + k, none⟩) (len - k) (cap - k) :: .tuple #[.agg (recA X.2.1.1 X.2.1.2.1 (.slice ar X.2.1.2.2.length cr)).toArray, .int .i64 (X.2.2 : Nat), .int .i64 X.1] :: .agg (recA X.2.1.1 X.2.1.2.1 (.slice ar X.2.1.2.2.length cr)).toArray :: .int .i64 (X.2.2 : Nat) :: .int .i64 X.1 :: u21 :: u22 :: u23 :: u24 :: u25 :: u26 :: u27 :: u28 :: u29 :: u30 :: u31 :: u32 :: u33 :: u34 :: u35 :: []), defers := [] } wx) :
    (Code.region 2 #[{ dst := some 13, op := Op.load 32 (Operand.tmp 2), type := 32, pos := "scan.go:30", after := #[], guard := none }, { dst := some 14, op := Op.load 38 (Operand.tmp 1), type := 38, pos := "scan.go:30", after := #[], guard := none }, { dst := some 15, op := Op.move (Operand.tmp 4), type := 3, pos := "scan.go:30", after := #[], guard := none }, { dst := some 16, op := Op.slice 38 (Operand.tmp 14) (some (Operand.tmp 15)) none none, type := 38, pos := "scan.go:30", after := #[{ on := 1, ground := Ground.data }, { on := 2, ground := Ground.data }], guard := none }, { dst := some 17, op := Op.call { callee := Callee.value (Operand.func 144), args := #[Operand.tmp 13, Operand.tmp 16], argTypes := #[32, 38] }, type := 230, pos := "scan.go:30", after := #[{ on := 0, ground := Ground.data }, { on := 3, ground := Ground.data }], guard := none }, { dst := some 12, op := Op.move (Operand.tmp 17), type := 230, pos := "scan.go:30", after := #[{ on := 4, ground := Ground.data }], guard := none }, { dst := some 18, op := Op.extract (Operand.tmp 12) 0, type := 52, pos := "scan.go:30", after := #[{ on := 5, ground := Ground.data }], guard := none }, { dst := some 19, op := Op.extract (Operand.tmp 12) 1, type := 3, pos := "scan.go:30", after := #[{ on := 5, ground := Ground.data }, { on := 10, ground := Ground.gcOnly Departure.lateStores }], guard := none }, { dst := some 20, op := Op.extract (Operand.tmp 12) 2, type := 26, pos := "scan.go:30", after := #[{ on := 5, ground := Ground.data }, { on := 11, ground := Ground.gcOnly Departure.lateStores }], guard := none }, { dst := some 5, op := Op.alloc 52, type := 0, pos := "scan.go:30", after := #[], guard := none }, { dst := none, op := Op.store 52 (Operand.tmp 5) (Operand.tmp 18), type := 0, pos := "scan.go:30", after := #[{ on := 9, ground := Ground.data }, { on := 6, ground := Ground.data }, { on := 4, ground := Ground.chain }, { on := 0, ground := Ground.phase }, { on := 1, ground := Ground.phase }, { on := 2, ground := Ground.phase }, { on := 3, ground := Ground.phase }, { on := 4, ground := Ground.phase }, { on := 5, ground := Ground.phase }, { on := 6, ground := Ground.phase }, { on := 7, ground := Ground.textOnly Departure.lateStores }, { on := 8, ground := Ground.textOnly Departure.lateStores }, { on := 9, ground := Ground.phase }], guard := none }, { dst := some 6, op := Op.assign (Operand.tmp 19), type := 3, pos := "scan.go:30", after := #[{ on := 7, ground := Ground.data }, { on := 10, ground := Ground.chain }, { on := 0, ground := Ground.phase }, { on := 1, ground := Ground.phase }, { on := 2, ground := Ground.phase }, { on := 3, ground := Ground.phase }, { on := 4, ground := Ground.phase }, { on := 5, ground := Ground.phase }, { on := 6, ground := Ground.phase }, { on := 7, ground := Ground.phase }, { on := 8, ground := Ground.textOnly Departure.lateStores }, { on := 9, ground := Ground.phase }, { on := 10, ground := Ground.phase }], guard := none }, { dst := some 7, op := Op.assign (Operand.tmp 20), type := 26, pos := "scan.go:30", after := #[{ on := 8, ground := Ground.data }, { on := 11, ground := Ground.chain }, { on := 0, ground := Ground.phase }, { on := 1, ground := Ground.phase }, { on := 2, ground := Ground.phase }, { on := 3, ground := Ground.phase }, { on := 4, ground := Ground.phase }, { on := 5, ground := Ground.phase }, { on := 6, ground := Ground.phase }, { on := 7, ground := Ground.phase }, { on := 8, ground := Ground.phase }, { on := 9, ground := Ground.phase }, { on := 10, ground := Ground.phase }, { on := 11, ground := Ground.phase }], guard := none }] true).wp Tryz.prog Q { tmps := List.toArray (.func (.yield l) #[] #[] :: .pointer (some ⟨p, 0, none⟩) :: .pointer (some ⟨q, 0, none⟩) :: u3 :: .int .i64 (k : Int) :: u5 :: u6 :: u7 :: u8 :: u9 :: u10 :: u11 :: u12 :: u13 :: u14 :: u15 :: u16 :: u17 :: u18 :: u19 :: u20 :: u21 :: u22 :: u23 :: u24 :: u25 :: u26 :: u27 :: u28 :: u29 :: u30 :: u31 :: u32 :: u33 :: u34 :: u35 :: []), defers := [] } W := by
  have hpw := World.block_lt_of_cell? _ _ hp
  have hqw := World.block_lt_of_cell? _ _ hq
  simp only at hpw hqw
  have hbw := hT.lt
  have HV := hid hv
  have HT := hid hT
  have HX := hid hX
  have HH := hid h
  clear hv hT hX h
  have hz := zero35
  obtain ⟨Z, hZ⟩ : ∃ Z, zRec = Z := ⟨_, rfl⟩
  have HZ : Hid (Z.length = 34) := by rw [← hZ]; exact zRec_length
  rw [hZ] at hz
  clear hZ
  have hck : ¬ cap = k := by omega
  have hki : (k : Int) ≤ len := by omega
  have hk0 : (0 : Int) ≤ k := by omega
  have hkc : (k : Int) ≤ cap := by omega
  have HKC : Hid (k ≤ cap) := by rw [Hid]; omega
  refine wp_region_noPanic ?_
  refine wp_region_held_drew (S := fun V => V.cell? ⟨p, 0, none⟩ = some (.slice (some ⟨g, o, none⟩) len cap) ∧ V.cell? ⟨q, 0, none⟩ = some (.pointer (some ⟨b, 0, none⟩))) (by kernel_rfl) ⟨hp, hq⟩ (fun hHeld => ?_)
  refine wpAnyH_take (i := 0) (oi := { dst := some 13, op := Op.load 32 (Operand.tmp 2), type := 32, pos := "scan.go:30", after := #[], guard := none }) (v := .pointer (some ⟨b, 0, none⟩)) rfl (by kernel_rfl) (by kernel_rfl) (by kernel_rfl) (fun _ _ _ h => h) (Or.inl ⟨by rfl, fun w' hw' => by (obtain ⟨c1, c2⟩ := hw'; go_simp)⟩) hHeld ?_
  simp only [Act.put, List.setIfInBounds_toArray, List.set_cons_zero, List.set_cons_succ]
  refine wpAnyH_take (i := 1) (oi := { dst := some 14, op := Op.load 38 (Operand.tmp 1), type := 38, pos := "scan.go:30", after := #[], guard := none }) (v := .slice (some ⟨g, o, none⟩) len cap) rfl (by kernel_rfl) (by kernel_rfl) (by kernel_rfl) (fun _ _ _ h => h) (Or.inl ⟨by rfl, fun w' hw' => by (obtain ⟨c1, c2⟩ := hw'; go_simp)⟩) hHeld ?_
  simp only [Act.put, List.setIfInBounds_toArray, List.set_cons_zero, List.set_cons_succ]
  refine wpAnyH_take (i := 2) (oi := { dst := some 15, op := Op.move (Operand.tmp 4), type := 3, pos := "scan.go:30", after := #[], guard := none }) (v := .int .i64 (k : Int)) rfl (by kernel_rfl) (by kernel_rfl) (by kernel_rfl) (fun _ _ _ h => h) (Or.inl ⟨by rfl, fun w' hw' => by (clear hw'; go_simp)⟩) hHeld ?_
  simp only [Act.put, List.setIfInBounds_toArray, List.set_cons_zero, List.set_cons_succ]
  refine wpAnyH_take (i := 3) (oi := { dst := some 16, op := Op.slice 38 (Operand.tmp 14) (some (Operand.tmp 15)) none none, type := 38, pos := "scan.go:30", after := #[{ on := 1, ground := Ground.data }, { on := 2, ground := Ground.data }], guard := none }) (v := .slice (some ⟨g, o + k, none⟩) (len - k) (cap - k)) rfl (by kernel_rfl) (by kernel_rfl) (by kernel_rfl) (fun _ _ _ h => h) (Or.inl ⟨by rfl, fun w' hw' => by (clear hw'; go_simp)⟩) hHeld ?_
  simp only [Act.put, List.setIfInBounds_toArray, List.set_cons_zero, List.set_cons_succ]
  refine wpAnyH_ready (rs := [4, 9]) (by kernel_rfl) (by simp) ?_
  refine AllReadyH.cons (o := { dst := some 17, op := Op.call { callee := Callee.value (Operand.func 144), args := #[Operand.tmp 13, Operand.tmp 16], argTypes := #[32, 38] }, type := 230, pos := "scan.go:30", after := #[{ on := 0, ground := Ground.data }, { on := 3, ground := Ground.data }], guard := none }) rfl (fun K hK => ?_) (AllReadyH.cons (o := { dst := some 5, op := Op.alloc 52, type := 0, pos := "scan.go:30", after := #[], guard := none }) rfl (fun K hK => ?_) AllReadyH.nil)
  · go_simp
    refine (take_any b _ (xs.drop k) _ (HT.out.below ((Below.refl _ _).drew)) (BySlS.below HV.out ((Below.refl _ _).drew) (fun g hg => hg.2))).mono ?_
    rintro e w1 ⟨ar, cr, rfl, hby, hnx, hk1, ht1⟩
    rw [HX.out] at hby hnx
    rw [HX.out]
    replace hk1 : Kept b W w1 := (Kept.below (Below.refl _ _).drew).trans hk1
    have HTK := hid (tk_a (W := W) (w1 := w1) HZ.out hk1 ht1 hby hnx)
    have HS1 : Hid (w1.cell? ⟨p, 0, none⟩ = some (.slice (some ⟨g, o, none⟩) len cap) ∧ w1.cell? ⟨q, 0, none⟩ = some (.pointer (some ⟨b, 0, none⟩))) := ⟨(hk1.cell (p := ⟨p, 0, none⟩) hpw hpb).trans hp, (hk1.cell (p := ⟨q, 0, none⟩) hqw hqb).trans hq⟩
    have hz1 : W.heap.size ≤ w1.heap.size := hk1.size
    have HCL := hid (recA_length X.2.1.1 X.2.1.2.1 (.slice ar X.2.1.2.2.length cr) hnx.1)
    have HCO := hid (recA_one X.2.1.1 X.2.1.2.1 ar X.2.1.2.2.length cr)
    clear hby hnx hk1 ht1
    go_wp2_with fail
    refine hK.out _ _ HS1.out (fun hh => ?_)
    clear hK K hHeld
    have hHeld := hh
    clear hh
    try simp only [Act.put, List.setIfInBounds_toArray, List.set_cons_zero, List.set_cons_succ]
    refine wpAnyH_take (i := 5) (oi := { dst := some 12, op := Op.move (Operand.tmp 17), type := 230, pos := "scan.go:30", after := #[{ on := 4, ground := Ground.data }], guard := none }) (v := .tuple #[.agg (recA X.2.1.1 X.2.1.2.1 (.slice ar X.2.1.2.2.length cr)).toArray, .int .i64 (X.2.2 : Nat), .int .i64 X.1]) rfl (by kernel_rfl) (by kernel_rfl) (by kernel_rfl) (fun _ _ _ h => h) (Or.inl ⟨by rfl, fun w' hw' => by (clear hw'; go_simp)⟩) hHeld ?_
    simp only [Act.put, List.setIfInBounds_toArray, List.set_cons_zero, List.set_cons_succ]
    refine wpAnyH_take (i := 6) (oi := { dst := some 18, op := Op.extract (Operand.tmp 12) 0, type := 52, pos := "scan.go:30", after := #[{ on := 5, ground := Ground.data }], guard := none }) (v := .agg (recA X.2.1.1 X.2.1.2.1 (.slice ar X.2.1.2.2.length cr)).toArray) rfl (by kernel_rfl) (by kernel_rfl) (by kernel_rfl) (fun _ _ _ h => h) (Or.inl ⟨by rfl, fun w' hw' => by (clear hw'; go_simp)⟩) hHeld ?_
    simp only [Act.put, List.setIfInBounds_toArray, List.set_cons_zero, List.set_cons_succ]
    refine wpAnyH_take (i := 7) (oi := { dst := some 19, op := Op.extract (Operand.tmp 12) 1, type := 3, pos := "scan.go:30", after := #[{ on := 5, ground := Ground.data }, { on := 10, ground := Ground.gcOnly Departure.lateStores }], guard := none }) (v := .int .i64 (X.2.2 : Nat)) rfl (by kernel_rfl) (by kernel_rfl) (by kernel_rfl) (fun _ _ _ h => h) (Or.inl ⟨by rfl, fun w' hw' => by (clear hw'; go_simp)⟩) hHeld ?_
    simp only [Act.put, List.setIfInBounds_toArray, List.set_cons_zero, List.set_cons_succ]
    refine wpAnyH_take (i := 8) (oi := { dst := some 20, op := Op.extract (Operand.tmp 12) 2, type := 26, pos := "scan.go:30", after := #[{ on := 5, ground := Ground.data }, { on := 11, ground := Ground.gcOnly Departure.lateStores }], guard := none }) (v := .int .i64 X.1) rfl (by kernel_rfl) (by kernel_rfl) (by kernel_rfl) (fun _ _ _ h => h) (Or.inl ⟨by rfl, fun w' hw' => by (clear hw'; go_simp)⟩) hHeld ?_
    simp only [Act.put, List.setIfInBounds_toArray, List.set_cons_zero, List.set_cons_succ]
    refine wpAnyH_ready (rs := [9]) (by kernel_rfl) (by simp) ?_
    refine AllReadyH.cons (o := { dst := some 5, op := Op.alloc 52, type := 0, pos := "scan.go:30", after := #[], guard := none }) rfl (fun K hK => ?_) AllReadyH.nil
    go_simp
    have HS2 : Hid ((w1.alloc (.cells Z.toArray 52)).cell? ⟨p, 0, none⟩ = some (.slice (some ⟨g, o, none⟩) len cap) ∧ (w1.alloc (.cells Z.toArray 52)).cell? ⟨q, 0, none⟩ = some (.pointer (some ⟨b, 0, none⟩))) := ⟨(World.cell?_alloc_lt _ _ _ (by simp; omega)).trans HS1.out.1, (World.cell?_alloc_lt _ _ _ (by simp; omega)).trans HS1.out.2⟩
    refine hK.out _ _ HS2.out (fun hh => ?_)
    clear hK K hHeld
    have hHeld := hh
    clear hh
    try simp only [Act.put, List.setIfInBounds_toArray, List.set_cons_zero, List.set_cons_succ]
    obtain ⟨C, hC⟩ : ∃ C, recA X.2.1.1 X.2.1.2.1 (.slice ar X.2.1.2.2.length cr) = C := ⟨_, rfl⟩
    have HTH : Hid (World.there (w1.alloc (.cells Z.toArray 52)) w1.heap.size 0 C.toArray.size) := by
      have h := there_new w1 Z 52
      rw [Hid, show C.toArray.size = 34 by rw [List.size_toArray, ← hC]; exact HCL.out]
      rwa [HZ.out] at h
    have HIC : Hid ((Tryz.prog.info? 52).map (·.size) = some C.toArray.size) := by rw [Hid, show C.toArray.size = 34 by rw [List.size_toArray, ← hC]; exact HCL.out]; exact Tryz.info35
    have HOC : Hid (C.toArray.all (·.oneCell') = true) := by rw [← hC]; exact all_oneCell_toArray HCO.out
    have HS3 : Hid (((w1.alloc (.cells Z.toArray 52)).setCells w1.heap.size 0 C).cell? ⟨p, 0, none⟩ = some (.slice (some ⟨g, o, none⟩) len cap) ∧ ((w1.alloc (.cells Z.toArray 52)).setCells w1.heap.size 0 C).cell? ⟨q, 0, none⟩ = some (.pointer (some ⟨b, 0, none⟩))) := ⟨((setCells_below (Nat.le_refl w1.heap.size) _ _ _).cell (p := ⟨p, 0, none⟩) (by simp; omega)).trans HS2.out.1, ((setCells_below (Nat.le_refl w1.heap.size) _ _ _).cell (p := ⟨q, 0, none⟩) (by simp; omega)).trans HS2.out.2⟩
    rw [hC] at HTK
    rw [hC]
    have HC := hid hC
    clear hC
    refine wpAnyH_ready (rs := [10]) (by kernel_rfl) (by simp) ?_
    refine AllReadyH.cons (o := { dst := none, op := Op.store 52 (Operand.tmp 5) (Operand.tmp 18), type := 0, pos := "scan.go:30", after := #[{ on := 9, ground := Ground.data }, { on := 6, ground := Ground.data }, { on := 4, ground := Ground.chain }, { on := 0, ground := Ground.phase }, { on := 1, ground := Ground.phase }, { on := 2, ground := Ground.phase }, { on := 3, ground := Ground.phase }, { on := 4, ground := Ground.phase }, { on := 5, ground := Ground.phase }, { on := 6, ground := Ground.phase }, { on := 7, ground := Ground.textOnly Departure.lateStores }, { on := 8, ground := Ground.textOnly Departure.lateStores }, { on := 9, ground := Ground.phase }], guard := none }) rfl (fun K hK => ?_) AllReadyH.nil
    rw [if_pos (by rfl)]
    refine wp_store_mid 52 _ _ (by rfl) w1.heap.size 0 C.toArray (by rfl) (by rfl) HTH.out HIC.out HOC.out ?_
    refine hK.out _ _ HS3.out (fun hh => ?_)
    clear hK K hHeld
    have hHeld := hh
    clear hh
    refine wpAnyH_take (i := 11) (oi := { dst := some 6, op := Op.assign (Operand.tmp 19), type := 3, pos := "scan.go:30", after := #[{ on := 7, ground := Ground.data }, { on := 10, ground := Ground.chain }, { on := 0, ground := Ground.phase }, { on := 1, ground := Ground.phase }, { on := 2, ground := Ground.phase }, { on := 3, ground := Ground.phase }, { on := 4, ground := Ground.phase }, { on := 5, ground := Ground.phase }, { on := 6, ground := Ground.phase }, { on := 7, ground := Ground.phase }, { on := 8, ground := Ground.textOnly Departure.lateStores }, { on := 9, ground := Ground.phase }, { on := 10, ground := Ground.phase }], guard := none }) (v := .int .i64 (X.2.2 : Nat)) rfl (by kernel_rfl) (by kernel_rfl) (by kernel_rfl) (fun _ _ _ h => h) (Or.inl ⟨by rfl, fun w' hw' => by (clear hw'; go_simp)⟩) hHeld ?_
    simp only [Act.put, List.setIfInBounds_toArray, List.set_cons_zero, List.set_cons_succ]
    refine wpAnyH_take (i := 12) (oi := { dst := some 7, op := Op.assign (Operand.tmp 20), type := 26, pos := "scan.go:30", after := #[{ on := 8, ground := Ground.data }, { on := 11, ground := Ground.chain }, { on := 0, ground := Ground.phase }, { on := 1, ground := Ground.phase }, { on := 2, ground := Ground.phase }, { on := 3, ground := Ground.phase }, { on := 4, ground := Ground.phase }, { on := 5, ground := Ground.phase }, { on := 6, ground := Ground.phase }, { on := 7, ground := Ground.phase }, { on := 8, ground := Ground.phase }, { on := 9, ground := Ground.phase }, { on := 10, ground := Ground.phase }, { on := 11, ground := Ground.phase }], guard := none }) (v := .int .i64 X.1) rfl (by kernel_rfl) (by kernel_rfl) (by kernel_rfl) (fun _ _ _ h => h) (Or.inl ⟨by rfl, fun w' hw' => by (clear hw'; go_simp)⟩) hHeld ?_
    simp only [Act.put, List.setIfInBounds_toArray, List.set_cons_zero, List.set_cons_succ]
    refine wpAnyH_done (by kernel_rfl) ?_ _
    refine NoPanic.normal ?_
    rw [← HC.out] at HTK ⊢
    exact HH.out _ _ _ _ HTK.out
  · go_simp
    obtain ⟨W1, hW1⟩ : ∃ W1, (W.alloc (.cells Z.toArray 52)).drew = W1 := ⟨_, rfl⟩
    have hb1 : Below W.heap.size W W1 := by rw [← hW1]; exact ((Below.refl _ _).alloc (Nat.le_refl _) _).drew
    have hs1 : W1.heap.size = W.heap.size + 1 := by rw [← hW1]; simp
    have HTH1 : Hid (W1.there W.heap.size 0 34) := by
      rw [Hid, ← hW1, World.there_drew]
      have h := there_new W Z 52
      rwa [HZ.out] at h
    rw [hW1]
    clear hW1
    have HB1 := hid hb1
    have HSZ := hid hs1
    have HS1 : Hid (W1.cell? ⟨p, 0, none⟩ = some (.slice (some ⟨g, o, none⟩) len cap) ∧ W1.cell? ⟨q, 0, none⟩ = some (.pointer (some ⟨b, 0, none⟩))) := ⟨(hb1.cell (p := ⟨p, 0, none⟩) hpw).trans hp, (hb1.cell (p := ⟨q, 0, none⟩) hqw).trans hq⟩
    clear hb1 hs1
    refine hK.out _ _ HS1.out (fun hh => ?_)
    clear hK K hHeld
    have hHeld := hh
    clear hh
    try simp only [Act.put, List.setIfInBounds_toArray, List.set_cons_zero, List.set_cons_succ]
    refine wpAnyH_ready (rs := [4]) (by kernel_rfl) (by simp) ?_
    refine AllReadyH.cons (o := { dst := some 17, op := Op.call { callee := Callee.value (Operand.func 144), args := #[Operand.tmp 13, Operand.tmp 16], argTypes := #[32, 38] }, type := 230, pos := "scan.go:30", after := #[{ on := 0, ground := Ground.data }, { on := 3, ground := Ground.data }], guard := none }) rfl (fun K hK => ?_) AllReadyH.nil
    go_simp
    refine (take_any b _ (xs.drop k) _ (HT.out.below HB1.out) (BySlS.mono (BySlS.below HV.out HB1.out (fun g hg => hg.2)) (fun g hg => ⟨hg.1, Nat.lt_of_lt_of_le hg.2 HB1.out.size⟩))).mono ?_
    rintro e w1 ⟨ar, cr, rfl, hby, hnx, hk1, ht1⟩
    rw [HX.out] at hby hnx
    rw [HX.out]
    have HTK := hid (tk_b (W := W) (W1 := W1) (w1 := w1) hbw HB1.out HSZ.out HTH1.out hk1 ht1 hby hnx)
    have HS2 : Hid (w1.cell? ⟨p, 0, none⟩ = some (.slice (some ⟨g, o, none⟩) len cap) ∧ w1.cell? ⟨q, 0, none⟩ = some (.pointer (some ⟨b, 0, none⟩))) := ⟨(hk1.cell (p := ⟨p, 0, none⟩) (Nat.lt_of_lt_of_le hpw HB1.out.size) hpb).trans HS1.out.1, (hk1.cell (p := ⟨q, 0, none⟩) (Nat.lt_of_lt_of_le hqw HB1.out.size) hqb).trans HS1.out.2⟩
    have HTH2 := hid (there_kept HTH1.out hk1 (by have := HSZ.out; omega) (by omega))
    have HCL := hid (recA_length X.2.1.1 X.2.1.2.1 (.slice ar X.2.1.2.2.length cr) hnx.1)
    have HCO := hid (recA_one X.2.1.1 X.2.1.2.1 ar X.2.1.2.2.length cr)
    clear hby hnx hk1 ht1
    go_wp2_with fail
    refine hK.out _ _ HS2.out (fun hh => ?_)
    clear hK K hHeld
    have hHeld := hh
    clear hh
    try simp only [Act.put, List.setIfInBounds_toArray, List.set_cons_zero, List.set_cons_succ]
    refine wpAnyH_take (i := 5) (oi := { dst := some 12, op := Op.move (Operand.tmp 17), type := 230, pos := "scan.go:30", after := #[{ on := 4, ground := Ground.data }], guard := none }) (v := .tuple #[.agg (recA X.2.1.1 X.2.1.2.1 (.slice ar X.2.1.2.2.length cr)).toArray, .int .i64 (X.2.2 : Nat), .int .i64 X.1]) rfl (by kernel_rfl) (by kernel_rfl) (by kernel_rfl) (fun _ _ _ h => h) (Or.inl ⟨by rfl, fun w' hw' => by (clear hw'; go_simp)⟩) hHeld ?_
    simp only [Act.put, List.setIfInBounds_toArray, List.set_cons_zero, List.set_cons_succ]
    refine wpAnyH_take (i := 6) (oi := { dst := some 18, op := Op.extract (Operand.tmp 12) 0, type := 52, pos := "scan.go:30", after := #[{ on := 5, ground := Ground.data }], guard := none }) (v := .agg (recA X.2.1.1 X.2.1.2.1 (.slice ar X.2.1.2.2.length cr)).toArray) rfl (by kernel_rfl) (by kernel_rfl) (by kernel_rfl) (fun _ _ _ h => h) (Or.inl ⟨by rfl, fun w' hw' => by (clear hw'; go_simp)⟩) hHeld ?_
    simp only [Act.put, List.setIfInBounds_toArray, List.set_cons_zero, List.set_cons_succ]
    refine wpAnyH_take (i := 7) (oi := { dst := some 19, op := Op.extract (Operand.tmp 12) 1, type := 3, pos := "scan.go:30", after := #[{ on := 5, ground := Ground.data }, { on := 10, ground := Ground.gcOnly Departure.lateStores }], guard := none }) (v := .int .i64 (X.2.2 : Nat)) rfl (by kernel_rfl) (by kernel_rfl) (by kernel_rfl) (fun _ _ _ h => h) (Or.inl ⟨by rfl, fun w' hw' => by (clear hw'; go_simp)⟩) hHeld ?_
    simp only [Act.put, List.setIfInBounds_toArray, List.set_cons_zero, List.set_cons_succ]
    refine wpAnyH_take (i := 8) (oi := { dst := some 20, op := Op.extract (Operand.tmp 12) 2, type := 26, pos := "scan.go:30", after := #[{ on := 5, ground := Ground.data }, { on := 11, ground := Ground.gcOnly Departure.lateStores }], guard := none }) (v := .int .i64 X.1) rfl (by kernel_rfl) (by kernel_rfl) (by kernel_rfl) (fun _ _ _ h => h) (Or.inl ⟨by rfl, fun w' hw' => by (clear hw'; go_simp)⟩) hHeld ?_
    simp only [Act.put, List.setIfInBounds_toArray, List.set_cons_zero, List.set_cons_succ]
    obtain ⟨C, hC⟩ : ∃ C, recA X.2.1.1 X.2.1.2.1 (.slice ar X.2.1.2.2.length cr) = C := ⟨_, rfl⟩
    have HTH : Hid (w1.there W.heap.size 0 C.toArray.size) := by
      rw [Hid, show C.toArray.size = 34 by rw [List.size_toArray, ← hC]; exact HCL.out]
      exact HTH2.out
    have HIC : Hid ((Tryz.prog.info? 52).map (·.size) = some C.toArray.size) := by rw [Hid, show C.toArray.size = 34 by rw [List.size_toArray, ← hC]; exact HCL.out]; exact Tryz.info35
    have HOC : Hid (C.toArray.all (·.oneCell') = true) := by rw [← hC]; exact all_oneCell_toArray HCO.out
    have HS3 : Hid ((w1.setCells W.heap.size 0 C).cell? ⟨p, 0, none⟩ = some (.slice (some ⟨g, o, none⟩) len cap) ∧ (w1.setCells W.heap.size 0 C).cell? ⟨q, 0, none⟩ = some (.pointer (some ⟨b, 0, none⟩))) := ⟨((setCells_below (Nat.le_refl W.heap.size) _ _ _).cell (p := ⟨p, 0, none⟩) hpw).trans HS2.out.1, ((setCells_below (Nat.le_refl W.heap.size) _ _ _).cell (p := ⟨q, 0, none⟩) hqw).trans HS2.out.2⟩
    rw [hC] at HTK
    rw [hC]
    have HC := hid hC
    clear hC
    refine wpAnyH_ready (rs := [10]) (by kernel_rfl) (by simp) ?_
    refine AllReadyH.cons (o := { dst := none, op := Op.store 52 (Operand.tmp 5) (Operand.tmp 18), type := 0, pos := "scan.go:30", after := #[{ on := 9, ground := Ground.data }, { on := 6, ground := Ground.data }, { on := 4, ground := Ground.chain }, { on := 0, ground := Ground.phase }, { on := 1, ground := Ground.phase }, { on := 2, ground := Ground.phase }, { on := 3, ground := Ground.phase }, { on := 4, ground := Ground.phase }, { on := 5, ground := Ground.phase }, { on := 6, ground := Ground.phase }, { on := 7, ground := Ground.textOnly Departure.lateStores }, { on := 8, ground := Ground.textOnly Departure.lateStores }, { on := 9, ground := Ground.phase }], guard := none }) rfl (fun K hK => ?_) AllReadyH.nil
    rw [if_pos (by rfl)]
    refine wp_store_mid 52 _ _ (by rfl) W.heap.size 0 C.toArray (by rfl) (by rfl) HTH.out HIC.out HOC.out ?_
    refine hK.out _ _ HS3.out (fun hh => ?_)
    clear hK K hHeld
    have hHeld := hh
    clear hh
    refine wpAnyH_take (i := 11) (oi := { dst := some 6, op := Op.assign (Operand.tmp 19), type := 3, pos := "scan.go:30", after := #[{ on := 7, ground := Ground.data }, { on := 10, ground := Ground.chain }, { on := 0, ground := Ground.phase }, { on := 1, ground := Ground.phase }, { on := 2, ground := Ground.phase }, { on := 3, ground := Ground.phase }, { on := 4, ground := Ground.phase }, { on := 5, ground := Ground.phase }, { on := 6, ground := Ground.phase }, { on := 7, ground := Ground.phase }, { on := 8, ground := Ground.textOnly Departure.lateStores }, { on := 9, ground := Ground.phase }, { on := 10, ground := Ground.phase }], guard := none }) (v := .int .i64 (X.2.2 : Nat)) rfl (by kernel_rfl) (by kernel_rfl) (by kernel_rfl) (fun _ _ _ h => h) (Or.inl ⟨by rfl, fun w' hw' => by (clear hw'; go_simp)⟩) hHeld ?_
    simp only [Act.put, List.setIfInBounds_toArray, List.set_cons_zero, List.set_cons_succ]
    refine wpAnyH_take (i := 12) (oi := { dst := some 7, op := Op.assign (Operand.tmp 20), type := 26, pos := "scan.go:30", after := #[{ on := 8, ground := Ground.data }, { on := 11, ground := Ground.chain }, { on := 0, ground := Ground.phase }, { on := 1, ground := Ground.phase }, { on := 2, ground := Ground.phase }, { on := 3, ground := Ground.phase }, { on := 4, ground := Ground.phase }, { on := 5, ground := Ground.phase }, { on := 6, ground := Ground.phase }, { on := 7, ground := Ground.phase }, { on := 8, ground := Ground.phase }, { on := 9, ground := Ground.phase }, { on := 10, ground := Ground.phase }, { on := 11, ground := Ground.phase }], guard := none }) (v := .int .i64 X.1) rfl (by kernel_rfl) (by kernel_rfl) (by kernel_rfl) (fun _ _ _ h => h) (Or.inl ⟨by rfl, fun w' hw' => by (clear hw'; go_simp)⟩) hHeld ?_
    simp only [Act.put, List.setIfInBounds_toArray, List.set_cons_zero, List.set_cons_succ]
    refine wpAnyH_done (by kernel_rfl) ?_ _
    refine NoPanic.normal ?_
    rw [← HC.out] at HTK ⊢
    exact HH.out _ _ _ _ HTK.out
end Go.Proofs.YtkekajmmcjacgaaGreatDoor
end

section
/-
  What the iterator of a scan tells, round by round.
-/
namespace Go.Proofs.YtkekajmmcjacgaaGreatDoor
open Go.RowKit Go.Shelf
open Tlv (Tr BySlS AgreeS Agree)
open Crc (hid Kept Tab)
attribute [local go_sem] Oper.semAt_some

theorem wpListIn_val {F : Fence} {n : Nat} {P : Program} {ops : Array Oper} {rest : List Oper} {o : Oper} {a : Act} {Q : Exit → Act → World → Prop} {w w' : World} {v : Value} (hgd : o.guard = none) (hd : ∀ c, o.op ≠ .defer c) (hF : ∀ f, F.fn f)
    (hr : (execOp a.eval o).run P w = .ok (.value v) w') (h : wpListIn F n P ops Q rest (a.put o.dst v) w') : wpListIn F n P ops Q (o :: rest) a w := by
  unfold wpListIn
  rw [if_pos (by simp [Region.wanted, hgd])]
  refine ⟨fun f _ => hF f, ?_⟩
  rw [Oper.semAt_eq _ _ _ hd, hr]
  exact h
theorem wpListIn_skip {F : Fence} {n : Nat} {P : Program} {ops : Array Oper} {rest : List Oper} {o : Oper} {a : Act} {Q : Exit → Act → World → Prop} {w w' : World} (hgd : o.guard = none) (hd : ∀ c, o.op ≠ .defer c) (hF : ∀ f, F.fn f)
    (hr : (execOp a.eval o).run P w = .ok .skip w') (h : wpListIn F n P ops Q rest (a.put o.dst undef) w') : wpListIn F n P ops Q (o :: rest) a w := by
  unfold wpListIn
  rw [if_pos (by simp [Region.wanted, hgd])]
  refine ⟨fun f _ => hF f, ?_⟩
  rw [Oper.semAt_eq _ _ _ hd, hr]
  exact h

theorem exec_load {P : Program} {o : Oper} {a : Act} {w : World} (ty : TypeId) (x : Operand) (ho : o.op = .load ty x) (b off : Nat) (hx : a.eval x = .pointer (some ⟨b, off, none⟩)) (cs : List Value) (d : TypeDesc) (hc : w.rangeAt b off cs)
    (hu : P.underlying ty = some d) (hd : d.isRow = true) (hi : (P.info? ty).map (·.size) = some cs.length) : (execOp a.eval o).run P w = .ok (.value (.agg cs.toArray)) w := by
  unfold execOp
  simp only [ho, hx, Instr.loadAt, Instr.sureAddr, Sem.run_bind, Sem.run_pure, Result.andThen_ok, run_loadVar_mid w b off ty cs d hc hu hd hi]
theorem exec_store {P : Program} {o : Oper} {a : Act} {w : World} (ty : TypeId) (x y : Operand) (ho : o.op = .store ty x y) (b off : Nat) (cells : Array Value) (hx : a.eval x = .pointer (some ⟨b, off, none⟩)) (hy : a.eval y = .agg cells)
    (ht : w.there b off cells.size) (hi : (P.info? ty).map (·.size) = some cells.size) (h1 : cells.all (·.oneCell') = true) : (execOp a.eval o).run P w = .ok .skip (w.setCells b off cells.toList) := by
  unfold execOp
  simp only [ho, hx, hy, Instr.storeAt, Instr.sureAddr, Sem.run_bind, Sem.run_pure, Result.andThen_ok, run_storeVar_mid w b off ty cells ht hi h1]
theorem exec_build3 {P : Program} {o : Oper} {a : Act} {w : World} (ty : TypeId) (x y z : Operand) (ho : o.op = .build ty #[(0, x), (1, y), (2, z)]) (vx vy vz : Value) (hx : a.eval x = vx) (hy : a.eval y = vy) (hz : a.eval z = vz) (C : Array Value)
    (hb : P.built ty [(0, vx), (1, vy), (2, vz)] = some C) : (execOp a.eval o).run P w = .ok (.value (.agg C)) w := by
  have e : P.built ty ((#[(0, x), (1, y), (2, z)] : Array (Nat × Operand)).map fun (i, x) => (i, a.eval x)).toList = some C := by
    rw [← hb]
    simp only [List.map_toArray, List.map_cons, List.map_nil, hx, hy, hz]
  unfold execOp
  simp only [ho, Sem.run_bind, run_build w ty _ C e, Result.andThen_ok]
  rfl

/-- A placed record's cells. -/
def placedA (p n : Nat) (C : List Value) : List Value := .int .i64 (p : Int) :: .int .i64 (n : Int) :: C
theorem built62 (p n : Nat) (k : Int) (nm : List Int) (h : nm.length = 32) (a : Option Addr) (l c : Nat) : Tryz.prog.built 92 [(0, .int .i64 (p : Int)), (1, .int .i64 (n : Int)), (2, .agg (recA k nm (.slice a l c)).toArray)] = some (placedA p n (recA k nm (.slice a l c))).toArray := by
  obtain ⟨x0, x1, x2, x3, x4, x5, x6, x7, x8, x9, x10, x11, x12, x13, x14, x15, x16, x17, x18, x19, x20, x21, x22, x23, x24, x25, x26, x27, x28, x29, x30, x31, rfl⟩ := ex32 h
  kernel_rfl

theorem BySlS.putl {B : Nat} {S : Nat → Prop} {U W : World} {v : Value} {xs : List Int} (h : BySlS S U v xs) (k : Putl B U W) : BySlS S W v xs := by
  obtain ⟨a, cap, h1, h2, h3, h4, h5, h6, h7⟩ := h
  refine ⟨a, cap, h1, h2, h3, h4, h5, h6, fun hne => ?_⟩
  obtain ⟨g, o, e, hS, hc⟩ := h7 hne
  exact ⟨g, o, e, hS, fun i hi => k.cell (hc i hi)⟩

/-- The iterator's world: the table at b; the bytes; both below B; the two boxes that it has taken along, at p and q. -/
def Ts (B b p q : Nat) (v : Value) (xs : List Int) (W : World) : Prop :=
  (B ≤ W.heap.size ∧ b < B ∧ p < B ∧ q < B ∧ p ≠ b ∧ q ≠ b) ∧ TabX W b ∧ BySlS (fun x => x ≠ b ∧ x < B) W v xs ∧ W.cell? ⟨p, 0, none⟩ = some v ∧ W.cell? ⟨q, 0, none⟩ = some (.pointer (some ⟨b, 0, none⟩))

theorem tabX_below {B b : Nat} {w w' : World} (h : TabX w b) (k : Below B w w') (hb : b < B) : TabX w' b := by
  obtain ⟨f, n, hf, h1, h2, h3, h4, h5, h6, h7⟩ := h
  have c : ∀ j, w'.cell? ⟨b, j, none⟩ = w.cell? ⟨b, j, none⟩ := fun j => k.cell (p := ⟨b, j, none⟩) hb
  refine ⟨f, n, hf, Nat.lt_of_lt_of_le h1 k.size, (c _).trans h2, (c _).trans h3, (c _).trans h4, fun j hj => ?_, fun e j hj => (c _).trans (h6 e j hj), fun j => (k.frozen (p := ⟨b, j, none⟩) hb).trans (h7 j)⟩
  obtain ⟨x, hx⟩ := h5 j hj
  exact ⟨x, (c _).trans hx⟩

theorem Ts.below {B b p q : Nat} {v : Value} {xs : List Int} {U V : World} (h : Ts B b p q v xs U) (k : Below B U V) : Ts B b p q v xs V := by
  obtain ⟨⟨h1, h2, h3, h4, h5, h6⟩, ht, hv, hp, hq⟩ := h
  exact ⟨⟨Nat.le_trans h1 k.size, h2, h3, h4, h5, h6⟩, tabX_below ht k h2, BySlS.below hv k (fun g hg => hg.2), (k.cell (p := ⟨p, 0, none⟩) h3).trans hp, (k.cell (p := ⟨q, 0, none⟩) h4).trans hq⟩
theorem Ts.took {B b p q : Nat} {v : Value} {xs : List Int} {U V : World} (h : Ts B b p q v xs U) (k : Kept b U V) (t : TabX V b) : Ts B b p q v xs V := by
  obtain ⟨⟨h1, h2, h3, h4, h5, h6⟩, _, hv, hp, hq⟩ := h
  exact ⟨⟨Nat.le_trans h1 k.size, h2, h3, h4, h5, h6⟩, t, BySlS.kept hv k (fun g hg => ⟨hg.1, by omega⟩), (k.cell (p := ⟨p, 0, none⟩) (by simp; omega) h5).trans hp, (k.cell (p := ⟨q, 0, none⟩) (by simp; omega) h6).trans hq⟩

/-- The values of round k. -/
def Vs (b : Nat) (xs : List Int) (k m : Nat) (vs : Array Value) (U : World) : Prop :=
  ∃ (x : Item) (a : Option Addr) (c : Nat), (tl xs 0)[k]? = some x ∧ vs = #[.agg (placedA x.1 x.2.2.2 (recA x.2.2.1.1 x.2.2.1.2.1 (.slice a x.2.2.1.2.2.length c))).toArray, .int .i64 x.2.1] ∧
    BySlS (fun g => m ≤ g ∧ g ≠ b ∧ g < U.heap.size) U (.slice a x.2.2.1.2.2.length c) x.2.2.1.2.2 ∧ (x.2.2.1.2.1.length = 32 ∧ ∀ y ∈ x.2.2.1.2.1, 0 ≤ y ∧ y ≤ 255)

theorem wide_d {n : Nat} : Fence.wide.depth.isSome = true → 1 ≤ n := fun h => by simp [Fence.wide] at h

theorem bySlS_drop {S : Nat → Prop} {w : World} {b o cap E : Nat} {xs : List Int} (h : BySlS S w (.slice (some ⟨b, o, none⟩) xs.length cap) xs) (hE : E < xs.length) : BySlS S w (.slice (some ⟨b, o + E, none⟩) (xs.length - E) (cap - E)) (xs.drop E) := by
  obtain ⟨a', cap', e, h2, h3, h4, h5, h6, h7⟩ := h
  simp only [Value.slice.injEq, true_and] at e
  obtain ⟨rfl, rfl⟩ := e
  have hl : (xs.drop E).length = xs.length - E := List.length_drop
  refine ⟨_, cap - E, by rw [hl], by rw [hl]; omega, by unfold maxLen at *; omega, by simp, by rw [hl]; omega, fun x hx => h6 x (List.mem_of_mem_drop hx), fun _ => ?_⟩
  obtain ⟨b', o', e, hS, hc⟩ := h7 (by intro e; subst e; simp at hE)
  simp only [Option.some.injEq, Addr.mk.injEq, and_true] at e
  obtain ⟨rfl, rfl⟩ := e
  refine ⟨b, o + E, rfl, hS, fun i hi => ?_⟩
  rw [hl] at hi
  rw [Nat.add_assoc, hc (E + i) (by omega)]
  simp

set_option maxHeartbeats 4000000 in
set_option maxRecDepth 100000 in
theorem tells_frames (n B b p q : Nat) (v : Value) (xs : List Int) :
    Tells n 181 #[.pointer (some ⟨p, 0, none⟩), .pointer (some ⟨q, 0, none⟩)] b (Ts B b p q v xs) (Vs b xs) (tl xs 0).length := by
  intro l J Jx W hT hJ hY h0
  obtain ⟨_, _, hv0, _, _⟩ := id hT
  obtain ⟨a0, cap, rfl, hcap, hmax, _, h47, _, _⟩ := id hv0
  have HT := hid hT
  have HJ := hid hJ
  have HY := hid hY
  have H0 := hid h0
  unfold maxLen at hmax
  clear hT hJ hY h0 hv0
  obtain ⟨_, _, _, hp0, _⟩ := HT.out
  obtain ⟨_, _, _, _, hq0⟩ := HT.out
  refine callsIn_of_wp Tryz.func181 rfl trivial ?_ rfl
  simp only [Tryz.ntmps181, List.size_toArray, List.length_cons, List.length_nil, Nat.reduceAdd, Nat.reduceSub, Array.replicate_succ, Array.replicate_zero, List.push_toArray, List.append_toArray, List.nil_append, List.cons_append]
  gi_wp2_with fail
  clear hp0 hq0
  gi_loopw [4] (fun i wr => ∃ k P : Nat, P ≤ xs.length ∧ i = .int .i64 P ∧ Hid ((tl xs 0).drop k = tl xs P ∧ k ≤ (tl xs 0).length) ∧ Hid (∃ m, m ≤ wr.heap.size ∧ J k m wr) ∧ Hid (Ts B b p q (.slice a0 xs.length cap) xs wr)) (fun i _ => xs.length - (intOf i).toNat)
  case atStart => exact ⟨0, 0, Nat.zero_le _, rfl, ⟨rfl, Nat.zero_le _⟩, ⟨_, Nat.le_refl _, H0.out⟩, HT⟩
  case round =>
    obtain ⟨k, P, hP, rfl, HD, HJk, HTk⟩ := hrel
    obtain ⟨⟨hB1, hB2, hB3, hB4, hB5, hB6⟩, htab, hv, hp, hq⟩ := HTk.out
    by_cases hlt : P < xs.length
    · obtain ⟨a', cap', ev, _, _, _, _, _, h7⟩ := id hv
      simp only [Value.slice.injEq, true_and] at ev
      obtain ⟨rfl, rfl⟩ := ev
      obtain ⟨g, o, rfl, hgb, _⟩ := h7 (by intro e; subst e; simp at hlt)
      obtain ⟨L, hL, hLc⟩ := tl_head hlt
      have hkN : k < (tl xs 0).length := by
        have h := congrArg List.length HD.out.1
        rw [hL, List.length_drop, List.length_cons] at h
        omega
      have HAT : Hid ((tl xs 0)[k]? = some (P, takeF (xs.drop P))) := by
        have h := congrArg (fun l : List Item => l[0]?) HD.out.1
        rw [hL] at h
        rw [Hid]
        simpa using h
      have HDR : Hid ((tl xs 0).drop (k + 1) = L) := by
        have h := congrArg (fun l : List Item => l.drop 1) HD.out.1
        rw [hL] at h
        rw [Hid]
        simpa [List.drop_drop, Nat.add_comm] using h
      have HLC := hid hLc
      have HKN : Hid (k + 1 ≤ (tl xs 0).length) := hkN
      have HVV : Hid (BySlS (fun x => x ≠ b ∧ x < wr.heap.size) wr (.slice (some ⟨g, o + P, none⟩) (xs.length - P) (cap - P)) (xs.drop P)) := BySlS.mono (bySlS_drop hv hlt) (fun g hg => ⟨hg.1, Nat.lt_of_lt_of_le hg.2 hB1⟩)
      have HTAB := hid htab
      have hPi : (P : Int) < (xs.length : Int) := by omega
      clear hv h7 htab hL hLc
      gi_wp2_with fail
      refine wpIn_wide.2 (tell_region xs (takeF (xs.drop P)) rfl hlt hcap HTAB.out hp hq hB5 hB6 HVV.out (fun gr ar cr wx hTk => ?_))
      obtain ⟨X, hX⟩ : ∃ X, takeF (xs.drop P) = X := ⟨_, rfl⟩
      have HP0 : Hid (X.1 = 0 → 4 ≤ X.2.2 ∧ X.2.2 ≤ xs.length - P) := by
        rw [Hid, ← hX]
        intro h
        have h1 := takeF_pos h
        rw [List.length_drop] at h1
        exact h1
      rw [hX] at hTk HAT HLC
      rw [hX]
      clear hX
      obtain ⟨hk1, ht1, hg0, hg1, hrg, hby, hnx⟩ := hTk
      have HT2 := hid (HTk.out.took hk1 ht1)
      obtain ⟨m, hmw, hJm⟩ := HJk.out
      have HJ2 := hid (HJ.out k m _ _ hJm HT2.out hk1)
      have hmx : m ≤ wx.heap.size := Nat.le_trans hmw hk1.size
      have HVS : Hid (Vs b xs k m #[.agg (placedA P X.2.2 (recA X.2.1.1 X.2.1.2.1 (.slice ar X.2.1.2.2.length cr))).toArray, .int .i64 X.1] wx) :=
        ⟨(P, X), ar, cr, HAT.out, rfl, BySlS.mono hby (fun g hg => ⟨by omega, by omega, hg.2⟩), hnx⟩
      have HBU := hid (built62 P X.2.2 X.2.1.1 X.2.1.2.1 hnx.1 ar X.2.1.2.2.length cr)
      have HCL := hid (recA_length X.2.1.1 X.2.1.2.1 (.slice ar X.2.1.2.2.length cr) hnx.1)
      have HRG := hid hrg
      obtain ⟨fn, tmps, assign, body, hy, hR⟩ := HY.out k m wx _ hkN hmx HJ2.out HT2.out HVS.out
      obtain ⟨C, hC⟩ : ∃ C, recA X.2.1.1 X.2.1.2.1 (.slice ar X.2.1.2.2.length cr) = C := ⟨_, rfl⟩
      rw [hC] at HBU HCL HRG hy
      rw [hC]
      have HIC : Hid ((Tryz.prog.info? 52).map (·.size) = some C.length) := by rw [Hid, HCL.out]; exact Tryz.info35
      generalize hPA : placedA P X.2.2 C = PA at *
      have HR := hid hR
      generalize hf : X.1 = f at *
      generalize hn : X.2.2 = N at *
      have HF := hid (And.intro hf hn)
      clear hf hn hPA hC hk1 ht1 hby hnx hrg hp hq hR HVS HVV hJm hmw hmx
      gi_wp2_with (first
        | (refine wpListIn_val (by rfl) (fun _ h => by cases h) (fun _ => trivial) (exec_load 52 _ (by rfl) gr 0 (by rfl) C _ HRG.out Tryz.underlying52 rfl HIC.out) ?_)
        | (refine wpListIn_val (by rfl) (fun _ h => by cases h) (fun _ => trivial) (exec_build3 92 _ _ _ (by rfl) _ _ _ (by rfl) (by rfl) (by rfl) PA.toArray HBU.out) ?_))
      refine ⟨wide_d, HR.out.mono ?_⟩
      rintro e W3 (⟨rfl, hJ3, hT3⟩ | ⟨rfl, hJx3⟩)
      · have HJ3 := hid hJ3
        have HT3 := hid hT3
        clear hJ3 hT3
        by_cases hf0 : f = 0
        · have hP0 := HP0.out hf0
          have HLL : Hid ((tl xs 0).drop (k + 1) = tl xs (P + N)) := by
            rcases HLC.out with ⟨_, h⟩ | ⟨h, _⟩
            · rw [Hid, HDR.out, h]
            · exact absurd hf0 h
          have hfb : (f != 0) = false := by simp [hf0]
          clear hf0
          gi_wp2
          go_roundw
          case rel => exact ⟨k + 1, P + N, by omega, by go_num, ⟨HLL.out, HKN.out⟩, ⟨_, Nat.le_refl _, HJ3.out⟩, HT3⟩
          case measure => simp [intOf]; omega
        · have HLL : Hid (k + 1 = (tl xs 0).length) := by
            rcases HLC.out with ⟨h, _⟩ | ⟨_, h⟩
            · exact absurd h hf0
            · have h2 := HDR.out
              rw [h] at h2
              have h3 := congrArg List.length h2
              rw [List.length_drop, List.length_nil] at h3
              rw [Hid]
              omega
          have hfb : (f != 0) = true := by simp [hf0]
          clear hf0
          gi_wp2
          refine bodyPost_ret (results_none rfl _ _ _) rfl ?_
          exact ⟨⟨_, rfl⟩, .inl ⟨_, by rw [← HLL.out]; exact HJ3.out, HT3.out⟩⟩
      · have HJx := hid hJx3
        clear hJx3
        gi_wp2
        refine bodyPost_ret (results_none rfl _ _ _) rfl ?_
        exact ⟨⟨_, rfl⟩, .inr ⟨k + 1, HKN.out, HJx.out⟩⟩
    · have HLL : Hid (k = (tl xs 0).length) := by
        have h := congrArg List.length HD.out.1
        rw [tl_end (p := P) (by omega), List.length_drop, List.length_nil] at h
        have := HD.out.2
        rw [Hid]
        omega
      clear hv
      gi_wp2
      go_end0
      obtain ⟨m, _, hJm⟩ := HJk.out
      exact ⟨⟨_, rfl⟩, .inl ⟨m, by rw [← HLL.out]; exact hJm, HTk.out⟩⟩

/-- frames. -/
theorem frames_any (g : Option Addr) (a : Option Addr) (len cap : Nat) (w : World) :
    Calls Tryz.prog 143 #[.pointer g, .slice a len cap] w fun e w' => e = .returned (.func (.func 181) #[] #[.pointer (some ⟨w.heap.size + 1, 0, none⟩), .pointer (some ⟨w.heap.size, 0, none⟩)]) ∧
      w' = (w.alloc (.cells #[.pointer g] 32)).alloc (.cells #[.slice a len cap] 38) := by
  have hmf : ∀ (fn : Fn) (first cap : Array Value) (w : World), (Instr.makeFunc fn first cap).run Tryz.prog w = .ok (.func fn first cap) w := fun _ _ _ _ => rfl
  go_enter Tryz.func143, Tryz.ntmps143
  go_wp2
  go_ret
  exact ⟨rfl, rfl⟩
end Go.Proofs.YtkekajmmcjacgaaGreatDoor
end
