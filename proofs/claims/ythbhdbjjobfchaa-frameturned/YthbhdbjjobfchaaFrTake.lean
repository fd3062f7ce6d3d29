/-
  What Take answers.
-/
import Derived.Test.YthbhdbjjobfchaaFrRecord
import Derived.Test.YthbhdbjjobfchaaCrcOpen
namespace Go.Proofs.Ythbhdbjjobfchaa
open Go.RowKit
open Tlv (Tr BySlS AgreeS Agree)
open Crc (hid Kept Tab)

/-- What Take leaves: the record in new memory; of the old the table alone may have turned. -/
def Took (w w' : World) (b : Nat) (e : Ending) (x : Int × (Int × List Int × List Int) × Nat) : Prop :=
  ∃ a c, e = .returned (.tuple #[.agg (recA x.2.1.1 x.2.1.2.1 (.slice a x.2.1.2.2.length c)).toArray, .int .i64 (x.2.2 : Nat), .int .i64 x.1]) ∧
    BySlS (fun g => w.heap.size ≤ g ∧ g < w'.heap.size) w' (.slice a x.2.1.2.2.length c) x.2.1.2.2 ∧ (x.2.1.2.1.length = 32 ∧ ∀ y ∈ x.2.1.2.1, 0 ≤ y ∧ y ≤ 255) ∧ Kept b w w' ∧ TabX w' b

theorem took_none (w w' : World) (f : Int) (b : Nat) (hk : Kept b w w') (ht : TabX w' b) : Took w w' b (.returned (.tuple #[.agg zRec.toArray, .int .i64 0, .int .i64 f])) (noRec f) := by
  refine ⟨none, 0, rfl, Tlv.BySlS.none _ _, ⟨by simp [noRec], ?_⟩, hk, ht⟩
  intro y hy
  rw [(List.mem_replicate.1 hy).2]
  omega

theorem Kept.then {b : Nat} {w W V : World} (h : Kept b w W) (k : Below w.heap.size W V) : Kept b w V :=
  ⟨k.os.trans h.os, k.tape.trans h.tape, k.output.trans h.output, Nat.le_trans h.size k.size, fun i hi hb => (k.block i hi).trans (h.block i hi hb)⟩
theorem setCells_block (w : World) (g o k : Nat) (cs : List Value) (h : k ≠ g) : (w.setCells g o cs).heap[k]? = w.heap[k]? := by
  induction cs generalizing w o with
  | nil => rfl
  | cons c cs ih => rw [World.setCells, ih]; exact Below.heap_setCell _ _ _ _ (by omega)
theorem Kept.set {b : Nat} {u w : World} {g o : Nat} {cs : List Value} (hg : u.heap.size ≤ g ∧ b < u.heap.size) (h : Kept b u w) : Kept b u (w.setCells g o cs) :=
  Kept.then h (setCells_below hg.1 _ _ _)
theorem TabX.set {b g o : Nat} {u w : World} {cs : List Value} (h : TabX w b) (hg : u.heap.size ≤ g ∧ b < u.heap.size) : TabX (w.setCells g o cs) b := by
  obtain ⟨f, n, hf, ht⟩ := h
  have hb := setCells_below (B := u.heap.size) hg.1 w o cs
  refine ⟨f, n, hf, ?_⟩
  obtain ⟨h1, h2, h3, h4, h5, h6, h7⟩ := ht
  have c : ∀ j, (w.setCells g o cs).cell? ⟨b, j, none⟩ = w.cell? ⟨b, j, none⟩ := fun j => hb.cell (p := ⟨b, j, none⟩) hg.2
  refine ⟨by rw [setCells_size]; exact h1, (c _).trans h2, (c _).trans h3, (c _).trans h4, fun j hj => ?_, fun e j hj => (c _).trans (h6 e j hj), fun j => (hb.frozen (p := ⟨b, j, none⟩) hg.2).trans (h7 j)⟩
  obtain ⟨x, hx⟩ := h5 j hj
  exact ⟨x, (c _).trans hx⟩

theorem tail4 {xs : List Int} {m : Nat} (h : 4 ≤ xs.length - m) : ∃ y0 y1 y2 y3 : Nat, nats ((xs.drop m).take 4) = [y0, y1, y2, y3] := by
  have hl : (nats ((xs.drop m).take 4)).length = 4 := by rw [nats_length, List.length_take, List.length_drop]; omega
  match hq : nats ((xs.drop m).take 4), hl with
  | [y0, y1, y2, y3], _ => exact ⟨y0, y1, y2, y3, rfl⟩

theorem bySlS_take {S : Nat → Prop} {w : World} {a : Option Addr} {cap E : Nat} {xs : List Int} (h : BySlS S w (.slice a xs.length cap) xs) (hE : E ≤ xs.length) : BySlS S w (.slice a E cap) (xs.take E) := by
  obtain ⟨a', cap', e, h2, h3, h4, h5, h6, h7⟩ := h
  simp only [Value.slice.injEq, true_and] at e
  obtain ⟨rfl, rfl⟩ := e
  have hl : (xs.take E).length = E := by rw [List.length_take]; omega
  refine ⟨a, cap, by rw [hl], by rw [hl]; omega, h3, fun e => ⟨by rw [(h4 e).1]; simp, (h4 e).2⟩, by rw [hl]; omega, fun x hx => h6 x (List.mem_of_mem_take hx), fun hne => ?_⟩
  obtain ⟨b, o, e, hS, hc⟩ := h7 (fun e => hne (by rw [e]; simp))
  refine ⟨b, o, e, hS, fun i hi => ?_⟩
  rw [hl] at hi
  rw [hc i (by omega)]
  simp [List.getElem?_take_of_lt hi]

set_option maxHeartbeats 4000000 in
set_option maxRecDepth 100000 in
theorem take_any (b : Nat) (v : Value) (xs : List Int) (w : World) (hT : TabX w b) (h : BySlS (fun g => g ≠ b ∧ g < w.heap.size) w v xs) :
    Calls Try.prog 19 #[.pointer (some ⟨b, 0, none⟩), v] w fun e w' => Took w w' b e (takeF xs) := by
  obtain ⟨a, cap, rfl, h2, h3, _, h5, h6, _⟩ := id h
  have H := hid h
  have HT := hid hT
  have hbw := hT.lt
  have HX := hid h6
  clear h hT h6
  have hz := zero35
  obtain ⟨Z, hZ⟩ : ∃ Z, zRec = Z := ⟨_, rfl⟩
  have HZ := hid hZ
  rw [hZ] at hz
  clear hZ
  have HZS : Hid (Z.toArray.size = 34) := by rw [← HZ.out]; rfl
  have HI2 : Hid ((Try.prog.info? 35).map (·.size) = some Z.toArray.size) := by rw [← HZ.out]; exact Try.info35
  have H1 : Hid (Z.toArray.all (·.oneCell') = true) := by rw [← HZ.out]; exact all_oneCell_toArray zRec_one
  have HZB : Hid (w.heap.size ≤ w.heap.size ∧ b < w.heap.size) := ⟨Nat.le_refl _, hbw⟩
  have k0 : Below w.heap.size w (w.alloc (.cells Z.toArray 35)) := (Below.refl _ _).alloc (Nat.le_refl _) _
  have HTH : Hid (World.there (w.alloc (.cells Z.toArray 35)) w.heap.size 0 34) := by
    have h := there_new w Z 35
    rw [show Z.length = 34 from HZS.out] at h
    exact h
  have HK0 := hid k0
  have hz0 : w.heap.size < (w.alloc (.cells Z.toArray 35)).heap.size := by simp
  go_enter Try.func19, Try.ntmps19
  go_wp2_with fail
  obtain ⟨W0, hW0⟩ : ∃ W0, w.alloc (.cells Z.toArray 35) = W0 := ⟨_, rfl⟩
  rw [hW0] at HTH HK0 hz0
  rw [hW0]
  clear hW0 k0
  have HB0 := hid (BySlS.below H.out HK0.out (fun g hg => hg.2))
  refine (first_any _ xs W0 (HB0.out.to (fun g hg => Nat.lt_of_lt_of_le hg.2 HK0.out.size))).mono ?_
  rintro e w1 ⟨hres, hb1⟩
  have HB1 : Hid (Below w.heap.size w w1) := HK0.out.trans (hb1.mono HK0.out.size)
  have HT1 := hid (there_below HTH.out hb1 hz0)
  have hz1 : w.heap.size < w1.heap.size := Nat.lt_of_lt_of_le hz0 hb1.size
  have hzz : W0.heap.size ≤ w1.heap.size := hb1.size
  have HBX := hid hb1
  clear hb1
  rcases hres with ⟨hn, x, y, a1, l1, c1, a2, l2, c2, sz, rfl⟩ | ⟨t, m, a1, l1, c1, a2, l2, c2, hs, rfl, hr⟩
  · have HE := hid (takeF_none hn)
    clear hn
    have HV : Hid (World.there (w1.alloc (.cells #[.int .i64 x, .int .u64 y, .slice a1 l1 c1, .slice a2 l2 c2] 88)) w.heap.size 0 Z.toArray.size) := by
      rw [Hid, HZS.out]
      exact there_below HT1.out ((Below.refl _ _).alloc (Nat.le_refl _) _) hz1
    have HKV : Hid (Kept b w (w1.alloc (.cells #[.int .i64 x, .int .u64 y, .slice a1 l1 c1, .slice a2 l2 c2] 88))) := (Kept.below HB1.out).alloc _
    have HTV : Hid (TabX (w1.alloc (.cells #[.int .i64 x, .int .u64 y, .slice a1 l1 c1, .slice a2 l2 c2] 88)) b) := (HT.out.below HB1.out).below ((Below.refl _ _).alloc (Nat.le_refl _) _)
    go_wp2_with (refine wpList_store_mid (by rfl) 35 _ _ (by rfl) w.heap.size 0 Z.toArray (by rfl) (by rfl) HV.out HI2.out H1.out ?_)
    have hr : World.rangeAt (World.setCells (w1.alloc (.cells #[.int .i64 x, .int .u64 y, .slice a1 l1 c1, .slice a2 l2 c2] 88)) w.heap.size 0 Z) w.heap.size 0 Z := World.rangeAt_setCells_same _ _ _ _ HV.out
    refine bodyPost_ret (v := .tuple #[.agg Z.toArray, .int .i64 0, .int .i64 16]) (results_cell_mid3 Try.results19 _ _ w.heap.size 0 _ _ rfl hr Try.underlying35 rfl HI2.out) rfl ?_
    rw [HE.out, ← HZ.out]
    exact took_none w _ 16 b (Kept.set HZB.out HKV.out) (HTV.out.set HZB.out)
  · have HE := hid (takeF_some hs)
    have HM := hid (rd_end hs)
    have hm := Tlv.rd_pos hs
    have HBZ : Hid ((Tlv.bsz 9 t 65535 8).2 = true) := (Tlv.rd_form 8 xs t m HX.out hs).2
    have HML : Hid (m ≤ 65538) := by
      have h1 := (Tlv.rd_form 8 xs t m HX.out hs)
      have h3 : (Tlv.formOf 9 t).length = (xs.take m).length := congrArg List.length h1.1
      have h4 : ((Tlv.bodyOf 9 t).length : Int) ≤ 65535 := (Tlv.Rt.facts ⟨8, h1.2⟩).2.1
      have h5 : (Tlv.formOf 9 t).length = 3 + (Tlv.bodyOf 9 t).length := by simp [Tlv.formOf]; omega
      rw [List.length_take] at h3
      rw [Hid]
      omega
    have HRP := hid hr
    clear hs hr
    have hm64 : (m : Int) ≤ 9223372036854775807 := by have := HML.out; omega
    have hsub : wrap64 ((xs.length : Int) - m) = (xs.length : Int) - m := IntWalk.wrap64_in _ ⟨by omega, by omega⟩
    by_cases h4 : xs.length - m < 4
    · have h4' : (xs.length : Int) - m < 4 := by omega
      have HE2 : Hid (takeF xs = noRec 16) := by rw [Hid, HE.out, if_pos h4]
      have HV : Hid (World.there (w1.alloc (.cells #[.int .i64 t.hd.1, .int .u64 t.hd.2.1, .slice a1 l1 c1, .slice a2 l2 c2] 88)) w.heap.size 0 Z.toArray.size) := by
        rw [Hid, HZS.out]
        exact there_below HT1.out ((Below.refl _ _).alloc (Nat.le_refl _) _) hz1
      have HKV : Hid (Kept b w (w1.alloc (.cells #[.int .i64 t.hd.1, .int .u64 t.hd.2.1, .slice a1 l1 c1, .slice a2 l2 c2] 88))) := (Kept.below HB1.out).alloc _
      have HTV : Hid (TabX (w1.alloc (.cells #[.int .i64 t.hd.1, .int .u64 t.hd.2.1, .slice a1 l1 c1, .slice a2 l2 c2] 88)) b) := (HT.out.below HB1.out).below ((Below.refl _ _).alloc (Nat.le_refl _) _)
      clear h4 HE
      go_wp2_with (refine wpList_store_mid (by rfl) 35 _ _ (by rfl) w.heap.size 0 Z.toArray (by rfl) (by rfl) HV.out HI2.out H1.out ?_)
      have hr : World.rangeAt (World.setCells (w1.alloc (.cells #[.int .i64 t.hd.1, .int .u64 t.hd.2.1, .slice a1 l1 c1, .slice a2 l2 c2] 88)) w.heap.size 0 Z) w.heap.size 0 Z := World.rangeAt_setCells_same _ _ _ _ HV.out
      refine bodyPost_ret (v := .tuple #[.agg Z.toArray, .int .i64 0, .int .i64 16]) (results_cell_mid3 Try.results19 _ _ w.heap.size 0 _ _ rfl hr Try.underlying35 rfl HI2.out) rfl ?_
      rw [HE2.out, ← HZ.out]
      exact took_none w _ 16 b (Kept.set HZB.out HKV.out) (HTV.out.set HZB.out)
    · have h4' : (4 : Int) ≤ (xs.length : Int) - m := by omega
      have h4n : m + 4 ≤ xs.length := by omega
      have h4c : m + 4 ≤ cap := by omega
      obtain ⟨V, hV⟩ : ∃ V, w1.alloc (.cells #[.int .i64 t.hd.1, .int .u64 t.hd.2.1, .slice a1 l1 c1, .slice a2 l2 c2] 88) = V := ⟨_, rfl⟩
      have kV : Below w1.heap.size w1 V := by rw [← hV]; exact (Below.refl _ _).alloc (Nat.le_refl _) _
      have HBOX : Hid (∀ j u, (#[.int .i64 t.hd.1, .int .u64 t.hd.2.1, .slice a1 l1 c1, .slice a2 l2 c2] : Array Value)[j]? = some u → V.cell? ⟨w1.heap.size, j, none⟩ = some u) := fun j u hj => by
        rw [← hV, World.cell?_alloc_at _ _ _ _ rfl, hj]
      have hzV : w1.heap.size < V.heap.size := by rw [← hV]; simp
      have HKV : Hid (Below w.heap.size w V) := HB1.out.trans (kV.mono HB1.out.size)
      have HTV := hid (there_below HT1.out kV hz1)
      have HRV : Hid (Tlv.Rep W0.heap.size w1.heap.size V 9 t (.slice a1 l1 c1) (.slice a2 l2 c2)) := HRP.out.agree (Agree.below kV) (Nat.le_refl _) (Nat.le_refl _)
      obtain ⟨y0, y1, y2, y3, hy⟩ := tail4 (xs := xs) (m := m) (by omega)
      have HY := hid hy
      have HTK : Hid (nats (xs.take (m + 4)) = nats (xs.take m) ++ [y0, y1, y2, y3]) := by rw [Hid, ← hy, ← nats_append, List.take_add]
      clear hy kV h4
      have HCB : Hid (Crc.BySl b V (.slice a (m + 4) cap) (nats (xs.take m) ++ [y0, y1, y2, y3])) := by
        rw [Hid, ← HTK.out]
        exact toCrc (bySlS_take (BySlS.below H.out HKV.out (fun g hg => hg.2)) h4n) (fun g hg => ⟨hg.1, Nat.lt_of_lt_of_le hg.2 HKV.out.size⟩)
      obtain ⟨f, n, hf, ht⟩ := HT.out.below HKV.out
      have HOP := hid (Crc.open_any b f n (.slice a (m + 4) cap) (nats (xs.take m)) y0 y1 y2 y3 V hf ht HCB.out (by have := HML.out; rw [nats_length, List.length_take]; omega))
      clear ht hf HCB
      go_wp2_with fail
      refine HOP.out.mono ?_
      rintro e w2 ⟨hk2, ht2, v', q, rfl, hq⟩
      have HK2 : Hid (Kept b w w2) := (Kept.below HKV.out).trans hk2
      have HT2 : Hid (TabX w2 b) := TabX.of ht2
      have hbV : w.heap.size < V.heap.size := by omega
      have HH2 := hid (there_kept HTV.out hk2 hbV (by omega))
      have HHZ : Hid (w2.there w.heap.size 0 Z.toArray.size) := by rw [Hid, HZS.out]; exact HH2.out
      have hcb := fun j u hj => (hk2.cell (p := ⟨w1.heap.size, j, none⟩) hzV (by simp; omega)).trans (HBOX.out j u hj)
      have b0 := hcb 0 _ rfl
      have b1 := hcb 1 _ rfl
      have b2 := hcb 2 _ rfl
      have b3 := hcb 3 _ rfl
      have HR2 : Hid (Tlv.Rep W0.heap.size w1.heap.size w2 9 t (.slice a1 l1 c1) (.slice a2 l2 c2)) := HRV.out.agree (fun k h1 h2 => hk2.block k (by omega) (by omega)) (Nat.le_refl _) (Nat.le_refl _)
      have hz2 : V.heap.size ≤ w2.heap.size := hk2.size
      clear hk2 ht2 hcb HOP
      rcases hq with ⟨heq, rfl, hv⟩ | ⟨hne, rfl, rfl⟩
      rotate_left
      · have HE2 : Hid (takeF xs = noRec 4) := by
          rw [Hid, HE.out, if_neg (by omega), if_pos]
          intro hc
          apply hne
          rw [← HY.out, ← hc, sumI, nats_ints]
        clear hne HE
        go_wp2_with (refine wpList_store_mid (by rfl) 35 _ _ (by rfl) w.heap.size 0 Z.toArray (by rfl) (by rfl) HHZ.out HI2.out H1.out ?_)
        have hr : World.rangeAt (World.setCells w2 w.heap.size 0 Z) w.heap.size 0 Z := World.rangeAt_setCells_same _ _ _ _ HHZ.out
        refine bodyPost_ret (v := .tuple #[.agg Z.toArray, .int .i64 0, .int .i64 4]) (results_cell_mid3 Try.results19 _ _ w.heap.size 0 _ _ rfl hr Try.underlying35 rfl HI2.out) rfl ?_
        rw [HE2.out, ← HZ.out]
        exact took_none w _ 4 b (Kept.set HZB.out HK2.out) (HT2.out.set HZB.out)
      · have HE2 : Hid (takeF xs = match recOf t with
            | none => noRec 3
            | some r => (0, r, m + 4)) := by
          have hc : ¬ sumI (xs.take m) ≠ (xs.drop m).take 4 := by
            intro hc
            apply hc
            rw [sumI, heq, ← HY.out, ints_nats]
            intro x hx
            exact HX.out x (List.mem_of_mem_drop (List.mem_of_mem_take hx))
          rw [Hid, HE.out, if_neg (by omega), if_neg hc]
          cases recOf t <;> rfl
        obtain ⟨av, cv, rfl, _⟩ := id hv
        clear heq HE hv
        go_wp2_with fail
        refine (record_any t _ _ W0.heap.size w1.heap.size w2 HR2.out (by omega) HBZ.out).mono ?_
        rintro e w3 ⟨hres, hb3⟩
        have HK3 : Hid (Kept b w w3) := Kept.then HK2.out (hb3.mono (by omega))
        have HT3 := hid (HT2.out.below hb3)
        have HH3 := hid (there_below HH2.out hb3 (by omega))
        have hz3 : w2.heap.size ≤ w3.heap.size := hb3.size
        clear hb3
        rcases hres with ⟨hn, rfl⟩ | ⟨k, nm, bs, ar, cr, hs, rfl, hbs, hnl, hnx⟩
        · have HE3 : Hid (takeF xs = noRec 3) := by rw [Hid, HE2.out, hn]
          have HHZ3 : Hid (w3.there w.heap.size 0 Z.toArray.size) := by rw [Hid, HZS.out]; exact HH3.out
          have HHZ4 : Hid (World.there (w3.setCells w.heap.size 0 Z) w.heap.size 0 Z.toArray.size) := World.there_setCells HHZ3.out _ _ _
          have HK4 : Hid (Kept b w (w3.setCells w.heap.size 0 Z)) := Kept.set HZB.out HK3.out
          have HT4 : Hid (TabX (w3.setCells w.heap.size 0 Z) b) := HT3.out.set HZB.out
          clear hn HE2
          rw [HZ.out]
          go_wp2_with (first
            | (refine wpList_store_mid (by rfl) 35 _ _ (by rfl) w.heap.size 0 Z.toArray (by rfl) (by rfl) HHZ3.out HI2.out H1.out ?_)
            | (refine wpList_store_mid (by rfl) 35 _ _ (by rfl) w.heap.size 0 Z.toArray (by rfl) (by rfl) HHZ4.out HI2.out H1.out ?_))
          have hr : World.rangeAt (World.setCells (w3.setCells w.heap.size 0 Z) w.heap.size 0 Z) w.heap.size 0 Z := World.rangeAt_setCells_same _ _ _ _ HHZ4.out
          refine bodyPost_ret (v := .tuple #[.agg Z.toArray, .int .i64 0, .int .i64 3]) (results_cell_mid3 Try.results19 _ _ w.heap.size 0 _ _ rfl hr Try.underlying35 rfl HI2.out) rfl ?_
          rw [HE3.out, ← HZ.out]
          rw [← HZ.out] at HK4 HT4
          exact took_none w _ 3 b (Kept.set HZB.out HK4.out) (HT4.out.set HZB.out)
        · have HE3 : Hid (takeF xs = (0, (k, nm, bs), m + 4)) := by rw [Hid, HE2.out, hs]
          have HBS := hid hbs
          have HNX := hid (And.intro hnl hnx)
          have HCL := hid (recA_length k nm (.slice ar bs.length cr) hnl)
          have HCO := hid (recA_one k nm ar bs.length cr)
          clear hs HE2 hbs hnl hnx
          obtain ⟨C, hC⟩ : ∃ C, recA k nm (.slice ar bs.length cr) = C := ⟨_, rfl⟩
          rw [hC] at HCL HCO
          rw [hC]
          have HC := hid hC
          clear hC
          have HCS : Hid (C.toArray.size = 34) := HCL.out
          have HHZ3 : Hid (w3.there w.heap.size 0 C.toArray.size) := by rw [Hid, HCS.out]; exact HH3.out
          have HHZ4 : Hid (World.there (w3.setCells w.heap.size 0 C) w.heap.size 0 C.toArray.size) := World.there_setCells HHZ3.out _ _ _
          have HRG : Hid (World.rangeAt (w3.setCells w.heap.size 0 C) w.heap.size 0 C) := World.rangeAt_setCells_same _ _ _ _ HHZ3.out
          have HIC : Hid ((Try.prog.info? 35).map (·.size) = some C.length) := by rw [Hid, HCL.out]; exact Try.info35
          have HI3 : Hid ((Try.prog.info? 35).map (·.size) = some C.toArray.size) := HIC.out
          have H3 : Hid (C.toArray.all (·.oneCell') = true) := all_oneCell_toArray HCO.out
          go_wp2_with (first
            | (refine wpList_load_mid (by rfl) 35 _ (by rfl) w.heap.size 0 (by rfl) C _ HRG.out Try.underlying35 rfl HIC.out ?_)
            | (refine wpList_store_mid (by rfl) 35 _ _ (by rfl) w.heap.size 0 C.toArray (by rfl) (by rfl) HHZ3.out HI3.out H3.out ?_)
            | (refine wpList_store_mid (by rfl) 35 _ _ (by rfl) w.heap.size 0 C.toArray (by rfl) (by rfl) HHZ4.out HI3.out H3.out ?_))
          have hr : World.rangeAt (World.setCells (w3.setCells w.heap.size 0 C) w.heap.size 0 C) w.heap.size 0 C := World.rangeAt_setCells_same _ _ _ _ HHZ4.out
          refine bodyPost_ret (v := .tuple #[.agg C.toArray, .int .i64 ((m + 4 : Nat) : Int), .int .i64 0]) (results_cell_mid3 Try.results19 _ _ w.heap.size 0 _ _ rfl hr Try.underlying35 rfl HI3.out) rfl ?_
          rw [HE3.out]
          refine ⟨ar, cr, by rw [HC.out], ?_, HNX.out, Kept.set HZB.out (Kept.set HZB.out HK3.out), (HT3.out.set HZB.out).set HZB.out⟩
          have hblk : ∀ g, W0.heap.size ≤ g → (World.setCells (w3.setCells w.heap.size 0 C) w.heap.size 0 C).heap[g]? = w3.heap[g]? := fun g hg => by
            rw [setCells_block _ _ _ _ _ (by omega), setCells_block _ _ _ _ _ (by omega)]
          refine HBS.out.toS.agree (fun g hg => hblk g hg.1) (fun g hg => ⟨by omega, ?_⟩)
          rw [setCells_size, setCells_size]
          omega
end Go.Proofs.Ythbhdbjjobfchaa
