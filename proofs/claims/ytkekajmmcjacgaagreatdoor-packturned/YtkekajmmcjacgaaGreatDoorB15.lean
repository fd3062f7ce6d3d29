/- Of the proof: the texts FrRTake, FrRScan, FrTurned, FrBackR, SimUp, one behind the other. -/
import Derived.Test.YtkekajmmcjacgaaGreatDoorB11
import Derived.Test.YtkekajmmcjacgaaGreatDoorB14
import Derived.Test.YtkekajmmcjacgaaGreatDoorB10
import Derived.Test.YtkekajmmcjacgaaGreatDoorB12
section
/-
  The document's Take.
-/
namespace Go.Proofs.YtkekajmmcjacgaaGreatDoor
open Go.RowKit Go.Shelf
open Tlv (Tr BySlS AgreeS Agree)
open Crc (hid Kept Tab)

theorem built26b (k : Int) (a : Option Addr) (l c : Nat) : Tryz.prog.built 40 [(0, .int .i64 k), (2, .slice a l c)] = some (recA k (List.replicate 32 0) (.slice a l c)).toArray := by kernel_rfl

/-- What the document's Take leaves. -/
def Rook (w w' : World) (e : Ending) (x : Int × (Int × List Int × List Int) × Nat) : Prop :=
  ∃ a c, e = .returned (.tuple #[.agg (recA x.2.1.1 x.2.1.2.1 (.slice a x.2.1.2.2.length c)).toArray, .int .i64 (x.2.2 : Nat), .int .i64 x.1]) ∧
    BySlS (fun g => w.heap.size ≤ g ∧ g < w'.heap.size) w' (.slice a x.2.1.2.2.length c) x.2.1.2.2 ∧ (x.2.1.2.1.length = 32 ∧ ∀ y ∈ x.2.1.2.1, 0 ≤ y ∧ y ≤ 255) ∧ Below w.heap.size w w'

theorem recA_set (k : Int) (nm : List Int) (v : Value) (j : Nat) (y : Int) (hj : j < nm.length) : recA k (nm.set j y) v = (recA k nm v).set (1 + j) (.int .u8 y) := by
  rw [recA, recA, Nat.add_comm 1 j, List.set_cons_succ, List.set_append_left _ _ (by rw [u8s_length]; exact hj)]
  simp [u8s, List.map_set]

theorem Half.put {w W : World} {k : Int} {nm : List Int} {v : Value} {g : Nat} (h : Half w W k nm v g) (hn : nm.length = 32) (j : Nat) (hj : j < 32) (y : Int) : Half w (W.setCell ⟨g, 1 + j, none⟩ (.int .u8 y)) k (nm.set j y) v g := by
  obtain ⟨h1, h2, h3, h4, h5⟩ := h
  have e : W.setCells g (1 + j) [.int .u8 y] = W.setCell ⟨g, 1 + j, none⟩ (.int .u8 y) := rfl
  refine ⟨h1.setCell (p := ⟨g, 1 + j, none⟩) h2 _, h2, by simpa using h3, fun i u hi => ?_, by rw [← e]; exact World.there_setCells h5 _ _ _⟩
  rw [recA_set _ _ _ _ _ (by omega), List.getElem?_set] at hi
  rw [Nat.zero_add]
  by_cases hq : 1 + j = i
  · subst hq
    rw [if_pos rfl, if_pos (by rw [recA_length _ _ _ hn]; omega)] at hi
    obtain ⟨u', hs⟩ := Option.isSome_iff_exists.1 (h5 (1 + j) (by omega)).1
    rw [Nat.zero_add] at hs
    rw [World.cell?_setCell_same _ _ _ hs]
    exact hi
  · rw [if_neg hq] at hi
    rw [World.cell?_setCell_other _ _ _ _ (by simp only [ne_eq, Addr.mk.injEq, and_true, true_and]; omega)]
    have := h4 i u hi
    rwa [Nat.zero_add] at this

theorem set_next (bn : List Int) {j : Nat} (hl : bn.length = 32) (hj : j < 32) : bn.take (j + 1) ++ List.replicate (32 - (j + 1)) 0 = (bn.take j ++ List.replicate (32 - j) 0).set j (bn.getD j 0) := by
  have h1 : (bn.take j).length = j := by rw [List.length_take]; omega
  rw [List.set_append_right _ _ (by omega), h1, Nat.sub_self, show 32 - j = (32 - (j + 1)) + 1 by omega, List.replicate_succ, List.set_cons_zero, List.take_add_one, List.append_assoc]
  congr 1
  rw [List.getD_eq_getElem?_getD, List.getElem?_eq_getElem (by omega)]
  rfl

theorem rook_none (w w' : World) (f : Int) (hk : Below w.heap.size w w') : Rook w w' (.returned (.tuple #[.agg zRec.toArray, .int .i64 0, .int .i64 f])) (noRec f) := by
  refine ⟨none, 0, rfl, Tlv.BySlS.none _ _, ⟨by simp [noRec], ?_⟩, hk⟩
  intro y hy
  rw [(List.mem_replicate.1 hy).2]
  omega

set_option maxHeartbeats 2000000 in
set_option maxRecDepth 100000 in
theorem rtake_any (v : Value) (xs : List Int) (w : World) (h : Tlv.BySl 0 w.heap.size w v xs) (hw2 : 2 ≤ w.heap.size) (hl : xs.length ≤ 80000) :
    Calls Tryz.prog 88 #[v] w fun e w' => Rook w w' e (takeF xs) := by
  obtain ⟨a, cap, rfl, h2, h3, _, h5, h6, _⟩ := id h
  have H := hid h
  have HX := hid h6
  clear h h6
  have hz := zero26
  obtain ⟨Z, hZ⟩ : ∃ Z, zRec = Z := ⟨_, rfl⟩
  have HZ := hid hZ
  rw [hZ] at hz
  clear hZ
  have HZS : Hid (Z.toArray.size = 34) := by rw [← HZ.out]; rfl
  have HI2 : Hid ((Tryz.prog.info? 40).map (·.size) = some Z.toArray.size) := by rw [← HZ.out]; exact Tryz.info26
  have H1 : Hid (Z.toArray.all (·.oneCell') = true) := by rw [← HZ.out]; exact all_oneCell_toArray zRec_one
  have k0 : Below w.heap.size w (w.alloc (.cells Z.toArray 40)) := (Below.refl _ _).alloc (Nat.le_refl _) _
  have HTH : Hid (World.there (w.alloc (.cells Z.toArray 40)) w.heap.size 0 34) := by
    have h := there_new w Z 40
    rw [show Z.length = 34 from HZS.out] at h
    exact h
  have HK0 := hid k0
  have hz0 : w.heap.size < (w.alloc (.cells Z.toArray 40)).heap.size := by simp
  go_enter Tryz.func88, Tryz.ntmps88
  go_wp2_with fail
  obtain ⟨W0, hW0⟩ : ∃ W0, w.alloc (.cells Z.toArray 40) = W0 := ⟨_, rfl⟩
  rw [hW0] at HTH HK0 hz0
  rw [hW0]
  clear hW0 k0
  have HB0 : Hid (Tlv.BySl 0 W0.heap.size W0 (.slice a xs.length cap) xs) := H.out.agree (Agree.below HK0.out) (Nat.le_refl _) HK0.out.size
  refine (Tlv.refTake_any _ xs W0 HB0.out).mono ?_
  rintro e w1 ⟨hres, hb1⟩
  have HB1 : Hid (Below w.heap.size w w1) := HK0.out.trans (hb1.mono HK0.out.size)
  have HT1 := hid (there_below HTH.out hb1 hz0)
  have hz1 : w.heap.size < w1.heap.size := Nat.lt_of_lt_of_le hz0 hb1.size
  have hzz : W0.heap.size ≤ w1.heap.size := hb1.size
  clear hb1
  rcases hres with ⟨hn, rfl⟩ | ⟨t, m, sb, sk, vr, hs, rfl, hr, hvr⟩
  · have HE := hid (takeF_none hn)
    clear hn
    have HV : Hid (World.there (w1.alloc (.cells #[.int .i64 0, .int .u64 0, .slice none 0 0, .slice none 0 0] 225)) w.heap.size 0 Z.toArray.size) := by
      rw [Hid, HZS.out]
      exact there_below HT1.out ((Below.refl _ _).alloc (Nat.le_refl _) _) hz1
    have HKV : Hid (Below w.heap.size w (w1.alloc (.cells #[.int .i64 0, .int .u64 0, .slice none 0 0, .slice none 0 0] 225))) := HB1.out.alloc (by omega) _
    go_wp2_with (refine wpList_store_mid (by rfl) 40 _ _ (by rfl) w.heap.size 0 Z.toArray (by rfl) (by rfl) HV.out HI2.out H1.out ?_)
    have hr : World.rangeAt (World.setCells (w1.alloc (.cells #[.int .i64 0, .int .u64 0, .slice none 0 0, .slice none 0 0] 225)) w.heap.size 0 Z) w.heap.size 0 Z := World.rangeAt_setCells_same _ _ _ _ HV.out
    refine bodyPost_ret (v := .tuple #[.agg Z.toArray, .int .i64 0, .int .i64 16]) (results_cell_mid3 Tryz.results88 _ _ w.heap.size 0 _ _ rfl hr Tryz.underlying40 rfl HI2.out) rfl ?_
    rw [HE.out, ← HZ.out]
    exact rook_none w _ 16 (HKV.out.trans (setCells_below (Nat.le_refl _) _ _ _))
  · have HE := hid (takeF_some hs)
    have HM := hid (rd_end hs)
    have hm := Tlv.rd_pos hs
    have HBZ : Hid ((Tlv.bsz 9 t 65535 8).2 = true) := (Tlv.rd_form 8 xs t m HX.out hs).2
    have HGT : Hid (Tlv.getT (xs.take m) = some t) := by
      have h1 := HM.out
      have h3 := endOf_ge xs
      rw [Hid, h1, get_take (by omega) (by omega), hs]
      rfl
    obtain ⟨a1, l1, c1, a2, l2, c2, rfl, rfl⟩ := hr.sl
    obtain ⟨ar, cr, rfl, hvr'⟩ := id hvr
    have hdl : (xs.drop m).length = xs.length - m := List.length_drop
    rw [hdl]
    clear hs hr hvr hvr'
    obtain ⟨V, hV⟩ : ∃ V, w1.alloc (.cells #[.int .i64 t.hd.1, .int .u64 t.hd.2.1, .slice a1 l1 c1, .slice a2 l2 c2] 225) = V := ⟨_, rfl⟩
    have kV : Below w1.heap.size w1 V := by rw [← hV]; exact (Below.refl _ _).alloc (Nat.le_refl _) _
    have HKV : Hid (Below w.heap.size w V) := HB1.out.trans (kV.mono HB1.out.size)
    have HTV := hid (there_below HT1.out kV hz1)
    have hzV : w1.heap.size < V.heap.size := by rw [← hV]; simp
    by_cases h4 : xs.length - m < 4
    · have h4' : ((xs.length - m : Nat) : Int) < 4 := by omega
      have HE2 : Hid (takeF xs = noRec 16) := by rw [Hid, HE.out, if_pos h4]
      have HVZ : Hid (World.there V w.heap.size 0 Z.toArray.size) := by rw [Hid, HZS.out]; exact HTV.out
      clear HE
      go_wp2_with (refine wpList_store_mid (by rfl) 40 _ _ (by rfl) w.heap.size 0 Z.toArray (by rfl) (by rfl) HVZ.out HI2.out H1.out ?_)
      have hr : World.rangeAt (World.setCells V w.heap.size 0 Z) w.heap.size 0 Z := World.rangeAt_setCells_same _ _ _ _ HVZ.out
      refine bodyPost_ret (v := .tuple #[.agg Z.toArray, .int .i64 0, .int .i64 16]) (results_cell_mid3 Tryz.results88 _ _ w.heap.size 0 _ _ rfl hr Tryz.underlying40 rfl HI2.out) rfl ?_
      rw [HE2.out, ← HZ.out]
      exact rook_none w _ 16 (HKV.out.trans (setCells_below (Nat.le_refl _) _ _ _))
    · have h4' : (4 : Int) ≤ ((xs.length - m : Nat) : Int) := by omega
      have h4n : m + 4 ≤ xs.length := by omega
      have h4c : m + 4 ≤ cap := by omega
      have hsub : ((xs.length : Int) - ((xs.length - m : Nat) : Int)) = (m : Int) := by omega
      have HTK : Hid (nats (xs.take (m + 4)) = nats (xs.take m) ++ nats ((xs.drop m).take 4)) := by rw [Hid, ← nats_append, List.take_add]
      obtain ⟨bq, hbq, hcb⟩ := anyCrc (bySl_take (H.out.agree (Agree.below HKV.out) (Nat.le_refl _) HKV.out.size) h4n) (by omega) (Nat.le_refl _)
      rw [HTK.out] at hcb
      have hl4 : ((xs.drop m).take 4).length = 4 := by rw [List.length_take, List.length_drop]; omega
      have HOP := hid (Crc.refOpen_any bq _ (nats (xs.take m)) (nats ((xs.drop m).take 4)) V hbq hcb (by rw [nats_length, hl4]) (by rw [nats_length, List.length_take]; omega))
      clear hcb h4 kV
      go_wp2_with fail
      clear hV
      refine HOP.out.mono ?_
      rintro e w2 ⟨hk2, v', q, rfl, hq⟩
      have HK2 : Hid (Below w.heap.size w w2) := HKV.out.trans (hk2.mono HKV.out.size)
      have HH2 := hid (there_below HTV.out hk2 (by omega))
      have HHZ : Hid (w2.there w.heap.size 0 Z.toArray.size) := by rw [Hid, HZS.out]; exact HH2.out
      have hz2 : V.heap.size ≤ w2.heap.size := hk2.size
      clear hk2 HOP
      rcases hq with ⟨heq, rfl, hv⟩ | ⟨hne, rfl, rfl⟩
      rotate_left
      · have HE2 : Hid (takeF xs = noRec 4) := by
          rw [Hid, HE.out, if_neg (by omega), if_pos]
          intro hc
          apply hne
          rw [← hc, sumI, nats_ints]
        clear hne HE
        go_wp2_with (refine wpList_store_mid (by rfl) 40 _ _ (by rfl) w.heap.size 0 Z.toArray (by rfl) (by rfl) HHZ.out HI2.out H1.out ?_)
        have hr : World.rangeAt (World.setCells w2 w.heap.size 0 Z) w.heap.size 0 Z := World.rangeAt_setCells_same _ _ _ _ HHZ.out
        refine bodyPost_ret (v := .tuple #[.agg Z.toArray, .int .i64 0, .int .i64 4]) (results_cell_mid3 Tryz.results88 _ _ w.heap.size 0 _ _ rfl hr Tryz.underlying40 rfl HI2.out) rfl ?_
        rw [HE2.out, ← HZ.out]
        exact rook_none w _ 4 (HK2.out.trans (setCells_below (Nat.le_refl _) _ _ _))
      · have HE2 : Hid (takeF xs = match recOf t with
            | none => noRec 3
            | some r => (0, r, m + 4)) := by
          have hc : ¬ sumI (xs.take m) ≠ (xs.drop m).take 4 := by
            intro hc
            apply hc
            rw [sumI, heq, ints_nats]
            intro x hx
            exact HX.out x (List.mem_of_mem_drop (List.mem_of_mem_take hx))
          rw [Hid, HE.out, if_neg (by omega), if_neg hc]
          cases recOf t <;> rfl
        have hv2 := (ofCrc hv).to (B := w2.heap.size) (fun g hg => hg.2)
        rw [ints_nats _ (fun x hx => HX.out x (List.mem_of_mem_take hx))] at hv2
        obtain ⟨av, cv, rfl, hrest⟩ := id hv2
        have hlm : (xs.take m).length = m := by rw [List.length_take]; omega
        rw [hlm] at hv2
        rw [hlm]
        have HV2 := hid hv2
        clear heq HE hv hv2 hlm hrest
        go_wp2_with fail
        refine (Tlv.refGet_any _ _ _ HV2.out).mono ?_
        rintro e w3 ⟨hres, hb3⟩
        have HK3 : Hid (Below w.heap.size w w3) := HK2.out.trans (hb3.mono HK2.out.size)
        have HH3 := hid (there_below HH2.out hb3 (by omega))
        have hz3 : w2.heap.size ≤ w3.heap.size := hb3.size
        clear hb3
        rcases hres with ⟨hn, rfl⟩ | ⟨t', sb, sk, hs, rfl, hr⟩
        · exact absurd (HGT.out.symm.trans hn) (by simp)
        · have ht : t' = t := Option.some.inj (hs.symm.trans HGT.out)
          rw [ht] at hr
          rw [ht]
          have hrr : Tlv.RepS (fun b => w2.heap.size ≤ b ∧ b < w3.heap.size) w3 (8 + 1) t sb sk := hr
          obtain ⟨_, _, hby, hks⟩ := hrr
          obtain ⟨d1, f1, rfl, _⟩ := id hby
          obtain ⟨d2, f2, rfl, _, _, _, _, hk7⟩ := id hks
          clear hs hr hby hks
          obtain ⟨V3, hV3⟩ : ∃ V3, w3.alloc (.cells #[.int .i64 t.hd.1, .int .u64 t.hd.2.1, .slice d1 t.hd.2.2.length f1, .slice d2 t.kd.length f2] 225) = V3 := ⟨_, rfl⟩
          have kV3 : Below w3.heap.size w3 V3 := by rw [← hV3]; exact (Below.refl _ _).alloc (Nat.le_refl _) _
          have HKV3 : Hid (Below w.heap.size w V3) := HK3.out.trans (kV3.mono HK3.out.size)
          have HTV3 := hid (there_below HH3.out kV3 (by omega))
          have HVZ : Hid (World.there V3 w.heap.size 0 Z.toArray.size) := by rw [Hid, HZS.out]; exact HTV3.out
          have hzV3 : V3.heap.size = w3.heap.size + 1 := by rw [← hV3]; simp
          have n0 : V3.cell? ⟨w3.heap.size, 0, none⟩ = some (.int .i64 t.hd.1) := by rw [← hV3, World.cell?_alloc_at _ _ _ _ rfl]; rfl
          have n2 : V3.cell? ⟨w3.heap.size, 2, none⟩ = some (.slice d1 t.hd.2.2.length f1) := by rw [← hV3, World.cell?_alloc_at _ _ _ _ rfl]; rfl
          have n3 : V3.cell? ⟨w3.heap.size, 3, none⟩ = some (.slice d2 t.kd.length f2) := by rw [← hV3, World.cell?_alloc_at _ _ _ _ rfl]; rfl
          have kc := fun (g o : Nat) (hg : g < w3.heap.size) => kV3.cell (p := ⟨g, o, none⟩) hg
          have HK3V := hid kV3
          clear kV3 HB0 HTH HV2
          have hst : (storeCells ⟨w.heap.size, 0, none⟩ Z).run Tryz.prog V3 = .ok () (V3.setCells w.heap.size 0 Z) := by
            have h := run_storeCells_cells (P := Tryz.prog) w.heap.size 0 Z 0 V3 (fun j hj => by simpa using (HVZ.out j hj).1) (fun j hj => by simpa using (HVZ.out j hj).2) (fun v hv => zRec_one v (by rw [HZ.out]; exact hv))
            simpa using h
          by_cases h31 : t.hd.1 = 3
          rotate_left
          · have hrn : recOf t = none := by
              rw [recOf]
              split
              · rw [if_neg (fun h => h31 h.1)]
              · rfl
            have hne : (t.hd.1 != 3) = true := by simp [h31]
            have HE3 : Hid (takeF xs = noRec 3) := by rw [Hid, HE2.out, hrn]
            go_wp2_with fail
            have hr : World.rangeAt (World.setCells V3 w.heap.size 0 Z) w.heap.size 0 Z := World.rangeAt_setCells_same _ _ _ _ HVZ.out
            refine bodyPost_ret (v := .tuple #[.agg Z.toArray, .int .i64 0, .int .i64 3]) (results_cell_mid3 Tryz.results88 _ _ w.heap.size 0 _ _ rfl hr Tryz.underlying40 rfl HI2.out) rfl ?_
            rw [HE3.out, ← HZ.out]
            exact rook_none w _ 3 (HKV3.out.trans (setCells_below (Nat.le_refl _) _ _ _))
          by_cases h32 : t.kd.length = 3
          rotate_left
          · have hrn : recOf t = none := by
              rw [recOf]
              split
              · rename_i hq
                rw [hq] at h32
                simp at h32
              · rfl
            have hT3 : (t.hd.1 != 3) = false := by simp [h31]
            have hne : ((t.kd.length : Int) != 3) = true := by simp; omega
            clear h31
            have HE3 : Hid (takeF xs = noRec 3) := by rw [Hid, HE2.out, hrn]
            go_wp2_with fail
            have hr : World.rangeAt (World.setCells V3 w.heap.size 0 Z) w.heap.size 0 Z := World.rangeAt_setCells_same _ _ _ _ HVZ.out
            refine bodyPost_ret (v := .tuple #[.agg Z.toArray, .int .i64 0, .int .i64 3]) (results_cell_mid3 Tryz.results88 _ _ w.heap.size 0 _ _ rfl hr Tryz.underlying40 rfl HI2.out) rfl ?_
            rw [HE3.out, ← HZ.out]
            exact rook_none w _ 3 (HKV3.out.trans (setCells_below (Nat.le_refl _) _ _ _))
          obtain ⟨ka, kb, kc', hkd⟩ : ∃ ka kb kc, t.kd = [ka, kb, kc] := by
            match hq : t.kd with
            | [a, b, c] => exact ⟨a, b, c, rfl⟩
            | [] => rw [hq] at h32; simp at h32
            | [_] => rw [hq] at h32; simp at h32
            | [_, _] => rw [hq] at h32; simp at h32
            | _ :: _ :: _ :: _ :: _ => rw [hq] at h32; simp at h32
          have hRO : recOf t = if t.hd.1 = 3 ∧ ka.hd.1 = 1 ∧ kb.hd.1 = 2 ∧ kc'.hd.1 = 2 ∧ kb.hd.2.2.length = 32 ∧ 1 ≤ ka.hd.2.1 ∧ ka.hd.2.1 ≤ 9 ∧ kc'.hd.2.2.length ≤ 5000 then some (ka.hd.2.1, kb.hd.2.2, kc'.hd.2.2) else none := by rw [recOf, hkd]
          obtain ⟨bk, ok, rfl, hbk, hcell⟩ := hk7 (by rw [hkd]; simp)
          obtain ⟨sa, ska, a0, a1, a2, a3, ra⟩ := hcell 0 ka (by rw [hkd]; rfl)
          obtain ⟨sbb, skb, b0, b1, b2, b3, rb⟩ := hcell 1 kb (by rw [hkd]; rfl)
          obtain ⟨sc, skc, c0, c1, c2, c3, rc⟩ := hcell 2 kc' (by rw [hkd]; rfl)
          simp only [Nat.zero_mul, Nat.reduceMul, Nat.add_zero] at a0 a1 b0 b2 c0 c2
          obtain ⟨an0, an1, _, _⟩ := ra
          obtain ⟨_, _, bby, _⟩ := rb
          obtain ⟨_, _, cby, _⟩ := rc
          have HCB := hid cby
          have HBB := hid bby
          obtain ⟨abb, cbb, rfl, _, _, _, _, hb6, hb7⟩ := id bby
          have HBY : Hid (kb.hd.2.2 ≠ [] → ∃ gb ob, abb = some ⟨gb, ob, none⟩ ∧ gb < w3.heap.size ∧ ∀ i, i < kb.hd.2.2.length → V3.cell? ⟨gb, ob + i, none⟩ = some (.int .u8 (kb.hd.2.2.getD i 0))) := fun hne => by
            obtain ⟨gb, ob, e, hS, hc⟩ := hb7 hne
            exact ⟨gb, ob, e, hS.2, fun i hi => (kc gb _ hS.2).trans (hc i hi)⟩
          have HB6 := hid hb6
          clear hb6 hb7
          obtain ⟨ac, cc, rfl, _⟩ := id cby
          replace a0 := (kc bk _ hbk.2).trans a0
          replace a1 := (kc bk _ hbk.2).trans a1
          replace b0 := (kc bk _ hbk.2).trans b0
          replace b2 := (kc bk _ hbk.2).trans b2
          replace c0 := (kc bk _ hbk.2).trans c0
          replace c2 := (kc bk _ hbk.2).trans c2
          have hkb := hbk.2
          rw [h32] at n3
          have hT3 : (t.hd.1 != 3) = false := by simp [h31]
          clear hcell a2 a3 b1 b3 c1 c3 hk7 bby cby kc
          rw [h32] at hV3
          rw [h32]
          generalize kb.hd.2.2 = bn at *
          generalize kc'.hd.2.2 = cs at *
          generalize ka.hd.2.1 = num0 at *
          generalize ka.hd.1 = tga at *
          generalize kb.hd.1 = tgb at *
          generalize kc'.hd.1 = tgc at *
          generalize t.hd.2.2 = tbs at *
          generalize t.hd.2.1 = tnum at *
          generalize t.hd.1 = tag at *
          subst h31
          by_cases q0 : tga = 1
          rotate_left
          · have hrn : recOf t = none := by rw [hRO, if_neg (fun h => q0 h.2.1)]
            have hn0 : (tga != 1) = true := by simp; omega
            have HE3 : Hid (takeF xs = noRec 3) := by rw [Hid, HE2.out, hrn]
            go_wp2_with fail
            have hr : World.rangeAt (World.setCells V3 w.heap.size 0 Z) w.heap.size 0 Z := World.rangeAt_setCells_same _ _ _ _ HVZ.out
            refine bodyPost_ret (v := .tuple #[.agg Z.toArray, .int .i64 0, .int .i64 3]) (results_cell_mid3 Tryz.results88 _ _ w.heap.size 0 _ _ rfl hr Tryz.underlying40 rfl HI2.out) rfl ?_
            rw [HE3.out, ← HZ.out]
            exact rook_none w _ 3 (HKV3.out.trans (setCells_below (Nat.le_refl _) _ _ _))
          have hn0 : (tga != 1) = false := by simp; omega
          by_cases q1 : tgb = 2
          rotate_left
          · have hrn : recOf t = none := by rw [hRO, if_neg (fun h => q1 h.2.2.1)]
            have hn1 : (tgb != 2) = true := by simp; omega
            have HE3 : Hid (takeF xs = noRec 3) := by rw [Hid, HE2.out, hrn]
            go_wp2_with fail
            have hr : World.rangeAt (World.setCells V3 w.heap.size 0 Z) w.heap.size 0 Z := World.rangeAt_setCells_same _ _ _ _ HVZ.out
            refine bodyPost_ret (v := .tuple #[.agg Z.toArray, .int .i64 0, .int .i64 3]) (results_cell_mid3 Tryz.results88 _ _ w.heap.size 0 _ _ rfl hr Tryz.underlying40 rfl HI2.out) rfl ?_
            rw [HE3.out, ← HZ.out]
            exact rook_none w _ 3 (HKV3.out.trans (setCells_below (Nat.le_refl _) _ _ _))
          have hn1 : (tgb != 2) = false := by simp; omega
          by_cases q2 : tgc = 2
          rotate_left
          · have hrn : recOf t = none := by rw [hRO, if_neg (fun h => q2 h.2.2.2.1)]
            have hn2 : (tgc != 2) = true := by simp; omega
            have HE3 : Hid (takeF xs = noRec 3) := by rw [Hid, HE2.out, hrn]
            go_wp2_with fail
            have hr : World.rangeAt (World.setCells V3 w.heap.size 0 Z) w.heap.size 0 Z := World.rangeAt_setCells_same _ _ _ _ HVZ.out
            refine bodyPost_ret (v := .tuple #[.agg Z.toArray, .int .i64 0, .int .i64 3]) (results_cell_mid3 Tryz.results88 _ _ w.heap.size 0 _ _ rfl hr Tryz.underlying40 rfl HI2.out) rfl ?_
            rw [HE3.out, ← HZ.out]
            exact rook_none w _ 3 (HKV3.out.trans (setCells_below (Nat.le_refl _) _ _ _))
          have hn2 : (tgc != 2) = false := by simp; omega
          by_cases q3 : bn.length = 32
          rotate_left
          · have hrn : recOf t = none := by rw [hRO, if_neg (fun h => q3 h.2.2.2.2.1)]
            have hn3 : ((bn.length : Int) != 32) = true := by simp; omega
            have HE3 : Hid (takeF xs = noRec 3) := by rw [Hid, HE2.out, hrn]
            go_wp2_with fail
            have hr : World.rangeAt (World.setCells V3 w.heap.size 0 Z) w.heap.size 0 Z := World.rangeAt_setCells_same _ _ _ _ HVZ.out
            refine bodyPost_ret (v := .tuple #[.agg Z.toArray, .int .i64 0, .int .i64 3]) (results_cell_mid3 Tryz.results88 _ _ w.heap.size 0 _ _ rfl hr Tryz.underlying40 rfl HI2.out) rfl ?_
            rw [HE3.out, ← HZ.out]
            exact rook_none w _ 3 (HKV3.out.trans (setCells_below (Nat.le_refl _) _ _ _))
          have hn3 : ((bn.length : Int) != 32) = false := by simp; omega
          by_cases q4 : num0 ≤ 9
          rotate_left
          · have hrn : recOf t = none := by rw [hRO, if_neg (fun h => q4 h.2.2.2.2.2.2.1)]
            have hn4 : 9 < num0 := by omega
            have HE3 : Hid (takeF xs = noRec 3) := by rw [Hid, HE2.out, hrn]
            go_wp2_with fail
            have hr : World.rangeAt (World.setCells V3 w.heap.size 0 Z) w.heap.size 0 Z := World.rangeAt_setCells_same _ _ _ _ HVZ.out
            refine bodyPost_ret (v := .tuple #[.agg Z.toArray, .int .i64 0, .int .i64 3]) (results_cell_mid3 Tryz.results88 _ _ w.heap.size 0 _ _ rfl hr Tryz.underlying40 rfl HI2.out) rfl ?_
            rw [HE3.out, ← HZ.out]
            exact rook_none w _ 3 (HKV3.out.trans (setCells_below (Nat.le_refl _) _ _ _))
          have HALLC := hid (And.intro hRO (And.intro q0 (And.intro q1 (And.intro q2 (And.intro q3 q4)))))
          go_wp2_with fail
          clear hV3 hst
          have hzb1 : w3.heap.size < V3.heap.size := by omega
          have hzb2 : bk < V3.heap.size := by omega
          have HSZ3 := hid hzV3
          clear hzV3
          go_cut [12] (fun p wx => ∃ g, p = .pointer (some ⟨g, 0, none⟩) ∧ Hid (Half V3 wx num0 (List.replicate 32 0) (.slice ac cs.length cc) g))
          case first =>
            obtain ⟨C0, hC0⟩ : ∃ C0, recA num0 (List.replicate 32 0) (.slice ac cs.length cc) = C0 := ⟨_, rfl⟩
            have HC0L : Hid (C0.length = 34) := by rw [← hC0]; exact recA_length _ _ _ (by simp)
            have HBU : Hid (Tryz.prog.built 40 [(0, .int .i64 num0), (2, .slice ac cs.length cc)] = some C0.toArray) := by rw [← hC0]; exact built26b _ _ _ _
            have HI0 : Hid ((Tryz.prog.info? 40).map (·.size) = some C0.toArray.size) := by rw [Hid, show C0.toArray.size = 34 from HC0L.out]; exact Tryz.info26
            have H10 : Hid (C0.toArray.all (·.oneCell') = true) := by rw [← hC0]; exact all_oneCell_toArray (recA_one _ _ _ _ _)
            have HT0 : Hid (World.there (V3.drew.alloc (.cells Z.toArray 40)) V3.heap.size 0 C0.toArray.size) := by
              have h := there_new V3.drew Z 40
              rw [← HZ.out, zRec_length] at h
              rw [Hid, show C0.toArray.size = 34 from HC0L.out, ← HZ.out]
              exact h
            have HS1 : Hid (Below V3.heap.size V3 (V3.drew.alloc (.cells Z.toArray 40))) := (Below.refl _ _).drew.alloc (Nat.le_refl _) _
            have HS2 : Hid (Below V3.heap.size V3 ((V3.drew.alloc (.cells Z.toArray 40)).setCells V3.heap.size 0 C0)) := HS1.out.trans (setCells_below (Nat.le_refl _) _ _ _)
            have HALF : Hid (Half V3 ((V3.drew.alloc (.cells Z.toArray 40)).setCells V3.heap.size 0 C0) num0 (List.replicate 32 0) (.slice ac cs.length cc) V3.heap.size) := by
              refine ⟨HS2.out, Nat.le_refl _, by rw [setCells_size]; simp, ?_, ?_⟩
              · rw [hC0]
                exact World.rangeAt_setCells_same _ _ _ _ HT0.out
              · have h := World.there_setCells HT0.out V3.heap.size 0 C0
                rwa [show C0.toArray.size = 34 from HC0L.out] at h
            clear hC0
            have hkw : IntKind.i64.wrap num0 = num0 := by rw [IntKind.wrap_i64]; omega
            refine wp_region_held_drew (S := fun V => Below V3.heap.size V3 V) (by kernel_rfl) (Below.refl _ _).drew (fun hHeld => ?_)
            refine wpAnyH_take (i := 0) (oi := { dst := some 101, op := Op.fieldAddr 225 (Operand.tmp 10) 3, type := 0, pos := "ref.go:51", after := #[], guard := none }) (v := .pointer (some ⟨w3.heap.size, 3, none⟩)) rfl (by kernel_rfl) (by kernel_rfl) (by kernel_rfl) (fun _ _ _ h => h) (Or.inl ⟨by rfl, fun w' hw' => by (clear hw'; go_simp)⟩) hHeld ?_
            simp only [Act.put, List.setIfInBounds_toArray, List.set_cons_zero, List.set_cons_succ]
            refine wpAnyH_take (i := 1) (oi := { dst := some 102, op := Op.load 223 (Operand.tmp 101), type := 223, pos := "ref.go:51", after := #[{ on := 0, ground := Ground.data }], guard := none }) (v := .slice (some ⟨bk, ok, none⟩) 3 f2) rfl (by kernel_rfl) (by kernel_rfl) (by kernel_rfl) (fun _ _ _ h => h) (Or.inl ⟨by rfl, fun w' hw' => by (have q := (hw'.cell (p := ⟨w3.heap.size, 3, none⟩) hzb1).trans n3; clear hw'; go_simp)⟩) hHeld ?_
            simp only [Act.put, List.setIfInBounds_toArray, List.set_cons_zero, List.set_cons_succ]
            refine wpAnyH_take (i := 2) (oi := { dst := some 103, op := Op.indexAddr 223 (Operand.tmp 102) (Operand.const (Value.int IntKind.i64 0)), type := 0, pos := "ref.go:51", after := #[{ on := 1, ground := Ground.data }], guard := none }) (v := .pointer (some ⟨bk, ok, none⟩)) rfl (by kernel_rfl) (by kernel_rfl) (by kernel_rfl) (fun _ _ _ h => h) (Or.inl ⟨by rfl, fun w' hw' => by (clear hw'; go_simp)⟩) hHeld ?_
            simp only [Act.put, List.setIfInBounds_toArray, List.set_cons_zero, List.set_cons_succ]
            refine wpAnyH_take (i := 3) (oi := { dst := some 104, op := Op.fieldAddr 225 (Operand.tmp 103) 1, type := 0, pos := "ref.go:51", after := #[{ on := 2, ground := Ground.data }], guard := none }) (v := .pointer (some ⟨bk, ok + 1, none⟩)) rfl (by kernel_rfl) (by kernel_rfl) (by kernel_rfl) (fun _ _ _ h => h) (Or.inl ⟨by rfl, fun w' hw' => by (clear hw'; go_simp)⟩) hHeld ?_
            simp only [Act.put, List.setIfInBounds_toArray, List.set_cons_zero, List.set_cons_succ]
            refine wpAnyH_take (i := 4) (oi := { dst := some 105, op := Op.load 215 (Operand.tmp 104), type := 215, pos := "ref.go:51", after := #[{ on := 3, ground := Ground.data }], guard := none }) (v := .int .u64 num0) rfl (by kernel_rfl) (by kernel_rfl) (by kernel_rfl) (fun _ _ _ h => h) (Or.inl ⟨by rfl, fun w' hw' => by (have q := (hw'.cell (p := ⟨bk, ok + 1, none⟩) hzb2).trans a1; clear hw'; go_simp)⟩) hHeld ?_
            simp only [Act.put, List.setIfInBounds_toArray, List.set_cons_zero, List.set_cons_succ]
            refine wpAnyH_take (i := 5) (oi := { dst := some 106, op := Op.convert 215 3 (Operand.tmp 105), type := 3, pos := "ref.go:51", after := #[{ on := 4, ground := Ground.data }], guard := none }) (v := .int .i64 num0) rfl (by kernel_rfl) (by kernel_rfl) (by kernel_rfl) (fun _ _ _ h => h) (Or.inl ⟨by rfl, fun w' hw' => by (clear hw'; go_simp)⟩) hHeld ?_
            simp only [Act.put, List.setIfInBounds_toArray, List.set_cons_zero, List.set_cons_succ]
            refine wpAnyH_take (i := 6) (oi := { dst := some 107, op := Op.fieldAddr 225 (Operand.tmp 10) 3, type := 0, pos := "ref.go:51", after := #[], guard := none }) (v := .pointer (some ⟨w3.heap.size, 3, none⟩)) rfl (by kernel_rfl) (by kernel_rfl) (by kernel_rfl) (fun _ _ _ h => h) (Or.inl ⟨by rfl, fun w' hw' => by (clear hw'; go_simp)⟩) hHeld ?_
            simp only [Act.put, List.setIfInBounds_toArray, List.set_cons_zero, List.set_cons_succ]
            refine wpAnyH_take (i := 7) (oi := { dst := some 108, op := Op.load 223 (Operand.tmp 107), type := 223, pos := "ref.go:51", after := #[{ on := 6, ground := Ground.data }], guard := none }) (v := .slice (some ⟨bk, ok, none⟩) 3 f2) rfl (by kernel_rfl) (by kernel_rfl) (by kernel_rfl) (fun _ _ _ h => h) (Or.inl ⟨by rfl, fun w' hw' => by (have q := (hw'.cell (p := ⟨w3.heap.size, 3, none⟩) hzb1).trans n3; clear hw'; go_simp)⟩) hHeld ?_
            simp only [Act.put, List.setIfInBounds_toArray, List.set_cons_zero, List.set_cons_succ]
            refine wpAnyH_take (i := 8) (oi := { dst := some 109, op := Op.indexAddr 223 (Operand.tmp 108) (Operand.const (Value.int IntKind.i64 2)), type := 0, pos := "ref.go:51", after := #[{ on := 7, ground := Ground.data }], guard := none }) (v := .pointer (some ⟨bk, ok + 8, none⟩)) rfl (by kernel_rfl) (by kernel_rfl) (by kernel_rfl) (fun _ _ _ h => h) (Or.inl ⟨by rfl, fun w' hw' => by (clear hw'; go_simp)⟩) hHeld ?_
            simp only [Act.put, List.setIfInBounds_toArray, List.set_cons_zero, List.set_cons_succ]
            refine wpAnyH_take (i := 9) (oi := { dst := some 110, op := Op.fieldAddr 225 (Operand.tmp 109) 2, type := 0, pos := "ref.go:51", after := #[{ on := 8, ground := Ground.data }], guard := none }) (v := .pointer (some ⟨bk, ok + 8 + 2, none⟩)) rfl (by kernel_rfl) (by kernel_rfl) (by kernel_rfl) (fun _ _ _ h => h) (Or.inl ⟨by rfl, fun w' hw' => by (clear hw'; go_simp)⟩) hHeld ?_
            simp only [Act.put, List.setIfInBounds_toArray, List.set_cons_zero, List.set_cons_succ]
            refine wpAnyH_take (i := 10) (oi := { dst := some 111, op := Op.load 38 (Operand.tmp 110), type := 38, pos := "ref.go:51", after := #[{ on := 9, ground := Ground.data }], guard := none }) (v := .slice ac cs.length cc) rfl (by kernel_rfl) (by kernel_rfl) (by kernel_rfl) (fun _ _ _ h => h) (Or.inl ⟨by rfl, fun w' hw' => by (have q := (hw'.cell (p := ⟨bk, ok + 8 + 2, none⟩) hzb2).trans c2; clear hw'; go_simp)⟩) hHeld ?_
            simp only [Act.put, List.setIfInBounds_toArray, List.set_cons_zero, List.set_cons_succ]
            refine wpAnyH_take (i := 11) (oi := { dst := some 112, op := Op.build 40 #[(0, Operand.tmp 106), (2, Operand.tmp 111)], type := 40, pos := "ref.go:51", after := #[{ on := 5, ground := Ground.data }, { on := 10, ground := Ground.data }], guard := none }) (v := .agg C0.toArray) rfl (by kernel_rfl) (by kernel_rfl) (by kernel_rfl) (fun _ _ _ h => h) (yields_build2 (by rfl) _ _ _ _ _ rfl _ _ rfl rfl _ HBU.out) hHeld ?_
            simp only [Act.put, List.setIfInBounds_toArray, List.set_cons_zero, List.set_cons_succ]
            refine wpAnyH_ready (rs := [12]) (by kernel_rfl) (by simp) ?_
            refine AllReadyH.cons (o := { dst := some 12, op := Op.alloc 40, type := 0, pos := "ref.go:51", after := #[], guard := none }) rfl (fun K hK => ?_) AllReadyH.nil
            go_simp
            refine hK.out _ _ HS1.out (fun hh => ?_)
            clear hK K hHeld
            have hHeld := hh
            clear hh
            try simp only [Act.put, List.setIfInBounds_toArray, List.set_cons_zero, List.set_cons_succ]
            refine wpAnyH_ready (rs := [13]) (by kernel_rfl) (by simp) ?_
            refine AllReadyH.cons (o := { dst := none, op := Op.store 40 (Operand.tmp 12) (Operand.tmp 112), type := 0, pos := "ref.go:51", after := #[{ on := 12, ground := Ground.data }, { on := 11, ground := Ground.data }, { on := 0, ground := Ground.phase }, { on := 1, ground := Ground.phase }, { on := 2, ground := Ground.phase }, { on := 3, ground := Ground.phase }, { on := 4, ground := Ground.phase }, { on := 5, ground := Ground.phase }, { on := 6, ground := Ground.phase }, { on := 7, ground := Ground.phase }, { on := 8, ground := Ground.phase }, { on := 9, ground := Ground.phase }, { on := 10, ground := Ground.phase }, { on := 11, ground := Ground.phase }, { on := 12, ground := Ground.phase }], guard := none }) rfl (fun K hK => ?_) AllReadyH.nil
            rw [if_pos (by rfl)]
            refine wp_store_mid 40 _ _ (by rfl) V3.heap.size 0 C0.toArray (by rfl) (by rfl) HT0.out HI0.out H10.out ?_
            refine hK.out _ _ HS2.out (fun hh => ?_)
            clear hK K hHeld hh
            refine wpAnyH_done (by kernel_rfl) ?_ _
            go_wp2_with fail
            go_meet
            exact ⟨_, rfl, HALF.out⟩
          case rest =>
            obtain ⟨g, rfl, HALF⟩ := hcut
            have HBN := hid (And.intro hn3 (And.intro q3 (And.intro n3 b2)))
            have HZQ := hid hz
            clear n0 n2 a0 a1 b0 c0 c2 hn0 hn1 hn2 hT3 hz
            go_wp2_with fail
            go_loopw [13] (fun i wr => ∃ j : Nat, j ≤ 32 ∧ i = .int .i64 (j : Int) ∧ Hid (Half V3 wr num0 (bn.take j ++ List.replicate (32 - j) 0) (.slice ac cs.length cc) g)) (fun i _ => 32 - (intOf i).toNat)
            case atStart => exact ⟨0, by omega, rfl, by simpa using HALF⟩
            case round =>
              obtain ⟨j, hj, rfl, HJ⟩ := hrel
              have hbl : bn.length = 32 := q3
              obtain ⟨hb1, hg0, hg1, hr1, ht1⟩ := HJ.out
              by_cases hlt : j < 32
              · obtain ⟨gb, ob, rfl, hgb, hcb⟩ := HBY.out (by intro e; rw [e] at hbl; simp at hbl)
                have m3 := (hb1.cell (p := ⟨w3.heap.size, 3, none⟩) hzb1).trans n3
                have mb := (hb1.cell (p := ⟨bk, ok + 4 + 2, none⟩) hzb2).trans b2
                have my := (hb1.cell (p := ⟨gb, ob + j, none⟩) (by show gb < _; omega)).trans (hcb j (by omega))
                obtain ⟨u, hu⟩ := Option.isSome_iff_exists.1 (ht1 (1 + j) (by omega)).1
                have hfz := (ht1 (1 + j) (by omega)).2
                rw [Nat.zero_add] at hu hfz
                rw [hbl] at mb
                have HSET : Hid (bn.take (j + 1) ++ List.replicate (32 - (j + 1)) 0 = (bn.take j ++ List.replicate (32 - j) 0).set j (bn.getD j 0)) := set_next bn hbl hlt
                have HPUT := hid (HJ.out.put (by simp; omega) j hlt (bn.getD j 0))
                have hyb := HB6.out (bn.getD j 0) (by rw [List.getD_eq_getElem?_getD, List.getElem?_eq_getElem (by omega)]; simp)
                generalize bn.getD j 0 = y at *
                have hji : (j : Int) < 32 := by omega
                clear hb1 hr1 ht1 hcb n3 b2
                go_wp2_with fail
                refine ⟨⟨j + 1, by omega, by go_num, ?_⟩, by simp [intOf]; omega⟩
                rw [HSET.out]
                exact HPUT
              · have hj32 : j = 32 := by omega
                subst hj32
                have ebn : bn.take 32 ++ List.replicate (32 - 32) 0 = bn := by rw [List.take_of_length_le (by omega)]; simp
                rw [ebn] at hr1
                have HKW : Hid (Below w.heap.size w wr) := HKV3.out.trans (hb1.mono HKV3.out.size)
                have HTW := hid (there_below HTV3.out hb1 (by omega))
                have HCL := hid (recA_length num0 bn (.slice ac cs.length cc) hbl)
                have HCO := hid (recA_one num0 bn ac cs.length cc)
                have HC0 := hid (recA_0 num0 bn (.slice ac cs.length cc))
                have HC33 := hid (recA_33 num0 bn (.slice ac cs.length cc) hbl)
                obtain ⟨C, hC⟩ : ∃ C, recA num0 bn (.slice ac cs.length cc) = C := ⟨_, rfl⟩
                have HCC := hid hC
                rw [hC] at hr1 HCL HCO HC0 HC33
                have HRG := hid hr1
                have HIC : Hid ((Tryz.prog.info? 40).map (·.size) = some C.length) := by rw [Hid, HCL.out]; exact Tryz.info26
                have HW := hid (And.intro hb1 (And.intro hg0 hg1))
                clear hb1 hr1 ht1 hC n3 b2 hlt ebn
                go_wp2_with (refine wpList_load_mid (by rfl) 40 _ (by rfl) g 0 (by rfl) C _ HRG.out Tryz.underlying40 rfl HIC.out ?_)
                refine (right14_any C num0 _ _ _ _ HC0.out HC33.out).mono ?_
                rintro e w4 ⟨rfl, hb4⟩
                obtain ⟨hb1, hg0, hg1⟩ := HW.out
                obtain ⟨hRO, p0, p1, p2, p3, p4⟩ := HALLC.out
                have hzr := hb1.size
                have hzw : w.heap.size < wr.heap.size := by omega
                have HK4 : Hid (Below w.heap.size w w4) := HKW.out.trans (hb4.mono HKW.out.size)
                have HT4 := hid (there_below HTW.out hb4 hzw)
                have hz := HZQ.out
                by_cases hR : rightB num0 cs.length = true
                · have hRb := hR
                  simp only [rightB, Bool.and_eq_true, decide_eq_true_eq] at hRb
                  have HE3 : Hid (takeF xs = (0, (num0, bn, cs), m + 4)) := by rw [Hid, HE2.out, hRO, if_pos (by first | exact ⟨rfl, p0, p1, p2, p3, hRb.1, p4, by omega⟩ | exact ⟨trivial, p0, p1, p2, p3, hRb.1, p4, by omega⟩ | (simp [p0, p1, p2, p3, p4]; omega))]
                  have HRG4 := hid (rangeAt_below HRG.out hb4 hg1)
                  have HTC : Hid (w4.there w.heap.size 0 C.length) := by rw [Hid, HCL.out]; exact HT4.out
                  have hstC : (storeCells ⟨w.heap.size, 0, none⟩ C).run Tryz.prog w4 = .ok () (w4.setCells w.heap.size 0 C) := by
                    have h := run_storeCells_cells (P := Tryz.prog) w.heap.size 0 C 0 w4 (fun j hj => by simpa using (HTC.out j hj).1) (fun j hj => by simpa using (HTC.out j hj).2) HCO.out
                    simpa using h
                  have HI3 : Hid ((Tryz.prog.info? 40).map (·.size) = some C.toArray.size) := HIC.out
                  have H3 : Hid (C.toArray.all (·.oneCell') = true) := all_oneCell_toArray HCO.out
                  have HB4 := hid (And.intro hb1 hb4)
                  have HRF : Hid (World.rangeAt (w4.setCells w.heap.size 0 C) w.heap.size 0 C) := World.rangeAt_setCells_same _ _ _ _ HTC.out
                  clear hb1 hb4 hRO p0 p1 p2 p3 p4 hRb
                  rw [hR]
                  go_wp2_with (first
                    | (refine wpList_load_mid (by rfl) 40 (.tmp 12) (by rfl) g 0 (by rfl) C _ HRG4.out Tryz.underlying40 rfl HIC.out ?_)
                    | (refine wpList_store_mid (by rfl) 40 (.tmp 2) _ (by rfl) w.heap.size 0 C.toArray (by rfl) (by rfl) HTC.out HI3.out H3.out ?_))
                  refine bodyPost_ret (v := .tuple #[.agg C.toArray, .int .i64 ((m + 4 : Nat) : Int), .int .i64 0]) (results_cell_mid3 Tryz.results88 _ _ w.heap.size 0 _ _ rfl HRF.out Tryz.underlying40 rfl HIC.out) rfl ?_
                  obtain ⟨hb1, hb4⟩ := HB4.out
                  have hs4 := hb4.size
                  have h3V := HK3V.out
                  have h3s := h3V.size
                  rw [HE3.out]
                  refine ⟨ac, cc, by rw [HCC.out], HCB.out.agree (fun q hq => ?_) (fun q hq => ⟨by omega, by rw [setCells_size]; omega⟩), ⟨hbl, HB6.out⟩, HK4.out.trans (setCells_below (Nat.le_refl _) _ _ _)⟩
                  rw [setCells_block _ _ _ _ _ (by omega), hb4.block q (by omega), hb1.block q (by omega), h3V.block q hq.2]
                · have HE3 : Hid (takeF xs = noRec 3) := by
                    rw [Hid, HE2.out, hRO, if_neg]
                    rintro ⟨_, _, _, _, _, x1, x2, x3⟩
                    exact hR (by simp [rightB]; omega)
                  have HVZ4 : Hid (w4.there w.heap.size 0 Z.toArray.size) := by rw [Hid, HZS.out]; exact HT4.out
                  have hst : (storeCells ⟨w.heap.size, 0, none⟩ Z).run Tryz.prog w4 = .ok () (w4.setCells w.heap.size 0 Z) := by
                    have h := run_storeCells_cells (P := Tryz.prog) w.heap.size 0 Z 0 w4 (fun j hj => by simpa using (HVZ4.out j hj).1) (fun j hj => by simpa using (HVZ4.out j hj).2) (fun v hv => zRec_one v (by rw [HZ.out]; exact hv))
                    simpa using h
                  have hRf : rightB num0 cs.length = false := by simpa using hR
                  clear hb1 hb4 hRO p0 p1 p2 p3 p4 hR
                  rw [hRf]
                  go_wp2_with fail
                  have hr : World.rangeAt (w4.setCells w.heap.size 0 Z) w.heap.size 0 Z := World.rangeAt_setCells_same _ _ _ _ HVZ4.out
                  refine bodyPost_ret (v := .tuple #[.agg Z.toArray, .int .i64 0, .int .i64 3]) (results_cell_mid3 Tryz.results88 _ _ w.heap.size 0 _ _ rfl hr Tryz.underlying40 rfl HI2.out) rfl ?_
                  rw [HE3.out, ← HZ.out]
                  exact rook_none w _ 3 (HK4.out.trans (setCells_below (Nat.le_refl _) _ _ _))

end Go.Proofs.YtkekajmmcjacgaaGreatDoor
end

section
/-
  The document's Scan.
-/
namespace Go.Proofs.YtkekajmmcjacgaaGreatDoor
open Go.RowKit Go.Shelf
open Tlv (Tr BySlS AgreeS Agree)
open Crc (hid Kept Tab)

theorem wpList_val {P : Program} {ops : Array Oper} {rest : List Oper} {o : Oper} {a : Act} {Q : Exit → Act → World → Prop} {w w' : World} {v : Value} (hgd : o.guard = none) (hr : (execOp a.eval o).run P w = .ok (.value v) w') (h : wpList P ops Q rest (a.put o.dst v) w') : wpList P ops Q (o :: rest) a w :=
  wpList_plain hgd fun _ hK => by unfold Oper.wp; rw [hr]; exact hK _ _ h

theorem rinfo' : (Tryz.prog.info? 172).map (fun i => (i.zero, i.size, i.bytes)) = some (some (.agg zPl.toArray), 36, 80) := by kernel_rfl
theorem rrun_onepl (p n : Nat) (k : Int) (nm : List Int) (a : Option Addr) (l c : Nat) (hn : nm.length = 32) (w : World) :
    (Instr.buildSlice 59 1 #[(0, .agg (placedA p n (recA k nm (.slice a l c))).toArray)]).run Tryz.prog w =
      .ok (.slice (some ⟨w.heap.size, 0, none⟩) 1 1) (w.alloc (.cells (placedA p n (recA k nm (.slice a l c))).toArray 172)) := by
  obtain ⟨x0, x1, x2, x3, x4, x5, x6, x7, x8, x9, x10, x11, x12, x13, x14, x15, x16, x17, x18, x19, x20, x21, x22, x23, x24, x25, x26, x27, x28, x29, x30, x31, rfl⟩ := ex32 hn
  kernel_rfl
theorem rbuilt (p n : Nat) (k : Int) (nm : List Int) (h : nm.length = 32) (a : Option Addr) (l c : Nat) : Tryz.prog.built 172 [(0, .int .i64 (p : Int)), (1, .int .i64 (n : Int)), (2, .agg (recA k nm (.slice a l c)).toArray)] = some (placedA p n (recA k nm (.slice a l c))).toArray := by
  obtain ⟨x0, x1, x2, x3, x4, x5, x6, x7, x8, x9, x10, x11, x12, x13, x14, x15, x16, x17, x18, x19, x20, x21, x22, x23, x24, x25, x26, x27, x28, x29, x30, x31, rfl⟩ := ex32 h
  kernel_rfl

def RS (b : Nat) (xs : List Int) (w : World) (k P : Nat) (o : Value) (wr : World) : Prop :=
  (tl xs 0).drop k = tl xs P ∧ k ≤ (tl xs 0).length ∧ PRow 172 w.heap.size b wr o ((tl xs 0).take k) ∧ Below w.heap.size w wr ∧
    scanF xs = ((tl xs 0).take k ++ (scanR ((tl xs 0).drop k) P).1, (scanR ((tl xs 0).drop k) P).2)

set_option maxHeartbeats 2000000 in
set_option maxRecDepth 100000 in
theorem rscan_any (b : Nat) (v : Value) (xs : List Int) (w : World) (h : BySlS (fun g => g < w.heap.size) w v xs) (hw2 : 2 ≤ w.heap.size) (hb : b < w.heap.size) (hl : xs.length ≤ 80000) :
    Calls Tryz.prog 86 #[v] w fun e w' => ∃ a c, e = .returned (.tuple #[.slice a (scanF xs).1.length c, .int .i64 ((scanF xs).2.1 : Nat), .int .i64 (scanF xs).2.2]) ∧ PRow 172 w.heap.size b w' (.slice a (scanF xs).1.length c) (scanF xs).1 ∧ Below w.heap.size w w' := by
  obtain ⟨a, cap, rfl, h2, h3, _, h5, h6, h7⟩ := id h
  have H := hid h
  have H7 := hid h7
  clear h h6 h7
  unfold maxLen at h3
  have hz := zero26
  obtain ⟨Z, hZ⟩ : ∃ Z, zRec = Z := ⟨_, rfl⟩
  have HZ := hid hZ
  rw [hZ] at hz
  clear hZ
  go_enter Tryz.func86, Tryz.ntmps86
  go_wp2_with fail
  go_loopw [5, 6] (fun o i wr => ∃ (k P rn : Nat) (ra : Option Addr) (rc : Nat), P ≤ xs.length ∧ o = .slice ra rn rc ∧ i = .int .i64 (P : Int) ∧ Hid (RS b xs w k P (.slice ra rn rc) wr)) (fun _ i _ => xs.length - (intOf i).toNat)
  case atStart => exact ⟨0, 0, 0, none, 0, Nat.zero_le _, rfl, rfl, ⟨rfl, Nat.zero_le _, PRow.nil _ _ _ _, Below.refl _ _, rfl⟩⟩
  case round =>
    obtain ⟨k, P, rn, ra, rc, hP, rfl, rfl, HS⟩ := hrel
    obtain ⟨s1, s2, s3, s4, s5⟩ := HS.out
    by_cases hlt : P < xs.length
    · obtain ⟨g, o, rfl, hgb, _⟩ := H7.out (by intro e; subst e; simp at hlt)
      obtain ⟨L, hL, hLc⟩ := tl_head hlt
      rw [hL] at s1
      have hkN : k < (tl xs 0).length := by
        have h := congrArg List.length s1
        rw [List.length_drop, List.length_cons] at h
        omega
      have hx : (tl xs 0)[k]? = some (P, takeF (xs.drop P)) := by
        have h := congrArg (fun l : List Item => l[0]?) s1
        simpa using h
      obtain ⟨e1, e2, e3⟩ := scan_next hx s5
      have hsz := s4.size
      have HVV : Hid (BySlS (fun x => x < wr.heap.size) wr (.slice (some ⟨g, o + P, none⟩) (xs.length - P) (cap - P)) (xs.drop P)) := BySlS.mono (bySlS_drop (BySlS.below H.out s4 (fun g hg => hg)) hlt) (fun g hg => Nat.lt_of_lt_of_le hg hsz)
      have hPi : (P : Int) < (xs.length : Int) := by omega
      have HD := hid (And.intro s1 (And.intro s3 (And.intro s4 (And.intro hL hLc))))
      have HE := hid (And.intro e1 (And.intro e2 e3))
      clear s1 s3 s4 s5 hL hLc hx e1 e2 e3
      go_wp2_with fail
      refine (rtake_any _ (xs.drop P) wr ?_ (by omega) (by rw [List.length_drop]; omega)).mono ?_
      · have h := HVV.out.to (B := wr.heap.size) (fun g hg => hg)
        exact h
      rintro e w1 ⟨ar, cr, rfl, hby, hnm, hkk⟩
      obtain ⟨s1, s3, s4, hL, hLc⟩ := HD.out
      obtain ⟨e1, e2, e3⟩ := HE.out
      have hrn : rn = ((tl xs 0).take k).length := by
        obtain ⟨_, _, e⟩ := s3.form
        simp only [Value.slice.injEq] at e
        exact e.2.1
      have hTO : (takeF (xs.drop P)).1 = 0 → P + (takeF (xs.drop P)).2.2 ≤ xs.length := fun h => (e3 h).1
      have htl : (takeF (xs.drop P)).1 = 0 → (tl xs 0).drop (k + 1) = tl xs (P + (takeF (xs.drop P)).2.2) := fun h0 => by
        have h := congrArg (fun l : List Item => l.drop 1) s1
        have h' : (tl xs 0).drop (k + 1) = L := by simpa [List.drop_drop, Nat.add_comm] using h
        rcases hLc with ⟨_, h2⟩ | ⟨h2, _⟩
        · rw [h', h2]
        · exact absurd h0 h2
      have hpos : (takeF (xs.drop P)).1 = 0 → 4 ≤ (takeF (xs.drop P)).2.2 := fun h => (takeF_pos h).1
      have HIT := hid hkN
      generalize hX : takeF (xs.drop P) = X at *
      have HPL := hid (recA_length X.2.1.1 X.2.1.2.1 (.slice ar X.2.1.2.2.length cr) hnm.1)
      have HPO := hid (recA_one X.2.1.1 X.2.1.2.1 ar X.2.1.2.2.length cr)
      have HBU := hid (rbuilt P X.2.2 X.2.1.1 X.2.1.2.1 hnm.1 ar X.2.1.2.2.length cr)
      have HBS := fun W => hid (rrun_onepl P X.2.2 X.2.1.1 X.2.1.2.1 ar X.2.1.2.2.length cr hnm.1 W)
      have HQL := hid (plI_length (x := (P, X)) hnm (.slice ar X.2.1.2.2.length cr))
      have HQO := hid (plI_one (P, X) ar X.2.1.2.2.length cr)
      obtain ⟨C, hC⟩ : ∃ C, recA X.2.1.1 X.2.1.2.1 (.slice ar X.2.1.2.2.length cr) = C := ⟨_, rfl⟩
      have HQE : Hid (plI (P, X) (.slice ar X.2.1.2.2.length cr) = placedA P X.2.2 C) := by rw [Hid, ← hC]; rfl
      rw [HQE.out] at HQL HQO
      rw [hC] at HPL HPO HBU HBS
      rw [hC]
      obtain ⟨PA, hPA⟩ : ∃ PA, placedA P X.2.2 C = PA := ⟨_, rfl⟩
      rw [hPA] at HQL HQO HBU HBS HQE
      have hZl : Z.length = 34 := by rw [← HZ.out]; exact zRec_length
      have HI : Hid ((Tryz.prog.info? 40).map (·.size) = some C.length) := by rw [Hid, HPL.out]; exact Tryz.info26
      have HTC : Hid (World.there (w1.alloc (.cells Z.toArray 40)) w1.heap.size 0 C.length) := by
        have h := there_new w1 Z 40
        rw [hZl] at h
        rw [Hid, HPL.out]
        exact h
      have hst : (storeCells ⟨w1.heap.size, 0, none⟩ C).run Tryz.prog (w1.alloc (.cells Z.toArray 40)) = .ok () ((w1.alloc (.cells Z.toArray 40)).setCells w1.heap.size 0 C) := by
        have h := run_storeCells_cells (P := Tryz.prog) w1.heap.size 0 C 0 (w1.alloc (.cells Z.toArray 40)) (fun j hj => by simpa only [Nat.add_zero] using (HTC.out j hj).1) (fun j hj => by simpa only [Nat.add_zero] using (HTC.out j hj).2) HPO.out
        simpa only [Nat.add_zero] using h
      have HRG : Hid (World.rangeAt ((w1.alloc (.cells Z.toArray 40)).setCells w1.heap.size 0 C) w1.heap.size 0 C) := World.rangeAt_setCells_same _ _ _ _ HTC.out
      have hV1 : Below w1.heap.size w1 ((w1.alloc (.cells Z.toArray 40)).setCells w1.heap.size 0 C) := ((Below.refl _ _).alloc (Nat.le_refl _) _).trans (setCells_below (Nat.le_refl _) _ _ _)
      obtain ⟨V1, hV1e⟩ : ∃ V1, (w1.alloc (.cells Z.toArray 40)).setCells w1.heap.size 0 C = V1 := ⟨_, rfl⟩
      rw [hV1e] at hst HRG hV1
      have hs1 := hkk.size
      have hs2 := hV1.size
      have hB1 : Below wr.heap.size wr V1 := hkk.trans (hV1.mono hs1)
      have s3' := s3.cells (CellsKept.of_kept (base := w.heap.size) (b := b) (Kept.below hB1)) hb
      have HBV : Hid (Below w.heap.size w V1) := s4.trans (hB1.mono hsz)
      by_cases hf0 : X.1 = 0
      · obtain ⟨us, hul, hown, hn, hk⟩ := s3'
        have hal : Below V1.heap.size V1 (V1.alloc (.cells PA.toArray 172)) := (Below.refl _ _).alloc (Nat.le_refl _) _
        obtain ⟨i, hi, hiz⟩ : ∃ i, Tryz.prog.info? 172 = some i ∧ (i.zero, i.size, i.bytes) = (some (.agg zPl.toArray), 36, 80) := Option.map_eq_some_iff.1 rinfo'
        simp only [Prod.mk.injEq] at hiz
        obtain ⟨z1, z2, z3⟩ := hiz
        have hrk : rn ≤ 80000 := by
          have := tl_length_le xs _ 0 (Nat.le_refl _)
          rw [List.length_take] at hrn
          omega
        rw [← hrn] at hown
        obtain ⟨g2, cap2, W2, hap, hown2, hgrow, hat, hg2⟩ := run_append_lies (P := Tryz.prog) (V1.alloc (.cells PA.toArray 172)) 59 59 w.heap.size 172 i (.agg zPl.toArray) 36 80 Tryz.underlying59 hi z1 z2 z3 rfl (by omega)
          (.slice ra rn rc) rn _ (ownsRow_kept hown (CellsKept.of_kept (b := b) (Kept.below hal)) hb) ⟨V1.heap.size, 0, none⟩ 1 1 PA (by rw [HQL.out]) (fun j u h => by rw [Addr.add_lit]; exact range_new V1 PA 172 j u h) HQO.out (by omega) (by unfold maxLen; omega) (by omega) (by simp; omega) _ rfl
        have HAP := hid hap
        have HALL := hid (And.intro hown2 (And.intro hgrow (And.intro hat hg2)))
        have HROW := hid (And.intro hul (And.intro hn hk))
        have HB2 := hid (And.intro hby (And.intro hnm (And.intro hB1 (And.intro hV1 (And.intro hal (And.intro e1 (And.intro (e3 hf0) (And.intro (htl hf0) hrn))))))))
        have hPN := hTO hf0
        have h4 := hpos hf0
        have HFE := hid hf0
        have hfb : (X.1 != 0) = false := by simp [hf0]
        have HLT := hid (s3.lt)
        clear hf0 e1 e2 e3 htl hTO hpos s1 s3 s4 hL hLc hown2 hgrow hat hg2 hown hn hk hul hby hnm hap hal hi z1 z2 z3 hB1 hV1 hkk hrn hC hPA HD HE hX
        generalize X.2.2 = N at *
        generalize X.1 = f at *
        go_wp2_with (first
          | (refine wpList_load_mid (by rfl) 40 _ (by rfl) w1.heap.size 0 (by rfl) C _ HRG.out Tryz.underlying40 rfl HI.out ?_)
          | (refine wpList_val (by rfl) (exec_build3 172 _ _ _ (by rfl) _ _ _ (by rfl) (by rfl) (by rfl) PA.toArray HBU.out) ?_)
          | (refine wpList_val (by rfl) (exec_slice1 59 _ (by rfl) (.agg PA.toArray) _ (by rfl) (HBS _).out) ?_)
          | (refine wpList_val (by rfl) (exec_append _ _ 59 (by rfl) (.slice ra rn rc) (.slice (some ⟨V1.heap.size, 0, none⟩) 1 1) _ (by rfl) (by rfl) HAP.out) ?_))
        obtain ⟨hown2, hgrow, hat, hg2⟩ := HALL.out
        obtain ⟨hul, hn, hk⟩ := HROW.out
        obtain ⟨hby, hnm, hB1, hV1, hal, e1, e3, htl, hrn⟩ := HB2.out
        refine ⟨⟨k + 1, P + N, rn + 1, some ⟨g2, 0, none⟩, cap2, hPN, rfl, by go_num, ?_, ?_, ?_, ?_, ?_⟩, by simp [intOf]; omega⟩
        · exact htl
        · exact HIT.out
        · rw [e1, hrn]
          rw [hrn, ← HQE.out] at hown2
          have hs3 := hal.size
          have up : ∀ {u : Value} {ys : List Int}, BySlS (fun q => w.heap.size ≤ q ∧ q ≠ b ∧ q < V1.heap.size ∧ (Value.slice ra rn rc).ownBlock ≠ some q) V1 u ys → BySlS (fun q => w.heap.size ≤ q ∧ q ≠ b ∧ q < (V1.alloc (.cells PA.toArray 172)).heap.size ∧ (Value.slice ra rn rc).ownBlock ≠ some q) (V1.alloc (.cells PA.toArray 172)) u ys := fun h =>
            BySlS.mono (BySlS.below h hal (fun q hq => hq.2.2.1)) (fun q hq => ⟨hq.1, hq.2.1, by omega, hq.2.2.2⟩)
          refine PRow.push hul hn hnm (fun j x u h1 h2 => up (hk j x u h1 h2)) (up ?_) hown2 hgrow (by simpa using hat)
          exact BySlS.mono (BySlS.below hby hV1 (fun q hq => hq.2)) (fun q hq => ⟨by omega, by omega, by omega, fun e => by have := (HLT.out q e).2; omega⟩)
        · exact (HBV.out.trans (hal.mono HBV.out.size)).grown hgrow (by simp; omega) (fun q e => (HLT.out q e).1)
        · exact e3.2
      · have hfb : (X.1 != 0) = true := by simp [hf0]
        have HE2 := hid (e2 hf0)
        have HR3 := hid (And.intro s3' hrn)
        clear e1 e2 e3 htl hTO hpos s1 s3 s4 hL hLc s3' hrn hB1 hV1 hkk hby hnm hC hPA HD HE
        generalize X.1 = f at *
        go_wp2_with fail
        obtain ⟨s3', hrn⟩ := HR3.out
        rw [HE2.out]
        refine bodyPost_ret (v := .tuple #[.slice ra rn rc, .int .i64 (P : Int), .int .i64 f]) (by simp [results, Tryz.results86, go_sem]) rfl ⟨ra, rc, by rw [hrn], by rw [← hrn]; exact s3', HBV.out⟩
    · have hk : k = (tl xs 0).length := by
        have h := congrArg List.length s1
        rw [tl_end (p := P) (by omega), List.length_drop, List.length_nil] at h
        omega
      have hrn : rn = ((tl xs 0).take k).length := by
        obtain ⟨_, _, e⟩ := s3.form
        simp only [Value.slice.injEq] at e
        exact e.2.1
      rw [hk, List.take_length, List.drop_length, scanR, List.append_nil] at s5
      rw [hk, List.take_length] at s3 hrn
      have HF := hid (And.intro s5 (And.intro s3 (And.intro s4 hrn)))
      clear HS s1 s2 s3 s4 s5 hk hrn
      go_wp2_with fail
      obtain ⟨s5, s3, s4, hrn⟩ := HF.out
      rw [s5]
      refine bodyPost_ret (v := .tuple #[.slice ra rn rc, .int .i64 (P : Int), .int .i64 0]) (by simp [results, Tryz.results86, go_sem]) rfl ⟨ra, rc, by rw [hrn], by rw [← hrn]; exact s3, s4⟩
end Go.Proofs.YtkekajmmcjacgaaGreatDoor
end

section
/-
  FrameTurned, walked: a frame of which bits within 32 are turned, behind its first three bytes, is none.
-/
namespace Go.Proofs.YtkekajmmcjacgaaGreatDoor
open Go.RowKit
open Tlv (Tr BySlS AgreeS Agree)
open Crc (hid Kept Tab turn)

theorem turn_get (xs : List Nat) (p m j : Nat) (h : j < p / 8) : ∀ k, (turn xs p m k)[j]? = xs[j]?
  | 0 => rfl
  | k + 1 => by
    rw [turn]
    split
    · rw [Crc.flip, List.getElem?_set_ne (by omega), turn_get xs p m j h k]
    · exact turn_get xs p m j h k

/-- A turned frame is none. -/
theorem take_turned {k : Int} {nm bs : List Int} (h : RightR k nm bs) {p m : Nat} (hp : 24 ≤ p) (hl : p + 32 ≤ 8 * (49 + bs.length)) (hm : m < 4294967296) (h0 : m ≠ 0) :
    takeF (ints (turn (nats (frameR k nm bs)) p m 32)) = noRec 16 ∨ takeF (ints (turn (nats (frameR k nm bs)) p m 32)) = noRec 4 := by
  have hfl := formR_length h
  have hbd := formR_bd h
  have hxl := nats_lt _ hbd
  have hlen : (ints (turn (nats (frameR k nm bs)) p m 32)).length = 49 + bs.length := by rw [ints_length, Crc.turn_len, nats_length, frameR_length h]
  obtain ⟨t0, hr0, _⟩ := Tlv.form_rd 2 8 (recT k nm bs) 65535 (sumI (formR k nm bs)) (recT_num h.1 h.2.1) (by omega) (recT_right h)
  have e0 : (formR k nm bs).length = Tlv.endOf (frameR k nm bs) := rd_end hr0
  have hget : ∀ j, j < 3 → (ints (turn (nats (frameR k nm bs)) p m 32))[j]? = (frameR k nm bs)[j]? := by
    intro j hj
    have e1 : (frameR k nm bs)[j]? = (ints (nats (frameR k nm bs)))[j]? := by rw [ints_nats _ (frameR_bd h)]
    rw [e1, ints, ints, List.getElem?_map, List.getElem?_map, turn_get _ _ _ _ (by omega)]
  have hend : Tlv.endOf (ints (turn (nats (frameR k nm bs)) p m 32)) = (formR k nm bs).length := by
    rw [e0]
    exact endOf_of (hget 1 (by omega)) (hget 2 (by omega))
  cases hr : Tlv.rd 8 (ints (turn (nats (frameR k nm bs)) p m 32)) with
  | none => exact .inl (takeF_none hr)
  | some x =>
    obtain ⟨t, q⟩ := x
    have hq := rd_end hr
    rw [hend] at hq
    right
    rw [takeF_some hr, if_neg (by rw [hlen, hq, hfl]; omega), if_pos]
    rw [hq]
    intro hc
    have hfr : nats (frameR k nm bs) = nats (formR k nm bs) ++ Crc.le4 (Crc.more 0 (nats (formR k nm bs))) := by rw [frameR, sealI_nats]
    have htl := Crc.turn_lt (xs := nats (frameR k nm bs)) (nats_lt _ (frameR_bd h)) p m 32
    refine Crc.burst_told (nats (formR k nm bs)) ((turn (nats (frameR k nm bs)) p m 32).take (formR k nm bs).length) ((turn (nats (frameR k nm bs)) p m 32).drop (formR k nm bs).length) p m hxl (fun x hx => htl x (List.mem_of_mem_take hx)) hm h0 ?_ ?_ ?_
    · rw [← hfr, nats_length, frameR_length h]; exact hl
    · rw [← hfr, List.take_append_drop]
    · have e1 : (ints (turn (nats (frameR k nm bs)) p m 32)).take (formR k nm bs).length = ints ((turn (nats (frameR k nm bs)) p m 32).take (formR k nm bs).length) := by rw [ints, ints, List.map_take]
      have e2 : ((ints (turn (nats (frameR k nm bs)) p m 32)).drop (formR k nm bs).length).take 4 = ints ((turn (nats (frameR k nm bs)) p m 32).drop (formR k nm bs).length) := by
        rw [ints, ints, List.map_drop, List.take_of_length_le]
        rw [List.length_drop, List.length_map, Crc.turn_len, nats_length, frameR_length h, hfl]
        omega
      rw [e1, e2, sumI, nats_ints] at hc
      have := congrArg nats hc
      rwa [nats_ints, nats_ints] at this

/-- One record, laid in a row. -/
theorem run_onerec (k : Int) (nm : List Int) (a : Option Addr) (l c : Nat) (hn : nm.length = 32) (w : World) :
    (Instr.buildSlice 87 1 #[(0, .agg (recA k nm (.slice a l c)).toArray)]).run Tryz.prog w =
      .ok (.slice (some ⟨w.heap.size, 0, none⟩) 1 1) (w.alloc (.cells (recA k nm (.slice a l c)).toArray 40)) := by
  obtain ⟨x0, x1, x2, x3, x4, x5, x6, x7, x8, x9, x10, x11, x12, x13, x14, x15, x16, x17, x18, x19, x20, x21, x22, x23, x24, x25, x26, x27, x28, x29, x30, x31, rfl⟩ := ex32 hn
  kernel_rfl

theorem wpList_slice1 {P : Program} {ops : Array Oper} {rest : List Oper} {o : Oper} {a : Act} {w w' : World} {Q : Exit → Act → World → Prop} (hg : o.guard = none) (ty : TypeId) (x : Operand) (ho : o.op = .buildSlice ty 1 #[(0, x)])
    (vx v : Value) (hx : a.eval x = vx) (hr : (Instr.buildSlice ty 1 #[(0, vx)]).run P w = .ok v w')
    (h : wpList P ops Q rest (a.put o.dst v) w') : wpList P ops Q (o :: rest) a w := by
  refine wpList_plain hg fun K hK => ?_
  unfold Oper.wp execOp
  have e : ((#[(0, x)] : Array (Nat × Operand)).map fun (i, x) => (i, a.eval x)) = #[(0, vx)] := by simp [hx]
  simp only [ho, Sem.run_bind, e, hr, Result.andThen_ok]
  exact hK _ _ h

/-- The row at g holds xs in wr; all else is as it was. -/
def Held (g : Nat) (W wr : World) (xs : List Nat) : Prop :=
  Kept g W wr ∧ wr.heap.size = W.heap.size ∧ (∀ j, j < xs.length → wr.cell? ⟨g, j, none⟩ = some (.int .u8 (xs.getD j 0 : Nat))) ∧ ∀ j, wr.frozen? ⟨g, j, none⟩ = false

theorem Held.set {g : Nat} {W wr : World} {xs : List Nat} (h : Held g W wr xs) (j x : Nat) (hj : j < xs.length) : Held g W (wr.setCell ⟨g, j, none⟩ (.int .u8 (x : Nat))) (xs.set j x) := by
  obtain ⟨h1, h2, h3, h4⟩ := h
  refine ⟨h1.setCell rfl _, by simpa using h2, fun i hi => ?_, fun i => by simpa using h4 i⟩
  simp only [List.length_set] at hi
  by_cases e : j = i
  · subst e
    rw [World.cell?_setCell_same _ _ _ (h3 j hj)]
    simp [hj]
  · rw [World.cell?_setCell_other _ _ _ _ (by simp only [ne_eq, Addr.mk.injEq, true_and, and_true]; omega), h3 i hi]
    simp [e]

theorem bit_test (m k : Nat) (hm : m < 4294967296) : (bits .and .u32 ((m : Int) / 2 ^ k) 1 == 1) = m.testBit k := by
  have e : ((m : Int) / 2 ^ k) = ((m / 2 ^ k : Nat) : Int) := by rw [Int.natCast_ediv, Int.natCast_pow]; rfl
  rw [e, Crc.and_one _ (Nat.lt_of_le_of_lt (Nat.div_le_self _ _) hm), Nat.testBit_eq_decide_div_mod_eq, Bool.eq_iff_iff]
  simp
  omega
theorem bit_xor (c q : Nat) (hc : c < 256) (hq : q < 8) : bits .xor .u8 (c : Int) (2 ^ q % 256) = ((c ^^^ 2 ^ q : Nat) : Int) := by
  have hp : 2 ^ q < 256 := Nat.pow_lt_pow_right (m := q) (n := 8) (by decide) hq
  have e : ((2 : Int) ^ q % 256) = ((2 ^ q : Nat) : Int) := by
    rw [Int.natCast_pow]
    apply Int.emod_eq_of_lt
    · exact Int.pow_nonneg (by decide)
    · have : (((2 ^ q : Nat)) : Int) < 256 := by omega
      rw [Int.natCast_pow] at this
      exact this
  rw [e]
  exact u8_xor_nat c (2 ^ q) hc hp

end Go.Proofs.YtkekajmmcjacgaaGreatDoor
end

section
/-
  Three rows that a call builds side by side: bytes, ends, records.
-/
namespace Go.Proofs.YtkekajmmcjacgaaGreatDoor
open Go.RowKit Go.Shelf
open Tlv (Tr BySlS AgreeS Agree)
open Crc (hid Kept Tab)

/-- One of the list: a record, and where its body lies. -/
abbrev El : Type := Rec × Option Addr × Nat
def elV (z : El) : Value := .slice z.2.1 z.1.2.2.length z.2.2
def elC (z : El) : List Value := recA z.1.1 z.1.2.1 (elV z)
def elOk (z : El) : Prop := z.1.2.1.length = 32 ∧ ∀ y ∈ z.1.2.1, 0 ≤ y ∧ y ≤ 255
theorem elC_length {z : El} (h : elOk z) : (elC z).length = 34 := recA_length _ _ _ h.1
theorem elC_one (z : El) : ∀ v ∈ elC z, v.oneCell' = true := recA_one _ _ _ _ _
def recsC : List El → List Value
  | [] => []
  | z :: zs => elC z ++ recsC zs
theorem recsC_snoc (z : El) : ∀ zs : List El, recsC (zs ++ [z]) = recsC zs ++ elC z
  | [] => by simp [recsC]
  | x :: zs => by rw [List.cons_append, recsC, recsC, recsC_snoc z zs, List.append_assoc]
theorem recsC_at : ∀ (zs : List El) (j : Nat) (z : El) (r : Nat), (∀ y ∈ zs, elOk y) → zs[j]? = some z → r < 34 → (recsC zs)[j * 34 + r]? = (elC z)[r]?
  | [], j, z, r, _, h, _ => by simp at h
  | x :: zs, 0, z, r, ho, h, hr => by
    simp only [List.getElem?_cons_zero, Option.some.injEq] at h
    subst h
    rw [recsC, Nat.zero_mul, Nat.zero_add, List.getElem?_append_left (by rw [elC_length (ho _ List.mem_cons_self)]; exact hr)]
  | x :: zs, j + 1, z, r, ho, h, hr => by
    have hl := elC_length (ho _ List.mem_cons_self)
    rw [recsC, List.getElem?_append_right (by rw [hl]; omega), hl, show (j + 1) * 34 + r - 34 = j * 34 + r by omega]
    exact recsC_at zs j z r (fun y hy => ho y (List.mem_cons_of_mem _ hy)) (by simpa using h) hr

/-- Where the frames end. -/
def endsL (rs : List Rec) : List Nat := (List.range rs.length).map fun j => (cat (rs.take (j + 1))).length
theorem endsL_length (rs : List Rec) : (endsL rs).length = rs.length := by simp [endsL]
theorem endsL_at {rs : List Rec} {j : Nat} (h : j < rs.length) : (endsL rs)[j]? = some (cat (rs.take (j + 1))).length := by simp [endsL, h]
theorem endsL_snoc (rs : List Rec) (r : Rec) : endsL (rs ++ [r]) = endsL rs ++ [(cat (rs ++ [r])).length] := by
  apply List.ext_getElem?
  intro j
  by_cases h : j < rs.length
  · rw [endsL_at (by simp; omega), List.getElem?_append_left (by rw [endsL_length]; exact h), endsL_at h, List.take_append_of_le_length (by omega)]
  · by_cases h2 : j = rs.length
    · subst h2
      rw [endsL_at (by simp), List.getElem?_append_right (by rw [endsL_length]; omega), endsL_length, List.take_of_length_le (by simp)]
      simp
    · rw [List.getElem?_eq_none (by rw [endsL_length]; simp; omega), List.getElem?_eq_none (by simp [endsL_length]; omega)]
def nums (l : List Nat) : List Value := l.map fun (n : Nat) => Value.int .i64 (n : Int)

theorem info8 : (Tryz.prog.info? 5).map (fun i => (i.zero, i.size, i.bytes)) = some (some (.int .u8 0), 1, 1) := by kernel_rfl
theorem info64 : (Tryz.prog.info? 3).map (fun i => (i.zero, i.size, i.bytes)) = some (some (.int .i64 0), 1, 8) := by kernel_rfl
theorem infoR : (Tryz.prog.info? 40).map (fun i => (i.zero, i.size, i.bytes)) = some (some (.agg zRec.toArray), 34, 64) := by kernel_rfl

/-- The three rows, in blocks from B on, each in one of its own; all else from w1 on is as it was, the table's block b left out. -/
structure R3 (B b : Nat) (w1 wr : World) (va ve vw : Value) (xa : List Int) (xe : List Nat) (zs : List El) : Prop where
  kept : Kept b w1 wr
  tab : TabX wr b
  all : wr.ownsRow B 5 1 va xa.length (u8s xa)
  ends : wr.ownsRow B 3 1 ve xe.length (nums xe)
  want : wr.ownsRow B 40 34 vw zs.length (recsC zs)
  ae : ∀ q, va.ownBlock = some q → ve.ownBlock ≠ some q
  aw : ∀ q, va.ownBlock = some q → vw.ownBlock ≠ some q
  ew : ∀ q, ve.ownBlock = some q → vw.ownBlock ≠ some q

theorem R3.start {b : Nat} {w1 : World} (h : TabX w1 b) : R3 w1.heap.size b w1 w1 (.slice none 0 0) (.slice none 0 0) (.slice none 0 0) [] [] [] :=
  ⟨Kept.refl _ _, h, World.ownsRow_nil _ _ _ _, World.ownsRow_nil _ _ _ _, World.ownsRow_nil _ _ _ _, fun _ h => (by cases h), fun _ h => (by cases h), fun _ h => (by cases h)⟩

theorem ownsRow_of_kept {ty : TypeId} {base b n k : Nat} {w w' : World} {v : Value} {cs : List Value} (h : w.ownsRow base ty k v n cs) (hk : Kept b w w') (hb : b < base) : w'.ownsRow base ty k v n cs := by
  refine ⟨h.1, ?_⟩
  rcases h.2 with h2 | ⟨g, cap, cur, hv, hg, hh, r⟩
  · exact Or.inl h2
  · exact Or.inr ⟨g, cap, cur, hv, hg, (hk.block g (Array.getElem?_eq_some_iff.1 hh).1 (by omega)).trans hh, r⟩

section
variable {B b : Nat} {w1 wr W : World} {va ve vw : Value} {xa : List Int} {xe : List Nat} {zs : List El}

theorem R3.on (h : R3 B b w1 wr va ve vw xa xe zs) (hk : Kept b wr W) (ht : TabX W b) (hb : b < B) : R3 B b w1 W va ve vw xa xe zs :=
  ⟨h.kept.trans hk, ht, ownsRow_of_kept h.all hk hb, ownsRow_of_kept h.ends hk hb, ownsRow_of_kept h.want hk hb, h.ae, h.aw, h.ew⟩
theorem R3.below (h : R3 B b w1 wr va ve vw xa xe zs) (hk : Below wr.heap.size wr W) (hb : b < B) : R3 B b w1 W va ve vw xa xe zs := h.on (Kept.below hk) (h.tab.below hk) hb

theorem kept_grown {row : Option Nat} (h : Kept b w1 wr) (hg : wr.grownBy W row) (hr : ∀ q, row = some q → w1.heap.size ≤ q) : Kept b w1 W :=
  ⟨hg.os.trans h.os, hg.tape.trans h.tape, hg.output.trans h.output, Nat.le_trans h.size hg.size, fun i hi hb => (hg.block i (Nat.lt_of_lt_of_le hi h.size) (fun e => by have := hr i e.symm; omega)).trans (h.block i hi hb)⟩
theorem tab_grown {row : Option Nat} (h : TabX wr b) (hg : wr.grownBy W row) (hr : ∀ q, row = some q → q ≠ b) : TabX W b := by
  cases row with
  | none => exact h.below ⟨hg.os, hg.tape, hg.output, hg.size, fun k hk => hg.block k hk (by simp)⟩
  | some q => exact h.kept (g := q) ⟨hg.os, hg.tape, hg.output, hg.size, fun k hk hq => hg.block k hk (fun e => hq (Option.some.inj e))⟩ (fun e => hr q rfl e.symm)

/-- Bytes laid behind the first row. -/
theorem R3.push_all (h : R3 B b w1 wr va ve vw xa xe zs) (hb : b < B) (hB : B = w1.heap.size) {S : Nat → Prop} {a : Option Addr} {c : Nat} {ys : List Int} (hy : BySlS S wr (.slice a ys.length c) ys) (hne : ys ≠ []) (hl : xa.length + ys.length ≤ 1000000000) :
    ∃ g cap W, (Builtin.append_ #[38, 38] 38 #[va, .slice a ys.length c]).run Tryz.prog wr = .ok (.slice (some ⟨g, 0, none⟩) (xa.length + ys.length) cap) W ∧
      R3 B b w1 W (.slice (some ⟨g, 0, none⟩) (xa.length + ys.length) cap) ve vw (xa ++ ys) xe zs := by
  obtain ⟨i, hi, hiz⟩ := Option.map_eq_some_iff.1 info8
  simp only [Prod.mk.injEq] at hiz
  obtain ⟨z1, z2, z3⟩ := hiz
  obtain ⟨a', c', e, _, _, _, _, hx, hc⟩ := hy
  simp only [Value.slice.injEq, true_and] at e
  obtain ⟨rfl, rfl⟩ := e
  obtain ⟨gy, oy, rfl, _, hcell⟩ := hc hne
  have hpos := List.length_pos_iff.2 hne
  have hk := h.kept.size
  obtain ⟨g2, cap2, W2, hap, hown2, hgrow, hat, hg2⟩ := run_append_lies (P := Tryz.prog) wr 38 38 B 5 i (.int .u8 0) 1 1 Tryz.underlying38 hi z1 z2 z3 rfl (by omega)
    va xa.length _ h.all ⟨gy, oy, none⟩ ys.length c (u8s ys) (by rw [u8s_length]; omega) (fun j u hj => by
      rw [u8s, List.getElem?_map, Option.map_eq_some_iff] at hj
      obtain ⟨y, hy, rfl⟩ := hj
      have := hcell j (List.getElem?_eq_some_iff.1 hy).1
      rw [List.getD_eq_getElem?_getD, hy] at this
      have e : (⟨gy, oy, none⟩ : Addr).add j = ⟨gy, oy + j, none⟩ := by first | rfl | simp [Addr.add]
      rw [e]
      exact this) (u8s_one ys) hpos (by unfold maxLen; omega) (by omega) (by omega) _ rfl
  have hlt := h.all.lt
  refine ⟨g2, cap2, W2, hap, kept_grown h.kept hgrow (fun q e => by have := hlt q e; omega), tab_grown h.tab hgrow (fun q e => by have := hlt q e; omega), ?_, h.ends.kept hgrow ?_, h.want.kept hgrow ?_, ?_, ?_, h.ew⟩
  · rw [List.length_append, u8s, List.map_append]
    exact hown2
  · by_cases e : ve.ownBlock = none
    · exact .inl e
    · right
      intro e2
      obtain ⟨q, hq⟩ := Option.ne_none_iff_exists'.1 e
      exact h.ae q (by rw [← e2]; exact hq) hq
  · by_cases e : vw.ownBlock = none
    · exact .inl e
    · right
      intro e2
      obtain ⟨q, hq⟩ := Option.ne_none_iff_exists'.1 e
      exact h.aw q (by rw [← e2]; exact hq) hq
  · intro q hq e2
    simp only [Value.ownBlock, Option.some.injEq] at hq
    subst hq
    rcases hat with h1 | h1
    · exact h.ae _ h1 e2
    · have := h.ends.lt _ e2; omega
  · intro q hq e2
    simp only [Value.ownBlock, Option.some.injEq] at hq
    subst hq
    rcases hat with h1 | h1
    · exact h.aw _ h1 e2
    · have := h.want.lt _ e2; omega

theorem run_oneint (n : Int) (w : World) : (Instr.buildSlice 41 1 #[(0, .int .i64 n)]).run Tryz.prog w = .ok (.slice (some ⟨w.heap.size, 0, none⟩) 1 1) (w.alloc (.cells #[.int .i64 n] 3)) := by kernel_rfl

/-- A number laid behind the second row. -/
theorem R3.push_end (h : R3 B b w1 wr va ve vw xa xe zs) (hb : b < B) (hB : B = w1.heap.size) (n : Nat) (hl : xe.length ≤ 1000000) :
    ∃ g cap W, (Builtin.append_ #[41, 41] 41 #[ve, .slice (some ⟨wr.heap.size, 0, none⟩) 1 1]).run Tryz.prog (wr.alloc (.cells #[.int .i64 (n : Int)] 3)) = .ok (.slice (some ⟨g, 0, none⟩) (xe.length + 1) cap) W ∧
      R3 B b w1 W va (.slice (some ⟨g, 0, none⟩) (xe.length + 1) cap) vw xa (xe ++ [n]) zs := by
  obtain ⟨i, hi, hiz⟩ := Option.map_eq_some_iff.1 info64
  simp only [Prod.mk.injEq] at hiz
  obtain ⟨z1, z2, z3⟩ := hiz
  have hal : Below wr.heap.size wr (wr.alloc (.cells #[.int .i64 (n : Int)] 3)) := (Below.refl _ _).alloc (Nat.le_refl _) _
  have hsz : (wr.alloc (.cells #[.int .i64 (n : Int)] 3)).heap.size = wr.heap.size + 1 := by simp
  have hr := range_new wr [.int .i64 (n : Int)] 3
  have h' := h.below hal hb
  have hk := h'.kept.size
  have hk0 := h.kept.size
  obtain ⟨W1, hW1⟩ : ∃ W1, wr.alloc (.cells #[.int .i64 (n : Int)] 3) = W1 := ⟨_, rfl⟩
  rw [show (wr.alloc (.cells [.int .i64 (n : Int)].toArray 3)) = W1 from hW1] at hr
  rw [hW1] at h' hk hsz ⊢
  obtain ⟨g2, cap2, W2, hap, hown2, hgrow, hat, hg2⟩ := run_append_lies (P := Tryz.prog) W1 41 41 B 3 i (.int .i64 0) 1 8 Tryz.underlying41 hi z1 z2 z3 rfl (by omega)
    ve xe.length _ h'.ends ⟨wr.heap.size, 0, none⟩ 1 1 [.int .i64 (n : Int)] rfl (fun j u hj => by rw [Addr.add_lit]; exact hr j u hj) (by simp [Value.oneCell']) (by omega) (by unfold maxLen; omega) (by omega) (by omega) _ rfl
  have hlt := h'.ends.lt
  refine ⟨g2, cap2, W2, hap, kept_grown h'.kept hgrow (fun q e => by have := hlt q e; omega), tab_grown h'.tab hgrow (fun q e => by have := hlt q e; omega), h'.all.kept hgrow ?_, ?_, h'.want.kept hgrow ?_, ?_, h.aw, ?_⟩
  · by_cases e : va.ownBlock = none
    · exact .inl e
    · right
      intro e2
      obtain ⟨q, hq⟩ := Option.ne_none_iff_exists'.1 e
      exact h.ae q hq (by rw [← e2]; exact hq)
  · rw [List.length_append, nums, List.map_append]
    exact hown2
  · by_cases e : vw.ownBlock = none
    · exact .inl e
    · right
      intro e2
      obtain ⟨q, hq⟩ := Option.ne_none_iff_exists'.1 e
      exact h.ew q (by rw [← e2]; exact hq) hq
  · intro q hq e2
    simp only [Value.ownBlock, Option.some.injEq] at e2
    subst e2
    rcases hat with h1 | h1
    · exact h.ae _ hq h1
    · have := h.all.lt _ hq; omega
  · intro q hq e2
    simp only [Value.ownBlock, Option.some.injEq] at hq
    subst hq
    rcases hat with h1 | h1
    · exact h.ew _ h1 e2
    · have := h.want.lt _ e2; omega

/-- A record laid behind the third row. -/
theorem R3.push_want (h : R3 B b w1 wr va ve vw xa xe zs) (hb : b < B) (hB : B = w1.heap.size) (z : El) (hz : elOk z) (hl : zs.length ≤ 1000000) :
    ∃ g cap W, (Builtin.append_ #[87, 87] 87 #[vw, .slice (some ⟨wr.heap.size, 0, none⟩) 1 1]).run Tryz.prog (wr.alloc (.cells (elC z).toArray 40)) = .ok (.slice (some ⟨g, 0, none⟩) (zs.length + 1) cap) W ∧
      R3 B b w1 W va ve (.slice (some ⟨g, 0, none⟩) (zs.length + 1) cap) xa xe (zs ++ [z]) := by
  obtain ⟨i, hi, hiz⟩ := Option.map_eq_some_iff.1 infoR
  simp only [Prod.mk.injEq] at hiz
  obtain ⟨z1, z2, z3⟩ := hiz
  have hal : Below wr.heap.size wr (wr.alloc (.cells (elC z).toArray 40)) := (Below.refl _ _).alloc (Nat.le_refl _) _
  have hsz : (wr.alloc (.cells (elC z).toArray 40)).heap.size = wr.heap.size + 1 := by simp
  have hr := range_new wr (elC z) 40
  have h' := h.below hal hb
  have hk := h'.kept.size
  have hk0 := h.kept.size
  generalize hW1 : wr.alloc (.cells (elC z).toArray 40) = W1 at *
  obtain ⟨g2, cap2, W2, hap, hown2, hgrow, hat, hg2⟩ := run_append_lies (P := Tryz.prog) W1 87 87 B 40 i (.agg zRec.toArray) 34 64 Tryz.underlying87 hi z1 z2 z3 rfl (by omega)
    vw zs.length _ h'.want ⟨wr.heap.size, 0, none⟩ 1 1 (elC z) (by rw [elC_length hz]) (fun j u hj => by rw [Addr.add_lit]; exact hr j u hj) (elC_one z) (by omega) (by unfold maxLen; omega) (by omega) (by omega) _ rfl
  have hlt := h'.want.lt
  refine ⟨g2, cap2, W2, hap, kept_grown h'.kept hgrow (fun q e => by have := hlt q e; omega), tab_grown h'.tab hgrow (fun q e => by have := hlt q e; omega), h'.all.kept hgrow ?_, h'.ends.kept hgrow ?_, ?_, h.ae, ?_, ?_⟩
  · by_cases e : va.ownBlock = none
    · exact .inl e
    · right
      intro e2
      obtain ⟨q, hq⟩ := Option.ne_none_iff_exists'.1 e
      exact h.aw q hq (by rw [← e2]; exact hq)
  · by_cases e : ve.ownBlock = none
    · exact .inl e
    · right
      intro e2
      obtain ⟨q, hq⟩ := Option.ne_none_iff_exists'.1 e
      exact h.ew q hq (by rw [← e2]; exact hq)
  · rw [List.length_append, recsC_snoc]
    exact hown2
  · intro q hq e2
    simp only [Value.ownBlock, Option.some.injEq] at e2
    subst e2
    rcases hat with h1 | h1
    · exact h.aw _ hq h1
    · have := h.all.lt _ hq; omega
  · intro q hq e2
    simp only [Value.ownBlock, Option.some.injEq] at e2
    subst e2
    rcases hat with h1 | h1
    · exact h.ew _ hq h1
    · have := h.ends.lt _ hq; omega
end
end Go.Proofs.YtkekajmmcjacgaaGreatDoor
end

section
/-
  lose, Up.
-/
namespace Go.Proofs.YtkekajmmcjacgaaGreatDoor.Sim
open Go.RowKit Go.Maps

set_option maxHeartbeats 2000000 in
theorem lose_raw (W : World) (b n cap m : Nat) (a : Option Addr) (k : Int) (hb : Blk W b 192 [.slice a n cap, .int .i64 (m : Int)]) (hn : n ≤ cap) (hm : m ≤ n) (hN : n ≤ 20000000) :
    Calls Tryz.prog 112 #[.pointer (some ⟨b, 0, none⟩), .int .i64 k] W fun e w' => e = .returned (.tuple #[]) ∧ ∃ W1, Kp No W W1 ∧
      w' = (W1.setCell ⟨b, 0, none⟩ (.slice a (m + min (max k 0).toNat (n - m)) cap)).setCell ⟨b, 1, none⟩ (.int .i64 ((m + min (max k 0).toNat (n - m) : Nat) : Int)) := by
  have c0 : W.cell? ⟨b, 0, none⟩ = some (.slice a n cap) := hb.cell 0
  have c1 : W.cell? ⟨b, 1, none⟩ = some (.int .i64 (m : Int)) := hb.cell 1
  have f0 := hb.frozen 0
  have f1 := hb.frozen 1
  clear hb
  obtain ⟨r, hr⟩ : ∃ r : Nat, min (max k 0).toNat (n - m) = r := ⟨_, rfl⟩
  have hrI : min (max k 0) ((n : Int) - (m : Int)) = (r : Int) := by rw [← hr]; omega
  have hrm : m + r ≤ n := by rw [← hr]; omega
  rw [hr]
  clear hr
  have hrc : m + r ≤ cap := by omega
  have hI0 : (0 : Int) ≤ (m : Int) + (r : Int) := by omega
  have hI1 : (m : Int) + (r : Int) ≤ (cap : Int) := by omega
  go_enter Tryz.func112, Tryz.ntmps112
  go_wp2_with fail
  go_region
  all_goals
    go_wp2_with fail
    go_region
    all_goals
      go_wp2
      go_end0
      exact ⟨rfl, W.drew.drew, (Kp.refl _ _).drew.drew, rfl⟩

/-- A row's front. -/
theorem OwnB.front {w : World} {a : Option Addr} {n0 cap : Nat} {bs : List Nat} (h : OwnB w (.slice a n0 cap) bs) (j : Nat) (hj : j ≤ bs.length) : OwnB w (.slice a j cap) (bs.take j) := by
  have hl : (bs.take j).length = j := List.length_take_of_le hj
  have hcl : cl (bs.take j) = (cl bs).take j := by simp [cl, List.map_take]
  rcases h.row.2 with ⟨e, e2⟩ | ⟨g, cap', cur, e, hb, hh, h1, h2, h3, h4⟩
  · cases e
    have : bs = [] := List.length_eq_zero_iff.1 e2
    subst this
    have : j = 0 := by simpa using hj
    subst this
    exact OwnB.nil _
  · cases e
    refine ⟨by rw [cl_length]; omega, .inr ⟨g, cap, cur, by rw [hl], hb, hh, by omega, h2, h3, ?_⟩⟩
    rw [hcl, ← h4, List.take_take, hl]
    congr 1
    omega

theorem lose_len (k : Int) (f : Fl) (h : f.safe ≤ f.b.length) : (lose k f).b = f.b.take (f.safe + min (max k 0).toNat (f.b.length - f.safe)) ∧ (lose k f).b.length = f.safe + min (max k 0).toNat (f.b.length - f.safe) ∧ (lose k f).safe = f.safe + min (max k 0).toNat (f.b.length - f.safe) ∧ f.safe + min (max k 0).toNat (f.b.length - f.safe) ≤ f.b.length := by
  have h1 : f.safe + min (max k 0).toNat (f.b.length - f.safe) ≤ f.b.length := by omega
  have h2 : (f.b.take (f.safe + min (max k 0).toNat (f.b.length - f.safe))).length = f.safe + min (max k 0).toNat (f.b.length - f.safe) := List.length_take_of_le h1
  exact ⟨rfl, h2, h2, h1⟩

/-- lose, of a file of the system. -/
theorem lose_any {P : Nat → Prop} {I J : PS → Prop} (W : World) (s b : Nat) (q : PS) (vs vf vc : Value) (u : Nat → Value) (f : Fl) (k : Int) (h : Rp P I W s q vs vf vc u) (hb : q.files b = some f) (hl : f.b.length ≤ 20000000) (hi : J (setF b (lose k f) q)) :
    Calls Tryz.prog 112 #[.pointer (some ⟨b, 0, none⟩), .int .i64 k] W fun e w' => e = .returned (.tuple #[]) ∧ ∃ u', Rp P J w' s (setF b (lose k f) q) vs vf vc u' ∧ Kp P W w' := by
  obtain ⟨hPb, hFb, hPu⟩ := h.file b f hb
  obtain ⟨a, cap, hv, hle, hcap, hnil⟩ := hFb.own.shape
  obtain ⟨l1, l2, l3, l4⟩ := lose_len k f hFb.le
  have hblk := hFb.blk
  rw [hv] at hblk
  refine (lose_raw W b f.b.length cap f.safe a k hblk hle hFb.le hl).mono ?_
  rintro e w' ⟨rfl, W1, k1, rfl⟩
  generalize hj : f.safe + min (max k 0).toNat (f.b.length - f.safe) = j at *
  have kb : Kp (· = b) W1 ((W1.setCell ⟨b, 0, none⟩ (.slice a j cap)).setCell ⟨b, 1, none⟩ (.int .i64 (j : Int))) := (Kp.set1 _ _ _ _).trans (Kp.set1 _ _ _ _) (fun x hx => .inl hx)
  have K : Kp (fun k => k = b ∨ (u b).ownBlock = some k) W ((W1.setCell ⟨b, 0, none⟩ (.slice a j cap)).setCell ⟨b, 1, none⟩ (.int .i64 (j : Int))) := (k1.mono (fun _ h => h.elim)).trans kb (fun x hx => .inl (.inl hx))
  have hown : OwnB W1 (.slice a j cap) (f.b.take j) := ((by rw [hv] at hFb; exact hFb.own.kept k1 : OwnB W1 (.slice a f.b.length cap) f.b)).front j l4
  have hbk : (Value.slice a j cap).ownBlock = (u b).ownBlock := by rw [hv]; cases a <;> rfl
  have hF : FileAt ((W1.setCell ⟨b, 0, none⟩ (.slice a j cap)).setCell ⟨b, 1, none⟩ (.int .i64 (j : Int))) b (.slice a j cap) (lose k f) := by
    refine ⟨?_, ?_, fun x hx => hFb.byt x (List.mem_of_mem_take (by rw [l1] at hx; exact hx)), by rw [l2, l3]; exact Nat.le_refl _⟩
    · have := ((hFb.blk.kp k1 (fun h => h)).setCell 0 (.slice a j cap)).setCell 1 (.int .i64 (j : Int))
      rw [l3]
      exact this
    · rw [l1]
      exact hown.row.kp kb (fun x hx e => by
        rw [hbk] at hx
        exact hFb.own.row.ne hFb.blk (by decide) (by rw [hx, e]))
  obtain ⟨r1, r2⟩ := rq_setF (P' := P) (J := J) h hb K hF (fun x hx => .inl (by rw [← hbk]; exact hx)) (fun _ h => h) (fun x hx => Nat.lt_of_lt_of_le (h.lt x hx) K.size) (fun x hx => hPu x (by rw [← hbk]; exact hx)) hi
  exact ⟨rfl, _, r1, r2⟩

/-! ### Up -/
/-- A slice of numbers that is read. -/
def IntsAt (Q : Nat → Prop) (w : World) (v : Value) (zs : List Int) : Prop :=
  ∃ a cap, v = .slice a zs.length cap ∧ zs.length ≤ cap ∧ cap ≤ maxLen ∧ zs.length ≤ 1000 ∧ (zs ≠ [] → ∃ g o, a = some ⟨g, o, none⟩ ∧ Q g ∧ g < w.heap.size ∧ ∀ i, i < zs.length → w.cell? ⟨g, o + i, none⟩ = some (.int .i64 (zs.getD i 0)))
theorem IntsAt.kp {Q L : Nat → Prop} {w w' : World} {v : Value} {zs : List Int} (h : IntsAt Q w v zs) (k : Kp L w w') (hL : ∀ x, L x → ¬ Q x) : IntsAt Q w' v zs := by
  obtain ⟨a, cap, h1, h2, h3, h4, h5⟩ := h
  refine ⟨a, cap, h1, h2, h3, h4, fun hne => ?_⟩
  obtain ⟨g, o, e, hq, hg, hc⟩ := h5 hne
  exact ⟨g, o, e, hq, Nat.lt_of_lt_of_le hg k.size, fun i hi => (k.cell (p := ⟨g, o + i, none⟩) hg (fun hl => hL g hl hq)).trans (hc i hi)⟩
theorem IntsAt.nil (Q : Nat → Prop) (w : World) : IntsAt Q w (.slice none 0 0) [] := ⟨none, 0, rfl, Nat.le_refl _, Nat.zero_le _, Nat.zero_le _, fun h => absurd rfl h⟩

theorem loses_snoc (e : Nm × Nat) (cuts : List Int) : ∀ (l : Dir) (i : Nat) (p : PS), loses (l ++ [e]) i cuts p = setF e.2 (lose (cuts.getD (i + l.length) 0) (fileAt (loses l i cuts p) e.2)) (loses l i cuts p)
  | [], i, p => by simp [loses]
  | x :: r, i, p => by
    rw [List.cons_append, loses, loses_snoc e cuts r (i + 1)]
    have : i + 1 + r.length = i + (x :: r).length := by simp; omega
    rw [this]
    rfl
theorem loses_same (cuts : List Int) : ∀ (l : Dir) (i : Nat) (p : PS), (loses l i cuts p).safe = p.safe ∧ (loses l i cuts p).seen = p.seen ∧ (loses l i cuts p).chg = p.chg ∧ (loses l i cuts p).made = p.made ∧ (loses l i cuts p).room = p.room ∧ (loses l i cuts p).steps = p.steps
  | [], _, _ => ⟨rfl, rfl, rfl, rfl, rfl, rfl⟩
  | x :: r, i, p => by
    rw [loses]
    exact loses_same cuts r (i + 1) _
theorem loses_files (cuts : List Int) (B : Nat) : ∀ (l : Dir) (i : Nat) (p : PS), (∀ b f, p.files b = some f → f.b.length ≤ B) → (∀ b f, (loses l i cuts p).files b = some f → f.b.length ≤ B) ∧ ∀ b, ((p.files b).isSome = true → ((loses l i cuts p).files b).isSome = true)
  | [], _, _, h => ⟨h, fun _ h => h⟩
  | x :: r, i, p, h => by
    rw [loses]
    obtain ⟨h1, h2⟩ := loses_files cuts B r (i + 1) (setF x.2 (lose (cuts.getD i 0) (fileAt p x.2)) p) (fun b f hf => by
      have hf' : (if b = x.2 then some (lose (cuts.getD i 0) (fileAt p x.2)) else p.files b) = some f := hf
      split at hf'
      · cases hf'
        have hlen : (lose (cuts.getD i 0) (fileAt p x.2)).b.length ≤ (fileAt p x.2).b.length := List.length_take_le' _ _
        refine Nat.le_trans hlen ?_
        unfold fileAt
        cases hx : p.files x.2 with
        | none => simp
        | some g => exact h _ g hx
      · exact h b f hf')
    refine ⟨h1, fun b hb => h2 b ?_⟩
    show (if b = x.2 then some (lose (cuts.getD i 0) (fileAt p x.2)) else p.files b).isSome = true
    split
    · rfl
    · exact hb
theorem inv_up {N : Nat} {p : PS} (h : PInv N p) (hr : Ris p.safe) (k : Int) (cuts : List Int) : PInv N (pUp k cuts p) := by
  obtain ⟨n, hn, hn2⟩ : ∃ n, min (max k 0).toNat p.chg.length = n ∧ n ≤ p.chg.length := ⟨_, rfl, by omega⟩
  have e : pUp k cuts p = { loses ((p.chg.take n).foldl pdo p.safe) 0 cuts (settle n p) with seen := (loses ((p.chg.take n).foldl pdo p.safe) 0 cuts (settle n p)).safe, down := false, armed := false, left := 0 } := by
    unfold pUp
    rw [hn]
    rfl
  rw [e]
  obtain ⟨s1, s2, s3, s4, s5, s6⟩ := loses_same cuts ((p.chg.take n).foldl pdo p.safe) 0 (settle n p)
  obtain ⟨f1, f2⟩ := loses_files cuts (12000 * N) ((p.chg.take n).foldl pdo p.safe) 0 (settle n p) h.lfile
  have s1' : (loses ((p.chg.take n).foldl pdo p.safe) 0 cuts (settle n p)).safe = (p.chg.take n).foldl pdo p.safe := s1
  have s3' : (loses ((p.chg.take n).foldl pdo p.safe) 0 cuts (settle n p)).chg = [] := s3
  have hfn := fold_names h n
  refine {
    seen_eq := by show _ = List.foldl pdo _ _; rw [s3']; rfl
    okc := by show okcs _ _; rw [s3']; trivial
    has := fun x hx => ?_
    hasC := fun c hc => ?_
    nodup := ?_
    nmS := fun x hx => ?_
    nmC := fun c hc => ?_
    nmade := fun hm => ?_
    room := by show _ ≤ _; rw [s5]; exact h.room
    left := Nat.zero_le _
    steps := by show _ ≤ _; rw [s6]; exact h.steps
    lsum := ?_
    lfile := f1
    big := h.big }
  · have hx' : x ∈ (p.chg.take n).foldl pdo p.safe := by rw [← s1']; exact hx
    exact f2 x.2 ((hfn x hx').1)
  · have hc' : c ∈ (loses ((p.chg.take n).foldl pdo p.safe) 0 cuts (settle n p)).chg := hc
    rw [s3'] at hc'
    simp at hc'
  · show (List.map _ (loses ((p.chg.take n).foldl pdo p.safe) 0 cuts (settle n p)).safe ++ List.map _ (List.filter _ (loses ((p.chg.take n).foldl pdo p.safe) 0 cuts (settle n p)).chg)).Nodup
    rw [s3', s1']
    have hd := h.nodup
    have h2 := nodup_fold (p.chg.take n) (p.chg.drop n) p.safe hr (by
      have := h.okc
      rw [← List.take_append_drop n p.chg, okcs_append] at this
      exact this.1) (by rw [List.take_append_drop]; exact hd)
    rw [List.nodup_append] at h2
    simpa [vals] using h2.1
  · have hx' : x ∈ (p.chg.take n).foldl pdo p.safe := by rw [← s1']; exact hx
    exact (hfn x hx').2
  · have hc' : c ∈ (loses ((p.chg.take n).foldl pdo p.safe) 0 cuts (settle n p)).chg := hc
    rw [s3'] at hc'
    simp at hc'
  · have hm' : (loses ((p.chg.take n).foldl pdo p.safe) 0 cuts (settle n p)).made = false := hm
    rw [s4] at hm'
    obtain ⟨h1, h2⟩ := h.nmade hm'
    refine ⟨s3', ?_⟩
    show (loses ((p.chg.take n).foldl pdo p.safe) 0 cuts (settle n p)).safe = []
    rw [s1', h1, h2]
    simp
  · show (loses ((p.chg.take n).foldl pdo p.safe) 0 cuts (settle n p)).safe.length + (loses ((p.chg.take n).foldl pdo p.safe) 0 cuts (settle n p)).chg.length ≤ N
    rw [s1', s3']
    have h1 := length_fold (p.chg.take n) p.safe
    have h2 := List.length_take_le n p.chg
    have := h.lsum
    have h3 : (p.chg.take n).length ≤ p.chg.length := by simp; omega
    simp only [List.length_nil]
    omega

theorem up_nil (k : Int) (v : Value) (w : World) : Calls Tryz.prog 47 #[.pointer none, .int .i64 k, v] w fun e w' => e = .returned (.int .i64 18) ∧ w' = w := by
  go_enter Tryz.func47, Tryz.ntmps47
  go_wp2
  go_ret
  exact ⟨rfl, rfl⟩

end Go.Proofs.YtkekajmmcjacgaaGreatDoor.Sim
end
