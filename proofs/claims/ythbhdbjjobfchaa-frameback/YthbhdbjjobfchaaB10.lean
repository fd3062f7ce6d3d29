/- Of the proof: the texts FrRTake, FrRScan, FrAlive, FrLight, one behind the other. -/
import Derived.Test.YthbhdbjjobfchaaB8
import Derived.Test.YthbhdbjjobfchaaB9
import Derived.Test.YthbhdbjjobfchaaB7
import Derived.Test.YthbhdbjjobfchaaB4
section
/-
  The document's Take.
-/
namespace Go.Proofs.Ythbhdbjjobfchaa
open Go.RowKit Go.Shelf
open Tlv (Tr BySlS AgreeS Agree)
open Crc (hid Kept Tab)

theorem built26b (k : Int) (a : Option Addr) (l c : Nat) : Try.prog.built 26 [(0, .int .i64 k), (2, .slice a l c)] = some (recA k (List.replicate 32 0) (.slice a l c)).toArray := by kernel_rfl

/-- What the document's Take leaves. -/
def Rook (w w' : World) (e : Ending) (x : Int × (Int × List Int × List Int) × Nat) : Prop :=
  ∃ a c, e = .returned (.tuple #[.agg (recA x.2.1.1 x.2.1.2.1 (.slice a x.2.1.2.2.length c)).toArray, .int .i64 (x.2.2 : Nat), .int .i64 x.1]) ∧
    BySlS (fun g => w.heap.size ≤ g ∧ g < w'.heap.size) w' (.slice a x.2.1.2.2.length c) x.2.1.2.2 ∧ (x.2.1.2.1.length = 32 ∧ ∀ y ∈ x.2.1.2.1, 0 ≤ y ∧ y ≤ 255) ∧ Below w.heap.size w w'

theorem recA_set (k : Int) (nm : List Int) (v : Value) (j : Nat) (y : Int) (hj : j < nm.length) : recA k (nm.set j y) v = (recA k nm v).set (1 + j) (.int .u8 y) := by
  rw [recA, recA, Nat.add_comm 1 j, List.set_cons_succ, List.set_append_left _ _ (by rw [u8s_length]; exact hj)]
  simp [u8s, List.map_set]

theorem Half.put {w W : World} {k : Int} {nm : List Int} {v : Value} {g : Nat} (h : Half w W k nm v g) (hn : nm.length = 32) (j : Nat) (hj : j < 32) (y : Int) : Half w (W.setCell ⟨g, 1 + j, none⟩ (.int .u8 y)) k (nm.set j y) v g := by
  obtain ⟨h1, h2, h3, h4, h5⟩ := h
  have e : W.setCells g (1 + j) [.int .u8 y] = W.setCell ⟨g, 1 + j, none⟩ (.int .u8 y) := rfl
  refine ⟨h1.setCell (p := ⟨g, 1 + j, none⟩) h2 _, h2, by simpa using h3, fun i u hi => ?_, by rw [← e]; exact World.there_setCells h5 _ _ _⟩
  rw [recA_set _ _ _ _ _ (by omega), List.getElem?_set] at hi
  rw [Nat.zero_add]
  by_cases hq : 1 + j = i
  · subst hq
    rw [if_pos rfl, if_pos (by rw [recA_length _ _ _ hn]; omega)] at hi
    obtain ⟨u', hs⟩ := Option.isSome_iff_exists.1 (h5 (1 + j) (by omega)).1
    rw [Nat.zero_add] at hs
    rw [World.cell?_setCell_same _ _ _ hs]
    exact hi
  · rw [if_neg hq] at hi
    rw [World.cell?_setCell_other _ _ _ _ (by simp only [ne_eq, Addr.mk.injEq, and_true, true_and]; omega)]
    have := h4 i u hi
    rwa [Nat.zero_add] at this

theorem set_next (bn : List Int) {j : Nat} (hl : bn.length = 32) (hj : j < 32) : bn.take (j + 1) ++ List.replicate (32 - (j + 1)) 0 = (bn.take j ++ List.replicate (32 - j) 0).set j (bn.getD j 0) := by
  have h1 : (bn.take j).length = j := by rw [List.length_take]; omega
  rw [List.set_append_right _ _ (by omega), h1, Nat.sub_self, show 32 - j = (32 - (j + 1)) + 1 by omega, List.replicate_succ, List.set_cons_zero, List.take_add_one, List.append_assoc]
  congr 1
  rw [List.getD_eq_getElem?_getD, List.getElem?_eq_getElem (by omega)]
  rfl

theorem rook_none (w w' : World) (f : Int) (hk : Below w.heap.size w w') : Rook w w' (.returned (.tuple #[.agg zRec.toArray, .int .i64 0, .int .i64 f])) (noRec f) := by
  refine ⟨none, 0, rfl, Tlv.BySlS.none _ _, ⟨by simp [noRec], ?_⟩, hk⟩
  intro y hy
  rw [(List.mem_replicate.1 hy).2]
  omega

set_option maxHeartbeats 2000000 in
set_option maxRecDepth 100000 in
theorem rtake_any (v : Value) (xs : List Int) (w : World) (h : Tlv.BySl 0 w.heap.size w v xs) (hw2 : 2 ≤ w.heap.size) (hl : xs.length ≤ 80000) :
    Calls Try.prog 20 #[v] w fun e w' => Rook w w' e (takeF xs) := by
  obtain ⟨a, cap, rfl, h2, h3, _, h5, h6, _⟩ := id h
  have H := hid h
  have HX := hid h6
  clear h h6
  have hz := zero26
  obtain ⟨Z, hZ⟩ : ∃ Z, zRec = Z := ⟨_, rfl⟩
  have HZ := hid hZ
  rw [hZ] at hz
  clear hZ
  have HZS : Hid (Z.toArray.size = 34) := by rw [← HZ.out]; rfl
  have HI2 : Hid ((Try.prog.info? 26).map (·.size) = some Z.toArray.size) := by rw [← HZ.out]; exact Try.info26
  have H1 : Hid (Z.toArray.all (·.oneCell') = true) := by rw [← HZ.out]; exact all_oneCell_toArray zRec_one
  have k0 : Below w.heap.size w (w.alloc (.cells Z.toArray 26)) := (Below.refl _ _).alloc (Nat.le_refl _) _
  have HTH : Hid (World.there (w.alloc (.cells Z.toArray 26)) w.heap.size 0 34) := by
    have h := there_new w Z 26
    rw [show Z.length = 34 from HZS.out] at h
    exact h
  have HK0 := hid k0
  have hz0 : w.heap.size < (w.alloc (.cells Z.toArray 26)).heap.size := by simp
  go_enter Try.func20, Try.ntmps20
  go_wp2_with fail
  obtain ⟨W0, hW0⟩ : ∃ W0, w.alloc (.cells Z.toArray 26) = W0 := ⟨_, rfl⟩
  rw [hW0] at HTH HK0 hz0
  rw [hW0]
  clear hW0 k0
  have HB0 : Hid (Tlv.BySl 0 W0.heap.size W0 (.slice a xs.length cap) xs) := H.out.agree (Agree.below HK0.out) (Nat.le_refl _) HK0.out.size
  refine (Tlv.refTake_any _ xs W0 HB0.out).mono ?_
  rintro e w1 ⟨hres, hb1⟩
  have HB1 : Hid (Below w.heap.size w w1) := HK0.out.trans (hb1.mono HK0.out.size)
  have HT1 := hid (there_below HTH.out hb1 hz0)
  have hz1 : w.heap.size < w1.heap.size := Nat.lt_of_lt_of_le hz0 hb1.size
  have hzz : W0.heap.size ≤ w1.heap.size := hb1.size
  clear hb1
  rcases hres with ⟨hn, rfl⟩ | ⟨t, m, sb, sk, vr, hs, rfl, hr, hvr⟩
  · have HE := hid (takeF_none hn)
    clear hn
    have HV : Hid (World.there (w1.alloc (.cells #[.int .i64 0, .int .u64 0, .slice none 0 0, .slice none 0 0] 93)) w.heap.size 0 Z.toArray.size) := by
      rw [Hid, HZS.out]
      exact there_below HT1.out ((Below.refl _ _).alloc (Nat.le_refl _) _) hz1
    have HKV : Hid (Below w.heap.size w (w1.alloc (.cells #[.int .i64 0, .int .u64 0, .slice none 0 0, .slice none 0 0] 93))) := HB1.out.alloc (by omega) _
    go_wp2_with (refine wpList_store_mid (by rfl) 26 _ _ (by rfl) w.heap.size 0 Z.toArray (by rfl) (by rfl) HV.out HI2.out H1.out ?_)
    have hr : World.rangeAt (World.setCells (w1.alloc (.cells #[.int .i64 0, .int .u64 0, .slice none 0 0, .slice none 0 0] 93)) w.heap.size 0 Z) w.heap.size 0 Z := World.rangeAt_setCells_same _ _ _ _ HV.out
    refine bodyPost_ret (v := .tuple #[.agg Z.toArray, .int .i64 0, .int .i64 16]) (results_cell_mid3 Try.results20 _ _ w.heap.size 0 _ _ rfl hr Try.underlying26 rfl HI2.out) rfl ?_
    rw [HE.out, ← HZ.out]
    exact rook_none w _ 16 (HKV.out.trans (setCells_below (Nat.le_refl _) _ _ _))
  · have HE := hid (takeF_some hs)
    have HM := hid (rd_end hs)
    have hm := Tlv.rd_pos hs
    have HBZ : Hid ((Tlv.bsz 9 t 65535 8).2 = true) := (Tlv.rd_form 8 xs t m HX.out hs).2
    have HGT : Hid (Tlv.getT (xs.take m) = some t) := by
      have h1 := HM.out
      have h3 := endOf_ge xs
      rw [Hid, h1, get_take (by omega) (by omega), hs]
      rfl
    obtain ⟨a1, l1, c1, a2, l2, c2, rfl, rfl⟩ := hr.sl
    obtain ⟨ar, cr, rfl, hvr'⟩ := id hvr
    have hdl : (xs.drop m).length = xs.length - m := List.length_drop
    rw [hdl]
    clear hs hr hvr hvr'
    obtain ⟨V, hV⟩ : ∃ V, w1.alloc (.cells #[.int .i64 t.hd.1, .int .u64 t.hd.2.1, .slice a1 l1 c1, .slice a2 l2 c2] 93) = V := ⟨_, rfl⟩
    have kV : Below w1.heap.size w1 V := by rw [← hV]; exact (Below.refl _ _).alloc (Nat.le_refl _) _
    have HKV : Hid (Below w.heap.size w V) := HB1.out.trans (kV.mono HB1.out.size)
    have HTV := hid (there_below HT1.out kV hz1)
    have hzV : w1.heap.size < V.heap.size := by rw [← hV]; simp
    by_cases h4 : xs.length - m < 4
    · have h4' : ((xs.length - m : Nat) : Int) < 4 := by omega
      have HE2 : Hid (takeF xs = noRec 16) := by rw [Hid, HE.out, if_pos h4]
      have HVZ : Hid (World.there V w.heap.size 0 Z.toArray.size) := by rw [Hid, HZS.out]; exact HTV.out
      clear HE
      go_wp2_with (refine wpList_store_mid (by rfl) 26 _ _ (by rfl) w.heap.size 0 Z.toArray (by rfl) (by rfl) HVZ.out HI2.out H1.out ?_)
      have hr : World.rangeAt (World.setCells V w.heap.size 0 Z) w.heap.size 0 Z := World.rangeAt_setCells_same _ _ _ _ HVZ.out
      refine bodyPost_ret (v := .tuple #[.agg Z.toArray, .int .i64 0, .int .i64 16]) (results_cell_mid3 Try.results20 _ _ w.heap.size 0 _ _ rfl hr Try.underlying26 rfl HI2.out) rfl ?_
      rw [HE2.out, ← HZ.out]
      exact rook_none w _ 16 (HKV.out.trans (setCells_below (Nat.le_refl _) _ _ _))
    · have h4' : (4 : Int) ≤ ((xs.length - m : Nat) : Int) := by omega
      have h4n : m + 4 ≤ xs.length := by omega
      have h4c : m + 4 ≤ cap := by omega
      have hsub : ((xs.length : Int) - ((xs.length - m : Nat) : Int)) = (m : Int) := by omega
      have HTK : Hid (nats (xs.take (m + 4)) = nats (xs.take m) ++ nats ((xs.drop m).take 4)) := by rw [Hid, ← nats_append, List.take_add]
      obtain ⟨bq, hbq, hcb⟩ := anyCrc (bySl_take (H.out.agree (Agree.below HKV.out) (Nat.le_refl _) HKV.out.size) h4n) (by omega) (Nat.le_refl _)
      rw [HTK.out] at hcb
      have hl4 : ((xs.drop m).take 4).length = 4 := by rw [List.length_take, List.length_drop]; omega
      have HOP := hid (Crc.refOpen_any bq _ (nats (xs.take m)) (nats ((xs.drop m).take 4)) V hbq hcb (by rw [nats_length, hl4]) (by rw [nats_length, List.length_take]; omega))
      clear hcb h4 kV
      go_wp2_with fail
      clear hV
      refine HOP.out.mono ?_
      rintro e w2 ⟨hk2, v', q, rfl, hq⟩
      have HK2 : Hid (Below w.heap.size w w2) := HKV.out.trans (hk2.mono HKV.out.size)
      have HH2 := hid (there_below HTV.out hk2 (by omega))
      have HHZ : Hid (w2.there w.heap.size 0 Z.toArray.size) := by rw [Hid, HZS.out]; exact HH2.out
      have hz2 : V.heap.size ≤ w2.heap.size := hk2.size
      clear hk2 HOP
      rcases hq with ⟨heq, rfl, hv⟩ | ⟨hne, rfl, rfl⟩
      rotate_left
      · have HE2 : Hid (takeF xs = noRec 4) := by
          rw [Hid, HE.out, if_neg (by omega), if_pos]
          intro hc
          apply hne
          rw [← hc, sumI, nats_ints]
        clear hne HE
        go_wp2_with (refine wpList_store_mid (by rfl) 26 _ _ (by rfl) w.heap.size 0 Z.toArray (by rfl) (by rfl) HHZ.out HI2.out H1.out ?_)
        have hr : World.rangeAt (World.setCells w2 w.heap.size 0 Z) w.heap.size 0 Z := World.rangeAt_setCells_same _ _ _ _ HHZ.out
        refine bodyPost_ret (v := .tuple #[.agg Z.toArray, .int .i64 0, .int .i64 4]) (results_cell_mid3 Try.results20 _ _ w.heap.size 0 _ _ rfl hr Try.underlying26 rfl HI2.out) rfl ?_
        rw [HE2.out, ← HZ.out]
        exact rook_none w _ 4 (HK2.out.trans (setCells_below (Nat.le_refl _) _ _ _))
      · have HE2 : Hid (takeF xs = match recOf t with
            | none => noRec 3
            | some r => (0, r, m + 4)) := by
          have hc : ¬ sumI (xs.take m) ≠ (xs.drop m).take 4 := by
            intro hc
            apply hc
            rw [sumI, heq, ints_nats]
            intro x hx
            exact HX.out x (List.mem_of_mem_drop (List.mem_of_mem_take hx))
          rw [Hid, HE.out, if_neg (by omega), if_neg hc]
          cases recOf t <;> rfl
        have hv2 := (ofCrc hv).to (B := w2.heap.size) (fun g hg => hg.2)
        rw [ints_nats _ (fun x hx => HX.out x (List.mem_of_mem_take hx))] at hv2
        obtain ⟨av, cv, rfl, hrest⟩ := id hv2
        have hlm : (xs.take m).length = m := by rw [List.length_take]; omega
        rw [hlm] at hv2
        rw [hlm]
        have HV2 := hid hv2
        clear heq HE hv hv2 hlm hrest
        go_wp2_with fail
        refine (Tlv.refGet_any _ _ _ HV2.out).mono ?_
        rintro e w3 ⟨hres, hb3⟩
        have HK3 : Hid (Below w.heap.size w w3) := HK2.out.trans (hb3.mono HK2.out.size)
        have HH3 := hid (there_below HH2.out hb3 (by omega))
        have hz3 : w2.heap.size ≤ w3.heap.size := hb3.size
        clear hb3
        rcases hres with ⟨hn, rfl⟩ | ⟨t', sb, sk, hs, rfl, hr⟩
        · exact absurd (HGT.out.symm.trans hn) (by simp)
        · have ht : t' = t := Option.some.inj (hs.symm.trans HGT.out)
          rw [ht] at hr
          rw [ht]
          have hrr : Tlv.RepS (fun b => w2.heap.size ≤ b ∧ b < w3.heap.size) w3 (8 + 1) t sb sk := hr
          obtain ⟨_, _, hby, hks⟩ := hrr
          obtain ⟨d1, f1, rfl, _⟩ := id hby
          obtain ⟨d2, f2, rfl, _, _, _, _, hk7⟩ := id hks
          clear hs hr hby hks
          obtain ⟨V3, hV3⟩ : ∃ V3, w3.alloc (.cells #[.int .i64 t.hd.1, .int .u64 t.hd.2.1, .slice d1 t.hd.2.2.length f1, .slice d2 t.kd.length f2] 93) = V3 := ⟨_, rfl⟩
          have kV3 : Below w3.heap.size w3 V3 := by rw [← hV3]; exact (Below.refl _ _).alloc (Nat.le_refl _) _
          have HKV3 : Hid (Below w.heap.size w V3) := HK3.out.trans (kV3.mono HK3.out.size)
          have HTV3 := hid (there_below HH3.out kV3 (by omega))
          have HVZ : Hid (World.there V3 w.heap.size 0 Z.toArray.size) := by rw [Hid, HZS.out]; exact HTV3.out
          have hzV3 : V3.heap.size = w3.heap.size + 1 := by rw [← hV3]; simp
          have n0 : V3.cell? ⟨w3.heap.size, 0, none⟩ = some (.int .i64 t.hd.1) := by rw [← hV3, World.cell?_alloc_at _ _ _ _ rfl]; rfl
          have n2 : V3.cell? ⟨w3.heap.size, 2, none⟩ = some (.slice d1 t.hd.2.2.length f1) := by rw [← hV3, World.cell?_alloc_at _ _ _ _ rfl]; rfl
          have n3 : V3.cell? ⟨w3.heap.size, 3, none⟩ = some (.slice d2 t.kd.length f2) := by rw [← hV3, World.cell?_alloc_at _ _ _ _ rfl]; rfl
          have kc := fun (g o : Nat) (hg : g < w3.heap.size) => kV3.cell (p := ⟨g, o, none⟩) hg
          have HK3V := hid kV3
          clear kV3 HB0 HTH HV2
          have hst : (storeCells ⟨w.heap.size, 0, none⟩ Z).run Try.prog V3 = .ok () (V3.setCells w.heap.size 0 Z) := by
            have h := run_storeCells_cells (P := Try.prog) w.heap.size 0 Z 0 V3 (fun j hj => by simpa using (HVZ.out j hj).1) (fun j hj => by simpa using (HVZ.out j hj).2) (fun v hv => zRec_one v (by rw [HZ.out]; exact hv))
            simpa using h
          by_cases h31 : t.hd.1 = 3
          rotate_left
          · have hrn : recOf t = none := by
              rw [recOf]
              split
              · rw [if_neg (fun h => h31 h.1)]
              · rfl
            have hne : (t.hd.1 != 3) = true := by simp [h31]
            have HE3 : Hid (takeF xs = noRec 3) := by rw [Hid, HE2.out, hrn]
            go_wp2_with fail
            have hr : World.rangeAt (World.setCells V3 w.heap.size 0 Z) w.heap.size 0 Z := World.rangeAt_setCells_same _ _ _ _ HVZ.out
            refine bodyPost_ret (v := .tuple #[.agg Z.toArray, .int .i64 0, .int .i64 3]) (results_cell_mid3 Try.results20 _ _ w.heap.size 0 _ _ rfl hr Try.underlying26 rfl HI2.out) rfl ?_
            rw [HE3.out, ← HZ.out]
            exact rook_none w _ 3 (HKV3.out.trans (setCells_below (Nat.le_refl _) _ _ _))
          by_cases h32 : t.kd.length = 3
          rotate_left
          · have hrn : recOf t = none := by
              rw [recOf]
              split
              · rename_i hq
                rw [hq] at h32
                simp at h32
              · rfl
            have hT3 : (t.hd.1 != 3) = false := by simp [h31]
            have hne : ((t.kd.length : Int) != 3) = true := by simp; omega
            clear h31
            have HE3 : Hid (takeF xs = noRec 3) := by rw [Hid, HE2.out, hrn]
            go_wp2_with fail
            have hr : World.rangeAt (World.setCells V3 w.heap.size 0 Z) w.heap.size 0 Z := World.rangeAt_setCells_same _ _ _ _ HVZ.out
            refine bodyPost_ret (v := .tuple #[.agg Z.toArray, .int .i64 0, .int .i64 3]) (results_cell_mid3 Try.results20 _ _ w.heap.size 0 _ _ rfl hr Try.underlying26 rfl HI2.out) rfl ?_
            rw [HE3.out, ← HZ.out]
            exact rook_none w _ 3 (HKV3.out.trans (setCells_below (Nat.le_refl _) _ _ _))
          obtain ⟨ka, kb, kc', hkd⟩ : ∃ ka kb kc, t.kd = [ka, kb, kc] := by
            match hq : t.kd with
            | [a, b, c] => exact ⟨a, b, c, rfl⟩
            | [] => rw [hq] at h32; simp at h32
            | [_] => rw [hq] at h32; simp at h32
            | [_, _] => rw [hq] at h32; simp at h32
            | _ :: _ :: _ :: _ :: _ => rw [hq] at h32; simp at h32
          have hRO : recOf t = if t.hd.1 = 3 ∧ ka.hd.1 = 1 ∧ kb.hd.1 = 2 ∧ kc'.hd.1 = 2 ∧ kb.hd.2.2.length = 32 ∧ 1 ≤ ka.hd.2.1 ∧ ka.hd.2.1 ≤ 9 ∧ kc'.hd.2.2.length ≤ 5000 then some (ka.hd.2.1, kb.hd.2.2, kc'.hd.2.2) else none := by rw [recOf, hkd]
          obtain ⟨bk, ok, rfl, hbk, hcell⟩ := hk7 (by rw [hkd]; simp)
          obtain ⟨sa, ska, a0, a1, a2, a3, ra⟩ := hcell 0 ka (by rw [hkd]; rfl)
          obtain ⟨sbb, skb, b0, b1, b2, b3, rb⟩ := hcell 1 kb (by rw [hkd]; rfl)
          obtain ⟨sc, skc, c0, c1, c2, c3, rc⟩ := hcell 2 kc' (by rw [hkd]; rfl)
          simp only [Nat.zero_mul, Nat.reduceMul, Nat.add_zero] at a0 a1 b0 b2 c0 c2
          obtain ⟨an0, an1, _, _⟩ := ra
          obtain ⟨_, _, bby, _⟩ := rb
          obtain ⟨_, _, cby, _⟩ := rc
          have HCB := hid cby
          have HBB := hid bby
          obtain ⟨abb, cbb, rfl, _, _, _, _, hb6, hb7⟩ := id bby
          have HBY : Hid (kb.hd.2.2 ≠ [] → ∃ gb ob, abb = some ⟨gb, ob, none⟩ ∧ gb < w3.heap.size ∧ ∀ i, i < kb.hd.2.2.length → V3.cell? ⟨gb, ob + i, none⟩ = some (.int .u8 (kb.hd.2.2.getD i 0))) := fun hne => by
            obtain ⟨gb, ob, e, hS, hc⟩ := hb7 hne
            exact ⟨gb, ob, e, hS.2, fun i hi => (kc gb _ hS.2).trans (hc i hi)⟩
          have HB6 := hid hb6
          clear hb6 hb7
          obtain ⟨ac, cc, rfl, _⟩ := id cby
          replace a0 := (kc bk _ hbk.2).trans a0
          replace a1 := (kc bk _ hbk.2).trans a1
          replace b0 := (kc bk _ hbk.2).trans b0
          replace b2 := (kc bk _ hbk.2).trans b2
          replace c0 := (kc bk _ hbk.2).trans c0
          replace c2 := (kc bk _ hbk.2).trans c2
          have hkb := hbk.2
          rw [h32] at n3
          have hT3 : (t.hd.1 != 3) = false := by simp [h31]
          clear hcell a2 a3 b1 b3 c1 c3 hk7 bby cby kc
          rw [h32] at hV3
          rw [h32]
          generalize kb.hd.2.2 = bn at *
          generalize kc'.hd.2.2 = cs at *
          generalize ka.hd.2.1 = num0 at *
          generalize ka.hd.1 = tga at *
          generalize kb.hd.1 = tgb at *
          generalize kc'.hd.1 = tgc at *
          generalize t.hd.2.2 = tbs at *
          generalize t.hd.2.1 = tnum at *
          generalize t.hd.1 = tag at *
          subst h31
          by_cases q0 : tga = 1
          rotate_left
          · have hrn : recOf t = none := by rw [hRO, if_neg (fun h => q0 h.2.1)]
            have hn0 : (tga != 1) = true := by simp; omega
            have HE3 : Hid (takeF xs = noRec 3) := by rw [Hid, HE2.out, hrn]
            go_wp2_with fail
            have hr : World.rangeAt (World.setCells V3 w.heap.size 0 Z) w.heap.size 0 Z := World.rangeAt_setCells_same _ _ _ _ HVZ.out
            refine bodyPost_ret (v := .tuple #[.agg Z.toArray, .int .i64 0, .int .i64 3]) (results_cell_mid3 Try.results20 _ _ w.heap.size 0 _ _ rfl hr Try.underlying26 rfl HI2.out) rfl ?_
            rw [HE3.out, ← HZ.out]
            exact rook_none w _ 3 (HKV3.out.trans (setCells_below (Nat.le_refl _) _ _ _))
          have hn0 : (tga != 1) = false := by simp; omega
          by_cases q1 : tgb = 2
          rotate_left
          · have hrn : recOf t = none := by rw [hRO, if_neg (fun h => q1 h.2.2.1)]
            have hn1 : (tgb != 2) = true := by simp; omega
            have HE3 : Hid (takeF xs = noRec 3) := by rw [Hid, HE2.out, hrn]
            go_wp2_with fail
            have hr : World.rangeAt (World.setCells V3 w.heap.size 0 Z) w.heap.size 0 Z := World.rangeAt_setCells_same _ _ _ _ HVZ.out
            refine bodyPost_ret (v := .tuple #[.agg Z.toArray, .int .i64 0, .int .i64 3]) (results_cell_mid3 Try.results20 _ _ w.heap.size 0 _ _ rfl hr Try.underlying26 rfl HI2.out) rfl ?_
            rw [HE3.out, ← HZ.out]
            exact rook_none w _ 3 (HKV3.out.trans (setCells_below (Nat.le_refl _) _ _ _))
          have hn1 : (tgb != 2) = false := by simp; omega
          by_cases q2 : tgc = 2
          rotate_left
          · have hrn : recOf t = none := by rw [hRO, if_neg (fun h => q2 h.2.2.2.1)]
            have hn2 : (tgc != 2) = true := by simp; omega
            have HE3 : Hid (takeF xs = noRec 3) := by rw [Hid, HE2.out, hrn]
            go_wp2_with fail
            have hr : World.rangeAt (World.setCells V3 w.heap.size 0 Z) w.heap.size 0 Z := World.rangeAt_setCells_same _ _ _ _ HVZ.out
            refine bodyPost_ret (v := .tuple #[.agg Z.toArray, .int .i64 0, .int .i64 3]) (results_cell_mid3 Try.results20 _ _ w.heap.size 0 _ _ rfl hr Try.underlying26 rfl HI2.out) rfl ?_
            rw [HE3.out, ← HZ.out]
            exact rook_none w _ 3 (HKV3.out.trans (setCells_below (Nat.le_refl _) _ _ _))
          have hn2 : (tgc != 2) = false := by simp; omega
          by_cases q3 : bn.length = 32
          rotate_left
          · have hrn : recOf t = none := by rw [hRO, if_neg (fun h => q3 h.2.2.2.2.1)]
            have hn3 : ((bn.length : Int) != 32) = true := by simp; omega
            have HE3 : Hid (takeF xs = noRec 3) := by rw [Hid, HE2.out, hrn]
            go_wp2_with fail
            have hr : World.rangeAt (World.setCells V3 w.heap.size 0 Z) w.heap.size 0 Z := World.rangeAt_setCells_same _ _ _ _ HVZ.out
            refine bodyPost_ret (v := .tuple #[.agg Z.toArray, .int .i64 0, .int .i64 3]) (results_cell_mid3 Try.results20 _ _ w.heap.size 0 _ _ rfl hr Try.underlying26 rfl HI2.out) rfl ?_
            rw [HE3.out, ← HZ.out]
            exact rook_none w _ 3 (HKV3.out.trans (setCells_below (Nat.le_refl _) _ _ _))
          have hn3 : ((bn.length : Int) != 32) = false := by simp; omega
          by_cases q4 : num0 ≤ 9
          rotate_left
          · have hrn : recOf t = none := by rw [hRO, if_neg (fun h => q4 h.2.2.2.2.2.2.1)]
            have hn4 : 9 < num0 := by omega
            have HE3 : Hid (takeF xs = noRec 3) := by rw [Hid, HE2.out, hrn]
            go_wp2_with fail
            have hr : World.rangeAt (World.setCells V3 w.heap.size 0 Z) w.heap.size 0 Z := World.rangeAt_setCells_same _ _ _ _ HVZ.out
            refine bodyPost_ret (v := .tuple #[.agg Z.toArray, .int .i64 0, .int .i64 3]) (results_cell_mid3 Try.results20 _ _ w.heap.size 0 _ _ rfl hr Try.underlying26 rfl HI2.out) rfl ?_
            rw [HE3.out, ← HZ.out]
            exact rook_none w _ 3 (HKV3.out.trans (setCells_below (Nat.le_refl _) _ _ _))
          have HALLC := hid (And.intro hRO (And.intro q0 (And.intro q1 (And.intro q2 (And.intro q3 q4)))))
          go_wp2_with fail
          clear hV3 hst
          have hzb1 : w3.heap.size < V3.heap.size := by omega
          have hzb2 : bk < V3.heap.size := by omega
          have HSZ3 := hid hzV3
          clear hzV3
          go_cut [12] (fun p wx => ∃ g, p = .pointer (some ⟨g, 0, none⟩) ∧ Hid (Half V3 wx num0 (List.replicate 32 0) (.slice ac cs.length cc) g))
          case first =>
            obtain ⟨C0, hC0⟩ : ∃ C0, recA num0 (List.replicate 32 0) (.slice ac cs.length cc) = C0 := ⟨_, rfl⟩
            have HC0L : Hid (C0.length = 34) := by rw [← hC0]; exact recA_length _ _ _ (by simp)
            have HBU : Hid (Try.prog.built 26 [(0, .int .i64 num0), (2, .slice ac cs.length cc)] = some C0.toArray) := by rw [← hC0]; exact built26b _ _ _ _
            have HI0 : Hid ((Try.prog.info? 26).map (·.size) = some C0.toArray.size) := by rw [Hid, show C0.toArray.size = 34 from HC0L.out]; exact Try.info26
            have H10 : Hid (C0.toArray.all (·.oneCell') = true) := by rw [← hC0]; exact all_oneCell_toArray (recA_one _ _ _ _ _)
            have HT0 : Hid (World.there (V3.drew.alloc (.cells Z.toArray 26)) V3.heap.size 0 C0.toArray.size) := by
              have h := there_new V3.drew Z 26
              rw [← HZ.out, zRec_length] at h
              rw [Hid, show C0.toArray.size = 34 from HC0L.out, ← HZ.out]
              exact h
            have HS1 : Hid (Below V3.heap.size V3 (V3.drew.alloc (.cells Z.toArray 26))) := (Below.refl _ _).drew.alloc (Nat.le_refl _) _
            have HS2 : Hid (Below V3.heap.size V3 ((V3.drew.alloc (.cells Z.toArray 26)).setCells V3.heap.size 0 C0)) := HS1.out.trans (setCells_below (Nat.le_refl _) _ _ _)
            have HALF : Hid (Half V3 ((V3.drew.alloc (.cells Z.toArray 26)).setCells V3.heap.size 0 C0) num0 (List.replicate 32 0) (.slice ac cs.length cc) V3.heap.size) := by
              refine ⟨HS2.out, Nat.le_refl _, by rw [setCells_size]; simp, ?_, ?_⟩
              · rw [hC0]
                exact World.rangeAt_setCells_same _ _ _ _ HT0.out
              · have h := World.there_setCells HT0.out V3.heap.size 0 C0
                rwa [show C0.toArray.size = 34 from HC0L.out] at h
            clear hC0
            have hkw : IntKind.i64.wrap num0 = num0 := by rw [IntKind.wrap_i64]; omega
            refine wp_region_held_drew (S := fun V => Below V3.heap.size V3 V) (by kernel_rfl) (Below.refl _ _).drew (fun hHeld => ?_)
            refine wpAnyH_take (i := 0) (oi := { dst := some 101, op := Op.fieldAddr 93 (Operand.tmp 10) 3, type := 0, pos := "ref.go:51", after := #[], guard := none }) (v := .pointer (some ⟨w3.heap.size, 3, none⟩)) rfl (by kernel_rfl) (by kernel_rfl) (by kernel_rfl) (fun _ _ _ h => h) (Or.inl ⟨by rfl, fun w' hw' => by (clear hw'; go_simp)⟩) hHeld ?_
            simp only [Act.put, List.setIfInBounds_toArray, List.set_cons_zero, List.set_cons_succ]
            refine wpAnyH_take (i := 1) (oi := { dst := some 102, op := Op.load 91 (Operand.tmp 101), type := 91, pos := "ref.go:51", after := #[{ on := 0, ground := Ground.data }], guard := none }) (v := .slice (some ⟨bk, ok, none⟩) 3 f2) rfl (by kernel_rfl) (by kernel_rfl) (by kernel_rfl) (fun _ _ _ h => h) (Or.inl ⟨by rfl, fun w' hw' => by (have q := (hw'.cell (p := ⟨w3.heap.size, 3, none⟩) hzb1).trans n3; clear hw'; go_simp)⟩) hHeld ?_
            simp only [Act.put, List.setIfInBounds_toArray, List.set_cons_zero, List.set_cons_succ]
            refine wpAnyH_take (i := 2) (oi := { dst := some 103, op := Op.indexAddr 91 (Operand.tmp 102) (Operand.const (Value.int IntKind.i64 0)), type := 0, pos := "ref.go:51", after := #[{ on := 1, ground := Ground.data }], guard := none }) (v := .pointer (some ⟨bk, ok, none⟩)) rfl (by kernel_rfl) (by kernel_rfl) (by kernel_rfl) (fun _ _ _ h => h) (Or.inl ⟨by rfl, fun w' hw' => by (clear hw'; go_simp)⟩) hHeld ?_
            simp only [Act.put, List.setIfInBounds_toArray, List.set_cons_zero, List.set_cons_succ]
            refine wpAnyH_take (i := 3) (oi := { dst := some 104, op := Op.fieldAddr 93 (Operand.tmp 103) 1, type := 0, pos := "ref.go:51", after := #[{ on := 2, ground := Ground.data }], guard := none }) (v := .pointer (some ⟨bk, ok + 1, none⟩)) rfl (by kernel_rfl) (by kernel_rfl) (by kernel_rfl) (fun _ _ _ h => h) (Or.inl ⟨by rfl, fun w' hw' => by (clear hw'; go_simp)⟩) hHeld ?_
            simp only [Act.put, List.setIfInBounds_toArray, List.set_cons_zero, List.set_cons_succ]
            refine wpAnyH_take (i := 4) (oi := { dst := some 105, op := Op.load 85 (Operand.tmp 104), type := 85, pos := "ref.go:51", after := #[{ on := 3, ground := Ground.data }], guard := none }) (v := .int .u64 num0) rfl (by kernel_rfl) (by kernel_rfl) (by kernel_rfl) (fun _ _ _ h => h) (Or.inl ⟨by rfl, fun w' hw' => by (have q := (hw'.cell (p := ⟨bk, ok + 1, none⟩) hzb2).trans a1; clear hw'; go_simp)⟩) hHeld ?_
            simp only [Act.put, List.setIfInBounds_toArray, List.set_cons_zero, List.set_cons_succ]
            refine wpAnyH_take (i := 5) (oi := { dst := some 106, op := Op.convert 85 3 (Operand.tmp 105), type := 3, pos := "ref.go:51", after := #[{ on := 4, ground := Ground.data }], guard := none }) (v := .int .i64 num0) rfl (by kernel_rfl) (by kernel_rfl) (by kernel_rfl) (fun _ _ _ h => h) (Or.inl ⟨by rfl, fun w' hw' => by (clear hw'; go_simp)⟩) hHeld ?_
            simp only [Act.put, List.setIfInBounds_toArray, List.set_cons_zero, List.set_cons_succ]
            refine wpAnyH_take (i := 6) (oi := { dst := some 107, op := Op.fieldAddr 93 (Operand.tmp 10) 3, type := 0, pos := "ref.go:51", after := #[], guard := none }) (v := .pointer (some ⟨w3.heap.size, 3, none⟩)) rfl (by kernel_rfl) (by kernel_rfl) (by kernel_rfl) (fun _ _ _ h => h) (Or.inl ⟨by rfl, fun w' hw' => by (clear hw'; go_simp)⟩) hHeld ?_
            simp only [Act.put, List.setIfInBounds_toArray, List.set_cons_zero, List.set_cons_succ]
            refine wpAnyH_take (i := 7) (oi := { dst := some 108, op := Op.load 91 (Operand.tmp 107), type := 91, pos := "ref.go:51", after := #[{ on := 6, ground := Ground.data }], guard := none }) (v := .slice (some ⟨bk, ok, none⟩) 3 f2) rfl (by kernel_rfl) (by kernel_rfl) (by kernel_rfl) (fun _ _ _ h => h) (Or.inl ⟨by rfl, fun w' hw' => by (have q := (hw'.cell (p := ⟨w3.heap.size, 3, none⟩) hzb1).trans n3; clear hw'; go_simp)⟩) hHeld ?_
            simp only [Act.put, List.setIfInBounds_toArray, List.set_cons_zero, List.set_cons_succ]
            refine wpAnyH_take (i := 8) (oi := { dst := some 109, op := Op.indexAddr 91 (Operand.tmp 108) (Operand.const (Value.int IntKind.i64 2)), type := 0, pos := "ref.go:51", after := #[{ on := 7, ground := Ground.data }], guard := none }) (v := .pointer (some ⟨bk, ok + 8, none⟩)) rfl (by kernel_rfl) (by kernel_rfl) (by kernel_rfl) (fun _ _ _ h => h) (Or.inl ⟨by rfl, fun w' hw' => by (clear hw'; go_simp)⟩) hHeld ?_
            simp only [Act.put, List.setIfInBounds_toArray, List.set_cons_zero, List.set_cons_succ]
            refine wpAnyH_take (i := 9) (oi := { dst := some 110, op := Op.fieldAddr 93 (Operand.tmp 109) 2, type := 0, pos := "ref.go:51", after := #[{ on := 8, ground := Ground.data }], guard := none }) (v := .pointer (some ⟨bk, ok + 8 + 2, none⟩)) rfl (by kernel_rfl) (by kernel_rfl) (by kernel_rfl) (fun _ _ _ h => h) (Or.inl ⟨by rfl, fun w' hw' => by (clear hw'; go_simp)⟩) hHeld ?_
            simp only [Act.put, List.setIfInBounds_toArray, List.set_cons_zero, List.set_cons_succ]
            refine wpAnyH_take (i := 10) (oi := { dst := some 111, op := Op.load 24 (Operand.tmp 110), type := 24, pos := "ref.go:51", after := #[{ on := 9, ground := Ground.data }], guard := none }) (v := .slice ac cs.length cc) rfl (by kernel_rfl) (by kernel_rfl) (by kernel_rfl) (fun _ _ _ h => h) (Or.inl ⟨by rfl, fun w' hw' => by (have q := (hw'.cell (p := ⟨bk, ok + 8 + 2, none⟩) hzb2).trans c2; clear hw'; go_simp)⟩) hHeld ?_
            simp only [Act.put, List.setIfInBounds_toArray, List.set_cons_zero, List.set_cons_succ]
            refine wpAnyH_take (i := 11) (oi := { dst := some 112, op := Op.build 26 #[(0, Operand.tmp 106), (2, Operand.tmp 111)], type := 26, pos := "ref.go:51", after := #[{ on := 5, ground := Ground.data }, { on := 10, ground := Ground.data }], guard := none }) (v := .agg C0.toArray) rfl (by kernel_rfl) (by kernel_rfl) (by kernel_rfl) (fun _ _ _ h => h) (yields_build2 (by rfl) _ _ _ _ _ rfl _ _ rfl rfl _ HBU.out) hHeld ?_
            simp only [Act.put, List.setIfInBounds_toArray, List.set_cons_zero, List.set_cons_succ]
            refine wpAnyH_ready (rs := [12]) (by kernel_rfl) (by simp) ?_
            refine AllReadyH.cons (o := { dst := some 12, op := Op.alloc 26, type := 0, pos := "ref.go:51", after := #[], guard := none }) rfl (fun K hK => ?_) AllReadyH.nil
            go_simp
            refine hK.out _ _ HS1.out (fun hh => ?_)
            clear hK K hHeld
            have hHeld := hh
            clear hh
            try simp only [Act.put, List.setIfInBounds_toArray, List.set_cons_zero, List.set_cons_succ]
            refine wpAnyH_ready (rs := [13]) (by kernel_rfl) (by simp) ?_
            refine AllReadyH.cons (o := { dst := none, op := Op.store 26 (Operand.tmp 12) (Operand.tmp 112), type := 0, pos := "ref.go:51", after := #[{ on := 12, ground := Ground.data }, { on := 11, ground := Ground.data }, { on := 0, ground := Ground.phase }, { on := 1, ground := Ground.phase }, { on := 2, ground := Ground.phase }, { on := 3, ground := Ground.phase }, { on := 4, ground := Ground.phase }, { on := 5, ground := Ground.phase }, { on := 6, ground := Ground.phase }, { on := 7, ground := Ground.phase }, { on := 8, ground := Ground.phase }, { on := 9, ground := Ground.phase }, { on := 10, ground := Ground.phase }, { on := 11, ground := Ground.phase }, { on := 12, ground := Ground.phase }], guard := none }) rfl (fun K hK => ?_) AllReadyH.nil
            rw [if_pos (by rfl)]
            refine wp_store_mid 26 _ _ (by rfl) V3.heap.size 0 C0.toArray (by rfl) (by rfl) HT0.out HI0.out H10.out ?_
            refine hK.out _ _ HS2.out (fun hh => ?_)
            clear hK K hHeld hh
            refine wpAnyH_done (by kernel_rfl) ?_ _
            go_wp2_with fail
            go_meet
            exact ⟨_, rfl, HALF.out⟩
          case rest =>
            obtain ⟨g, rfl, HALF⟩ := hcut
            have HBN := hid (And.intro hn3 (And.intro q3 (And.intro n3 b2)))
            have HZQ := hid hz
            clear n0 n2 a0 a1 b0 c0 c2 hn0 hn1 hn2 hT3 hz
            go_wp2_with fail
            go_loopw [13] (fun i wr => ∃ j : Nat, j ≤ 32 ∧ i = .int .i64 (j : Int) ∧ Hid (Half V3 wr num0 (bn.take j ++ List.replicate (32 - j) 0) (.slice ac cs.length cc) g)) (fun i _ => 32 - (intOf i).toNat)
            case atStart => exact ⟨0, by omega, rfl, by simpa using HALF⟩
            case round =>
              obtain ⟨j, hj, rfl, HJ⟩ := hrel
              have hbl : bn.length = 32 := q3
              obtain ⟨hb1, hg0, hg1, hr1, ht1⟩ := HJ.out
              by_cases hlt : j < 32
              · obtain ⟨gb, ob, rfl, hgb, hcb⟩ := HBY.out (by intro e; rw [e] at hbl; simp at hbl)
                have m3 := (hb1.cell (p := ⟨w3.heap.size, 3, none⟩) hzb1).trans n3
                have mb := (hb1.cell (p := ⟨bk, ok + 4 + 2, none⟩) hzb2).trans b2
                have my := (hb1.cell (p := ⟨gb, ob + j, none⟩) (by show gb < _; omega)).trans (hcb j (by omega))
                obtain ⟨u, hu⟩ := Option.isSome_iff_exists.1 (ht1 (1 + j) (by omega)).1
                have hfz := (ht1 (1 + j) (by omega)).2
                rw [Nat.zero_add] at hu hfz
                rw [hbl] at mb
                have HSET : Hid (bn.take (j + 1) ++ List.replicate (32 - (j + 1)) 0 = (bn.take j ++ List.replicate (32 - j) 0).set j (bn.getD j 0)) := set_next bn hbl hlt
                have HPUT := hid (HJ.out.put (by simp; omega) j hlt (bn.getD j 0))
                have hyb := HB6.out (bn.getD j 0) (by rw [List.getD_eq_getElem?_getD, List.getElem?_eq_getElem (by omega)]; simp)
                generalize bn.getD j 0 = y at *
                have hji : (j : Int) < 32 := by omega
                clear hb1 hr1 ht1 hcb n3 b2
                go_wp2_with fail
                refine ⟨⟨j + 1, by omega, by go_num, ?_⟩, by simp [intOf]; omega⟩
                rw [HSET.out]
                exact HPUT
              · have hj32 : j = 32 := by omega
                subst hj32
                have ebn : bn.take 32 ++ List.replicate (32 - 32) 0 = bn := by rw [List.take_of_length_le (by omega)]; simp
                rw [ebn] at hr1
                have HKW : Hid (Below w.heap.size w wr) := HKV3.out.trans (hb1.mono HKV3.out.size)
                have HTW := hid (there_below HTV3.out hb1 (by omega))
                have HCL := hid (recA_length num0 bn (.slice ac cs.length cc) hbl)
                have HCO := hid (recA_one num0 bn ac cs.length cc)
                have HC0 := hid (recA_0 num0 bn (.slice ac cs.length cc))
                have HC33 := hid (recA_33 num0 bn (.slice ac cs.length cc) hbl)
                obtain ⟨C, hC⟩ : ∃ C, recA num0 bn (.slice ac cs.length cc) = C := ⟨_, rfl⟩
                have HCC := hid hC
                rw [hC] at hr1 HCL HCO HC0 HC33
                have HRG := hid hr1
                have HIC : Hid ((Try.prog.info? 26).map (·.size) = some C.length) := by rw [Hid, HCL.out]; exact Try.info26
                have HW := hid (And.intro hb1 (And.intro hg0 hg1))
                clear hb1 hr1 ht1 hC n3 b2 hlt ebn
                go_wp2_with (refine wpList_load_mid (by rfl) 26 _ (by rfl) g 0 (by rfl) C _ HRG.out Try.underlying26 rfl HIC.out ?_)
                refine (right14_any C num0 _ _ _ _ HC0.out HC33.out).mono ?_
                rintro e w4 ⟨rfl, hb4⟩
                obtain ⟨hb1, hg0, hg1⟩ := HW.out
                obtain ⟨hRO, p0, p1, p2, p3, p4⟩ := HALLC.out
                have hzr := hb1.size
                have hzw : w.heap.size < wr.heap.size := by omega
                have HK4 : Hid (Below w.heap.size w w4) := HKW.out.trans (hb4.mono HKW.out.size)
                have HT4 := hid (there_below HTW.out hb4 hzw)
                have hz := HZQ.out
                by_cases hR : rightB num0 cs.length = true
                · have hRb := hR
                  simp only [rightB, Bool.and_eq_true, decide_eq_true_eq] at hRb
                  have HE3 : Hid (takeF xs = (0, (num0, bn, cs), m + 4)) := by rw [Hid, HE2.out, hRO, if_pos (by first | exact ⟨rfl, p0, p1, p2, p3, hRb.1, p4, by omega⟩ | exact ⟨trivial, p0, p1, p2, p3, hRb.1, p4, by omega⟩ | (simp [p0, p1, p2, p3, p4]; omega))]
                  have HRG4 := hid (rangeAt_below HRG.out hb4 hg1)
                  have HTC : Hid (w4.there w.heap.size 0 C.length) := by rw [Hid, HCL.out]; exact HT4.out
                  have hstC : (storeCells ⟨w.heap.size, 0, none⟩ C).run Try.prog w4 = .ok () (w4.setCells w.heap.size 0 C) := by
                    have h := run_storeCells_cells (P := Try.prog) w.heap.size 0 C 0 w4 (fun j hj => by simpa using (HTC.out j hj).1) (fun j hj => by simpa using (HTC.out j hj).2) HCO.out
                    simpa using h
                  have HI3 : Hid ((Try.prog.info? 26).map (·.size) = some C.toArray.size) := HIC.out
                  have H3 : Hid (C.toArray.all (·.oneCell') = true) := all_oneCell_toArray HCO.out
                  have HB4 := hid (And.intro hb1 hb4)
                  have HRF : Hid (World.rangeAt (w4.setCells w.heap.size 0 C) w.heap.size 0 C) := World.rangeAt_setCells_same _ _ _ _ HTC.out
                  clear hb1 hb4 hRO p0 p1 p2 p3 p4 hRb
                  rw [hR]
                  go_wp2_with (first
                    | (refine wpList_load_mid (by rfl) 26 (.tmp 12) (by rfl) g 0 (by rfl) C _ HRG4.out Try.underlying26 rfl HIC.out ?_)
                    | (refine wpList_store_mid (by rfl) 26 (.tmp 2) _ (by rfl) w.heap.size 0 C.toArray (by rfl) (by rfl) HTC.out HI3.out H3.out ?_))
                  refine bodyPost_ret (v := .tuple #[.agg C.toArray, .int .i64 ((m + 4 : Nat) : Int), .int .i64 0]) (results_cell_mid3 Try.results20 _ _ w.heap.size 0 _ _ rfl HRF.out Try.underlying26 rfl HIC.out) rfl ?_
                  obtain ⟨hb1, hb4⟩ := HB4.out
                  have hs4 := hb4.size
                  have h3V := HK3V.out
                  have h3s := h3V.size
                  rw [HE3.out]
                  refine ⟨ac, cc, by rw [HCC.out], HCB.out.agree (fun q hq => ?_) (fun q hq => ⟨by omega, by rw [setCells_size]; omega⟩), ⟨hbl, HB6.out⟩, HK4.out.trans (setCells_below (Nat.le_refl _) _ _ _)⟩
                  rw [setCells_block _ _ _ _ _ (by omega), hb4.block q (by omega), hb1.block q (by omega), h3V.block q hq.2]
                · have HE3 : Hid (takeF xs = noRec 3) := by
                    rw [Hid, HE2.out, hRO, if_neg]
                    rintro ⟨_, _, _, _, _, x1, x2, x3⟩
                    exact hR (by simp [rightB]; omega)
                  have HVZ4 : Hid (w4.there w.heap.size 0 Z.toArray.size) := by rw [Hid, HZS.out]; exact HT4.out
                  have hst : (storeCells ⟨w.heap.size, 0, none⟩ Z).run Try.prog w4 = .ok () (w4.setCells w.heap.size 0 Z) := by
                    have h := run_storeCells_cells (P := Try.prog) w.heap.size 0 Z 0 w4 (fun j hj => by simpa using (HVZ4.out j hj).1) (fun j hj => by simpa using (HVZ4.out j hj).2) (fun v hv => zRec_one v (by rw [HZ.out]; exact hv))
                    simpa using h
                  have hRf : rightB num0 cs.length = false := by simpa using hR
                  clear hb1 hb4 hRO p0 p1 p2 p3 p4 hR
                  rw [hRf]
                  go_wp2_with fail
                  have hr : World.rangeAt (w4.setCells w.heap.size 0 Z) w.heap.size 0 Z := World.rangeAt_setCells_same _ _ _ _ HVZ4.out
                  refine bodyPost_ret (v := .tuple #[.agg Z.toArray, .int .i64 0, .int .i64 3]) (results_cell_mid3 Try.results20 _ _ w.heap.size 0 _ _ rfl hr Try.underlying26 rfl HI2.out) rfl ?_
                  rw [HE3.out, ← HZ.out]
                  exact rook_none w _ 3 (HK4.out.trans (setCells_below (Nat.le_refl _) _ _ _))

end Go.Proofs.Ythbhdbjjobfchaa
end

section
/-
  The document's Scan.
-/
namespace Go.Proofs.Ythbhdbjjobfchaa
open Go.RowKit Go.Shelf
open Tlv (Tr BySlS AgreeS Agree)
open Crc (hid Kept Tab)

theorem wpList_val {P : Program} {ops : Array Oper} {rest : List Oper} {o : Oper} {a : Act} {Q : Exit → Act → World → Prop} {w w' : World} {v : Value} (hgd : o.guard = none) (hr : (execOp a.eval o).run P w = .ok (.value v) w') (h : wpList P ops Q rest (a.put o.dst v) w') : wpList P ops Q (o :: rest) a w :=
  wpList_plain hgd fun _ hK => by unfold Oper.wp; rw [hr]; exact hK _ _ h

theorem rinfo' : (Try.prog.info? 109).map (fun i => (i.zero, i.size, i.bytes)) = some (some (.agg zPl.toArray), 36, 80) := by kernel_rfl
theorem rrun_onepl (p n : Nat) (k : Int) (nm : List Int) (a : Option Addr) (l c : Nat) (hn : nm.length = 32) (w : World) :
    (Instr.buildSlice 51 1 #[(0, .agg (placedA p n (recA k nm (.slice a l c))).toArray)]).run Try.prog w =
      .ok (.slice (some ⟨w.heap.size, 0, none⟩) 1 1) (w.alloc (.cells (placedA p n (recA k nm (.slice a l c))).toArray 109)) := by
  obtain ⟨x0, x1, x2, x3, x4, x5, x6, x7, x8, x9, x10, x11, x12, x13, x14, x15, x16, x17, x18, x19, x20, x21, x22, x23, x24, x25, x26, x27, x28, x29, x30, x31, rfl⟩ := ex32 hn
  kernel_rfl
theorem rbuilt (p n : Nat) (k : Int) (nm : List Int) (h : nm.length = 32) (a : Option Addr) (l c : Nat) : Try.prog.built 109 [(0, .int .i64 (p : Int)), (1, .int .i64 (n : Int)), (2, .agg (recA k nm (.slice a l c)).toArray)] = some (placedA p n (recA k nm (.slice a l c))).toArray := by
  obtain ⟨x0, x1, x2, x3, x4, x5, x6, x7, x8, x9, x10, x11, x12, x13, x14, x15, x16, x17, x18, x19, x20, x21, x22, x23, x24, x25, x26, x27, x28, x29, x30, x31, rfl⟩ := ex32 h
  kernel_rfl

def RS (b : Nat) (xs : List Int) (w : World) (k P : Nat) (o : Value) (wr : World) : Prop :=
  (tl xs 0).drop k = tl xs P ∧ k ≤ (tl xs 0).length ∧ PRow 109 w.heap.size b wr o ((tl xs 0).take k) ∧ Below w.heap.size w wr ∧
    scanF xs = ((tl xs 0).take k ++ (scanR ((tl xs 0).drop k) P).1, (scanR ((tl xs 0).drop k) P).2)

set_option maxHeartbeats 2000000 in
set_option maxRecDepth 100000 in
theorem rscan_any (b : Nat) (v : Value) (xs : List Int) (w : World) (h : BySlS (fun g => g < w.heap.size) w v xs) (hw2 : 2 ≤ w.heap.size) (hb : b < w.heap.size) (hl : xs.length ≤ 80000) :
    Calls Try.prog 22 #[v] w fun e w' => ∃ a c, e = .returned (.tuple #[.slice a (scanF xs).1.length c, .int .i64 ((scanF xs).2.1 : Nat), .int .i64 (scanF xs).2.2]) ∧ PRow 109 w.heap.size b w' (.slice a (scanF xs).1.length c) (scanF xs).1 ∧ Below w.heap.size w w' := by
  obtain ⟨a, cap, rfl, h2, h3, _, h5, h6, h7⟩ := id h
  have H := hid h
  have H7 := hid h7
  clear h h6 h7
  unfold maxLen at h3
  have hz := zero26
  obtain ⟨Z, hZ⟩ : ∃ Z, zRec = Z := ⟨_, rfl⟩
  have HZ := hid hZ
  rw [hZ] at hz
  clear hZ
  go_enter Try.func22, Try.ntmps22
  go_wp2_with fail
  go_loopw [5, 6] (fun o i wr => ∃ (k P rn : Nat) (ra : Option Addr) (rc : Nat), P ≤ xs.length ∧ o = .slice ra rn rc ∧ i = .int .i64 (P : Int) ∧ Hid (RS b xs w k P (.slice ra rn rc) wr)) (fun _ i _ => xs.length - (intOf i).toNat)
  case atStart => exact ⟨0, 0, 0, none, 0, Nat.zero_le _, rfl, rfl, ⟨rfl, Nat.zero_le _, PRow.nil _ _ _ _, Below.refl _ _, rfl⟩⟩
  case round =>
    obtain ⟨k, P, rn, ra, rc, hP, rfl, rfl, HS⟩ := hrel
    obtain ⟨s1, s2, s3, s4, s5⟩ := HS.out
    by_cases hlt : P < xs.length
    · obtain ⟨g, o, rfl, hgb, _⟩ := H7.out (by intro e; subst e; simp at hlt)
      obtain ⟨L, hL, hLc⟩ := tl_head hlt
      rw [hL] at s1
      have hkN : k < (tl xs 0).length := by
        have h := congrArg List.length s1
        rw [List.length_drop, List.length_cons] at h
        omega
      have hx : (tl xs 0)[k]? = some (P, takeF (xs.drop P)) := by
        have h := congrArg (fun l : List Item => l[0]?) s1
        simpa using h
      obtain ⟨e1, e2, e3⟩ := scan_next hx s5
      have hsz := s4.size
      have HVV : Hid (BySlS (fun x => x < wr.heap.size) wr (.slice (some ⟨g, o + P, none⟩) (xs.length - P) (cap - P)) (xs.drop P)) := BySlS.mono (bySlS_drop (BySlS.below H.out s4 (fun g hg => hg)) hlt) (fun g hg => Nat.lt_of_lt_of_le hg hsz)
      have hPi : (P : Int) < (xs.length : Int) := by omega
      have HD := hid (And.intro s1 (And.intro s3 (And.intro s4 (And.intro hL hLc))))
      have HE := hid (And.intro e1 (And.intro e2 e3))
      clear s1 s3 s4 s5 hL hLc hx e1 e2 e3
      go_wp2_with fail
      refine (rtake_any _ (xs.drop P) wr ?_ (by omega) (by rw [List.length_drop]; omega)).mono ?_
      · have h := HVV.out.to (B := wr.heap.size) (fun g hg => hg)
        exact h
      rintro e w1 ⟨ar, cr, rfl, hby, hnm, hkk⟩
      obtain ⟨s1, s3, s4, hL, hLc⟩ := HD.out
      obtain ⟨e1, e2, e3⟩ := HE.out
      have hrn : rn = ((tl xs 0).take k).length := by
        obtain ⟨_, _, e⟩ := s3.form
        simp only [Value.slice.injEq] at e
        exact e.2.1
      have hTO : (takeF (xs.drop P)).1 = 0 → P + (takeF (xs.drop P)).2.2 ≤ xs.length := fun h => (e3 h).1
      have htl : (takeF (xs.drop P)).1 = 0 → (tl xs 0).drop (k + 1) = tl xs (P + (takeF (xs.drop P)).2.2) := fun h0 => by
        have h := congrArg (fun l : List Item => l.drop 1) s1
        have h' : (tl xs 0).drop (k + 1) = L := by simpa [List.drop_drop, Nat.add_comm] using h
        rcases hLc with ⟨_, h2⟩ | ⟨h2, _⟩
        · rw [h', h2]
        · exact absurd h0 h2
      have hpos : (takeF (xs.drop P)).1 = 0 → 4 ≤ (takeF (xs.drop P)).2.2 := fun h => (takeF_pos h).1
      have HIT := hid hkN
      generalize hX : takeF (xs.drop P) = X at *
      have HPL := hid (recA_length X.2.1.1 X.2.1.2.1 (.slice ar X.2.1.2.2.length cr) hnm.1)
      have HPO := hid (recA_one X.2.1.1 X.2.1.2.1 ar X.2.1.2.2.length cr)
      have HBU := hid (rbuilt P X.2.2 X.2.1.1 X.2.1.2.1 hnm.1 ar X.2.1.2.2.length cr)
      have HBS := fun W => hid (rrun_onepl P X.2.2 X.2.1.1 X.2.1.2.1 ar X.2.1.2.2.length cr hnm.1 W)
      have HQL := hid (plI_length (x := (P, X)) hnm (.slice ar X.2.1.2.2.length cr))
      have HQO := hid (plI_one (P, X) ar X.2.1.2.2.length cr)
      obtain ⟨C, hC⟩ : ∃ C, recA X.2.1.1 X.2.1.2.1 (.slice ar X.2.1.2.2.length cr) = C := ⟨_, rfl⟩
      have HQE : Hid (plI (P, X) (.slice ar X.2.1.2.2.length cr) = placedA P X.2.2 C) := by rw [Hid, ← hC]; rfl
      rw [HQE.out] at HQL HQO
      rw [hC] at HPL HPO HBU HBS
      rw [hC]
      obtain ⟨PA, hPA⟩ : ∃ PA, placedA P X.2.2 C = PA := ⟨_, rfl⟩
      rw [hPA] at HQL HQO HBU HBS HQE
      have hZl : Z.length = 34 := by rw [← HZ.out]; exact zRec_length
      have HI : Hid ((Try.prog.info? 26).map (·.size) = some C.length) := by rw [Hid, HPL.out]; exact Try.info26
      have HTC : Hid (World.there (w1.alloc (.cells Z.toArray 26)) w1.heap.size 0 C.length) := by
        have h := there_new w1 Z 26
        rw [hZl] at h
        rw [Hid, HPL.out]
        exact h
      have hst : (storeCells ⟨w1.heap.size, 0, none⟩ C).run Try.prog (w1.alloc (.cells Z.toArray 26)) = .ok () ((w1.alloc (.cells Z.toArray 26)).setCells w1.heap.size 0 C) := by
        have h := run_storeCells_cells (P := Try.prog) w1.heap.size 0 C 0 (w1.alloc (.cells Z.toArray 26)) (fun j hj => by simpa only [Nat.add_zero] using (HTC.out j hj).1) (fun j hj => by simpa only [Nat.add_zero] using (HTC.out j hj).2) HPO.out
        simpa only [Nat.add_zero] using h
      have HRG : Hid (World.rangeAt ((w1.alloc (.cells Z.toArray 26)).setCells w1.heap.size 0 C) w1.heap.size 0 C) := World.rangeAt_setCells_same _ _ _ _ HTC.out
      have hV1 : Below w1.heap.size w1 ((w1.alloc (.cells Z.toArray 26)).setCells w1.heap.size 0 C) := ((Below.refl _ _).alloc (Nat.le_refl _) _).trans (setCells_below (Nat.le_refl _) _ _ _)
      obtain ⟨V1, hV1e⟩ : ∃ V1, (w1.alloc (.cells Z.toArray 26)).setCells w1.heap.size 0 C = V1 := ⟨_, rfl⟩
      rw [hV1e] at hst HRG hV1
      have hs1 := hkk.size
      have hs2 := hV1.size
      have hB1 : Below wr.heap.size wr V1 := hkk.trans (hV1.mono hs1)
      have s3' := s3.cells (CellsKept.of_kept (base := w.heap.size) (b := b) (Kept.below hB1)) hb
      have HBV : Hid (Below w.heap.size w V1) := s4.trans (hB1.mono hsz)
      by_cases hf0 : X.1 = 0
      · obtain ⟨us, hul, hown, hn, hk⟩ := s3'
        have hal : Below V1.heap.size V1 (V1.alloc (.cells PA.toArray 109)) := (Below.refl _ _).alloc (Nat.le_refl _) _
        obtain ⟨i, hi, hiz⟩ : ∃ i, Try.prog.info? 109 = some i ∧ (i.zero, i.size, i.bytes) = (some (.agg zPl.toArray), 36, 80) := Option.map_eq_some_iff.1 rinfo'
        simp only [Prod.mk.injEq] at hiz
        obtain ⟨z1, z2, z3⟩ := hiz
        have hrk : rn ≤ 80000 := by
          have := tl_length_le xs _ 0 (Nat.le_refl _)
          rw [List.length_take] at hrn
          omega
        rw [← hrn] at hown
        obtain ⟨g2, cap2, W2, hap, hown2, hgrow, hat, hg2⟩ := run_append_lies (P := Try.prog) (V1.alloc (.cells PA.toArray 109)) 51 51 w.heap.size 109 i (.agg zPl.toArray) 36 80 Try.underlying51 hi z1 z2 z3 rfl (by omega)
          (.slice ra rn rc) rn _ (ownsRow_kept hown (CellsKept.of_kept (b := b) (Kept.below hal)) hb) ⟨V1.heap.size, 0, none⟩ 1 1 PA (by rw [HQL.out]) (fun j u h => by rw [Addr.add_lit]; exact range_new V1 PA 109 j u h) HQO.out (by omega) (by unfold maxLen; omega) (by omega) (by simp; omega) _ rfl
        have HAP := hid hap
        have HALL := hid (And.intro hown2 (And.intro hgrow (And.intro hat hg2)))
        have HROW := hid (And.intro hul (And.intro hn hk))
        have HB2 := hid (And.intro hby (And.intro hnm (And.intro hB1 (And.intro hV1 (And.intro hal (And.intro e1 (And.intro (e3 hf0) (And.intro (htl hf0) hrn))))))))
        have hPN := hTO hf0
        have h4 := hpos hf0
        have HFE := hid hf0
        have hfb : (X.1 != 0) = false := by simp [hf0]
        have HLT := hid (s3.lt)
        clear hf0 e1 e2 e3 htl hTO hpos s1 s3 s4 hL hLc hown2 hgrow hat hg2 hown hn hk hul hby hnm hap hal hi z1 z2 z3 hB1 hV1 hkk hrn hC hPA HD HE hX
        generalize X.2.2 = N at *
        generalize X.1 = f at *
        go_wp2_with (first
          | (refine wpList_load_mid (by rfl) 26 _ (by rfl) w1.heap.size 0 (by rfl) C _ HRG.out Try.underlying26 rfl HI.out ?_)
          | (refine wpList_val (by rfl) (exec_build3 109 _ _ _ (by rfl) _ _ _ (by rfl) (by rfl) (by rfl) PA.toArray HBU.out) ?_)
          | (refine wpList_val (by rfl) (exec_slice1 51 _ (by rfl) (.agg PA.toArray) _ (by rfl) (HBS _).out) ?_)
          | (refine wpList_val (by rfl) (exec_append _ _ 51 (by rfl) (.slice ra rn rc) (.slice (some ⟨V1.heap.size, 0, none⟩) 1 1) _ (by rfl) (by rfl) HAP.out) ?_))
        obtain ⟨hown2, hgrow, hat, hg2⟩ := HALL.out
        obtain ⟨hul, hn, hk⟩ := HROW.out
        obtain ⟨hby, hnm, hB1, hV1, hal, e1, e3, htl, hrn⟩ := HB2.out
        refine ⟨⟨k + 1, P + N, rn + 1, some ⟨g2, 0, none⟩, cap2, hPN, rfl, by go_num, ?_, ?_, ?_, ?_, ?_⟩, by simp [intOf]; omega⟩
        · exact htl
        · exact HIT.out
        · rw [e1, hrn]
          rw [hrn, ← HQE.out] at hown2
          have hs3 := hal.size
          have up : ∀ {u : Value} {ys : List Int}, BySlS (fun q => w.heap.size ≤ q ∧ q ≠ b ∧ q < V1.heap.size ∧ (Value.slice ra rn rc).ownBlock ≠ some q) V1 u ys → BySlS (fun q => w.heap.size ≤ q ∧ q ≠ b ∧ q < (V1.alloc (.cells PA.toArray 109)).heap.size ∧ (Value.slice ra rn rc).ownBlock ≠ some q) (V1.alloc (.cells PA.toArray 109)) u ys := fun h =>
            BySlS.mono (BySlS.below h hal (fun q hq => hq.2.2.1)) (fun q hq => ⟨hq.1, hq.2.1, by omega, hq.2.2.2⟩)
          refine PRow.push hul hn hnm (fun j x u h1 h2 => up (hk j x u h1 h2)) (up ?_) hown2 hgrow (by simpa using hat)
          exact BySlS.mono (BySlS.below hby hV1 (fun q hq => hq.2)) (fun q hq => ⟨by omega, by omega, by omega, fun e => by have := (HLT.out q e).2; omega⟩)
        · exact (HBV.out.trans (hal.mono HBV.out.size)).grown hgrow (by simp; omega) (fun q e => (HLT.out q e).1)
        · exact e3.2
      · have hfb : (X.1 != 0) = true := by simp [hf0]
        have HE2 := hid (e2 hf0)
        have HR3 := hid (And.intro s3' hrn)
        clear e1 e2 e3 htl hTO hpos s1 s3 s4 hL hLc s3' hrn hB1 hV1 hkk hby hnm hC hPA HD HE
        generalize X.1 = f at *
        go_wp2_with fail
        obtain ⟨s3', hrn⟩ := HR3.out
        rw [HE2.out]
        refine bodyPost_ret (v := .tuple #[.slice ra rn rc, .int .i64 (P : Int), .int .i64 f]) (by simp [results, Try.results22, go_sem]) rfl ⟨ra, rc, by rw [hrn], by rw [← hrn]; exact s3', HBV.out⟩
    · have hk : k = (tl xs 0).length := by
        have h := congrArg List.length s1
        rw [tl_end (p := P) (by omega), List.length_drop, List.length_nil] at h
        omega
      have hrn : rn = ((tl xs 0).take k).length := by
        obtain ⟨_, _, e⟩ := s3.form
        simp only [Value.slice.injEq] at e
        exact e.2.1
      rw [hk, List.take_length, List.drop_length, scanR, List.append_nil] at s5
      rw [hk, List.take_length] at s3 hrn
      have HF := hid (And.intro s5 (And.intro s3 (And.intro s4 hrn)))
      clear HS s1 s2 s3 s4 s5 hk hrn
      go_wp2_with fail
      obtain ⟨s5, s3, s4, hrn⟩ := HF.out
      rw [s5]
      refine bodyPost_ret (v := .tuple #[.slice ra rn rc, .int .i64 (P : Int), .int .i64 0]) (by simp [results, Try.results22, go_sem]) rfl ⟨ra, rc, by rw [hrn], by rw [← hrn]; exact s3, s4⟩
end Go.Proofs.Ythbhdbjjobfchaa
end

section
/-
  What must come at any rate: the chapter's example, and a record.
-/
namespace Go.Proofs.Ythbhdbjjobfchaa
open Go.RowKit
open Tlv (Tr BySlS AgreeS Agree)
open Crc (hid Kept Tab)

/-- A frame that Put has just made, as bytes. -/
theorem own_bytes {w : World} {b base : Nat} {v : Value} {xs : List Int} (h : Crc.Own w base v (nats xs)) (hb : b < base) (hl : xs.length ≤ 100000) (hx : ∀ x ∈ xs, 0 ≤ x ∧ x ≤ 255) : BySlS (fun g => g ≠ b ∧ g < w.heap.size) w v xs := by
  have h1 := ofCrc (h.bySl hb (by rw [nats_length]; exact hl) (nats_lt _ hx))
  rwa [ints_nats _ hx] at h1

theorem wpList_build2 {P : Program} {ops : Array Oper} {rest : List Oper} {o : Oper} {a : Act} {w : World} {Q : Exit → Act → World → Prop} (hg : o.guard = none) (ty : TypeId) (i j : Nat) (x y : Operand) (ho : o.op = .build ty #[(i, x), (j, y)])
    (vx vy : Value) (hx : a.eval x = vx) (hy : a.eval y = vy) (C : Array Value) (hb : P.built ty [(i, vx), (j, vy)] = some C)
    (h : wpList P ops Q rest (a.put o.dst (.agg C)) w) : wpList P ops Q (o :: rest) a w := by
  have e : P.built ty ((#[(i, x), (j, y)] : Array (Nat × Operand)).map fun (i, x) => (i, a.eval x)).toList = some C := by
    rw [← hb]
    simp only [List.map_toArray, List.map_cons, List.map_nil, hx, hy]
  refine wpList_build hg ty _ ho (by rw [e]; rfl) ?_
  rw [e]
  exact h

theorem zeros32 : ∀ y ∈ List.replicate 32 (0 : Int), 0 ≤ y ∧ y ≤ 255 := by
  intro y hy
  rw [(List.mem_replicate.1 hy).2]
  omega
theorem rightX : RightR 1 (List.replicate 32 0) [120] := ⟨by omega, by omega, by simp, by simp, zeros32, by simp⟩

/-- What a store of a whole record into a variable just made asks. -/
theorem store_facts (w : World) {Z C : List Value} (hZ : Z.length = 34) (hC : C.length = 34) : World.there (w.alloc (.cells Z.toArray 35)) w.heap.size 0 C.toArray.size := by
  have h := there_new w Z 35
  rw [hZ] at h
  have e : C.toArray.size = 34 := hC
  rw [e]
  exact h

set_option maxHeartbeats 4000000 in
set_option maxRecDepth 100000 in
theorem alive_any (w : World) :
    Calls Try.prog 8 #[] w fun e w' => e = .returned (.bool true) ∧ Below w.heap.size w w' := by
  have kc := fun (w : World) (C : Array Value) (n c : Nat) => Lib.run_convert_bytes_const (P := Try.prog) w 24 5 C n c Try.underlying24 Try.underlying5
  have hz := zero35
  obtain ⟨Z, hZ⟩ : ∃ Z, zRec = Z := ⟨_, rfl⟩
  have HZ : Hid (Z.length = 34) := by rw [← hZ]; exact zRec_length
  rw [hZ] at hz
  clear hZ
  go_enter Try.func8, Try.ntmps8
  go_wp2_with fail
  refine (Crc.new_any w).mono ?_
  rintro e w1 ⟨rfl, hb1, hs1, ht1⟩
  have HB1 := hid hb1
  have HT1 : Hid (TabX w1 w.heap.size) := ⟨0, 0, .inl rfl, ht1⟩
  have hlt1 : w.heap.size < w1.heap.size := by omega
  clear hb1 hs1 ht1
  go_wp2_with fail
  refine (take_any w.heap.size _ [] w1 HT1.out (Tlv.BySlS.none _ _)).mono ?_
  rintro e w2 ⟨a1, c1, rfl, _, hn1, hk2, ht2⟩
  rw [takeF_nil] at hn1 ⊢
  simp only [noRec, List.length_nil] at hn1 ⊢
  have HK2 := hid hk2
  have HT2 := hid ht2
  obtain ⟨C1, hC1⟩ : ∃ C1, recA 0 (List.replicate 32 0) (.slice a1 0 c1) = C1 := ⟨_, rfl⟩
  have HL1 : Hid (C1.length = 34) := by rw [← hC1]; exact recA_length _ _ _ hn1.1
  have HO1 : Hid (C1.toArray.all (·.oneCell') = true) := by rw [← hC1]; exact all_oneCell_toArray (recA_one _ _ _ _ _)
  have HI1 : Hid ((Try.prog.info? 35).map (·.size) = some C1.toArray.size) := by rw [Hid, show C1.toArray.size = 34 from HL1.out]; exact Try.info35
  rw [hC1]
  clear hC1 hk2 ht2 hn1
  have HS1 := hid (store_facts w2 HZ.out HL1.out)
  go_wp2_with (refine wpList_store_mid (by rfl) 35 _ _ (by rfl) w2.heap.size 0 C1.toArray (by rfl) (by rfl) HS1.out HI1.out HO1.out ?_)
  obtain ⟨W2, hW2⟩ : ∃ W2, (w2.alloc (.cells Z.toArray 35)).setCells w2.heap.size 0 C1 = W2 := ⟨_, rfl⟩
  have hbW : Below w2.heap.size w2 W2 := by rw [← hW2]; exact ((Below.refl _ _).alloc (Nat.le_refl _) _).trans (setCells_below (Nat.le_refl _) _ _ _)
  have HKW : Hid (Kept w.heap.size w1 W2) := HK2.out.trans (Kept.below hbW)
  have HTW := hid (HT2.out.below hbW)
  rw [hW2]
  clear hW2 hbW HS1 HK2 HT2
  refine (scan_empty w.heap.size W2 HTW.out).mono ?_
  rintro e w3 ⟨rfl, hk3, ht3⟩
  have HK3 : Hid (Kept w.heap.size w1 w3) := HKW.out.trans hk3
  have HT3 := hid ht3
  clear hk3 ht3 HKW HTW
  obtain ⟨W3, hW3⟩ : ∃ W3, w3.alloc (Obj.cells #[Value.int IntKind.u8 120] 5 (1, 2)) = W3 := ⟨_, rfl⟩
  have hb3 : Below w3.heap.size w3 W3 := by rw [← hW3]; exact (Below.refl _ _).alloc (Nat.le_refl _) _
  have hx3 : Tlv.BySl 0 W3.heap.size W3 (.slice (some ⟨w3.heap.size, 0, none⟩) 1 1) [120] := by
    rw [← hW3]
    exact (ofCrc (Crc.bySl_lit w.heap.size w3 (Nat.lt_of_lt_of_le hlt1 HK3.out.size) [120] (by decide) (by decide) (1, 2))).to (fun g hg => hg.2)
  have HPUT := hid (put_yes w.heap.size 1 (List.replicate 32 0) [120] (.slice (some ⟨w3.heap.size, 0, none⟩) 1 1) W3 (HT3.out.below hb3) hx3 rightX)
  have HKW : Hid (Kept w.heap.size w1 W3) := HK3.out.trans (Kept.below hb3)
  have HBU := hid (built35b 1 (some ⟨w3.heap.size, 0, none⟩) 1 1)
  obtain ⟨C2, hC2⟩ : ∃ C2, recA 1 (List.replicate 32 0) (.slice (some ⟨w3.heap.size, 0, none⟩) 1 1) = C2 := ⟨_, rfl⟩
  rw [hC2] at HBU HPUT
  clear hC2 hb3 hx3
  go_wp2_with (refine wpList_build2 (by rfl) 35 _ _ _ _ (by rfl) _ _ (by rfl) (by rfl) _ HBU.out ?_)
  clear kc hW3
  refine HPUT.out.mono ?_
  rintro e w4 ⟨v4, rfl, ho4, hk4, ht4⟩
  have HK4 : Hid (Kept w.heap.size w1 w4) := HKW.out.trans hk4
  have HT4 := hid ht4
  have hfl : (frameR 1 (List.replicate 32 0) [120]).length = 50 := frameR_length rightX
  have HBY := hid (own_bytes (b := w.heap.size) ho4 (by have h1 := HK3.out.size; have h2 := HKW.out.size; omega) (by rw [hfl]; omega) (frameR_bd rightX))
  have HTF : Hid (takeF (frameR 1 (List.replicate 32 0) [120]) = (0, (1, List.replicate 32 0, [120]), 50)) := by
    have h := take_frame rightX []
    rw [List.append_nil] at h
    exact h
  obtain ⟨a4, c4, rfl, _⟩ := id HBY.out
  generalize hfr : frameR 1 (List.replicate 32 0) [120] = fr at *
  rw [hfl]
  clear hk4 ht4 ho4 HPUT HBU hfr
  go_wp2_with fail
  rw [hfl] at HBY
  refine (take_any w.heap.size _ fr w4 HT4.out HBY.out).mono ?_
  rintro e w5 ⟨a5, c5, rfl, hby5, hn5, hk5, ht5⟩
  rw [HTF.out] at hby5 hn5 ⊢
  simp only [List.length_cons, List.length_nil, Nat.zero_add] at hby5 hn5 ⊢
  have HK5 : Hid (Kept w.heap.size w1 w5) := HK4.out.trans hk5
  have HB5 := hid hby5
  obtain ⟨C5, hC5⟩ : ∃ C5, recA 1 (List.replicate 32 0) (.slice a5 1 c5) = C5 := ⟨_, rfl⟩
  have HL5 : Hid (C5.length = 34) := by rw [← hC5]; exact recA_length _ _ _ hn5.1
  have HO5 : Hid (C5.toArray.all (·.oneCell') = true) := by rw [← hC5]; exact all_oneCell_toArray (recA_one _ _ _ _ _)
  have HI5 : Hid ((Try.prog.info? 35).map (·.size) = some C5.toArray.size) := by rw [Hid, show C5.toArray.size = 34 from HL5.out]; exact Try.info35
  have HC33 : Hid (C5[33]? = some (.slice a5 1 c5)) := by rw [← hC5]; exact recA_33 _ _ _ hn5.1
  rw [hC5]
  clear hC5 hk5 ht5 hn5 hby5
  have HS5 := hid (store_facts w5 HZ.out HL5.out)
  obtain ⟨W5, hW5⟩ : ∃ W5, (w5.alloc (.cells Z.toArray 35)).setCells w5.heap.size 0 C5 = W5 := ⟨_, rfl⟩
  have hbW5 : Below w5.heap.size w5 W5 := by rw [← hW5]; exact ((Below.refl _ _).alloc (Nat.le_refl _) _).trans (setCells_below (Nat.le_refl _) _ _ _)
  have hq5 : W5.cell? ⟨w5.heap.size, 33, none⟩ = some (.slice a5 1 c5) := by
    have h := World.rangeAt_setCells_same (w5.alloc (.cells Z.toArray 35)) w5.heap.size 0 C5 HS5.out
    rw [hW5] at h
    have h2 := h 33 _ HC33.out
    rwa [Nat.zero_add] at h2
  have hcv := Tlv.conv_bytes ((BySlS.below HB5.out hbW5 (fun g hg => hg.2)).to (fun g hg => hg.2))
  have HKF : Hid (Kept w.heap.size w1 W5) := HK5.out.trans (Kept.below hbW5)
  clear hbW5
  go_wp2_with (refine wpList_store_mid (by rfl) 35 _ _ (by rfl) w5.heap.size 0 C5.toArray (by rfl) (by rfl) HS5.out HI5.out HO5.out ?_)
  have hst : ((strOfNums [120]).toList == [120]) = true := by decide +kernel
  go_ret
  refine ⟨?_, Crc.Kept.toBelow HB1.out HKF.out (Nat.le_refl _)⟩
  rw [hst]
  rfl
end Go.Proofs.Ythbhdbjjobfchaa
end

section
/-
  Are records few, and short? Put, Size and the reference's Put of any record.
-/
namespace Go.Proofs.Ythbhdbjjobfchaa
open Go.RowKit
open Tlv (Tr BySlS AgreeS Agree)
open Crc (hid Kept Tab)

/-- Few, and short. -/
def lightB (ls : List Nat) : Bool := decide (ls.length ≤ 20) && ls.all (fun l => decide (l ≤ 5100))

set_option maxHeartbeats 1000000 in
set_option maxRecDepth 100000 in
theorem light_any (a : Option Addr) (cap : Nat) (ls : List Nat) (w : World) (hm : ls.length ≤ 4611686018427387904) (hls : ∀ l ∈ ls, l ≤ 9223372036854775807)
    (h : ∀ i, i < ls.length → ∃ g o x c, a = some ⟨g, o, none⟩ ∧ w.cell? ⟨g, o + i * 34 + 33, none⟩ = some (.slice x (ls.getD i 0) c)) :
    Calls Try.prog 7 #[.slice a ls.length cap] w fun e w' => e = .returned (.bool (lightB ls)) ∧ w' = w := by
  have H := hid h
  have HM := hid hls
  clear h hls
  by_cases h20 : ls.length ≤ 20
  · have h20' : ¬ ((20 : Int) < ls.length) := by omega
    go_enter Try.func7, Try.ntmps7
    go_wp2
    go_loop [3] (fun i => ∃ k : Nat, k ≤ ls.length ∧ i = .int .i64 k ∧ Hid (∀ j, j < k → ls.getD j 0 ≤ 5100)) (fun i => ls.length - (intOf i).toNat)
    case atStart => exact ⟨0, Nat.zero_le _, rfl, fun j hj => absurd hj (by omega)⟩
    case round =>
      obtain ⟨k, hk, rfl, HJ⟩ := hrel
      by_cases hlt : k < ls.length
      · obtain ⟨g, o, x, c, rfl, hc⟩ := H.out k hlt
        have hx : ls.getD k 0 ≤ 9223372036854775807 := HM.out _ (by rw [List.getD_eq_getElem?_getD, List.getElem?_eq_getElem hlt]; simp)
        have HN : Hid (ls.getD k 0 ≤ 5100 → ∀ j, j < k + 1 → ls.getD j 0 ≤ 5100) := by
          intro h j hj
          by_cases e : j = k
          · rw [e]; exact h
          · exact HJ.out j (by omega)
        have HB : Hid (¬ ls.getD k 0 ≤ 5100 → lightB ls = false) := by
          intro h
          rw [lightB]
          have : ls.all (fun l => decide (l ≤ 5100)) = false := by
            rw [List.all_eq_false]
            refine ⟨ls[k], List.getElem_mem hlt, ?_⟩
            rw [List.getD_eq_getElem?_getD, List.getElem?_eq_getElem hlt] at h
            simpa using h
          rw [this, Bool.and_false]
        generalize ls.getD k 0 = l at *
        by_cases hl : l ≤ 5100
        · have hl' : ¬ ((5100 : Int) < l) := by omega
          go_wp2
          go_round
          case rel => exact ⟨k + 1, by omega, by go_num, HN.out hl⟩
          case measure => simp [intOf]; omega
        · have hl' : (5100 : Int) < l := by omega
          have HBB := hid (HB.out hl)
          clear hl
          go_wp2
          go_ret
          exact ⟨by rw [HBB.out]; rfl, rfl⟩
      · have HBB : Hid (lightB ls = true) := by
          have hk' : k = ls.length := by omega
          rw [Hid, lightB]
          simp only [Bool.and_eq_true, decide_eq_true_eq, List.all_eq_true]
          refine ⟨h20, fun l hl => ?_⟩
          obtain ⟨i, hi, rfl⟩ := List.getElem_of_mem hl
          have := HJ.out i (by omega)
          rwa [List.getD_eq_getElem?_getD, List.getElem?_eq_getElem hi, Option.getD_some] at this
        go_wp2
        go_ret
        exact ⟨by rw [HBB.out]; rfl, rfl⟩
  · have h20' : (20 : Int) < ls.length := by omega
    have HBB : Hid (lightB ls = false) := by rw [Hid, lightB, decide_eq_false h20, Bool.false_and]
    clear h20
    go_enter Try.func7, Try.ntmps7
    go_wp2
    go_ret
    exact ⟨by rw [HBB.out]; rfl, rfl⟩

/-- What Put answers of any record. -/
def putX (k : Int) (nm bs : List Int) : List Int := if rightB k bs.length then frameR k nm bs else []
def putF (k : Int) (l : Nat) : Int := if rightB k l then 0 else 1

theorem BySlS.len {S : Nat → Prop} {w : World} {v : Value} {xs : List Int} (h : BySlS S w v xs) : ∃ a c, v = .slice a xs.length c := by
  obtain ⟨a, c, rfl, _⟩ := h
  exact ⟨a, c, rfl⟩

theorem own_all {w : World} {base : Nat} {v : Value} {xs : List Int} (h : Crc.Own w base v (nats xs)) (hl : xs.length ≤ 100000) (hx : ∀ x ∈ xs, 0 ≤ x ∧ x ≤ 255) : BySlS (fun g => base ≤ g ∧ g < w.heap.size) w v xs := by
  rcases h.2 with ⟨rfl, h0⟩ | ⟨g, cap, cur, rfl, hb, hg, hn, hc, hs, ht⟩
  · rw [nats_length] at h0
    have : xs = [] := List.length_eq_zero_iff.1 h0
    subst this
    exact Tlv.BySlS.none _ _
  · rw [nats_length] at hn ⊢
    refine ⟨_, cap, rfl, hn, hc, by simp, by omega, hx, fun _ => ⟨g, 0, rfl, ⟨hb, (Array.getElem?_eq_some_iff.1 hg).1⟩, fun i hi => ?_⟩⟩
    have hi2 : i < (nats xs).length := by rw [nats_length]; exact hi
    rw [Nat.zero_add, World.ownsRow.cellAt (show w.ownsRow base 5 1 _ (nats xs).length (Crc.cl (nats xs)) from h) i (by omega), Crc.cl_at _ i hi2]
    have hb2 := hx (xs.getD i 0) (by rw [List.getD_eq_getElem?_getD, List.getElem?_eq_getElem hi]; simp)
    simp only [nats, List.getD_eq_getElem?_getD, List.getElem?_map, List.getElem?_eq_getElem hi, Option.map_some, Option.getD_some] at hb2 ⊢
    congr 2
    omega

theorem put_one (b : Nat) (k : Int) (nm bs : List Int) (v : Value) (w : World) (hT : TabX w b) (hb : Tlv.BySl 0 w.heap.size w v bs) (hn : nm.length = 32) (hx : ∀ x ∈ nm, 0 ≤ x ∧ x ≤ 255) :
    Calls Try.prog 10 #[.pointer (some ⟨b, 0, none⟩), .agg (recA k nm v).toArray] w fun e w' => ∃ a c, e = .returned (.tuple #[.slice a (putX k nm bs).length c, .int .i64 (putF k bs.length)]) ∧ BySlS (fun g => w.heap.size ≤ g ∧ g < w'.heap.size) w' (.slice a (putX k nm bs).length c) (putX k nm bs) ∧ Kept b w w' ∧ TabX w' b := by
  obtain ⟨av, cv, rfl, _, _, _, _, h6, _⟩ := id hb
  unfold putX putF
  cases hr : rightB k bs.length with
  | false =>
    refine (put_no _ k nm bs av cv w hn hr).mono ?_
    rintro e w1 ⟨rfl, hb1⟩
    exact ⟨none, 0, rfl, Tlv.BySlS.none _ _, Kept.below hb1, hT.below hb1⟩
  | true =>
    have hR := right_of hr hn hx h6
    refine (put_yes b k nm bs _ w hT hb hR).mono ?_
    rintro e w1 ⟨v', rfl, ho, hk, ht⟩
    have h1 := own_all ho (by rw [frameR_length hR]; have := hR.2.2.1; omega) (frameR_bd hR)
    obtain ⟨a, c, rfl⟩ := BySlS.len h1
    exact ⟨a, c, rfl, h1, hk, ht⟩

theorem rput_one (k : Int) (nm bs : List Int) (v : Value) (w : World) (hb : Tlv.BySl 0 w.heap.size w v bs) (hn : nm.length = 32) (hx : ∀ x ∈ nm, 0 ≤ x ∧ x ≤ 255) :
    Calls Try.prog 12 #[.agg (recA k nm v).toArray] w fun e w' => ∃ a c, e = .returned (.tuple #[.slice a (putX k nm bs).length c, .int .i64 (putF k bs.length)]) ∧ BySlS (fun g => w.heap.size ≤ g ∧ g < w'.heap.size) w' (.slice a (putX k nm bs).length c) (putX k nm bs) ∧ Below w.heap.size w w' := by
  obtain ⟨av, cv, rfl, _, _, _, _, h6, _⟩ := id hb
  unfold putX putF
  cases hr : rightB k bs.length with
  | false =>
    refine (rput_no k nm bs av cv w hn hr).mono ?_
    rintro e w1 ⟨rfl, hb1⟩
    exact ⟨none, 0, rfl, Tlv.BySlS.none _ _, hb1⟩
  | true =>
    have hR := right_of hr hn hx h6
    refine (rput_yes k nm bs _ w hb hR).mono ?_
    rintro e w1 ⟨v', rfl, ho, hk⟩
    have h1 := own_all ho (by rw [frameR_length hR]; have := hR.2.2.1; omega) (frameR_bd hR)
    obtain ⟨a, c, rfl⟩ := BySlS.len h1
    exact ⟨a, c, rfl, h1, hk⟩

theorem size_one (k : Int) (nm bs : List Int) (v : Value) (w : World) (hb : Tlv.BySl 0 w.heap.size w v bs) (hn : nm.length = 32) (hx : ∀ x ∈ nm, 0 ≤ x ∧ x ≤ 255) :
    Calls Try.prog 15 #[.agg (recA k nm v).toArray] w fun e w' => e = .returned (.int .i64 ((putX k nm bs).length : Nat)) ∧ Below w.heap.size w w' := by
  obtain ⟨av, cv, rfl, _, _, _, _, h6, _⟩ := id hb
  unfold putX
  cases hr : rightB k bs.length with
  | false => exact size_no k nm bs av cv w hn hr
  | true =>
    have hR := right_of hr hn hx h6
    have h := size_yes k nm bs _ w hb hR
    rw [if_pos rfl, frameR_length hR]
    exact h

end Go.Proofs.Ythbhdbjjobfchaa
end
