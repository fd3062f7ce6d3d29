/- Of the proof: the texts FrBack, FrOpen, FrOpenL, one behind the other. -/
import Derived.Test.YthbhdbjjobfchaaB11
import Derived.Test.YthbhdbjjobfchaaB12
import Derived.Test.YthbhdbjjobfchaaB4
import Derived.ProofKit
import Derived.OpenShut
import Derived.Deep.Slices
import Derived.Deep.Strs
import Derived.Lib.SmallJoins
import Derived.WideKeyArr2
section
/-
  FrameBack, walked.
-/
namespace Go.Proofs.Ythbhdbjjobfchaa
open Go.RowKit Go.Shelf
open Tlv (Tr BySlS AgreeS Agree)
open Crc (hid Kept Tab)

def goodB (y : El) : Bool := rightB y.1.1 y.1.2.2.length
theorem good_right {y : El} (h : goodB y = true) (ho : elOk y) (hb : ∀ x ∈ y.1.2.2, 0 ≤ x ∧ x ≤ 255) : Rt y.1 := by
  simp [goodB, rightB] at h
  exact ⟨by omega, by omega, by omega, ho.1, ho.2, hb⟩
theorem take_filter_no {ys : List El} {k : Nat} {y : El} (hk : ys[k]? = some y) (hg : goodB y = false) : (ys.take (k + 1)).filter goodB = (ys.take k).filter goodB := by
  rw [List.take_add_one, hk, List.filter_append]
  simp [hg]
theorem take_filter_yes {ys : List El} {k : Nat} {y : El} (hk : ys[k]? = some y) (hg : goodB y = true) : (ys.take (k + 1)).filter goodB = (ys.take k).filter goodB ++ [y] := by
  rw [List.take_add_one, hk, List.filter_append]
  simp [hg]

/-- What the first loop keeps. -/
def BI (b : Nat) (ys : List El) (w1 : World) (k na ne : Nat) (va ve vw : Value) (wr : World) : Prop :=
  ∃ zs : List El, zs = (ys.take k).filter goodB ∧ na = (cat (zs.map (·.1))).length ∧ ne = zs.length ∧ R3 w1.heap.size b w1 wr va ve vw (cat (zs.map (·.1))) (endsL (zs.map (·.1))) zs

set_option maxHeartbeats 8000000 in
set_option maxRecDepth 100000 in
theorem back_light (ys : List El) (a : Option Addr) (cap : Nat) (z : Int) (w : World) (hli : lightB (ys.map fun y => y.1.2.2.length) = true) (hok : ∀ y ∈ ys, elOk y)
    (hrow : ∀ j y, ys[j]? = some y → ∃ g o, a = some ⟨g, o, none⟩ ∧ g < w.heap.size ∧ w.rangeAt g (o + j * 34) (elC y)) (hby : ∀ y ∈ ys, Tlv.BySl 0 w.heap.size w (elV y) y.1.2.2) (hz : -9223372036854775808 ≤ z ∧ z ≤ 9223372036854775807) :
    Calls Try.prog 5 #[.slice a ys.length cap, .int .i64 z] w fun e w' => e = .returned (.bool true) ∧ Below w.heap.size w w' := by
  have h20 : ys.length ≤ 20 := by
    simp [lightB] at hli
    exact hli.1
  have HOK := hid hok
  have HROW := hid hrow
  have HBY := hid hby
  have HRT : Hid (∀ y ∈ ys, goodB y = true → Rt y.1) := fun y hy hg => good_right hg (hok y hy) (by obtain ⟨_, _, _, _, _, _, _, h, _⟩ := hby y hy; exact h)
  have HLI : Hid (∀ V, Below w.heap.size w V → Calls Try.prog 7 #[.slice a ys.length cap] V fun e w' => e = .returned (.bool true) ∧ w' = V) := fun V hV => by
    have h := light_any a cap (ys.map fun y => y.1.2.2.length) V (by rw [List.length_map]; omega) (fun l hl => by
      obtain ⟨y, hy, rfl⟩ := List.mem_map.1 hl
      obtain ⟨_, _, _, _, _, _, h, _⟩ := hby y hy
      omega) (fun i hi => by
      rw [List.length_map] at hi
      obtain ⟨g, o, h1, h2, h3⟩ := hrow i ys[i] (List.getElem?_eq_getElem hi)
      refine ⟨g, o, ys[i].2.1, ys[i].2.2, h1, ?_⟩
      have h4 := h3 33 _ (recA_33 _ _ _ (hok _ (List.getElem_mem hi)).1)
      rw [hV.cell (p := ⟨g, o + i * 34 + 33, none⟩) h2, h4, List.getD_eq_getElem?_getD, List.getElem?_map, List.getElem?_eq_getElem hi]
      rfl)
    rw [hli, List.length_map] at h
    exact h
  clear hok hrow hby hli
  have hz35 := zero35
  obtain ⟨Z, hZ⟩ : ∃ Z, zRec = Z := ⟨_, rfl⟩
  have HZ := hid hZ
  have HZL : Hid (Z.length = 34) := by rw [← hZ]; exact zRec_length
  rw [hZ] at hz35
  clear hZ
  go_enter Try.func5, Try.ntmps5
  go_wp2_with fail
  refine (HLI.out w (Below.refl _ _)).mono ?_
  rintro e w0 ⟨rfl, hw0⟩
  rw [hw0]
  clear hw0 w0 HLI
  go_wp2_with fail
  refine (Crc.new_any w).mono ?_
  rintro e w1 ⟨rfl, hb1, hs1, ht1⟩
  have HB1 := hid hb1
  have HT1 : Hid (TabX w1 w.heap.size) := ⟨0, 0, .inl rfl, ht1⟩
  have HL1 : Hid (w.heap.size < w1.heap.size) := by rw [Hid]; omega
  clear hb1 hs1 ht1
  have HR1 := hid (R3.start HT1.out)
  go_wp2_with fail
  go_loopw [6, 7, 8, 9] (fun va ve vw i wr => ∃ (k na ne : Nat) (aa ae aw : Option Addr) (ca ce cw : Nat), k ≤ ys.length ∧ i = .int .i64 (k : Int) ∧ va = .slice aa na ca ∧ ve = .slice ae ne ce ∧ vw = .slice aw ne cw ∧ na ≤ 200000 ∧ ne ≤ 20 ∧ Hid (BI w.heap.size ys w1 k na ne (.slice aa na ca) (.slice ae ne ce) (.slice aw ne cw) wr)) (fun _ _ _ i _ => ys.length - (intOf i).toNat)
  case atStart => exact ⟨0, 0, 0, none, none, none, 0, 0, 0, Nat.zero_le _, rfl, rfl, rfl, rfl, by omega, by omega, ⟨[], rfl, rfl, rfl, HR1.out⟩⟩
  case round =>
    obtain ⟨k, na, ne, aa, ae, aw, ca, ce, cw, hk, rfl, rfl, rfl, rfl, hna, hne, HS⟩ := hrel
    by_cases hlt : k < ys.length
    · have hltI : (k : Int) < (ys.length : Int) := by omega
      obtain ⟨y, hy⟩ : ∃ y, ys[k]? = some y := ⟨_, List.getElem?_eq_getElem hlt⟩
      have hym : y ∈ ys := List.mem_of_getElem? hy
      obtain ⟨g, o, rfl, hgw, hrg⟩ := HROW.out k y hy
      obtain ⟨zs, hzs, hnaE, hneE, hR⟩ := HS.out
      have hBI : (cat ((zs.map (·.1)))).length = na := hnaE.symm
      have HR := hid hR
      have HZS := hid (And.intro hzs (And.intro hnaE hneE))
      have HY := hid hy
      have HEO := hid (HOK.out y hym)
      have HYB := hid (HBY.out y hym)
      have HRG : Hid (∀ V, Kept w.heap.size w1 V → V.rangeAt g (o + k * 34) (elC y)) := fun V hV => rangeAt_below hrg (Crc.Kept.toBelow HB1.out hV (Nat.le_refl _)) hgw
      have HYR := hid (HRT.out y hym)
      have HCL := hid (elC_length HEO.out)
      have HCO := hid (elC_one y)
      have HPUT := hid (fun V hV hb => put_one w.heap.size y.1.1 y.1.2.1 y.1.2.2 (elV y) V hV hb HEO.out.1 HEO.out.2)
      have HOWN := hid (fun V => own11_any y.1.1 y.1.2.1 y.2.1 y.1.2.2.length y.2.2 V HEO.out.1)
      have HBS := hid (fun V => run_onerec y.1.1 y.1.2.1 y.2.1 y.1.2.2.length y.2.2 HEO.out.1 V)
      obtain ⟨C, hC⟩ : ∃ C, elC y = C := ⟨_, rfl⟩
      rw [show recA y.1.1 y.1.2.1 (.slice y.2.1 y.1.2.2.length y.2.2) = C from hC] at HOWN HBS
      rw [show recA y.1.1 y.1.2.1 (elV y) = C from hC] at HPUT
      rw [hC] at HRG HCL HCO
      have HC := hid hC
      have HI : Hid ((Try.prog.info? 26).map (·.size) = some C.length) := by rw [Hid, HCL.out]; exact Try.info26
      have HRW := hid (HRG.out wr hR.kept)
      clear hC hy hrg hgw hzs hnaE hneE hR HS hym hBI
      go_wp2_with (refine wpList_load_mid (by rfl) 26 _ (by rfl) g (o + k * 34) (by rfl) C _ HRW.out Try.underlying26 rfl HI.out ?_)
      refine (HOWN.out wr).mono ?_
      rintro e w2 ⟨rfl, hb2⟩
      have HR2 := hid (HR.out.below hb2 HL1.out)
      clear hb2
      go_wp2_with fail
      refine (HPUT.out w2 HR2.out.tab (HYB.out.agree (Agree.below (Crc.Kept.toBelow HB1.out HR2.out.kept (Nat.le_refl _))) (Nat.le_refl _) (Nat.le_trans (Nat.le_of_lt HL1.out) HR2.out.kept.size))).mono ?_
      rintro e w3 ⟨ap, cp, rfl, hp3, hk3, ht3⟩
      have HR3 := hid (HR2.out.on hk3 ht3 HL1.out)
      have HP3 := hid hp3
      clear hp3 hk3 ht3 HR2 HR HPUT HOWN
      cases hg : goodB y with
      | false =>
        have hpf : putF y.1.1 y.1.2.2.length = 1 := by rw [putF, show rightB y.1.1 y.1.2.2.length = false from hg]; rfl
        rw [hpf]
        have HG := hid hg
        clear hg hpf HP3
        go_wp2_with fail
        go_round
        case rel =>
          obtain ⟨e1, e2, e3⟩ := HZS.out
          exact ⟨k + 1, na, ne, aa, ae, aw, ca, ce, cw, by omega, by go_num, rfl, rfl, rfl, hna, hne, ⟨zs, by rw [take_filter_no HY.out HG.out]; exact e1, e2, e3, HR3.out⟩⟩
        case measure => simp [intOf]; omega
      | true =>
        have hpf : putF y.1.1 y.1.2.2.length = 0 := by rw [putF, show rightB y.1.1 y.1.2.2.length = true from hg]; rfl
        have hpx : putX y.1.1 y.1.2.1 y.1.2.2 = frOf y.1 := by rw [putX, show rightB y.1.1 y.1.2.2.length = true from hg]; rfl
        have hRt := HYR.out hg
        have hfl := frOf_length hRt
        have hf5 := hRt.2.2.1
        rw [hpf]
        rw [hpx] at HP3 ⊢
        obtain ⟨e1, e2, e3⟩ := HZS.out
        have hzl : zs.length ≤ 19 := by
          have h1 := List.length_filter_le goodB (ys.take k)
          rw [← e1, List.length_take] at h1
          omega
        have hzr : ∀ r ∈ zs.map (·.1), Rt r := by
          intro r hr
          obtain ⟨x, hx, rfl⟩ := List.mem_map.1 hr
          rw [e1] at hx
          obtain ⟨x1, x2⟩ := List.mem_filter.1 hx
          exact HRT.out x (List.mem_of_mem_take x1) x2
        have hcl := cat_length hzr
        rw [List.length_map] at hcl
        have hnm : (zs ++ [y]).map (·.1) = zs.map (·.1) ++ [y.1] := by simp
        obtain ⟨g4, c4, W4, hap4, hR4⟩ := HR3.out.push_all HL1.out rfl HP3.out (by intro e; rw [e] at hfl; simp at hfl; omega) (by omega)
        obtain ⟨g5, c5, W5, hap5, hR5⟩ := hR4.push_end HL1.out rfl (na + (frOf y.1).length) (by rw [endsL_length, List.length_map]; omega)
        obtain ⟨g6, c6, W6, hap6, hR6⟩ := hR5.push_want HL1.out rfl y HEO.out (by omega)
        rw [HC.out] at hap6
        rw [← e2] at hap4 hR4 hR5 hR6
        rw [endsL_length, List.length_map, ← e3] at hap5 hR5 hR6
        rw [← e3] at hap6
        have HA4 := hid hap4
        have HA5 := hid hap5
        have HA6 := hid hap6
        have HN1 := hid (fun V => run_oneint ((na + (frOf y.1).length : Nat) : Int) V)
        have HR5G := hid (HRG.out W5 hR5.kept)
        have HF : Hid (BI w.heap.size ys w1 (k + 1) (na + (frOf y.1).length) (ne + 1) (.slice (some ⟨g4, 0, none⟩) (na + (frOf y.1).length) c4) (.slice (some ⟨g5, 0, none⟩) (ne + 1) c5) (.slice (some ⟨g6, 0, none⟩) (ne + 1) c6) W6) := by
          refine ⟨zs ++ [y], ?_, ?_, ?_, ?_⟩
          · rw [take_filter_yes HY.out hg, ← e1]
          · rw [hnm, cat_snoc, List.length_append, e2]
          · rw [List.length_append, e3]; rfl
          · rw [hnm, cat_snoc, endsL_snoc, cat_snoc, List.length_append, ← e2]
            exact hR6
        have hfn : (frOf y.1).length ≤ 5049 := by omega
        have hnb : na + (frOf y.1).length ≤ 200000 := by omega
        have hne2 : ne + 1 ≤ 20 := by omega
        generalize hfN : (frOf y.1).length = fn at *
        clear hg hpf hpx hRt hap4 hap5 hap6 hR4 hR5 hR6 hzr hnm hcl e1 e2 e3 hfl hf5 hfN hzl HZS
        go_wp2_with (first
          | (refine wpList_load_mid (by rfl) 26 _ (by rfl) g (o + k * 34) (by rfl) C _ HR5G.out Try.underlying26 rfl HI.out ?_)
          | (refine wpList_val (by rfl) (exec_append _ _ 24 (by rfl) (.slice aa na ca) (.slice ap fn cp) _ (by rfl) (by rfl) HA4.out) ?_)
          | (refine wpList_val (by rfl) (exec_slice1 60 _ (by rfl) (.int .i64 ((na + fn : Nat) : Int)) _ (by rfl) (HN1.out _)) ?_)
          | (refine wpList_val (by rfl) (exec_append _ _ 60 (by rfl) (.slice ae ne ce) (.slice (some ⟨W4.heap.size, 0, none⟩) 1 1) _ (by rfl) (by rfl) HA5.out) ?_)
          | (refine wpList_val (by rfl) (exec_slice1 28 _ (by rfl) (.agg C.toArray) _ (by rfl) (HBS.out _)) ?_)
          | (refine wpList_val (by rfl) (exec_append _ _ 28 (by rfl) (.slice aw ne cw) (.slice (some ⟨W5.heap.size, 0, none⟩) 1 1) _ (by rfl) (by rfl) HA6.out) ?_))
        go_round
        case rel => exact ⟨k + 1, na + fn, ne + 1, _, _, _, _, _, _, by omega, by go_num, rfl, rfl, rfl, hnb, hne2, HF⟩
        case measure => simp [intOf]; omega
    · have hkn : k = ys.length := by omega
      subst hkn
      obtain ⟨zs, hzs, hnaE, hneE, hR⟩ := HS.out
      rw [List.take_length] at hzs
      have hmem : ∀ x ∈ zs, x ∈ ys ∧ goodB x = true := fun x hx => by rw [hzs] at hx; exact List.mem_filter.1 hx
      have HZO : Hid (∀ x ∈ zs, elOk x) := fun x hx => HOK.out x (hmem x hx).1
      have HZR : Hid (∀ r ∈ zs.map (·.1), Rt r) := fun r hr => by
        obtain ⟨x, hx, rfl⟩ := List.mem_map.1 hr
        exact HRT.out x (hmem x hx).1 (hmem x hx).2
      have HZB : Hid (∀ x ∈ zs, Tlv.BySl 0 w.heap.size w (elV x) x.1.2.2) := fun x hx => HBY.out x (hmem x hx).1
      have HZN : Hid ((zs.map (·.1)).length = zs.length) := List.length_map _
      have HZG : Hid (∀ (j : Nat) (x : El), zs[j]? = some x → (zs.map (·.1))[j]? = some x.1) := fun j (x : El) hx => by rw [List.getElem?_map, hx]; rfl
      obtain ⟨rs, hrs⟩ : ∃ rs, zs.map (·.1) = rs := ⟨_, rfl⟩
      rw [hrs] at HZR HZN HZG hR hnaE
      have HA0 : Hid (BySlS (fun g => w1.heap.size ≤ g ∧ g < wr.heap.size) wr (.slice aa na ca) (cat rs)) := by
        have h := hR.all
        exact Tlv.BySl.toS (Tlv.BySl.own h (by omega) (cat_bd HZR.out))
      have HAG : Hid (0 < na → ∃ ga, aa = some ⟨ga, 0, none⟩ ∧ na ≤ ca ∧ ca ≤ 9223372036854775807) := fun hp => by
        rcases hR.all.2 with ⟨_, h0⟩ | ⟨ga, cap', cur, hv, _, _, h1, h2, _⟩
        · omega
        · simp only [Value.slice.injEq] at hv
          obtain ⟨rfl, rfl, rfl⟩ := hv
          exact ⟨ga, rfl, by omega, by unfold maxLen at h2; omega⟩
      have HEC : Hid (∀ j, j < ne → ∃ ge, ae = some ⟨ge, 0, none⟩ ∧ wr.cell? ⟨ge, j, none⟩ = some (.int .i64 ((cat (rs.take (j + 1))).length : Nat)) ∧ (cat (rs.take (j + 1))).length ≤ 200000 ∧ ge < wr.heap.size ∧ ge ≠ w.heap.size) := fun j hj => by
        obtain ⟨ge, ce', he⟩ := hR.ends.form (by rw [endsL_length, HZN.out]; omega)
        have he1 := he.1
        simp only [Value.slice.injEq] at he1
        obtain ⟨rfl, _, rfl⟩ := he1
        have hlt := hR.ends.lt ge rfl
        refine ⟨ge, rfl, ?_, ?_, hlt.2, by have := HL1.out; omega⟩
        · have h := hR.ends.cells (g := ge) rfl j (.int .i64 ((cat (rs.take (j + 1))).length : Nat)) (by rw [nums, List.getElem?_map, endsL_at (by rw [HZN.out]; omega)]; rfl)
          rwa [Addr.add_lit, Nat.zero_add] at h
        · have h1 := cat_length (rs := rs.take (j + 1)) (fun r hr => HZR.out r (List.mem_of_mem_take hr))
          rw [List.length_take, HZN.out] at h1
          omega
      have HRR := hid hR
      have HNN := hid (And.intro hnaE hneE)
      clear hR hnaE hneE hmem hzs hrs HS HRT HBY HOK
      obtain ⟨cb, hcb⟩ : ∃ cb, decide (0 ≤ z ∧ z < (na : Int)) = cb := ⟨_, rfl⟩
      have HCB := hid hcb
      clear hcb
      go_upto_region 16 with fail
      go_cut [66] (fun s wx => s = .bool cb ∧ wx = wr)
      case first =>
        by_cases h0 : 0 ≤ z
        · by_cases h1 : z < (na : Int)
          · have hcb : cb = true := by rw [← HCB.out]; simp [h0, h1]
            go_wp2_with fail
            go_meet
            exact ⟨by rw [hcb], rfl⟩
          · have hcb : cb = false := by rw [← HCB.out]; simp [h1]
            have h1' : (na : Int) ≤ z := by omega
            go_wp2_with fail
            go_meet
            exact ⟨by rw [hcb], rfl⟩
        · have hcb : cb = false := by rw [← HCB.out]; simp [h0]
          have h0' : z < 0 := by omega
          go_wp2_with fail
          go_meet
          exact ⟨by rw [hcb], rfl⟩
      case rest =>
      obtain ⟨rfl, rfl⟩ := hcut
      go_upto_if 66 with fail
      go_cut [6, 12] (fun s6 s12 wx => ∃ (M m : Nat) (aA : Option Addr) (cA : Nat), s6 = .slice aA M cA ∧ s12 = .int .i64 (m : Int) ∧ wx = wc ∧ M ≤ na ∧ m ≤ ne ∧ Hid (m = cnt rs M ∧ BySlS (fun g => w1.heap.size ≤ g ∧ g < wc.heap.size) wc (.slice aA M cA) ((cat rs).take M)))
      case first =>
        cases hcb : cb with
        | false =>
          go_wp2_with fail
          go_meet
          refine ⟨na, ne, aa, ca, rfl, rfl, rfl, Nat.le_refl _, Nat.le_refl _, ?_, ?_⟩
          · rw [cnt_all rs na (by rw [HNN.out.1]; exact Nat.le_refl _), HZN.out, HNN.out.2]
          · rw [HNN.out.1, List.take_length, ← HNN.out.1]
            exact HA0.out
        | true =>
          have hc2 : 0 ≤ z ∧ z < (na : Int) := by have h := HCB.out; rw [hcb] at h; exact of_decide_eq_true h
          obtain ⟨c, rfl⟩ : ∃ c : Nat, z = c := ⟨z.toNat, by omega⟩
          have hcn : c < na := by omega
          obtain ⟨ga, rfl, hca, hca2⟩ := HAG.out (by omega)
          have HCUT : Hid (BySlS (fun g => w1.heap.size ≤ g ∧ g < wc.heap.size) wc (.slice (some ⟨ga, 0, none⟩) c ca) ((cat rs).take c)) := by
            have h := HA0.out
            rw [HNN.out.1] at h
            exact bySlS_take h (by rw [← HNN.out.1]; omega)
          have hcle : (c : Int) ≤ (ca : Int) := by omega
          clear hc2 HCB hcb
          go_wp2_with fail
          go_loop [12] (fun i => ∃ j : Nat, j ≤ ne ∧ j ≤ cnt rs c ∧ i = .int .i64 (j : Int)) (fun i => ne - (intOf i).toNat)
          case atStart => exact ⟨0, Nat.zero_le _, Nat.zero_le _, rfl⟩
          case round =>
            obtain ⟨j, hj, hjc, rfl⟩ := hrel
            have hcl := cnt_le rs c
            have hz1 := HZN.out
            have hz2 := HNN.out.2
            by_cases hjn : j < ne
            · obtain ⟨ge, rfl, hce, he2, _, _⟩ := HEC.out j hjn
              have hiff := cnt_iff rs c j (by omega)
              have hjI : (j : Int) < (ne : Int) := by omega
              generalize (cat (rs.take (j + 1))).length = E at *
              by_cases hle : E ≤ c
              · have hle' : (E : Int) ≤ (c : Int) := by omega
                have hj3 : j < cnt rs c := hiff.1 hle
                clear hiff hz1 hz2 hcl
                go_wp2_with fail
                go_round
                case rel => exact ⟨j + 1, by omega, by omega, by go_num⟩
                case measure => simp [intOf]; omega
              · have hle' : (c : Int) < (E : Int) := by omega
                have hj3 : ¬ j < cnt rs c := fun h => hle (hiff.2 h)
                have HJ : Hid (j = cnt rs c) := by rw [Hid]; omega
                clear hiff hz1 hz2 hcl hj3 hjc
                go_wp2_with fail
                go_meet
                exact ⟨c, j, _, ca, rfl, rfl, rfl, by omega, by omega, HJ.out, HCUT.out⟩
            · have hjI : (ne : Int) ≤ (j : Int) := by omega
              have HJ : Hid (j = cnt rs c) := by rw [Hid]; omega
              clear hz1 hz2 hcl hjc
              go_wp2_with fail
              go_meet
              exact ⟨c, j, _, ca, rfl, rfl, rfl, by omega, by omega, HJ.out, HCUT.out⟩
      case rest =>
      obtain ⟨M, m, aA, cA, rfl, rfl, rfl, hM, hm, HM⟩ := hcut
      have hMc : M ≤ (cat rs).length := by rw [← HNN.out.1]; exact hM
      have hGM := cnt_end rs M
      have HSC := hid (scanF_cat HZR.out hMc)
      have HAT : Hid (∀ (j : Nat) (r : Rec), j < m → rs[j]? = some r → (cat (rs.take j)).length < ((cat rs).take M).length ∧ takeF (((cat rs).take M).drop (cat (rs.take j)).length) = (0, r, (frOf r).length)) := fun j r hj hr => at_cat HZR.out hMc (by rw [← HM.out.1]; exact hj) hr
      have HIT : Hid (∀ (j : Nat) (r : Rec), j < m → rs[j]? = some r → (itemsOf 0 (rs.take m))[j]? = some ((cat (rs.take j)).length, (0, r, (frOf r).length))) := fun j r hj hr => by
        have h := itemsOf_get 0 (rs.take m) j r (by rw [List.getElem?_take_of_lt hj]; exact hr)
        rwa [List.take_take, Nat.min_eq_left (by omega), Nat.zero_add] at h
      have HIL : Hid ((itemsOf 0 (rs.take m)).length = m) := by
        have := HZN.out
        have := HNN.out.2
        rw [Hid, itemsOf_length, List.length_take]
        omega
      have HEN : Hid (∀ (j : Nat) (r : Rec), rs[j]? = some r → (cat (rs.take (j + 1))).length = (cat (rs.take j)).length + (frOf r).length) := fun j r hr => by rw [List.take_add_one, hr, Option.toList_some, cat_snoc, List.length_append]
      rw [← HM.out.1] at hGM HSC
      have HXL : Hid (((cat rs).take M).length = M) := List.length_take_of_le hMc
      have HXB := hid HM.out.2
      have HRG : Hid (∀ (j : Nat), j < m → ∃ r, rs[j]? = some r ∧ ∃ x, zs[j]? = some x ∧ x.1 = r) := fun j hj => by
        have h1 : j < zs.length := by have := HNN.out.2; omega
        refine ⟨_, HZG.out j zs[j] (List.getElem?_eq_getElem h1), _, List.getElem?_eq_getElem h1, rfl⟩
      obtain ⟨xs, hxs⟩ : ∃ xs, (cat rs).take M = xs := ⟨_, rfl⟩
      obtain ⟨L, hL⟩ : ∃ L, itemsOf 0 (rs.take m) = L := ⟨_, rfl⟩
      rw [hxs] at HSC HAT HXB HXL
      rw [hL] at HSC HIT HIL
      obtain ⟨G, hG⟩ : ∃ G, (cat (rs.take m)).length = G := ⟨_, rfl⟩
      rw [hG] at hGM HSC
      clear hxs hL hG hMc
      go_wp2_with fail
      refine (scan_any w.heap.size _ xs wc HRR.out.tab (BySlS.mono HXB.out (fun g hg => ⟨by have := HL1.out; omega, hg.2⟩)) (by rw [HXL.out]; omega)).mono ?_
      rintro e w4 ⟨ag, cg, rfl, hp4, hk4, ht4⟩
      rw [HSC.out] at hp4 ⊢
      dsimp only at hp4 ⊢
      rw [HIL.out] at hp4 ⊢
      have HR4 := hid (HRR.out.on hk4 ht4 HL1.out)
      have HP4 := hid (hp4.mono HRR.out.kept.size)
      have HX4 : Hid (BySlS (fun g => w1.heap.size ≤ g ∧ g < w4.heap.size) w4 (.slice aA M cA) xs) := BySlS.mono (BySlS.kept HXB.out hk4 (fun g hg => ⟨by have := HL1.out; omega, hg.2⟩)) (fun g hg => ⟨hg.1, Nat.lt_of_lt_of_le hg.2 hk4.size⟩)
      clear hp4 hk4 ht4 HRR HXB HA0 HEC HAG HM HSC
      have hGI : (G : Int) ≤ (M : Int) := by omega
      obtain ⟨fl, hfl⟩ : ∃ fl : Int, (if G = M then (0 : Int) else 16) = fl := ⟨_, rfl⟩
      rw [hfl]
      go_upto_region 22 with fail
      go_cut [117] (fun s wx => s = .bool false ∧ wx = w4)
      case first =>
        by_cases hGe : G = M
        · rw [if_pos hGe] at hfl
          subst hfl
          subst hGe
          go_wp2_with fail
          go_meet
          exact ⟨rfl, rfl⟩
        · rw [if_neg hGe] at hfl
          subst hfl
          have hGI2 : ¬ ((G : Int) = (M : Int)) := by omega
          have hGI3 : ((G : Int) == (M : Int)) = false := by simp [hGI2]
          go_wp2_with fail
          go_meet
          exact ⟨by rw [decide_eq_false (by omega)], rfl⟩
      case rest =>
      obtain ⟨rfl, rfl⟩ := hcut
      go_wp2_with fail
      go_loopw [16] (fun i wr => ∃ (j : Nat), j ≤ m ∧ i = .int .i64 (j : Int) ∧ Hid (Kept w.heap.size wc wr ∧ TabX wr w.heap.size)) (fun i _ => m - (intOf i).toNat)
      case atStart => exact ⟨0, Nat.zero_le _, rfl, Kept.refl _ _, HR4.out.tab⟩
      case round =>
        obtain ⟨j, hj, rfl, HS⟩ := hrel
        have HKF : Hid (Kept w.heap.size w1 wr) := HR4.out.kept.trans HS.out.1
        by_cases hjm : j < m
        · have hjI : (j : Int) < (m : Int) := by omega
          have hjn : (j : Int) < (ne : Int) := by omega
          obtain ⟨r, hr, x, hx, hxr⟩ := HRG.out j hjm
          have hR := HR4.out.on HS.out.1 HS.out.2 HL1.out
          have hP := HP4.out.cells (CellsKept.of_kept HS.out.1) HL1.out
          obtain ⟨hPl, htk⟩ := HAT.out j r hjm hr
          have hEn := HEN.out j r hr
          have hRt : Rt r := HZR.out r (List.mem_of_getElem? hr)
          have hNf := frOf_length hRt
          have hN5 := hRt.2.2.1
          obtain ⟨gg, cgg, a', c', hsl, hgb, hgl, hnm, hrg, hbg⟩ := hP.get j _ (HIT.out j r hjm hr)
          simp only [Value.slice.injEq] at hsl
          obtain ⟨rfl, hq0, rfl⟩ := hsl
          obtain ⟨gw, cw', hwf⟩ := hR.want.form (by have := HNN.out.2; omega)
          have hwf1 := hwf.1
          simp only [Value.slice.injEq] at hwf1
          obtain ⟨rfl, hq1, rfl⟩ := hwf1
          obtain ⟨ge, ce', hef⟩ := hR.ends.form (by rw [endsL_length, HZN.out]; have := HNN.out.2; omega)
          have hef1 := hef.1
          simp only [Value.slice.injEq] at hef1
          obtain ⟨rfl, hq2, rfl⟩ := hef1
          have hwl := hR.want.lt gw rfl
          have hel := hR.ends.lt ge rfl
          have HXO := hid (HZO.out x (List.mem_of_getElem? hx))
          have HXY := hid (HZB.out x (List.mem_of_getElem? hx))
          have hrw : wr.rangeAt gw (j * 34) (elC x) := fun i v hv => by
            have hi : i < 34 := by have := (List.getElem?_eq_some_iff.1 hv).1; rwa [elC_length HXO.out] at this
            have h := hR.want.cells (g := gw) rfl (j * 34 + i) v (by rw [recsC_at zs j x i HZO.out hx hi]; exact hv)
            rwa [Addr.add_lit, Nat.zero_add] at h
          have hce : wr.cell? ⟨ge, j, none⟩ = some (.int .i64 (((cat (rs.take j)).length : Int) + ((frOf r).length : Int))) := by
            have h := hR.ends.cells (g := ge) rfl j (.int .i64 ((cat (rs.take (j + 1))).length : Nat)) (by rw [nums, List.getElem?_map, endsL_at (by have := HZN.out; have := HNN.out.2; omega)]; rfl)
            rw [Addr.add_lit, Nat.zero_add, hEn] at h
            rw [h]
            simp
          have hPN : (cat (rs.take j)).length + (frOf r).length ≤ 300000 := by rw [HXL.out] at hPl; omega
          have HTK := hid htk
          have hPx := hPl
          rw [HXL.out] at hPl
          have cg0 : wr.cell? ⟨gg, j * 36, none⟩ = some (.int .i64 ((cat (rs.take j)).length : Int)) := hrg 0 _ rfl
          have cg1 : wr.cell? ⟨gg, j * 36 + 1, none⟩ = some (.int .i64 ((frOf r).length : Int)) := hrg 1 _ rfl
          have HCG : Hid (wr.rangeAt gg (j * 36 + 2) (recA r.1 r.2.1 (.slice a' r.2.2.length c'))) := fun i q hq => by rw [Nat.add_assoc]; exact hrg (2 + i) q (by rw [Nat.add_comm 2 i]; exact hq)
          have HRW := hid hrw
          have HBG := hid hbg
          have HNM : Hid (r.2.1.length = 32 ∧ ∀ y ∈ r.2.1, 0 ≤ y ∧ y ≤ 255) := ⟨hRt.2.2.2.1, hRt.2.2.2.2.1⟩
          have HATY := hid (at_any w.heap.size (cat (rs.take j)).length _ xs wr HS.out.2 (BySlS.mono (BySlS.kept HX4.out HS.out.1 (fun g hg => ⟨by have := HL1.out; omega, hg.2⟩)) (fun g hg => ⟨by have := HL1.out; omega, Nat.lt_of_lt_of_le hg.2 HS.out.1.size⟩)) hPx)
          rw [htk] at HATY
          have HSZ : Hid (w.heap.size < w1.heap.size ∧ w1.heap.size ≤ wr.heap.size ∧ w1.heap.size ≤ gg ∧ gg < wr.heap.size ∧ w1.heap.size ≤ gw ∧ gw < wr.heap.size ∧ w1.heap.size ≤ ge ∧ ge < wr.heap.size) := ⟨HL1.out, HKF.out.size, hgb, hgl, hwl.1, hwl.2, hel.1, hel.2⟩
          have HEX := hid (And.intro hxr hx)
          generalize (cat (rs.take j)).length = P at *
          generalize (frOf r).length = N at *
          clear hq0 hq1 hq2 hrg hrw hbg hnm hR hP hwf hef hEn hRt hNf hN5 htk hx hxr hr hPx hgb hgl hwl hel
          go_wp2_with fail
          refine HATY.out.mono ?_
          rintro e w5 ⟨ax, cx, rfl, hby5, hnm5, hk5, ht5⟩
          dsimp only at hby5 hnm5 ⊢
          obtain ⟨E, hE⟩ : ∃ E, recA r.1 r.2.1 (.slice ax r.2.2.length cx) = E := ⟨_, rfl⟩
          have HEL : Hid (E.length = 34) := by rw [← hE]; exact recA_length _ _ _ HNM.out.1
          have HEO : Hid (E.toArray.all (·.oneCell') = true) := by rw [← hE]; exact all_oneCell_toArray (recA_one _ _ _ _ _)
          have HEI : Hid ((Try.prog.info? 35).map (·.size) = some E.toArray.size) := by rw [Hid, show E.toArray.size = 34 from HEL.out]; exact Try.info35
          have HE := hid hE
          rw [hE]
          have HB5 := hid hby5
          have HK5 := hid hk5
          have HT5 := hid ht5
          clear hE hby5 hnm5 hk5 ht5 HATY
          have HS5 := hid (box_rec 35 w5 HZL.out HEL.out)
          go_wp2_with (refine wpList_store_mid (by rfl) 35 _ _ (by rfl) w5.heap.size 0 E.toArray (by rfl) (by rfl) HS5.out.1 HEI.out HEO.out ?_)
          obtain ⟨W5, hW5⟩ : ∃ W5, (w5.alloc (.cells Z.toArray 35)).setCells w5.heap.size 0 E = W5 := ⟨_, rfl⟩
          rw [hW5] at HS5 ⊢
          clear hW5
          have HKW : Hid (Kept w.heap.size wr W5) := HK5.out.trans (Kept.below HS5.out.2.1)
          have HZ5 : Hid (wr.heap.size ≤ w5.heap.size ∧ w5.heap.size < W5.heap.size) := ⟨HK5.out.size, by have := HS5.out.2.2.2; omega⟩
          have HEW := hid HS5.out.2.2.1
          have HTW := hid (HT5.out.below HS5.out.2.1)
          have HBW := hid (BySlS.below HB5.out HS5.out.2.1 (fun g hg => hg.2))
          have hcg0 : W5.cell? ⟨gg, j * 36, none⟩ = some (.int .i64 (P : Int)) := (HKW.out.cell (p := ⟨gg, j * 36, none⟩) HSZ.out.2.2.2.1 (by have := HSZ.out; show gg ≠ w.heap.size; omega)).trans cg0
          have hcg1 : W5.cell? ⟨gg, j * 36 + 1, none⟩ = some (.int .i64 (N : Int)) := (HKW.out.cell (p := ⟨gg, j * 36 + 1, none⟩) HSZ.out.2.2.2.1 (by have := HSZ.out; show gg ≠ w.heap.size; omega)).trans cg1
          have hcee : W5.cell? ⟨ge, j, none⟩ = some (.int .i64 ((P : Int) + (N : Int))) := (HKW.out.cell (p := ⟨ge, j, none⟩) HSZ.out.2.2.2.2.2.2.2 (by have := HSZ.out; show ge ≠ w.heap.size; omega)).trans hce
          have HCG5 := hid (rangeAt_kept HCG.out HKW.out HSZ.out.2.2.2.1 (by have := HSZ.out; omega))
          have HRW5 := hid (rangeAt_kept HRW.out HKW.out HSZ.out.2.2.2.2.2.1 (by have := HSZ.out; omega))
          have HBG5 := hid (BySlS.kept HBG.out HKW.out (fun g hg => ⟨hg.2.1, hg.2.2.1⟩))
          have hgg5 : gg < W5.heap.size := by have := HSZ.out; have := HZ5.out; omega
          have hgw5 : gw < W5.heap.size := by have := HSZ.out; have := HZ5.out; omega
          have hge5 : ge < W5.heap.size := by have := HSZ.out; have := HZ5.out; omega
          have hw55 : w5.heap.size < W5.heap.size := HZ5.out.2
          obtain ⟨C1, hC1⟩ : ∃ C1, recA r.1 r.2.1 (.slice a' r.2.2.length c') = C1 := ⟨_, rfl⟩
          have HC1L : Hid (C1.length = 34) := by rw [← hC1]; exact recA_length _ _ _ HNM.out.1
          have HC1I : Hid ((Try.prog.info? 35).map (·.size) = some C1.length) := by rw [Hid, HC1L.out]; exact Try.info35
          obtain ⟨D, hD⟩ : ∃ D, elC x = D := ⟨_, rfl⟩
          have HDL : Hid (D.length = 34) := by rw [← hD]; exact elC_length HXO.out
          have HDI : Hid ((Try.prog.info? 26).map (·.size) = some D.length) := by rw [Hid, HDL.out]; exact Try.info26
          have HEI2 : Hid ((Try.prog.info? 35).map (·.size) = some E.length) := HEI.out
          rw [hC1] at HCG5
          rw [hD] at HRW5
          have HBK : Hid (∀ V, Calls Try.prog 23 #[.agg C1.toArray] V fun e w' => e = .returned (.agg C1.toArray) ∧ Below V.heap.size V w') := fun V => by
            have h := back23_any r.1 r.2.1 a' r.2.2.length c' V HNM.out.1
            rwa [hC1] at h
          have HYW : Hid (∀ V, Below W5.heap.size W5 V → Tlv.BySl 0 V.heap.size V (.slice a' r.2.2.length c') r.2.2) := fun V hV =>
            (BySlS.below HBG5.out hV (fun g hg => by have := HZ5.out; omega)).to (fun g hg => by have := HZ5.out; have := hV.size; omega)
          have HSM : Hid (∀ V, Below W5.heap.size W5 V → Calls Try.prog 18 #[.agg C1.toArray, .agg D.toArray] V fun e w' => e = .returned (.bool true) ∧ Below V.heap.size V w') := fun V hV => by
            have hkk : Below w.heap.size w V := Crc.Kept.toBelow HB1.out ((HKF.out.trans HKW.out).trans (Kept.below hV)) (Nat.le_refl _)
            have h := same18_any r.1 x.1.1 r.2.1 x.1.2.1 r.2.2 x.1.2.2 (.slice a' r.2.2.length c') (elV x) V HNM.out.1 HXO.out.1 HNM.out.2 HXO.out.2 (HYW.out V hV)
              (HXY.out.agree (Agree.below hkk) (Nat.le_refl _) hkk.size)
            rw [hC1, show recA x.1.1 x.1.2.1 (elV x) = D from hD, HEX.out.1, show sameR r.1 r.1 r.2.1 r.2.1 r.2.2 r.2.2 = true from by simp [sameR]] at h
            exact h
          have HSN : Hid (∀ V, Below W5.heap.size W5 V → Calls Try.prog 17 #[.agg E.toArray, .agg C1.toArray] V fun e w' => e = .returned (.bool true) ∧ Below V.heap.size V w') := fun V hV => by
            have h := same17_any r.1 r.1 r.2.1 r.2.1 r.2.2 r.2.2 (.slice ax r.2.2.length cx) (.slice a' r.2.2.length c') V HNM.out.1 HNM.out.1 HNM.out.2 HNM.out.2
              ((BySlS.below HBW.out hV (fun g hg => by omega)).to (fun g hg => by have := hV.size; omega)) (HYW.out V hV)
            rw [HE.out, hC1, show sameR r.1 r.1 r.2.1 r.2.1 r.2.2 r.2.2 = true from by simp [sameR]] at h
            exact h
          have hPNI : (P : Int) + (N : Int) ≤ 300000 := by omega
          have hwrap : IntKind.i64.wrap ((P : Int) + (N : Int)) = (P : Int) + (N : Int) := by rw [IntKind.wrap_i64]; omega
          clear hC1 hD cg0 cg1 hce HCG HRW HBG HBG5 HB5 HBW HYW HS5 HK5
          go_wp2_with fail
          refine wp_region_held_drew (S := fun V => Below W5.heap.size W5 V) (by kernel_rfl) (Below.refl _ _).drew (fun hHeld => ?_)
          refine wpAnyH_take (i := 0) (oi := { dst := some 134, op := Op.move (Operand.tmp 13), type := 48, pos := "law.go:114", after := #[], guard := none }) (v := .slice (some ⟨gg, 0, none⟩) m cg) rfl (by kernel_rfl) (by kernel_rfl) (by kernel_rfl) (fun _ _ _ h => h) (Or.inl ⟨by rfl, fun w' hw' => by (clear hw'; go_simp)⟩) hHeld ?_
          simp only [Act.put, List.setIfInBounds_toArray, List.set_cons_zero, List.set_cons_succ]
          refine wpAnyH_take (i := 1) (oi := { dst := some 135, op := Op.move (Operand.tmp 16), type := 3, pos := "law.go:114", after := #[], guard := none }) (v := .int .i64 (j : Int)) rfl (by kernel_rfl) (by kernel_rfl) (by kernel_rfl) (fun _ _ _ h => h) (Or.inl ⟨by rfl, fun w' hw' => by (clear hw'; go_simp)⟩) hHeld ?_
          simp only [Act.put, List.setIfInBounds_toArray, List.set_cons_zero, List.set_cons_succ]
          refine wpAnyH_take (i := 2) (oi := { dst := some 136, op := Op.indexAddr 48 (Operand.tmp 134) (Operand.tmp 135), type := 0, pos := "law.go:114", after := #[{ on := 0, ground := Ground.data }, { on := 1, ground := Ground.data }], guard := none }) (v := .pointer (some ⟨gg, j * 36, none⟩)) rfl (by kernel_rfl) (by kernel_rfl) (by kernel_rfl) (fun _ _ _ h => h) (Or.inl ⟨by rfl, fun w' hw' => by (clear hw'; go_simp)⟩) hHeld ?_
          simp only [Act.put, List.setIfInBounds_toArray, List.set_cons_zero, List.set_cons_succ]
          refine wpAnyH_take (i := 3) (oi := { dst := some 137, op := Op.fieldAddr 62 (Operand.tmp 136) 2, type := 0, pos := "law.go:114", after := #[{ on := 2, ground := Ground.data }], guard := none }) (v := .pointer (some ⟨gg, j * 36 + 2, none⟩)) rfl (by kernel_rfl) (by kernel_rfl) (by kernel_rfl) (fun _ _ _ h => h) (Or.inl ⟨by rfl, fun w' hw' => by (clear hw'; go_simp)⟩) hHeld ?_
          simp only [Act.put, List.setIfInBounds_toArray, List.set_cons_zero, List.set_cons_succ]
          refine wpAnyH_take (i := 4) (oi := { dst := some 138, op := Op.load 35 (Operand.tmp 137), type := 35, pos := "law.go:114", after := #[{ on := 3, ground := Ground.data }], guard := none }) (v := .agg C1.toArray) rfl (by kernel_rfl) (by kernel_rfl) (by kernel_rfl) (fun _ _ _ h => h) (yieldsIf_load_mid (by rfl) _ _ rfl gg (j * 36 + 2) rfl C1 _ (fun V hV => rangeAt_below HCG5.out hV hgg5) Try.underlying35 rfl HC1I.out) hHeld ?_
          simp only [Act.put, List.setIfInBounds_toArray, List.set_cons_zero, List.set_cons_succ]
          refine wpAnyH_take (i := 6) (oi := { dst := some 140, op := Op.move (Operand.tmp 8), type := 28, pos := "law.go:114", after := #[], guard := none }) (v := .slice (some ⟨gw, 0, none⟩) ne cw) rfl (by kernel_rfl) (by kernel_rfl) (by kernel_rfl) (fun _ _ _ h => h) (Or.inl ⟨by rfl, fun w' hw' => by (clear hw'; go_simp)⟩) hHeld ?_
          simp only [Act.put, List.setIfInBounds_toArray, List.set_cons_zero, List.set_cons_succ]
          refine wpAnyH_take (i := 7) (oi := { dst := some 141, op := Op.move (Operand.tmp 16), type := 3, pos := "law.go:114", after := #[], guard := none }) (v := .int .i64 (j : Int)) rfl (by kernel_rfl) (by kernel_rfl) (by kernel_rfl) (fun _ _ _ h => h) (Or.inl ⟨by rfl, fun w' hw' => by (clear hw'; go_simp)⟩) hHeld ?_
          simp only [Act.put, List.setIfInBounds_toArray, List.set_cons_zero, List.set_cons_succ]
          refine wpAnyH_take (i := 8) (oi := { dst := some 142, op := Op.indexAddr 28 (Operand.tmp 140) (Operand.tmp 141), type := 0, pos := "law.go:114", after := #[{ on := 6, ground := Ground.data }, { on := 7, ground := Ground.data }], guard := none }) (v := .pointer (some ⟨gw, j * 34, none⟩)) rfl (by kernel_rfl) (by kernel_rfl) (by kernel_rfl) (fun _ _ _ h => h) (Or.inl ⟨by rfl, fun w' hw' => by (clear hw'; go_simp)⟩) hHeld ?_
          simp only [Act.put, List.setIfInBounds_toArray, List.set_cons_zero, List.set_cons_succ]
          refine wpAnyH_take (i := 9) (oi := { dst := some 143, op := Op.load 26 (Operand.tmp 142), type := 26, pos := "law.go:114", after := #[{ on := 8, ground := Ground.data }], guard := none }) (v := .agg D.toArray) rfl (by kernel_rfl) (by kernel_rfl) (by kernel_rfl) (fun _ _ _ h => h) (yieldsIf_load_mid (by rfl) _ _ rfl gw (j * 34) rfl D _ (fun V hV => rangeAt_below HRW5.out hV hgw5) Try.underlying26 rfl HDI.out) hHeld ?_
          simp only [Act.put, List.setIfInBounds_toArray, List.set_cons_zero, List.set_cons_succ]
          refine wpAnyH_ready (rs := [5]) (by kernel_rfl) (by simp) ?_
          refine AllReadyH.cons (o := { dst := some 139, op := Op.call { callee := Callee.value (Operand.func 23), args := #[Operand.tmp 138], argTypes := #[35] }, type := 26, pos := "law.go:114", after := #[{ on := 4, ground := Ground.data }], guard := none }) rfl (fun K hK => ?_) AllReadyH.nil
          go_simp
          refine (HBK.out _).mono ?_
          rintro e v1 ⟨rfl, hb1⟩
          have K1 : Hid (Below W5.heap.size W5 v1) := (Below.refl _ _).drew.trans (hb1.mono (Nat.le_refl _))
          clear hb1
          go_wp2_with fail
          refine hK.out _ _ (K1.out) (fun hh => ?_)
          clear hK K hHeld
          have hHeld := hh
          clear hh
          try simp only [Act.put, List.setIfInBounds_toArray, List.set_cons_zero, List.set_cons_succ]
          refine wpAnyH_ready (rs := [10]) (by kernel_rfl) (by simp) ?_
          refine AllReadyH.cons (o := { dst := some 144, op := Op.call { callee := Callee.value (Operand.func 18), args := #[Operand.tmp 139, Operand.tmp 143], argTypes := #[26, 26] }, type := 4, pos := "law.go:114", after := #[{ on := 5, ground := Ground.data }, { on := 9, ground := Ground.data }, { on := 5, ground := Ground.chain }], guard := none }) rfl (fun K hK => ?_) AllReadyH.nil
          go_simp
          refine (HSM.out _ K1.out).mono ?_
          rintro e v2 ⟨rfl, hb2⟩
          have K2 : Hid (Below W5.heap.size W5 v2) := K1.out.trans (hb2.mono K1.out.size)
          clear hb2
          go_wp2_with fail
          refine hK.out _ _ (K2.out) (fun hh => ?_)
          clear hK K hHeld
          have hHeld := hh
          clear hh
          try simp only [Act.put, List.setIfInBounds_toArray, List.set_cons_zero, List.set_cons_succ]
          refine wpAnyH_take (i := 11) (oi := { dst := some 145, op := Op.unOp UnOp.not 4 (Operand.tmp 144), type := 4, pos := "law.go:114", after := #[{ on := 10, ground := Ground.data }], guard := none }) (v := .bool false) rfl (by kernel_rfl) (by kernel_rfl) (by kernel_rfl) (fun _ _ _ h => h) (Or.inl ⟨by rfl, fun w' hw' => by (clear hw'; go_simp)⟩) hHeld ?_
          simp only [Act.put, List.setIfInBounds_toArray, List.set_cons_zero, List.set_cons_succ]
          refine wpAnyH_take (i := 12) (oi := { dst := some 146, op := Op.move (Operand.tmp 145), type := 4, pos := "law.go:114", after := #[{ on := 11, ground := Ground.data }, { on := 10, ground := Ground.chain }], guard := none }) (v := .bool false) rfl (by kernel_rfl) (by kernel_rfl) (by kernel_rfl) (fun _ _ _ h => h) (Or.inl ⟨by rfl, fun w' hw' => by (clear hw'; go_simp)⟩) hHeld ?_
          simp only [Act.put, List.setIfInBounds_toArray, List.set_cons_zero, List.set_cons_succ]
          refine wpAnyH_take (i := 13) (oi := { dst := some 147, op := Op.move (Operand.tmp 18), type := 32, pos := "law.go:114", after := #[{ on := 12, ground := Ground.guard }], guard := some (12, false) }) (v := .int .i64 0) rfl (by kernel_rfl) (by kernel_rfl) (by kernel_rfl) (fun _ _ _ h => h) (Or.inl ⟨by rfl, fun w' hw' => by (clear hw'; go_simp)⟩) hHeld ?_
          simp only [Act.put, List.setIfInBounds_toArray, List.set_cons_zero, List.set_cons_succ]
          refine wpAnyH_take (i := 14) (oi := { dst := some 148, op := Op.binOp BinOp.neq 32 (Operand.tmp 147) (Operand.const (Value.int IntKind.i64 0)) 32, type := 4, pos := "law.go:114", after := #[{ on := 13, ground := Ground.data }, { on := 12, ground := Ground.guard }], guard := some (12, false) }) (v := .bool false) rfl (by kernel_rfl) (by kernel_rfl) (by kernel_rfl) (fun _ _ _ h => h) (Or.inl ⟨by rfl, fun w' hw' => by (clear hw'; go_simp)⟩) hHeld ?_
          simp only [Act.put, List.setIfInBounds_toArray, List.set_cons_zero, List.set_cons_succ]
          refine wpAnyH_take (i := 15) (oi := { dst := some 149, op := Op.pick (Operand.tmp 146) (Operand.const (Value.bool true)) (Operand.tmp 148), type := 4, pos := "law.go:114", after := #[{ on := 12, ground := Ground.data }, { on := 14, ground := Ground.data }], guard := none }) (v := .bool false) rfl (by kernel_rfl) (by kernel_rfl) (by kernel_rfl) (fun _ _ _ h => h) (Or.inl ⟨by rfl, fun w' hw' => by (clear hw'; go_simp)⟩) hHeld ?_
          simp only [Act.put, List.setIfInBounds_toArray, List.set_cons_zero, List.set_cons_succ]
          refine wpAnyH_take (i := 16) (oi := { dst := some 150, op := Op.move (Operand.tmp 149), type := 4, pos := "law.go:114", after := #[{ on := 15, ground := Ground.data }, { on := 12, ground := Ground.chain }], guard := none }) (v := .bool false) rfl (by kernel_rfl) (by kernel_rfl) (by kernel_rfl) (fun _ _ _ h => h) (Or.inl ⟨by rfl, fun w' hw' => by (clear hw'; go_simp)⟩) hHeld ?_
          simp only [Act.put, List.setIfInBounds_toArray, List.set_cons_zero, List.set_cons_succ]
          refine wpAnyH_take (i := 17) (oi := { dst := some 151, op := Op.load 35 (Operand.tmp 17), type := 35, pos := "law.go:114", after := #[{ on := 16, ground := Ground.guard }], guard := some (16, false) }) (v := .agg E.toArray) rfl (by kernel_rfl) (by kernel_rfl) (by kernel_rfl) (fun _ _ _ h => h) (yieldsIf_load_mid (by rfl) _ _ rfl w5.heap.size 0 rfl E _ (fun V hV => rangeAt_below HEW.out hV hw55) Try.underlying35 rfl HEI2.out) hHeld ?_
          simp only [Act.put, List.setIfInBounds_toArray, List.set_cons_zero, List.set_cons_succ]
          refine wpAnyH_take (i := 18) (oi := { dst := some 152, op := Op.move (Operand.tmp 13), type := 48, pos := "law.go:114", after := #[{ on := 16, ground := Ground.guard }], guard := some (16, false) }) (v := .slice (some ⟨gg, 0, none⟩) m cg) rfl (by kernel_rfl) (by kernel_rfl) (by kernel_rfl) (fun _ _ _ h => h) (Or.inl ⟨by rfl, fun w' hw' => by (clear hw'; go_simp)⟩) hHeld ?_
          simp only [Act.put, List.setIfInBounds_toArray, List.set_cons_zero, List.set_cons_succ]
          refine wpAnyH_take (i := 19) (oi := { dst := some 153, op := Op.move (Operand.tmp 16), type := 3, pos := "law.go:114", after := #[{ on := 16, ground := Ground.guard }], guard := some (16, false) }) (v := .int .i64 (j : Int)) rfl (by kernel_rfl) (by kernel_rfl) (by kernel_rfl) (fun _ _ _ h => h) (Or.inl ⟨by rfl, fun w' hw' => by (clear hw'; go_simp)⟩) hHeld ?_
          simp only [Act.put, List.setIfInBounds_toArray, List.set_cons_zero, List.set_cons_succ]
          refine wpAnyH_take (i := 20) (oi := { dst := some 154, op := Op.indexAddr 48 (Operand.tmp 152) (Operand.tmp 153), type := 0, pos := "law.go:114", after := #[{ on := 18, ground := Ground.data }, { on := 19, ground := Ground.data }, { on := 16, ground := Ground.guard }], guard := some (16, false) }) (v := .pointer (some ⟨gg, j * 36, none⟩)) rfl (by kernel_rfl) (by kernel_rfl) (by kernel_rfl) (fun _ _ _ h => h) (Or.inl ⟨by rfl, fun w' hw' => by (clear hw'; go_simp)⟩) hHeld ?_
          simp only [Act.put, List.setIfInBounds_toArray, List.set_cons_zero, List.set_cons_succ]
          refine wpAnyH_take (i := 21) (oi := { dst := some 155, op := Op.fieldAddr 62 (Operand.tmp 154) 2, type := 0, pos := "law.go:114", after := #[{ on := 20, ground := Ground.data }, { on := 16, ground := Ground.guard }], guard := some (16, false) }) (v := .pointer (some ⟨gg, j * 36 + 2, none⟩)) rfl (by kernel_rfl) (by kernel_rfl) (by kernel_rfl) (fun _ _ _ h => h) (Or.inl ⟨by rfl, fun w' hw' => by (clear hw'; go_simp)⟩) hHeld ?_
          simp only [Act.put, List.setIfInBounds_toArray, List.set_cons_zero, List.set_cons_succ]
          refine wpAnyH_take (i := 22) (oi := { dst := some 156, op := Op.load 35 (Operand.tmp 155), type := 35, pos := "law.go:114", after := #[{ on := 21, ground := Ground.data }, { on := 16, ground := Ground.guard }], guard := some (16, false) }) (v := .agg C1.toArray) rfl (by kernel_rfl) (by kernel_rfl) (by kernel_rfl) (fun _ _ _ h => h) (yieldsIf_load_mid (by rfl) _ _ rfl gg (j * 36 + 2) rfl C1 _ (fun V hV => rangeAt_below HCG5.out hV hgg5) Try.underlying35 rfl HC1I.out) hHeld ?_
          simp only [Act.put, List.setIfInBounds_toArray, List.set_cons_zero, List.set_cons_succ]
          refine wpAnyH_ready (rs := [23]) (by kernel_rfl) (by simp) ?_
          refine AllReadyH.cons (o := { dst := some 157, op := Op.call { callee := Callee.value (Operand.func 17), args := #[Operand.tmp 151, Operand.tmp 156], argTypes := #[35, 35] }, type := 4, pos := "law.go:114", after := #[{ on := 17, ground := Ground.data }, { on := 22, ground := Ground.data }, { on := 16, ground := Ground.chain }, { on := 16, ground := Ground.guard }], guard := some (16, false) }) rfl (fun K hK => ?_) AllReadyH.nil
          go_simp
          refine (HSN.out _ K2.out).mono ?_
          rintro e v3 ⟨rfl, hb3⟩
          have K3 : Hid (Below W5.heap.size W5 v3) := K2.out.trans (hb3.mono K2.out.size)
          clear hb3
          go_wp2_with fail
          refine hK.out _ _ (K3.out) (fun hh => ?_)
          clear hK K hHeld
          have hHeld := hh
          clear hh
          try simp only [Act.put, List.setIfInBounds_toArray, List.set_cons_zero, List.set_cons_succ]
          refine wpAnyH_take (i := 24) (oi := { dst := some 158, op := Op.unOp UnOp.not 4 (Operand.tmp 157), type := 4, pos := "law.go:114", after := #[{ on := 23, ground := Ground.data }, { on := 16, ground := Ground.guard }], guard := some (16, false) }) (v := .bool false) rfl (by kernel_rfl) (by kernel_rfl) (by kernel_rfl) (fun _ _ _ h => h) (Or.inl ⟨by rfl, fun w' hw' => by (clear hw'; go_simp)⟩) hHeld ?_
          simp only [Act.put, List.setIfInBounds_toArray, List.set_cons_zero, List.set_cons_succ]
          refine wpAnyH_take (i := 25) (oi := { dst := some 159, op := Op.pick (Operand.tmp 150) (Operand.const (Value.bool true)) (Operand.tmp 158), type := 4, pos := "law.go:114", after := #[{ on := 16, ground := Ground.data }, { on := 24, ground := Ground.data }], guard := none }) (v := .bool false) rfl (by kernel_rfl) (by kernel_rfl) (by kernel_rfl) (fun _ _ _ h => h) (Or.inl ⟨by rfl, fun w' hw' => by (clear hw'; go_simp)⟩) hHeld ?_
          simp only [Act.put, List.setIfInBounds_toArray, List.set_cons_zero, List.set_cons_succ]
          refine wpAnyH_take (i := 26) (oi := { dst := some 160, op := Op.move (Operand.tmp 159), type := 4, pos := "law.go:114", after := #[{ on := 25, ground := Ground.data }, { on := 23, ground := Ground.chain }], guard := none }) (v := .bool false) rfl (by kernel_rfl) (by kernel_rfl) (by kernel_rfl) (fun _ _ _ h => h) (Or.inl ⟨by rfl, fun w' hw' => by (clear hw'; go_simp)⟩) hHeld ?_
          simp only [Act.put, List.setIfInBounds_toArray, List.set_cons_zero, List.set_cons_succ]
          refine wpAnyH_take (i := 27) (oi := { dst := some 161, op := Op.move (Operand.tmp 13), type := 48, pos := "law.go:114", after := #[{ on := 26, ground := Ground.guard }], guard := some (26, false) }) (v := .slice (some ⟨gg, 0, none⟩) m cg) rfl (by kernel_rfl) (by kernel_rfl) (by kernel_rfl) (fun _ _ _ h => h) (Or.inl ⟨by rfl, fun w' hw' => by (clear hw'; go_simp)⟩) hHeld ?_
          simp only [Act.put, List.setIfInBounds_toArray, List.set_cons_zero, List.set_cons_succ]
          refine wpAnyH_take (i := 28) (oi := { dst := some 162, op := Op.move (Operand.tmp 16), type := 3, pos := "law.go:114", after := #[{ on := 26, ground := Ground.guard }], guard := some (26, false) }) (v := .int .i64 (j : Int)) rfl (by kernel_rfl) (by kernel_rfl) (by kernel_rfl) (fun _ _ _ h => h) (Or.inl ⟨by rfl, fun w' hw' => by (clear hw'; go_simp)⟩) hHeld ?_
          simp only [Act.put, List.setIfInBounds_toArray, List.set_cons_zero, List.set_cons_succ]
          refine wpAnyH_take (i := 29) (oi := { dst := some 163, op := Op.indexAddr 48 (Operand.tmp 161) (Operand.tmp 162), type := 0, pos := "law.go:114", after := #[{ on := 27, ground := Ground.data }, { on := 28, ground := Ground.data }, { on := 26, ground := Ground.guard }], guard := some (26, false) }) (v := .pointer (some ⟨gg, j * 36, none⟩)) rfl (by kernel_rfl) (by kernel_rfl) (by kernel_rfl) (fun _ _ _ h => h) (Or.inl ⟨by rfl, fun w' hw' => by (clear hw'; go_simp)⟩) hHeld ?_
          simp only [Act.put, List.setIfInBounds_toArray, List.set_cons_zero, List.set_cons_succ]
          refine wpAnyH_take (i := 30) (oi := { dst := some 164, op := Op.fieldAddr 62 (Operand.tmp 163) 0, type := 0, pos := "law.go:114", after := #[{ on := 29, ground := Ground.data }, { on := 26, ground := Ground.guard }], guard := some (26, false) }) (v := .pointer (some ⟨gg, j * 36, none⟩)) rfl (by kernel_rfl) (by kernel_rfl) (by kernel_rfl) (fun _ _ _ h => h) (Or.inl ⟨by rfl, fun w' hw' => by (clear hw'; go_simp)⟩) hHeld ?_
          simp only [Act.put, List.setIfInBounds_toArray, List.set_cons_zero, List.set_cons_succ]
          refine wpAnyH_take (i := 31) (oi := { dst := some 165, op := Op.load 3 (Operand.tmp 164), type := 3, pos := "law.go:114", after := #[{ on := 30, ground := Ground.data }, { on := 26, ground := Ground.guard }], guard := some (26, false) }) (v := .int .i64 (P : Int)) rfl (by kernel_rfl) (by kernel_rfl) (by kernel_rfl) (fun _ _ _ h => h) (Or.inl ⟨by rfl, fun w' hw' => by (have q := (hw'.cell (p := ⟨gg, j * 36, none⟩) hgg5).trans hcg0; clear hw'; go_simp)⟩) hHeld ?_
          simp only [Act.put, List.setIfInBounds_toArray, List.set_cons_zero, List.set_cons_succ]
          refine wpAnyH_take (i := 32) (oi := { dst := some 166, op := Op.move (Operand.tmp 13), type := 48, pos := "law.go:114", after := #[{ on := 26, ground := Ground.guard }], guard := some (26, false) }) (v := .slice (some ⟨gg, 0, none⟩) m cg) rfl (by kernel_rfl) (by kernel_rfl) (by kernel_rfl) (fun _ _ _ h => h) (Or.inl ⟨by rfl, fun w' hw' => by (clear hw'; go_simp)⟩) hHeld ?_
          simp only [Act.put, List.setIfInBounds_toArray, List.set_cons_zero, List.set_cons_succ]
          refine wpAnyH_take (i := 33) (oi := { dst := some 167, op := Op.move (Operand.tmp 16), type := 3, pos := "law.go:114", after := #[{ on := 26, ground := Ground.guard }], guard := some (26, false) }) (v := .int .i64 (j : Int)) rfl (by kernel_rfl) (by kernel_rfl) (by kernel_rfl) (fun _ _ _ h => h) (Or.inl ⟨by rfl, fun w' hw' => by (clear hw'; go_simp)⟩) hHeld ?_
          simp only [Act.put, List.setIfInBounds_toArray, List.set_cons_zero, List.set_cons_succ]
          refine wpAnyH_take (i := 34) (oi := { dst := some 168, op := Op.indexAddr 48 (Operand.tmp 166) (Operand.tmp 167), type := 0, pos := "law.go:114", after := #[{ on := 32, ground := Ground.data }, { on := 33, ground := Ground.data }, { on := 26, ground := Ground.guard }], guard := some (26, false) }) (v := .pointer (some ⟨gg, j * 36, none⟩)) rfl (by kernel_rfl) (by kernel_rfl) (by kernel_rfl) (fun _ _ _ h => h) (Or.inl ⟨by rfl, fun w' hw' => by (clear hw'; go_simp)⟩) hHeld ?_
          simp only [Act.put, List.setIfInBounds_toArray, List.set_cons_zero, List.set_cons_succ]
          refine wpAnyH_take (i := 35) (oi := { dst := some 169, op := Op.fieldAddr 62 (Operand.tmp 168) 1, type := 0, pos := "law.go:114", after := #[{ on := 34, ground := Ground.data }, { on := 26, ground := Ground.guard }], guard := some (26, false) }) (v := .pointer (some ⟨gg, j * 36 + 1, none⟩)) rfl (by kernel_rfl) (by kernel_rfl) (by kernel_rfl) (fun _ _ _ h => h) (Or.inl ⟨by rfl, fun w' hw' => by (clear hw'; go_simp)⟩) hHeld ?_
          simp only [Act.put, List.setIfInBounds_toArray, List.set_cons_zero, List.set_cons_succ]
          refine wpAnyH_take (i := 36) (oi := { dst := some 170, op := Op.load 3 (Operand.tmp 169), type := 3, pos := "law.go:114", after := #[{ on := 35, ground := Ground.data }, { on := 26, ground := Ground.guard }], guard := some (26, false) }) (v := .int .i64 (N : Int)) rfl (by kernel_rfl) (by kernel_rfl) (by kernel_rfl) (fun _ _ _ h => h) (Or.inl ⟨by rfl, fun w' hw' => by (have q := (hw'.cell (p := ⟨gg, j * 36 + 1, none⟩) hgg5).trans hcg1; clear hw'; go_simp)⟩) hHeld ?_
          simp only [Act.put, List.setIfInBounds_toArray, List.set_cons_zero, List.set_cons_succ]
          refine wpAnyH_take (i := 37) (oi := { dst := some 171, op := Op.binOp BinOp.add 3 (Operand.tmp 165) (Operand.tmp 170) 3, type := 3, pos := "law.go:114", after := #[{ on := 31, ground := Ground.data }, { on := 36, ground := Ground.data }, { on := 26, ground := Ground.guard }], guard := some (26, false) }) (v := .int .i64 ((P : Int) + (N : Int))) rfl (by kernel_rfl) (by kernel_rfl) (by kernel_rfl) (fun _ _ _ h => h) (Or.inl ⟨by rfl, fun w' hw' => by (clear hw'; go_simp)⟩) hHeld ?_
          simp only [Act.put, List.setIfInBounds_toArray, List.set_cons_zero, List.set_cons_succ]
          refine wpAnyH_take (i := 38) (oi := { dst := some 172, op := Op.move (Operand.tmp 7), type := 60, pos := "law.go:114", after := #[{ on := 26, ground := Ground.guard }], guard := some (26, false) }) (v := .slice (some ⟨ge, 0, none⟩) ne ce) rfl (by kernel_rfl) (by kernel_rfl) (by kernel_rfl) (fun _ _ _ h => h) (Or.inl ⟨by rfl, fun w' hw' => by (clear hw'; go_simp)⟩) hHeld ?_
          simp only [Act.put, List.setIfInBounds_toArray, List.set_cons_zero, List.set_cons_succ]
          refine wpAnyH_take (i := 39) (oi := { dst := some 173, op := Op.move (Operand.tmp 16), type := 3, pos := "law.go:114", after := #[{ on := 26, ground := Ground.guard }], guard := some (26, false) }) (v := .int .i64 (j : Int)) rfl (by kernel_rfl) (by kernel_rfl) (by kernel_rfl) (fun _ _ _ h => h) (Or.inl ⟨by rfl, fun w' hw' => by (clear hw'; go_simp)⟩) hHeld ?_
          simp only [Act.put, List.setIfInBounds_toArray, List.set_cons_zero, List.set_cons_succ]
          refine wpAnyH_take (i := 40) (oi := { dst := some 174, op := Op.indexAddr 60 (Operand.tmp 172) (Operand.tmp 173), type := 0, pos := "law.go:114", after := #[{ on := 38, ground := Ground.data }, { on := 39, ground := Ground.data }, { on := 26, ground := Ground.guard }], guard := some (26, false) }) (v := .pointer (some ⟨ge, j, none⟩)) rfl (by kernel_rfl) (by kernel_rfl) (by kernel_rfl) (fun _ _ _ h => h) (Or.inl ⟨by rfl, fun w' hw' => by (clear hw'; go_simp)⟩) hHeld ?_
          simp only [Act.put, List.setIfInBounds_toArray, List.set_cons_zero, List.set_cons_succ]
          refine wpAnyH_take (i := 41) (oi := { dst := some 175, op := Op.load 3 (Operand.tmp 174), type := 3, pos := "law.go:114", after := #[{ on := 40, ground := Ground.data }, { on := 26, ground := Ground.guard }], guard := some (26, false) }) (v := .int .i64 ((P : Int) + (N : Int))) rfl (by kernel_rfl) (by kernel_rfl) (by kernel_rfl) (fun _ _ _ h => h) (Or.inl ⟨by rfl, fun w' hw' => by (have q := (hw'.cell (p := ⟨ge, j, none⟩) hge5).trans hcee; clear hw'; go_simp)⟩) hHeld ?_
          simp only [Act.put, List.setIfInBounds_toArray, List.set_cons_zero, List.set_cons_succ]
          refine wpAnyH_take (i := 42) (oi := { dst := some 176, op := Op.binOp BinOp.neq 3 (Operand.tmp 171) (Operand.tmp 175) 3, type := 4, pos := "law.go:114", after := #[{ on := 37, ground := Ground.data }, { on := 41, ground := Ground.data }, { on := 26, ground := Ground.guard }], guard := some (26, false) }) (v := .bool false) rfl (by kernel_rfl) (by kernel_rfl) (by kernel_rfl) (fun _ _ _ h => h) (Or.inl ⟨by rfl, fun w' hw' => by (clear hw'; go_simp)⟩) hHeld ?_
          simp only [Act.put, List.setIfInBounds_toArray, List.set_cons_zero, List.set_cons_succ]
          refine wpAnyH_take (i := 43) (oi := { dst := some 177, op := Op.pick (Operand.tmp 160) (Operand.const (Value.bool true)) (Operand.tmp 176), type := 4, pos := "law.go:114", after := #[{ on := 26, ground := Ground.data }, { on := 42, ground := Ground.data }], guard := none }) (v := .bool false) rfl (by kernel_rfl) (by kernel_rfl) (by kernel_rfl) (fun _ _ _ h => h) (Or.inl ⟨by rfl, fun w' hw' => by (clear hw'; go_simp)⟩) hHeld ?_
          simp only [Act.put, List.setIfInBounds_toArray, List.set_cons_zero, List.set_cons_succ]
          refine wpAnyH_done (by kernel_rfl) ?_ _
          go_wp2_with fail
          go_round
          case rel => exact ⟨j + 1, by omega, by go_num, (HS.out.1.trans HKW.out).trans (Kept.below K3.out), HTW.out.below K3.out⟩
          case measure => simp [intOf]; omega
        · have hjI : (m : Int) ≤ (j : Int) := by omega
          go_wp2_with fail
          refine (alive_any _).mono ?_
          rintro e w8 ⟨rfl, hb8⟩
          have HB8 : Hid (Below w.heap.size w w8) := Crc.Kept.toBelow HB1.out (HKF.out.trans (Kept.below hb8)) (Nat.le_refl _)
          clear hb8
          go_wp2_with fail
          go_ret
          exact ⟨rfl, HB8.out⟩
end Go.Proofs.Ythbhdbjjobfchaa
end

section
/-
  Records that came in, opened.
-/
namespace Go.Proofs.Ythbhdbjjobfchaa
open Go.RowKit Go.ChangeShapes Go.WideShapes

theorem mapM_each {α β : Type} {f : α → Option β} : ∀ (L : List α) (ys : List β), L.mapM f = some ys → ∀ i ∈ L, ∃ y, f i = some y
  | [], _, _, i, hi => by simp at hi
  | a :: L, ys, h, i, hi => by
    rw [List.mapM_cons] at h
    simp only [bind, Option.bind_eq_some_iff, pure, Option.some.injEq] at h
    obtain ⟨y, hy, zs, hzs, _⟩ := h
    rcases List.mem_cons.1 hi with rfl | hi
    · exact ⟨y, hy⟩
    · exact mapM_each L zs hzs i hi

section
variable {H : Type} {enc : TypeId × Value → H} {P : Program} {W : World} {base : Nat} {sp : Nat → Bool} {held : Bool} {t e : TypeId} {n : Nat} {q : IntKind}
/-- The cells of an array of integers that came in. -/
theorem arr_ints (hu : P.underlying t = some (.array n e)) (he : P.underlying e = some (.int q)) (h1 : P.cellsOf e = 1) {fuel : Nat} {cs : List Value} {x : DataW H × List MemPlace} (hl : cs.length = n)
    (h : DataW.trod enc P W base sp held fuel t cs = some x) : ∃ zs : List Int, cs = zs.map (fun z => Value.int q z) ∧ zs.length = n ∧ ∀ z ∈ zs, (Lit.int q z).wf = true := by
  cases fuel with
  | zero => simp [DataW.trod] at h
  | succ m =>
    rw [DataW.trod_step] at h
    unfold DataW.trodStep at h
    simp only [hu] at h
    split at h
    · simp only [Option.map_eq_some_iff] at h
      obtain ⟨ys, hy, _⟩ := h
      have hE : ∀ i, i < n → ∃ z, cs[i]? = some (.int q z) ∧ (Lit.int q z).wf = true := fun i hi => by
        obtain ⟨y, hy⟩ := mapM_each _ ys hy i (List.mem_range.2 hi)
        obtain ⟨a, ea, _, wa⟩ := DataW.trod_int he hy
        rw [h1, Nat.mul_one] at ea
        refine ⟨a, ?_, wa⟩
        have h := congrArg (fun l : List Value => l[0]?) ea
        simpa [List.getElem?_take, List.getElem?_drop] using h
      refine ⟨cs.map intOf, ?_, by simpa using hl, ?_⟩
      · apply List.ext_getElem?
        intro i
        by_cases hi : i < n
        · obtain ⟨z, hz, _⟩ := hE i hi
          simp [hz, intOf]
        · have : cs[i]? = none := List.getElem?_eq_none (by omega)
          simp [this]
      · intro z hz
        obtain ⟨x, hx, rfl⟩ := List.mem_map.1 hz
        obtain ⟨i, hi, rfl⟩ := List.getElem_of_mem hx
        obtain ⟨z, hz, hw⟩ := hE i (by omega)
        rw [List.getElem?_eq_getElem hi] at hz
        simp only [Option.some.injEq] at hz
        rw [hz]
        exact hw
    · simp at h
end

/-- A slice of bytes, as it came in. -/
def InRow (W : World) (a : Option Addr) (l c : Nat) : Prop :=
  (a = none ∧ l = 0 ∧ c = 0) ∨ ∃ (y : Addr) (zs : List Int), a = some y ∧ l ≤ c ∧ c ≤ maxLen ∧ zs.length = c ∧ (∀ i, i < zs.length → W.cell? (y.add i) = some (.int .u8 (zs.getD i 0))) ∧ ∀ n ∈ zs, (Lit.int .u8 n).wf = true

theorem InRow.le {W : World} {a : Option Addr} {l c : Nat} (h : InRow W a l c) : l ≤ 9223372036854775807 := by
  rcases h with ⟨_, rfl, _⟩ | ⟨_, _, _, h1, h2, _⟩
  · omega
  · unfold maxLen at h2; omega

theorem spot_none {w : World} {x : Addr} {v : Value} (c0 : w.cell? (x.add 0) = some v) : x.spot = none := by
  have e : x.add 0 = x := rfl
  rw [e] at c0
  unfold World.cell? at c0
  split at c0
  · split at c0
    · cases c0
    · rename_i hs; simpa using hs
  · cases c0

theorem addr_plus (g o i : Nat) : (⟨g, o, none⟩ : Addr).add i = ⟨g, o + i, none⟩ := by unfold Addr.add; split <;> simp_all

theorem u8_wf {y : Int} (h : (Lit.int .u8 y).wf = true) : 0 ≤ y ∧ y ≤ 255 := by
  have hmin : IntKind.u8.min = 0 := rfl
  have hmax : IntKind.u8.max = 255 := rfl
  simp only [Lit.wf, Bool.and_eq_true, decide_eq_true_eq] at h
  omega

theorem i64_wf {y : Int} (h : (Lit.int .i64 y).wf = true) : -9223372036854775808 ≤ y ∧ y ≤ 9223372036854775807 := by
  have hmin : IntKind.i64.min = -9223372036854775808 := rfl
  have hmax : IntKind.i64.max = 9223372036854775807 := rfl
  simp only [Lit.wf, Bool.and_eq_true, decide_eq_true_eq] at h
  omega
theorem u32_wf {y : Int} (h : (Lit.int .u32 y).wf = true) : 0 ≤ y ∧ y ≤ 4294967295 := by
  have hmin : IntKind.u32.min = 0 := rfl
  have hmax : IntKind.u32.max = 4294967295 := rfl
  simp only [Lit.wf, Bool.and_eq_true, decide_eq_true_eq] at h
  omega

theorem InRow.bytes {w : World} {a : Option Addr} {len cap : Nat} (h : InRow w a len cap) (hl : len ≤ 140737488355328) : ∃ bs : List Int, bs.length = len ∧ Tlv.BySl 0 w.heap.size w (.slice a len cap) bs := by
  rcases h with ⟨rfl, rfl, rfl⟩ | ⟨x, zs, rfl, h1, h2, h3, h4, h5⟩
  · exact ⟨[], rfl, Tlv.BySl.none _ _ _⟩
  · have hlen : (zs.take len).length = len := List.length_take_of_le (by omega)
    refine ⟨zs.take len, hlen, _, cap, by rw [hlen], by rw [hlen]; exact h1, h2, by simp, by rw [hlen]; omega, fun y hy => u8_wf (h5 y (List.mem_of_mem_take hy)), fun hne => ?_⟩
    have hpos : 0 < len := by have := List.length_pos_iff.2 hne; omega
    have c0 := h4 0 (by omega)
    have hx := spot_none c0
    obtain ⟨b, o, s⟩ := x
    simp only at hx
    subst hx
    refine ⟨b, o, rfl, Nat.zero_le _, World.block_lt_of_cell? w _ c0, fun i hi => ?_⟩
    have := h4 i (by omega)
    rw [addr_plus] at this
    rw [this]
    rw [hlen] at hi
    simp [hi]

set_option maxRecDepth 100000 in
/-- A record's cells that came in. -/
theorem rec_cells {H : Type} {enc : TypeId × Value → H} {W : World} {fuel : Nat} {cs : List Value} {x : DataW H × List MemPlace} (h : DataW.trod enc Try.prog W 0 (fun _ => true) true fuel 26 cs = some x) :
    ∃ (k : Int) (nm : List Int) (a : Option Addr) (l c : Nat), cs = recA k nm (.slice a l c) ∧ nm.length = 32 ∧ (∀ y ∈ nm, 0 ≤ y ∧ y ≤ 255) ∧ InRow W a l c := by
  obtain ⟨y0, y1, y2, n, _, hl, h0, h1, h2⟩ := Go.Deep.trod_struct3 Try.underlying26 h
  have e26 : Try.prog.cellsOf 26 = 34 := by kernel_rfl
  have e3 : Try.prog.cellsOf 3 = 1 := by kernel_rfl
  have e23 : Try.prog.cellsOf 23 = 32 := by kernel_rfl
  have e24 : Try.prog.cellsOf 24 = 1 := by kernel_rfl
  rw [e26] at hl
  simp only [e3, e23, e24] at h0 h1 h2
  obtain ⟨k, hk, _, _⟩ := DataW.trod_int Try.underlying3 h0
  obtain ⟨nm, hnm, hnl, hwf⟩ := arr_ints Try.underlying23 Try.underlying5 (by kernel_rfl) (by simp; omega) h1
  have split : cs = cs.take 1 ++ ((cs.drop 1).take 32 ++ (cs.drop 33).take 1) := by
    have e1 : (cs.drop 33).take 1 = cs.drop 33 := List.take_of_length_le (by simp; omega)
    have e2 : (cs.drop 1).take 32 ++ cs.drop 33 = cs.drop 1 := by
      have h : (cs.drop 1).drop 32 = cs.drop 33 := by rw [List.drop_drop]
      rw [← h, List.take_append_drop]
    rw [e1, e2, List.take_append_drop]
  simp only [List.drop_zero] at hk
  rcases open_ints Try.underlying24 Try.underlying5 (by kernel_rfl) h2 with ⟨hcs, _⟩ | ⟨y, l, c, zs, hcs, _, hlc, hmx, hz, _, hcell, hwz⟩
  · refine ⟨k, nm, none, 0, 0, ?_, hnl, fun y hy => u8_wf (hwf y hy), .inl ⟨rfl, rfl, rfl⟩⟩
    rw [split, hk, hnm, hcs]
    rfl
  · refine ⟨k, nm, some y, l, c, ?_, hnl, fun y hy => u8_wf (hwf y hy), .inr ⟨y, zs, rfl, hlc, hmx, by simpa using hz, hcell, hwz⟩⟩
    rw [split, hk, hnm, hcs]
    rfl

set_option maxRecDepth 100000 in
/-- A record that came in. -/
theorem open_rec {H : Type} {enc : TypeId × Value → H} {W : World} {r : Reach} {base : Nat} {v : Value} {d : DataW H} {p : List MemPlace} (hv : Value.okWide Try.prog W r base 26 v) (h : DataW.Trod enc Try.prog W 0 (fun _ => true) true 26 v d p) :
    ∃ (k : Int) (nm : List Int) (a : Option Addr) (l c : Nat), v = .agg (recA k nm (.slice a l c)).toArray ∧ nm.length = 32 ∧ (∀ y ∈ nm, 0 ≤ y ∧ y ≤ 255) ∧ InRow W a l c := by
  obtain ⟨cs, rfl, hsz⟩ := okWide_struct Try.underlying26 hv
  obtain ⟨fuel, hf⟩ := h
  obtain ⟨k, nm, a, l, c, hcs, h1, h2, h3⟩ := rec_cells hf
  refine ⟨k, nm, a, l, c, ?_, h1, h2, h3⟩
  have : cs.toList = recA k nm (.slice a l c) := hcs
  rw [← this]

end Go.Proofs.Ythbhdbjjobfchaa
end

section
/-
  A list of records that came in, opened.
-/
namespace Go.Proofs.Ythbhdbjjobfchaa
open Go.RowKit Go.ChangeShapes Go.WideShapes

theorem mapM_get {α β : Type} {f : α → Option β} : ∀ (L : List α) (ys : List β), L.mapM f = some ys → ∀ i : Nat, ys[i]? = (L[i]?).bind f
  | [], ys, h, i => by
    simp only [List.mapM_nil, pure, Option.some.injEq] at h
    subst h
    simp
  | a :: L, ys, h, i => by
    rw [List.mapM_cons] at h
    simp only [bind, Option.bind_eq_some_iff, pure, Option.some.injEq] at h
    obtain ⟨y, hy, zs, hzs, rfl⟩ := h
    cases i with
    | zero => simp [hy]
    | succ i => simpa using mapM_get L zs hzs i

theorem cells_get {w : World} {base n : Nat} {a : Addr} {cs : List Value} (h : w.cells? base a n = some cs) (i : Nat) (hi : i < n) : w.cell? (a.add i) = cs[i]? := by
  unfold World.cells? at h
  split at h
  · have := mapM_get _ _ h i
    rw [List.getElem?_range hi] at this
    exact this.symm
  · cases h

/-- One of the list: kind, name, and the body's slice. -/
abbrev Raw : Type := Int × List Int × Option Addr × Nat × Nat
def rawC (t : Raw) : List Value := recA t.1 t.2.1 (.slice t.2.2.1 t.2.2.2.1 t.2.2.2.2)

set_option maxRecDepth 100000 in
theorem recs_of {H : Type} {enc : TypeId × Value → H} {W : World} {a0 : Option Addr} {len cap fuel : Nat} {x : DataW H × List MemPlace}
    (h : DataW.trod enc Try.prog W 0 (fun _ => true) true fuel 28 [.slice a0 len cap] = some x) :
    len ≤ maxLen ∧ ∃ ts : List Raw, ts.length = len ∧ ∀ j t, ts[j]? = some t → (t.2.1.length = 32 ∧ ∀ y ∈ t.2.1, 0 ≤ y ∧ y ≤ 255) ∧ InRow W t.2.2.1 t.2.2.2.1 t.2.2.2.2 ∧
      ∃ g o, a0 = some ⟨g, o, none⟩ ∧ g < W.heap.size ∧ W.rangeAt g (o + j * 34) (rawC t) := by
  rcases Go.Deep.open_slice Try.underlying28 h with ⟨hcs, _⟩ | ⟨a, l, c, m, n, D, Pl, hcs, _, hl, hm, hmm, _, hr⟩
  · simp only [List.cons.injEq, Value.slice.injEq, and_true] at hcs
    obtain ⟨rfl, rfl, rfl⟩ := hcs
    exact ⟨Nat.zero_le _, [], rfl, fun j t h => by simp at h⟩
  · simp only [List.cons.injEq, Value.slice.injEq, and_true] at hcs
    obtain ⟨rfl, rfl, rfl⟩ := hcs
    simp only [if_true] at hmm
    subst hmm
    have e26 : Try.prog.cellsOf 26 = 34 := by kernel_rfl
    rw [e26] at hr
    refine ⟨by omega, ?_⟩
    have each : ∀ r, r < len → ∃ t : Raw, (t.2.1.length = 32 ∧ ∀ y ∈ t.2.1, 0 ≤ y ∧ y ≤ 255) ∧ InRow W t.2.2.1 t.2.2.2.1 t.2.2.2.2 ∧ ∀ i, i < 34 → W.cell? ((a.add (r * 34)).add i) = (rawC t)[i]? := by
      intro r hr1
      obtain ⟨cs', h1, h2⟩ := hr r (by omega)
      obtain ⟨k, nm, b, l', c', rfl, w1, w2, hb⟩ := rec_cells h2
      exact ⟨(k, nm, b, l', c'), ⟨w1, w2⟩, hb, fun i hi => cells_get h1 i hi⟩
    obtain ⟨y, hy⟩ := Go.Deep.choose_lt each
    refine ⟨(List.range len).map y, by simp, fun j t hj => ?_⟩
    have hjl : j < len := by
      have := (List.getElem?_eq_some_iff.1 hj).1
      simpa using this
    simp only [List.getElem?_map, List.getElem?_range hjl, Option.map_some, Option.some.injEq] at hj
    subst hj
    obtain ⟨h1, h2, h3⟩ := hy j hjl
    refine ⟨h1, h2, ?_⟩
    have h00 := (hy 0 (by omega)).2.2 0 (by omega)
    have ha : a.spot = none := by
      rw [Nat.zero_mul] at h00
      have e : (a.add 0) = a := rfl
      rw [e] at h00
      exact spot_none h00
    obtain ⟨b, o, s⟩ := a
    simp only at ha
    subst ha
    refine ⟨b, o, rfl, ?_, fun i v hv => ?_⟩
    · rw [addr_plus, addr_plus] at h00
      exact World.block_lt_of_cell? W _ h00
    · have hi : i < 34 := by
        have := (List.getElem?_eq_some_iff.1 hv).1
        rw [rawC, recA_length _ _ _ h1.1] at this
        exact this
      have h := h3 i hi
      rw [addr_plus, addr_plus, hv] at h
      exact h

/-- The same list, where no body is long. -/
theorem els_of {W : World} {a0 : Option Addr} {ts : List Raw} (h : ∀ j t, ts[j]? = some t → (t.2.1.length = 32 ∧ ∀ y ∈ t.2.1, 0 ≤ y ∧ y ≤ 255) ∧ InRow W t.2.2.1 t.2.2.2.1 t.2.2.2.2 ∧ ∃ g o, a0 = some ⟨g, o, none⟩ ∧ g < W.heap.size ∧ W.rangeAt g (o + j * 34) (rawC t))
    (hs : ∀ t ∈ ts, t.2.2.2.1 ≤ 140737488355328) :
    ∃ ys : List El, ys.length = ts.length ∧ (ys.map fun y => y.1.2.2.length) = (ts.map fun t => t.2.2.2.1) ∧ (∀ y ∈ ys, elOk y) ∧ (∀ j y, ys[j]? = some y → ∃ g o, a0 = some ⟨g, o, none⟩ ∧ g < W.heap.size ∧ W.rangeAt g (o + j * 34) (elC y)) ∧ ∀ y ∈ ys, Tlv.BySl 0 W.heap.size W (elV y) y.1.2.2 := by
  have each : ∀ r, r < ts.length → ∃ bs : List Int, ∀ t, ts[r]? = some t → bs.length = t.2.2.2.1 ∧ Tlv.BySl 0 W.heap.size W (.slice t.2.2.1 t.2.2.2.1 t.2.2.2.2) bs := fun r hr => by
    obtain ⟨bs, b1, b2⟩ := (h r ts[r] (List.getElem?_eq_getElem hr)).2.1.bytes (hs _ (List.getElem_mem hr))
    refine ⟨bs, fun t ht => ?_⟩
    rw [List.getElem?_eq_getElem hr, Option.some.injEq] at ht
    subst ht
    exact ⟨b1, b2⟩
  obtain ⟨f, hf⟩ := Go.Deep.choose_lt each
  have key : ∀ (j : Nat) (y : El), ((List.range ts.length).map fun j => (((ts.getD j (0, [], none, 0, 0)).1, (ts.getD j (0, [], none, 0, 0)).2.1, f j), (ts.getD j (0, [], none, 0, 0)).2.2.1, (ts.getD j (0, [], none, 0, 0)).2.2.2.2))[j]? = some y →
      ∃ t, ts[j]? = some t ∧ y = ((t.1, t.2.1, f j), t.2.2.1, t.2.2.2.2) ∧ (f j).length = t.2.2.2.1 ∧ Tlv.BySl 0 W.heap.size W (.slice t.2.2.1 t.2.2.2.1 t.2.2.2.2) (f j) := fun j y hy => by
    have hjl : j < ts.length := by
      have := (List.getElem?_eq_some_iff.1 hy).1
      simpa using this
    simp only [List.getElem?_map, List.getElem?_range hjl, Option.map_some, Option.some.injEq] at hy
    subst hy
    refine ⟨ts[j], List.getElem?_eq_getElem hjl, ?_, hf j hjl _ (List.getElem?_eq_getElem hjl)⟩
    rw [List.getD_eq_getElem?_getD, List.getElem?_eq_getElem hjl]
    rfl
  refine ⟨(List.range ts.length).map fun j => (((ts.getD j (0, [], none, 0, 0)).1, (ts.getD j (0, [], none, 0, 0)).2.1, f j), (ts.getD j (0, [], none, 0, 0)).2.2.1, (ts.getD j (0, [], none, 0, 0)).2.2.2.2), by simp, ?_, fun y hy => ?_, fun j y hj => ?_, fun y hy => ?_⟩
  · apply List.ext_getElem?
    intro j
    by_cases hjl : j < ts.length
    · obtain ⟨b1, _⟩ := hf j hjl _ (List.getElem?_eq_getElem hjl)
      simp [hjl, b1]
    · rw [List.getElem?_eq_none (by simp; omega), List.getElem?_eq_none (by simp; omega)]
  · obtain ⟨j, hj⟩ := List.mem_iff_getElem?.1 hy
    obtain ⟨t, ht, rfl, _⟩ := key j y hj
    exact (h j t ht).1
  · obtain ⟨t, ht, rfl, e, _⟩ := key j y hj
    obtain ⟨g, o, h1, h2, h3⟩ := (h j t ht).2.2
    refine ⟨g, o, h1, h2, ?_⟩
    have : elC ((t.1, t.2.1, f j), t.2.2.1, t.2.2.2.2) = rawC t := by
      show recA t.1 t.2.1 (.slice t.2.2.1 (f j).length t.2.2.2.2) = _
      rw [e]
      rfl
    rw [this]
    exact h3
  · obtain ⟨j, hj⟩ := List.mem_iff_getElem?.1 hy
    obtain ⟨t, ht, rfl, e, hb⟩ := key j y hj
    show Tlv.BySl 0 W.heap.size W (.slice t.2.2.1 (f j).length t.2.2.2.2) (f j)
    rw [e]
    exact hb

end Go.Proofs.Ythbhdbjjobfchaa
end
