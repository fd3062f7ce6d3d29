/- Of the proof: the texts SgWout, SgPacks, SgNums, SgRFind, SgNil, SgAlive, one behind the other. -/
import Derived.Test.YtampnikdmgojjaaGreatB16
import Derived.Test.YtampnikdmgojjaaGreatB17
import Derived.BigQuiet
import Derived.Test.YtampnikdmgojjaaGreatB8
import Derived.Test.YtampnikdmgojjaaGreatB7
import Derived.Test.YtampnikdmgojjaaGreatB9
import Derived.Test.YtampnikdmgojjaaGreatB15
import Derived.Test.YtampnikdmgojjaaGreatB14
section
/-
  The program's Without.
-/
namespace Go.Proofs.YtampnikdmgojjaaGreat.Sg
open Go.RowKit Go.Maps
open Sim (hid Kp No)

set_option maxHeartbeats 4000000 in
set_option maxRecDepth 100000 in
theorem wout_any (w : World) (v vp : Value) (l : List Ent) (zs : List Int) (P P' : Nat → Prop) (hv : EV P w v l) (hp : IV P' w vp zs) (hl : l.length ≤ 1000) (hm : zs.length ≤ 1000) (hz : Wf zs) (hw : Wf (l.map (·.2.1))) :
    Calls Tryz.prog 23 #[v, vp] w fun e w' => ∃ r, e = .returned r ∧ Mine w w' r (wout l zs) := by
  have HV := hid hv
  have HP := hid hp
  have HOK := hid hv.ok
  have HZ := hid hz
  have HW := hid hw
  clear hz hw
  obtain ⟨a, c, e, _⟩ := hv
  subst e
  obtain ⟨a2, c2, e, _⟩ := hp
  subst e
  obtain ⟨n, hn⟩ : ∃ n, l.length = n := ⟨_, rfl⟩
  obtain ⟨m, hmm⟩ : ∃ m, zs.length = m := ⟨_, rfl⟩
  have HN := hid hn
  have HMM := hid hmm
  rw [hn] at HV hl ⊢
  rw [hmm] at HP hm ⊢
  clear hn hmm
  have hmk := @run_makeMap Tryz.prog
  obtain ⟨b, hb⟩ : ∃ b, w.heap.size = b := ⟨_, rfl⟩
  have HB := hid hb
  have HS0 : Hid (SetAt (w.alloc (.map #[] 0)) b []) := by rw [Hid, ← hb]; exact SetAt.new w
  have HK0 : Hid (Kp No w (w.alloc (.map #[] 0))) := (Kp.refl No w).alloc _
  go_enter Tryz.func23, Tryz.ntmps23
  go_wp2_with fail
  generalize w.alloc (.map #[] 0) = W0 at *
  clear hb hmk
  go_loopw [16] (fun v16 wr => ∃ (k : Nat), v16 = .int .i64 (k : Int) ∧ k ≤ m ∧ Hid (SetAt wr b (zs.take k)) ∧ Hid (Kp No w wr)) (fun v16 _ => m - (intOf v16).toNat)
  case atStart => exact ⟨0, rfl, Nat.zero_le _, by rw [List.take_zero]; exact HS0.out, HK0.out⟩
  case round =>
    obtain ⟨k, rfl, hkm, HS, HK⟩ := hrel
    obtain ⟨V, rfl⟩ : ∃ V, V = wr := ⟨_, rfl⟩
    by_cases hk : k < m
    · have hkI : (k : Int) < (m : Int) := by omega
      have hwk2 : IntKind.i64.wrap ((k : Int) + 1) = ((k + 1 : Nat) : Int) := by rw [IntKind.wrap_i64]; omega
      obtain ⟨z, hz⟩ : ∃ z, zs[k]? = some z := ⟨_, List.getElem?_eq_getElem (by rw [HMM.out]; exact hk)⟩
      obtain ⟨g2, o2, rfl, hg2, hc2⟩ := (HP.out.kept HK.out).row (by intro e; have := HMM.out; rw [e] at this; simp at this; omega)
      have cz := hc2 k z hz
      have HZ1 := hid (HZ.out z (List.mem_of_getElem? hz))
      have HNX : Hid (zs.take (k + 1) = zs.take k ++ [z]) := by rw [Hid, List.take_add_one, hz]; rfl
      have HL : Hid ((zs.take k).length ≤ 1000000) := by rw [Hid, List.length_take]; omega
      clear hc2 hz
      go_wp2_with (first
        | (refine wp_put _ (by rfl) _ _ _ (by rfl) b (zs.take k) z (by rfl) (by rfl) (by rfl) HS.out HZ1.out HL.out ?_; intro w1 h1 k1; have H1 := hid h1; have K1 := hid k1; clear h1 k1))
      go_round
      case rel => exact ⟨k + 1, by first | rfl | go_num, by omega, by rw [HNX.out]; exact H1.out, HK.out.trans K1.out (fun x hx => .inr (by rw [hx, ← HB.out]; exact Nat.le_refl _))⟩
      case measure => simp [intOf]; omega
    · have hkI : ¬ (k : Int) < (m : Int) := by omega
      have HSA : Hid (SetAt V b zs) := by
        have := HS.out
        rwa [List.take_of_length_le (by rw [HMM.out]; omega)] at this
      go_wp2_with fail
      go_loopw [8, 26] (fun v8 v26 wr => ∃ (i j : Nat) (ad : Option Addr) (cap : Nat), v8 = .slice ad j cap ∧ v26 = .int .i64 (i : Int) ∧ i ≤ n ∧ j ≤ i ∧ Hid ((wout (l.take i) zs).length = j) ∧ Hid (Mine V wr (.slice ad j cap) (wout (l.take i) zs))) (fun _ v26 _ => n - (intOf v26).toNat)
      case atStart => exact ⟨0, 0, none, 0, rfl, rfl, Nat.zero_le _, Nat.le_refl _, rfl, ⟨Sim.Row.nil _ _ _, by intro x hx; simp [Value.ownBlock] at hx, Kp.refl _ _⟩⟩
      case round =>
        obtain ⟨i, j, ad, cap, rfl, rfl, hin, hji, HJ, HR⟩ := hrel
        obtain ⟨U, rfl⟩ : ∃ U, U = wr := ⟨_, rfl⟩
        by_cases hlt : i < n
        · have hltI : (i : Int) < (n : Int) := by omega
          have hwk : IntKind.i64.wrap ((i : Int) + 1) = ((i + 1 : Nat) : Int) := by rw [IntKind.wrap_i64]; omega
          obtain ⟨e, he⟩ : ∃ e, l[i]? = some e := ⟨_, List.getElem?_eq_getElem (by rw [HN.out]; exact hlt)⟩
          obtain ⟨g, o, rfl, _, hr⟩ := ev_row ((HV.out.kept HK.out).kept HR.out.2.2) (by intro e; have := HN.out; rw [e] at this; simp at this; omega)
          have HEO := hid (HOK.out e (List.mem_of_getElem? he))
          have HWE := hid (HW.out e.2.1 (List.mem_map.2 ⟨e, List.mem_of_getElem? he, rfl⟩))
          have HRX := hid ((hr.2 i e he).2)
          have HTK := hid (wout_next (zs := zs) he)
          have HI := hid (inf HEO.out)
          have HO1 : Hid ((entC e).toArray.all (·.oneCell') = true) := all_oneCell_toArray (entC_one e)
          have HEB := hid (run_oneX HEO.out)
          have hcl : (entC e).length = 35 := entC_length HEO.out
          obtain ⟨nm, p, q, r⟩ := e
          have HCP : Hid ((entC (nm, p, q, r))[32]? = some (.int .i64 p)) := ent_at HEO.out 0
          simp only at HTK HWE
          obtain ⟨cx, hcx⟩ : ∃ cx, entC (nm, p, q, r) = cx := ⟨_, rfl⟩
          have HCX := hid hcx
          rw [hcx] at HRX HI HO1 HEB HCP hcl
          clear hr he hcx
          obtain ⟨y, hy⟩ : ∃ y, zs.contains p = y := ⟨_, rfl⟩
          have HY := hid hy
          clear hy
          rw [HY.out] at HTK
          cases y with
          | true =>
            have HT2 : Hid (wout (l.take (i + 1)) zs = wout (l.take i) zs) := by rw [Hid, HTK.out, if_pos rfl, List.append_nil]
            have HJ2 : Hid ((wout (l.take (i + 1)) zs).length = j) := by rw [HT2.out]; exact HJ.out
            go_wp2_with (first
              | (refine wpList_load_mid (by rfl) 64 _ (by rfl) g (o + i * 35) (by rfl) cx _ HRX.out Tryz.underlying64 rfl HI.out ?_)
              | (refine wpList_store_box (fun W => ∀ V, Kp No W V → V.rangeAt U.heap.size 0 cx ∧ Kp No U V) (by rfl) 64 _ _ (by rfl) U.heap.size 0 cx.toArray (by rfl) (by rfl) (thereE U _ _ _ (by rw [List.size_toArray, hcl]; exact Nat.le_refl _)) HI.out HO1.out (boxE U _ cx rfl hcl) ?_; intro W1 hW1; have HW1 := hid hW1; have cp : W1.cell? ⟨U.heap.size, 32, none⟩ = some (.int .i64 p) := (HW1.out W1 (Kp.refl _ _)).1 32 _ HCP.out; clear hW1)
              | (refine wp_has _ (by rfl) _ _ (by rfl) b zs p true (by rfl) (by rfl) (HSA.out.kp (HR.out.2.2.andNone (HW1.out W1 (Kp.refl _ _)).2) (fun x => x)) HWE.out HY.out ?_))
            have HKU : Hid (Kp No U (W1.alloc (.cells #[] 65))) := (HW1.out _ ((Kp.refl No W1).alloc _)).2
            have HR2 : Hid (Mine V (W1.alloc (.cells #[] 65)) (.slice ad j cap) (wout (l.take (i + 1)) zs)) := by rw [HT2.out]; exact ⟨HR.out.1.kept HKU.out, HR.out.2.1, HR.out.2.2.andNone HKU.out⟩
            go_round
            case rel => exact ⟨i + 1, j, ad, cap, rfl, by first | rfl | go_num, by omega, by omega, HJ2.out, HR2.out⟩
            case measure => simp [intOf]; omega
          | false =>
            have HT2 : Hid (wout (l.take (i + 1)) zs = wout (l.take i) zs ++ [(nm, p, q, r)]) := by rw [Hid, HTK.out]; rfl
            have HJ2 : Hid ((wout (l.take (i + 1)) zs).length = j + 1) := by rw [Hid, HT2.out, List.length_append, HJ.out]; rfl
            go_wp2_with (first
              | (refine wpList_load_mid (by rfl) 64 _ (by rfl) g (o + i * 35) (by rfl) cx _ HRX.out Tryz.underlying64 rfl HI.out ?_)
              | (refine wpList_store_box (fun W => ∀ V, Kp No W V → V.rangeAt U.heap.size 0 cx ∧ Kp No U V) (by rfl) 64 _ _ (by rfl) U.heap.size 0 cx.toArray (by rfl) (by rfl) (thereE U _ _ _ (by rw [List.size_toArray, hcl]; exact Nat.le_refl _)) HI.out HO1.out (boxE U _ cx rfl hcl) ?_; intro W1 hW1; have HW1 := hid hW1; have cp : W1.cell? ⟨U.heap.size, 32, none⟩ = some (.int .i64 p) := (HW1.out W1 (Kp.refl _ _)).1 32 _ HCP.out; clear hW1)
              | (refine wp_has _ (by rfl) _ _ (by rfl) b zs p false (by rfl) (by rfl) (HSA.out.kp (HR.out.2.2.andNone (HW1.out W1 (Kp.refl _ _)).2) (fun x => x)) HWE.out HY.out ?_; have HKU : Hid (Kp No U (W1.alloc (.cells #[] 65))) := (HW1.out _ ((Kp.refl No W1).alloc _)).2; have HRL : Hid ((W1.alloc (.cells #[] 65)).rangeAt U.heap.size 0 cx) := (HW1.out _ ((Kp.refl No W1).alloc _)).1; obtain ⟨ad2, cap2, w5, hap, hk5, hm5⟩ := next_E (e := (nm, p, q, r)) HR.out HJ.out HKU.out HEO.out (by omega) 30; rw [HCX.out] at hap; have HAP := hid hap; have HM5 := hid hm5; clear hap hk5 hm5)
              | (refine wpList_load_mid (by rfl) 64 _ (by rfl) U.heap.size 0 (by rfl) cx _ HRL.out Tryz.underlying64 rfl HI.out ?_)
              | (refine wpList_valE (by rfl) (exec_sliceE 30 _ rfl (.agg cx.toArray) _ rfl (HEB.out _)) ?_)
              | (refine wpList_valE (by rfl) (exec_appE _ _ 30 rfl (.slice ad j cap) (.slice (some ⟨(W1.alloc (.cells #[] 65)).heap.size, 0, none⟩) 1 1) _ rfl rfl HAP.out) ?_))
            go_round
            case rel => exact ⟨i + 1, j + 1, ad2, cap2, rfl, by first | rfl | go_num, by omega, by omega, HJ2.out, by rw [HT2.out]; exact HM5.out⟩
            case measure => simp [intOf]; omega
        · have hltI : ¬ (i : Int) < (n : Int) := by omega
          have HF : Hid (Mine w U (.slice ad j cap) (wout l zs)) := by
            have := HR.out
            rw [List.take_of_length_le (by rw [HN.out]; omega)] at this
            exact ⟨this.1, fun x hx => Nat.le_trans HK.out.size (this.2.1 x hx), HK.out.andNone this.2.2⟩
          go_wp2_with fail
          go_ret
          exact ⟨_, rfl, HF.out⟩

end Go.Proofs.YtampnikdmgojjaaGreat.Sg
end

section
/-
  The program's Packs.
-/
namespace Go.Proofs.YtampnikdmgojjaaGreat.Sg
open Go.RowKit Go.Maps
open Sim (hid Kp No)

set_option maxHeartbeats 4000000 in
set_option maxRecDepth 100000 in
theorem packs_any (w : World) (v : Value) (l : List Ent) (P : Nat → Prop) (hv : EV P w v l) (hl : l.length ≤ 1000) (hw : Wf (l.map (·.2.1))) :
    Calls Tryz.prog 26 #[v] w fun e w' => PAns w w' l e := by
  have HV := hid hv
  have HOK := hid hv.ok
  have HW := hid hw
  clear hw
  obtain ⟨a, c, e, _⟩ := hv
  subst e
  have HSO : Hid (∀ (W : World) (b : Nat), SetAt W b (l.map (·.2.1)) → Calls Tryz.prog 48 #[.func (.func 69) #[] #[.pointer (some ⟨W.heap.size, 0, none⟩)]] (W.alloc (.cells #[.map (some b)] 115)) fun e w' => PAns W w' l e) := fun W b h => sorted_any W b l h hl
  have HKY : Hid (∀ (W : World) (b : Nat), Calls Tryz.prog 49 #[.map (some b)] W fun e w' => e = .returned (.func (.func 69) #[] #[.pointer (some ⟨W.heap.size, 0, none⟩)]) ∧ w' = W.alloc (.cells #[.map (some b)] 115)) := fun W b => keys_any (some b) W
  obtain ⟨n, hn⟩ : ∃ n, l.length = n := ⟨_, rfl⟩
  have HN := hid hn
  rw [hn] at HV hl ⊢
  clear hn
  have hmk := @run_makeMap Tryz.prog
  obtain ⟨b, hb⟩ : ∃ b, w.heap.size = b := ⟨_, rfl⟩
  have HB := hid hb
  have HS0 : Hid (SetAt (w.alloc (.map #[] 0)) b []) := by rw [Hid, ← hb]; exact SetAt.new w
  have HK0 : Hid (Kp No w (w.alloc (.map #[] 0))) := (Kp.refl No w).alloc _
  go_enter Tryz.func26, Tryz.ntmps26
  go_wp2_with fail
  generalize w.alloc (.map #[] 0) = W0 at *
  clear hb hmk
  go_loopw [9] (fun v9 wr => ∃ (i : Nat), v9 = .int .i64 (i : Int) ∧ i ≤ n ∧ Hid (SetAt wr b ((l.take i).map (·.2.1))) ∧ Hid (Kp No w wr)) (fun v9 _ => n - (intOf v9).toNat)
  case atStart => exact ⟨0, rfl, Nat.zero_le _, HS0.out, HK0.out⟩
  case round =>
    obtain ⟨i, rfl, hin, HS, HK⟩ := hrel
    obtain ⟨U, rfl⟩ : ∃ U, U = wr := ⟨_, rfl⟩
    by_cases hlt : i < n
    · have hltI : (i : Int) < (n : Int) := by omega
      have hwk : IntKind.i64.wrap ((i : Int) + 1) = ((i + 1 : Nat) : Int) := by rw [IntKind.wrap_i64]; omega
      obtain ⟨e, he⟩ : ∃ e, l[i]? = some e := ⟨_, List.getElem?_eq_getElem (by rw [HN.out]; exact hlt)⟩
      obtain ⟨g, o, rfl, _, hr⟩ := ev_row (HV.out.kept HK.out) (by intro e; have := HN.out; rw [e] at this; simp at this; omega)
      have HEO := hid (HOK.out e (List.mem_of_getElem? he))
      have HWE := hid (HW.out e.2.1 (List.mem_map.2 ⟨e, List.mem_of_getElem? he, rfl⟩))
      have HRX := hid ((hr.2 i e he).2)
      have HTK : Hid ((l.take (i + 1)).map (·.2.1) = (l.take i).map (·.2.1) ++ [e.2.1]) := by rw [Hid, List.take_add_one, he, List.map_append]; rfl
      have HI := hid (inf HEO.out)
      have HO1 : Hid ((entC e).toArray.all (·.oneCell') = true) := all_oneCell_toArray (entC_one e)
      have HL : Hid (((l.take i).map (·.2.1)).length ≤ 1000000) := by rw [Hid, List.length_map, List.length_take]; omega
      have hcl : (entC e).length = 35 := entC_length HEO.out
      obtain ⟨nm, p, q, r⟩ := e
      have HCP : Hid ((entC (nm, p, q, r))[32]? = some (.int .i64 p)) := ent_at HEO.out 0
      simp only at HTK HWE
      obtain ⟨cx, hcx⟩ : ∃ cx, entC (nm, p, q, r) = cx := ⟨_, rfl⟩
      rw [hcx] at HRX HI HO1 HCP hcl
      clear hr he hcx
      go_wp2_with (first
        | (refine wpList_load_mid (by rfl) 64 _ (by rfl) g (o + i * 35) (by rfl) cx _ HRX.out Tryz.underlying64 rfl HI.out ?_)
        | (refine wpList_store_box (fun W => ∀ V, Kp No W V → V.rangeAt U.heap.size 0 cx ∧ Kp No U V) (by rfl) 64 _ _ (by rfl) U.heap.size 0 cx.toArray (by rfl) (by rfl) (thereE U _ _ _ (by rw [List.size_toArray, hcl]; exact Nat.le_refl _)) HI.out HO1.out (boxE U _ cx rfl hcl) ?_; intro W1 hW1; have HW1 := hid hW1; have cp : W1.cell? ⟨U.heap.size, 32, none⟩ = some (.int .i64 p) := (HW1.out W1 (Kp.refl _ _)).1 32 _ HCP.out; have HKU : Hid (Kp No U W1) := (HW1.out W1 (Kp.refl _ _)).2; clear hW1)
        | (refine wp_put _ (by rfl) _ _ _ (by rfl) b _ p (by rfl) (by rfl) (by rfl) (HS.out.kp HKU.out (fun x => x)) HWE.out HL.out ?_; intro w1 h1 k1; have H1 := hid h1; have K1 := hid k1; clear h1 k1))
      go_round
      case rel => exact ⟨i + 1, by first | rfl | go_num, by omega, by rw [HTK.out]; exact H1.out, (HK.out.andNone HKU.out).trans K1.out (fun x hx => .inr (by rw [hx, ← HB.out]; exact Nat.le_refl _))⟩
      case measure => simp [intOf]; omega
    · have hltI : ¬ (i : Int) < (n : Int) := by omega
      have HSA : Hid (SetAt U b (l.map (·.2.1))) := by
        have := HS.out
        rwa [List.take_of_length_le (by rw [HN.out]; omega)] at this
      go_wp2_with fail
      refine (HKY.out _ _).mono ?_
      rintro e3 w3 ⟨rfl, rfl⟩
      go_wp2_with fail
      refine (HSO.out _ _ HSA.out).mono ?_
      rintro e4 w4 ⟨v4, out, rfl, h1, h2, h3⟩
      have H1 := hid h1
      have H2 := hid h2
      have H3 := hid h3
      clear h1 h2 h3
      go_wp2_with fail
      go_ret
      exact ⟨_, out, rfl, H1.out, H2.out, H3.out.1, fun x hx => Nat.le_trans HK.out.size (H3.out.2.1 x hx), HK.out.andNone H3.out.2.2⟩

end Go.Proofs.YtampnikdmgojjaaGreat.Sg
end

section
/-
  Two rows of numbers: are they the same? (the document's Numbers)
-/
namespace Go.Proofs.YtampnikdmgojjaaGreat.Sg
open Go.RowKit
open Sim (hid Kp No)

set_option maxHeartbeats 2000000 in
set_option maxRecDepth 100000 in
theorem nums_any (w : World) (v v' : Value) (a b : List Int) (P P' : Nat → Prop) (hv : IV P w v a) (hv' : IV P' w v' b) (hl : a.length ≤ 1000000) :
    Calls Tryz.prog 25 #[v, v'] w fun e w' => e = .returned (.bool (decide (a = b))) ∧ Kp No w w' := by
  have HV := hid hv
  have HV' := hid hv'
  obtain ⟨x1, c1, e1, _⟩ := hv
  obtain ⟨x2, c2, e2, _⟩ := hv'
  subst e1
  subst e2
  obtain ⟨n, hn⟩ : ∃ n, a.length = n := ⟨_, rfl⟩
  obtain ⟨m, hm⟩ : ∃ m, b.length = m := ⟨_, rfl⟩
  have HN := hid hn
  have HM := hid hm
  rw [hn] at HV hl ⊢
  rw [hm] at HV' ⊢
  clear hn hm
  obtain ⟨z, hz⟩ : ∃ z, decide (a = b) = z := ⟨_, rfl⟩
  rw [hz]
  have HZ := hid hz
  clear hz
  by_cases hnm : n = m
  · subst hnm
    go_enter Tryz.func25, Tryz.ntmps25
    go_wp2_with fail
    go_loopw [5] (fun v5 wr => ∃ (k : Nat), v5 = .int .i64 (k : Int) ∧ k ≤ n ∧ Hid (a.take k = b.take k) ∧ Hid (Kp No w wr)) (fun v5 _ => n - (intOf v5).toNat)
    case atStart => exact ⟨0, rfl, Nat.zero_le _, rfl, Kp.refl _ _⟩
    case round =>
      obtain ⟨k, rfl, hkn, HS, HK⟩ := hrel
      by_cases hlt : k < n
      · have hltI : (k : Int) < (n : Int) := by omega
        have hwk : IntKind.i64.wrap ((k : Int) + 1) = ((k + 1 : Nat) : Int) := by rw [IntKind.wrap_i64]; omega
        obtain ⟨x, hx⟩ : ∃ x, a[k]? = some x := ⟨_, List.getElem?_eq_getElem (by rw [HN.out]; exact hlt)⟩
        obtain ⟨y, hy⟩ : ∃ y, b[k]? = some y := ⟨_, List.getElem?_eq_getElem (by rw [HM.out]; exact hlt)⟩
        obtain ⟨g, o, rfl, hg, hc⟩ := (HV.out.kept HK.out).row (by intro e; have := HN.out; rw [e] at this; simp at this; omega)
        obtain ⟨g', o', rfl, hg', hc'⟩ := (HV'.out.kept HK.out).row (by intro e; have := HM.out; rw [e] at this; simp at this; omega)
        have cx := hc k x hx
        have cy := hc' k y hy
        have HGX := hid hx
        have HGY := hid hy
        clear hc hc' hx hy
        by_cases hxy : x = y
        · subst hxy
          have HN2 : Hid (a.take (k + 1) = b.take (k + 1)) := by
            rw [Hid, List.take_add_one, List.take_add_one, HS.out, HGX.out, HGY.out]
          go_wp2_with fail
          go_quiet (fail)
          go_wp2_with fail
          go_round
          case rel => exact ⟨k + 1, by first | rfl | go_num, by omega, HN2.out, HK.out.drewN _⟩
          case measure => simp [intOf]; omega
        · have HF : Hid (z = false) := by
            rw [Hid, ← HZ.out]
            refine decide_eq_false (fun e => hxy ?_)
            have := HGX.out
            rw [e, HGY.out] at this
            exact (Option.some.inj this).symm
          go_wp2_with fail
          go_quiet (fail)
          go_wp2_with fail
          go_ret
          exact ⟨by rw [HF.out]; rfl, HK.out.drewN _⟩
      · have hltI : ¬ (k : Int) < (n : Int) := by omega
        have HT : Hid (z = true) := by
          rw [Hid, ← HZ.out]
          refine decide_eq_true ?_
          have := HS.out
          rwa [List.take_of_length_le (by rw [HN.out]; omega), List.take_of_length_le (by rw [HM.out]; omega)] at this
        go_wp2_with fail
        go_ret
        exact ⟨by rw [HT.out]; rfl, HK.out⟩
  · have hnI : ¬ (n : Int) = (m : Int) := by omega
    have HF : Hid (z = false) := by
      rw [Hid, ← HZ.out]
      exact decide_eq_false (fun e => hnm (by rw [← HN.out, ← HM.out, e]))
    go_enter Tryz.func25, Tryz.ntmps25
    go_wp2_with fail
    go_ret
    exact ⟨by rw [HF.out]; rfl, Kp.refl _ _⟩

end Go.Proofs.YtampnikdmgojjaaGreat.Sg
end

section
/-
  The document's Find of entries.
-/
namespace Go.Proofs.YtampnikdmgojjaaGreat.Sg
open Go.RowKit
open Sim (hid Kp No)

theorem FAns.same {d : List Ent} {h : List Int} {e e' : Ending} (f : FAns d h e) (f' : FAns d h e') : e = e' := by
  obtain ⟨p, b, rfl, h1, h2, h3⟩ := f
  obtain ⟨p', b', rfl, h1', h2', h3'⟩ := f'
  have hb : b = b' := by
    rw [Bool.eq_iff_iff]
    exact h1.trans h1'.symm
  subst hb
  cases b with
  | true =>
    have hr := (h1.1 rfl).1.2.rise
    have q1 := hr.get (h2 rfl)
    have q2 := hr.get (h2' rfl)
    simp only at q1 q2
    rw [q1] at q2
    cases q2
    rfl
  | false => rw [h3 rfl, h3' rfl]
theorem set3_read {w : World} {b : Nat} {x0 x1 x2 u0 u1 u2 : Value} (h0 : w.cell? ⟨b, 0, none⟩ = some x0) (h1 : w.cell? ⟨b, 1, none⟩ = some x1) (h2 : w.cell? ⟨b, 2, none⟩ = some x2) :
    (((w.setCell ⟨b, 0, none⟩ u0).setCell ⟨b, 1, none⟩ u1).setCell ⟨b, 2, none⟩ u2).cell? ⟨b, 0, none⟩ = some u0 ∧ (((w.setCell ⟨b, 0, none⟩ u0).setCell ⟨b, 1, none⟩ u1).setCell ⟨b, 2, none⟩ u2).cell? ⟨b, 1, none⟩ = some u1 ∧ (((w.setCell ⟨b, 0, none⟩ u0).setCell ⟨b, 1, none⟩ u1).setCell ⟨b, 2, none⟩ u2).cell? ⟨b, 2, none⟩ = some u2 := by
  have n : ∀ i j : Nat, i ≠ j → (⟨b, i, none⟩ : Addr) ≠ ⟨b, j, none⟩ := fun i j h e => h (by cases e; rfl)
  refine ⟨?_, ?_, ?_⟩
  · rw [World.cell?_setCell_other _ _ _ _ (n 2 0 (by omega)), World.cell?_setCell_other _ _ _ _ (n 1 0 (by omega)), World.cell?_setCell_same _ _ _ h0]
  · rw [World.cell?_setCell_other _ _ _ _ (n 2 1 (by omega)), World.cell?_setCell_same _ _ _ (u := x1) (by rw [World.cell?_setCell_other _ _ _ _ (n 0 1 (by omega))]; exact h1)]
  · rw [World.cell?_setCell_same _ _ _ (u := x2) (by rw [World.cell?_setCell_other _ _ _ _ (n 1 2 (by omega)), World.cell?_setCell_other _ _ _ _ (n 0 2 (by omega))]; exact h2)]

set_option maxHeartbeats 4000000 in
set_option maxRecDepth 100000 in
theorem rfind_any (w : World) (v : Value) (d : List Ent) (P : Nat → Prop) (h : List Int) (hv : EV P w v d) (hl : d.length ≤ 1000000) (hh : h.length = 32) (hb : ∀ x ∈ h, 0 ≤ x ∧ x ≤ 255) :
    Calls Tryz.prog 20 #[v, .agg (b8 h).toArray] w fun e w' => FAns d h e ∧ Kp No w w' := by
  have HV := hid hv
  have HHO := hid (And.intro hh hb)
  have HI2 : Hid ((Tryz.prog.info? 46).map (·.size) = some (b8 h).length) := by rw [Hid, b8_length, hh]; exact infH
  obtain ⟨a, c, e, _⟩ := hv
  subst e
  obtain ⟨n, hn⟩ : ∃ n, d.length = n := ⟨_, rfl⟩
  have HN := hid hn
  rw [hn] at HV hl ⊢
  obtain ⟨bh, hbh⟩ : ∃ x, b8 h = x := ⟨_, rfl⟩
  have HBH := hid hbh
  rw [hbh] at HI2 ⊢
  clear hn hbh hh hb
  obtain ⟨W0, hW0⟩ : ∃ W0, (w.alloc (.cells bh.toArray 46)).alloc (.cells #[.int .i64 0, .int .i64 0, .int .i64 0] 52) = W0 := ⟨_, rfl⟩
  have HK0 : Hid (Kp No w W0) := by rw [← hW0]; exact ((Kp.refl No w).alloc _).alloc _
  have hz0 : W0.heap.size = w.heap.size + 2 := by rw [← hW0]; simp
  have HR3 : Hid (∀ V, Kp No W0 V → V.rangeAt w.heap.size 0 bh) := fun V hV j u hu => (hV.cell (p := ⟨w.heap.size, _, none⟩) (by simp; omega) (fun x => x)).trans (by
    rw [← hW0, World.cell?_alloc_lt _ _ _ (by simp), World.cell?_alloc_at _ _ _ _ rfl]
    simpa using hu)
  have HR4 : Hid (∀ V, Kp No W0 V → (∀ j, j < 3 → V.cell? ⟨w.heap.size + 1, j, none⟩ = some (.int .i64 0)) ∧ (∀ o, V.frozen? ⟨w.heap.size + 1, o, none⟩ = false) ∧ w.heap.size + 1 < V.heap.size) := fun V hV => by
    have hs := hV.size
    refine ⟨fun j hj => (hV.cell (p := ⟨w.heap.size + 1, j, none⟩) (by simp; omega) (fun x => x)).trans ?_, fun o => (hV.frozen (p := ⟨w.heap.size + 1, o, none⟩) (by simp; omega) (fun x => x)).trans ?_, by omega⟩
    · rw [← hW0, World.cell?_alloc_at _ _ _ _ (by simp)]
      match j, hj with
      | 0, _ => rfl
      | 1, _ => rfl
      | 2, _ => rfl
    · rw [← hW0, World.frozen?_alloc_at _ _ _ _ (by simp)]
  have HRT := hid (rright_any W0 _ d P (HV.out.kept HK0.out) (by rw [HN.out]; exact hl))
  clear hz0
  go_enter Tryz.func20, Tryz.ntmps20
  go_wp2_with fail
  clear hW0
  refine HRT.out.mono ?_
  rintro e w1 ⟨⟨rb, rfl, hrb⟩, hk1⟩
  have HK1 := hid hk1
  have HRB := hid hrb
  clear hrb hk1
  cases rb with
  | false =>
    obtain ⟨q4, f4, z4⟩ := HR4.out w1 HK1.out
    have e0 := q4 0 (by omega)
    have e1 := q4 1 (by omega)
    have e2 := q4 2 (by omega)
    have HNO : Hid (¬ (RightP d ∧ ∃ y ∈ d, y.1 = h)) := fun hx => by have := HRB.out.2 hx.1; cases this
    clear q4
    go_wp2_with fail
    obtain ⟨s0, s1, s2⟩ := set3_read (u0 := .int .i64 0) (u1 := .int .i64 0) (u2 := .int .i64 0) e0 e1 e2
    refine bodyPost_ret (v := .tuple #[.agg #[.int .i64 0, .int .i64 0, .int .i64 0], .bool false]) (by simp [results, Tryz.results20, go_sem, s0, s1, s2]) rfl ⟨FAns.no HNO.out, ?_⟩
    exact ((((HK0.out.andNone HK1.out).setCell (p := ⟨w.heap.size + 1, 0, none⟩) (.inr (by simp)) _).setCell (p := ⟨w.heap.size + 1, 1, none⟩) (.inr (by simp)) _).setCell (p := ⟨w.heap.size + 1, 2, none⟩) (.inr (by simp)) _)
  | true =>
    have HRP := hid (HRB.out.1 rfl)
    go_wp2_with fail
    go_loopw [6] (fun v6 wr => ∃ (k : Nat), v6 = .int .i64 (k : Int) ∧ k ≤ n ∧ Hid (∀ y ∈ d.take k, y.1 ≠ h) ∧ Hid (Kp No W0 wr)) (fun v6 _ => n - (intOf v6).toNat)
    case atStart => exact ⟨0, rfl, Nat.zero_le _, by intro y hy; simp at hy, HK1.out⟩
    case round =>
      obtain ⟨k, rfl, hkn, HS, HK⟩ := hrel
      obtain ⟨q4, f4, z4⟩ := HR4.out wr HK.out
      have e0 := q4 0 (by omega)
      have e1 := q4 1 (by omega)
      have e2 := q4 2 (by omega)
      clear q4
      by_cases hlt : k < n
      · have hltI : (k : Int) < (n : Int) := by omega
        have hwk : IntKind.i64.wrap ((k : Int) + 1) = ((k + 1 : Nat) : Int) := by rw [IntKind.wrap_i64]; omega
        obtain ⟨y, hy⟩ : ∃ y, d[k]? = some y := ⟨_, List.getElem?_eq_getElem (by rw [HN.out]; exact hlt)⟩
        obtain ⟨g, o, rfl, _, hr⟩ := ev_row (HV.out.kept (HK0.out.andNone HK.out)) (by intro e; have := HN.out; rw [e] at this; simp at this; omega)
        have hgw : g < wr.heap.size := hr.1
        obtain ⟨hyo, hyr⟩ := hr.2 k y hy
        obtain ⟨nm, p, q, r⟩ := y
        have HLX : Hid (∀ W, Kp No wr W → W.rangeAt g (o + k * 35) (b8 nm)) := fun W hW => rng_name ((hr.kp hW (fun x => x)).2 k _ hy).2
        have HLY : Hid (∀ W, Kp No wr W → W.rangeAt w.heap.size 0 bh) := fun W hW => HR3.out W (HK.out.andNone hW)
        have HI1 : Hid ((Tryz.prog.info? 46).map (·.size) = some (b8 nm).length) := by rw [Hid, b8_length, hyo.1]; exact infH
        have hpl := rng_place hyo hyr
        have c0 : wr.cell? ⟨g, o + k * 35 + 32, none⟩ = some (.int .i64 p) := hpl 0 _ rfl
        have c1 : wr.cell? ⟨g, o + k * 35 + 32 + 1, none⟩ = some (.int .i64 q) := hpl 1 _ rfl
        have c2 : wr.cell? ⟨g, o + k * 35 + 32 + 2, none⟩ = some (.int .i64 r) := hpl 2 _ rfl
        have hq := fun W => eqHash nm h hyo.1 HHO.out.1 hyo.2 HHO.out.2 W
        rw [HBH.out] at hq
        have HY := hid hy
        obtain ⟨zz, hzz⟩ : ∃ zz, decide (nm = h) = zz := ⟨_, rfl⟩
        rw [hzz] at hq
        have HZZ := hid hzz
        clear hzz hpl hr hyo hyr hy
        generalize b8 nm = bx at *
        cases zz with
        | true =>
          have hnm : nm = h := of_decide_eq_true HZZ.out
          have HFA : Hid (FAns d h (.returned (.tuple #[.agg #[.int .i64 p, .int .i64 q, .int .i64 r], .bool true]))) := ⟨(p, q, r), true, rfl, ⟨fun _ => ⟨HRP.out, (nm, p, q, r), List.mem_of_getElem? HY.out, hnm⟩, fun _ => rfl⟩, fun _ => by rw [← hnm]; exact List.mem_of_getElem? HY.out, fun e => by cases e⟩
          clear hnm
          go_wp2_with fail
          refine wp_region_held_drew (S := fun W => Kp No wr W) (by kernel_rfl) ((Kp.refl _ _).drew) (fun hHeld => ?_)
          refine wpAnyH_take (i := 0) (oi := { dst := some 17, op := Op.move (Operand.tmp 0), type := 22, pos := "ref.go:105", after := #[], guard := none }) (v := .slice (some ⟨g, o, none⟩) n c) rfl (by kernel_rfl) (by kernel_rfl) (by kernel_rfl) (fun _ _ _ h => h) (Or.inl ⟨by rfl, fun w' hw' => by (clear hw'; go_simp)⟩) hHeld ?_
          simp only [Act.put, List.setIfInBounds_toArray, List.set_cons_zero, List.set_cons_succ]
          refine wpAnyH_take (i := 1) (oi := { dst := some 18, op := Op.move (Operand.tmp 6), type := 3, pos := "ref.go:105", after := #[], guard := none }) (v := .int .i64 (k : Int)) rfl (by kernel_rfl) (by kernel_rfl) (by kernel_rfl) (fun _ _ _ h => h) (Or.inl ⟨by rfl, fun w' hw' => by (clear hw'; go_simp)⟩) hHeld ?_
          simp only [Act.put, List.setIfInBounds_toArray, List.set_cons_zero, List.set_cons_succ]
          refine wpAnyH_take (i := 2) (oi := { dst := some 19, op := Op.indexAddr 22 (Operand.tmp 17) (Operand.tmp 18), type := 0, pos := "ref.go:105", after := #[{ on := 0, ground := Ground.data }, { on := 1, ground := Ground.data }], guard := none }) (v := .pointer (some ⟨g, o + k * 35, none⟩)) rfl (by kernel_rfl) (by kernel_rfl) (by kernel_rfl) (fun _ _ _ h => h) (Or.inl ⟨by rfl, fun w' hw' => by (clear hw'; go_simp)⟩) hHeld ?_
          simp only [Act.put, List.setIfInBounds_toArray, List.set_cons_zero, List.set_cons_succ]
          refine wpAnyH_take (i := 3) (oi := { dst := some 20, op := Op.fieldAddr 91 (Operand.tmp 19) 0, type := 0, pos := "ref.go:105", after := #[{ on := 2, ground := Ground.data }], guard := none }) (v := .pointer (some ⟨g, o + k * 35, none⟩)) rfl (by kernel_rfl) (by kernel_rfl) (by kernel_rfl) (fun _ _ _ h => h) (Or.inl ⟨by rfl, fun w' hw' => by (clear hw'; go_simp)⟩) hHeld ?_
          simp only [Act.put, List.setIfInBounds_toArray, List.set_cons_zero, List.set_cons_succ]
          refine wpAnyH_take (i := 4) (oi := { dst := some 21, op := Op.load 46 (Operand.tmp 20), type := 46, pos := "ref.go:105", after := #[{ on := 3, ground := Ground.data }], guard := none }) (v := .agg bx.toArray) rfl (by kernel_rfl) (by kernel_rfl) (by kernel_rfl) (fun _ _ _ h => h) (yieldsIf_load_mid (by rfl) _ _ rfl g (o + k * 35) rfl bx _ (HLX.out) Tryz.underlying46 rfl HI1.out) hHeld ?_
          simp only [Act.put, List.setIfInBounds_toArray, List.set_cons_zero, List.set_cons_succ]
          refine wpAnyH_take (i := 5) (oi := { dst := some 22, op := Op.load 46 (Operand.tmp 3), type := 46, pos := "ref.go:105", after := #[], guard := none }) (v := .agg bh.toArray) rfl (by kernel_rfl) (by kernel_rfl) (by kernel_rfl) (fun _ _ _ h => h) (yieldsIf_load_mid (by rfl) _ _ rfl w.heap.size 0 rfl bh _ (HLY.out) Tryz.underlying46 rfl HI2.out) hHeld ?_
          simp only [Act.put, List.setIfInBounds_toArray, List.set_cons_zero, List.set_cons_succ]
          refine wpAnyH_take (i := 6) (oi := { dst := some 23, op := Op.binOp BinOp.eql 46 (Operand.tmp 21) (Operand.tmp 22) 46, type := 4, pos := "ref.go:105", after := #[{ on := 4, ground := Ground.data }, { on := 5, ground := Ground.data }], guard := none }) (v := .bool true) rfl (by kernel_rfl) (by kernel_rfl) (by kernel_rfl) (fun _ _ _ h => h) (Or.inl ⟨by rfl, fun w' hw' => by (clear hw'; go_simp)⟩) hHeld ?_
          simp only [Act.put, List.setIfInBounds_toArray, List.set_cons_zero, List.set_cons_succ]
          refine wpAnyH_done (by kernel_rfl) ?_ _
          clear hHeld
          go_wp2_with fail
          obtain ⟨s0, s1, s2⟩ := set3_read (u0 := .int .i64 p) (u1 := .int .i64 q) (u2 := .int .i64 r) e0 e1 e2
          refine bodyPost_ret (v := .tuple #[.agg #[.int .i64 p, .int .i64 q, .int .i64 r], .bool true]) (by simp [results, Tryz.results20, go_sem, s0, s1, s2]) rfl ⟨HFA.out, ?_⟩
          exact ((((HK0.out.andNone HK.out).setCell (p := ⟨w.heap.size + 1, 0, none⟩) (.inr (by simp)) _).setCell (p := ⟨w.heap.size + 1, 1, none⟩) (.inr (by simp)) _).setCell (p := ⟨w.heap.size + 1, 2, none⟩) (.inr (by simp)) _).drew
        | false =>
          have hnm : nm ≠ h := of_decide_eq_false HZZ.out
          have HNX : Hid (∀ y ∈ d.take (k + 1), y.1 ≠ h) := fun y hy => by
            rw [List.take_add_one, HY.out] at hy
            rcases List.mem_append.1 hy with hy | hy
            · exact HS.out y hy
            · simp at hy
              subst hy
              exact hnm
          clear hnm
          go_wp2_with fail
          refine wp_region_held_drew (S := fun W => Kp No wr W) (by kernel_rfl) ((Kp.refl _ _).drew) (fun hHeld => ?_)
          refine wpAnyH_take (i := 0) (oi := { dst := some 17, op := Op.move (Operand.tmp 0), type := 22, pos := "ref.go:105", after := #[], guard := none }) (v := .slice (some ⟨g, o, none⟩) n c) rfl (by kernel_rfl) (by kernel_rfl) (by kernel_rfl) (fun _ _ _ h => h) (Or.inl ⟨by rfl, fun w' hw' => by (clear hw'; go_simp)⟩) hHeld ?_
          simp only [Act.put, List.setIfInBounds_toArray, List.set_cons_zero, List.set_cons_succ]
          refine wpAnyH_take (i := 1) (oi := { dst := some 18, op := Op.move (Operand.tmp 6), type := 3, pos := "ref.go:105", after := #[], guard := none }) (v := .int .i64 (k : Int)) rfl (by kernel_rfl) (by kernel_rfl) (by kernel_rfl) (fun _ _ _ h => h) (Or.inl ⟨by rfl, fun w' hw' => by (clear hw'; go_simp)⟩) hHeld ?_
          simp only [Act.put, List.setIfInBounds_toArray, List.set_cons_zero, List.set_cons_succ]
          refine wpAnyH_take (i := 2) (oi := { dst := some 19, op := Op.indexAddr 22 (Operand.tmp 17) (Operand.tmp 18), type := 0, pos := "ref.go:105", after := #[{ on := 0, ground := Ground.data }, { on := 1, ground := Ground.data }], guard := none }) (v := .pointer (some ⟨g, o + k * 35, none⟩)) rfl (by kernel_rfl) (by kernel_rfl) (by kernel_rfl) (fun _ _ _ h => h) (Or.inl ⟨by rfl, fun w' hw' => by (clear hw'; go_simp)⟩) hHeld ?_
          simp only [Act.put, List.setIfInBounds_toArray, List.set_cons_zero, List.set_cons_succ]
          refine wpAnyH_take (i := 3) (oi := { dst := some 20, op := Op.fieldAddr 91 (Operand.tmp 19) 0, type := 0, pos := "ref.go:105", after := #[{ on := 2, ground := Ground.data }], guard := none }) (v := .pointer (some ⟨g, o + k * 35, none⟩)) rfl (by kernel_rfl) (by kernel_rfl) (by kernel_rfl) (fun _ _ _ h => h) (Or.inl ⟨by rfl, fun w' hw' => by (clear hw'; go_simp)⟩) hHeld ?_
          simp only [Act.put, List.setIfInBounds_toArray, List.set_cons_zero, List.set_cons_succ]
          refine wpAnyH_take (i := 4) (oi := { dst := some 21, op := Op.load 46 (Operand.tmp 20), type := 46, pos := "ref.go:105", after := #[{ on := 3, ground := Ground.data }], guard := none }) (v := .agg bx.toArray) rfl (by kernel_rfl) (by kernel_rfl) (by kernel_rfl) (fun _ _ _ h => h) (yieldsIf_load_mid (by rfl) _ _ rfl g (o + k * 35) rfl bx _ (HLX.out) Tryz.underlying46 rfl HI1.out) hHeld ?_
          simp only [Act.put, List.setIfInBounds_toArray, List.set_cons_zero, List.set_cons_succ]
          refine wpAnyH_take (i := 5) (oi := { dst := some 22, op := Op.load 46 (Operand.tmp 3), type := 46, pos := "ref.go:105", after := #[], guard := none }) (v := .agg bh.toArray) rfl (by kernel_rfl) (by kernel_rfl) (by kernel_rfl) (fun _ _ _ h => h) (yieldsIf_load_mid (by rfl) _ _ rfl w.heap.size 0 rfl bh _ (HLY.out) Tryz.underlying46 rfl HI2.out) hHeld ?_
          simp only [Act.put, List.setIfInBounds_toArray, List.set_cons_zero, List.set_cons_succ]
          refine wpAnyH_take (i := 6) (oi := { dst := some 23, op := Op.binOp BinOp.eql 46 (Operand.tmp 21) (Operand.tmp 22) 46, type := 4, pos := "ref.go:105", after := #[{ on := 4, ground := Ground.data }, { on := 5, ground := Ground.data }], guard := none }) (v := .bool false) rfl (by kernel_rfl) (by kernel_rfl) (by kernel_rfl) (fun _ _ _ h => h) (Or.inl ⟨by rfl, fun w' hw' => by (clear hw'; go_simp)⟩) hHeld ?_
          simp only [Act.put, List.setIfInBounds_toArray, List.set_cons_zero, List.set_cons_succ]
          refine wpAnyH_done (by kernel_rfl) ?_ _
          clear hHeld
          go_wp2_with fail
          go_round
          case rel => exact ⟨k + 1, by first | rfl | go_num, by omega, HNX.out, HK.out.drew⟩
          case measure => simp [intOf]; omega
      · have hltI : ¬ (k : Int) < (n : Int) := by omega
        have HNO : Hid (¬ (RightP d ∧ ∃ y ∈ d, y.1 = h)) := fun ⟨_, y, hy, hyh⟩ => by
          have := HS.out
          rw [List.take_of_length_le (by rw [HN.out]; omega)] at this
          exact this y hy hyh
        go_wp2_with fail
        obtain ⟨s0, s1, s2⟩ := set3_read (u0 := .int .i64 0) (u1 := .int .i64 0) (u2 := .int .i64 0) e0 e1 e2
        refine bodyPost_ret (v := .tuple #[.agg #[.int .i64 0, .int .i64 0, .int .i64 0], .bool false]) (by simp [results, Tryz.results20, go_sem, s0, s1, s2]) rfl ⟨FAns.no HNO.out, ?_⟩
        exact ((((HK0.out.andNone HK.out).setCell (p := ⟨w.heap.size + 1, 0, none⟩) (.inr (by simp)) _).setCell (p := ⟨w.heap.size + 1, 1, none⟩) (.inr (by simp)) _).setCell (p := ⟨w.heap.size + 1, 2, none⟩) (.inr (by simp)) _)
end Go.Proofs.YtampnikdmgojjaaGreat.Sg
end

section
/-
  Put and Get of segment with no table.
-/
namespace Go.Proofs.YtampnikdmgojjaaGreat.Sg
open Go.RowKit
open Sim (hid Kp No)

theorem put_none (w : World) (a : Option Addr) (n c : Nat) : Calls Tryz.prog 7 #[.pointer none, .slice a n c] w fun e w' => e = .returned (.tuple #[.slice none 0 0, .int .i64 18]) ∧ w' = w := by
  go_enter Tryz.func7, Tryz.ntmps7
  go_wp2_with fail
  go_ret2
  exact ⟨rfl, rfl⟩
theorem get_none (w : World) (a : Option Addr) (n c : Nat) : Calls Tryz.prog 10 #[.pointer none, .slice a n c] w fun e w' => e = .returned (.tuple #[.slice none 0 0, .int .i64 18]) ∧ w' = w := by
  go_enter Tryz.func10, Tryz.ntmps10
  go_wp2_with fail
  go_ret2
  exact ⟨rfl, rfl⟩
end Go.Proofs.YtampnikdmgojjaaGreat.Sg
end

section
/-
  alive of the tenth law.
-/
namespace Go.Proofs.YtampnikdmgojjaaGreat.Sg
open Go.RowKit
open Tlv (Tr Agree)
open Crc (Kept)
open Sim (hid Kp No)

def h1 : List Int := [1, 0, 0, 0, 0, 0, 0, 0, 0, 0, 0, 0, 0, 0, 0, 0, 0, 0, 0, 0, 0, 0, 0, 0, 0, 0, 0, 0, 0, 0, 0, 0]
theorem h1_ok : EOk (h1, 1, 2, 3) := ⟨rfl, by decide⟩
theorem right1 : RightP [(h1, 1, 2, 3)] := ⟨by simp, fun i e hi he => by
  have hi0 : i = 0 := by simp at hi; omega
  subst hi0
  simp at he
  subst he
  exact ⟨rfl, fun j x hj => by omega⟩⟩
theorem right0 : RightP [] := ⟨by simp, fun i e hi => by simp at hi⟩
theorem find1 {e : Ending} (h : FAns [(h1, 1, 2, 3)] h1 e) : e = .returned (.tuple #[.agg #[.int .i64 1, .int .i64 2, .int .i64 3], .bool true]) := by
  obtain ⟨p, b, rfl, h2, h3, _⟩ := h
  have hb : b = true := h2.2 ⟨right1, (h1, 1, 2, 3), by simp, rfl⟩
  subst hb
  have := h3 rfl
  simp at this
  subst this
  rfl
theorem right1_any {e : Ending} (h : RAns [(h1, 1, 2, 3)] e) : e = .returned (.bool true) := by
  obtain ⟨b, rfl, h2⟩ := h
  rw [h2.2 right1]
theorem seal0 : nats (sealE []) = [3, 0, 0] ++ Crc.le4 (Crc.more 0 [3, 0, 0]) := by
  rw [sealE, sealI_nats]
  rfl
theorem ev1 (w : World) (A : Array Value) (hA : A = (entC (h1, 1, 2, 3)).toArray) : EV (fun g => g = w.heap.size) (w.alloc (.cells A 64)) (.slice (some ⟨w.heap.size, 0, none⟩) 1 1) [(h1, 1, 2, 3)] := by
  subst hA
  refine ⟨_, 1, rfl, Nat.le_refl _, by decide, by simp, fun e he => ?_, fun _ => ⟨w.heap.size, 0, rfl, rfl, by simp, fun i e hi => ?_⟩⟩
  · simp at he
    subst he
    exact h1_ok
  · have hi0 : i = 0 := by
      have := (List.getElem?_eq_some_iff.1 hi).1
      simp at this
      omega
    subst hi0
    simp at hi
    subst hi
    refine ⟨h1_ok, fun j v hv => ?_⟩
    rw [World.cell?_alloc_at _ _ _ _ rfl]
    simpa using hv

set_option maxHeartbeats 4000000 in
set_option maxRecDepth 100000 in
theorem alive_any (w : World) : Calls Tryz.prog 5 #[] w fun e w' => e = .returned (.bool true) ∧ Kp No w w' := by
  go_enter Tryz.func5, Tryz.ntmps5
  go_wp2_with fail
  refine (Crc.new_any w).mono ?_
  rintro e w1 ⟨rfl, hb1, hs1, ht1⟩
  have HB1 := hid hb1
  have HT1 : Hid (TabX w1 w.heap.size) := ⟨0, 0, .inl rfl, ht1⟩
  have hlt1 : w.heap.size < w1.heap.size := by omega
  clear hb1 hs1 ht1
  go_wp2_with fail
  refine (put_yes w.heap.size w1 _ [] No HT1.out (EV.nil _ _) right0).mono ?_
  rintro e w2 ⟨v', rfl, ho, hk2, ht2⟩
  rw [seal0] at ho
  obtain ⟨g, cap, rfl, hg, hgl⟩ := World.ownsRow.form ho (by simp)
  have c0 : w2.cell? ⟨g, 0, none⟩ = some (.int .u8 3) := by rw [World.ownsRow.cellAt ho 0 (by simp)]; rfl
  have hl7 : ([3, 0, 0] ++ Crc.le4 (Crc.more 0 [3, 0, 0])).length = 7 := rfl
  rw [hl7]
  have HK2 : Hid (Kp No w w2) := ⟨by rw [hk2.os, HB1.out.os], by rw [hk2.tape, HB1.out.tape], by rw [hk2.output, HB1.out.output], Nat.le_trans HB1.out.size hk2.size, fun j hj _ => (hk2.block j (by omega) (by omega)).trans (HB1.out.block j hj)⟩
  clear ho hk2 ht2 hl7 HB1 HT1 hg hlt1
  go_wp2_with fail
  have HEV := hid (ev1 w2 _ rfl)
  have HKA : Hid (Kp No w2 (w2.alloc (.cells (entC (h1, 1, 2, 3)).toArray 64))) := (Kp.refl _ _).alloc _
  refine (find_any (w2.alloc (.cells (entC (h1, 1, 2, 3)).toArray 64)) _ [(h1, 1, 2, 3)] _ h1 HEV.out (by simp) rfl (by decide)).mono ?_
  rintro e w3 ⟨hfa, hk3⟩
  have hfe := find1 hfa
  subst hfe
  have HE3 := hid (HEV.out.kept hk3)
  have HK3 := hid (HKA.out.andNone hk3)
  have d0 : w3.cell? ⟨g, 0, none⟩ = some (.int .u8 3) := (HK3.out.cell (p := ⟨g, 0, none⟩) hgl (fun x => x)).trans c0
  have hgl3 : g < w3.heap.size := Nat.lt_of_lt_of_le hgl HK3.out.size
  clear hfa hk3 c0
  go_wp2_with fail
  refine (right_any _ _ [(h1, 1, 2, 3)] _ (HE3.out.kept ((Kp.refl _ _).alloc _)) (by simp)).mono ?_
  rintro e w4 ⟨hra, hk4⟩
  have hre := right1_any hra
  subst hre
  have HF : Hid (Kp No w w4) := ((HK2.out.andNone HK3.out).alloc _).andNone hk4
  clear hra hk4
  go_wp2_with fail
  go_ret
  exact ⟨rfl, HF.out⟩
end Go.Proofs.YtampnikdmgojjaaGreat.Sg
end
