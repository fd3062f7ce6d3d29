/- Of the proof: the texts PkWhole, SimOpen, FrOpen, FrOpenL, PkLaid, PkVars, one behind the other. -/
import Derived.Test.YtkekajmmcjacgaaGreatDoorB16
import Derived.Test.YtkekajmmcjacgaaGreatDoorB7
import Derived.OpenShut
import Derived.Deep.Slices
import Derived.Deep.Strs
import Derived.Test.YtkekajmmcjacgaaGreatDoorB6
import Derived.ProofKit
import Derived.Lib.SmallJoins
import Derived.WideKeyArr2
import Derived.Test.YtkekajmmcjacgaaGreatDoorB15
import Derived.Test.YtkekajmmcjacgaaGreatDoorCards
import Derived.Test.YtkekajmmcjacgaaGreatDoorTie
import Derived.Deep.DeepHandedRow
import Derived.Lib.LaidTab
import Derived.MakeChecks
import Derived.Lib.TrailingZeros
import Derived.Stop.LaidErr
section
/-
  PackWhole, walked.
-/
namespace Go.Proofs.YtkekajmmcjacgaaGreatDoor
open Go.RowKit Go.Shelf
open Tlv (BySlS Agree)
open Sim (hid Kp No PS Done Blk nm finds pBytes pRemove pSyncDir pList OwnB OwnN Beg SealR UpR)

/-- No pack is seen where nothing is. -/
theorem ids_empty {P : Nat → Prop} {N : Nat} (w : World) (s : Nat) (p : PS) (h : Sim.Sys P N w s p) (he : pList p = []) :
    Calls Tryz.prog 38 #[.pointer (some ⟨s, 0, none⟩)] w fun e w' => e = .returned (.slice none 0 0) ∧ Kp No w w' := by
  have HP : Hid (∀ f : Value, Calls Tryz.prog 103 #[.pointer (some ⟨s, 0, none⟩), f] w fun e w' => e = .returned (.slice none 0 0) ∧ Kp No w w') := fun f => by
    have HL := hid (Sim.list_any w s p h)
    rw [he] at HL
    clear h he
    go_enter Tryz.func103, Tryz.ntmps103
    go_wp2_with fail
    refine HL.out.mono ?_
    rintro e w1 ⟨u, rfl, hu, _, hk⟩
    obtain ⟨ua, uc, rfl, _⟩ := OwnN.form hu
    have HK := hid hk
    clear hu hk
    have e0 : ([] : List Sim.Nm).length = 0 := rfl
    rw [e0]
    go_wp2_with fail
    go_loop [5, 13] (fun l i => l = .slice none 0 0 ∧ i = .int .i64 0) (fun _ _ => 0)
    case atStart => exact ⟨rfl, rfl⟩
    case round =>
      obtain ⟨rfl, rfl⟩ := hrel
      go_wp2
      go_ret
      exact ⟨rfl, HK.out⟩
  have hs : Hid (∀ V, Calls Tryz.prog 105 #[.slice none 0 0] V fun e w' => e = .returned (.tuple #[]) ∧ w' = V) := fun V => Any.slices_Sort_int_none Sim.Tryz.sortI none 0 V
  clear h he
  go_enter Tryz.func38, Tryz.ntmps38
  go_wp2_with (first
    | (go_at_call 103; refine (HP.out _).mono ?_; rintro e w1 ⟨rfl, h⟩; have HK := hid h; clear h)
    | (go_at_call 105; refine (hs.out _).mono ?_; rintro e w2 ⟨rfl, h⟩; subst w2))
  go_ret
  exact ⟨rfl, HK.out⟩

theorem isTmp_T3 : isTmp (nm (nameT 3)) = true := by
  have e : nameT 3 = ⟨#[116, 109, 112, 46, 51]⟩ := by decide +kernel
  rw [e]; decide
theorem isTmp_P3 : isTmp (nm (nameP 3)) = false := by
  have e : nameP 3 = ⟨#[112, 97, 99, 107, 46, 51]⟩ := by decide +kernel
  rw [e]; decide
theorem len_T3 : (nm (nameT 3)).length = 5 := by
  have e : nameT 3 = ⟨#[116, 109, 112, 46, 51]⟩ := by decide +kernel
  rw [e]; decide
theorem len_P3 : (nm (nameP 3)).length = 6 := by
  have e : nameP 3 = ⟨#[112, 97, 99, 107, 46, 51]⟩ := by decide +kernel
  rw [e]; decide

/-- Clean leaves nothing, or the pack. -/
theorem upR_clean {x c : Nat} {ys : List Nat} {p : PS} (h : UpR (nm (nameT 3)) (nm (nameP 3)) x ys c p) :
    (cleanF ((pList p).filter isTmp) 0 p).2.1 = 0 ∧ UpR (nm (nameT 3)) (nm (nameP 3)) x ys (if c = 2 then 2 else 0) (cleanF ((pList p).filter isTmp) 0 p).2.2 ∧ (pList p).length ≤ 1 ∧ ∀ n ∈ pList p, n.length ≤ 20000000 := by
  have hc : c = 0 ∨ c = 1 ∨ c = 2 := by
    rcases h.2.2.2 with ⟨h, _⟩ | ⟨h, _⟩ | ⟨h, _⟩ <;> omega
  have hl := h.list
  rcases hc with rfl | rfl | rfl
  · rw [hl]
    simp only [if_true]
    refine ⟨by simp [cleanF], ?_, by simp, by simp⟩
    have e : (cleanF (([] : List Sim.Nm).filter isTmp) 0 p).2.2 = p := by simp [cleanF]
    rw [e, if_neg (by omega)]
    exact h
  · rw [hl]
    obtain ⟨h1, h2, h3⟩ := h.clean n3T
    have e0 : (if (1 : Nat) = 0 then ([] : List Sim.Nm) else if (1 : Nat) = 1 then [nm (nameT 3)] else [nm (nameP 3)]) = [nm (nameT 3)] := rfl
    have e : cleanF ([nm (nameT 3)].filter isTmp) 0 p = (1, (pSyncDir (pRemove (nm (nameT 3)) p).2).1, (pSyncDir (pRemove (nm (nameT 3)) p).2).2) := by
      simp [isTmp_T3, cleanF, h1]
    rw [e0, e, if_neg (by omega)]
    refine ⟨h2, h3, by simp, fun n hn => ?_⟩
    rw [List.mem_singleton.1 hn, len_T3]
    omega
  · rw [hl]
    have e0 : (if (2 : Nat) = 0 then ([] : List Sim.Nm) else if (2 : Nat) = 1 then [nm (nameT 3)] else [nm (nameP 3)]) = [nm (nameP 3)] := rfl
    have e : cleanF ([nm (nameP 3)].filter isTmp) 0 p = (0, 0, p) := by simp [isTmp_P3, cleanF]
    rw [e0, e, if_pos rfl]
    refine ⟨rfl, h, by simp, fun n hn => ?_⟩
    rw [List.mem_singleton.1 hn, len_P3]
    omega

/-- What the first loop keeps. -/
def WI (s b g x : Nat) (w wr : World) (ys : List El) (k ne : Nat) (vw : Value) : Prop :=
  ∃ zs : List El, ne = zs.length ∧ zs.length ≤ k ∧ (∀ z ∈ zs, z ∈ ys) ∧ PR s b g x true (k + 2) (fun q => vw.ownBlock = some q) w wr (zs.map (·.1)) ∧ Sim.Row wr 40 34 vw zs.length (recsC zs) ∧ ∀ q, vw.ownBlock = some q → w.heap.size ≤ q
/-- What is there ahead of Up. -/
def WS (s b : Nat) (w wc : World) (ys : List El) (ne : Nat) (vw : Value) (f : Int) : Prop :=
  ∃ (zs : List El) (x N : Nat) (P : Nat → Prop) (p : PS), ne = zs.length ∧ N ≤ 30 ∧ (∀ z ∈ zs, z ∈ ys) ∧ (∀ r ∈ zs.map (·.1), Rt r) ∧ (cat (zs.map (·.1))).length ≤ 12000 ∧
    Sim.Row wc 40 34 vw zs.length (recsC zs) ∧ (∀ q, vw.ownBlock = some q → ¬ P q ∧ q ≠ b ∧ w.heap.size ≤ q) ∧ TabX wc b ∧ Sim.Sys P N wc s p ∧ ¬ P b ∧ (∀ q, P q → w.heap.size ≤ q) ∧ Below w.heap.size w wc ∧
    ∀ z cuts, ∃ c, UpR (nm (nameT 3)) (nm (nameP 3)) x (nats (cat (zs.map (·.1)))) c (Sim.pUp z cuts p) ∧ (f = 0 → c = 2) ∧ (c = 2 → zs ≠ [])

set_option maxHeartbeats 8000000 in
set_option maxRecDepth 100000 in
theorem whole_light (ys : List El) (a : Option Addr) (cap : Nat) (st : Nat) (z2 : Int) (ca : Option Addr) (cc : Nat) (cuts : List Int) (w : World) (hli : lightB (ys.map fun y => y.1.2.2.length) = true) (hok : ∀ y ∈ ys, elOk y)
    (hrow : ∀ j y, ys[j]? = some y → ∃ g o, a = some ⟨g, o, none⟩ ∧ g < w.heap.size ∧ w.rangeAt g (o + j * 34) (elC y)) (hby : ∀ y ∈ ys, Tlv.BySl 0 w.heap.size w (elV y) y.1.2.2)
    (hst : st ≤ 9223372036854775807) (hcuts : Sim.IntsAt (· < w.heap.size) w (.slice ca cuts.length cc) cuts) (hcl : cuts.length ≤ 60) :
    Calls Tryz.prog 4 #[.slice a ys.length cap, .int .i64 (st : Int), .int .i64 z2, .slice ca cuts.length cc] w fun e w' => e = .returned (.bool true) ∧ Below w.heap.size w w' := by
  have h20 : ys.length ≤ 20 := by
    simp [lightB] at hli
    exact hli.1
  have HOK := hid hok
  have HROW := hid hrow
  have HBY := hid hby
  have HCUT := hid hcuts
  have HLI : Hid (Calls Tryz.prog 45 #[.slice a ys.length cap] w fun e w' => e = .returned (.bool true) ∧ w' = w) := by
    have h := light_any a cap (ys.map fun y => y.1.2.2.length) w (by rw [List.length_map]; omega) (fun l hl => by
      obtain ⟨y, hy, rfl⟩ := List.mem_map.1 hl
      obtain ⟨_, _, _, _, _, _, h, _⟩ := hby y hy
      omega) (fun i hi => by
      rw [List.length_map] at hi
      obtain ⟨g, o, h1, h2, h3⟩ := hrow i ys[i] (List.getElem?_eq_getElem hi)
      refine ⟨g, o, ys[i].2.1, ys[i].2.2, h1, ?_⟩
      have h4 := h3 33 _ (recA_33 _ _ _ (hok _ (List.getElem_mem hi)).1)
      rw [h4, List.getD_eq_getElem?_getD, List.getElem?_map, List.getElem?_eq_getElem hi]
      rfl)
    rw [hli, List.length_map] at h
    exact h
  clear hok hrow hby hli hcuts
  have hclI : ¬ ((60 : Int) < (cuts.length : Int)) := by omega
  obtain ⟨cl, hcl'⟩ : ∃ cl, cuts.length = cl := ⟨_, rfl⟩
  rw [hcl'] at HCUT hclI ⊢
  clear hcl hcl'
  go_enter Tryz.func4, Tryz.ntmps4
  go_wp2_with fail
  refine HLI.out.mono ?_
  rintro e w0 ⟨rfl, hw0⟩
  rw [hw0]
  clear hw0 w0 HLI
  go_wp2_with fail
  refine (Sim.new_yes 99000 (by omega) w).mono ?_
  rintro e w1 ⟨rfl, hS1, hK1⟩
  have HS1 := hid hS1
  have HB1 : Hid (Below w.heap.size w w1) := hK1.toBelow'
  have HL1 : Hid (w.heap.size < w1.heap.size) := hS1.lt _ rfl
  clear hS1 hK1
  go_wp2_with fail
  refine (Crc.new_any w1).mono ?_
  rintro e w2 ⟨rfl, hb2, hs2, ht2⟩
  have HS2 : Hid (Sim.Sys (· = w.heap.size) 0 w2 w.heap.size (Sim.start 99000 false 0)) := HS1.out.kept (Kp.below hb2)
  have HT2 : Hid (TabX w2 w1.heap.size) := ⟨0, 0, .inl rfl, ht2⟩
  have HB2 : Hid (Below w.heap.size w w2) := HB1.out.trans (hb2.mono HB1.out.size)
  have HL2 : Hid (w1.heap.size < w2.heap.size) := by rw [Hid]; omega
  clear hb2 hs2 ht2 HS1 HB1
  have hpa : Sim.pArm (st : Int) (Sim.start 99000 false 0) = (0, Sim.start 99000 true st) := by
    have h0 : Sim.wrongs (Sim.start 99000 false 0) [] = 0 := by simp [Sim.wrongs, Sim.start, Sim.startPS]
    rw [Sim.pArm, h0, if_neg (by simp), if_neg (by omega)]
    simp [Sim.start, Sim.startPS]
  have HARM := hid (Sim.arm_any w2 w.heap.size (Sim.start 99000 false 0) (st : Int) (by omega) HS2.out (by omega))
  rw [hpa] at HARM
  clear hpa
  go_wp2_with fail
  refine HARM.out.mono ?_
  rintro e w3 ⟨rfl, P3, hS3, hK3, hP3⟩
  have HS3 := hid hS3
  have HT3 : Hid (TabX w3 w1.heap.size) := HT2.out.kp hK3 (by have := HL1.out; omega)
  have HB3 : Hid (Below w.heap.size w w3) := Kp.under HB2.out hK3 (fun y hy => by rw [hy]; exact Nat.le_refl _) HB2.out.size
  have HL3 : Hid (w2.heap.size ≤ w3.heap.size) := hK3.size
  have HP3 : Hid (¬ P3 w1.heap.size ∧ ∀ q, P3 q → w.heap.size ≤ q) := ⟨fun e => by
    have := HL1.out
    have := HL2.out
    rcases hP3 _ e with e | e <;> omega, fun q hq => by
    have := HL1.out
    have := HL2.out
    rcases hP3 _ hq with e | e <;> omega⟩
  clear hS3 hK3 hP3 HARM HS2 HT2 HB2
  go_wp2_with fail
  refine (begin_any w3 w.heap.size w1.heap.size (Sim.start 99000 true st) 3 (by omega) (by omega) HS3.out (by omega)).mono ?_
  rintro e w4 hbg
  have hbg' : (∃ f : Int, f ≠ 0 ∧ e = .returned (.tuple #[.pointer none, .int .i64 f]) ∧ WS w.heap.size w1.heap.size w w4 ys 0 (.slice none 0 0) 16) ∨
      (∃ x g, e = .returned (.tuple #[.pointer (some ⟨g, 0, none⟩), .int .i64 0]) ∧ PR w.heap.size w1.heap.size g x true 2 (fun q => (Value.slice none 0 0).ownBlock = some q) w w4 []) := by
    have hl1 := HL1.out
    have hl2 := HL2.out
    have hl3 := HL3.out
    rcases hbg with ⟨h, _⟩ | ⟨_, x, _, h⟩
    · have : finds (Sim.start 99000 true st) (nm (nameP 3)) = 5 := by simp [Sim.finds, Sim.wrongs, Sim.start, Sim.startPS, n3P, Sim.dfind]
      omega
    · rcases Sim.start_make (r := 99000) (x := x) (ar := true) n3T st with ⟨h2, _⟩ | ⟨h2, h3⟩
      · rw [h2] at h
        rcases h with ⟨_, h1, P', hS, hK, hP⟩ | ⟨h, _⟩
        · left
          refine ⟨12, by omega, h1, [], 0, 2, P', Sim.fall (Sim.start 99000 true st), rfl, by omega, fun z hz => (by cases hz), fun r hr => (by cases hr), by simp [cat], Sim.Row.nil _ _ _, fun q hq => (by cases hq), HT3.out.kp hK HP3.out.1, hS, fun e => ?_, fun q hq => ?_, Kp.under HB3.out hK (fun q hq => HP3.out.2 q hq) HB3.out.size, fun z cuts => ⟨0, ?_, by omega, by omega⟩⟩
          · rcases hP _ e with e | e
            · exact HP3.out.1 e
            · omega
          · rcases hP _ hq with e | e
            · exact HP3.out.2 q e
            · omega
          · exact Sim.up_start (b := true) st z cuts
        · exact absurd h (by simp)
      · rcases h with ⟨h, _⟩ | ⟨_, g, P', h1, hW, hS, hK, hP, hng, hg3⟩
        · exact absurd h2 h
        · right
          refine ⟨x, g, h1, fun r hr => (by cases hr), by simp [cat], hW, HT3.out.kp hK HP3.out.1, ⟨P', _, false, hS, h3, fun hp => ?_, hng, fun y hy => ?_, fun q hq => (by cases hq)⟩, fun q hq => (by cases hq), Kp.under HB3.out hK (fun q hq => HP3.out.2 q hq) HB3.out.size, by omega, by omega, by omega⟩
          · rcases hP _ hp with e | e
            · exact HP3.out.1 e
            · omega
          · rcases hP y hy with e | e
            · exact HP3.out.2 y e
            · omega
  have HBR : Hid (w.heap.size ≤ w1.heap.size) := by have := HL1.out; rw [Hid]; omega
  clear hbg HS3 HT3 HB3 HL2 HL3 HL1
  obtain ⟨pw, fb, rfl, hif⟩ : ∃ (pw : Option Addr) (fb : Int), e = .returned (.tuple #[.pointer pw, .int .i64 fb]) ∧ ((fb ≠ 0 ∧ WS w.heap.size w1.heap.size w w4 ys 0 (.slice none 0 0) 16) ∨ (fb = 0 ∧ ∃ x g, pw = some ⟨g, 0, none⟩ ∧ PR w.heap.size w1.heap.size g x true 2 (fun q => (Value.slice none 0 0).ownBlock = some q) w w4 [])) := by
    rcases hbg' with ⟨f, h1, h2, h3⟩ | ⟨x, g, h1, h2⟩
    · exact ⟨none, f, h2, .inl ⟨h1, h3⟩⟩
    · exact ⟨_, 0, h1, .inr ⟨rfl, x, g, rfl, h2⟩⟩
  have HIF := hid hif
  clear hif hbg'
  go_upto_if 53 with fail
  go_cut [12, 13] (fun s12 s13 wx => ∃ (aw : Option Addr) (ne cw : Nat) (f : Int), s12 = .slice aw ne cw ∧ s13 = .int .i64 f ∧ ne ≤ 20 ∧ Hid (WS w.heap.size w1.heap.size w wx ys ne (.slice aw ne cw) f))
  case first =>
    rcases HIF.out with ⟨hfb, hws⟩ | ⟨rfl, x, g, rfl, hpr⟩
    · have HWS := hid hws
      have hfbb : (fb == 0) = false := by simp [hfb]
      clear hws HIF
      go_wp2_with fail
      go_meet
      exact ⟨none, 0, 0, 16, rfl, rfl, by omega, HWS.out⟩
    · have HWI0 : Hid (WI w.heap.size w1.heap.size g x w w4 ys 0 0 (.slice none 0 0)) := ⟨[], rfl, Nat.le_refl _, fun z hz => (by cases hz), hpr, Sim.Row.nil _ _ _, fun q hq => by cases hq⟩
      clear hpr HIF
      simp only [show ((0 : Int) == 0) = true from rfl]
      go_wp2_with fail
      go_loopw [12, 16] (fun vw i wr => ∃ (k ne : Nat) (aw : Option Addr) (cw : Nat), k ≤ ys.length ∧ i = .int .i64 (k : Int) ∧ vw = .slice aw ne cw ∧ ne ≤ k ∧ Hid (WI w.heap.size w1.heap.size g x w wr ys k ne (.slice aw ne cw))) (fun _ i _ => ys.length - (intOf i).toNat)
      case atStart => exact ⟨0, 0, none, 0, Nat.zero_le _, rfl, rfl, by omega, HWI0.out⟩
      case round =>
        obtain ⟨k, ne, aw, cw, hk, rfl, rfl, hne, HS⟩ := hrel
        by_cases hlt : k < ys.length
        · have hltI : (k : Int) < (ys.length : Int) := by omega
          obtain ⟨z, hz⟩ : ∃ z, ys[k]? = some z := ⟨_, List.getElem?_eq_getElem hlt⟩
          have hzm : z ∈ ys := List.mem_of_getElem? hz
          obtain ⟨g', o, rfl, hgw, hrg⟩ := HROW.out k z hz
          obtain ⟨zs, hzs, hzk, hsub, hPR, hRow, hlow⟩ := HS.out
          have HRGV : Hid (∀ V, Below w.heap.size w V → V.rangeAt g' (o + k * 34) (elC z)) := fun V hV => rangeAt_below hrg hV hgw
          have HRW : Hid (wr.rangeAt g' (o + k * 34) (elC z)) := HRGV.out wr hPR.below
          have HEO := hid (HOK.out z hzm)
          have HOWN := hid (fun V => own11_any z.1.1 z.1.2.1 z.2.1 z.1.2.2.length z.2.2 V HEO.out.1)
          have HADD := hid (fun V (hV : Below wr.heap.size wr V) => hPR.add (by omega) (by rw [List.length_map]; omega) z HEO.out (HBY.out z hzm) hV)
          have HBS := hid (fun V => run_onerec z.1.1 z.1.2.1 z.2.1 z.1.2.2.length z.2.2 HEO.out.1 V)
          have HI : Hid ((Tryz.prog.info? 40).map (·.size) = some (elC z).length) := by rw [Hid, elC_length HEO.out]; exact Tryz.info26
          have HCL := hid (elC_length HEO.out)
          have HCO := hid (elC_one z)
          rw [show recA z.1.1 z.1.2.1 (.slice z.2.1 z.1.2.2.length z.2.2) = elC z from rfl] at HOWN HBS
          obtain ⟨C, hC⟩ : ∃ C, elC z = C := ⟨_, rfl⟩
          rw [hC] at HRGV HRW HOWN HADD HBS HI HCL HCO
          have HC := hid hC
          have HRO := hid (And.intro hzs (And.intro hzk (And.intro hsub (And.intro hRow hlow))))
          have hzl : zs.length = ne := hzs.symm
          have HZM := hid hzm
          clear hz hzm hrg hgw hzs hzk hsub hPR hRow hlow HS hC
          go_wp2_with (refine wpList_load_mid (by rfl) 40 _ (by rfl) g' (o + k * 34) (by rfl) C _ HRW.out Tryz.underlying40 rfl HI.out ?_)
          refine (HOWN.out wr).mono ?_
          rintro e w5 ⟨rfl, hb5⟩
          have HA5 := hid (HADD.out w5 hb5)
          clear hb5 HADD HOWN
          go_wp2_with fail
          refine HA5.out.mono ?_
          rintro e w6 ⟨h6, hK6⟩
          rcases h6 with ⟨f, hf, rfl, hP6⟩ | ⟨_, rfl, hP6⟩
          · obtain ⟨e1, e2, e3, e4, e5⟩ := HRO.out
            have HF : Hid (WI w.heap.size w1.heap.size g x w w6 ys (k + 1) ne (.slice aw ne cw)) := ⟨zs, e1, by omega, e3, hP6, e4.kp hK6 (fun q hq hn => hn hq), e5⟩
            have hfb : (f == 0) = false := by simp [hf]
            clear hP6 hK6 HRO HA5 hzl e1 e2 e3 e4 e5
            go_wp2_with fail
            go_round
            case rel => exact ⟨k + 1, ne, aw, cw, by omega, by go_num, rfl, by omega, HF⟩
            case measure => simp [intOf]; omega
          · obtain ⟨e1, e2, e3, e4, e5⟩ := HRO.out
            have HRW6 : Hid (w6.rangeAt g' (o + k * 34) C) := HRGV.out w6 hP6.below
            have hal6 : Kp No w6 (w6.alloc (.cells C.toArray 40)) := (Kp.refl _ _).alloc _
            have HR6 : Hid (Sim.Row (w6.alloc (.cells C.toArray 40)) 40 34 (.slice aw ne cw) ne (recsC zs)) := by
              have h := (e4.kp hK6 (fun q hq hn => hn hq)).kept hal6
              rw [hzl] at h
              exact h
            have HSRC : Hid (Sim.Src (w6.alloc (.cells C.toArray 40)) (.slice (some ⟨w6.heap.size, 0, none⟩) 1 1) 1 34 C) := Sim.Src.one w6 C 34 40 HCL.out HCO.out
            have HP7 := hid (hP6.on (V := w6.alloc (.cells C.toArray 40)) hal6.toBelow')
            have HE := hid (And.intro e1 (And.intro e2 (And.intro e3 e5)))
            clear hP6 hK6 HRO HA5 e1 e2 e3 e4 e5 hal6
            go_wp2_with (first
              | (refine wpList_load_mid (by rfl) 40 _ (by rfl) g' (o + k * 34) (by rfl) C _ HRW6.out Tryz.underlying40 rfl HI.out ?_)
              | (refine wpList_val (by rfl) (exec_slice1 87 _ (by rfl) (.agg C.toArray) _ (by rfl) (HBS.out _)) ?_)
              | (refine Sim.app_row _ (by rfl) _ _ 87 40 (.agg zRec.toArray) 34 64 (by rfl) Tryz.underlying87 infoR rfl (by omega) (.slice aw ne cw) (.slice (some ⟨w6.heap.size, 0, none⟩) 1 1) ne 1 (recsC zs) C (by rfl) (by rfl) HR6.out HSRC.out (by omega) (by omega) ?_; intro ad2 cap2 w7 hrow7 hgr7 hown7))
            have HF : Hid (WI w.heap.size w1.heap.size g x w w7 ys (k + 1) (ne + 1) (.slice ad2 (ne + 1) cap2)) := by
              obtain ⟨e1, e2, e3, e5⟩ := HE.out
              have hgr := HP7.out.grown (v' := .slice ad2 (ne + 1) cap2) hgr7 hown7 (fun q hq => hrow7.lt q hq) e5
              have hmap : zs.map (·.1) ++ [z.1] = (zs ++ [z]).map (·.1) := by simp
              rw [hmap] at hgr
              refine ⟨zs ++ [z], by rw [List.length_append, e1]; rfl, by rw [List.length_append]; simp; omega, fun q hq => ?_, hgr, ?_, fun q hq => ?_⟩
              · rcases List.mem_append.1 hq with hq | hq
                · exact e3 q hq
                · rw [List.mem_singleton.1 hq]; exact HZM.out
              · rw [List.length_append, recsC_snoc, hzl, HC.out]
                exact hrow7
              · rcases hown7 with h | h
                · exact e5 q (by rw [← h]; exact hq)
                · rw [h] at hq
                  have e := Option.some.inj hq
                  have h1 := HP7.out.below.size
                  omega
            clear hrow7 hgr7 hown7
            go_wp2_with fail
            go_round
            case rel => exact ⟨k + 1, ne + 1, _, _, by omega, by go_num, rfl, by omega, HF⟩
            case measure => simp [intOf]; omega
        · have hkn : k = ys.length := by omega
          subst hkn
          obtain ⟨zs, hzs, hzk, hsub, hPR, hRow, hlow⟩ := HS.out
          obtain ⟨P, p, d, hSy, hBeg, hnb, hng, hPl, hKP⟩ := hPR.sys
          by_cases hz0 : zs = []
          · subst hz0
            have HSE := hid (sealW_early wr g w.heap.size w1.heap.size 3 _ hPR.wrt)
            have HWS : Hid (WS w.heap.size w1.heap.size w wr ys ne (.slice aw ne cw) 16) := ⟨[], x, ys.length + 2, P, p, hzs, by omega, hsub, hPR.rt, hPR.size, hRow, fun q hq => ⟨hKP q hq, (hPR.keep q hq).1, hlow q hq⟩, hPR.tab, hSy, hnb, hPl, hPR.below, fun z cuts => by
              obtain ⟨c, h1, h2, h3⟩ := (hBeg.sealR (n := nm (nameP 3))).up z cuts
              exact ⟨c, h1, by omega, fun e => by have := h3 (by omega); omega⟩⟩
            clear hzs hzk hsub hPR hRow hlow hSy hBeg hnb hng hPl hKP HS
            go_wp2_with fail
            refine HSE.out.mono ?_
            rintro e w6 ⟨rfl, h6⟩
            rw [h6]
            clear h6 w6 HSE
            go_wp2_with fail
            go_meet
            exact ⟨aw, ne, cw, 16, rfl, rfl, by omega, HWS.out⟩
          · have hzp := List.length_pos_iff.2 hz0
            have HSE := hid (sealW_any (P := P) (N := ys.length + 2) wr g w.heap.size w1.heap.size 3 ((cat (zs.map (·.1))).length : Nat) (zs.map (·.1)).length p (by omega) (by omega) hPR.wrt hSy (by omega) hPR.tab hnb hng hPR.gb (by rw [List.length_map]; omega))
            have HUP : Hid (∀ z cuts, ∃ c, UpR (nm (nameT 3)) (nm (nameP 3)) x (nats (cat (zs.map (·.1)))) c (Sim.pUp z cuts (sealF 3 p).2) ∧ (((sealF 3 p).1 : Int) = 0 → c = 2) ∧ (c = 2 → zs ≠ [])) := fun z cuts => by
              rcases beg_seal hBeg n3T n3P with ⟨h1, _, k, hk, h2⟩ | ⟨h1, lf, st', h2⟩
              · obtain ⟨c, h3, _, _⟩ := h2.up z cuts
                exact ⟨c, h3, fun e => by rw [h1] at e; omega, fun _ => hz0⟩
              · have h3 : SealR (nm (nameT 3)) (nm (nameP 3)) 99000 x (nats (cat (zs.map (·.1)))) 3 (sealF 3 p).2 := by rw [h2]; exact ⟨false, true, lf, st', .inr (.inr (.inr ⟨rfl, rfl⟩))⟩
                obtain ⟨c, h4, h5, _⟩ := h3.up z cuts
                exact ⟨c, h4, fun _ => h5 rfl, fun _ => hz0⟩
            obtain ⟨A, hA⟩ : ∃ A, sealF 3 p = A := ⟨_, rfl⟩
            rw [hA] at HSE HUP
            have HPR := hid hPR
            have HRO := hid (And.intro hzs (And.intro hsub (And.intro hRow hlow)))
            have HPP := hid (And.intro hnb (And.intro hPl hKP))
            clear hzs hzk hsub hPR hRow hlow hSy hBeg hnb hng hPl hKP HS hA
            go_wp2_with fail
            refine HSE.out.mono ?_
            rintro e w6 ⟨rfl, hW6, hT6, P6, hS6, hK6, hP6⟩
            have HWS : Hid (WS w.heap.size w1.heap.size w w6 ys ne (.slice aw ne cw) (A.1 : Int)) := by
              obtain ⟨e1, e3, e4, e5⟩ := HRO.out
              obtain ⟨hnb, hPl, hKP⟩ := HPP.out
              have htl := HPR.out.tab.lt
              refine ⟨zs, x, ys.length + 2 + 3, P6, A.2, e1, by omega, e3, HPR.out.rt, HPR.out.size, e4.kp hK6 (fun q hq e => ?_), fun q hq => ⟨fun e => ?_, (HPR.out.keep q hq).1, e5 q hq⟩, hT6, hS6, fun e => ?_, fun q hq => ?_, Kp.under HPR.out.below hK6 (fun q hq => ?_) HPR.out.below.size, HUP.out⟩
              · rcases e with e | e
                · exact hKP q hq e
                · exact (HPR.out.keep q hq).2.1 e
              · rcases hP6 _ e with e | e
                · exact hKP q hq e
                · have := (HPR.out.keep q hq).2.2; omega
              · rcases hP6 _ e with e | e
                · exact hnb e
                · omega
              · rcases hP6 _ hq with e | e
                · exact hPl q e
                · have := HPR.out.below.size; omega
              · rcases hq with e | e
                · exact hPl q e
                · rw [e]; exact HPR.out.gB
            clear hW6 hT6 hS6 hK6 hP6 HSE HUP HPR HRO HPP
            go_wp2_with fail
            go_meet
            exact ⟨aw, ne, cw, A.1, rfl, rfl, by omega, HWS.out⟩
  case rest =>
  obtain ⟨aw, ne, cw, f, rfl, rfl, hne, HWS⟩ := hcut
  obtain ⟨zs, x, N, P, p, e1, hN, hsub, hrt, hsz, hRow, hAp, hT, hS, hnb, hPl, hB, hUp⟩ := HWS.out
  obtain ⟨c, hU, hf0, hc2⟩ := hUp z2 cuts
  obtain ⟨hcl0, hcl1, hcl2, hcl3⟩ := upR_clean hU
  have HUPC := hid (Sim.up_any wc w.heap.size p z2 (.slice ca cl cc) cuts hS (HCUT.out.kp (L := No) (Kp.below hB) (fun _ h => h.elim)) (fun q hq hp => by have := hPl q hp; have hq' : q < w.heap.size := hq; omega))
  generalize Sim.pUp z2 cuts p = p1 at *
  have HX := hid (And.intro e1 (And.intro hsub (And.intro hrt (And.intro hsz (And.intro hRow (And.intro hAp (And.intro hT (And.intro hnb (And.intro hPl hB)))))))))
  have HC := hid (And.intro hcl0 (And.intro hcl1 (And.intro hcl2 hcl3)))
  have HF0 := hid (And.intro hf0 hc2)
  clear e1 hsub hrt hsz hRow hAp hT hS hnb hPl hB hUp hU hcl0 hcl1 hcl2 hcl3 hf0 hc2 HWS HCUT HIF
  go_wp2_with fail
  refine HUPC.out.mono ?_
  rintro e w5 ⟨rfl, P5, hS5, hK5, hP5⟩
  have HCLN := hid (clean_any w5 w.heap.size p1 hS5 (by have := HC.out.2.2.1; omega) HC.out.2.2.2)
  have HST5 : Hid (Sim.Row w5 40 34 (.slice aw ne cw) zs.length (recsC zs) ∧ (∀ q, (Value.slice aw ne cw).ownBlock = some q → ¬ P5 q ∧ q ≠ w1.heap.size ∧ w.heap.size ≤ q) ∧ TabX w5 w1.heap.size ∧ ¬ P5 w1.heap.size ∧ (∀ q, P5 q → w.heap.size ≤ q) ∧ Below w.heap.size w w5) := by
    obtain ⟨e1, hsub, hrt, hsz, hRow, hAp, hT, hnb, hPl, hB⟩ := HX.out
    have htl := hT.lt
    refine ⟨hRow.kp hK5 (fun q hq => (hAp q hq).1), fun q hq => ⟨fun e => ?_, (hAp q hq).2⟩, hT.kp hK5 hnb, fun e => ?_, fun q hq => ?_, Kp.under hB hK5 (fun q hq => hPl q hq) hB.size⟩
    · rcases hP5 _ e with e | e
      · exact (hAp q hq).1 e
      · have := hRow.lt q hq; omega
    · rcases hP5 _ e with e | e
      · exact hnb e
      · omega
    · rcases hP5 _ hq with e | e
      · exact hPl q e
      · have := hB.size; omega
  have HX1 : Hid (ne = zs.length ∧ (∀ z ∈ zs, z ∈ ys) ∧ (∀ r ∈ zs.map (·.1), Rt r) ∧ (cat (zs.map (·.1))).length ≤ 12000) := ⟨HX.out.1, HX.out.2.1, HX.out.2.2.1, HX.out.2.2.2.1⟩
  rw [HC.out.1] at HCLN
  obtain ⟨p2, hp2⟩ : ∃ p2, (cleanF ((pList p1).filter isTmp) 0 p1).2.2 = p2 := ⟨_, rfl⟩
  obtain ⟨cn, hcn⟩ : ∃ cn, (cleanF ((pList p1).filter isTmp) 0 p1).1 = cn := ⟨_, rfl⟩
  have HU2 := hid HC.out.2.1
  rw [hp2, hcn] at HCLN
  rw [hp2] at HU2
  clear hS5 hK5 hP5 hp2 hcn HX HC HUPC
  go_wp2_with fail
  refine HCLN.out.mono ?_
  rintro e w6 ⟨rfl, P6, hS6, hK6, hP6⟩
  have HST6 : Hid (Sim.Row w6 40 34 (.slice aw ne cw) zs.length (recsC zs) ∧ (∀ q, (Value.slice aw ne cw).ownBlock = some q → ¬ P6 q ∧ q ≠ w1.heap.size ∧ w.heap.size ≤ q) ∧ TabX w6 w1.heap.size ∧ ¬ P6 w1.heap.size ∧ (∀ q, P6 q → w.heap.size ≤ q) ∧ Below w.heap.size w w6) := by
    obtain ⟨hRow, hAp, hT, hnb, hPl, hB⟩ := HST5.out
    have htl := hT.lt
    refine ⟨hRow.kp hK6 (fun q hq => (hAp q hq).1), fun q hq => ⟨fun e => ?_, (hAp q hq).2⟩, hT.kp hK6 hnb, fun e => ?_, fun q hq => ?_, Kp.under hB hK6 (fun q hq => hPl q hq) hB.size⟩
    · rcases hP6 _ e with e | e
      · exact (hAp q hq).1 e
      · have := hRow.lt q hq; omega
    · rcases hP6 _ e with e | e
      · exact hnb e
      · omega
    · rcases hP6 _ hq with e | e
      · exact hPl q e
      · have := hB.size; omega
  have HS6 := hid hS6
  have HTMP := hid (temps_any w6 w.heap.size p2 hS6)
  have hft : (pList p2).filter isTmp = [] := by
    rw [HU2.out.list]
    by_cases hc : c = 2
    · rw [if_pos hc]; simp [isTmp_P3]
    · rw [if_neg hc]; simp
  rw [hft] at HTMP
  clear hS6 hK6 hP6 hft HCLN HST5
  go_wp2_with fail
  refine HTMP.out.mono ?_
  rintro e w7 ⟨u, rfl, hu, _, hk7⟩
  obtain ⟨ua, uc, rfl, _⟩ := OwnN.form hu
  have HST7 : Hid (Sim.Row w7 40 34 (.slice aw ne cw) zs.length (recsC zs) ∧ TabX w7 w1.heap.size ∧ Below w.heap.size w w7) :=
    ⟨HST6.out.1.kept hk7, HST6.out.2.2.1.kp hk7 (fun h => h), HST6.out.2.2.2.2.2.trans (hk7.toBelow'.mono HST6.out.2.2.2.2.2.size)⟩
  have HS7 := hid (HS6.out.kept hk7)
  have e0 : ([] : List Sim.Nm).length = 0 := rfl
  rw [e0]
  clear hu hk7 HTMP e0
  have HRN := hid HST6.out.2.1
  have HNB := hid HST6.out.2.2.2.1
  by_cases hc : c = 2
  · subst hc
    have HU3 := HU2
    rw [if_pos rfl] at HU3
    obtain ⟨hfi, hby⟩ := HU3.out.finds2 n3P
    have hbd := cat_bd HX1.out.2.2.1
    have HLOAD := hid (load_any w7 w.heap.size w1.heap.size p2 3 (by omega) (by omega) HS7.out HST7.out.2.1 (by rw [hby]; exact nats_lt _ hbd) (by rw [hby, nats_length]; have := HX1.out.2.2.2; omega))
    have hsc := scanF_cat (rs := zs.map (·.1)) (c := (cat (zs.map (·.1))).length) HX1.out.2.2.1 (Nat.le_refl _)
    rw [List.take_length, cnt_all _ _ (Nat.le_refl _), List.take_length, if_pos rfl] at hsc
    rw [hfi, hby, ints_nats _ hbd, hsc] at HLOAD
    have hzne := HF0.out.2 rfl
    have hzpos := List.length_pos_iff.2 hzne
    have hne0 : ¬ ((ne : Int) = 0) := by have := HX1.out.1; omega
    have hnep : 0 < ne := by have := HX1.out.1; omega
    have hneb : ((ne : Int) == 0) = false := by simp only [beq_eq_false_iff_ne]; exact hne0
    clear hfi hby hbd hsc HU2 HU3 hzne hzpos
    go_wp2_with fail
    refine HLOAD.out.mono ?_
    rintro e w8 ⟨hl, hk8, ht8⟩
    have hl' : ∃ ag cg, e = .returned (.tuple #[.slice ag ne cg, .int .i64 0]) ∧ PRow 92 w7.heap.size w1.heap.size w8 (.slice ag ne cg) (itemsOf 0 (zs.map (·.1))) := by
      have hlen : (itemsOf 0 (zs.map (·.1))).length = ne := by rw [itemsOf_length, List.length_map, HX1.out.1]
      rcases hl with ⟨h, _⟩ | ⟨_, h, _⟩ | ⟨_, _, _, a', c', h1, h2⟩
      · exact absurd rfl h
      · rcases h with h | h
        · exact absurd rfl h
        · have h' : itemsOf 0 (zs.map (·.1)) = [] := h
          rw [h'] at hlen
          simp at hlen
          omega
      · dsimp only at h1 h2
        rw [hlen] at h1 h2
        exact ⟨a', c', h1, h2⟩
    obtain ⟨ag, cg, rfl, hpr⟩ := hl'
    have hB8 := Crc.Kept.toBelow HST7.out.2.2 hk8 HBR.out
    have hR8 : Sim.Row w8 40 34 (.slice aw ne cw) zs.length (recsC zs) := HST7.out.1.kp (kp_kept hk8) (fun q hq => (HRN.out q hq).2.1)
    have HG8 := hid (And.intro hpr (And.intro hB8 (And.intro hR8 ht8)))
    have HL7 : Hid (w1.heap.size < w7.heap.size) := HST7.out.2.1.lt
    obtain ⟨gw, rfl⟩ : ∃ gw, aw = some ⟨gw, 0, none⟩ := by
      obtain ⟨a', c', h1, _, _, h2, h3⟩ := Sim.Row.shape hR8
      simp only [Value.slice.injEq] at h1
      obtain ⟨rfl, _, _⟩ := h1
      cases aw with
      | none => have := (h2 rfl).1; have := HX1.out.1; omega
      | some q =>
        obtain ⟨gq, oq, sq⟩ := q
        obtain ⟨h4, h5⟩ := h3 _ rfl
        simp only at h4 h5
        subst h4 h5
        exact ⟨gq, rfl⟩
    clear hl hk8 ht8 hpr hB8 hR8 HLOAD HS7 HST7 HST6 HS6
    go_wp2_with fail
    go_loopw [23] (fun i wr => ∃ (j : Nat), j ≤ ne ∧ i = .int .i64 (j : Int) ∧ Hid (Below w8.heap.size w8 wr)) (fun i _ => ne - (intOf i).toNat)
    case atStart => exact ⟨0, Nat.zero_le _, rfl, Below.refl _ _⟩
    case round =>
      obtain ⟨j, hj, rfl, HS⟩ := hrel
      by_cases hjm : j < ne
      · have hjI : (j : Int) < (ne : Int) := by omega
        obtain ⟨hpr, hB8, hR8, ht8⟩ := HG8.out
        obtain ⟨y, hy⟩ : ∃ y, zs[j]? = some y := ⟨_, List.getElem?_eq_getElem (by have := HX1.out.1; omega)⟩
        have hyr : (zs.map (·.1))[j]? = some y.1 := by rw [List.getElem?_map, hy]; rfl
        have hRt : Rt y.1 := HX1.out.2.2.1 y.1 (List.mem_of_getElem? hyr)
        have hym := HX1.out.2.1 y (List.mem_of_getElem? hy)
        have hit := itemsOf_get 0 _ j y.1 hyr
        obtain ⟨gg, cgg, a', c', hsl, hgb, hgl, hnm, hrg, hbg⟩ := hpr.get j _ hit
        simp only [Value.slice.injEq] at hsl
        obtain ⟨rfl, hq0, rfl⟩ := hsl
        have HXO := hid (HOK.out y hym)
        have HXY := hid (HBY.out y hym)
        have hgwl := hR8.lt gw rfl
        have hrw : w8.rangeAt gw (j * 34) (elC y) := fun i v hv => by
          have hi : i < 34 := by have := (List.getElem?_eq_some_iff.1 hv).1; rwa [elC_length HXO.out] at this
          have hzok : ∀ z ∈ zs, elOk z := fun z hz => HOK.out z (HX1.out.2.1 z hz)
          have hne' := HX1.out.1
          have hR8' : Sim.Row w8 40 34 (.slice (some ⟨gw, 0, none⟩) ne cw) ne (recsC zs) := by rw [← hne'] at hR8; exact hR8
          rw [hR8'.cellAt (j * 34 + i) (by omega), recsC_at zs j y i hzok hy hi]
          exact hv
        have HCG : Hid (∀ V, Below w8.heap.size w8 V → V.rangeAt gg (j * 36 + 2) (recA y.1.1 y.1.2.1 (.slice a' y.1.2.2.length c'))) := fun V hV i q hq => by
          rw [hV.cell (p := ⟨gg, j * 36 + 2 + i, none⟩) hgl, Nat.add_assoc]
          exact hrg (2 + i) q (by rw [Nat.add_comm 2 i]; exact hq)
        have HRW : Hid (∀ V, Below w8.heap.size w8 V → V.rangeAt gw (j * 34) (elC y)) := fun V hV => rangeAt_below hrw hV hgwl
        have HNM : Hid (y.1.2.1.length = 32 ∧ ∀ z ∈ y.1.2.1, 0 ≤ z ∧ z ≤ 255) := ⟨hRt.2.2.2.1, hRt.2.2.2.2.1⟩
        obtain ⟨C1, hC1⟩ : ∃ C1, recA y.1.1 y.1.2.1 (.slice a' y.1.2.2.length c') = C1 := ⟨_, rfl⟩
        have HC1I : Hid ((Tryz.prog.info? 52).map (·.size) = some C1.length) := by rw [Hid, ← hC1, recA_length _ _ _ HNM.out.1]; exact Tryz.info35
        obtain ⟨D, hD⟩ : ∃ D, elC y = D := ⟨_, rfl⟩
        have HDI : Hid ((Tryz.prog.info? 40).map (·.size) = some D.length) := by rw [Hid, ← hD, elC_length HXO.out]; exact Tryz.info26
        rw [hC1] at HCG
        rw [hD] at HRW
        have HBK : Hid (∀ V, Calls Tryz.prog 30 #[.agg C1.toArray] V fun e w' => e = .returned (.agg C1.toArray) ∧ Below V.heap.size V w') := fun V => by
          have h := back23_any y.1.1 y.1.2.1 a' y.1.2.2.length c' V HNM.out.1
          rwa [hC1] at h
        have HSM : Hid (∀ V, Below w8.heap.size w8 V → Calls Tryz.prog 29 #[.agg C1.toArray, .agg D.toArray] V fun e w' => e = .returned (.bool true) ∧ Below V.heap.size V w') := fun V hV => by
          have hkk : Below w.heap.size w V := hB8.trans (hV.mono hB8.size)
          have h := same18_any y.1.1 y.1.1 y.1.2.1 y.1.2.1 y.1.2.2 y.1.2.2 (.slice a' y.1.2.2.length c') (elV y) V HNM.out.1 HXO.out.1 HNM.out.2 HXO.out.2
            ((BySlS.below hbg hV (fun g hg => hg.2.2.1)).to (fun g hg => Nat.lt_of_lt_of_le hg.2.2.1 hV.size)) (HXY.out.agree (Agree.below hkk) (Nat.le_refl _) hkk.size)
          rw [hC1, show recA y.1.1 y.1.2.1 (elV y) = D from hD, show sameR y.1.1 y.1.1 y.1.2.1 y.1.2.1 y.1.2.2 y.1.2.2 = true from by simp [sameR]] at h
          exact h
        clear hq0 hrg hrw hbg hnm hRt hit hyr hy hgb hgl hgwl hC1 hD hpr hB8 hR8 ht8 hym HXO HXY HNM
        go_wp2_with fail
        refine wp_region_held_drew (S := fun V => Below w8.heap.size w8 V) (by kernel_rfl) HS.out.drew (fun hHeld => ?_)
        refine wpAnyH_take (i := 0) (oi := { dst := some 137, op := Op.move (Operand.tmp 21), type := 56, pos := "law.go:154", after := #[], guard := none }) (v := .slice (some ⟨gg, 0, none⟩) ne cg) rfl (by kernel_rfl) (by kernel_rfl) (by kernel_rfl) (fun _ _ _ h => h) (Or.inl ⟨by rfl, fun w' hw' => by (clear hw'; go_simp)⟩) hHeld ?_
        simp only [Act.put, List.setIfInBounds_toArray, List.set_cons_zero, List.set_cons_succ]
        refine wpAnyH_take (i := 1) (oi := { dst := some 138, op := Op.move (Operand.tmp 23), type := 3, pos := "law.go:154", after := #[], guard := none }) (v := .int .i64 (j : Int)) rfl (by kernel_rfl) (by kernel_rfl) (by kernel_rfl) (fun _ _ _ h => h) (Or.inl ⟨by rfl, fun w' hw' => by (clear hw'; go_simp)⟩) hHeld ?_
        simp only [Act.put, List.setIfInBounds_toArray, List.set_cons_zero, List.set_cons_succ]
        refine wpAnyH_take (i := 2) (oi := { dst := some 139, op := Op.indexAddr 56 (Operand.tmp 137) (Operand.tmp 138), type := 0, pos := "law.go:154", after := #[{ on := 0, ground := Ground.data }, { on := 1, ground := Ground.data }], guard := none }) (v := .pointer (some ⟨gg, j * 36, none⟩)) rfl (by kernel_rfl) (by kernel_rfl) (by kernel_rfl) (fun _ _ _ h => h) (Or.inl ⟨by rfl, fun w' hw' => by (clear hw'; go_simp)⟩) hHeld ?_
        simp only [Act.put, List.setIfInBounds_toArray, List.set_cons_zero, List.set_cons_succ]
        refine wpAnyH_take (i := 3) (oi := { dst := some 140, op := Op.fieldAddr 92 (Operand.tmp 139) 2, type := 0, pos := "law.go:154", after := #[{ on := 2, ground := Ground.data }], guard := none }) (v := .pointer (some ⟨gg, j * 36 + 2, none⟩)) rfl (by kernel_rfl) (by kernel_rfl) (by kernel_rfl) (fun _ _ _ h => h) (Or.inl ⟨by rfl, fun w' hw' => by (clear hw'; go_simp)⟩) hHeld ?_
        simp only [Act.put, List.setIfInBounds_toArray, List.set_cons_zero, List.set_cons_succ]
        refine wpAnyH_take (i := 4) (oi := { dst := some 141, op := Op.load 52 (Operand.tmp 140), type := 52, pos := "law.go:154", after := #[{ on := 3, ground := Ground.data }], guard := none }) (v := .agg C1.toArray) rfl (by kernel_rfl) (by kernel_rfl) (by kernel_rfl) (fun _ _ _ h => h) (yieldsIf_load_mid (by rfl) _ _ rfl gg (j * 36 + 2) rfl C1 _ (HCG.out) Tryz.underlying52 rfl HC1I.out) hHeld ?_
        simp only [Act.put, List.setIfInBounds_toArray, List.set_cons_zero, List.set_cons_succ]
        refine wpAnyH_take (i := 6) (oi := { dst := some 143, op := Op.move (Operand.tmp 12), type := 87, pos := "law.go:154", after := #[], guard := none }) (v := .slice (some ⟨gw, 0, none⟩) ne cw) rfl (by kernel_rfl) (by kernel_rfl) (by kernel_rfl) (fun _ _ _ h => h) (Or.inl ⟨by rfl, fun w' hw' => by (clear hw'; go_simp)⟩) hHeld ?_
        simp only [Act.put, List.setIfInBounds_toArray, List.set_cons_zero, List.set_cons_succ]
        refine wpAnyH_take (i := 7) (oi := { dst := some 144, op := Op.move (Operand.tmp 23), type := 3, pos := "law.go:154", after := #[], guard := none }) (v := .int .i64 (j : Int)) rfl (by kernel_rfl) (by kernel_rfl) (by kernel_rfl) (fun _ _ _ h => h) (Or.inl ⟨by rfl, fun w' hw' => by (clear hw'; go_simp)⟩) hHeld ?_
        simp only [Act.put, List.setIfInBounds_toArray, List.set_cons_zero, List.set_cons_succ]
        refine wpAnyH_take (i := 8) (oi := { dst := some 145, op := Op.indexAddr 87 (Operand.tmp 143) (Operand.tmp 144), type := 0, pos := "law.go:154", after := #[{ on := 6, ground := Ground.data }, { on := 7, ground := Ground.data }], guard := none }) (v := .pointer (some ⟨gw, j * 34, none⟩)) rfl (by kernel_rfl) (by kernel_rfl) (by kernel_rfl) (fun _ _ _ h => h) (Or.inl ⟨by rfl, fun w' hw' => by (clear hw'; go_simp)⟩) hHeld ?_
        simp only [Act.put, List.setIfInBounds_toArray, List.set_cons_zero, List.set_cons_succ]
        refine wpAnyH_take (i := 9) (oi := { dst := some 146, op := Op.load 40 (Operand.tmp 145), type := 40, pos := "law.go:154", after := #[{ on := 8, ground := Ground.data }], guard := none }) (v := .agg D.toArray) rfl (by kernel_rfl) (by kernel_rfl) (by kernel_rfl) (fun _ _ _ h => h) (yieldsIf_load_mid (by rfl) _ _ rfl gw (j * 34) rfl D _ (HRW.out) Tryz.underlying40 rfl HDI.out) hHeld ?_
        simp only [Act.put, List.setIfInBounds_toArray, List.set_cons_zero, List.set_cons_succ]
        refine wpAnyH_ready (rs := [5]) (by kernel_rfl) (by simp) ?_
        refine AllReadyH.cons (o := { dst := some 142, op := Op.call { callee := Callee.value (Operand.func 30), args := #[Operand.tmp 141], argTypes := #[52] }, type := 40, pos := "law.go:154", after := #[{ on := 4, ground := Ground.data }], guard := none }) rfl (fun K hK => ?_) AllReadyH.nil
        go_simp
        refine (HBK.out _).mono ?_
        rintro e v1 ⟨rfl, hb1⟩
        have K1 : Hid (Below w8.heap.size w8 v1) := HS.out.drew.trans (hb1.mono HS.out.size)
        clear hb1
        go_wp2_with fail
        refine hK.out _ _ (K1.out) (fun hh => ?_)
        clear hK K hHeld
        have hHeld := hh
        clear hh
        try simp only [Act.put, List.setIfInBounds_toArray, List.set_cons_zero, List.set_cons_succ]
        refine wpAnyH_ready (rs := [10]) (by kernel_rfl) (by simp) ?_
        refine AllReadyH.cons (o := { dst := some 147, op := Op.call { callee := Callee.value (Operand.func 29), args := #[Operand.tmp 142, Operand.tmp 146], argTypes := #[40, 40] }, type := 4, pos := "law.go:154", after := #[{ on := 5, ground := Ground.data }, { on := 9, ground := Ground.data }, { on := 5, ground := Ground.chain }], guard := none }) rfl (fun K hK => ?_) AllReadyH.nil
        go_simp
        refine (HSM.out _ K1.out).mono ?_
        rintro e v2 ⟨rfl, hb2⟩
        have K2 : Hid (Below w8.heap.size w8 v2) := K1.out.trans (hb2.mono K1.out.size)
        clear hb2
        go_wp2_with fail
        refine hK.out _ _ (K2.out) (fun hh => ?_)
        clear hK K hHeld
        have hHeld := hh
        clear hh
        try simp only [Act.put, List.setIfInBounds_toArray, List.set_cons_zero, List.set_cons_succ]
        refine wpAnyH_take (i := 11) (oi := { dst := some 148, op := Op.unOp UnOp.not 4 (Operand.tmp 147), type := 4, pos := "law.go:154", after := #[{ on := 10, ground := Ground.data }], guard := none }) (v := .bool false) rfl (by kernel_rfl) (by kernel_rfl) (by kernel_rfl) (fun _ _ _ h => h) (Or.inl ⟨by rfl, fun w' hw' => by (clear hw'; go_simp)⟩) hHeld ?_
        simp only [Act.put, List.setIfInBounds_toArray, List.set_cons_zero, List.set_cons_succ]
        refine wpAnyH_done (by kernel_rfl) ?_ _
        go_wp2_with fail
        go_round
        case rel => exact ⟨j + 1, by omega, by go_num, K2.out⟩
        case measure => simp [intOf]; omega
      · have hjI : ¬ (j : Int) < (ne : Int) := by omega
        have HB9 : Hid (Below w.heap.size w wr) := HG8.out.2.1.trans (HS.out.mono HG8.out.2.1.size)
        go_wp2_with fail
        refine (alive_any wr).mono ?_
        rintro e w9 ⟨rfl, h9⟩
        have HB10 : Hid (Below w.heap.size w w9) := HB9.out.trans (h9.mono HB9.out.size)
        clear h9
        go_wp2_with fail
        go_ret
        exact ⟨rfl, HB10.out⟩
  · have HU3 := HU2
    rw [if_neg hc] at HU3
    have hfi := HU3.out.finds0 n3P
    have hby : pBytes (nm (nameP 3)) p2 = [] := by rw [Sim.pBytes, hfi, if_pos (by omega)]
    have HLOAD := hid (load_any w7 w.heap.size w1.heap.size p2 3 (by omega) (by omega) HS7.out HST7.out.2.1 (by rw [hby]; intro x hx; cases hx) (by rw [hby]; simp))
    rw [hfi] at HLOAD
    have hf : ¬ f = 0 := fun e => hc (HF0.out.1 e)
    have hfb : (f == 0) = false := by simp [hf]
    have hfn : (f != 0) = true := by simp [hf]
    have HPL : Hid (pList p2 = []) := by have := HU3.out.list; rw [Hid]; simpa using this
    clear hfi hby HU2 HU3 hc
    go_wp2_with fail
    refine HLOAD.out.mono ?_
    rintro e w8 ⟨hl, hk8, ht8⟩
    have hl' : e = .returned (.tuple #[.slice none 0 0, .int .i64 5]) := by
      rcases hl with ⟨_, h⟩ | ⟨h, _⟩ | ⟨h, _⟩
      · exact h
      · omega
      · omega
    subst hl'
    have HB8 := hid (Crc.Kept.toBelow HST7.out.2.2 hk8 HBR.out)
    have HIDS := hid (ids_empty w8 w.heap.size p2 (sys_kept HS7.out hk8 HNB.out) HPL.out)
    clear hl hk8 ht8 HLOAD HS7 HST7 HST6 HS6
    go_wp2_with fail
    refine HIDS.out.mono ?_
    rintro e w9 ⟨rfl, hk9⟩
    have HB9 : Hid (Below w.heap.size w w9) := HB8.out.trans (hk9.toBelow'.mono HB8.out.size)
    clear hk9 HIDS
    go_wp2_with fail
    refine (alive_any w9).mono ?_
    rintro e w10 ⟨rfl, h10⟩
    have HB10 : Hid (Below w.heap.size w w10) := HB9.out.trans (h10.mono HB9.out.size)
    clear h10
    go_wp2_with fail
    go_ret
    exact ⟨rfl, HB10.out⟩
end Go.Proofs.YtkekajmmcjacgaaGreatDoor
end

section
/-
  Calls of a script that came in, opened; are they few, and short?
-/
namespace Go.Proofs.YtkekajmmcjacgaaGreatDoor.Sim
open Go.RowKit Go.ChangeShapes Go.WideShapes

theorem mapM_get {α β : Type} {f : α → Option β} : ∀ (L : List α) (ys : List β), L.mapM f = some ys → ∀ i : Nat, ys[i]? = (L[i]?).bind f
  | [], ys, h, i => by
    simp only [List.mapM_nil, pure, Option.some.injEq] at h
    subst h
    simp
  | a :: L, ys, h, i => by
    rw [List.mapM_cons] at h
    simp only [bind, Option.bind_eq_some_iff, pure, Option.some.injEq] at h
    obtain ⟨y, hy, zs, hzs, rfl⟩ := h
    cases i with
    | zero => simp [hy]
    | succ i => simpa using mapM_get L zs hzs i
theorem cells_get {w : World} {base n : Nat} {a : Addr} {cs : List Value} (h : w.cells? base a n = some cs) (i : Nat) (hi : i < n) : w.cell? (a.add i) = cs[i]? := by
  unfold World.cells? at h
  split at h
  · have := mapM_get _ _ h i
    rw [List.getElem?_range hi] at this
    exact this.symm
  · cases h
theorem spot_none {w : World} {x : Addr} {v : Value} (c0 : w.cell? (x.add 0) = some v) : x.spot = none := by
  have e : x.add 0 = x := rfl
  rw [e] at c0
  unfold World.cell? at c0
  split at c0
  · split at c0
    · cases c0
    · rename_i hs; simpa using hs
  · cases c0
theorem u8_wf {y : Int} (h : (Lit.int .u8 y).wf = true) : 0 ≤ y ∧ y ≤ 255 := by
  have hmin : IntKind.u8.min = 0 := rfl
  have hmax : IntKind.u8.max = 255 := rfl
  simp only [Lit.wf, Bool.and_eq_true, decide_eq_true_eq] at h
  omega
theorem i64_wf {y : Int} (h : (Lit.int .i64 y).wf = true) : -9223372036854775808 ≤ y ∧ y ≤ 9223372036854775807 := by
  have hmin : IntKind.i64.min = -9223372036854775808 := rfl
  have hmax : IntKind.i64.max = 9223372036854775807 := rfl
  simp only [Lit.wf, Bool.and_eq_true, decide_eq_true_eq] at h
  omega

/-- A slice of numbers, as it came in. -/
def InR (q : IntKind) (W : World) (a : Option Addr) (l c : Nat) : Prop :=
  (a = none ∧ l = 0 ∧ c = 0) ∨ ∃ (y : Addr) (zs : List Int), a = some y ∧ l ≤ c ∧ c ≤ maxLen ∧ zs.length = c ∧ (∀ i, i < zs.length → W.cell? (y.add i) = some (.int q (zs.getD i 0))) ∧ ∀ n ∈ zs, (Lit.int q n).wf = true
theorem InR.le {q : IntKind} {W : World} {a : Option Addr} {l c : Nat} (h : InR q W a l c) : l ≤ 9223372036854775807 := by
  rcases h with ⟨_, rfl, _⟩ | ⟨_, _, _, h1, h2, _⟩
  · omega
  · unfold maxLen at h2; omega
/-- Its numbers, and where they lie. -/
theorem InR.nums {q : IntKind} {w : World} {a : Option Addr} {len cap : Nat} (h : InR q w a len cap) : ∃ zs : List Int, zs.length = len ∧ len ≤ cap ∧ cap ≤ maxLen ∧ (a = none → zs = [] ∧ cap = 0) ∧ (∀ z ∈ zs, (Lit.int q z).wf = true) ∧
    (zs ≠ [] → ∃ g o, a = some ⟨g, o, none⟩ ∧ g < w.heap.size ∧ ∀ i, i < zs.length → w.cell? ⟨g, o + i, none⟩ = some (.int q (zs.getD i 0))) := by
  rcases h with ⟨rfl, rfl, rfl⟩ | ⟨x, zs, rfl, h1, h2, h3, h4, h5⟩
  · exact ⟨[], rfl, Nat.le_refl _, Nat.zero_le _, fun _ => ⟨rfl, rfl⟩, by simp, fun h => absurd rfl h⟩
  · have hlen : (zs.take len).length = len := List.length_take_of_le (by omega)
    refine ⟨zs.take len, hlen, h1, h2, by simp, fun z hz => h5 z (List.mem_of_mem_take hz), fun hne => ?_⟩
    have hpos : 0 < len := by have := List.length_pos_iff.2 hne; omega
    have c0 := h4 0 (by omega)
    have hx := spot_none c0
    obtain ⟨b, o, s⟩ := x
    simp only at hx
    subst hx
    refine ⟨b, o, rfl, World.block_lt_of_cell? w _ c0, fun i hi => ?_⟩
    have := h4 i (by omega)
    rw [addr_add] at this
    rw [this]
    rw [hlen] at hi
    simp [hi]
theorem InR.bytes {w : World} {a : Option Addr} {len cap : Nat} (h : InR .u8 w a len cap) (hle : len ≤ 140737488355328) : ∃ bs : List Nat, bs.length = len ∧ ByP (· < w.heap.size) w (.slice a len cap) bs := by
  obtain ⟨zs, h1, h2, h3, h4, h5, h6⟩ := h.nums
  have hb : ∀ z ∈ zs, 0 ≤ z ∧ z ≤ 255 := fun z hz => u8_wf (h5 z hz)
  have hmap : (zs.map Int.toNat).length = len := by simpa using h1
  refine ⟨zs.map Int.toNat, hmap, a, cap, by rw [hmap], by omega, h3, fun ha => ?_, by omega, fun x hx => ?_, fun hne => ?_⟩
  · obtain ⟨e1, e2⟩ := h4 ha; subst e1; exact ⟨rfl, e2⟩
  · obtain ⟨z, hz, rfl⟩ := List.mem_map.1 hx
    have := hb z hz
    omega
  · obtain ⟨g, o, e, hg, hc⟩ := h6 (fun e => hne (by rw [e]; rfl))
    refine ⟨g, o, e, hg, hg, fun i hi => ?_⟩
    have hi' : i < zs.length := by simpa using hi
    rw [hc i hi', List.getD_eq_getElem?_getD, List.getD_eq_getElem?_getD, List.getElem?_map, List.getElem?_eq_getElem hi']
    have := hb _ (List.getElem_mem hi')
    simp only [Option.getD_some, Option.map_some]
    rw [Int.toNat_of_nonneg this.1]
theorem InR.ints {w : World} {a : Option Addr} {len cap : Nat} (h : InR .i64 w a len cap) (hl : len ≤ 1000) : ∃ zs : List Int, zs.length = len ∧ IntsAt (· < w.heap.size) w (.slice a len cap) zs := by
  obtain ⟨zs, h1, h2, h3, h4, h5, h6⟩ := h.nums
  refine ⟨zs, h1, a, cap, by rw [h1], by omega, h3, by omega, fun hne => ?_⟩
  obtain ⟨g, o, e, hg, hc⟩ := h6 hne
  exact ⟨g, o, e, hg, hg, hc⟩

/-- A call as it came in. -/
structure RawOp where
  k : Int
  s : ByteArray
  t : ByteArray
  a : Option Addr
  l : Nat
  c : Nat
  z : Int
  y : Nat
  a' : Option Addr
  l' : Nat
  c' : Nat
def RawOp.cells (o : RawOp) : List Value := [.int .i64 o.k, .string o.s, .string o.t, .slice o.a o.l o.c, .int .i64 o.z, .int .u8 (o.y : Int), .slice o.a' o.l' o.c']
structure RawOp.Ok (W : World) (o : RawOp) : Prop where
  k : -9223372036854775808 ≤ o.k ∧ o.k ≤ 9223372036854775807
  s : o.s.size ≤ maxLen
  t : o.t.size ≤ maxLen
  b : InR .u8 W o.a o.l o.c
  z : -9223372036854775808 ≤ o.z ∧ o.z ≤ 9223372036854775807
  y : o.y < 256
  n : InR .i64 W o.a' o.l' o.c'

theorem one_at {cs : List Value} {j : Nat} {v : Value} (h : (cs.drop j).take 1 = [v]) : cs[j]? = some v := by
  have := congrArg (fun l : List Value => l[0]?) h
  simpa [List.getElem?_take, List.getElem?_drop] using this
theorem in_of {H : Type} {enc : TypeId × Value → H} {W : World} {q : IntKind} {t e : TypeId} (ht : Tryz.prog.underlying t = some (.slice e)) (he : Tryz.prog.underlying e = some (.int q)) (hc : Tryz.prog.cellsOf e = 1) {fuel : Nat} {cs : List Value} {x : DataW H × List MemPlace}
    (h : DataW.trod enc Tryz.prog W 0 (fun _ => true) true fuel t cs = some x) : ∃ a l c, cs = [.slice a l c] ∧ InR q W a l c := by
  rcases open_ints ht he hc h with ⟨hcs, _⟩ | ⟨y, l, c, zs, hcs, _, hlc, hmx, hz, _, hcell, hwz⟩
  · exact ⟨none, 0, 0, hcs, .inl ⟨rfl, rfl, rfl⟩⟩
  · exact ⟨some y, l, c, hcs, .inr ⟨y, zs, rfl, hlc, hmx, by simpa using hz, hcell, hwz⟩⟩

set_option maxRecDepth 100000 in
/-- A call's cells that came in. -/
theorem op_cells {H : Type} {enc : TypeId × Value → H} {W : World} {fuel : Nat} {cs : List Value} {x : DataW H × List MemPlace} (h : DataW.trod enc Tryz.prog W 0 (fun _ => true) true fuel 43 cs = some x) :
    ∃ o : RawOp, cs = o.cells ∧ o.Ok W := by
  obtain ⟨xs, n, _, _, hl, hlen, hf⟩ := DataW.trod_struct Tryz.underlying43 h
  have e0 : Tryz.prog.cellsOf 43 = 7 := by kernel_rfl
  rw [e0] at hl
  have hx : ∀ j, j < 7 → ∃ y, xs[j]? = some y := fun j hj => ⟨xs[j]'(by rw [hlen]; exact hj), List.getElem?_eq_getElem _⟩
  have f0 := hf 0 _ rfl
  have f1 := hf 1 _ rfl
  have f2 := hf 2 _ rfl
  have f3 := hf 3 _ rfl
  have f4 := hf 4 _ rfl
  have f5 := hf 5 _ rfl
  have f6 := hf 6 _ rfl
  clear hf hlen
  obtain ⟨y0, h0⟩ := hx 0 (by omega)
  obtain ⟨y1, h1⟩ := hx 1 (by omega)
  obtain ⟨y2, h2⟩ := hx 2 (by omega)
  obtain ⟨y3, h3⟩ := hx 3 (by omega)
  obtain ⟨y4, h4⟩ := hx 4 (by omega)
  obtain ⟨y5, h5⟩ := hx 5 (by omega)
  obtain ⟨y6, h6⟩ := hx 6 (by omega)
  rw [h0] at f0
  rw [h1] at f1
  rw [h2] at f2
  rw [h3] at f3
  rw [h4] at f4
  rw [h5] at f5
  rw [h6] at f6
  obtain ⟨k, g0, _, w0⟩ := DataW.trod_int Tryz.underlying3 f0
  obtain ⟨s, g1, _, w1⟩ := DataW.trod_string Tryz.underlying9 f1
  obtain ⟨t, g2, _, w2⟩ := DataW.trod_string Tryz.underlying9 f2
  obtain ⟨a, l, c, g3, w3⟩ := in_of Tryz.underlying38 Tryz.underlying5 (by kernel_rfl) f3
  obtain ⟨z, g4, _, w4⟩ := DataW.trod_int Tryz.underlying3 f4
  obtain ⟨y, g5, _, w5⟩ := DataW.trod_int Tryz.underlying5 f5
  obtain ⟨a', l', c', g6, w6⟩ := in_of Tryz.underlying41 Tryz.underlying3 (by kernel_rfl) f6
  have hy := u8_wf w5
  refine ⟨⟨k, s, t, a, l, c, z, y.toNat, a', l', c'⟩, ?_, ⟨i64_wf w0, w1, w2, w3, i64_wf w4, by simp only; omega, w6⟩⟩
  have ey : ((y.toNat : Nat) : Int) = y := Int.toNat_of_nonneg hy.1
  apply List.ext_getElem?
  intro j
  by_cases hj : j < 7
  · rcases (by omega : j = 0 ∨ j = 1 ∨ j = 2 ∨ j = 3 ∨ j = 4 ∨ j = 5 ∨ j = 6) with rfl | rfl | rfl | rfl | rfl | rfl | rfl
    · exact one_at g0
    · exact one_at g1
    · exact one_at g2
    · exact one_at g3
    · exact one_at g4
    · exact (one_at g5).trans (by show _ = some (Value.int .u8 ((y.toNat : Nat) : Int)); rw [ey])
    · exact one_at g6
  · rw [List.getElem?_eq_none (by omega), List.getElem?_eq_none (by simp [RawOp.cells]; omega)]

set_option maxRecDepth 100000 in
/-- A script that came in. -/
theorem ops_of {H : Type} {enc : TypeId × Value → H} {W : World} {a0 : Option Addr} {len cap fuel : Nat} {x : DataW H × List MemPlace}
    (h : DataW.trod enc Tryz.prog W 0 (fun _ => true) true fuel 121 [.slice a0 len cap] = some x) :
    len ≤ maxLen ∧ ∃ ts : List RawOp, ts.length = len ∧ ∀ j t, ts[j]? = some t → t.Ok W ∧ ∃ g o, a0 = some ⟨g, o, none⟩ ∧ g < W.heap.size ∧ ∀ i v, t.cells[i]? = some v → W.cell? ⟨g, o + j * 7 + i, none⟩ = some v := by
  rcases Go.Deep.open_slice Tryz.underlying121 h with ⟨hcs, _⟩ | ⟨a, l, c, m, n, D, Pl, hcs, _, hl, hm, hmm, _, hr⟩
  · simp only [List.cons.injEq, Value.slice.injEq, and_true] at hcs
    obtain ⟨rfl, rfl, rfl⟩ := hcs
    exact ⟨Nat.zero_le _, [], rfl, fun j t h => by simp at h⟩
  · simp only [List.cons.injEq, Value.slice.injEq, and_true] at hcs
    obtain ⟨rfl, rfl, rfl⟩ := hcs
    simp only [if_true] at hmm
    subst hmm
    have e26 : Tryz.prog.cellsOf 43 = 7 := by kernel_rfl
    rw [e26] at hr
    refine ⟨by omega, ?_⟩
    have each : ∀ r, r < len → ∃ t : RawOp, t.Ok W ∧ ∀ i, i < 7 → W.cell? ((a.add (r * 7)).add i) = t.cells[i]? := by
      intro r hr1
      obtain ⟨cs', h1, h2⟩ := hr r (by omega)
      obtain ⟨t, rfl, hb⟩ := op_cells h2
      exact ⟨t, hb, fun i hi => cells_get h1 i hi⟩
    haveI : Inhabited RawOp := ⟨⟨0, ⟨#[]⟩, ⟨#[]⟩, none, 0, 0, 0, 0, none, 0, 0⟩⟩
    obtain ⟨y, hy⟩ := Go.Deep.choose_lt each
    refine ⟨(List.range len).map y, by simp, fun j t hj => ?_⟩
    have hjl : j < len := by
      have := (List.getElem?_eq_some_iff.1 hj).1
      simpa using this
    simp only [List.getElem?_map, List.getElem?_range hjl, Option.map_some, Option.some.injEq] at hj
    subst hj
    obtain ⟨h1, h3⟩ := hy j hjl
    refine ⟨h1, ?_⟩
    have h00 := (hy 0 (by omega)).2 0 (by omega)
    have ha : a.spot = none := by
      rw [Nat.zero_mul] at h00
      have e : (a.add 0) = a := rfl
      rw [e] at h00
      exact spot_none h00
    obtain ⟨b, o, s⟩ := a
    simp only at ha
    subst ha
    refine ⟨b, o, rfl, ?_, fun i v hv => ?_⟩
    · rw [addr_add, addr_add] at h00
      exact World.block_lt_of_cell? W _ h00
    · have hi : i < 7 := by
        have := (List.getElem?_eq_some_iff.1 hv).1
        simpa [RawOp.cells] using this
      have h := h3 i hi
      rw [addr_add, addr_add, hv] at h
      exact h

/-! ### Few, and short -/
def shortB (t : RawOp) : Bool := decide (t.s.size ≤ 60) && decide (t.t.size ≤ 60) && decide (t.l ≤ 200) && decide (t.l' ≤ 60)
def lightB (n : Nat) (ts : List RawOp) : Bool := decide (ts.length ≤ n) && ts.all shortB
/-- A script in memory. -/
def Ops (W : World) (a : Option Addr) (ts : List RawOp) : Prop := ∀ j t, ts[j]? = some t → t.Ok W ∧ ∃ g o, a = some ⟨g, o, none⟩ ∧ g < W.heap.size ∧ ∀ i v, t.cells[i]? = some v → W.cell? ⟨g, o + j * 7 + i, none⟩ = some v

set_option maxHeartbeats 1000000 in
set_option maxRecDepth 100000 in
theorem light_any (a : Option Addr) (cap : Nat) (ts : List RawOp) (n : Nat) (hn : n ≤ 1000) (w : World) (hm : ts.length ≤ 4611686018427387904) (h : Ops w a ts) :
    Calls Tryz.prog 62 #[.slice a ts.length cap, .int .i64 (n : Int)] w fun e w' => e = .returned (.bool (lightB n ts)) ∧ w' = w := by
  have H := hid h
  clear h
  by_cases h20 : ts.length ≤ n
  · have h20' : ¬ ((n : Int) < ts.length) := by omega
    go_enter Tryz.func62, Tryz.ntmps62
    go_wp2
    go_loop [5] (fun i => ∃ k : Nat, k ≤ ts.length ∧ i = .int .i64 k ∧ Hid (∀ t ∈ ts.take k, shortB t = true)) (fun i => ts.length - (intOf i).toNat)
    case atStart => exact ⟨0, Nat.zero_le _, rfl, fun t ht => by simp at ht⟩
    case round =>
      obtain ⟨k, hk, rfl, HJ⟩ := hrel
      by_cases hlt : k < ts.length
      · obtain ⟨hok, g, o, rfl, hg, hc⟩ := H.out k ts[k] (List.getElem?_eq_getElem hlt)
        have HN : Hid (shortB ts[k] = true → ∀ t ∈ ts.take (k + 1), shortB t = true) := by
          intro h t ht
          rw [List.take_succ_eq_append_getElem hlt] at ht
          rcases List.mem_append.1 ht with ht | ht
          · exact HJ.out t ht
          · rw [List.mem_singleton] at ht; rw [ht]; exact h
        have HB : Hid (shortB ts[k] = false → lightB n ts = false) := by
          intro h
          rw [lightB]
          have : ts.all shortB = false := by
            rw [List.all_eq_false]
            exact ⟨ts[k], List.getElem_mem hlt, by rw [h]; simp⟩
          rw [this, Bool.and_false]
        have c1 := hc 1 _ rfl
        have c2 := hc 2 _ rfl
        have c3 := hc 3 _ rfl
        have c6 := hc 6 _ rfl
        have d1 := hok.s
        have d2 := hok.t
        have d3 := hok.b.le
        have d6 := hok.n.le
        unfold maxLen at d1 d2
        have HS : Hid (shortB ts[k] = (decide (ts[k].s.size ≤ 60) && decide (ts[k].t.size ≤ 60) && decide (ts[k].l ≤ 200) && decide (ts[k].l' ≤ 60))) := rfl
        clear hok hc
        generalize ts[k].s = s1 at *
        generalize ts[k].t = s2 at *
        generalize ts[k].l = L1 at *
        generalize ts[k].l' = L2 at *
        generalize shortB ts[k] = B at *
        by_cases b1 : s1.size ≤ 60
        · have b1' : ¬ ((60 : Int) < s1.size) := by omega
          by_cases b2 : s2.size ≤ 60
          · have b2' : ¬ ((60 : Int) < s2.size) := by omega
            by_cases b3 : L1 ≤ 200
            · have b3' : ¬ ((200 : Int) < L1) := by omega
              by_cases b4 : L2 ≤ 60
              · have b4' : ¬ ((60 : Int) < L2) := by omega
                have HR := hid (HN.out (by rw [HS.out]; simp [b1, b2, b3, b4]))
                go_wp2
                go_round
                case rel => exact ⟨k + 1, by omega, by go_num, HR.out⟩
                case measure => simp [intOf]; omega
              · have b4' : (60 : Int) < L2 := by omega
                have HBB := hid (HB.out (by rw [HS.out]; simp [b4]))
                go_wp2
                go_ret
                exact ⟨by rw [HBB.out]; rfl, rfl⟩
            · have b3' : (200 : Int) < L1 := by omega
              have HBB := hid (HB.out (by rw [HS.out]; simp [b3]))
              go_wp2
              go_ret
              exact ⟨by rw [HBB.out]; rfl, rfl⟩
          · have b2' : (60 : Int) < s2.size := by omega
            have HBB := hid (HB.out (by rw [HS.out]; simp [b2]))
            go_wp2
            go_ret
            exact ⟨by rw [HBB.out]; rfl, rfl⟩
        · have b1' : (60 : Int) < s1.size := by omega
          have HBB := hid (HB.out (by rw [HS.out]; simp [b1]))
          go_wp2
          go_ret
          exact ⟨by rw [HBB.out]; rfl, rfl⟩
      · have HBB : Hid (lightB n ts = true) := by
          have hk' : k = ts.length := by omega
          rw [Hid, lightB]
          simp only [Bool.and_eq_true, decide_eq_true_eq, List.all_eq_true]
          refine ⟨h20, fun t ht => HJ.out t ?_⟩
          rw [hk', List.take_length]
          exact ht
        go_wp2
        go_ret
        exact ⟨by rw [HBB.out]; rfl, rfl⟩
  · have h20' : (n : Int) < ts.length := by omega
    have HBB : Hid (lightB n ts = false) := by rw [Hid, lightB, decide_eq_false h20, Bool.false_and]
    clear h20
    go_enter Tryz.func62, Tryz.ntmps62
    go_wp2
    go_ret
    exact ⟨by rw [HBB.out]; rfl, rfl⟩

end Go.Proofs.YtkekajmmcjacgaaGreatDoor.Sim
end

section
/-
  Records that came in, opened.
-/
namespace Go.Proofs.YtkekajmmcjacgaaGreatDoor
open Go.RowKit Go.ChangeShapes Go.WideShapes

theorem mapM_each {α β : Type} {f : α → Option β} : ∀ (L : List α) (ys : List β), L.mapM f = some ys → ∀ i ∈ L, ∃ y, f i = some y
  | [], _, _, i, hi => by simp at hi
  | a :: L, ys, h, i, hi => by
    rw [List.mapM_cons] at h
    simp only [bind, Option.bind_eq_some_iff, pure, Option.some.injEq] at h
    obtain ⟨y, hy, zs, hzs, _⟩ := h
    rcases List.mem_cons.1 hi with rfl | hi
    · exact ⟨y, hy⟩
    · exact mapM_each L zs hzs i hi

section
variable {H : Type} {enc : TypeId × Value → H} {P : Program} {W : World} {base : Nat} {sp : Nat → Bool} {held : Bool} {t e : TypeId} {n : Nat} {q : IntKind}
/-- The cells of an array of integers that came in. -/
theorem arr_ints (hu : P.underlying t = some (.array n e)) (he : P.underlying e = some (.int q)) (h1 : P.cellsOf e = 1) {fuel : Nat} {cs : List Value} {x : DataW H × List MemPlace} (hl : cs.length = n)
    (h : DataW.trod enc P W base sp held fuel t cs = some x) : ∃ zs : List Int, cs = zs.map (fun z => Value.int q z) ∧ zs.length = n ∧ ∀ z ∈ zs, (Lit.int q z).wf = true := by
  cases fuel with
  | zero => simp [DataW.trod] at h
  | succ m =>
    rw [DataW.trod_step] at h
    unfold DataW.trodStep at h
    simp only [hu] at h
    split at h
    · simp only [Option.map_eq_some_iff] at h
      obtain ⟨ys, hy, _⟩ := h
      have hE : ∀ i, i < n → ∃ z, cs[i]? = some (.int q z) ∧ (Lit.int q z).wf = true := fun i hi => by
        obtain ⟨y, hy⟩ := mapM_each _ ys hy i (List.mem_range.2 hi)
        obtain ⟨a, ea, _, wa⟩ := DataW.trod_int he hy
        rw [h1, Nat.mul_one] at ea
        refine ⟨a, ?_, wa⟩
        have h := congrArg (fun l : List Value => l[0]?) ea
        simpa [List.getElem?_take, List.getElem?_drop] using h
      refine ⟨cs.map intOf, ?_, by simpa using hl, ?_⟩
      · apply List.ext_getElem?
        intro i
        by_cases hi : i < n
        · obtain ⟨z, hz, _⟩ := hE i hi
          simp [hz, intOf]
        · have : cs[i]? = none := List.getElem?_eq_none (by omega)
          simp [this]
      · intro z hz
        obtain ⟨x, hx, rfl⟩ := List.mem_map.1 hz
        obtain ⟨i, hi, rfl⟩ := List.getElem_of_mem hx
        obtain ⟨z, hz, hw⟩ := hE i (by omega)
        rw [List.getElem?_eq_getElem hi] at hz
        simp only [Option.some.injEq] at hz
        rw [hz]
        exact hw
    · simp at h
end

/-- A slice of bytes, as it came in. -/
def InRow (W : World) (a : Option Addr) (l c : Nat) : Prop :=
  (a = none ∧ l = 0 ∧ c = 0) ∨ ∃ (y : Addr) (zs : List Int), a = some y ∧ l ≤ c ∧ c ≤ maxLen ∧ zs.length = c ∧ (∀ i, i < zs.length → W.cell? (y.add i) = some (.int .u8 (zs.getD i 0))) ∧ ∀ n ∈ zs, (Lit.int .u8 n).wf = true

theorem InRow.le {W : World} {a : Option Addr} {l c : Nat} (h : InRow W a l c) : l ≤ 9223372036854775807 := by
  rcases h with ⟨_, rfl, _⟩ | ⟨_, _, _, h1, h2, _⟩
  · omega
  · unfold maxLen at h2; omega

theorem spot_none {w : World} {x : Addr} {v : Value} (c0 : w.cell? (x.add 0) = some v) : x.spot = none := by
  have e : x.add 0 = x := rfl
  rw [e] at c0
  unfold World.cell? at c0
  split at c0
  · split at c0
    · cases c0
    · rename_i hs; simpa using hs
  · cases c0

theorem addr_plus (g o i : Nat) : (⟨g, o, none⟩ : Addr).add i = ⟨g, o + i, none⟩ := by unfold Addr.add; split <;> simp_all

theorem u8_wf {y : Int} (h : (Lit.int .u8 y).wf = true) : 0 ≤ y ∧ y ≤ 255 := by
  have hmin : IntKind.u8.min = 0 := rfl
  have hmax : IntKind.u8.max = 255 := rfl
  simp only [Lit.wf, Bool.and_eq_true, decide_eq_true_eq] at h
  omega

theorem i64_wf {y : Int} (h : (Lit.int .i64 y).wf = true) : -9223372036854775808 ≤ y ∧ y ≤ 9223372036854775807 := by
  have hmin : IntKind.i64.min = -9223372036854775808 := rfl
  have hmax : IntKind.i64.max = 9223372036854775807 := rfl
  simp only [Lit.wf, Bool.and_eq_true, decide_eq_true_eq] at h
  omega
theorem u32_wf {y : Int} (h : (Lit.int .u32 y).wf = true) : 0 ≤ y ∧ y ≤ 4294967295 := by
  have hmin : IntKind.u32.min = 0 := rfl
  have hmax : IntKind.u32.max = 4294967295 := rfl
  simp only [Lit.wf, Bool.and_eq_true, decide_eq_true_eq] at h
  omega

theorem InRow.bytes {w : World} {a : Option Addr} {len cap : Nat} (h : InRow w a len cap) (hl : len ≤ 140737488355328) : ∃ bs : List Int, bs.length = len ∧ Tlv.BySl 0 w.heap.size w (.slice a len cap) bs := by
  rcases h with ⟨rfl, rfl, rfl⟩ | ⟨x, zs, rfl, h1, h2, h3, h4, h5⟩
  · exact ⟨[], rfl, Tlv.BySl.none _ _ _⟩
  · have hlen : (zs.take len).length = len := List.length_take_of_le (by omega)
    refine ⟨zs.take len, hlen, _, cap, by rw [hlen], by rw [hlen]; exact h1, h2, by simp, by rw [hlen]; omega, fun y hy => u8_wf (h5 y (List.mem_of_mem_take hy)), fun hne => ?_⟩
    have hpos : 0 < len := by have := List.length_pos_iff.2 hne; omega
    have c0 := h4 0 (by omega)
    have hx := spot_none c0
    obtain ⟨b, o, s⟩ := x
    simp only at hx
    subst hx
    refine ⟨b, o, rfl, Nat.zero_le _, World.block_lt_of_cell? w _ c0, fun i hi => ?_⟩
    have := h4 i (by omega)
    rw [addr_plus] at this
    rw [this]
    rw [hlen] at hi
    simp [hi]

set_option maxRecDepth 100000 in
/-- A record's cells that came in. -/
theorem rec_cells {H : Type} {enc : TypeId × Value → H} {W : World} {fuel : Nat} {cs : List Value} {x : DataW H × List MemPlace} (h : DataW.trod enc Tryz.prog W 0 (fun _ => true) true fuel 40 cs = some x) :
    ∃ (k : Int) (nm : List Int) (a : Option Addr) (l c : Nat), cs = recA k nm (.slice a l c) ∧ nm.length = 32 ∧ (∀ y ∈ nm, 0 ≤ y ∧ y ≤ 255) ∧ InRow W a l c := by
  obtain ⟨y0, y1, y2, n, _, hl, h0, h1, h2⟩ := Go.Deep.trod_struct3 Tryz.underlying40 h
  have e26 : Tryz.prog.cellsOf 40 = 34 := by kernel_rfl
  have e3 : Tryz.prog.cellsOf 3 = 1 := by kernel_rfl
  have e23 : Tryz.prog.cellsOf 37 = 32 := by kernel_rfl
  have e24 : Tryz.prog.cellsOf 38 = 1 := by kernel_rfl
  rw [e26] at hl
  simp only [e3, e23, e24] at h0 h1 h2
  obtain ⟨k, hk, _, _⟩ := DataW.trod_int Tryz.underlying3 h0
  obtain ⟨nm, hnm, hnl, hwf⟩ := arr_ints Tryz.underlying37 Tryz.underlying5 (by kernel_rfl) (by simp; omega) h1
  have split : cs = cs.take 1 ++ ((cs.drop 1).take 32 ++ (cs.drop 33).take 1) := by
    have e1 : (cs.drop 33).take 1 = cs.drop 33 := List.take_of_length_le (by simp; omega)
    have e2 : (cs.drop 1).take 32 ++ cs.drop 33 = cs.drop 1 := by
      have h : (cs.drop 1).drop 32 = cs.drop 33 := by rw [List.drop_drop]
      rw [← h, List.take_append_drop]
    rw [e1, e2, List.take_append_drop]
  simp only [List.drop_zero] at hk
  rcases open_ints Tryz.underlying38 Tryz.underlying5 (by kernel_rfl) h2 with ⟨hcs, _⟩ | ⟨y, l, c, zs, hcs, _, hlc, hmx, hz, _, hcell, hwz⟩
  · refine ⟨k, nm, none, 0, 0, ?_, hnl, fun y hy => u8_wf (hwf y hy), .inl ⟨rfl, rfl, rfl⟩⟩
    rw [split, hk, hnm, hcs]
    rfl
  · refine ⟨k, nm, some y, l, c, ?_, hnl, fun y hy => u8_wf (hwf y hy), .inr ⟨y, zs, rfl, hlc, hmx, by simpa using hz, hcell, hwz⟩⟩
    rw [split, hk, hnm, hcs]
    rfl

set_option maxRecDepth 100000 in
/-- A record that came in. -/
theorem open_rec {H : Type} {enc : TypeId × Value → H} {W : World} {r : Reach} {base : Nat} {v : Value} {d : DataW H} {p : List MemPlace} (hv : Value.okWide Tryz.prog W r base 40 v) (h : DataW.Trod enc Tryz.prog W 0 (fun _ => true) true 40 v d p) :
    ∃ (k : Int) (nm : List Int) (a : Option Addr) (l c : Nat), v = .agg (recA k nm (.slice a l c)).toArray ∧ nm.length = 32 ∧ (∀ y ∈ nm, 0 ≤ y ∧ y ≤ 255) ∧ InRow W a l c := by
  obtain ⟨cs, rfl, hsz⟩ := okWide_struct Tryz.underlying40 hv
  obtain ⟨fuel, hf⟩ := h
  obtain ⟨k, nm, a, l, c, hcs, h1, h2, h3⟩ := rec_cells hf
  refine ⟨k, nm, a, l, c, ?_, h1, h2, h3⟩
  have : cs.toList = recA k nm (.slice a l c) := hcs
  rw [← this]

end Go.Proofs.YtkekajmmcjacgaaGreatDoor
end

section
/-
  A list of records that came in, opened.
-/
namespace Go.Proofs.YtkekajmmcjacgaaGreatDoor
open Go.RowKit Go.ChangeShapes Go.WideShapes

theorem mapM_get {α β : Type} {f : α → Option β} : ∀ (L : List α) (ys : List β), L.mapM f = some ys → ∀ i : Nat, ys[i]? = (L[i]?).bind f
  | [], ys, h, i => by
    simp only [List.mapM_nil, pure, Option.some.injEq] at h
    subst h
    simp
  | a :: L, ys, h, i => by
    rw [List.mapM_cons] at h
    simp only [bind, Option.bind_eq_some_iff, pure, Option.some.injEq] at h
    obtain ⟨y, hy, zs, hzs, rfl⟩ := h
    cases i with
    | zero => simp [hy]
    | succ i => simpa using mapM_get L zs hzs i

theorem cells_get {w : World} {base n : Nat} {a : Addr} {cs : List Value} (h : w.cells? base a n = some cs) (i : Nat) (hi : i < n) : w.cell? (a.add i) = cs[i]? := by
  unfold World.cells? at h
  split at h
  · have := mapM_get _ _ h i
    rw [List.getElem?_range hi] at this
    exact this.symm
  · cases h

/-- One of the list: kind, name, and the body's slice. -/
abbrev Raw : Type := Int × List Int × Option Addr × Nat × Nat
def rawC (t : Raw) : List Value := recA t.1 t.2.1 (.slice t.2.2.1 t.2.2.2.1 t.2.2.2.2)

set_option maxRecDepth 100000 in
theorem recs_of {H : Type} {enc : TypeId × Value → H} {W : World} {a0 : Option Addr} {len cap fuel : Nat} {x : DataW H × List MemPlace}
    (h : DataW.trod enc Tryz.prog W 0 (fun _ => true) true fuel 87 [.slice a0 len cap] = some x) :
    len ≤ maxLen ∧ ∃ ts : List Raw, ts.length = len ∧ ∀ j t, ts[j]? = some t → (t.2.1.length = 32 ∧ ∀ y ∈ t.2.1, 0 ≤ y ∧ y ≤ 255) ∧ InRow W t.2.2.1 t.2.2.2.1 t.2.2.2.2 ∧
      ∃ g o, a0 = some ⟨g, o, none⟩ ∧ g < W.heap.size ∧ W.rangeAt g (o + j * 34) (rawC t) := by
  rcases Go.Deep.open_slice Tryz.underlying87 h with ⟨hcs, _⟩ | ⟨a, l, c, m, n, D, Pl, hcs, _, hl, hm, hmm, _, hr⟩
  · simp only [List.cons.injEq, Value.slice.injEq, and_true] at hcs
    obtain ⟨rfl, rfl, rfl⟩ := hcs
    exact ⟨Nat.zero_le _, [], rfl, fun j t h => by simp at h⟩
  · simp only [List.cons.injEq, Value.slice.injEq, and_true] at hcs
    obtain ⟨rfl, rfl, rfl⟩ := hcs
    simp only [if_true] at hmm
    subst hmm
    have e26 : Tryz.prog.cellsOf 40 = 34 := by kernel_rfl
    rw [e26] at hr
    refine ⟨by omega, ?_⟩
    have each : ∀ r, r < len → ∃ t : Raw, (t.2.1.length = 32 ∧ ∀ y ∈ t.2.1, 0 ≤ y ∧ y ≤ 255) ∧ InRow W t.2.2.1 t.2.2.2.1 t.2.2.2.2 ∧ ∀ i, i < 34 → W.cell? ((a.add (r * 34)).add i) = (rawC t)[i]? := by
      intro r hr1
      obtain ⟨cs', h1, h2⟩ := hr r (by omega)
      obtain ⟨k, nm, b, l', c', rfl, w1, w2, hb⟩ := rec_cells h2
      exact ⟨(k, nm, b, l', c'), ⟨w1, w2⟩, hb, fun i hi => cells_get h1 i hi⟩
    obtain ⟨y, hy⟩ := Go.Deep.choose_lt each
    refine ⟨(List.range len).map y, by simp, fun j t hj => ?_⟩
    have hjl : j < len := by
      have := (List.getElem?_eq_some_iff.1 hj).1
      simpa using this
    simp only [List.getElem?_map, List.getElem?_range hjl, Option.map_some, Option.some.injEq] at hj
    subst hj
    obtain ⟨h1, h2, h3⟩ := hy j hjl
    refine ⟨h1, h2, ?_⟩
    have h00 := (hy 0 (by omega)).2.2 0 (by omega)
    have ha : a.spot = none := by
      rw [Nat.zero_mul] at h00
      have e : (a.add 0) = a := rfl
      rw [e] at h00
      exact spot_none h00
    obtain ⟨b, o, s⟩ := a
    simp only at ha
    subst ha
    refine ⟨b, o, rfl, ?_, fun i v hv => ?_⟩
    · rw [addr_plus, addr_plus] at h00
      exact World.block_lt_of_cell? W _ h00
    · have hi : i < 34 := by
        have := (List.getElem?_eq_some_iff.1 hv).1
        rw [rawC, recA_length _ _ _ h1.1] at this
        exact this
      have h := h3 i hi
      rw [addr_plus, addr_plus, hv] at h
      exact h

/-- The same list, where no body is long. -/
theorem els_of {W : World} {a0 : Option Addr} {ts : List Raw} (h : ∀ j t, ts[j]? = some t → (t.2.1.length = 32 ∧ ∀ y ∈ t.2.1, 0 ≤ y ∧ y ≤ 255) ∧ InRow W t.2.2.1 t.2.2.2.1 t.2.2.2.2 ∧ ∃ g o, a0 = some ⟨g, o, none⟩ ∧ g < W.heap.size ∧ W.rangeAt g (o + j * 34) (rawC t))
    (hs : ∀ t ∈ ts, t.2.2.2.1 ≤ 140737488355328) :
    ∃ ys : List El, ys.length = ts.length ∧ (ys.map fun y => y.1.2.2.length) = (ts.map fun t => t.2.2.2.1) ∧ (∀ y ∈ ys, elOk y) ∧ (∀ j y, ys[j]? = some y → ∃ g o, a0 = some ⟨g, o, none⟩ ∧ g < W.heap.size ∧ W.rangeAt g (o + j * 34) (elC y)) ∧ ∀ y ∈ ys, Tlv.BySl 0 W.heap.size W (elV y) y.1.2.2 := by
  have each : ∀ r, r < ts.length → ∃ bs : List Int, ∀ t, ts[r]? = some t → bs.length = t.2.2.2.1 ∧ Tlv.BySl 0 W.heap.size W (.slice t.2.2.1 t.2.2.2.1 t.2.2.2.2) bs := fun r hr => by
    obtain ⟨bs, b1, b2⟩ := (h r ts[r] (List.getElem?_eq_getElem hr)).2.1.bytes (hs _ (List.getElem_mem hr))
    refine ⟨bs, fun t ht => ?_⟩
    rw [List.getElem?_eq_getElem hr, Option.some.injEq] at ht
    subst ht
    exact ⟨b1, b2⟩
  obtain ⟨f, hf⟩ := Go.Deep.choose_lt each
  have key : ∀ (j : Nat) (y : El), ((List.range ts.length).map fun j => (((ts.getD j (0, [], none, 0, 0)).1, (ts.getD j (0, [], none, 0, 0)).2.1, f j), (ts.getD j (0, [], none, 0, 0)).2.2.1, (ts.getD j (0, [], none, 0, 0)).2.2.2.2))[j]? = some y →
      ∃ t, ts[j]? = some t ∧ y = ((t.1, t.2.1, f j), t.2.2.1, t.2.2.2.2) ∧ (f j).length = t.2.2.2.1 ∧ Tlv.BySl 0 W.heap.size W (.slice t.2.2.1 t.2.2.2.1 t.2.2.2.2) (f j) := fun j y hy => by
    have hjl : j < ts.length := by
      have := (List.getElem?_eq_some_iff.1 hy).1
      simpa using this
    simp only [List.getElem?_map, List.getElem?_range hjl, Option.map_some, Option.some.injEq] at hy
    subst hy
    refine ⟨ts[j], List.getElem?_eq_getElem hjl, ?_, hf j hjl _ (List.getElem?_eq_getElem hjl)⟩
    rw [List.getD_eq_getElem?_getD, List.getElem?_eq_getElem hjl]
    rfl
  refine ⟨(List.range ts.length).map fun j => (((ts.getD j (0, [], none, 0, 0)).1, (ts.getD j (0, [], none, 0, 0)).2.1, f j), (ts.getD j (0, [], none, 0, 0)).2.2.1, (ts.getD j (0, [], none, 0, 0)).2.2.2.2), by simp, ?_, fun y hy => ?_, fun j y hj => ?_, fun y hy => ?_⟩
  · apply List.ext_getElem?
    intro j
    by_cases hjl : j < ts.length
    · obtain ⟨b1, _⟩ := hf j hjl _ (List.getElem?_eq_getElem hjl)
      simp [hjl, b1]
    · rw [List.getElem?_eq_none (by simp; omega), List.getElem?_eq_none (by simp; omega)]
  · obtain ⟨j, hj⟩ := List.mem_iff_getElem?.1 hy
    obtain ⟨t, ht, rfl, _⟩ := key j y hj
    exact (h j t ht).1
  · obtain ⟨t, ht, rfl, e, _⟩ := key j y hj
    obtain ⟨g, o, h1, h2, h3⟩ := (h j t ht).2.2
    refine ⟨g, o, h1, h2, ?_⟩
    have : elC ((t.1, t.2.1, f j), t.2.2.1, t.2.2.2.2) = rawC t := by
      show recA t.1 t.2.1 (.slice t.2.2.1 (f j).length t.2.2.2.2) = _
      rw [e]
      rfl
    rw [this]
    exact h3
  · obtain ⟨j, hj⟩ := List.mem_iff_getElem?.1 hy
    obtain ⟨t, ht, rfl, e, hb⟩ := key j y hj
    show Tlv.BySl 0 W.heap.size W (.slice t.2.2.1 (f j).length t.2.2.2.2) (f j)
    rw [e]
    exact hb

end Go.Proofs.YtkekajmmcjacgaaGreatDoor
end

section
/-
  A world that holds the listed variables: two errors, three tables.
-/
namespace Go.Proofs.YtkekajmmcjacgaaGreatDoor
open Go.ChangeShapes Go.WideShapes Go.ChangeAt Go.RowKit

theorem own : ownKnob Tryz.prog.godebug = none := by kernel_rfl
theorem laidOut : laidOutB Tryz.prog = true := by kernel_rfl
abbrev laidFive : List (String × DataW Unit) := Rows.packWholeRow.laid
def lay (cells : Array Value) : Obj → Obj
  | .cells _ t frozen => .cells cells t frozen
  | o => o
def tab32 : Array Value := (Lib.deBruijn32tab.map fun n : Nat => Value.int .u8 (n : Int)).toArray
def tab64 : Array Value := (Lib.deBruijn64tab.map fun n : Nat => Value.int .u8 (n : Int)).toArray
def tab10 : Array Value := ((List.range 20).map fun n : Nat => Value.int .u64 ((10 ^ n : Nat) : Int)).toArray
def synS : ByteArray := { data := #[105, 110, 118, 97, 108, 105, 100, 32, 115, 121, 110, 116, 97, 120] }
def rngS : ByteArray := { data := #[118, 97, 108, 117, 101, 32, 111, 117, 116, 32, 111, 102, 32, 114, 97, 110, 103, 101] }
theorem low10 : (World.holding Tryz.prog default ⟨#[], #[], []⟩).heap.size = 10 := by kernel_rfl
theorem laid_met (os : Os) (args : Array Value) : laidMet Tryz.prog laidFive (({ World.holding Tryz.prog os ⟨#[.cells #[.string synS] 360, .cells #[.string rngS] 360], #[], []⟩ with heap := (((((World.holding Tryz.prog os ⟨#[.cells #[.string synS] 360, .cells #[.string rngS] 360], #[], []⟩).heap.modify 0 (lay #[.iface 358 (.pointer (some ⟨10, 0, none⟩))])).modify 1 (lay #[.iface 358 (.pointer (some ⟨11, 0, none⟩))])).modify 2 (lay tab10)).modify 3 (lay tab32)).modify 4 (lay tab64) } : World).forCall (fun _ _ => 0) ⟨#[], args, []⟩).memory :=
  laidMet_of_run' 8 (by kernel_rfl) (by kernel_rfl)
end Go.Proofs.YtkekajmmcjacgaaGreatDoor
end

section
/-
  The listed variables, as the walks want them.
-/
namespace Go.Proofs.YtkekajmmcjacgaaGreatDoor
open Go.ChangeShapes Go.WideShapes Go.ChangeAt Go.RowKit

theorem star : "*" ++ "errors.errorString" = "*errors.errorString" := by decide
theorem errRow (u : TypeId) (h : Tryz.prog.typeName? 3 u = some "*errors.errorString") : u = 358 :=
  typeName_ptr_named (nm := "errors.errorString") (by rw [star]; kernel_rfl) (by kernel_rfl) (by decide) u (by rw [star]; exact h)
theorem gSyn : Tryz.prog.globalNamed "strconv.ErrSyntax" = some 0 := by kernel_rfl
theorem gRng : Tryz.prog.globalNamed "strconv.ErrRange" = some 1 := by kernel_rfl
theorem gPow : Tryz.prog.globalNamed "internal/strconv.uint64pow10" = some 2 := by kernel_rfl
theorem tSyn : (Tryz.prog.globals[0]?).map (·.type) = some 244 := by kernel_rfl
theorem tRng : (Tryz.prog.globals[1]?).map (·.type) = some 244 := by kernel_rfl
theorem tPow : (Tryz.prog.globals[2]?).map (·.type) = some 365 := by kernel_rfl
theorem cErr : Tryz.prog.cellsOf 360 = 1 := by kernel_rfl
theorem cStr : Tryz.prog.cellsOf 9 = 1 := by kernel_rfl
theorem cU64 : Tryz.prog.cellsOf 215 = 1 := by kernel_rfl
theorem cPow : Tryz.prog.cellsOf 365 = 20 := by kernel_rfl
theorem powIs : (Rows.laid_internal_strconv_uint64pow10 : DataW Unit) = Lib.tabData .u64 Lib.pow10Tab := rfl

theorem vars_of_laid {W : World} (h : laidMetH Tryz.prog laidFive W) : Vars W := by
  rw [MakeChecks.laidMetH_plain _ _ _ (by kernel_rfl)] at h
  have h0 : laidMet Tryz.prog (("math/bits.deBruijn32tab", Rows.laid_math_bits_deBruijn32tab) :: ("math/bits.deBruijn64tab", Rows.laid_math_bits_deBruijn64tab) :: ("internal/strconv.uint64pow10", Rows.laid_internal_strconv_uint64pow10) :: ("strconv.ErrRange", Rows.laid_strconv_ErrRange) :: ("strconv.ErrSyntax", Rows.laid_strconv_ErrSyntax) :: []) W := h
  have h2 := h0.tail.tail
  have h3 := h2.tail
  have h4 := h3.tail
  rw [powIs] at h2
  have t := Lib.tabIs_of_head gPow tPow Tryz.underlying365 Tryz.underlying215 cU64 cPow h2
  obtain ⟨a1, s1, v1, _⟩ := laid_sentinel h3 gRng tRng Tryz.underlying244 errRow Tryz.underlying358 Tryz.underlying360 rfl rfl Tryz.underlying9 cErr cStr
  obtain ⟨a2, s2, v2, _⟩ := laid_sentinel h4 gSyn tSyn Tryz.underlying244 errRow Tryz.underlying358 Tryz.underlying360 rfl rfl Tryz.underlying9 cErr cStr
  exact ⟨t, ⟨_, _, v2⟩, ⟨_, _, v1⟩⟩

end Go.Proofs.YtkekajmmcjacgaaGreatDoor
end
