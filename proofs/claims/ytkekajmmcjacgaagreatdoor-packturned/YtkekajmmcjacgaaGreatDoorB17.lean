/- Of the proof: the texts PkTurned, FrOpen, FrOpenL, PkLaid, PkNames, PkIdM, PkId, PkVars, one behind the other. -/
import Derived.Test.YtkekajmmcjacgaaGreatDoorB16
import Derived.Test.YtkekajmmcjacgaaGreatDoorB11
import Derived.Test.YtkekajmmcjacgaaGreatDoorB6
import Derived.ProofKit
import Derived.OpenShut
import Derived.Deep.Slices
import Derived.Deep.Strs
import Derived.Lib.SmallJoins
import Derived.WideKeyArr2
import Derived.Test.YtkekajmmcjacgaaGreatDoorB15
import Derived.Test.YtkekajmmcjacgaaGreatDoorCards
import Derived.Test.YtkekajmmcjacgaaGreatDoorTie
import Derived.Deep.DeepHandedRow
import Derived.Lib.LaidTab
import Derived.MakeChecks
import Derived.Lib.TrailingZeros
import Derived.Test.YtkekajmmcjacgaaGreatDoorB1
import Derived.Lib.ItoaLen
import Derived.Lib.AppendIntMem
import Derived.Lib.AtoiAll
import Derived.Stop.LaidErr
section
/-
  PackTurned, walked.
-/
namespace Go.Proofs.YtkekajmmcjacgaaGreatDoor
open Go.RowKit Go.Shelf
open Tlv (BySlS Agree)
open Sim (hid Kp No PS Done Blk nm finds pBytes pRemove OwnB Beg)

/-- Where the frames begin. -/
def startsL (rs : List Rec) : List Nat := (List.range rs.length).map fun j => (cat (rs.take j)).length
theorem startsL_length (rs : List Rec) : (startsL rs).length = rs.length := by simp [startsL]
theorem startsL_at {rs : List Rec} {j : Nat} (h : j < rs.length) : (startsL rs)[j]? = some (cat (rs.take j)).length := by simp [startsL, h]
theorem startsL_snoc (rs : List Rec) (r : Rec) : startsL (rs ++ [r]) = startsL rs ++ [(cat rs).length] := by
  apply List.ext_getElem?
  intro j
  by_cases h : j < rs.length
  · rw [startsL_at (by simp; omega), List.getElem?_append_left (by rw [startsL_length]; exact h), startsL_at h, List.take_append_of_le_length (by omega)]
  · by_cases h2 : j = rs.length
    · subst h2
      rw [startsL_at (by simp), List.getElem?_append_right (by rw [startsL_length]; omega), startsL_length, List.take_left' rfl]
      simp
    · rw [List.getElem?_eq_none (by rw [startsL_length]; simp; omega), List.getElem?_eq_none (by simp [startsL_length]; omega)]
theorem infoI : (Tryz.prog.info? 3).map (fun i => (i.zero, i.size, i.bytes)) = some (some (.int .i64 0), 1, 8) := by kernel_rfl

/-- What the first loop keeps. -/
def TI (s b g x : Nat) (w wr : World) (k ne : Nat) (vp : Value) : Prop :=
  ∃ rs : List Rec, ne = rs.length ∧ rs.length ≤ k ∧ PR s b g x false (k + 1) (fun q => vp.ownBlock = some q) w wr rs ∧ Sim.Row wr 3 1 vp rs.length (nums (startsL rs)) ∧ ∀ q, vp.ownBlock = some q → w.heap.size ≤ q

/-- The state behind the flip. -/
def flipSt (x : Nat) (lf st : Nat) (ys : List Nat) (j y : Nat) : PS := Sim.one false false lf st [(nm (nameP 3), x)] [] [(nm (nameP 3), x)] 99000 x ⟨flipAt ys j y, ys.length⟩
theorem flip_one (x lf st : Nat) (ys : List Nat) (j y : Nat) (hj : j < ys.length) : Sim.pFlip (nm (nameP 3)) (j : Int) y (Sim.one false false lf st [(nm (nameP 3), x)] [] [(nm (nameP 3), x)] 99000 x ⟨ys, ys.length⟩) = (0, flipSt x lf st ys j y) := by
  have hf : finds (Sim.one false false lf st [(nm (nameP 3), x)] [] [(nm (nameP 3), x)] 99000 x ⟨ys, ys.length⟩) (nm (nameP 3)) = 0 := by simp [Sim.finds, Sim.wrongs, Sim.one, n3P, Sim.dfind]
  have hb : Sim.blockOf (Sim.one false false lf st [(nm (nameP 3), x)] [] [(nm (nameP 3), x)] 99000 x ⟨ys, ys.length⟩) (nm (nameP 3)) = x := by simp [Sim.blockOf, Sim.one, Sim.dfind]
  rw [Sim.pFlip, hf, if_neg (by simp), hb, Sim.one_fileAt, if_neg (by simp; omega), Sim.one_setF]
  rfl
theorem flipSt_bytes (x lf st : Nat) (ys : List Nat) (j y : Nat) : finds (flipSt x lf st ys j y) (nm (nameP 3)) = 0 ∧ pBytes (nm (nameP 3)) (flipSt x lf st ys j y) = flipAt ys j y := by
  have hf : finds (flipSt x lf st ys j y) (nm (nameP 3)) = 0 := by simp [flipSt, Sim.finds, Sim.wrongs, Sim.one, n3P, Sim.dfind]
  have hb : Sim.blockOf (flipSt x lf st ys j y) (nm (nameP 3)) = x := by simp [flipSt, Sim.blockOf, Sim.one, Sim.dfind]
  refine ⟨hf, ?_⟩
  rw [Sim.pBytes, hf, if_neg (by simp), hb, flipSt, Sim.one_fileAt]
theorem begin_remove {r x : Nat} {t : Sim.Nm} {d : Bool} {ys : List Nat} {p : PS} (h : Beg t r x false d ys p) (ht : Sim.nameB t = true) : (pRemove t p).1 = 0 := by
  have hd : d = false := by
    cases d with
    | false => rfl
    | true => have := h.1 rfl; cases this
  subst hd
  have hf := h.finds ht
  obtain ⟨_, lf, st, rfl⟩ := h
  rw [pRemove, hf, if_neg (by simp), Sim.stp, Sim.one_dead]
  rfl

set_option maxHeartbeats 8000000 in
set_option maxRecDepth 100000 in
theorem turned_light (ys : List El) (a : Option Addr) (cap : Nat) (z1 z2 : Int) (y : Nat) (w : World) (hli : lightB (ys.map fun y => y.1.2.2.length) = true) (hok : ∀ y ∈ ys, elOk y)
    (hrow : ∀ j y, ys[j]? = some y → ∃ g o, a = some ⟨g, o, none⟩ ∧ g < w.heap.size ∧ w.rangeAt g (o + j * 34) (elC y)) (hby : ∀ y ∈ ys, Tlv.BySl 0 w.heap.size w (elV y) y.1.2.2)
    (hz1 : -9223372036854775808 ≤ z1 ∧ z1 ≤ 9223372036854775807) (hz2 : -9223372036854775808 ≤ z2 ∧ z2 ≤ 9223372036854775807) (hy : y < 256) (hy0 : y ≠ 0) :
    Calls Tryz.prog 5 #[.slice a ys.length cap, .int .i64 z1, .int .i64 z2, .int .u8 (y : Int)] w fun e w' => e = .returned (.bool true) ∧ Below w.heap.size w w' := by
  have h20 : ys.length ≤ 20 := by
    simp [lightB] at hli
    exact hli.1
  have HOK := hid hok
  have HROW := hid hrow
  have HBY := hid hby
  have HLI : Hid (Calls Tryz.prog 45 #[.slice a ys.length cap] w fun e w' => e = .returned (.bool true) ∧ w' = w) := by
    have h := light_any a cap (ys.map fun y => y.1.2.2.length) w (by rw [List.length_map]; omega) (fun l hl => by
      obtain ⟨y, hy, rfl⟩ := List.mem_map.1 hl
      obtain ⟨_, _, _, _, _, _, h, _⟩ := hby y hy
      omega) (fun i hi => by
      rw [List.length_map] at hi
      obtain ⟨g, o, h1, h2, h3⟩ := hrow i ys[i] (List.getElem?_eq_getElem hi)
      refine ⟨g, o, ys[i].2.1, ys[i].2.2, h1, ?_⟩
      have h4 := h3 33 _ (recA_33 _ _ _ (hok _ (List.getElem_mem hi)).1)
      rw [h4, List.getD_eq_getElem?_getD, List.getElem?_map, List.getElem?_eq_getElem hi]
      rfl)
    rw [hli, List.length_map] at h
    exact h
  clear hok hrow hby hli
  have hyI : ¬ ((y : Int) = 0) := by omega
  have HY := hid (And.intro hy hy0)
  clear hy hy0
  go_enter Tryz.func5, Tryz.ntmps5
  go_wp2_with fail
  refine HLI.out.mono ?_
  rintro e w0 ⟨rfl, hw0⟩
  rw [hw0]
  clear hw0 w0 HLI
  go_wp2_with fail
  refine (Sim.new_yes 99000 (by omega) w).mono ?_
  rintro e w1 ⟨rfl, hS1, hK1⟩
  have HS1 := hid hS1
  have HB1 : Hid (Below w.heap.size w w1) := hK1.toBelow'
  have HL1 : Hid (w.heap.size < w1.heap.size) := hS1.lt _ rfl
  clear hS1 hK1
  go_wp2_with fail
  refine (Crc.new_any w1).mono ?_
  rintro e w2 ⟨rfl, hb2, hs2, ht2⟩
  have HS2 : Hid (Sim.Sys (· = w.heap.size) 0 w2 w.heap.size (Sim.start 99000 false 0)) := HS1.out.kept (Kp.below hb2)
  have HT2 : Hid (TabX w2 w1.heap.size) := ⟨0, 0, .inl rfl, ht2⟩
  have HB2 : Hid (Below w.heap.size w w2) := HB1.out.trans (hb2.mono HB1.out.size)
  have HL2 : Hid (w1.heap.size < w2.heap.size) := by rw [Hid]; omega
  clear hb2 hs2 ht2 HS1 HB1
  go_wp2_with fail
  refine (begin_any w2 w.heap.size w1.heap.size (Sim.start 99000 false 0) 3 (by omega) (by omega) HS2.out (by omega)).mono ?_
  rintro e w3 hbg
  have hbg' : ∃ x g, e = .returned (.tuple #[.pointer (some ⟨g, 0, none⟩), .int .i64 0]) ∧ PR w.heap.size w1.heap.size g x false 1 (fun q => (Value.slice none 0 0).ownBlock = some q) w w3 [] := by
    rcases hbg with ⟨h, _⟩ | ⟨_, x, _, h⟩
    · have : finds (Sim.start 99000 false 0) (nm (nameP 3)) = 5 := Sim.start_finds n3P
      omega
    · rcases Sim.start_make (r := 99000) (x := x) (ar := false) n3T 0 with ⟨_, h2⟩ | ⟨h2, h3⟩
      · cases h2
      · rcases h with ⟨h, _⟩ | ⟨_, g, P', h1, hW, hS, hK, hP, hng, hg3⟩
        · exact absurd h2 h
        · have hl1 := HL1.out
          have hl2 := HL2.out
          refine ⟨x, g, h1, fun r hr => (by cases hr), by simp [cat], hW, HT2.out.kp hK (by omega), ⟨P', _, false, hS, h3, fun hp => ?_, hng, fun y hy => ?_, fun q hq => (by cases hq)⟩, fun q hq => (by cases hq), Kp.under HB2.out hK (fun y hy => by rw [hy]; exact Nat.le_refl _) HB2.out.size, by omega, by omega, by omega⟩
          · rcases hP _ hp with e | e <;> omega
          · rcases hP y hy with e | e <;> omega
  obtain ⟨x, g, rfl, hpr⟩ := hbg'
  have HTI0 : Hid (TI w.heap.size w1.heap.size g x w w3 0 0 (.slice none 0 0)) := ⟨[], rfl, Nat.le_refl _, hpr, Sim.Row.nil _ _ _, fun q hq => (by cases hq)⟩
  clear hbg hpr HS2 HT2 HB2 HL2 HL1
  go_wp2_with fail
  go_loopw [14, 15] (fun vp i wr => ∃ (k ne : Nat) (ap : Option Addr) (cp : Nat), k ≤ ys.length ∧ i = .int .i64 (k : Int) ∧ vp = .slice ap ne cp ∧ ne ≤ 20 ∧ Hid (TI w.heap.size w1.heap.size g x w wr k ne (.slice ap ne cp))) (fun _ i _ => ys.length - (intOf i).toNat)
  case atStart => exact ⟨0, 0, none, 0, Nat.zero_le _, rfl, rfl, by omega, HTI0.out⟩
  case round =>
    obtain ⟨k, ne, ap, cp, hk, rfl, rfl, hne, HS⟩ := hrel
    by_cases hlt : k < ys.length
    · have hltI : (k : Int) < (ys.length : Int) := by omega
      obtain ⟨z, hz⟩ : ∃ z, ys[k]? = some z := ⟨_, List.getElem?_eq_getElem hlt⟩
      have hzm : z ∈ ys := List.mem_of_getElem? hz
      obtain ⟨g', o, rfl, hgw, hrg⟩ := HROW.out k z hz
      obtain ⟨rs, hrs, hrk, hPR, hRow, hlow⟩ := HS.out
      have HRW : Hid (wr.rangeAt g' (o + k * 34) (elC z)) := rangeAt_below hrg hPR.below hgw
      have HEO := hid (HOK.out z hzm)
      have HOWN := hid (fun V => own11_any z.1.1 z.1.2.1 z.2.1 z.1.2.2.length z.2.2 V HEO.out.1)
      have HADD := hid (fun V (hV : Below wr.heap.size wr V) => hPR.add (by omega) (by omega) z HEO.out (HBY.out z hzm) hV)
      have HI : Hid ((Tryz.prog.info? 40).map (·.size) = some (elC z).length) := by rw [Hid, elC_length HEO.out]; exact Tryz.info26
      rw [show recA z.1.1 z.1.2.1 (.slice z.2.1 z.1.2.2.length z.2.2) = elC z from rfl] at HOWN
      generalize elC z = C at *
      have HRO := hid (And.intro hrs (And.intro hrk (And.intro hRow hlow)))
      have hrl : rs.length = ne := hrs.symm
      clear hz hzm hrg hgw hrs hrk hPR hRow hlow HS
      go_wp2_with (refine wpList_load_mid (by rfl) 40 _ (by rfl) g' (o + k * 34) (by rfl) C _ HRW.out Tryz.underlying40 rfl HI.out ?_)
      refine (HOWN.out wr).mono ?_
      rintro e w4 ⟨rfl, hb4⟩
      have HA4 := hid (HADD.out w4 hb4)
      clear hb4 HADD HOWN
      go_wp2_with fail
      refine HA4.out.mono ?_
      rintro e w5 ⟨h5, hK5⟩
      rcases h5 with ⟨f, hf, rfl, hP5⟩ | ⟨_, rfl, hP5⟩
      · obtain ⟨e1, e2, e3, e4⟩ := HRO.out
        have HF : Hid (TI w.heap.size w1.heap.size g x w w5 (k + 1) ne (.slice ap ne cp)) := ⟨rs, e1, by omega, hP5, e3.kp hK5 (fun q hq hn => hn hq), e4⟩
        clear hP5 hK5 HRO HA4 hrl e1 e2 e3 e4
        go_wp2_with fail
        go_round
        case rel => exact ⟨k + 1, ne, ap, cp, by omega, by go_num, rfl, hne, HF⟩
        case measure => simp [intOf]; omega
      · obtain ⟨e1, e2, e3, e4⟩ := HRO.out
        obtain ⟨pl, hpl⟩ : ∃ pl, (cat rs).length = pl := ⟨_, rfl⟩
        have hal5 : Kp No w5 (w5.alloc (.cells #[.int .i64 (pl : Int)] 3)) := (Kp.refl _ _).alloc _
        have HR5 : Hid (Sim.Row (w5.alloc (.cells #[.int .i64 (pl : Int)] 3)) 3 1 (.slice ap ne cp) ne (nums (startsL rs))) := by
          have h := (e3.kp hK5 (fun q hq hn => hn hq)).kept hal5
          rw [hrl] at h
          exact h
        have HSRC : Hid (Sim.Src (w5.alloc (.cells #[.int .i64 (pl : Int)] 3)) (.slice (some ⟨w5.heap.size, 0, none⟩) 1 1) 1 1 [.int .i64 (pl : Int)]) := Sim.Src.one w5 [.int .i64 (pl : Int)] 1 3 rfl (by intro u hu; rw [List.mem_singleton.1 hu]; rfl)
        have HP6 := hid (hP5.on (V := w5.alloc (.cells #[.int .i64 (pl : Int)] 3)) hal5.toBelow')
        have HN1 := hid (fun V => run_oneint (pl : Int) V)
        have HPL := hid hpl
        have HE := hid (And.intro e1 (And.intro e2 e4))
        rw [hpl]
        clear hpl hP5 hK5 HRO HA4 e1 e2 e3 e4 hal5
        go_wp2_with (first
          | (refine wpList_val (by rfl) (exec_slice1 41 _ (by rfl) (.int .i64 (pl : Int)) _ (by rfl) (HN1.out _)) ?_)
          | (refine Sim.app_row _ (by rfl) _ _ 41 3 (.int .i64 0) 1 8 (by rfl) Tryz.underlying41 infoI rfl (by omega) (.slice ap ne cp) (.slice (some ⟨w5.heap.size, 0, none⟩) 1 1) ne 1 (nums (startsL rs)) [.int .i64 (pl : Int)] (by rfl) (by rfl) HR5.out HSRC.out (by omega) (by omega) ?_; intro ad2 cap2 w6 hrow6 hgr6 hown6))
        have HF : Hid (TI w.heap.size w1.heap.size g x w w6 (k + 1) (ne + 1) (.slice ad2 (ne + 1) cap2)) := by
          obtain ⟨e1, e2, e4⟩ := HE.out
          have hgr := HP6.out.grown (v' := .slice ad2 (ne + 1) cap2) hgr6 hown6 (fun q hq => hrow6.lt q hq) e4
          refine ⟨rs ++ [z.1], by rw [List.length_append, e1]; rfl, by rw [List.length_append]; simp; omega, hgr, ?_, fun q hq => ?_⟩
          · rw [List.length_append, startsL_snoc, hrl, HPL.out, nums, List.map_append]
            exact hrow6
          · rcases hown6 with h | h
            · exact e4 q (by rw [← h]; exact hq)
            · rw [h] at hq
              have e := Option.some.inj hq
              have h1 := HP6.out.below.size
              omega
        have hne2 : ne + 1 ≤ 20 := by have := HE.out.2.1; omega
        clear hrow6 hgr6 hown6
        go_wp2_with fail
        go_round
        case rel => exact ⟨k + 1, ne + 1, _, _, by omega, by go_num, rfl, hne2, HF⟩
        case measure => simp [intOf]; omega
    · have hkn : k = ys.length := by omega
      subst hkn
      have hltI : ¬ ((ys.length : Int) < (ys.length : Int)) := by omega
      obtain ⟨rs, hrs, hrk, hPR, hRow, hlow⟩ := HS.out
      obtain ⟨P, p, d, hSy, hBeg, hnb, hng, hPl, hKP⟩ := hPR.sys
      have HSZ := hid (sizeW_any wr g w.heap.size w1.heap.size 3 ((cat rs).length : Nat) (rs.length : Nat) false hPR.wrt)
      obtain ⟨na, hna⟩ : ∃ na, (cat rs).length = na := ⟨_, rfl⟩
      rw [hna] at HSZ
      have HNA := hid hna
      have HRS := hid hrs
      have HPR := hid hPR
      have HSY := hid (And.intro hSy (And.intro hBeg (And.intro hnb (And.intro hng (And.intro hPl hKP)))))
      have HRO := hid (And.intro hrk (And.intro hRow hlow))
      have hna12 : na ≤ 12000 := by rw [← hna]; exact hPR.size
      clear hna hrs hPR hSy hBeg hnb hng hPl hKP hrk hRow hlow HS HBY HOK HROW
      go_wp2_with fail
      refine HSZ.out.mono ?_
      rintro e w4 ⟨rfl, h4⟩
      rw [h4]
      clear h4 w4 HSZ
      by_cases hn0 : ne = 0
      · subst hn0
        have hr0 : rs = [] := List.length_eq_zero_iff.1 HRS.out.symm
        subst hr0
        obtain ⟨hSy, hBeg, hnb, hng, hPl, hKP⟩ := HSY.out
        have HSE := hid (sealW_early wr g w.heap.size w1.heap.size 3 (([] : List Rec).map fun _ => 0).length HPR.out.wrt)
        have HAB := hid (abortW_any (P := P) (N := ys.length + 1) wr g w.heap.size w1.heap.size 3 _ _ p (by omega) (by omega) HPR.out.wrt hSy (by omega) hng)
        rw [begin_remove hBeg n3T] at HAB
        have HPL := hid hPl
        clear hSy hBeg hnb hng hPl hKP
        go_wp2_with fail
        refine HSE.out.mono ?_
        rintro e w4 ⟨rfl, h4⟩
        rw [h4]
        clear h4 w4 HSE
        go_wp2_with fail
        refine HAB.out.mono ?_
        rintro e w5 ⟨rfl, hW5, P', _, hK5, _⟩
        have HB5 : Hid (Below w.heap.size w w5) := Kp.under HPR.out.below hK5 (fun q hq => by
          rcases hq with e | e
          · exact HPL.out q e
          · rw [e]; exact HPR.out.gB) HPR.out.below.size
        have HSC := hid (sealW_closed w5 g w.heap.size w1.heap.size 3 _ _ hW5)
        clear hW5 hK5 HAB
        go_wp2_with fail
        refine HSC.out.mono ?_
        rintro e w6 ⟨rfl, h6⟩
        rw [h6]
        clear h6 w6 HSC
        go_wp2_with fail
        refine (alive_any w5).mono ?_
        rintro e w6 ⟨rfl, h6⟩
        have HB6 : Hid (Below w.heap.size w w6) := HB5.out.trans (h6.mono HB5.out.size)
        clear h6
        go_wp2_with fail
        go_ret
        exact ⟨rfl, HB6.out⟩
      · have hn0I : ¬ ((ne : Int) = 0) := by omega
        obtain ⟨hSy, hBeg, hnb, hng, hPl, hKP⟩ := HSY.out
        have HSE := hid (sealW_any (P := P) (N := ys.length + 1) wr g w.heap.size w1.heap.size 3 ((cat rs).length : Nat) rs.length p (by omega) (by omega) HPR.out.wrt hSy (by omega) HPR.out.tab hnb hng HPR.out.gb (by have := HRS.out; omega))
        obtain ⟨lf, st, hs1, hs2⟩ : ∃ lf st, (sealF 3 p).1 = 0 ∧ (sealF 3 p).2 = Sim.one false false lf st [(nm (nameP 3), x)] [] [(nm (nameP 3), x)] 99000 x ⟨nats (cat rs), (nats (cat rs)).length⟩ := by
          rcases beg_seal hBeg n3T n3P with ⟨_, h, _⟩ | ⟨h1, lf, st, h2⟩
          · cases h
          · exact ⟨lf, st, h1, h2⟩
        rw [hs1, hs2] at HSE
        have HPP := hid (And.intro hnb (And.intro hPl hKP))
        clear hSy hBeg hnb hng hPl hKP hs1 hs2 HSY
        go_wp2_with fail
        refine HSE.out.mono ?_
        rintro e w4 ⟨rfl, hW4, hT4, P4, hS4, hK4, hP4⟩
        have HB4 : Hid (Below w.heap.size w w4) := Kp.under HPR.out.below hK4 (fun q hq => by
          rcases hq with e | e
          · exact HPP.out.2.1 q e
          · rw [e]; exact HPR.out.gB) HPR.out.below.size
        have HR4 : Hid (Sim.Row w4 3 1 (.slice ap ne cp) ne (nums (startsL rs))) := by
          have h := HRO.out.2.1.kp hK4 (fun q hq e => by
            rcases e with e | e
            · exact HPP.out.2.2 q hq e
            · exact (HPR.out.keep q hq).2.1 e)
          rw [← HRS.out] at h
          exact h
        have HA4 : Hid (¬ P4 w1.heap.size ∧ (∀ q, P4 q → w.heap.size ≤ q) ∧ ∀ q, (Value.slice ap ne cp).ownBlock = some q → ¬ P4 q ∧ q ≠ w1.heap.size ∧ w.heap.size ≤ q) := by
          have hl := HPR.out.tab.lt
          refine ⟨fun e => ?_, fun q hq => ?_, fun q hq => ⟨fun e => ?_, (HPR.out.keep q hq).1, HRO.out.2.2 q hq⟩⟩
          · rcases hP4 _ e with e | e
            · exact HPP.out.1 e
            · omega
          · rcases hP4 _ hq with e | e
            · exact HPP.out.2.1 q e
            · have := HPR.out.below.size; omega
          · rcases hP4 _ e with e | e
            · exact HPP.out.2.2 q hq e
            · have := (HPR.out.keep q hq).2.2; omega
        have HS4 := hid hS4
        have HT4 := hid hT4
        have HRT := hid HPR.out.rt
        have HBR := hid HPR.out.bB
        obtain ⟨gp, rfl⟩ : ∃ gp, ap = some ⟨gp, 0, none⟩ := by
          obtain ⟨a', c', h1, _, _, h2, h3⟩ := Sim.Row.shape HR4.out
          simp only [Value.slice.injEq, true_and] at h1
          obtain ⟨rfl, _⟩ := h1
          cases ap with
          | none => exact absurd (h2 rfl).1 hn0
          | some q =>
            obtain ⟨gq, oq, sq⟩ := q
            obtain ⟨h4, h5⟩ := h3 _ rfl
            simp only at h4 h5
            subst h4 h5
            exact ⟨gq, rfl⟩
        have HCL : Hid (∀ V, Sim.Row V 3 1 (.slice (some ⟨gp, 0, none⟩) ne cp) ne (nums (startsL rs)) → ∀ i, i < ne → V.cell? ⟨gp, i, none⟩ = some (.int .i64 ((cat (rs.take i)).length : Nat))) := fun V hV i hi => by
          rw [hV.cellAt i (by omega), nums, List.getElem?_map, startsL_at (by rw [← HRS.out]; exact hi)]
          rfl
        have HPB : Hid (∀ i, (cat (rs.take i)).length ≤ 12000) := fun i => by
          have h1 := cat_mono rs (a := i) (b := i + rs.length) (by omega)
          have e : rs.take (i + rs.length) = rs := List.take_of_length_le (by omega)
          rw [e] at h1
          have := HPR.out.size
          omega
        clear hW4 hT4 hS4 hK4 hP4 HSE HPP HPR HRO
        by_cases c1 : z1 < 0
        · go_wp2_with fail
          refine (alive_any w4).mono ?_
          rintro e w6 ⟨rfl, h6⟩
          have HB6 : Hid (Below w.heap.size w w6) := HB4.out.trans (h6.mono HB4.out.size)
          clear h6
          go_wp2_with fail
          go_ret
          exact ⟨rfl, HB6.out⟩
        · by_cases c2 : (ne : Int) ≤ z1
          · go_wp2_with fail
            refine (alive_any w4).mono ?_
            rintro e w6 ⟨rfl, h6⟩
            have HB6 : Hid (Below w.heap.size w w6) := HB4.out.trans (h6.mono HB4.out.size)
            clear h6
            go_wp2_with fail
            go_ret
            exact ⟨rfl, HB6.out⟩
          · obtain ⟨i, rfl⟩ : ∃ i : Nat, z1 = i := ⟨z1.toNat, by omega⟩
            have hin : i < ne := by omega
            obtain ⟨r, hr⟩ : ∃ r, rs[i]? = some r := ⟨_, List.getElem?_eq_getElem (by rw [← HRS.out]; exact hin)⟩
            have HR := hid hr
            have ci := HCL.out w4 HR4.out i hin
            obtain ⟨pi, hpi⟩ : ∃ pi, (cat (rs.take i)).length = pi := ⟨_, rfl⟩
            obtain ⟨nx, hnx⟩ : ∃ nx, (cat (rs.take (i + 1))).length = nx := ⟨_, rfl⟩
            have hpb := HPB.out i
            have hnb := HPB.out (i + 1)
            have HCI1 : Hid (i + 1 < ne → w4.cell? ⟨gp, i + 1, none⟩ = some (.int .i64 (nx : Int))) := fun h => by rw [← hnx]; exact HCL.out w4 HR4.out (i + 1) h
            have HCI2 : Hid (¬ i + 1 < ne → na = nx) := fun h => by rw [← hnx, ← HNA.out, List.take_of_length_le (by rw [← HRS.out]; omega)]
            rw [hpi] at ci hpb
            rw [hnx] at hnb
            have HPI := hid (And.intro hpi hnx)
            have hwi : IntKind.i64.wrap ((i : Int) + 1) = ((i + 1 : Nat) : Int) := by rw [IntKind.wrap_i64]; omega
            have hwp : IntKind.i64.wrap ((pi : Int) + 3) = (pi : Int) + 3 := by rw [IntKind.wrap_i64]; omega
            clear hpi hnx hr
            go_upto_if 106 with fail
            go_cut [19] (fun s19 wx => s19 = .int .i64 (nx : Int) ∧ wx = w4)
            case first =>
              by_cases c3 : i + 1 < ne
              · have c3I : ((i + 1 : Nat) : Int) < (ne : Int) := by omega
                have c3J : (i : Int) + 1 < (ne : Int) := by omega
                have ci1 := HCI1.out c3
                go_wp2_with fail
                go_meet
                exact ⟨rfl, rfl⟩
              · have c3I : ¬ ((i + 1 : Nat) : Int) < (ne : Int) := by omega
                have c3J : ¬ (i : Int) + 1 < (ne : Int) := by omega
                have e := HCI2.out c3
                subst e
                go_wp2_with fail
                go_meet
                exact ⟨rfl, rfl⟩
            case rest =>
            obtain ⟨rfl, rfl⟩ := hcut
            by_cases c4 : z2 < (pi : Int) + 3
            · go_wp2_with fail
              refine (alive_any wc).mono ?_
              rintro e w6 ⟨rfl, h6⟩
              have HB6 : Hid (Below w.heap.size w w6) := HB4.out.trans (h6.mono HB4.out.size)
              clear h6
              go_wp2_with fail
              go_ret
              exact ⟨rfl, HB6.out⟩
            · by_cases c5 : (nx : Int) ≤ z2
              · go_wp2_with fail
                refine (alive_any wc).mono ?_
                rintro e w6 ⟨rfl, h6⟩
                have HB6 : Hid (Below w.heap.size w w6) := HB4.out.trans (h6.mono HB4.out.size)
                clear h6
                go_wp2_with fail
                go_ret
                exact ⟨rfl, HB6.out⟩
              · obtain ⟨j, rfl⟩ : ∃ j : Nat, z2 = j := ⟨z2.toNat, by omega⟩
                have hj1 : pi + 3 ≤ j := by omega
                have hj2 : j < nx := by omega
                have hjl : j < (nats (cat rs)).length := by
                  rw [nats_length]
                  have := cat_mono rs (a := i + 1) (b := rs.length) (by have := HRS.out; omega)
                  rw [List.take_length] at this
                  have := HPI.out.2
                  omega
                rw [← HPI.out.1] at hj1
                rw [← HPI.out.2] at hj2
                have HFS := hid (flipped_scan HRT.out HR.out hj1 hj2 HY.out.1 HY.out.2)
                have HFA := hid (flipped_at HRT.out HR.out hj1 hj2 HY.out.1 HY.out.2)
                have HFO := hid (fun (k : Nat) (q : Rec) (hq : rs[k]? = some q) (hk : k ≠ i) => flipped_other (y := y) HRT.out HR.out (by omega) hj2 hq hk)
                have HFB := hid (flipAt_lt (nats_lt _ (cat_bd HRT.out)) j y HY.out.1)
                have HFL : Hid ((flipAt (nats (cat rs)) j y).length = na) := by rw [Hid, flipAt_length, nats_length, HNA.out]
                have HNAM := hid (fun V => pname_small 3 (by omega) (by omega) V)
                have HFLIP := hid (Sim.flip_any wc w.heap.size _ (nameP 3) (j : Int) y HY.out.1 (name_le _ (by decide) 3 (by omega)) HS4.out (by omega))
                rw [flip_one x lf st _ j y hjl] at HFLIP
                clear hj1 hj2 hjl HCI1 HCI2
                go_wp2_with (go_at_call 49; refine (HNAM.out _).mono ?_; rintro e w9 ⟨rfl, h⟩; subst w9)
                clear c1 c2 c4 c5 ci hwi hwp
                refine HFLIP.out.mono ?_
                rintro e w5 ⟨rfl, P5, hS5, hK5, hP5⟩
                have HT5 : Hid (TabX w5 w1.heap.size) := HT4.out.kp hK5 HA4.out.1
                have HB5 : Hid (Below w.heap.size w w5) := Kp.under HB4.out hK5 (fun q hq => HA4.out.2.1 q hq) HB4.out.size
                have HR5 : Hid (Sim.Row w5 3 1 (.slice (some ⟨gp, 0, none⟩) ne cp) ne (nums (startsL rs))) := HR4.out.kp hK5 (fun q hq => (HA4.out.2.2 q hq).1)
                have HNP5 : Hid (¬ P5 w1.heap.size) := fun e => by
                  have := HT4.out.lt
                  rcases hP5 _ e with e | e
                  · exact HA4.out.1 e
                  · omega
                have hfb := flipSt_bytes x lf st (nats (cat rs)) j y
                have HLOAD := hid (load_any w5 w.heap.size w1.heap.size (flipSt x lf st (nats (cat rs)) j y) 3 (by omega) (by omega) hS5 HT5.out (by rw [hfb.2]; exact HFB.out) (by rw [hfb.2, HFL.out]; omega))
                rw [hfb.1, hfb.2] at HLOAD
                have HS5 := hid hS5
                have HFBY := hid hfb
                clear hS5 hK5 hP5 HFLIP hfb HS4 HT4 HR4
                go_wp2_with fail
                refine HLOAD.out.mono ?_
                rintro e w6 ⟨hl, hk6, ht6⟩
                have hl' : e = .returned (.tuple #[.slice none 0 0, .int .i64 4]) := by
                  rcases hl with ⟨h, _⟩ | ⟨_, _, h⟩ | ⟨_, h, _⟩
                  · exact absurd rfl h
                  · exact h
                  · exact absurd h HFS.out
                subst hl'
                have hvb : ∀ q, (Value.slice (some ⟨gp, 0, none⟩) ne cp).ownBlock = some q → ¬ q = w1.heap.size := fun q hq => (HA4.out.2.2 q hq).2.1
                have HLT6 : Hid (Below w.heap.size w w6 ∧ TabX w6 w1.heap.size ∧ Sim.Sys P5 (ys.length + 1 + 3 + 1) w6 w.heap.size (flipSt x lf st (nats (cat rs)) j y) ∧ Sim.Row w6 3 1 (.slice (some ⟨gp, 0, none⟩) ne cp) ne (nums (startsL rs))) :=
                  ⟨Crc.Kept.toBelow HB5.out hk6 HBR.out, ht6, sys_kept HS5.out hk6 HNP5.out, HR5.out.kp (kp_kept hk6) hvb⟩
                have HVB := hid hvb
                clear hl hk6 ht6 HLOAD HS5 HT5 HB5 HR5 hvb
                go_wp2_with fail
                go_loopw [20] (fun xk wr => ∃ k : Nat, xk = .int .i64 (k : Int) ∧ k ≤ ne ∧ Hid (Below w.heap.size w wr ∧ TabX wr w1.heap.size ∧ Sim.Sys P5 (ys.length + 1 + 3 + 1) wr w.heap.size (flipSt x lf st (nats (cat rs)) j y) ∧ Sim.Row wr 3 1 (.slice (some ⟨gp, 0, none⟩) ne cp) ne (nums (startsL rs)))) (fun xk _ => ne - (intOf xk).toNat)
                case atStart => exact ⟨0, rfl, Nat.zero_le _, HLT6.out⟩
                case round =>
                  obtain ⟨k, rfl, hk, HQ⟩ := hrel
                  by_cases hkn : k < ne
                  · have hkI : (k : Int) < (ne : Int) := by omega
                    obtain ⟨hB, hT, hS, hR⟩ := HQ.out
                    have ck := HCL.out wr hR k hkn
                    obtain ⟨q, hq⟩ : ∃ q, rs[k]? = some q := ⟨_, List.getElem?_eq_getElem (by rw [← HRS.out]; exact hkn)⟩
                    have hpk : (cat (rs.take k)).length < na := by
                      have h1 := cat_take_succ hq
                      have h2 := congrArg List.length h1
                      have h3 := frOf_length (HRT.out q (List.mem_of_getElem? hq))
                      rw [List.length_append] at h2
                      have h4 := cat_mono rs (a := k + 1) (b := rs.length) (by have := HRS.out; omega)
                      rw [List.take_length, HNA.out] at h4
                      omega
                    have HGET := hid (get_any wr w.heap.size w1.heap.size (flipSt x lf st (nats (cat rs)) j y) 3 ((cat (rs.take k)).length : Nat) (by omega) (by omega) hS hT (by rw [HFBY.out.2]; exact HFB.out) (by rw [HFBY.out.2, HFL.out]; omega))
                    rw [HFBY.out.1, HFBY.out.2] at HGET
                    have HANS : Hid (∀ e w', Gotten wr w' w1.heap.size e 0 (ints (flipAt (nats (cat rs)) j y)) ((cat (rs.take k)).length : Nat) → ∃ C : List Value, C.length = 34 ∧ (∀ v ∈ C, v.oneCell' = true) ∧ e = .returned (.tuple #[.agg C.toArray, .int .i64 (if k = i then 4 else 0)]) ∧ Crc.Kept w1.heap.size wr w' ∧ TabX w' w1.heap.size) := fun e w' hG => by
                      have hFL := HFL.out
                      obtain ⟨h1, h2, h3⟩ := hG
                      rcases h1 with ⟨h, _⟩ | ⟨_, h, _⟩ | ⟨m, _, hm, hml, ht, he⟩ | ⟨m, _, hm, hml, ht, a', c', he, _, hnm⟩
                      · exact absurd rfl h
                      · rw [ints_length, hFL] at h; omega
                      · have hmk : m = (cat (rs.take k)).length := by omega
                        subst hmk
                        by_cases hki : k = i
                        · exact ⟨zRec, zRec_length, zRec_one, by rw [if_pos hki]; exact he, h2, h3⟩
                        · rw [HFO.out k q hq hki] at ht
                          exact absurd rfl ht
                      · have hmk : m = (cat (rs.take k)).length := by omega
                        subst hmk
                        by_cases hki : k = i
                        · rw [hki] at ht
                          have := HFA.out
                          omega
                        · exact ⟨_, recA_length _ _ _ hnm.1, recA_one _ _ _ _ _, by rw [if_neg hki]; exact he, h2, h3⟩
                    obtain ⟨pk, hpkk⟩ : ∃ pk, (cat (rs.take k)).length = pk := ⟨_, rfl⟩
                    rw [hpkk] at ck HGET HANS
                    have HBB := hid hB
                    have HSS := hid (And.intro hS hR)
                    clear hB hT hS hR hq hpk hpkk HQ HFBY HFO HFA HFS
                    go_wp2_with fail
                    refine HGET.out.mono ?_
                    rintro e w8 hG
                    obtain ⟨C, hCl, hC1, rfl, hk8, ht8⟩ := HANS.out e w8 hG
                    have hCs : C.toArray.size = 34 := hCl
                    have HTN : Hid (World.there (w8.alloc (.cells zRec.toArray 52)) w8.heap.size 0 C.toArray.size) := by have h := there_new w8 zRec 52; rw [zRec_length] at h; rw [Hid, hCs]; exact h
                    have HIC : Hid ((Tryz.prog.info? 52).map (·.size) = some C.toArray.size) := by rw [Hid, hCs]; exact Tryz.info35
                    have HOC : Hid (C.toArray.all (·.oneCell') = true) := all_oneCell_toArray hC1
                    have HFIN : Hid (Below w.heap.size w ((w8.alloc (.cells zRec.toArray 52)).setCells w8.heap.size 0 C) ∧ TabX ((w8.alloc (.cells zRec.toArray 52)).setCells w8.heap.size 0 C) w1.heap.size ∧ Sim.Sys P5 (ys.length + 1 + 3 + 1) ((w8.alloc (.cells zRec.toArray 52)).setCells w8.heap.size 0 C) w.heap.size (flipSt x lf st (nats (cat rs)) j y) ∧ Sim.Row ((w8.alloc (.cells zRec.toArray 52)).setCells w8.heap.size 0 C) 3 1 (.slice (some ⟨gp, 0, none⟩) ne cp) ne (nums (startsL rs))) := by
                      have hb9 : Below w8.heap.size w8 ((w8.alloc (.cells zRec.toArray 52)).setCells w8.heap.size 0 C) := ((Below.refl _ _).alloc (Nat.le_refl _) _).trans (setCells_below (Nat.le_refl _) _ _ _)
                      have hb8 := Crc.Kept.toBelow HBB.out hk8 HBR.out
                      exact ⟨hb8.trans (hb9.mono hb8.size), ht8.below hb9, (sys_kept HSS.out.1 hk8 HNP5.out).kept (Kp.below hb9), (HSS.out.2.kp (kp_kept hk8) HVB.out).kept (Kp.below hb9)⟩
                    have hz0 := zero35
                    generalize zRec = Z at *
                    clear hG hCl hCs hC1 hk8 ht8 HGET HANS HBB HSS
                    by_cases hki : k = i
                    · subst hki
                      simp only [if_true]
                      go_wp2_with (refine wpList_store_mid (by rfl) 52 _ _ (by rfl) w8.heap.size 0 C.toArray (by rfl) (by rfl) HTN.out HIC.out HOC.out ?_)
                      go_round
                      case rel => exact ⟨k + 1, by go_num, by omega, HFIN.out⟩
                      case measure => simp [intOf]; omega
                    · have hkiI : ¬ ((k : Int) = (i : Int)) := by omega
                      simp only [hki, if_false]
                      go_wp2_with (refine wpList_store_mid (by rfl) 52 _ _ (by rfl) w8.heap.size 0 C.toArray (by rfl) (by rfl) HTN.out HIC.out HOC.out ?_)
                      go_round
                      case rel => exact ⟨k + 1, by go_num, by omega, HFIN.out⟩
                      case measure => simp [intOf]; omega
                  · have hkI : ¬ (k : Int) < (ne : Int) := by omega
                    have HB7 := hid HQ.out.1
                    go_wp2_with fail
                    refine (alive_any wr).mono ?_
                    rintro e w9 ⟨rfl, h9⟩
                    have HB9 : Hid (Below w.heap.size w w9) := HB7.out.trans (h9.mono HB7.out.size)
                    clear h9
                    go_wp2_with fail
                    go_ret
                    exact ⟨rfl, HB9.out⟩
end Go.Proofs.YtkekajmmcjacgaaGreatDoor
end

section
/-
  Records that came in, opened.
-/
namespace Go.Proofs.YtkekajmmcjacgaaGreatDoor
open Go.RowKit Go.ChangeShapes Go.WideShapes

theorem mapM_each {α β : Type} {f : α → Option β} : ∀ (L : List α) (ys : List β), L.mapM f = some ys → ∀ i ∈ L, ∃ y, f i = some y
  | [], _, _, i, hi => by simp at hi
  | a :: L, ys, h, i, hi => by
    rw [List.mapM_cons] at h
    simp only [bind, Option.bind_eq_some_iff, pure, Option.some.injEq] at h
    obtain ⟨y, hy, zs, hzs, _⟩ := h
    rcases List.mem_cons.1 hi with rfl | hi
    · exact ⟨y, hy⟩
    · exact mapM_each L zs hzs i hi

section
variable {H : Type} {enc : TypeId × Value → H} {P : Program} {W : World} {base : Nat} {sp : Nat → Bool} {held : Bool} {t e : TypeId} {n : Nat} {q : IntKind}
/-- The cells of an array of integers that came in. -/
theorem arr_ints (hu : P.underlying t = some (.array n e)) (he : P.underlying e = some (.int q)) (h1 : P.cellsOf e = 1) {fuel : Nat} {cs : List Value} {x : DataW H × List MemPlace} (hl : cs.length = n)
    (h : DataW.trod enc P W base sp held fuel t cs = some x) : ∃ zs : List Int, cs = zs.map (fun z => Value.int q z) ∧ zs.length = n ∧ ∀ z ∈ zs, (Lit.int q z).wf = true := by
  cases fuel with
  | zero => simp [DataW.trod] at h
  | succ m =>
    rw [DataW.trod_step] at h
    unfold DataW.trodStep at h
    simp only [hu] at h
    split at h
    · simp only [Option.map_eq_some_iff] at h
      obtain ⟨ys, hy, _⟩ := h
      have hE : ∀ i, i < n → ∃ z, cs[i]? = some (.int q z) ∧ (Lit.int q z).wf = true := fun i hi => by
        obtain ⟨y, hy⟩ := mapM_each _ ys hy i (List.mem_range.2 hi)
        obtain ⟨a, ea, _, wa⟩ := DataW.trod_int he hy
        rw [h1, Nat.mul_one] at ea
        refine ⟨a, ?_, wa⟩
        have h := congrArg (fun l : List Value => l[0]?) ea
        simpa [List.getElem?_take, List.getElem?_drop] using h
      refine ⟨cs.map intOf, ?_, by simpa using hl, ?_⟩
      · apply List.ext_getElem?
        intro i
        by_cases hi : i < n
        · obtain ⟨z, hz, _⟩ := hE i hi
          simp [hz, intOf]
        · have : cs[i]? = none := List.getElem?_eq_none (by omega)
          simp [this]
      · intro z hz
        obtain ⟨x, hx, rfl⟩ := List.mem_map.1 hz
        obtain ⟨i, hi, rfl⟩ := List.getElem_of_mem hx
        obtain ⟨z, hz, hw⟩ := hE i (by omega)
        rw [List.getElem?_eq_getElem hi] at hz
        simp only [Option.some.injEq] at hz
        rw [hz]
        exact hw
    · simp at h
end

/-- A slice of bytes, as it came in. -/
def InRow (W : World) (a : Option Addr) (l c : Nat) : Prop :=
  (a = none ∧ l = 0 ∧ c = 0) ∨ ∃ (y : Addr) (zs : List Int), a = some y ∧ l ≤ c ∧ c ≤ maxLen ∧ zs.length = c ∧ (∀ i, i < zs.length → W.cell? (y.add i) = some (.int .u8 (zs.getD i 0))) ∧ ∀ n ∈ zs, (Lit.int .u8 n).wf = true

theorem InRow.le {W : World} {a : Option Addr} {l c : Nat} (h : InRow W a l c) : l ≤ 9223372036854775807 := by
  rcases h with ⟨_, rfl, _⟩ | ⟨_, _, _, h1, h2, _⟩
  · omega
  · unfold maxLen at h2; omega

theorem spot_none {w : World} {x : Addr} {v : Value} (c0 : w.cell? (x.add 0) = some v) : x.spot = none := by
  have e : x.add 0 = x := rfl
  rw [e] at c0
  unfold World.cell? at c0
  split at c0
  · split at c0
    · cases c0
    · rename_i hs; simpa using hs
  · cases c0

theorem addr_plus (g o i : Nat) : (⟨g, o, none⟩ : Addr).add i = ⟨g, o + i, none⟩ := by unfold Addr.add; split <;> simp_all

theorem u8_wf {y : Int} (h : (Lit.int .u8 y).wf = true) : 0 ≤ y ∧ y ≤ 255 := by
  have hmin : IntKind.u8.min = 0 := rfl
  have hmax : IntKind.u8.max = 255 := rfl
  simp only [Lit.wf, Bool.and_eq_true, decide_eq_true_eq] at h
  omega

theorem i64_wf {y : Int} (h : (Lit.int .i64 y).wf = true) : -9223372036854775808 ≤ y ∧ y ≤ 9223372036854775807 := by
  have hmin : IntKind.i64.min = -9223372036854775808 := rfl
  have hmax : IntKind.i64.max = 9223372036854775807 := rfl
  simp only [Lit.wf, Bool.and_eq_true, decide_eq_true_eq] at h
  omega
theorem u32_wf {y : Int} (h : (Lit.int .u32 y).wf = true) : 0 ≤ y ∧ y ≤ 4294967295 := by
  have hmin : IntKind.u32.min = 0 := rfl
  have hmax : IntKind.u32.max = 4294967295 := rfl
  simp only [Lit.wf, Bool.and_eq_true, decide_eq_true_eq] at h
  omega

theorem InRow.bytes {w : World} {a : Option Addr} {len cap : Nat} (h : InRow w a len cap) (hl : len ≤ 140737488355328) : ∃ bs : List Int, bs.length = len ∧ Tlv.BySl 0 w.heap.size w (.slice a len cap) bs := by
  rcases h with ⟨rfl, rfl, rfl⟩ | ⟨x, zs, rfl, h1, h2, h3, h4, h5⟩
  · exact ⟨[], rfl, Tlv.BySl.none _ _ _⟩
  · have hlen : (zs.take len).length = len := List.length_take_of_le (by omega)
    refine ⟨zs.take len, hlen, _, cap, by rw [hlen], by rw [hlen]; exact h1, h2, by simp, by rw [hlen]; omega, fun y hy => u8_wf (h5 y (List.mem_of_mem_take hy)), fun hne => ?_⟩
    have hpos : 0 < len := by have := List.length_pos_iff.2 hne; omega
    have c0 := h4 0 (by omega)
    have hx := spot_none c0
    obtain ⟨b, o, s⟩ := x
    simp only at hx
    subst hx
    refine ⟨b, o, rfl, Nat.zero_le _, World.block_lt_of_cell? w _ c0, fun i hi => ?_⟩
    have := h4 i (by omega)
    rw [addr_plus] at this
    rw [this]
    rw [hlen] at hi
    simp [hi]

set_option maxRecDepth 100000 in
/-- A record's cells that came in. -/
theorem rec_cells {H : Type} {enc : TypeId × Value → H} {W : World} {fuel : Nat} {cs : List Value} {x : DataW H × List MemPlace} (h : DataW.trod enc Tryz.prog W 0 (fun _ => true) true fuel 40 cs = some x) :
    ∃ (k : Int) (nm : List Int) (a : Option Addr) (l c : Nat), cs = recA k nm (.slice a l c) ∧ nm.length = 32 ∧ (∀ y ∈ nm, 0 ≤ y ∧ y ≤ 255) ∧ InRow W a l c := by
  obtain ⟨y0, y1, y2, n, _, hl, h0, h1, h2⟩ := Go.Deep.trod_struct3 Tryz.underlying40 h
  have e26 : Tryz.prog.cellsOf 40 = 34 := by kernel_rfl
  have e3 : Tryz.prog.cellsOf 3 = 1 := by kernel_rfl
  have e23 : Tryz.prog.cellsOf 37 = 32 := by kernel_rfl
  have e24 : Tryz.prog.cellsOf 38 = 1 := by kernel_rfl
  rw [e26] at hl
  simp only [e3, e23, e24] at h0 h1 h2
  obtain ⟨k, hk, _, _⟩ := DataW.trod_int Tryz.underlying3 h0
  obtain ⟨nm, hnm, hnl, hwf⟩ := arr_ints Tryz.underlying37 Tryz.underlying5 (by kernel_rfl) (by simp; omega) h1
  have split : cs = cs.take 1 ++ ((cs.drop 1).take 32 ++ (cs.drop 33).take 1) := by
    have e1 : (cs.drop 33).take 1 = cs.drop 33 := List.take_of_length_le (by simp; omega)
    have e2 : (cs.drop 1).take 32 ++ cs.drop 33 = cs.drop 1 := by
      have h : (cs.drop 1).drop 32 = cs.drop 33 := by rw [List.drop_drop]
      rw [← h, List.take_append_drop]
    rw [e1, e2, List.take_append_drop]
  simp only [List.drop_zero] at hk
  rcases open_ints Tryz.underlying38 Tryz.underlying5 (by kernel_rfl) h2 with ⟨hcs, _⟩ | ⟨y, l, c, zs, hcs, _, hlc, hmx, hz, _, hcell, hwz⟩
  · refine ⟨k, nm, none, 0, 0, ?_, hnl, fun y hy => u8_wf (hwf y hy), .inl ⟨rfl, rfl, rfl⟩⟩
    rw [split, hk, hnm, hcs]
    rfl
  · refine ⟨k, nm, some y, l, c, ?_, hnl, fun y hy => u8_wf (hwf y hy), .inr ⟨y, zs, rfl, hlc, hmx, by simpa using hz, hcell, hwz⟩⟩
    rw [split, hk, hnm, hcs]
    rfl

set_option maxRecDepth 100000 in
/-- A record that came in. -/
theorem open_rec {H : Type} {enc : TypeId × Value → H} {W : World} {r : Reach} {base : Nat} {v : Value} {d : DataW H} {p : List MemPlace} (hv : Value.okWide Tryz.prog W r base 40 v) (h : DataW.Trod enc Tryz.prog W 0 (fun _ => true) true 40 v d p) :
    ∃ (k : Int) (nm : List Int) (a : Option Addr) (l c : Nat), v = .agg (recA k nm (.slice a l c)).toArray ∧ nm.length = 32 ∧ (∀ y ∈ nm, 0 ≤ y ∧ y ≤ 255) ∧ InRow W a l c := by
  obtain ⟨cs, rfl, hsz⟩ := okWide_struct Tryz.underlying40 hv
  obtain ⟨fuel, hf⟩ := h
  obtain ⟨k, nm, a, l, c, hcs, h1, h2, h3⟩ := rec_cells hf
  refine ⟨k, nm, a, l, c, ?_, h1, h2, h3⟩
  have : cs.toList = recA k nm (.slice a l c) := hcs
  rw [← this]

end Go.Proofs.YtkekajmmcjacgaaGreatDoor
end

section
/-
  A list of records that came in, opened.
-/
namespace Go.Proofs.YtkekajmmcjacgaaGreatDoor
open Go.RowKit Go.ChangeShapes Go.WideShapes

theorem mapM_get {α β : Type} {f : α → Option β} : ∀ (L : List α) (ys : List β), L.mapM f = some ys → ∀ i : Nat, ys[i]? = (L[i]?).bind f
  | [], ys, h, i => by
    simp only [List.mapM_nil, pure, Option.some.injEq] at h
    subst h
    simp
  | a :: L, ys, h, i => by
    rw [List.mapM_cons] at h
    simp only [bind, Option.bind_eq_some_iff, pure, Option.some.injEq] at h
    obtain ⟨y, hy, zs, hzs, rfl⟩ := h
    cases i with
    | zero => simp [hy]
    | succ i => simpa using mapM_get L zs hzs i

theorem cells_get {w : World} {base n : Nat} {a : Addr} {cs : List Value} (h : w.cells? base a n = some cs) (i : Nat) (hi : i < n) : w.cell? (a.add i) = cs[i]? := by
  unfold World.cells? at h
  split at h
  · have := mapM_get _ _ h i
    rw [List.getElem?_range hi] at this
    exact this.symm
  · cases h

/-- One of the list: kind, name, and the body's slice. -/
abbrev Raw : Type := Int × List Int × Option Addr × Nat × Nat
def rawC (t : Raw) : List Value := recA t.1 t.2.1 (.slice t.2.2.1 t.2.2.2.1 t.2.2.2.2)

set_option maxRecDepth 100000 in
theorem recs_of {H : Type} {enc : TypeId × Value → H} {W : World} {a0 : Option Addr} {len cap fuel : Nat} {x : DataW H × List MemPlace}
    (h : DataW.trod enc Tryz.prog W 0 (fun _ => true) true fuel 87 [.slice a0 len cap] = some x) :
    len ≤ maxLen ∧ ∃ ts : List Raw, ts.length = len ∧ ∀ j t, ts[j]? = some t → (t.2.1.length = 32 ∧ ∀ y ∈ t.2.1, 0 ≤ y ∧ y ≤ 255) ∧ InRow W t.2.2.1 t.2.2.2.1 t.2.2.2.2 ∧
      ∃ g o, a0 = some ⟨g, o, none⟩ ∧ g < W.heap.size ∧ W.rangeAt g (o + j * 34) (rawC t) := by
  rcases Go.Deep.open_slice Tryz.underlying87 h with ⟨hcs, _⟩ | ⟨a, l, c, m, n, D, Pl, hcs, _, hl, hm, hmm, _, hr⟩
  · simp only [List.cons.injEq, Value.slice.injEq, and_true] at hcs
    obtain ⟨rfl, rfl, rfl⟩ := hcs
    exact ⟨Nat.zero_le _, [], rfl, fun j t h => by simp at h⟩
  · simp only [List.cons.injEq, Value.slice.injEq, and_true] at hcs
    obtain ⟨rfl, rfl, rfl⟩ := hcs
    simp only [if_true] at hmm
    subst hmm
    have e26 : Tryz.prog.cellsOf 40 = 34 := by kernel_rfl
    rw [e26] at hr
    refine ⟨by omega, ?_⟩
    have each : ∀ r, r < len → ∃ t : Raw, (t.2.1.length = 32 ∧ ∀ y ∈ t.2.1, 0 ≤ y ∧ y ≤ 255) ∧ InRow W t.2.2.1 t.2.2.2.1 t.2.2.2.2 ∧ ∀ i, i < 34 → W.cell? ((a.add (r * 34)).add i) = (rawC t)[i]? := by
      intro r hr1
      obtain ⟨cs', h1, h2⟩ := hr r (by omega)
      obtain ⟨k, nm, b, l', c', rfl, w1, w2, hb⟩ := rec_cells h2
      exact ⟨(k, nm, b, l', c'), ⟨w1, w2⟩, hb, fun i hi => cells_get h1 i hi⟩
    obtain ⟨y, hy⟩ := Go.Deep.choose_lt each
    refine ⟨(List.range len).map y, by simp, fun j t hj => ?_⟩
    have hjl : j < len := by
      have := (List.getElem?_eq_some_iff.1 hj).1
      simpa using this
    simp only [List.getElem?_map, List.getElem?_range hjl, Option.map_some, Option.some.injEq] at hj
    subst hj
    obtain ⟨h1, h2, h3⟩ := hy j hjl
    refine ⟨h1, h2, ?_⟩
    have h00 := (hy 0 (by omega)).2.2 0 (by omega)
    have ha : a.spot = none := by
      rw [Nat.zero_mul] at h00
      have e : (a.add 0) = a := rfl
      rw [e] at h00
      exact spot_none h00
    obtain ⟨b, o, s⟩ := a
    simp only at ha
    subst ha
    refine ⟨b, o, rfl, ?_, fun i v hv => ?_⟩
    · rw [addr_plus, addr_plus] at h00
      exact World.block_lt_of_cell? W _ h00
    · have hi : i < 34 := by
        have := (List.getElem?_eq_some_iff.1 hv).1
        rw [rawC, recA_length _ _ _ h1.1] at this
        exact this
      have h := h3 i hi
      rw [addr_plus, addr_plus, hv] at h
      exact h

/-- The same list, where no body is long. -/
theorem els_of {W : World} {a0 : Option Addr} {ts : List Raw} (h : ∀ j t, ts[j]? = some t → (t.2.1.length = 32 ∧ ∀ y ∈ t.2.1, 0 ≤ y ∧ y ≤ 255) ∧ InRow W t.2.2.1 t.2.2.2.1 t.2.2.2.2 ∧ ∃ g o, a0 = some ⟨g, o, none⟩ ∧ g < W.heap.size ∧ W.rangeAt g (o + j * 34) (rawC t))
    (hs : ∀ t ∈ ts, t.2.2.2.1 ≤ 140737488355328) :
    ∃ ys : List El, ys.length = ts.length ∧ (ys.map fun y => y.1.2.2.length) = (ts.map fun t => t.2.2.2.1) ∧ (∀ y ∈ ys, elOk y) ∧ (∀ j y, ys[j]? = some y → ∃ g o, a0 = some ⟨g, o, none⟩ ∧ g < W.heap.size ∧ W.rangeAt g (o + j * 34) (elC y)) ∧ ∀ y ∈ ys, Tlv.BySl 0 W.heap.size W (elV y) y.1.2.2 := by
  have each : ∀ r, r < ts.length → ∃ bs : List Int, ∀ t, ts[r]? = some t → bs.length = t.2.2.2.1 ∧ Tlv.BySl 0 W.heap.size W (.slice t.2.2.1 t.2.2.2.1 t.2.2.2.2) bs := fun r hr => by
    obtain ⟨bs, b1, b2⟩ := (h r ts[r] (List.getElem?_eq_getElem hr)).2.1.bytes (hs _ (List.getElem_mem hr))
    refine ⟨bs, fun t ht => ?_⟩
    rw [List.getElem?_eq_getElem hr, Option.some.injEq] at ht
    subst ht
    exact ⟨b1, b2⟩
  obtain ⟨f, hf⟩ := Go.Deep.choose_lt each
  have key : ∀ (j : Nat) (y : El), ((List.range ts.length).map fun j => (((ts.getD j (0, [], none, 0, 0)).1, (ts.getD j (0, [], none, 0, 0)).2.1, f j), (ts.getD j (0, [], none, 0, 0)).2.2.1, (ts.getD j (0, [], none, 0, 0)).2.2.2.2))[j]? = some y →
      ∃ t, ts[j]? = some t ∧ y = ((t.1, t.2.1, f j), t.2.2.1, t.2.2.2.2) ∧ (f j).length = t.2.2.2.1 ∧ Tlv.BySl 0 W.heap.size W (.slice t.2.2.1 t.2.2.2.1 t.2.2.2.2) (f j) := fun j y hy => by
    have hjl : j < ts.length := by
      have := (List.getElem?_eq_some_iff.1 hy).1
      simpa using this
    simp only [List.getElem?_map, List.getElem?_range hjl, Option.map_some, Option.some.injEq] at hy
    subst hy
    refine ⟨ts[j], List.getElem?_eq_getElem hjl, ?_, hf j hjl _ (List.getElem?_eq_getElem hjl)⟩
    rw [List.getD_eq_getElem?_getD, List.getElem?_eq_getElem hjl]
    rfl
  refine ⟨(List.range ts.length).map fun j => (((ts.getD j (0, [], none, 0, 0)).1, (ts.getD j (0, [], none, 0, 0)).2.1, f j), (ts.getD j (0, [], none, 0, 0)).2.2.1, (ts.getD j (0, [], none, 0, 0)).2.2.2.2), by simp, ?_, fun y hy => ?_, fun j y hj => ?_, fun y hy => ?_⟩
  · apply List.ext_getElem?
    intro j
    by_cases hjl : j < ts.length
    · obtain ⟨b1, _⟩ := hf j hjl _ (List.getElem?_eq_getElem hjl)
      simp [hjl, b1]
    · rw [List.getElem?_eq_none (by simp; omega), List.getElem?_eq_none (by simp; omega)]
  · obtain ⟨j, hj⟩ := List.mem_iff_getElem?.1 hy
    obtain ⟨t, ht, rfl, _⟩ := key j y hj
    exact (h j t ht).1
  · obtain ⟨t, ht, rfl, e, _⟩ := key j y hj
    obtain ⟨g, o, h1, h2, h3⟩ := (h j t ht).2.2
    refine ⟨g, o, h1, h2, ?_⟩
    have : elC ((t.1, t.2.1, f j), t.2.2.1, t.2.2.2.2) = rawC t := by
      show recA t.1 t.2.1 (.slice t.2.2.1 (f j).length t.2.2.2.2) = _
      rw [e]
      rfl
    rw [this]
    exact h3
  · obtain ⟨j, hj⟩ := List.mem_iff_getElem?.1 hy
    obtain ⟨t, ht, rfl, e, hb⟩ := key j y hj
    show Tlv.BySl 0 W.heap.size W (.slice t.2.2.1 (f j).length t.2.2.2.2) (f j)
    rw [e]
    exact hb

end Go.Proofs.YtkekajmmcjacgaaGreatDoor
end

section
/-
  A world that holds the listed variables: two errors, three tables.
-/
namespace Go.Proofs.YtkekajmmcjacgaaGreatDoor
open Go.ChangeShapes Go.WideShapes Go.ChangeAt Go.RowKit

theorem own : ownKnob Tryz.prog.godebug = none := by kernel_rfl
theorem laidOut : laidOutB Tryz.prog = true := by kernel_rfl
abbrev laidFive : List (String × DataW Unit) := Rows.packWholeRow.laid
def lay (cells : Array Value) : Obj → Obj
  | .cells _ t frozen => .cells cells t frozen
  | o => o
def tab32 : Array Value := (Lib.deBruijn32tab.map fun n : Nat => Value.int .u8 (n : Int)).toArray
def tab64 : Array Value := (Lib.deBruijn64tab.map fun n : Nat => Value.int .u8 (n : Int)).toArray
def tab10 : Array Value := ((List.range 20).map fun n : Nat => Value.int .u64 ((10 ^ n : Nat) : Int)).toArray
def synS : ByteArray := { data := #[105, 110, 118, 97, 108, 105, 100, 32, 115, 121, 110, 116, 97, 120] }
def rngS : ByteArray := { data := #[118, 97, 108, 117, 101, 32, 111, 117, 116, 32, 111, 102, 32, 114, 97, 110, 103, 101] }
theorem low10 : (World.holding Tryz.prog default ⟨#[], #[], []⟩).heap.size = 10 := by kernel_rfl
theorem laid_met (os : Os) (args : Array Value) : laidMet Tryz.prog laidFive (({ World.holding Tryz.prog os ⟨#[.cells #[.string synS] 360, .cells #[.string rngS] 360], #[], []⟩ with heap := (((((World.holding Tryz.prog os ⟨#[.cells #[.string synS] 360, .cells #[.string rngS] 360], #[], []⟩).heap.modify 0 (lay #[.iface 358 (.pointer (some ⟨10, 0, none⟩))])).modify 1 (lay #[.iface 358 (.pointer (some ⟨11, 0, none⟩))])).modify 2 (lay tab10)).modify 3 (lay tab32)).modify 4 (lay tab64) } : World).forCall (fun _ _ => 0) ⟨#[], args, []⟩).memory :=
  laidMet_of_run' 8 (by kernel_rfl) (by kernel_rfl)
end Go.Proofs.YtkekajmmcjacgaaGreatDoor
end

section
/-
  The names of any id.
-/
namespace Go.Proofs.YtkekajmmcjacgaaGreatDoor
open Go.RowKit Go.Shelf
open Sim (hid)

/-- A name of that sort, of any id. -/
def nameZ (p : ByteArray) (z : Int) : ByteArray := if idB z then p ++ ⟨(Lib.itoa z).toArray⟩ else ⟨#[]⟩

set_option maxHeartbeats 1000000 in
theorem name_any (p : ByteArray) (hp : p.size ≤ 100) (z : Int) (w : World) (htab : Lib.TabIs Tryz.prog w "internal/strconv.uint64pow10" .u64 Lib.pow10Tab) :
    Calls Tryz.prog 115 #[.string p, .int .i64 z] w fun e w' => e = .returned (.string (nameZ p z)) ∧ Below w.heap.size w w' := by
  cases hid1 : idB z with
  | false =>
    go_enter Tryz.func115, Tryz.ntmps115
    go_wp2_with (go_at_call 64; refine (isID_any _ _).mono ?_; rintro e w1 ⟨rfl, h⟩; subst w1; rw [hid1])
    go_ret
    exact ⟨by rw [nameZ, hid1]; rfl, Below.refl _ _⟩
  | true =>
    have hz : 1 ≤ z ∧ z ≤ 999999 := by simpa [idB] using hid1
    have HI : Hid (Calls Tryz.prog 163 #[.int .i64 z] w fun e w' => e = .returned (.string ⟨(Lib.itoa z).toArray⟩) ∧ Below w.heap.size w w') := by
      refine (Any.strconv_Itoa Sim.Tryz.itoa z (by omega) (by omega) w htab).mono ?_
      rintro e w' ⟨rfl, k, os, rfl⟩
      exact ⟨rfl, Lib.below_grow _ _ (Nat.le_refl _) _ _⟩
    have hl := Lib.itoa_length_le z (by omega) (by omega)
    have hsz : ¬ 9223372036854775807 < p.size + (Lib.itoa z).length := by omega
    go_enter Tryz.func115, Tryz.ntmps115
    go_wp2_with (first
      | (go_at_call 64; refine (isID_any _ _).mono ?_; rintro e w1 ⟨rfl, h⟩; subst w1; rw [hid1])
      | (go_at_call 163; refine HI.out.mono ?_; rintro e w2 ⟨rfl, h⟩; have HG := Sim.hid h; clear h))
    go_ret
    exact ⟨by rw [nameZ, hid1]; rfl, HG.out⟩

theorem pname_any (z : Int) (w : World) (htab : Lib.TabIs Tryz.prog w "internal/strconv.uint64pow10" .u64 Lib.pow10Tab) : Calls Tryz.prog 49 #[.int .i64 z] w fun e w' => e = .returned (.string (nameZ ⟨#[112, 97, 99, 107, 46]⟩ z)) ∧ Below w.heap.size w w' := by
  have HN := hid (name_any ⟨#[112, 97, 99, 107, 46]⟩ (by decide) z w htab)
  go_enter Tryz.func49, Tryz.ntmps49
  go_wp2_with (go_at_call 115; refine HN.out.mono ?_; rintro e w1 ⟨rfl, h⟩; have HB := hid h; clear h)
  go_ret
  exact ⟨rfl, HB.out⟩
theorem ptemp_any (z : Int) (w : World) (htab : Lib.TabIs Tryz.prog w "internal/strconv.uint64pow10" .u64 Lib.pow10Tab) : Calls Tryz.prog 67 #[.int .i64 z] w fun e w' => e = .returned (.string (nameZ ⟨#[116, 109, 112, 46]⟩ z)) ∧ Below w.heap.size w w' := by
  have HN := hid (name_any ⟨#[116, 109, 112, 46]⟩ (by decide) z w htab)
  go_enter Tryz.func67, Tryz.ntmps67
  go_wp2_with (go_at_call 115; refine HN.out.mono ?_; rintro e w1 ⟨rfl, h⟩; have HB := hid h; clear h)
  go_ret
  exact ⟨rfl, HB.out⟩
end Go.Proofs.YtkekajmmcjacgaaGreatDoor
end

section
/-
  Digits, and what they tell.
-/
namespace Go.Proofs.YtkekajmmcjacgaaGreatDoor
open Go.RowKit Go.Shelf
open Sim (hid)

def digB (c : UInt8) : Bool := decide (48 ≤ c.toNat) && decide (c.toNat ≤ 57)
/-- What digits tell, behind a number. -/
def valD (a : Nat) (l : List UInt8) : Nat := l.foldl (fun a c => a * 10 + (c.toNat - 48)) a
theorem valD_append (a : Nat) (l m : List UInt8) : valD a (l ++ m) = valD (valD a l) m := by unfold valD; rw [List.foldl_append]
theorem dig_of {i : Nat} (h : i < 10) : (UInt8.ofNat (48 + i)).toNat = 48 + i := by
  rw [UInt8.toNat_ofNat']
  omega
theorem dec_step {u : Nat} (h : ¬ u < 10) : Lib.decDigits u = Lib.decDigits (u / 10) ++ [UInt8.ofNat (48 + u % 10)] := by
  rw [Lib.decDigits, dif_neg h]
theorem dec_digs (u : Nat) : ∀ c ∈ Lib.decDigits u, digB c = true := by
  induction u using Nat.strongRecOn with
  | _ u ih =>
    by_cases h : u < 10
    · rw [Lib.decDigits_one h]
      intro c hc
      rw [List.mem_singleton] at hc
      subst hc
      unfold digB
      rw [dig_of h]
      simp
      omega
    · rw [dec_step h]
      intro c hc
      rcases List.mem_append.1 hc with hc | hc
      · exact ih (u / 10) (by omega) c hc
      · rw [List.mem_singleton] at hc
        subst hc
        have : u % 10 < 10 := by omega
        unfold digB
        rw [dig_of this]
        simp
        omega
theorem dec_val (u : Nat) : valD 0 (Lib.decDigits u) = u := by
  induction u using Nat.strongRecOn with
  | _ u ih =>
    by_cases h : u < 10
    · rw [Lib.decDigits_one h]
      show 0 * 10 + ((UInt8.ofNat (48 + u)).toNat - 48) = u
      rw [dig_of h]
      omega
    · rw [dec_step h, valD_append, ih (u / 10) (by omega)]
      have : u % 10 < 10 := by omega
      show u / 10 * 10 + ((UInt8.ofNat (48 + u % 10)).toNat - 48) = u
      rw [dig_of this]
      omega
theorem dec_pos (u : Nat) : 1 ≤ (Lib.decDigits u).length := by
  by_cases h : u < 10
  · rw [Lib.decDigits_one h]; simp
  · rw [dec_step h]; simp
theorem dec_len : ∀ (k u : Nat), u < 10 ^ (k + 1) → (Lib.decDigits u).length ≤ k + 1
  | 0, u, h => by rw [Lib.decDigits_one (by simpa using h)]; simp
  | k + 1, u, h => by
    by_cases h1 : u < 10
    · rw [Lib.decDigits_one h1]; simp
    · rw [dec_step h1, List.length_append, List.length_singleton]
      have := dec_len k (u / 10) (by rw [Nat.pow_succ] at h; omega)
      omega
theorem dec_six {u : Nat} (h : u ≤ 999999) : (Lib.decDigits u).length ≤ 6 := dec_len 5 u (by have : (10 : Nat) ^ 6 = 1000000 := by decide
                                                                                             omega)
theorem valD_le : ∀ (l : List UInt8) (a : Nat), l.all digB = true → valD a l < (a + 1) * 10 ^ l.length
  | [], a, _ => by simp [valD]
  | c :: r, a, h => by
    simp only [List.all_cons, Bool.and_eq_true] at h
    have hc : c.toNat ≤ 57 ∧ 48 ≤ c.toNat := by have := h.1; simp [digB] at this; omega
    have := valD_le r (a * 10 + (c.toNat - 48)) h.2
    have e : valD a (c :: r) = valD (a * 10 + (c.toNat - 48)) r := rfl
    rw [e, List.length_cons, Nat.pow_succ]
    refine Nat.lt_of_lt_of_le this ?_
    have h10 : a * 10 + (c.toNat - 48) + 1 ≤ (a + 1) * 10 := by omega
    have := Nat.mul_le_mul_right (10 ^ r.length) h10
    rw [Nat.mul_assoc, Nat.mul_comm 10] at this
    exact this
theorem parse_digs : ∀ (l : List UInt8) (a : Nat), l.all digB = true → (a + 1) * 10 ^ l.length ≤ 1000000000000 → Lib.parseUint10 a l = .ok (valD a l)
  | [], a, _, _ => rfl
  | c :: r, a, h, hb => by
    simp only [List.all_cons, Bool.and_eq_true] at h
    have hc : 48 ≤ c.toNat ∧ c.toNat ≤ 57 := by have := h.1; simp [digB] at this; exact this
    rw [List.length_cons, Nat.pow_succ] at hb
    have hp : 1 ≤ 10 ^ r.length := Nat.one_le_pow _ _ (by omega)
    have h10 : a * 10 + (c.toNat - 48) + 1 ≤ (a + 1) * 10 := by omega
    have hb' : (a * 10 + (c.toNat - 48) + 1) * 10 ^ r.length ≤ 1000000000000 := by
      refine Nat.le_trans (Nat.mul_le_mul_right _ h10) ?_
      rw [Nat.mul_assoc, Nat.mul_comm 10]
      exact hb
    have ha : a * 10 + (c.toNat - 48) + 1 ≤ 1000000000000 := Nat.le_trans (Nat.le_mul_of_pos_right _ hp) hb'
    unfold Lib.parseUint10
    rw [if_pos hc, if_neg (by omega), if_neg (by omega), parse_digs r _ h.2 hb']
    rfl

/-! ### The id of a name -/
/-- Those of that sort. -/
theorem nameZ_of {p : ByteArray} {u : Nat} (h1 : 1 ≤ u) (h2 : u ≤ 999999) : nameZ p (u : Int) = p ++ ⟨(Lib.decDigits u).toArray⟩ := by
  have : idB (u : Int) = true := by simp [idB]; omega
  rw [nameZ, this, if_pos rfl, Lib.itoa_nonneg]
/-- What a number tells, or none. -/
def idAt (p s : ByteArray) : Lib.NumEnd Int → Int × Bool
  | .ok v => if nameZ p v = s then (v, true) else (0, false)
  | _ => (0, false)
/-- What ID tells: by the rest behind the prefix. -/
def idOf (p s : ByteArray) : Int × Bool :=
  if Lib.hasPrefix s.data.toList p.data.toList = true then idAt p s (Lib.atoiAll (Lib.trimPrefix s.data.toList p.data.toList)) else (0, false)
theorem atoi_dec {u : Nat} (h : u ≤ 999999) : Lib.atoiAll (Lib.decDigits u) = .ok (u : Int) := by
  have hd := dec_digs u
  have hl := dec_six h
  have hp := dec_pos u
  have hv := dec_val u
  generalize Lib.decDigits u = l at *
  cases l with
  | nil => simp at hp
  | cons c r =>
    have hc : 48 ≤ c.toNat ∧ c.toNat ≤ 57 := by have := hd c (by simp); simp [digB] at this; exact this
    have hall : (c :: r).all digB = true := List.all_eq_true.2 hd
    have hlen : (0 + 1) * 10 ^ (c :: r).length ≤ 1000000000000 := by
      have : 10 ^ (c :: r).length ≤ 10 ^ 6 := Nat.pow_le_pow_right (by omega) hl
      have e : (10 : Nat) ^ 6 = 1000000 := by decide
      omega
    unfold Lib.atoiAll
    simp only
    rw [if_neg (by omega)]
    unfold Lib.parseMag
    rw [if_neg (by simp), parse_digs _ _ hall hlen, hv]
    simp only
    rw [if_neg (by omega), if_neg (by omega), if_neg (by omega)]
theorem bytes_inj {a b : ByteArray} (h : a.data.toList = b.data.toList) : a = b := by
  cases a; cases b; simp at h; rw [h]
theorem app_data (p : ByteArray) (l : List UInt8) : (p ++ ⟨l.toArray⟩ : ByteArray).data.toList = p.data.toList ++ l := by
  simp [ByteArray.data_append]
theorem pre_app (p l : List UInt8) : Lib.hasPrefix (p ++ l) p = true := by
  unfold Lib.hasPrefix
  exact List.isPrefixOf_iff_prefix.2 (List.prefix_append p l)
theorem trim_app (p l : List UInt8) : Lib.trimPrefix (p ++ l) p = l := by
  unfold Lib.trimPrefix
  rw [if_pos (pre_app p l), List.drop_left]
/-- A pack's name has its id. -/
theorem idOf_name {p : ByteArray} {u : Nat} (h1 : 1 ≤ u) (h2 : u ≤ 999999) : idOf p (nameZ p (u : Int)) = ((u : Int), true) := by
  have e := nameZ_of (p := p) h1 h2
  have hd : (nameZ p (u : Int)).data.toList = p.data.toList ++ Lib.decDigits u := by rw [e, app_data]
  unfold idOf
  rw [hd, if_pos (pre_app _ _), trim_app, atoi_dec h2]
  show (if nameZ p (u : Int) = nameZ p (u : Int) then ((u : Int), true) else (0, false)) = _
  rw [if_pos rfl]
/-- What is told is a name's id. -/
theorem idOf_yes {p s : ByteArray} {v : Int} (hp : 1 ≤ p.size) (h : idOf p s = (v, true)) : 1 ≤ v ∧ v ≤ 999999 ∧ nameZ p v = s := by
  unfold idOf at h
  split at h
  · rename_i hh
    unfold idAt at h
    split at h
    · rename_i v' _
      split at h
      · rename_i hn
        simp only [Prod.mk.injEq, and_true] at h
        subst h
        have hid1 : idB v' = true := by
          cases hi : idB v' with
          | true => rfl
          | false =>
            rw [nameZ, hi, if_neg (by simp)] at hn
            rw [← hn] at hh
            have hl := (List.isPrefixOf_iff_prefix.1 hh).length_le
            rw [← Lib.size_eq] at hl
            have : (⟨#[]⟩ : ByteArray).data.toList.length = 0 := rfl
            omega
        have : 1 ≤ v' ∧ v' ≤ 999999 := by simpa [idB] using hid1
        exact ⟨this.1, this.2, hn⟩
      · simp at h
    · simp at h
  · simp at h
theorem idOf_no {p s : ByteArray} (h : (idOf p s).2 = false) : idOf p s = (0, false) := by
  unfold idOf at h ⊢
  split
  · rename_i hh
    rw [if_pos hh] at h
    generalize Lib.atoiAll (Lib.trimPrefix s.data.toList p.data.toList) = e at *
    cases e with
    | ok v =>
      unfold idAt at h ⊢
      simp only at h ⊢
      split
      · rename_i hn; rw [if_pos hn] at h; simp at h
      · rfl
    | «syntax» => rfl
    | range => rfl
  · rfl
/-- Told apart: the one id whose name it is. -/
theorem idOf_eq {p s : ByteArray} (hp : 1 ≤ p.size) (a : Int × Bool) (h1 : a.2 = true → 1 ≤ a.1 ∧ a.1 ≤ 999999 ∧ nameZ p a.1 = s) (h2 : a.2 = false → a.1 = 0 ∧ ∀ u : Nat, 1 ≤ u → u ≤ 999999 → nameZ p (u : Int) ≠ s) : idOf p s = a := by
  obtain ⟨v, b⟩ := a
  cases b with
  | true =>
    obtain ⟨g1, g2, g3⟩ := h1 rfl
    simp only at g1 g2 g3
    obtain ⟨u, rfl⟩ : ∃ u : Nat, v = u := ⟨v.toNat, by omega⟩
    rw [← g3]
    exact idOf_name (by omega) (by omega)
  | false =>
    obtain ⟨g1, g2⟩ := h2 rfl
    simp only at g1
    subst g1
    refine idOf_no ?_
    cases hb : (idOf p s).2 with
    | false => rfl
    | true =>
      have e : idOf p s = ((idOf p s).1, true) := by rw [← hb]
      obtain ⟨h3, h4, h5⟩ := idOf_yes hp e
      obtain ⟨u, hu⟩ : ∃ u : Nat, (idOf p s).1 = u := ⟨(idOf p s).1.toNat, by omega⟩
      rw [hu] at h3 h4 h5
      exact absurd h5 (g2 u (by omega) (by omega))

end Go.Proofs.YtkekajmmcjacgaaGreatDoor
end

section
/-
  The id of any name.
-/
namespace Go.Proofs.YtkekajmmcjacgaaGreatDoor
open Go.RowKit Go.Shelf
open Sim (hid)

/-- The variables of strconv that are read: a table, two errors. -/
structure Vars (w : World) : Prop where
  tab : Lib.TabIs Tryz.prog w "internal/strconv.uint64pow10" .u64 Lib.pow10Tab
  syn : ∃ tp p, w.var? Tryz.prog "strconv.ErrSyntax" = some #[.iface tp p]
  rng : ∃ tp p, w.var? Tryz.prog "strconv.ErrRange" = some #[.iface tp p]
theorem var_below {w w' : World} {n : String} {cs : Array Value} (k : Below w.heap.size w w') (h : w.var? Tryz.prog n = some cs) : w'.var? Tryz.prog n = some cs := by
  unfold World.var? at h ⊢
  cases hg : Tryz.prog.globalNamed n with
  | none => rw [hg] at h; cases h
  | some g =>
    rw [hg] at h
    simp only [Option.bind_some] at h ⊢
    have hlt : g < w.heap.size := by
      rcases Nat.lt_or_ge g w.heap.size with h' | h'
      · exact h'
      · rw [Array.getElem?_eq_none h'] at h; cases h
    rw [k.block g hlt]
    exact h
theorem Vars.below {w w' : World} (h : Vars w) (k : Below w.heap.size w w') : Vars w' := by
  obtain ⟨h1, ⟨t2, p2, h2⟩, ⟨t3, p3, h3⟩⟩ := h
  exact ⟨var_below k h1, ⟨t2, p2, var_below k h2⟩, ⟨t3, p3, var_below k h3⟩⟩

/-- Atoi of any text: a number, or an error that is not nil. -/
theorem atoi_any (s : ByteArray) (hs : s.size ≤ 20000000) (w : World) (hv : Vars w) : Calls Tryz.prog 154 #[.string s] w fun e w' => (∃ (z : Int) (er : Value), e = .returned (.tuple #[.int .i64 z, er]) ∧ ((er = .nilIface ∧ Lib.atoiAll s.data.toList = .ok z) ∨ ((∃ t a, er = .iface t (.pointer (some a))) ∧ ∀ v, Lib.atoiAll s.data.toList ≠ .ok v))) ∧ Below w.heap.size w w' := by
  cases h : Lib.atoiAll s.data.toList with
  | ok v =>
    refine (Any.strconv_Atoi_ok Sim.Tryz.atoi s (by omega) v h w).mono ?_
    rintro e w' ⟨rfl, hw⟩
    refine ⟨⟨v, .nilIface, rfl, .inl ⟨rfl, rfl⟩⟩, ?_⟩
    rcases hw with rfl | ⟨t, rfl⟩
    · exact Below.refl _ _
    · exact Lib.bytesWorld_below _ _ _
  | «syntax» =>
    obtain ⟨tp, p, hp⟩ := hv.syn
    refine (Any.strconv_Atoi_syntax_var Sim.Tryz.atoi s (by omega) h tp p w hp).mono ?_
    rintro e w' ⟨N, rfl, _, _, hb⟩
    exact ⟨⟨0, _, rfl, .inr ⟨⟨_, _, rfl⟩, fun v hv => by cases hv⟩⟩, hb⟩
  | range =>
    obtain ⟨tp, p, hp⟩ := hv.rng
    refine (Any.strconv_Atoi_range_var Sim.Tryz.atoi s (by omega) h tp p w hp).mono ?_
    rintro e w' ⟨N, rfl, _, _, hb⟩
    exact ⟨⟨_, _, rfl, .inr ⟨⟨_, _, rfl⟩, fun v hv => by cases hv⟩⟩, hb⟩

set_option maxHeartbeats 4000000 in
theorem pid_any (p : ByteArray) (hp : p.size ≤ 100) (s : ByteArray) (hs : s.size ≤ 20000000) (w : World) (hv : Vars w) :
    Calls Tryz.prog 104 #[.string p, .string s] w fun e w' => e = .returned (.tuple #[.int .i64 (idOf p s).1, .bool (idOf p s).2]) ∧ Below w.heap.size w w' := by
  have HCUT := hid (Any.strings_CutPrefix Sim.Tryz.cut s p w)
  cases hh : Lib.hasPrefix s.data.toList p.data.toList with
  | false =>
    have e : idOf p s = (0, false) := by unfold idOf; rw [hh]; rfl
    rw [e]
    rw [hh] at HCUT
    clear hh e
    go_enter Tryz.func104, Tryz.ntmps104
    go_wp2_with (go_at_call 153; refine HCUT.out.mono ?_; rintro e w1 ⟨rfl, h⟩; subst w1)
    go_ret2
    exact ⟨rfl, Below.refl _ _⟩
  | true =>
    rw [hh] at HCUT
    have hr : (⟨(Lib.trimPrefix s.data.toList p.data.toList).toArray⟩ : ByteArray).size ≤ 20000000 := by
      have h1 : (Lib.trimPrefix s.data.toList p.data.toList).length ≤ s.size := by
        unfold Lib.trimPrefix
        rw [Lib.size_eq, if_pos hh, List.length_drop]
        omega
      have h2 : (⟨(Lib.trimPrefix s.data.toList p.data.toList).toArray⟩ : ByteArray).size = (Lib.trimPrefix s.data.toList p.data.toList).length := by rw [Lib.size_eq]
      omega
    have HAT := hid (atoi_any ⟨(Lib.trimPrefix s.data.toList p.data.toList).toArray⟩ hr w hv)
    have HV := hid hv
    have HI : Hid (idOf p s = idAt p s (Lib.atoiAll (Lib.trimPrefix s.data.toList p.data.toList))) := by unfold Hid idOf; rw [if_pos hh]
    have hd : (⟨(Lib.trimPrefix s.data.toList p.data.toList).toArray⟩ : ByteArray).data.toList = Lib.trimPrefix s.data.toList p.data.toList := rfl
    rw [hd] at HAT
    generalize Lib.trimPrefix s.data.toList p.data.toList = l at *
    obtain ⟨x, hx⟩ : ∃ x, idOf p s = x := ⟨_, rfl⟩
    rw [hx] at HI ⊢
    clear hh hr hd hx hv
    go_enter Tryz.func104, Tryz.ntmps104
    go_wp2_with fail
    refine HCUT.out.mono ?_
    rintro e w1 ⟨rfl, h⟩
    subst w1
    go_wp2_with fail
    refine HAT.out.mono ?_
    rintro e w2 ⟨⟨z, er, rfl, hz⟩, hb⟩
    have HB := hid hb
    have HV2 := hid (HV.out.below hb)
    clear hb
    rcases hz with ⟨rfl, hz⟩ | ⟨⟨t, a, rfl⟩, hz⟩
    · rw [hz, show idAt p s (.ok z) = if nameZ p z = s then (z, true) else (0, false) from rfl] at HI
      have HN := hid (name_any p hp z w2 HV2.out.tab)
      by_cases hq : nameZ p z = s
      · rw [if_pos hq] at HI
        rw [hq] at HN
        have heq : (s.toList == s.toList) = true := by simp
        clear hq hz
        go_wp2_with (go_at_call 115; refine HN.out.mono ?_; rintro e w3 ⟨rfl, h⟩; have HB3 := hid h; clear h)
        go_ret2
        exact ⟨by rw [HI.out]; rfl, HB.out.trans (HB3.out.mono HB.out.size)⟩
      · rw [if_neg hq] at HI
        have heq : ((nameZ p z).toList == s.toList) = false := by
          rw [beq_eq_false_iff_ne, ByteArray.toList_eq, ByteArray.toList_eq]
          exact fun e => hq (bytes_inj e)
        generalize nameZ p z = nz at *
        clear hq hz
        go_wp2_with (go_at_call 115; refine HN.out.mono ?_; rintro e w3 ⟨rfl, h⟩; have HB3 := hid h; clear h)
        go_ret2
        exact ⟨by rw [HI.out]; rfl, HB.out.trans (HB3.out.mono HB.out.size)⟩
    · have HX : Hid (x = (0, false)) := by
        rw [Hid, HI.out]
        cases hl : Lib.atoiAll l with
        | ok v => exact absurd hl (hz v)
        | «syntax» => rfl
        | range => rfl
      clear hz HI
      go_wp2
      go_ret2
      exact ⟨by rw [HX.out]; rfl, HB.out⟩

theorem ID_any (s : ByteArray) (hs : s.size ≤ 20000000) (w : World) (hv : Vars w) : Calls Tryz.prog 63 #[.string s] w fun e w' => e = .returned (.tuple #[.int .i64 (idOf ⟨#[112, 97, 99, 107, 46]⟩ s).1, .bool (idOf ⟨#[112, 97, 99, 107, 46]⟩ s).2]) ∧ Below w.heap.size w w' := by
  have HA := hid (pid_any ⟨#[112, 97, 99, 107, 46]⟩ (by decide) s hs w hv)
  generalize idOf ⟨#[112, 97, 99, 107, 46]⟩ s = x at *
  go_enter Tryz.func63, Tryz.ntmps63
  go_wp2_with (go_at_call 104; refine HA.out.mono ?_; rintro e w1 ⟨rfl, h⟩; have HB := hid h; clear h)
  go_ret2
  exact ⟨rfl, HB.out⟩

end Go.Proofs.YtkekajmmcjacgaaGreatDoor
end

section
/-
  The listed variables, as the walks want them.
-/
namespace Go.Proofs.YtkekajmmcjacgaaGreatDoor
open Go.ChangeShapes Go.WideShapes Go.ChangeAt Go.RowKit

theorem star : "*" ++ "errors.errorString" = "*errors.errorString" := by decide
theorem errRow (u : TypeId) (h : Tryz.prog.typeName? 3 u = some "*errors.errorString") : u = 358 :=
  typeName_ptr_named (nm := "errors.errorString") (by rw [star]; kernel_rfl) (by kernel_rfl) (by decide) u (by rw [star]; exact h)
theorem gSyn : Tryz.prog.globalNamed "strconv.ErrSyntax" = some 0 := by kernel_rfl
theorem gRng : Tryz.prog.globalNamed "strconv.ErrRange" = some 1 := by kernel_rfl
theorem gPow : Tryz.prog.globalNamed "internal/strconv.uint64pow10" = some 2 := by kernel_rfl
theorem tSyn : (Tryz.prog.globals[0]?).map (·.type) = some 244 := by kernel_rfl
theorem tRng : (Tryz.prog.globals[1]?).map (·.type) = some 244 := by kernel_rfl
theorem tPow : (Tryz.prog.globals[2]?).map (·.type) = some 365 := by kernel_rfl
theorem cErr : Tryz.prog.cellsOf 360 = 1 := by kernel_rfl
theorem cStr : Tryz.prog.cellsOf 9 = 1 := by kernel_rfl
theorem cU64 : Tryz.prog.cellsOf 215 = 1 := by kernel_rfl
theorem cPow : Tryz.prog.cellsOf 365 = 20 := by kernel_rfl
theorem powIs : (Rows.laid_internal_strconv_uint64pow10 : DataW Unit) = Lib.tabData .u64 Lib.pow10Tab := rfl

theorem vars_of_laid {W : World} (h : laidMetH Tryz.prog laidFive W) : Vars W := by
  rw [MakeChecks.laidMetH_plain _ _ _ (by kernel_rfl)] at h
  have h0 : laidMet Tryz.prog (("math/bits.deBruijn32tab", Rows.laid_math_bits_deBruijn32tab) :: ("math/bits.deBruijn64tab", Rows.laid_math_bits_deBruijn64tab) :: ("internal/strconv.uint64pow10", Rows.laid_internal_strconv_uint64pow10) :: ("strconv.ErrRange", Rows.laid_strconv_ErrRange) :: ("strconv.ErrSyntax", Rows.laid_strconv_ErrSyntax) :: []) W := h
  have h2 := h0.tail.tail
  have h3 := h2.tail
  have h4 := h3.tail
  rw [powIs] at h2
  have t := Lib.tabIs_of_head gPow tPow Tryz.underlying365 Tryz.underlying215 cU64 cPow h2
  obtain ⟨a1, s1, v1, _⟩ := laid_sentinel h3 gRng tRng Tryz.underlying244 errRow Tryz.underlying358 Tryz.underlying360 rfl rfl Tryz.underlying9 cErr cStr
  obtain ⟨a2, s2, v2, _⟩ := laid_sentinel h4 gSyn tSyn Tryz.underlying244 errRow Tryz.underlying358 Tryz.underlying360 rfl rfl Tryz.underlying9 cErr cStr
  exact ⟨t, ⟨_, _, v2⟩, ⟨_, _, v1⟩⟩

end Go.Proofs.YtkekajmmcjacgaaGreatDoor
end
