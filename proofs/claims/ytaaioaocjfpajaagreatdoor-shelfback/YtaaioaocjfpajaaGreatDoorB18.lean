/- Of the proof: the texts ShBack, ShWalks, FrOpen, FrOpenL, SimOpen, ShWalksO, PkLaid, PkVars, ShBackFacts, one behind the other. -/
import Derived.Test.YtaaioaocjfpajaaGreatDoorB17
import Derived.Test.YtaaioaocjfpajaaGreatDoorB7
import Derived.Test.YtaaioaocjfpajaaGreatDoorB9
import Derived.Test.YtaaioaocjfpajaaGreatDoorB6
import Derived.ProofKit
import Derived.OpenShut
import Derived.Deep.Slices
import Derived.Deep.Strs
import Derived.Lib.SmallJoins
import Derived.WideKeyArr2
import Derived.Test.YtaaioaocjfpajaaGreatDoorB12
import Derived.Test.YtaaioaocjfpajaaGreatDoorB3
import Derived.Test.YtaaioaocjfpajaaGreatDoorCards
import Derived.Test.YtaaioaocjfpajaaGreatDoorTie
import Derived.Deep.DeepHandedRow
import Derived.Lib.LaidTab
import Derived.MakeChecks
import Derived.Lib.TrailingZeros
import Derived.Stop.LaidErr
import Derived.Test.YtaaioaocjfpajaaGreatDoorChecked
import Derived.WalkKit
section
/-
  ShelfBack, walked.
-/
namespace Go.Proofs.YtaaioaocjfpajaaGreatDoor.Sh
open Go.RowKit Go.Shelf
open Tlv (BySlS)
open Sim (hid Kp No PS Blk nm Row IntsAt)

theorem run_zeroL (w : World) : (Instr.buildSlice 35 0 #[]).run Tryz.prog w = .ok (.slice (some ⟨w.heap.size, 0, none⟩) 0 0) (w.alloc (.cells #[] 68)) := by kernel_rfl
theorem exec_slice0 {P : Program} {o : Oper} {a : Act} {w w' : World} (t : TypeId) (ho : o.op = .buildSlice t 0 #[]) (u : Value) (hr : (Instr.buildSlice t 0 #[]).run P w = .ok u w') : (execOp a.eval o).run P w = .ok (.value u) w' := by
  unfold execOp
  simp [ho, hr]
theorem infoL : (Tryz.prog.info? 68).map (fun i => (i.zero, i.size, i.bytes)) = some (some (.agg zRec.toArray), 34, 64) := by kernel_rfl
theorem row_zeroL (w : World) : Row (w.alloc (.cells #[] 68)) 68 34 (.slice (some ⟨w.heap.size, 0, none⟩) 0 0) 0 [] :=
  ⟨rfl, .inr ⟨w.heap.size, 0, #[], rfl, Nat.zero_le _, World.alloc_heap_new w _, Nat.le_refl _, Nat.zero_le _, rfl, rfl⟩⟩
theorem elS_cell {zs : List El} (hz : ∀ z ∈ zs, elOk z) (j : Nat) (u : Value) (h : (elS zs)[j]? = some u) : ∃ i z r, zs[i]? = some z ∧ (elC z)[r]? = some u ∧ j = i * 34 + r := by
  have hl := elS_length zs hz
  have hj := (List.getElem?_eq_some_iff.1 h).1
  have hi : j / 34 < zs.length := by omega
  have hzi : zs[j / 34]? = some zs[j / 34] := List.getElem?_eq_getElem hi
  have hcl := elC_length (hz _ (List.getElem_mem hi))
  have hr : j % 34 < (elC zs[j / 34]).length := by rw [hcl]; exact Nat.mod_lt _ (by omega)
  have h2 := elS_get zs hz (j / 34) _ hzi (j % 34) _ (List.getElem?_eq_getElem hr)
  have e : j / 34 * 34 + j % 34 = j := by omega
  rw [e, h] at h2
  exact ⟨j / 34, _, j % 34, hzi, by rw [h2]; exact List.getElem?_eq_getElem hr, e.symm⟩
theorem rw_src {S : Nat → Prop} {w : World} {a : Option Addr} {n c : Nat} {zs : List El} (h : RW S w (.slice a n c) zs) (hn : n = zs.length) (hc : a = none → c = 0) : Sim.Src w (.slice a n c) n 34 (elS zs) := by
  obtain ⟨a', c', e, h4, h5⟩ := h
  simp only [Value.slice.injEq] at e
  obtain ⟨rfl, _, rfl⟩ := e
  have hz : ∀ z ∈ zs, elOk z := fun z hz => (h4 z hz).1
  have h1 : ∀ u ∈ elS zs, u.oneCell' = true := fun u hu => by
    obtain ⟨z, _, hu⟩ := List.mem_flatMap.1 hu
    exact elC_one z u hu
  cases a with
  | none =>
    have hzs : zs = [] := by
      cases zs with
      | nil => rfl
      | cons z r =>
        obtain ⟨g, o, e, _⟩ := h5 0 z rfl
        cases e
    subst hzs
    left
    rw [hc rfl, hn]
    exact ⟨rfl, rfl, rfl⟩
  | some x =>
    refine .inr ⟨x, c, rfl, by rw [elS_length zs hz, hn], fun j u hu => ?_, h1⟩
    obtain ⟨i, z, r, hi, hr, rfl⟩ := elS_cell hz j u hu
    obtain ⟨g, o, e, _, _, hrg⟩ := h5 i z hi
    cases e
    rw [Sim.addr_add, ← Nat.add_assoc]
    exact hrg r u hr
theorem elS_app (xs ys : List El) : elS (xs ++ ys) = elS xs ++ elS ys := by simp [elS]
/-- A row of one's own, as records that are read. -/
theorem row_rw {S : Nat → Prop} {w : World} {u : Value} {zs : List El} (h : Row w 68 34 u zs.length (elS zs)) (hz : ∀ z ∈ zs, elOk z ∧ BySlS (fun g => S g ∧ g < w.heap.size) w (elV z) z.1.2.2) : RW (fun g => S g ∨ u.ownBlock = some g) w u zs := by
  obtain ⟨a, c, rfl, h1, h2, h3, h4⟩ := h.shape
  refine ⟨a, c, rfl, fun z hz' => ⟨(hz z hz').1, BySlS.mono (hz z hz').2 (fun g hg => ⟨.inl hg.1, hg.2⟩)⟩, fun i z hz' => ?_⟩
  cases a with
  | none =>
    have := List.length_eq_zero_iff.1 (h3 rfl).1
    rw [this] at hz'
    simp at hz'
  | some x =>
    obtain ⟨g, o, sp⟩ := x
    obtain ⟨rfl, rfl⟩ : sp = none ∧ o = 0 := h4 _ rfl
    refine ⟨g, 0, rfl, .inr rfl, h.lt g rfl, fun j v hv => ?_⟩
    have hj := elS_get zs (fun z hz1 => (hz z hz1).1) i z hz' j v hv
    rw [Nat.zero_add, h.cellAt _ (by have := (List.getElem?_eq_some_iff.1 hj).1; have := h.1; omega)]
    exact hj
theorem plS_cell (qs : List Pl) : ∀ (i : Nat) (q : Pl), qs[i]? = some q → ∀ (r : Nat) (u : Value), (plC q)[r]? = some u → (plS qs)[i * 3 + r]? = some u := by
  induction qs with
  | nil => intro i q h; simp at h
  | cons y qs ih =>
    intro i q h r u hu
    have e : plS (y :: qs) = plC y ++ plS qs := by simp [plS]
    have hy : (plC y).length = 3 := rfl
    rw [e]
    cases i with
    | zero =>
      simp at h
      subst h
      have hj := (List.getElem?_eq_some_iff.1 hu).1
      rw [Nat.zero_mul, Nat.zero_add, List.getElem?_append_left hj]
      exact hu
    | succ i =>
      rw [List.getElem?_append_right (by omega), hy, show (i + 1) * 3 + r - 3 = i * 3 + r by omega]
      exact ih i q (by simpa using h) r u hu
theorem infoWS : (Tryz.prog.info? 51).map (·.size) = some 3 := by kernel_rfl

set_option maxHeartbeats 4000000 in
set_option maxRecDepth 100000 in
theorem back_dark (w : World) (a0 a1 ac : Option Addr) (L0 c0 L1 c1 lc cc : Nat) (st nm' : Int) (B0 B1 : Bool) (hV : Vars w) (hL0 : ∀ V, Kp No w V → Calls Tryz.prog 9 #[.slice a0 L0 c0] V fun e w' => e = .returned (.bool B0) ∧ w' = V)
    (hL1 : ∀ V, Kp No w V → Calls Tryz.prog 9 #[.slice a1 L1 c1] V fun e w' => e = .returned (.bool B1) ∧ w' = V) (h : B0 = false ∨ B1 = false ∨ st < 0 ∨ 60 < (lc : Int)) :
    Calls Tryz.prog 4 #[.slice a0 L0 c0, .slice a1 L1 c1, .int .i64 st, .int .i64 nm', .slice ac lc cc] w fun e w' => e = .returned (.bool true) ∧ Kp No w w' := by
  have HA := hid (alive_any w hV)
  have HL0 := hid hL0
  have HL1 := hid hL1
  clear hV hL0 hL1
  cases B0 with
  | false =>
    clear h
    go_enter Tryz.func4, Tryz.ntmps4
    go_wp2_with fail
    refine (HL0.out w (Kp.refl No w)).mono ?_
    rintro e w0 ⟨rfl, hw0⟩
    rw [hw0]
    clear hw0 w0
    go_wp2_with fail
    refine HA.out.mono ?_
    rintro e w1 ⟨rfl, hb⟩
    have HB := hid hb
    clear hb
    go_wp2_with fail
    go_ret
    exact ⟨rfl, HB.out⟩
  | true =>
    cases B1 with
    | false =>
      clear h
      go_enter Tryz.func4, Tryz.ntmps4
      go_wp2_with fail
      refine (HL0.out w (Kp.refl No w)).mono ?_
      rintro e w0 ⟨rfl, hw0⟩
      rw [hw0]
      clear hw0 w0
      go_wp2_with fail
      refine (HL1.out w (Kp.refl No w)).mono ?_
      rintro e w0 ⟨rfl, hw0⟩
      rw [hw0]
      clear hw0 w0
      go_wp2_with fail
      refine HA.out.mono ?_
      rintro e w1 ⟨rfl, hb⟩
      have HB := hid hb
      clear hb
      go_wp2_with fail
      go_ret
      exact ⟨rfl, HB.out⟩
    | true =>
      by_cases hs : st < 0
      · clear h
        go_enter Tryz.func4, Tryz.ntmps4
        go_wp2_with fail
        refine (HL0.out w (Kp.refl No w)).mono ?_
        rintro e w0 ⟨rfl, hw0⟩
        rw [hw0]
        clear hw0 w0
        go_wp2_with fail
        refine (HL1.out w (Kp.refl No w)).mono ?_
        rintro e w0 ⟨rfl, hw0⟩
        rw [hw0]
        clear hw0 w0
        go_wp2_with fail
        refine HA.out.mono ?_
        rintro e w1 ⟨rfl, hb⟩
        have HB := hid hb
        clear hb
        go_wp2_with fail
        go_ret
        exact ⟨rfl, HB.out⟩
      · have h60 : 60 < (lc : Int) := by
          rcases h with h | h | h | h
          · cases h
          · cases h
          · exact absurd h hs
          · exact h
        go_enter Tryz.func4, Tryz.ntmps4
        go_wp2_with fail
        refine (HL0.out w (Kp.refl No w)).mono ?_
        rintro e w0 ⟨rfl, hw0⟩
        rw [hw0]
        clear hw0 w0
        go_wp2_with fail
        refine (HL1.out w (Kp.refl No w)).mono ?_
        rintro e w0 ⟨rfl, hw0⟩
        rw [hw0]
        clear hw0 w0
        go_wp2_with fail
        refine HA.out.mono ?_
        rintro e w1 ⟨rfl, hb⟩
        have HB := hid hb
        clear hb
        go_wp2_with fail
        go_ret
        exact ⟨rfl, HB.out⟩

set_option maxHeartbeats 16000000 in
set_option maxRecDepth 100000 in
theorem back_light (w : World) (a0 a1 ac : Option Addr) (L0 c0 L1 c1 lc cc : Nat) (st nm' : Int) (ys0 ys1 : List El) (cuts : List Int) (hV : Vars w) (hL0 : ∀ V, Kp No w V → Calls Tryz.prog 9 #[.slice a0 L0 c0] V fun e w' => e = .returned (.bool true) ∧ w' = V)
    (hL1 : ∀ V, Kp No w V → Calls Tryz.prog 9 #[.slice a1 L1 c1] V fun e w' => e = .returned (.bool true) ∧ w' = V) (hr0 : RW (fun g => g < w.heap.size) w (.slice a0 L0 c0) ys0) (hr1 : RW (fun g => g < w.heap.size) w (.slice a1 L1 c1) ys1)
    (hy0 : ys0.length = L0) (hy1 : ys1.length = L1) (hc0 : a0 = none → c0 = 0) (hc1 : a1 = none → c1 = 0) (hn0 : L0 ≤ 20) (hn1 : L1 ≤ 20) (hs0 : 0 ≤ st) (hs1 : st ≤ 9223372036854775807) (hlc : lc ≤ 60) (hcuts : IntsAt (· < w.heap.size) w (.slice ac lc cc) cuts) :
    Calls Tryz.prog 4 #[.slice a0 L0 c0, .slice a1 L1 c1, .int .i64 st, .int .i64 nm', .slice ac lc cc] w fun e w' => e = .returned (.bool true) ∧ Kp No w w' := by
  have HV := hid hV
  have HL0 := hid hL0
  have HL1 := hid hL1
  have HR0 := hid hr0
  have HR1 := hid hr1
  have HY0 := hid hy0
  have HY1 := hid hy1
  have HC0 := hid hc0
  have HC1 := hid hc1
  have HCUTS := hid hcuts
  have hs0' : ¬ (st < 0) := by omega
  have hlc' : ¬ (60 < (lc : Int)) := by omega
  clear hV hL0 hL1 hr0 hr1 hcuts hy0 hy1 hc0 hc1
  go_enter Tryz.func4, Tryz.ntmps4
  go_wp2_with fail
  refine (HL0.out w (Kp.refl No w)).mono ?_
  rintro e w0 ⟨rfl, hw0⟩
  rw [hw0]
  clear hw0 w0
  go_wp2_with fail
  refine (HL1.out w (Kp.refl No w)).mono ?_
  rintro e w0 ⟨rfl, hw0⟩
  rw [hw0]
  clear hw0 w0
  go_wp2_with fail
  refine (Sim.new_yes 99000 (by omega) w).mono ?_
  rintro e w1 ⟨rfl, hS1, hK1⟩
  have HS1 := hid hS1
  have HK1 := hid hK1
  have hl1 : w.heap.size < w1.heap.size := hS1.lt _ rfl
  clear hS1 hK1
  go_wp2_with fail
  refine (Crc.new_any w1).mono ?_
  rintro e w2 ⟨rfl, hb2, hs2, ht2⟩
  have HS2 : Hid (Sim.Sys (· = w.heap.size) 0 w2 w.heap.size (Sim.newPS 99000)) := HS1.out.kept (Kp.below hb2)
  have HT2 : Hid (TabX w2 w1.heap.size) := ⟨0, 0, .inl rfl, ht2⟩
  have HK2 : Hid (Kp No w w2) := HK1.out.andNone (Kp.below hb2)
  have hl2 : w1.heap.size < w2.heap.size := by omega
  clear hb2 hs2 ht2 HS1 HK1
  have hGI : CG Wh 0 0 [] (Sim.newPS 99000) := ⟨⟨rfl, List.Pairwise.nil, fun k e he => by simp [dirK, Sim.newPS] at he, fun k x hx => by simp at hx, fun x hx => by simp at hx, by omega⟩, by omega, by omega, .inr ⟨fun e he => by simp [Sim.newPS] at he, by simp [Sim.newPS]⟩⟩
  have HGI := hid hGI
  clear hGI
  go_wp2_with fail
  refine (open_any w2 w.heap.size w1.heap.size (Sim.newPS 99000) HS2.out (by simp [Sim.pList, Sim.newPS]) (by simp [Sim.pList, Sim.newPS])).mono ?_
  rintro e w3 ho
  have ho' : ∃ g P', e = .returned (.tuple #[.pointer (some ⟨g, 0, none⟩), .int .i64 0]) ∧ ShAt w3 g w.heap.size w1.heap.size 0 ∧ Sim.Sys P' 1 w3 w.heap.size (Sim.newPS 99000) ∧ Kp (· = w.heap.size) w2 w3 ∧ (∀ y, P' y → y = w.heap.size ∨ w2.heap.size ≤ y) ∧ ¬ P' g ∧ w2.heap.size ≤ g := by
    rcases ho with ⟨h, _⟩ | ⟨_, g, P', h1, h2, h3, h4, h5, h6, h7⟩
    · exact absurd rfl h
    · exact ⟨g, P', h1, h2, h3, h4, h5, h6, h7⟩
  clear ho
  obtain ⟨h, P', rfl, hH, hS3, hK3, hP3, hPg, hg2⟩ := ho'
  obtain ⟨s, hs⟩ : ∃ s, w.heap.size = s := ⟨_, rfl⟩
  obtain ⟨b, hb⟩ : ∃ b, w1.heap.size = b := ⟨_, rfl⟩
  have hgl := hH.lt
  have hhb : h ≠ b := by omega
  have hbw : w.heap.size ≤ b := by omega
  have hhw : w.heap.size ≤ h := by omega
  have hST : SC w h s b 0 1 (fun _ => False) w3 0 [] := by
    refine ⟨_, P', HGI.out, hs ▸ hb ▸ hH, ?_, hs ▸ hS3, fun x hx => ⟨?_, fun e => e⟩, fun e => ?_, hPg, HK2.out.trans hK3 (fun x hx => .inr (by have e : x = w.heap.size := hx; omega)), fun x e => e.elim⟩
    · rw [← hb]; exact HT2.out.kp hK3 (fun e => by have e' : w1.heap.size = w.heap.size := e; omega)
    · rcases hP3 x hx with e | e <;> omega
    · rcases hP3 _ e with e | e <;> omega
  have HST := hid hST
  have HOW0 := hid (own9_any w3 _ ys0 (HR0.out.kept hST.no) (by have := HY0.out; omega))
  rw [hs, hb]
  clear hH hS3 hK3 hP3 hPg HS2 HT2 HK2 hST HGI
  go_wp2_with fail
  refine HOW0.out.mono ?_
  rintro e w5 ⟨u, rfl, hrow, hou, hk5⟩
  obtain ⟨a5, c5, rfl, _⟩ := hrow.shape
  have HLAY := hid (lay_sc HST.out hk5 hhb hbw hhw HV.out _ ys0 (by have := HY0.out; omega) hrow hou (fun z hz => by
    obtain ⟨_, _, _, h4, _⟩ := HR0.out
    have k5 := HST.out.no.andNone hk5
    exact ⟨(h4 z hz).1, (h4 z hz).2.agree (fun g hg => k5.block g hg.2 (fun e => e)) (fun g hg => hg.2)⟩) (by omega) (by omega))
  have hw5 : w.heap.size ≤ w5.heap.size := (HST.out.no.andNone hk5).size
  clear hrow hou hk5 HOW0
  obtain ⟨m0, hm0⟩ : ∃ m, ys0.length = m := ⟨_, rfl⟩
  rw [hm0] at HLAY ⊢
  clear hm0
  go_wp2_with fail
  refine HLAY.out.mono ?_
  rintro e w6 ⟨v1, φ1, n1, H1, rfl, hsc1, hH1, hno1, hyes1, hkf1⟩
  have HSC1 := hid hsc1
  clear hsc1 hH1 hkf1 HLAY
  by_cases hφ1 : φ1 = 0
  · subst hφ1
    obtain ⟨qs1, hpl1, hrw1, hown1⟩ := hyes1 rfl
    obtain ⟨aw1, cw1, rfl, _⟩ := hrw1.shape
    have HPL1 := hid hpl1
    have HRW1 := hid (And.intro hrw1 hown1)
    clear hyes1 hno1 hpl1 hrw1 hown1
    obtain ⟨q1, hq1⟩ : ∃ q1, qs1.length = q1 := ⟨_, rfl⟩
    have HQ1 := hid hq1
    rw [hq1] at HRW1 HSC1 ⊢
    have hOWN1 : ∀ x, (Value.slice aw1 q1 cw1).ownBlock = some x → w.heap.size ≤ x := fun x hx => Nat.le_trans hw5 (HRW1.out.2 x (by exact hx))
    clear hq1
    go_wp2_with fail
    refine (arm_sc HSC1.out st hs1 (by omega)).mono ?_
    rintro e w7 ⟨⟨y7, rfl⟩, hsc2, hk7⟩
    have HSC2 := hid hsc2
    have HRW2 : Hid (Row w7 51 3 (.slice aw1 q1 cw1) q1 (plS qs1)) := Sim.Row.kp HRW1.out.1 hk7 (fun x hx e => e.2 (.inr hx))
    have HOW1 := hid (own9_any w7 _ ys1 (HR1.out.kept hsc2.no) (by have := HY1.out; omega))
    clear hsc2 hk7 HSC1
    go_wp2_with fail
    refine HOW1.out.mono ?_
    rintro e w8 ⟨u8, rfl, hrow8, hou8, hk8⟩
    obtain ⟨a8, c8, rfl, _⟩ := hrow8.shape
    have HLAY2 := hid (lay_sc HSC2.out hk8 hhb hbw hhw HV.out _ ys1 (by have := HY1.out; omega) hrow8 hou8 (fun z hz => by
      obtain ⟨_, _, _, h4, _⟩ := HR1.out
      have k8 := HSC2.out.no.andNone hk8
      exact ⟨(h4 z hz).1, (h4 z hz).2.agree (fun g hg => k8.block g hg.2 (fun e => e)) (fun g hg => hg.2)⟩) (by omega) (by omega))
    have HRW3 : Hid (Row w8 51 3 (.slice aw1 q1 cw1) q1 (plS qs1)) := Sim.Row.kept HRW2.out hk8
    have hw8 : w.heap.size ≤ w8.heap.size := (HSC2.out.no.andNone hk8).size
    clear hrow8 hou8 hk8 HOW1 HRW2
    obtain ⟨m1, hm1⟩ : ∃ m, ys1.length = m := ⟨_, rfl⟩
    rw [hm1] at HLAY2 ⊢
    clear hm1
    go_wp2_with fail
    refine HLAY2.out.mono ?_
    rintro e w9 ⟨v2, φ2, n2, H2, rfl, hsc3, hH2, hno2, hyes2, hkf2⟩
    have HSC3 := hid hsc3
    have HRW4 : Hid (Row w9 51 3 (.slice aw1 q1 cw1) q1 (plS qs1)) := Sim.Row.kp HRW3.out hkf2 (fun x hx e => e.2 (.inr hx))
    have HPL2 := hid (HPL1.out.more hH2)
    have HNO9 := hid hsc3.no
    clear hsc3 hH2 hkf2 HLAY2 HRW3 HPL1
    by_cases hφ2 : φ2 = 0
    · subst hφ2
      obtain ⟨qs2, hpl2, hrw2, hown2⟩ := hyes2 rfl
      have HPLX := hid (HPL2.out.app hpl2)
      have HSRC := hid (row_src hrw2 (plS_one _))
      have HRV2 := hid (And.intro hrw2 hown2)
      obtain ⟨aw2, cw2, rfl, _⟩ := hrw2.shape
      clear hyes2 hno2 hpl2 hrw2 hown2
      obtain ⟨q2, hq2⟩ : ∃ q2, qs2.length = q2 := ⟨_, rfl⟩
      have HQ2 := hid hq2
      rw [hq2] at HSRC HRV2 HSC3 ⊢
      have hq1' : q1 ≤ 20 := by have h1 := HPL2.out.1; have h2 := HQ1.out; have h3 := HY0.out; omega
      have hq2' : q2 ≤ 20 := by have h1 := HPLX.out.1; rw [List.length_append, List.length_append] at h1; have h2 := HPL2.out.1; have h3 := HY1.out; omega
      clear hq2
      have HOWN1 := hid hOWN1
      have HL01 : Hid (L0 ≤ 20 ∧ L1 ≤ 20) := ⟨hn0, hn1⟩
      go_wp2_with (first
        | (refine Sim.app_row _ (by rfl) _ _ 36 51 (.agg #[.int .i64 0, .int .i64 0, .int .i64 0]) 3 24 (by rfl) Tryz.underlying36 infoW rfl (by omega) (.slice aw1 q1 cw1) (.slice aw2 q2 cw2) q1 q2 (plS qs1) (plS qs2) (by rfl) (by rfl) HRW4.out HSRC.out (by omega) (by omega) ?_; intro ad2 cap2 w10 hrow10 hgr10 hown10; have HK10 : Hid (Kp No w w10) := HNO9.out.trans (Kp.ofGrown hgr10) (fun x hx => .inr (HOWN1.out x hx)); have HG10 := hid (And.intro hrow10 (And.intro hgr10 hown10)); clear hrow10 hgr10 hown10)
        | (refine wpList_val (by rfl) (exec_slice0 35 (by rfl) _ (run_zeroL _)) ?_)
        | (refine Sim.app_row _ (by rfl) _ _ 35 68 (.agg zRec.toArray) 34 64 (by rfl) Tryz.underlying35 infoL rfl (by omega) (.slice (some ⟨w10.heap.size, 0, none⟩) 0 0) (.slice a0 L0 c0) 0 L0 [] (elS ys0) (by rfl) (by rfl) (row_zeroL _) (rw_src (HR0.out.kept (HK10.out.andNone ((Kp.refl No _).alloc _))) HY0.out.symm HC0.out) (by omega) (by omega) ?_; intro ad3 cap3 w12 hrow12 hgr12 hown12; rw [Nat.zero_add, List.nil_append] at hrow12; rw [Nat.zero_add] at hown12 ⊢; have HK12 : Hid (Kp No w w12) := (HK10.out.andNone ((Kp.refl No _).alloc _)).trans (Kp.ofGrown hgr12) (fun x hx => .inr (by have := HK10.out.size; simp [Value.ownBlock] at hx; omega)); have HG12 := hid (And.intro hrow12 (And.intro hgr12 hown12)); clear hrow12 hgr12 hown12)
        | (refine Sim.app_row _ (by rfl) _ _ 35 68 (.agg zRec.toArray) 34 64 (by rfl) Tryz.underlying35 infoL rfl (by omega) (.slice ad3 L0 cap3) (.slice a1 L1 c1) L0 L1 (elS ys0) (elS ys1) (by rfl) (by rfl) HG12.out.1 (rw_src (HR1.out.kept HK12.out) HY1.out.symm HC1.out) (by omega) (by omega) ?_; intro ad4 cap4 w14 hrow14 hgr14 hown14))
      obtain ⟨hrow10, hgr10, hown10⟩ := HG10.out
      obtain ⟨hrow12, hgr12, hown12⟩ := HG12.out
      obtain ⟨w11, hw11⟩ : ∃ w11, w10.alloc (.cells #[] 68) = w11 := ⟨_, rfl⟩
      rw [hw11] at hgr12 hown12
      have s11 : w11.heap.size = w10.heap.size + 1 := by rw [← hw11]; simp
      have k910 : Kp (fun x => (Value.slice aw1 q1 cw1).ownBlock = some x) w9 w10 := Kp.ofGrown hgr10
      have k1011 : Kp No w10 w11 := by rw [← hw11]; exact (Kp.refl No _).alloc _
      have k1112 : Kp (fun x => w10.heap.size ≤ x) w11 w12 := (Kp.ofGrown hgr12).mono (fun x hx => .inl (by simp [Value.ownBlock] at hx; omega))
      have o3 : ∀ x, (Value.slice ad3 L0 cap3).ownBlock = some x → w10.heap.size ≤ x := fun x hx => by
        rcases hown12 with e | e
        · rw [e] at hx; simp [Value.ownBlock] at hx; omega
        · rw [e] at hx; simp at hx; omega
      have k1214 : Kp (fun x => w10.heap.size ≤ x) w12 w14 := (Kp.ofGrown hgr14).mono (fun x hx => .inl (o3 x hx))
      have k1014 : Kp (fun x => w10.heap.size ≤ x) w10 w14 := (k1011.ofNo.trans k1112 (fun x hx => .inl hx)).trans k1214 (fun x hx => .inl hx)
      have k914 : Kp (fun x => (Value.slice aw1 q1 cw1).ownBlock = some x) w9 w14 := k910.trans k1014 (fun x hx => .inr (by have := k910.size; omega))
      have HK14 : Hid (Kp No w w14) := HNO9.out.trans k914 (fun x hx => .inr (HOWN1.out x hx))
      have o4 : ∀ x, (Value.slice ad4 (L0 + L1) cap4).ownBlock = some x → w9.heap.size ≤ x := fun x hx => by
        have h1 := k910.size
        have h2 := k1112.size
        rcases hown14 with e | e
        · rw [e] at hx; have := o3 x hx; omega
        · rw [e] at hx; simp at hx; omega
      have o2 : ∀ x, (Value.slice ad2 (q1 + q2) cap2).ownBlock = some x → ((Value.slice aw1 q1 cw1).ownBlock = some x ∨ w9.heap.size ≤ x) ∧ x < w10.heap.size := fun x hx => by
        refine ⟨?_, hrow10.lt x hx⟩
        rcases hown10 with e | e
        · rw [e] at hx; exact .inl hx
        · rw [e] at hx; simp at hx; exact .inr (by omega)
      obtain ⟨Kb, hKb⟩ : ∃ Kb : Nat → Prop, (fun x => (Value.slice ad2 (q1 + q2) cap2).ownBlock = some x ∨ (Value.slice ad4 (L0 + L1) cap4).ownBlock = some x) = Kb := ⟨_, rfl⟩
      have HSC : Hid (SC w h s b 20 242 Kb w14 n2 H2) := by
        rw [Hid, ← hKb]
        refine HSC3.out.kp k914 (fun x hx => ⟨HOWN1.out x hx, .inl (.inr hx)⟩) (fun x hx => ?_)
        rcases hx with hx | hx
        · obtain ⟨h1, h2⟩ := o2 x hx
          refine ⟨?_, Nat.lt_of_lt_of_le h2 k1014.size⟩
          rcases h1 with h1 | h1
          · exact .inl (.inl (.inr h1))
          · exact .inr h1
        · exact ⟨.inr (o4 x hx), hrow14.lt x hx⟩
      have hL12 : L0 + L1 = q1 + q2 := by
        have h1 := HPLX.out.1
        rw [List.length_append, List.length_append, HQ1.out, HQ2.out, HY0.out, HY1.out] at h1
        omega
      have HKBW0 : Hid (∀ x, (Value.slice ad2 (q1 + q2) cap2).ownBlock = some x → Kb x) := fun x hx => by rw [← hKb]; exact .inl hx
      have HROW0 : Hid (Row w14 51 3 (.slice ad2 (q1 + q2) cap2) (q1 + q2) (plS (qs1 ++ qs2))) := by
        rw [Hid, plS_app]
        exact Sim.Row.kp hrow10 k1014 (fun x hx e => by have := (o2 x hx).2; omega)
      have hrw14 : RW (fun g => g < w.heap.size ∨ (Value.slice ad4 (L0 + L1) cap4).ownBlock = some g) w14 (.slice ad4 (L0 + L1) cap4) (ys0 ++ ys1) := by
        have hlen : (ys0 ++ ys1).length = L0 + L1 := by rw [List.length_append, HY0.out, HY1.out]
        refine row_rw (S := fun g => g < w.heap.size) (by rw [hlen, elS_app]; exact hrow14) (fun z hz => ?_)
        rcases List.mem_append.1 hz with hz | hz
        · obtain ⟨_, _, _, h4, _⟩ := HR0.out.kept HK14.out
          exact h4 z hz
        · obtain ⟨_, _, _, h4, _⟩ := HR1.out.kept HK14.out
          exact h4 z hz
      obtain ⟨SL, hSL⟩ : ∃ SL : Nat → Prop, (fun g => g < w.heap.size ∨ (Value.slice ad4 (L0 + L1) cap4).ownBlock = some g) = SL := ⟨_, rfl⟩
      have HSL : Hid (∀ x, SL x → x < w.heap.size ∨ Kb x) := fun x hx => by
        rw [← hSL] at hx
        rcases hx with e | e
        · exact .inl e
        · right; rw [← hKb]; exact .inr e
      rw [hSL, hL12] at hrw14
      rw [hL12]
      obtain ⟨q12, hq12⟩ : ∃ q12, q1 + q2 = q12 := ⟨_, rfl⟩
      rw [hq12] at hrw14 HROW0 HKBW0 ⊢
      have HQL : Hid ((qs1 ++ qs2).length = q12) := by rw [Hid, List.length_append, HQ1.out, HQ2.out, hq12]
      have hq12l : q12 ≤ 40 := by omega
      have HROW := hid HROW0.out
      have HKBW := hid HKBW0.out
      have HRWL := hid hrw14
      have HPL := hid HPLX.out
      have HKK := hid hKb
      clear hrow10 hgr10 hown10 hrow12 hgr12 hown12 hrow14 hgr14 hown14 hw11 k910 k1011 k1112 o3 k1214 k1014 k914 o4 o2 hKb hrw14 hSL hq12 hL12 HG10 HG12 HK10 HK12 HK14 HROW0 HKBW0 HSC2 HSC3 HRW4 HSRC HRV2 HL0 HL1
      go_wp2_with fail
      refine (up_sc HSC.out nm' _ cuts HCUTS.out).mono ?_
      rintro e w30 ⟨rfl, huc, hku⟩
      have HUC := hid huc
      have HROW3 : Hid (Row w30 51 3 (.slice ad2 q12 cap2) q12 (plS (qs1 ++ qs2))) := Sim.Row.kp HROW.out hku (fun x hx e => e.2 (HKBW.out x hx))
      have HRW3 : Hid (RW SL w30 (.slice ad4 q12 cap4) (ys0 ++ ys1)) := HRWL.out.kp hku (fun x hx e => by
        rcases HSL.out x hx with h | h
        · have := e.1; omega
        · exact e.2 h)
      clear huc hku HROW HRWL
      go_wp2_with fail
      refine (open_sc HUC.out (by omega)).mono ?_
      rintro e w31 ⟨h2, rfl, hfc, hko⟩
      have HFC := hid hfc
      have HROW4 : Hid (Row w31 51 3 (.slice ad2 q12 cap2) q12 (plS (qs1 ++ qs2))) := Sim.Row.kp HROW3.out hko (fun x hx e => e.2 (HKBW.out x hx))
      have HRW4 : Hid (RW SL w31 (.slice ad4 q12 cap4) (ys0 ++ ys1)) := HRW3.out.kp hko (fun x hx e => by
        rcases HSL.out x hx with h | h
        · have := e.1; omega
        · exact e.2 h)
      have HBB : Hid (∀ x, Kb x → x ≠ b) := fun x hx => by obtain ⟨p, P, _, _, _, _, _, _, _, _, h9, _⟩ := HFC.out; exact (h9 x hx).2.1
      have HSLB : Hid (∀ x, SL x → x ≠ b) := fun x hx => by
        rcases HSL.out x hx with h | h
        · omega
        · exact HBB.out x h
      clear hfc hko HROW3 HRW3 HUC HSC
      have hz0 := zero35
      obtain ⟨Z, hZ⟩ : ∃ Z, zRec = Z := ⟨_, rfl⟩
      have HZL : Hid (Z.length = 34) := by rw [← hZ]; exact zRec_length
      rw [hZ] at hz0
      clear hZ
      go_wp2_with fail
      go_loopw [21] (fun vi wr => ∃ k : Nat, k ≤ q12 ∧ vi = .int .i64 (k : Int) ∧ Hid (FC w h2 s b 485 Kb wr n2 H2) ∧ Hid (Row wr 51 3 (.slice ad2 q12 cap2) q12 (plS (qs1 ++ qs2))) ∧ Hid (RW SL wr (.slice ad4 q12 cap4) (ys0 ++ ys1))) (fun vi _ => q12 - (intOf vi).toNat)
      case atStart => exact ⟨0, Nat.zero_le _, rfl, HFC.out, HROW4.out, HRW4.out⟩
      case round =>
        obtain ⟨k, hk, rfl, HF, HR, HL⟩ := hrel
        by_cases hlt : k < q12
        · have hltI : (k : Int) < (q12 : Int) := by omega
          obtain ⟨q, hq⟩ : ∃ q, (qs1 ++ qs2)[k]? = some q := ⟨_, List.getElem?_eq_getElem (by rw [HQL.out]; exact hlt)⟩
          obtain ⟨gw, rfl⟩ : ∃ gw, ad2 = some ⟨gw, 0, none⟩ := by
            obtain ⟨a', c', e', _, _, hn', ho'⟩ := Sim.Row.shape HR.out
            simp only [Value.slice.injEq] at e'
            obtain ⟨rfl, _, rfl⟩ := e'
            cases ad2 with
            | none => have := (hn' rfl).1; omega
            | some y =>
              obtain ⟨g', o', s'⟩ := y
              obtain ⟨rfl, rfl⟩ : s' = none ∧ o' = 0 := ho' _ rfl
              exact ⟨g', rfl⟩
          have HRGW : Hid (wr.rangeAt gw (k * 3) (plC q)) := fun r v hv => by
            have h1 := plS_cell (qs1 ++ qs2) k q hq r v hv
            rw [Sim.Row.cellAt HR.out _ (by have h2 := (List.getElem?_eq_some_iff.1 h1).1; rw [HR.out.1] at h2; exact h2)]
            exact h1
          have HIW : Hid ((Tryz.prog.info? 51).map (·.size) = some (plC q).length) := infoWS
          have HRD := hid (read_fc HF.out hbw HPL.out k q hq)
          have hPC : plC q = [.int .i64 (q.1 : Int), .int .i64 (q.2.1 : Int), .int .i64 (q.2.2 : Int)] := rfl
          rw [hPC] at HRGW HIW
          clear hq hPC
          go_wp2_with (refine wpList_load_mid (by rfl) 51 _ (by rfl) gw (k * 3) (by rfl) [.int .i64 (q.1 : Int), .int .i64 (q.2.1 : Int), .int .i64 (q.2.2 : Int)] _ HRGW.out Tryz.underlying51 rfl HIW.out ?_)
          refine HRD.out.mono ?_
          rintro e w4 ⟨⟨rz, az, cz⟩, ⟨ry, ay, cy⟩, hz, rfl, hyz, hyo, hyb, hf4, hk4⟩
          simp only at hyz
          subst hyz
          have HF4 := hid hf4
          have HR4 : Hid (Row w4 51 3 (.slice (some ⟨gw, 0, none⟩) q12 cap2) q12 (plS (qs1 ++ qs2))) := Sim.Row.kp HR.out hk4 (fun x hx e => HBB.out x (HKBW.out x hx) e)
          have HL4 : Hid (RW SL w4 (.slice ad4 q12 cap4) (ys0 ++ ys1)) := HL.out.kp hk4 (fun x hx e => HSLB.out x hx e)
          obtain ⟨a', c', e', h4', h5'⟩ := HL4.out
          simp only [Value.slice.injEq] at e'
          obtain ⟨rfl, hxx, rfl⟩ := e'
          clear hxx
          obtain ⟨gl, ol, rfl, _, hgl, hrz⟩ := h5' k _ hz
          obtain ⟨hzo, hzb⟩ := h4' _ (List.mem_of_getElem? hz)
          obtain ⟨CZ, hCZ⟩ : ∃ C, elC ((ry, az, cz) : El) = C := ⟨_, rfl⟩
          obtain ⟨CY, hCY⟩ : ∃ C, elC ((ry, ay, cy) : El) = C := ⟨_, rfl⟩
          have hczl : CZ.length = 34 := by rw [← hCZ]; exact elC_length hzo
          have hcyl : CY.length = 34 := by rw [← hCY]; exact elC_length hyo
          have HIZ : Hid ((Tryz.prog.info? 68).map (·.size) = some CZ.length) := by rw [Hid, hczl]; exact Tryz.info26
          have HIY : Hid ((Tryz.prog.info? 56).map (·.size) = some CY.length) := by rw [Hid, hcyl]; exact Tryz.info35
          have HO1 : Hid (CY.toArray.all (·.oneCell') = true) := by rw [Hid, ← hCY]; exact all_oneCell_toArray (elC_one _)
          have HBK : Hid (∀ V, Calls Tryz.prog 22 #[.agg CY.toArray] V fun e w' => e = .returned (.agg CY.toArray) ∧ Below V.heap.size V w') := fun V => by
            rw [← hCY]
            exact back23_any ry.1 ry.2.1 ay ry.2.2.length cy V hyo.1
          have HSM0 : Hid (∀ V, Kp No w4 V → Calls Tryz.prog 21 #[.agg CY.toArray, .agg CZ.toArray] V fun e w' => e = .returned (.bool true) ∧ Below V.heap.size V w') := fun V hV => by
            have h := same18_any ry.1 ry.1 ry.2.1 ry.2.1 ry.2.2 ry.2.2 (elV ((ry, ay, cy) : El)) (elV ((ry, az, cz) : El)) V hyo.1 hyo.1 hyo.2 hyo.2
              ((hyb.agree (S' := fun g => g < V.heap.size) (fun g hg => hV.block g hg.2 (fun e => e)) (fun g hg => Nat.lt_of_lt_of_le hg.2 hV.size)).to (fun g hg => hg))
              ((hzb.agree (S' := fun g => g < V.heap.size) (fun g hg => hV.block g hg.2 (fun e => e)) (fun g hg => Nat.lt_of_lt_of_le hg.2 hV.size)).to (fun g hg => hg))
            rw [show sameR ry.1 ry.1 ry.2.1 ry.2.1 ry.2.2 ry.2.2 = true by simp [sameR]] at h
            rw [← hCY, ← hCZ]
            exact h
          have hrz' : w4.rangeAt gl (ol + k * 34) CZ := by rw [← hCZ]; exact hrz
          have HRZ0 : Hid (∀ V, Kp No w4 V → V.rangeAt gl (ol + k * 34) CZ) := fun V hV j u hu => (hV.cell (p := ⟨gl, _, none⟩) hgl (fun e => e)).trans (hrz' j u hu)
          rw [hCY]
          clear hz hyo hyb hf4 hk4 h4' h5' hzo hzb hrz hrz' hCZ hCY hgl HRD
          go_wp2_with (refine Sg.wpList_store_box (fun W => ∀ V, Kp No W V → V.rangeAt w4.heap.size 0 CY ∧ Kp No w4 V) (by rfl) 56 _ _ (by rfl) w4.heap.size 0 CY.toArray (by rfl) (by rfl) (Sg.thereE w4 _ _ _ (by rw [List.size_toArray, hcyl, List.size_toArray, HZL.out]; exact Nat.le_refl _)) HIY.out HO1.out (box34 w4 _ CY (by rw [List.size_toArray, HZL.out]) hcyl) ?_; intro W1 hW1; have HW1 := hid hW1; clear hW1)
          have HRZ : Hid (∀ V, Kp No W1 V → V.rangeAt gl (ol + k * 34) CZ) := fun V hV => HRZ0.out V (HW1.out V hV).2
          have HSM : Hid (∀ V, Kp No W1 V → Calls Tryz.prog 21 #[.agg CY.toArray, .agg CZ.toArray] V fun e w' => e = .returned (.bool true) ∧ Below V.heap.size V w') := fun V hV => HSM0.out V (HW1.out V hV).2
          refine wp_region_held_drew (S := fun V => Kp No W1 V) (by kernel_rfl) ((Kp.refl No W1).drew) (fun hHeld => ?_)
          refine wpAnyH_take (i := 0) (oi := { dst := some 124, op := Op.move (Operand.tmp 23), type := 26, pos := "law.go:216", after := #[], guard := none }) (v := .int .i64 0) rfl (by kernel_rfl) (by kernel_rfl) (by kernel_rfl) (fun _ _ _ h => h) (Or.inl ⟨by rfl, fun w' hw' => by (clear hw'; go_simp)⟩) hHeld ?_
          simp only [Act.put, List.setIfInBounds_toArray, List.set_cons_zero, List.set_cons_succ]
          refine wpAnyH_take (i := 1) (oi := { dst := some 125, op := Op.binOp BinOp.neq 26 (Operand.tmp 124) (Operand.const (Value.int IntKind.i64 0)) 26, type := 4, pos := "law.go:216", after := #[{ on := 0, ground := Ground.data }], guard := none }) (v := .bool false) rfl (by kernel_rfl) (by kernel_rfl) (by kernel_rfl) (fun _ _ _ h => h) (Or.inl ⟨by rfl, fun w' hw' => by (clear hw'; go_simp)⟩) hHeld ?_
          simp only [Act.put, List.setIfInBounds_toArray, List.set_cons_zero, List.set_cons_succ]
          refine wpAnyH_take (i := 2) (oi := { dst := some 126, op := Op.move (Operand.tmp 125), type := 4, pos := "law.go:216", after := #[{ on := 1, ground := Ground.data }], guard := none }) (v := .bool false) rfl (by kernel_rfl) (by kernel_rfl) (by kernel_rfl) (fun _ _ _ h => h) (Or.inl ⟨by rfl, fun w' hw' => by (clear hw'; go_simp)⟩) hHeld ?_
          simp only [Act.put, List.setIfInBounds_toArray, List.set_cons_zero, List.set_cons_succ]
          refine wpAnyH_take (i := 3) (oi := { dst := some 127, op := Op.load 56 (Operand.tmp 22), type := 56, pos := "law.go:216", after := #[{ on := 2, ground := Ground.guard }], guard := some (2, false) }) (v := .agg CY.toArray) rfl (by kernel_rfl) (by kernel_rfl) (by kernel_rfl) (fun _ _ _ h => h) (yieldsIf_load_mid (by rfl) _ _ rfl w4.heap.size 0 rfl CY _ (fun V hV => (HW1.out V hV).1) Tryz.underlying56 rfl HIY.out) hHeld ?_
          simp only [Act.put, List.setIfInBounds_toArray, List.set_cons_zero, List.set_cons_succ]
          refine wpAnyH_take (i := 5) (oi := { dst := some 129, op := Op.move (Operand.tmp 0), type := 35, pos := "law.go:216", after := #[{ on := 2, ground := Ground.guard }], guard := some (2, false) }) (v := .slice (some ⟨gl, ol, none⟩) q12 cap4) rfl (by kernel_rfl) (by kernel_rfl) (by kernel_rfl) (fun _ _ _ h => h) (Or.inl ⟨by rfl, fun w' hw' => by (clear hw'; go_simp)⟩) hHeld ?_
          simp only [Act.put, List.setIfInBounds_toArray, List.set_cons_zero, List.set_cons_succ]
          refine wpAnyH_take (i := 6) (oi := { dst := some 130, op := Op.move (Operand.tmp 21), type := 3, pos := "law.go:216", after := #[{ on := 2, ground := Ground.guard }], guard := some (2, false) }) (v := .int .i64 (k : Int)) rfl (by kernel_rfl) (by kernel_rfl) (by kernel_rfl) (fun _ _ _ h => h) (Or.inl ⟨by rfl, fun w' hw' => by (clear hw'; go_simp)⟩) hHeld ?_
          simp only [Act.put, List.setIfInBounds_toArray, List.set_cons_zero, List.set_cons_succ]
          refine wpAnyH_take (i := 7) (oi := { dst := some 131, op := Op.indexAddr 35 (Operand.tmp 129) (Operand.tmp 130), type := 0, pos := "law.go:216", after := #[{ on := 5, ground := Ground.data }, { on := 6, ground := Ground.data }, { on := 2, ground := Ground.guard }], guard := some (2, false) }) (v := .pointer (some ⟨gl, ol + k * 34, none⟩)) rfl (by kernel_rfl) (by kernel_rfl) (by kernel_rfl) (fun _ _ _ h => h) (Or.inl ⟨by rfl, fun w' hw' => by (clear hw'; go_simp)⟩) hHeld ?_
          simp only [Act.put, List.setIfInBounds_toArray, List.set_cons_zero, List.set_cons_succ]
          refine wpAnyH_take (i := 8) (oi := { dst := some 132, op := Op.load 68 (Operand.tmp 131), type := 68, pos := "law.go:216", after := #[{ on := 7, ground := Ground.data }, { on := 2, ground := Ground.guard }], guard := some (2, false) }) (v := .agg CZ.toArray) rfl (by kernel_rfl) (by kernel_rfl) (by kernel_rfl) (fun _ _ _ h => h) (yieldsIf_load_mid (by rfl) _ _ rfl gl (ol + k * 34) rfl CZ _ (fun V hV => HRZ.out V hV) Tryz.underlying68 rfl HIZ.out) hHeld ?_
          simp only [Act.put, List.setIfInBounds_toArray, List.set_cons_zero, List.set_cons_succ]
          refine wpAnyH_ready (rs := [4]) (by kernel_rfl) (by simp) ?_
          refine (AllReadyH.cons (o := { dst := some 128, op := Op.call { callee := Callee.value (Operand.func 22), args := #[Operand.tmp 127], argTypes := #[56] }, type := 68, pos := "law.go:216", after := #[{ on := 3, ground := Ground.data }, { on := 2, ground := Ground.chain }, { on := 2, ground := Ground.guard }], guard := some (2, false) }) rfl (fun K hK => ?_) AllReadyH.nil)
          go_simp
          refine (HBK.out _).mono ?_
          rintro e' wA ⟨rfl, hbA⟩
          have HKA : Hid (Kp No W1 wA) := (Kp.refl No W1).drew.andNone (Kp.below hbA)
          clear hbA
          go_wp2_with fail
          refine hK.out _ _ (HKA.out) (fun hh => ?_)
          clear hK K hHeld
          have hHeld := hh
          clear hh
          try simp only [Act.put, List.setIfInBounds_toArray, List.set_cons_zero, List.set_cons_succ]
          refine wpAnyH_ready (rs := [9]) (by kernel_rfl) (by simp) ?_
          refine (AllReadyH.cons (o := { dst := some 133, op := Op.call { callee := Callee.value (Operand.func 21), args := #[Operand.tmp 128, Operand.tmp 132], argTypes := #[68, 68] }, type := 4, pos := "law.go:216", after := #[{ on := 4, ground := Ground.data }, { on := 8, ground := Ground.data }, { on := 4, ground := Ground.chain }, { on := 2, ground := Ground.guard }], guard := some (2, false) }) rfl (fun K hK => ?_) AllReadyH.nil)
          go_simp
          refine (HSM.out _ HKA.out).mono ?_
          rintro e' wB ⟨rfl, hbB⟩
          have HKB : Hid (Kp No W1 wB) := HKA.out.andNone (Kp.below hbB)
          clear hbB
          go_wp2_with fail
          refine hK.out _ _ (HKB.out) (fun hh => ?_)
          clear hK K hHeld
          have hHeld := hh
          clear hh
          try simp only [Act.put, List.setIfInBounds_toArray, List.set_cons_zero, List.set_cons_succ]
          refine wpAnyH_take (i := 10) (oi := { dst := some 134, op := Op.unOp UnOp.not 4 (Operand.tmp 133), type := 4, pos := "law.go:216", after := #[{ on := 9, ground := Ground.data }, { on := 2, ground := Ground.guard }], guard := some (2, false) }) (v := .bool false) rfl (by kernel_rfl) (by kernel_rfl) (by kernel_rfl) (fun _ _ _ h => h) (Or.inl ⟨by rfl, fun w' hw' => by (clear hw'; go_simp)⟩) hHeld ?_
          simp only [Act.put, List.setIfInBounds_toArray, List.set_cons_zero, List.set_cons_succ]
          refine wpAnyH_take (i := 11) (oi := { dst := some 135, op := Op.pick (Operand.tmp 126) (Operand.const (Value.bool true)) (Operand.tmp 134), type := 4, pos := "law.go:216", after := #[{ on := 2, ground := Ground.data }, { on := 10, ground := Ground.data }], guard := none }) (v := .bool false) rfl (by kernel_rfl) (by kernel_rfl) (by kernel_rfl) (fun _ _ _ h => h) (Or.inl ⟨by rfl, fun w' hw' => by (clear hw'; go_simp)⟩) hHeld ?_
          simp only [Act.put, List.setIfInBounds_toArray, List.set_cons_zero, List.set_cons_succ]
          refine wpAnyH_done (by kernel_rfl) ?_ _
          clear hHeld
          go_wp2_with fail
          have HK4B : Hid (Kp No w4 wB) := (HW1.out wB HKB.out).2
          refine ⟨⟨k + 1, by omega, by go_num, HF4.out.kept HK4B.out hbw, Sim.Row.kept HR4.out HK4B.out, HL4.out.kept HK4B.out⟩, by simp [intOf]; omega⟩
        · have hltI : ¬ (k : Int) < (q12 : Int) := by omega
          have HWF := hid (walk_fc HF.out hbw HV.out)
          clear HR HL HROW4 HRW4 HFC
          go_wp2_with fail
          refine HWF.out.mono ?_
          rintro e w5 ⟨u5, a5, c5, rfl, hf5⟩
          have HF5 := hid hf5
          clear hf5 HWF HF
          go_wp2_with fail
          refine (temps_fc HF5.out).mono ?_
          rintro e w6 ⟨a6, c6, rfl, hk6⟩
          have HK6 := hid hk6
          clear hk6
          go_wp2_with fail
          refine (alive_any w6 (Vars.kept HV.out HK6.out)).mono ?_
          rintro e w9 ⟨rfl, hk9⟩
          have HK9 := hid (HK6.out.andNone hk9)
          clear hk9
          go_wp2_with fail
          go_ret
          exact ⟨rfl, HK9.out⟩
    · obtain rfl := hno2 hφ2
      have hφI : ¬ ((φ2 : Int) = 0) := by omega
      have hqL : q1 = L0 := by rw [← HQ1.out, ← HY0.out]; exact HPL2.out.1
      subst hqL
      obtain ⟨Kb, hKb⟩ : ∃ Kb : Nat → Prop, (fun x => (Value.slice aw1 q1 cw1).ownBlock = some x) = Kb := ⟨_, rfl⟩
      have HSC : Hid (SC w h s b 20 242 Kb w9 n2 H2) := by
        rw [Hid, ← hKb]
        refine HSC3.out.kp (Kp.refl No _) (fun x hx => hx.elim) (fun x hx => ⟨.inl (.inl (.inr hx)), HRW4.out.lt x hx⟩)
      have HKBW : Hid (∀ x, (Value.slice aw1 q1 cw1).ownBlock = some x → Kb x) := fun x hx => by rw [← hKb]; exact hx
      obtain ⟨SL, hSL⟩ : ∃ SL : Nat → Prop, (fun g => g < w.heap.size) = SL := ⟨_, rfl⟩
      have HSL : Hid (∀ x, SL x → x < w.heap.size ∨ Kb x) := fun x hx => by rw [← hSL] at hx; exact .inl hx
      have hrw0 := HR0.out.kept HNO9.out
      rw [hSL] at hrw0
      have HRWL := hid hrw0
      have HROW := hid HRW4.out
      have HPL := hid HPL2.out
      have HQL := hid HQ1.out
      clear hKb hSL hrw0 HSC2 HSC3 HRW4 HL0 HL1 hyes2 hno2
      go_wp2_with fail
      refine (up_sc HSC.out nm' _ cuts HCUTS.out).mono ?_
      rintro e w30 ⟨rfl, huc, hku⟩
      have HUC := hid huc
      have HROW3 : Hid (Row w30 51 3 (.slice aw1 q1 cw1) q1 (plS qs1)) := Sim.Row.kp HROW.out hku (fun x hx e => e.2 (HKBW.out x hx))
      have HRW3 : Hid (RW SL w30 (.slice a0 q1 c0) ys0) := HRWL.out.kp hku (fun x hx e => by
        rcases HSL.out x hx with h | h
        · have := e.1; omega
        · exact e.2 h)
      clear huc hku HROW HRWL
      go_wp2_with fail
      refine (open_sc HUC.out (by omega)).mono ?_
      rintro e w31 ⟨h2, rfl, hfc, hko⟩
      have HFC := hid hfc
      have HROW4 : Hid (Row w31 51 3 (.slice aw1 q1 cw1) q1 (plS qs1)) := Sim.Row.kp HROW3.out hko (fun x hx e => e.2 (HKBW.out x hx))
      have HRW4 : Hid (RW SL w31 (.slice a0 q1 c0) ys0) := HRW3.out.kp hko (fun x hx e => by
        rcases HSL.out x hx with h | h
        · have := e.1; omega
        · exact e.2 h)
      have HBB : Hid (∀ x, Kb x → x ≠ b) := fun x hx => by obtain ⟨p, P, _, _, _, _, _, _, _, _, h9, _⟩ := HFC.out; exact (h9 x hx).2.1
      have HSLB : Hid (∀ x, SL x → x ≠ b) := fun x hx => by
        rcases HSL.out x hx with h | h
        · omega
        · exact HBB.out x h
      clear hfc hko HROW3 HRW3 HUC HSC
      have hz0 := zero35
      obtain ⟨Z, hZ⟩ : ∃ Z, zRec = Z := ⟨_, rfl⟩
      have HZL : Hid (Z.length = 34) := by rw [← hZ]; exact zRec_length
      rw [hZ] at hz0
      clear hZ
      go_wp2_with fail
      go_loopw [21] (fun vi wr => ∃ k : Nat, k ≤ q1 ∧ vi = .int .i64 (k : Int) ∧ Hid (FC w h2 s b 485 Kb wr n2 H2) ∧ Hid (Row wr 51 3 (.slice aw1 q1 cw1) q1 (plS qs1)) ∧ Hid (RW SL wr (.slice a0 q1 c0) ys0)) (fun vi _ => q1 - (intOf vi).toNat)
      case atStart => exact ⟨0, Nat.zero_le _, rfl, HFC.out, HROW4.out, HRW4.out⟩
      case round =>
        obtain ⟨k, hk, rfl, HF, HR, HL⟩ := hrel
        by_cases hlt : k < q1
        · have hltI : (k : Int) < (q1 : Int) := by omega
          obtain ⟨q, hq⟩ : ∃ q, qs1[k]? = some q := ⟨_, List.getElem?_eq_getElem (by rw [HQL.out]; exact hlt)⟩
          obtain ⟨gw, rfl⟩ : ∃ gw, aw1 = some ⟨gw, 0, none⟩ := by
            obtain ⟨a', c', e', _, _, hn', ho'⟩ := Sim.Row.shape HR.out
            simp only [Value.slice.injEq] at e'
            obtain ⟨rfl, _, rfl⟩ := e'
            cases aw1 with
            | none => have := (hn' rfl).1; omega
            | some y =>
              obtain ⟨g', o', s'⟩ := y
              obtain ⟨rfl, rfl⟩ : s' = none ∧ o' = 0 := ho' _ rfl
              exact ⟨g', rfl⟩
          have HRGW : Hid (wr.rangeAt gw (k * 3) (plC q)) := fun r v hv => by
            have h1 := plS_cell qs1 k q hq r v hv
            rw [Sim.Row.cellAt HR.out _ (by have h2 := (List.getElem?_eq_some_iff.1 h1).1; rw [HR.out.1] at h2; exact h2)]
            exact h1
          have HIW : Hid ((Tryz.prog.info? 51).map (·.size) = some (plC q).length) := infoWS
          have HRD := hid (read_fc HF.out hbw HPL.out k q hq)
          have hPC : plC q = [.int .i64 (q.1 : Int), .int .i64 (q.2.1 : Int), .int .i64 (q.2.2 : Int)] := rfl
          rw [hPC] at HRGW HIW
          clear hq hPC
          go_wp2_with (refine wpList_load_mid (by rfl) 51 _ (by rfl) gw (k * 3) (by rfl) [.int .i64 (q.1 : Int), .int .i64 (q.2.1 : Int), .int .i64 (q.2.2 : Int)] _ HRGW.out Tryz.underlying51 rfl HIW.out ?_)
          refine HRD.out.mono ?_
          rintro e w4 ⟨⟨rz, az, cz⟩, ⟨ry, ay, cy⟩, hz, rfl, hyz, hyo, hyb, hf4, hk4⟩
          simp only at hyz
          subst hyz
          have HF4 := hid hf4
          have HR4 : Hid (Row w4 51 3 (.slice (some ⟨gw, 0, none⟩) q1 cw1) q1 (plS qs1)) := Sim.Row.kp HR.out hk4 (fun x hx e => HBB.out x (HKBW.out x hx) e)
          have HL4 : Hid (RW SL w4 (.slice a0 q1 c0) ys0) := HL.out.kp hk4 (fun x hx e => HSLB.out x hx e)
          obtain ⟨a', c', e', h4', h5'⟩ := HL4.out
          simp only [Value.slice.injEq] at e'
          obtain ⟨rfl, hxx, rfl⟩ := e'
          clear hxx
          obtain ⟨gl, ol, rfl, _, hgl, hrz⟩ := h5' k _ hz
          obtain ⟨hzo, hzb⟩ := h4' _ (List.mem_of_getElem? hz)
          obtain ⟨CZ, hCZ⟩ : ∃ C, elC ((ry, az, cz) : El) = C := ⟨_, rfl⟩
          obtain ⟨CY, hCY⟩ : ∃ C, elC ((ry, ay, cy) : El) = C := ⟨_, rfl⟩
          have hczl : CZ.length = 34 := by rw [← hCZ]; exact elC_length hzo
          have hcyl : CY.length = 34 := by rw [← hCY]; exact elC_length hyo
          have HIZ : Hid ((Tryz.prog.info? 68).map (·.size) = some CZ.length) := by rw [Hid, hczl]; exact Tryz.info26
          have HIY : Hid ((Tryz.prog.info? 56).map (·.size) = some CY.length) := by rw [Hid, hcyl]; exact Tryz.info35
          have HO1 : Hid (CY.toArray.all (·.oneCell') = true) := by rw [Hid, ← hCY]; exact all_oneCell_toArray (elC_one _)
          have HBK : Hid (∀ V, Calls Tryz.prog 22 #[.agg CY.toArray] V fun e w' => e = .returned (.agg CY.toArray) ∧ Below V.heap.size V w') := fun V => by
            rw [← hCY]
            exact back23_any ry.1 ry.2.1 ay ry.2.2.length cy V hyo.1
          have HSM0 : Hid (∀ V, Kp No w4 V → Calls Tryz.prog 21 #[.agg CY.toArray, .agg CZ.toArray] V fun e w' => e = .returned (.bool true) ∧ Below V.heap.size V w') := fun V hV => by
            have h := same18_any ry.1 ry.1 ry.2.1 ry.2.1 ry.2.2 ry.2.2 (elV ((ry, ay, cy) : El)) (elV ((ry, az, cz) : El)) V hyo.1 hyo.1 hyo.2 hyo.2
              ((hyb.agree (S' := fun g => g < V.heap.size) (fun g hg => hV.block g hg.2 (fun e => e)) (fun g hg => Nat.lt_of_lt_of_le hg.2 hV.size)).to (fun g hg => hg))
              ((hzb.agree (S' := fun g => g < V.heap.size) (fun g hg => hV.block g hg.2 (fun e => e)) (fun g hg => Nat.lt_of_lt_of_le hg.2 hV.size)).to (fun g hg => hg))
            rw [show sameR ry.1 ry.1 ry.2.1 ry.2.1 ry.2.2 ry.2.2 = true by simp [sameR]] at h
            rw [← hCY, ← hCZ]
            exact h
          have hrz' : w4.rangeAt gl (ol + k * 34) CZ := by rw [← hCZ]; exact hrz
          have HRZ0 : Hid (∀ V, Kp No w4 V → V.rangeAt gl (ol + k * 34) CZ) := fun V hV j u hu => (hV.cell (p := ⟨gl, _, none⟩) hgl (fun e => e)).trans (hrz' j u hu)
          rw [hCY]
          clear hz hyo hyb hf4 hk4 h4' h5' hzo hzb hrz hrz' hCZ hCY hgl HRD
          go_wp2_with (refine Sg.wpList_store_box (fun W => ∀ V, Kp No W V → V.rangeAt w4.heap.size 0 CY ∧ Kp No w4 V) (by rfl) 56 _ _ (by rfl) w4.heap.size 0 CY.toArray (by rfl) (by rfl) (Sg.thereE w4 _ _ _ (by rw [List.size_toArray, hcyl, List.size_toArray, HZL.out]; exact Nat.le_refl _)) HIY.out HO1.out (box34 w4 _ CY (by rw [List.size_toArray, HZL.out]) hcyl) ?_; intro W1 hW1; have HW1 := hid hW1; clear hW1)
          have HRZ : Hid (∀ V, Kp No W1 V → V.rangeAt gl (ol + k * 34) CZ) := fun V hV => HRZ0.out V (HW1.out V hV).2
          have HSM : Hid (∀ V, Kp No W1 V → Calls Tryz.prog 21 #[.agg CY.toArray, .agg CZ.toArray] V fun e w' => e = .returned (.bool true) ∧ Below V.heap.size V w') := fun V hV => HSM0.out V (HW1.out V hV).2
          refine wp_region_held_drew (S := fun V => Kp No W1 V) (by kernel_rfl) ((Kp.refl No W1).drew) (fun hHeld => ?_)
          refine wpAnyH_take (i := 0) (oi := { dst := some 124, op := Op.move (Operand.tmp 23), type := 26, pos := "law.go:216", after := #[], guard := none }) (v := .int .i64 0) rfl (by kernel_rfl) (by kernel_rfl) (by kernel_rfl) (fun _ _ _ h => h) (Or.inl ⟨by rfl, fun w' hw' => by (clear hw'; go_simp)⟩) hHeld ?_
          simp only [Act.put, List.setIfInBounds_toArray, List.set_cons_zero, List.set_cons_succ]
          refine wpAnyH_take (i := 1) (oi := { dst := some 125, op := Op.binOp BinOp.neq 26 (Operand.tmp 124) (Operand.const (Value.int IntKind.i64 0)) 26, type := 4, pos := "law.go:216", after := #[{ on := 0, ground := Ground.data }], guard := none }) (v := .bool false) rfl (by kernel_rfl) (by kernel_rfl) (by kernel_rfl) (fun _ _ _ h => h) (Or.inl ⟨by rfl, fun w' hw' => by (clear hw'; go_simp)⟩) hHeld ?_
          simp only [Act.put, List.setIfInBounds_toArray, List.set_cons_zero, List.set_cons_succ]
          refine wpAnyH_take (i := 2) (oi := { dst := some 126, op := Op.move (Operand.tmp 125), type := 4, pos := "law.go:216", after := #[{ on := 1, ground := Ground.data }], guard := none }) (v := .bool false) rfl (by kernel_rfl) (by kernel_rfl) (by kernel_rfl) (fun _ _ _ h => h) (Or.inl ⟨by rfl, fun w' hw' => by (clear hw'; go_simp)⟩) hHeld ?_
          simp only [Act.put, List.setIfInBounds_toArray, List.set_cons_zero, List.set_cons_succ]
          refine wpAnyH_take (i := 3) (oi := { dst := some 127, op := Op.load 56 (Operand.tmp 22), type := 56, pos := "law.go:216", after := #[{ on := 2, ground := Ground.guard }], guard := some (2, false) }) (v := .agg CY.toArray) rfl (by kernel_rfl) (by kernel_rfl) (by kernel_rfl) (fun _ _ _ h => h) (yieldsIf_load_mid (by rfl) _ _ rfl w4.heap.size 0 rfl CY _ (fun V hV => (HW1.out V hV).1) Tryz.underlying56 rfl HIY.out) hHeld ?_
          simp only [Act.put, List.setIfInBounds_toArray, List.set_cons_zero, List.set_cons_succ]
          refine wpAnyH_take (i := 5) (oi := { dst := some 129, op := Op.move (Operand.tmp 0), type := 35, pos := "law.go:216", after := #[{ on := 2, ground := Ground.guard }], guard := some (2, false) }) (v := .slice (some ⟨gl, ol, none⟩) q1 c0) rfl (by kernel_rfl) (by kernel_rfl) (by kernel_rfl) (fun _ _ _ h => h) (Or.inl ⟨by rfl, fun w' hw' => by (clear hw'; go_simp)⟩) hHeld ?_
          simp only [Act.put, List.setIfInBounds_toArray, List.set_cons_zero, List.set_cons_succ]
          refine wpAnyH_take (i := 6) (oi := { dst := some 130, op := Op.move (Operand.tmp 21), type := 3, pos := "law.go:216", after := #[{ on := 2, ground := Ground.guard }], guard := some (2, false) }) (v := .int .i64 (k : Int)) rfl (by kernel_rfl) (by kernel_rfl) (by kernel_rfl) (fun _ _ _ h => h) (Or.inl ⟨by rfl, fun w' hw' => by (clear hw'; go_simp)⟩) hHeld ?_
          simp only [Act.put, List.setIfInBounds_toArray, List.set_cons_zero, List.set_cons_succ]
          refine wpAnyH_take (i := 7) (oi := { dst := some 131, op := Op.indexAddr 35 (Operand.tmp 129) (Operand.tmp 130), type := 0, pos := "law.go:216", after := #[{ on := 5, ground := Ground.data }, { on := 6, ground := Ground.data }, { on := 2, ground := Ground.guard }], guard := some (2, false) }) (v := .pointer (some ⟨gl, ol + k * 34, none⟩)) rfl (by kernel_rfl) (by kernel_rfl) (by kernel_rfl) (fun _ _ _ h => h) (Or.inl ⟨by rfl, fun w' hw' => by (clear hw'; go_simp)⟩) hHeld ?_
          simp only [Act.put, List.setIfInBounds_toArray, List.set_cons_zero, List.set_cons_succ]
          refine wpAnyH_take (i := 8) (oi := { dst := some 132, op := Op.load 68 (Operand.tmp 131), type := 68, pos := "law.go:216", after := #[{ on := 7, ground := Ground.data }, { on := 2, ground := Ground.guard }], guard := some (2, false) }) (v := .agg CZ.toArray) rfl (by kernel_rfl) (by kernel_rfl) (by kernel_rfl) (fun _ _ _ h => h) (yieldsIf_load_mid (by rfl) _ _ rfl gl (ol + k * 34) rfl CZ _ (fun V hV => HRZ.out V hV) Tryz.underlying68 rfl HIZ.out) hHeld ?_
          simp only [Act.put, List.setIfInBounds_toArray, List.set_cons_zero, List.set_cons_succ]
          refine wpAnyH_ready (rs := [4]) (by kernel_rfl) (by simp) ?_
          refine (AllReadyH.cons (o := { dst := some 128, op := Op.call { callee := Callee.value (Operand.func 22), args := #[Operand.tmp 127], argTypes := #[56] }, type := 68, pos := "law.go:216", after := #[{ on := 3, ground := Ground.data }, { on := 2, ground := Ground.chain }, { on := 2, ground := Ground.guard }], guard := some (2, false) }) rfl (fun K hK => ?_) AllReadyH.nil)
          go_simp
          refine (HBK.out _).mono ?_
          rintro e' wA ⟨rfl, hbA⟩
          have HKA : Hid (Kp No W1 wA) := (Kp.refl No W1).drew.andNone (Kp.below hbA)
          clear hbA
          go_wp2_with fail
          refine hK.out _ _ (HKA.out) (fun hh => ?_)
          clear hK K hHeld
          have hHeld := hh
          clear hh
          try simp only [Act.put, List.setIfInBounds_toArray, List.set_cons_zero, List.set_cons_succ]
          refine wpAnyH_ready (rs := [9]) (by kernel_rfl) (by simp) ?_
          refine (AllReadyH.cons (o := { dst := some 133, op := Op.call { callee := Callee.value (Operand.func 21), args := #[Operand.tmp 128, Operand.tmp 132], argTypes := #[68, 68] }, type := 4, pos := "law.go:216", after := #[{ on := 4, ground := Ground.data }, { on := 8, ground := Ground.data }, { on := 4, ground := Ground.chain }, { on := 2, ground := Ground.guard }], guard := some (2, false) }) rfl (fun K hK => ?_) AllReadyH.nil)
          go_simp
          refine (HSM.out _ HKA.out).mono ?_
          rintro e' wB ⟨rfl, hbB⟩
          have HKB : Hid (Kp No W1 wB) := HKA.out.andNone (Kp.below hbB)
          clear hbB
          go_wp2_with fail
          refine hK.out _ _ (HKB.out) (fun hh => ?_)
          clear hK K hHeld
          have hHeld := hh
          clear hh
          try simp only [Act.put, List.setIfInBounds_toArray, List.set_cons_zero, List.set_cons_succ]
          refine wpAnyH_take (i := 10) (oi := { dst := some 134, op := Op.unOp UnOp.not 4 (Operand.tmp 133), type := 4, pos := "law.go:216", after := #[{ on := 9, ground := Ground.data }, { on := 2, ground := Ground.guard }], guard := some (2, false) }) (v := .bool false) rfl (by kernel_rfl) (by kernel_rfl) (by kernel_rfl) (fun _ _ _ h => h) (Or.inl ⟨by rfl, fun w' hw' => by (clear hw'; go_simp)⟩) hHeld ?_
          simp only [Act.put, List.setIfInBounds_toArray, List.set_cons_zero, List.set_cons_succ]
          refine wpAnyH_take (i := 11) (oi := { dst := some 135, op := Op.pick (Operand.tmp 126) (Operand.const (Value.bool true)) (Operand.tmp 134), type := 4, pos := "law.go:216", after := #[{ on := 2, ground := Ground.data }, { on := 10, ground := Ground.data }], guard := none }) (v := .bool false) rfl (by kernel_rfl) (by kernel_rfl) (by kernel_rfl) (fun _ _ _ h => h) (Or.inl ⟨by rfl, fun w' hw' => by (clear hw'; go_simp)⟩) hHeld ?_
          simp only [Act.put, List.setIfInBounds_toArray, List.set_cons_zero, List.set_cons_succ]
          refine wpAnyH_done (by kernel_rfl) ?_ _
          clear hHeld
          go_wp2_with fail
          have HK4B : Hid (Kp No w4 wB) := (HW1.out wB HKB.out).2
          refine ⟨⟨k + 1, by omega, by go_num, HF4.out.kept HK4B.out hbw, Sim.Row.kept HR4.out HK4B.out, HL4.out.kept HK4B.out⟩, by simp [intOf]; omega⟩
        · have hltI : ¬ (k : Int) < (q1 : Int) := by omega
          have HWF := hid (walk_fc HF.out hbw HV.out)
          clear HR HL HROW4 HRW4 HFC
          go_wp2_with fail
          refine HWF.out.mono ?_
          rintro e w5 ⟨u5, a5, c5, rfl, hf5⟩
          have HF5 := hid hf5
          clear hf5 HWF HF
          go_wp2_with fail
          refine (temps_fc HF5.out).mono ?_
          rintro e w6 ⟨a6, c6, rfl, hk6⟩
          have HK6 := hid hk6
          clear hk6
          go_wp2_with fail
          refine (alive_any w6 (Vars.kept HV.out HK6.out)).mono ?_
          rintro e w9 ⟨rfl, hk9⟩
          have HK9 := hid (HK6.out.andNone hk9)
          clear hk9
          go_wp2_with fail
          go_ret
          exact ⟨rfl, HK9.out⟩
  · obtain rfl := hno1 hφ1
    have hφI : ¬ ((φ1 : Int) = 0) := by omega
    clear hyes1 hno1
    go_wp2_with fail
    refine (alive_any w6 (Vars.kept HV.out HSC1.out.no)).mono ?_
    rintro e w9 ⟨rfl, hk9⟩
    have HK9 := hid (HSC1.out.no.andNone hk9)
    clear hk9
    go_wp2_with fail
    go_ret
    exact ⟨rfl, HK9.out⟩

end Go.Proofs.YtaaioaocjfpajaaGreatDoor.Sh
end

section
/-
  ShelfWalks, walked.
-/
namespace Go.Proofs.YtaaioaocjfpajaaGreatDoor.Sh
open Go.RowKit Go.Shelf
open Tlv (BySlS)
open Crc (Kept)
open Sim (hid Kp No PS Blk nm Row)

/-- A list of records that came in: whether it is light; its records. -/
def LIn (w : World) (a : Option Addr) (n c : Nat) : Prop :=
  ∃ B : Bool, (∀ V, Kp No w V → Calls Tryz.prog 9 #[.slice a n c] V fun e w' => e = .returned (.bool B) ∧ w' = V) ∧ (B = true → n ≤ 20 ∧ ∃ ys : List El, ys.length = n ∧ RW (fun x => x < w.heap.size) w (.slice a n c) ys)

end Go.Proofs.YtaaioaocjfpajaaGreatDoor.Sh
end

section
/-
  Records that came in, opened.
-/
namespace Go.Proofs.YtaaioaocjfpajaaGreatDoor
open Go.RowKit Go.ChangeShapes Go.WideShapes

theorem mapM_each {α β : Type} {f : α → Option β} : ∀ (L : List α) (ys : List β), L.mapM f = some ys → ∀ i ∈ L, ∃ y, f i = some y
  | [], _, _, i, hi => by simp at hi
  | a :: L, ys, h, i, hi => by
    rw [List.mapM_cons] at h
    simp only [bind, Option.bind_eq_some_iff, pure, Option.some.injEq] at h
    obtain ⟨y, hy, zs, hzs, _⟩ := h
    rcases List.mem_cons.1 hi with rfl | hi
    · exact ⟨y, hy⟩
    · exact mapM_each L zs hzs i hi

section
variable {H : Type} {enc : TypeId × Value → H} {P : Program} {W : World} {base : Nat} {sp : Nat → Bool} {held : Bool} {t e : TypeId} {n : Nat} {q : IntKind}
/-- The cells of an array of integers that came in. -/
theorem arr_ints (hu : P.underlying t = some (.array n e)) (he : P.underlying e = some (.int q)) (h1 : P.cellsOf e = 1) {fuel : Nat} {cs : List Value} {x : DataW H × List MemPlace} (hl : cs.length = n)
    (h : DataW.trod enc P W base sp held fuel t cs = some x) : ∃ zs : List Int, cs = zs.map (fun z => Value.int q z) ∧ zs.length = n ∧ ∀ z ∈ zs, (Lit.int q z).wf = true := by
  cases fuel with
  | zero => simp [DataW.trod] at h
  | succ m =>
    rw [DataW.trod_step] at h
    unfold DataW.trodStep at h
    simp only [hu] at h
    split at h
    · simp only [Option.map_eq_some_iff] at h
      obtain ⟨ys, hy, _⟩ := h
      have hE : ∀ i, i < n → ∃ z, cs[i]? = some (.int q z) ∧ (Lit.int q z).wf = true := fun i hi => by
        obtain ⟨y, hy⟩ := mapM_each _ ys hy i (List.mem_range.2 hi)
        obtain ⟨a, ea, _, wa⟩ := DataW.trod_int he hy
        rw [h1, Nat.mul_one] at ea
        refine ⟨a, ?_, wa⟩
        have h := congrArg (fun l : List Value => l[0]?) ea
        simpa [List.getElem?_take, List.getElem?_drop] using h
      refine ⟨cs.map intOf, ?_, by simpa using hl, ?_⟩
      · apply List.ext_getElem?
        intro i
        by_cases hi : i < n
        · obtain ⟨z, hz, _⟩ := hE i hi
          simp [hz, intOf]
        · have : cs[i]? = none := List.getElem?_eq_none (by omega)
          simp [this]
      · intro z hz
        obtain ⟨x, hx, rfl⟩ := List.mem_map.1 hz
        obtain ⟨i, hi, rfl⟩ := List.getElem_of_mem hx
        obtain ⟨z, hz, hw⟩ := hE i (by omega)
        rw [List.getElem?_eq_getElem hi] at hz
        simp only [Option.some.injEq] at hz
        rw [hz]
        exact hw
    · simp at h
end

/-- A slice of bytes, as it came in. -/
def InRow (W : World) (a : Option Addr) (l c : Nat) : Prop :=
  (a = none ∧ l = 0 ∧ c = 0) ∨ ∃ (y : Addr) (zs : List Int), a = some y ∧ l ≤ c ∧ c ≤ maxLen ∧ zs.length = c ∧ (∀ i, i < zs.length → W.cell? (y.add i) = some (.int .u8 (zs.getD i 0))) ∧ ∀ n ∈ zs, (Lit.int .u8 n).wf = true

theorem InRow.le {W : World} {a : Option Addr} {l c : Nat} (h : InRow W a l c) : l ≤ 9223372036854775807 := by
  rcases h with ⟨_, rfl, _⟩ | ⟨_, _, _, h1, h2, _⟩
  · omega
  · unfold maxLen at h2; omega

theorem spot_none {w : World} {x : Addr} {v : Value} (c0 : w.cell? (x.add 0) = some v) : x.spot = none := by
  have e : x.add 0 = x := rfl
  rw [e] at c0
  unfold World.cell? at c0
  split at c0
  · split at c0
    · cases c0
    · rename_i hs; simpa using hs
  · cases c0

theorem addr_plus (g o i : Nat) : (⟨g, o, none⟩ : Addr).add i = ⟨g, o + i, none⟩ := by unfold Addr.add; split <;> simp_all

theorem u8_wf {y : Int} (h : (Lit.int .u8 y).wf = true) : 0 ≤ y ∧ y ≤ 255 := by
  have hmin : IntKind.u8.min = 0 := rfl
  have hmax : IntKind.u8.max = 255 := rfl
  simp only [Lit.wf, Bool.and_eq_true, decide_eq_true_eq] at h
  omega

theorem i64_wf {y : Int} (h : (Lit.int .i64 y).wf = true) : -9223372036854775808 ≤ y ∧ y ≤ 9223372036854775807 := by
  have hmin : IntKind.i64.min = -9223372036854775808 := rfl
  have hmax : IntKind.i64.max = 9223372036854775807 := rfl
  simp only [Lit.wf, Bool.and_eq_true, decide_eq_true_eq] at h
  omega
theorem InRow.bytes {w : World} {a : Option Addr} {len cap : Nat} (h : InRow w a len cap) (hl : len ≤ 140737488355328) : ∃ bs : List Int, bs.length = len ∧ Tlv.BySl 0 w.heap.size w (.slice a len cap) bs := by
  rcases h with ⟨rfl, rfl, rfl⟩ | ⟨x, zs, rfl, h1, h2, h3, h4, h5⟩
  · exact ⟨[], rfl, Tlv.BySl.none _ _ _⟩
  · have hlen : (zs.take len).length = len := List.length_take_of_le (by omega)
    refine ⟨zs.take len, hlen, _, cap, by rw [hlen], by rw [hlen]; exact h1, h2, by simp, by rw [hlen]; omega, fun y hy => u8_wf (h5 y (List.mem_of_mem_take hy)), fun hne => ?_⟩
    have hpos : 0 < len := by have := List.length_pos_iff.2 hne; omega
    have c0 := h4 0 (by omega)
    have hx := spot_none c0
    obtain ⟨b, o, s⟩ := x
    simp only at hx
    subst hx
    refine ⟨b, o, rfl, Nat.zero_le _, World.block_lt_of_cell? w _ c0, fun i hi => ?_⟩
    have := h4 i (by omega)
    rw [addr_plus] at this
    rw [this]
    rw [hlen] at hi
    simp [hi]

set_option maxRecDepth 100000 in
/-- A record's cells that came in. -/
theorem rec_cells {H : Type} {enc : TypeId × Value → H} {W : World} {fuel : Nat} {cs : List Value} {x : DataW H × List MemPlace} (h : DataW.trod enc Tryz.prog W 0 (fun _ => true) true fuel 68 cs = some x) :
    ∃ (k : Int) (nm : List Int) (a : Option Addr) (l c : Nat), cs = recA k nm (.slice a l c) ∧ nm.length = 32 ∧ (∀ y ∈ nm, 0 ≤ y ∧ y ≤ 255) ∧ InRow W a l c := by
  obtain ⟨y0, y1, y2, n, _, hl, h0, h1, h2⟩ := Go.Deep.trod_struct3 Tryz.underlying68 h
  have e26 : Tryz.prog.cellsOf 68 = 34 := by kernel_rfl
  have e3 : Tryz.prog.cellsOf 3 = 1 := by kernel_rfl
  have e23 : Tryz.prog.cellsOf 53 = 32 := by kernel_rfl
  have e24 : Tryz.prog.cellsOf 54 = 1 := by kernel_rfl
  rw [e26] at hl
  simp only [e3, e23, e24] at h0 h1 h2
  obtain ⟨k, hk, _, _⟩ := DataW.trod_int Tryz.underlying3 h0
  obtain ⟨nm, hnm, hnl, hwf⟩ := arr_ints Tryz.underlying53 Tryz.underlying5 (by kernel_rfl) (by simp; omega) h1
  have split : cs = cs.take 1 ++ ((cs.drop 1).take 32 ++ (cs.drop 33).take 1) := by
    have e1 : (cs.drop 33).take 1 = cs.drop 33 := List.take_of_length_le (by simp; omega)
    have e2 : (cs.drop 1).take 32 ++ cs.drop 33 = cs.drop 1 := by
      have h : (cs.drop 1).drop 32 = cs.drop 33 := by rw [List.drop_drop]
      rw [← h, List.take_append_drop]
    rw [e1, e2, List.take_append_drop]
  simp only [List.drop_zero] at hk
  rcases open_ints Tryz.underlying54 Tryz.underlying5 (by kernel_rfl) h2 with ⟨hcs, _⟩ | ⟨y, l, c, zs, hcs, _, hlc, hmx, hz, _, hcell, hwz⟩
  · refine ⟨k, nm, none, 0, 0, ?_, hnl, fun y hy => u8_wf (hwf y hy), .inl ⟨rfl, rfl, rfl⟩⟩
    rw [split, hk, hnm, hcs]
    rfl
  · refine ⟨k, nm, some y, l, c, ?_, hnl, fun y hy => u8_wf (hwf y hy), .inr ⟨y, zs, rfl, hlc, hmx, by simpa using hz, hcell, hwz⟩⟩
    rw [split, hk, hnm, hcs]
    rfl

end Go.Proofs.YtaaioaocjfpajaaGreatDoor
end

section
/-
  A list of records that came in, opened.
-/
namespace Go.Proofs.YtaaioaocjfpajaaGreatDoor
open Go.RowKit Go.ChangeShapes Go.WideShapes

theorem mapM_get {α β : Type} {f : α → Option β} : ∀ (L : List α) (ys : List β), L.mapM f = some ys → ∀ i : Nat, ys[i]? = (L[i]?).bind f
  | [], ys, h, i => by
    simp only [List.mapM_nil, pure, Option.some.injEq] at h
    subst h
    simp
  | a :: L, ys, h, i => by
    rw [List.mapM_cons] at h
    simp only [bind, Option.bind_eq_some_iff, pure, Option.some.injEq] at h
    obtain ⟨y, hy, zs, hzs, rfl⟩ := h
    cases i with
    | zero => simp [hy]
    | succ i => simpa using mapM_get L zs hzs i

theorem cells_get {w : World} {base n : Nat} {a : Addr} {cs : List Value} (h : w.cells? base a n = some cs) (i : Nat) (hi : i < n) : w.cell? (a.add i) = cs[i]? := by
  unfold World.cells? at h
  split at h
  · have := mapM_get _ _ h i
    rw [List.getElem?_range hi] at this
    exact this.symm
  · cases h

/-- One of the list: kind, name, and the body's slice. -/
abbrev Raw : Type := Int × List Int × Option Addr × Nat × Nat
def rawC (t : Raw) : List Value := recA t.1 t.2.1 (.slice t.2.2.1 t.2.2.2.1 t.2.2.2.2)

set_option maxRecDepth 100000 in
theorem recs_of {H : Type} {enc : TypeId × Value → H} {W : World} {a0 : Option Addr} {len cap fuel : Nat} {x : DataW H × List MemPlace}
    (h : DataW.trod enc Tryz.prog W 0 (fun _ => true) true fuel 35 [.slice a0 len cap] = some x) :
    len ≤ maxLen ∧ ∃ ts : List Raw, ts.length = len ∧ ∀ j t, ts[j]? = some t → (t.2.1.length = 32 ∧ ∀ y ∈ t.2.1, 0 ≤ y ∧ y ≤ 255) ∧ InRow W t.2.2.1 t.2.2.2.1 t.2.2.2.2 ∧
      ∃ g o, a0 = some ⟨g, o, none⟩ ∧ g < W.heap.size ∧ W.rangeAt g (o + j * 34) (rawC t) := by
  rcases Go.Deep.open_slice Tryz.underlying35 h with ⟨hcs, _⟩ | ⟨a, l, c, m, n, D, Pl, hcs, _, hl, hm, hmm, _, hr⟩
  · simp only [List.cons.injEq, Value.slice.injEq, and_true] at hcs
    obtain ⟨rfl, rfl, rfl⟩ := hcs
    exact ⟨Nat.zero_le _, [], rfl, fun j t h => by simp at h⟩
  · simp only [List.cons.injEq, Value.slice.injEq, and_true] at hcs
    obtain ⟨rfl, rfl, rfl⟩ := hcs
    simp only [if_true] at hmm
    subst hmm
    have e26 : Tryz.prog.cellsOf 68 = 34 := by kernel_rfl
    rw [e26] at hr
    refine ⟨by omega, ?_⟩
    have each : ∀ r, r < len → ∃ t : Raw, (t.2.1.length = 32 ∧ ∀ y ∈ t.2.1, 0 ≤ y ∧ y ≤ 255) ∧ InRow W t.2.2.1 t.2.2.2.1 t.2.2.2.2 ∧ ∀ i, i < 34 → W.cell? ((a.add (r * 34)).add i) = (rawC t)[i]? := by
      intro r hr1
      obtain ⟨cs', h1, h2⟩ := hr r (by omega)
      obtain ⟨k, nm, b, l', c', rfl, w1, w2, hb⟩ := rec_cells h2
      exact ⟨(k, nm, b, l', c'), ⟨w1, w2⟩, hb, fun i hi => cells_get h1 i hi⟩
    obtain ⟨y, hy⟩ := Go.Deep.choose_lt each
    refine ⟨(List.range len).map y, by simp, fun j t hj => ?_⟩
    have hjl : j < len := by
      have := (List.getElem?_eq_some_iff.1 hj).1
      simpa using this
    simp only [List.getElem?_map, List.getElem?_range hjl, Option.map_some, Option.some.injEq] at hj
    subst hj
    obtain ⟨h1, h2, h3⟩ := hy j hjl
    refine ⟨h1, h2, ?_⟩
    have h00 := (hy 0 (by omega)).2.2 0 (by omega)
    have ha : a.spot = none := by
      rw [Nat.zero_mul] at h00
      have e : (a.add 0) = a := rfl
      rw [e] at h00
      exact spot_none h00
    obtain ⟨b, o, s⟩ := a
    simp only at ha
    subst ha
    refine ⟨b, o, rfl, ?_, fun i v hv => ?_⟩
    · rw [addr_plus, addr_plus] at h00
      exact World.block_lt_of_cell? W _ h00
    · have hi : i < 34 := by
        have := (List.getElem?_eq_some_iff.1 hv).1
        rw [rawC, recA_length _ _ _ h1.1] at this
        exact this
      have h := h3 i hi
      rw [addr_plus, addr_plus, hv] at h
      exact h

/-- The same list, where no body is long. -/
theorem els_of {W : World} {a0 : Option Addr} {ts : List Raw} (h : ∀ j t, ts[j]? = some t → (t.2.1.length = 32 ∧ ∀ y ∈ t.2.1, 0 ≤ y ∧ y ≤ 255) ∧ InRow W t.2.2.1 t.2.2.2.1 t.2.2.2.2 ∧ ∃ g o, a0 = some ⟨g, o, none⟩ ∧ g < W.heap.size ∧ W.rangeAt g (o + j * 34) (rawC t))
    (hs : ∀ t ∈ ts, t.2.2.2.1 ≤ 140737488355328) :
    ∃ ys : List El, ys.length = ts.length ∧ (ys.map fun y => y.1.2.2.length) = (ts.map fun t => t.2.2.2.1) ∧ (∀ y ∈ ys, elOk y) ∧ (∀ j y, ys[j]? = some y → ∃ g o, a0 = some ⟨g, o, none⟩ ∧ g < W.heap.size ∧ W.rangeAt g (o + j * 34) (elC y)) ∧ ∀ y ∈ ys, Tlv.BySl 0 W.heap.size W (elV y) y.1.2.2 := by
  have each : ∀ r, r < ts.length → ∃ bs : List Int, ∀ t, ts[r]? = some t → bs.length = t.2.2.2.1 ∧ Tlv.BySl 0 W.heap.size W (.slice t.2.2.1 t.2.2.2.1 t.2.2.2.2) bs := fun r hr => by
    obtain ⟨bs, b1, b2⟩ := (h r ts[r] (List.getElem?_eq_getElem hr)).2.1.bytes (hs _ (List.getElem_mem hr))
    refine ⟨bs, fun t ht => ?_⟩
    rw [List.getElem?_eq_getElem hr, Option.some.injEq] at ht
    subst ht
    exact ⟨b1, b2⟩
  obtain ⟨f, hf⟩ := Go.Deep.choose_lt each
  have key : ∀ (j : Nat) (y : El), ((List.range ts.length).map fun j => (((ts.getD j (0, [], none, 0, 0)).1, (ts.getD j (0, [], none, 0, 0)).2.1, f j), (ts.getD j (0, [], none, 0, 0)).2.2.1, (ts.getD j (0, [], none, 0, 0)).2.2.2.2))[j]? = some y →
      ∃ t, ts[j]? = some t ∧ y = ((t.1, t.2.1, f j), t.2.2.1, t.2.2.2.2) ∧ (f j).length = t.2.2.2.1 ∧ Tlv.BySl 0 W.heap.size W (.slice t.2.2.1 t.2.2.2.1 t.2.2.2.2) (f j) := fun j y hy => by
    have hjl : j < ts.length := by
      have := (List.getElem?_eq_some_iff.1 hy).1
      simpa using this
    simp only [List.getElem?_map, List.getElem?_range hjl, Option.map_some, Option.some.injEq] at hy
    subst hy
    refine ⟨ts[j], List.getElem?_eq_getElem hjl, ?_, hf j hjl _ (List.getElem?_eq_getElem hjl)⟩
    rw [List.getD_eq_getElem?_getD, List.getElem?_eq_getElem hjl]
    rfl
  refine ⟨(List.range ts.length).map fun j => (((ts.getD j (0, [], none, 0, 0)).1, (ts.getD j (0, [], none, 0, 0)).2.1, f j), (ts.getD j (0, [], none, 0, 0)).2.2.1, (ts.getD j (0, [], none, 0, 0)).2.2.2.2), by simp, ?_, fun y hy => ?_, fun j y hj => ?_, fun y hy => ?_⟩
  · apply List.ext_getElem?
    intro j
    by_cases hjl : j < ts.length
    · obtain ⟨b1, _⟩ := hf j hjl _ (List.getElem?_eq_getElem hjl)
      simp [hjl, b1]
    · rw [List.getElem?_eq_none (by simp; omega), List.getElem?_eq_none (by simp; omega)]
  · obtain ⟨j, hj⟩ := List.mem_iff_getElem?.1 hy
    obtain ⟨t, ht, rfl, _⟩ := key j y hj
    exact (h j t ht).1
  · obtain ⟨t, ht, rfl, e, _⟩ := key j y hj
    obtain ⟨g, o, h1, h2, h3⟩ := (h j t ht).2.2
    refine ⟨g, o, h1, h2, ?_⟩
    have : elC ((t.1, t.2.1, f j), t.2.2.1, t.2.2.2.2) = rawC t := by
      show recA t.1 t.2.1 (.slice t.2.2.1 (f j).length t.2.2.2.2) = _
      rw [e]
      rfl
    rw [this]
    exact h3
  · obtain ⟨j, hj⟩ := List.mem_iff_getElem?.1 hy
    obtain ⟨t, ht, rfl, e, hb⟩ := key j y hj
    show Tlv.BySl 0 W.heap.size W (.slice t.2.2.1 (f j).length t.2.2.2.2) (f j)
    rw [e]
    exact hb

end Go.Proofs.YtaaioaocjfpajaaGreatDoor
end

section
/-
  Calls of a script that came in, opened; are they few, and short?
-/
namespace Go.Proofs.YtaaioaocjfpajaaGreatDoor.Sim
open Go.RowKit Go.ChangeShapes Go.WideShapes
theorem spot_none {w : World} {x : Addr} {v : Value} (c0 : w.cell? (x.add 0) = some v) : x.spot = none := by
  have e : x.add 0 = x := rfl
  rw [e] at c0
  unfold World.cell? at c0
  split at c0
  · split at c0
    · cases c0
    · rename_i hs; simpa using hs
  · cases c0
/-- A slice of numbers, as it came in. -/
def InR (q : IntKind) (W : World) (a : Option Addr) (l c : Nat) : Prop :=
  (a = none ∧ l = 0 ∧ c = 0) ∨ ∃ (y : Addr) (zs : List Int), a = some y ∧ l ≤ c ∧ c ≤ maxLen ∧ zs.length = c ∧ (∀ i, i < zs.length → W.cell? (y.add i) = some (.int q (zs.getD i 0))) ∧ ∀ n ∈ zs, (Lit.int q n).wf = true
theorem InR.le {q : IntKind} {W : World} {a : Option Addr} {l c : Nat} (h : InR q W a l c) : l ≤ 9223372036854775807 := by
  rcases h with ⟨_, rfl, _⟩ | ⟨_, _, _, h1, h2, _⟩
  · omega
  · unfold maxLen at h2; omega
/-- Its numbers, and where they lie. -/
theorem InR.nums {q : IntKind} {w : World} {a : Option Addr} {len cap : Nat} (h : InR q w a len cap) : ∃ zs : List Int, zs.length = len ∧ len ≤ cap ∧ cap ≤ maxLen ∧ (a = none → zs = [] ∧ cap = 0) ∧ (∀ z ∈ zs, (Lit.int q z).wf = true) ∧
    (zs ≠ [] → ∃ g o, a = some ⟨g, o, none⟩ ∧ g < w.heap.size ∧ ∀ i, i < zs.length → w.cell? ⟨g, o + i, none⟩ = some (.int q (zs.getD i 0))) := by
  rcases h with ⟨rfl, rfl, rfl⟩ | ⟨x, zs, rfl, h1, h2, h3, h4, h5⟩
  · exact ⟨[], rfl, Nat.le_refl _, Nat.zero_le _, fun _ => ⟨rfl, rfl⟩, by simp, fun h => absurd rfl h⟩
  · have hlen : (zs.take len).length = len := List.length_take_of_le (by omega)
    refine ⟨zs.take len, hlen, h1, h2, by simp, fun z hz => h5 z (List.mem_of_mem_take hz), fun hne => ?_⟩
    have hpos : 0 < len := by have := List.length_pos_iff.2 hne; omega
    have c0 := h4 0 (by omega)
    have hx := spot_none c0
    obtain ⟨b, o, s⟩ := x
    simp only at hx
    subst hx
    refine ⟨b, o, rfl, World.block_lt_of_cell? w _ c0, fun i hi => ?_⟩
    have := h4 i (by omega)
    rw [addr_add] at this
    rw [this]
    rw [hlen] at hi
    simp [hi]
theorem InR.ints {w : World} {a : Option Addr} {len cap : Nat} (h : InR .i64 w a len cap) (hl : len ≤ 1000) : ∃ zs : List Int, zs.length = len ∧ IntsAt (· < w.heap.size) w (.slice a len cap) zs := by
  obtain ⟨zs, h1, h2, h3, h4, h5, h6⟩ := h.nums
  refine ⟨zs, h1, a, cap, by rw [h1], by omega, h3, by omega, fun hne => ?_⟩
  obtain ⟨g, o, e, hg, hc⟩ := h6 hne
  exact ⟨g, o, e, hg, hg, hc⟩

theorem in_of {H : Type} {enc : TypeId × Value → H} {W : World} {q : IntKind} {t e : TypeId} (ht : Tryz.prog.underlying t = some (.slice e)) (he : Tryz.prog.underlying e = some (.int q)) (hc : Tryz.prog.cellsOf e = 1) {fuel : Nat} {cs : List Value} {x : DataW H × List MemPlace}
    (h : DataW.trod enc Tryz.prog W 0 (fun _ => true) true fuel t cs = some x) : ∃ a l c, cs = [.slice a l c] ∧ InR q W a l c := by
  rcases open_ints ht he hc h with ⟨hcs, _⟩ | ⟨y, l, c, zs, hcs, _, hlc, hmx, hz, _, hcell, hwz⟩
  · exact ⟨none, 0, 0, hcs, .inl ⟨rfl, rfl, rfl⟩⟩
  · exact ⟨some y, l, c, hcs, .inr ⟨y, zs, rfl, hlc, hmx, by simpa using hz, hcell, hwz⟩⟩

end Go.Proofs.YtaaioaocjfpajaaGreatDoor.Sim
end

section
/-
  Lists of records that came in, opened.
-/
namespace Go.Proofs.YtaaioaocjfpajaaGreatDoor.Sh
open Go.RowKit Go.ChangeShapes Go.WideShapes
open Tlv (BySlS)
open Sim (hid Kp No)

/-- A list that came in, raw. -/
def RawL (w : World) (a : Option Addr) (ts : List Raw) : Prop := ∀ (j : Nat) (t : Raw), ts[j]? = some t → (t.2.1.length = 32 ∧ ∀ y ∈ t.2.1, 0 ≤ y ∧ y ≤ 255) ∧ InRow w t.2.2.1 t.2.2.2.1 t.2.2.2.2 ∧ ∃ g o, a = some ⟨g, o, none⟩ ∧ g < w.heap.size ∧ w.rangeAt g (o + j * 34) (rawC t)
theorem bySl_lift {B : Nat} {w : World} {v : Value} {bs : List Int} (h : Tlv.BySl 0 B w v bs) : BySlS (fun g => g < B) w v bs := by
  obtain ⟨a, c, e, h1, h2, h3, h4, h5, h6⟩ := h
  refine ⟨a, c, e, h1, h2, h3, h4, h5, fun h => ?_⟩
  obtain ⟨b, o, e, _, hb, hc⟩ := h6 h
  exact ⟨b, o, e, hb, hc⟩
set_option maxHeartbeats 1000000 in
/-- Many are not light. -/
theorem light_long (a : Option Addr) (L cap : Nat) (w : World) (h1 : 20 < (L : Int)) (_hL : L ≤ 9223372036854775807) :
    Calls Tryz.prog 9 #[.slice a L cap] w fun e w' => e = .returned (.bool false) ∧ w' = w := by
  go_enter Tryz.func9, Tryz.ntmps9
  go_wp2
  go_ret
  exact ⟨rfl, rfl⟩

/-- Of such a list it is known whether it is light, and its records. -/
theorem lin_of (w : World) (a : Option Addr) (c : Nat) (ts : List Raw) (hm : ts.length ≤ 9223372036854775807) (h : RawL w a ts) : LIn w a ts.length c := by
  by_cases hl : 20 < (ts.length : Int)
  · exact ⟨false, fun V _ => light_long a ts.length c V hl (by omega), fun e => by cases e⟩
  · refine ⟨lightB (ts.map fun t => t.2.2.2.1), fun V k => ?_, fun hb => ?_⟩
    · have hli := light_any a c (ts.map fun t => t.2.2.2.1) V (by rw [List.length_map]; omega) (fun l hl => by
        obtain ⟨t, ht, rfl⟩ := List.mem_map.1 hl
        obtain ⟨j, hj⟩ := List.mem_iff_getElem?.1 ht
        exact (h j t hj).2.1.le) (fun i hi => by
        rw [List.length_map] at hi
        obtain ⟨h1, _, g, o, h2, hg, h3⟩ := h i ts[i] (List.getElem?_eq_getElem hi)
        refine ⟨g, o, ts[i].2.2.1, ts[i].2.2.2.2, h2, ?_⟩
        have h4 := h3 33 _ (recA_33 _ _ _ h1.1)
        rw [(k.cell (p := ⟨g, _, none⟩) hg (fun e => e)).trans h4, List.getD_eq_getElem?_getD, List.getElem?_map, List.getElem?_eq_getElem hi]
        rfl)
      rw [List.length_map] at hli
      exact hli
    · have hs : ∀ t ∈ ts, t.2.2.2.1 ≤ 140737488355328 := fun t ht => by
        simp [lightB] at hb
        have h1 : t.2.2.2.1 ≤ 5100 := hb.2 _ _ _ _ _ ht
        exact Nat.le_trans h1 (by omega)
      obtain ⟨ys, y1, y2, y3, y4, y5⟩ := els_of h hs
      refine ⟨by omega, ys, y1, a, c, by rw [y1], fun z hz => ⟨y3 z hz, BySlS.mono (bySl_lift (y5 z hz)) (fun g hg => ⟨hg, hg⟩)⟩, fun i z hz => ?_⟩
      obtain ⟨g, o, e, hg, hr⟩ := y4 i z hz
      exact ⟨g, o, e, hg, hg, hr⟩

end Go.Proofs.YtaaioaocjfpajaaGreatDoor.Sh
end

section
/-
  A world that holds the listed variables: two errors, three tables.
-/
namespace Go.Proofs.YtaaioaocjfpajaaGreatDoor
open Go.ChangeShapes Go.WideShapes Go.ChangeAt Go.RowKit

theorem own : ownKnob Tryz.prog.godebug = none := by kernel_rfl
theorem laidOut : laidOutB Tryz.prog = true := by kernel_rfl
abbrev laidFive : List (String × DataW Unit) := Rows.shelfWalksRow.laid
def lay (cells : Array Value) : Obj → Obj
  | .cells _ t frozen => .cells cells t frozen
  | o => o
def tab32 : Array Value := (Lib.deBruijn32tab.map fun n : Nat => Value.int .u8 (n : Int)).toArray
def tab64 : Array Value := (Lib.deBruijn64tab.map fun n : Nat => Value.int .u8 (n : Int)).toArray
def tab10 : Array Value := ((List.range 20).map fun n : Nat => Value.int .u64 ((10 ^ n : Nat) : Int)).toArray
def synS : ByteArray := { data := #[105, 110, 118, 97, 108, 105, 100, 32, 115, 121, 110, 116, 97, 120] }
def rngS : ByteArray := { data := #[118, 97, 108, 117, 101, 32, 111, 117, 116, 32, 111, 102, 32, 114, 97, 110, 103, 101] }
theorem laid_met (os : Os) (args : Array Value) : laidMet Tryz.prog laidFive (({ World.holding Tryz.prog os ⟨#[.cells #[.string synS] 285, .cells #[.string rngS] 285], #[], []⟩ with heap := (((((World.holding Tryz.prog os ⟨#[.cells #[.string synS] 285, .cells #[.string rngS] 285], #[], []⟩).heap.modify 1 (lay #[.iface 283 (.pointer (some ⟨10, 0, none⟩))])).modify 2 (lay #[.iface 283 (.pointer (some ⟨11, 0, none⟩))])).modify 0 (lay tab10)).modify 3 (lay tab32)).modify 4 (lay tab64) } : World).forCall (fun _ _ => 0) ⟨#[], args, []⟩).memory :=
  laidMet_of_run' 8 (by kernel_rfl) (by kernel_rfl)
end Go.Proofs.YtaaioaocjfpajaaGreatDoor
end

section
/-
  The listed variables, as the walks want them.
-/
namespace Go.Proofs.YtaaioaocjfpajaaGreatDoor
open Go.ChangeShapes Go.WideShapes Go.ChangeAt Go.RowKit

theorem star : "*" ++ "errors.errorString" = "*errors.errorString" := by decide
theorem errRow (u : TypeId) (h : Tryz.prog.typeName? 3 u = some "*errors.errorString") : u = 283 :=
  typeName_ptr_named (nm := "errors.errorString") (by rw [star]; kernel_rfl) (by kernel_rfl) (by decide) u (by rw [star]; exact h)
theorem gSyn : Tryz.prog.globalNamed "strconv.ErrSyntax" = some 1 := by kernel_rfl
theorem gRng : Tryz.prog.globalNamed "strconv.ErrRange" = some 2 := by kernel_rfl
theorem gPow : Tryz.prog.globalNamed "internal/strconv.uint64pow10" = some 0 := by kernel_rfl
theorem tSyn : (Tryz.prog.globals[1]?).map (·.type) = some 173 := by kernel_rfl
theorem tRng : (Tryz.prog.globals[2]?).map (·.type) = some 173 := by kernel_rfl
theorem tPow : (Tryz.prog.globals[0]?).map (·.type) = some 260 := by kernel_rfl
theorem cErr : Tryz.prog.cellsOf 285 = 1 := by kernel_rfl
theorem cStr : Tryz.prog.cellsOf 9 = 1 := by kernel_rfl
theorem cU64 : Tryz.prog.cellsOf 153 = 1 := by kernel_rfl
theorem cPow : Tryz.prog.cellsOf 260 = 20 := by kernel_rfl
theorem powIs : (Rows.laid_internal_strconv_uint64pow10 : DataW Unit) = Lib.tabData .u64 Lib.pow10Tab := rfl

theorem vars_of_laid {W : World} (h : laidMetH Tryz.prog laidFive W) : Vars W := by
  rw [MakeChecks.laidMetH_plain _ _ _ (by kernel_rfl)] at h
  have h0 : laidMet Tryz.prog (("math/bits.deBruijn32tab", Rows.laid_math_bits_deBruijn32tab) :: ("math/bits.deBruijn64tab", Rows.laid_math_bits_deBruijn64tab) :: ("internal/strconv.uint64pow10", Rows.laid_internal_strconv_uint64pow10) :: ("strconv.ErrRange", Rows.laid_strconv_ErrRange) :: ("strconv.ErrSyntax", Rows.laid_strconv_ErrSyntax) :: []) W := h
  have h2 := h0.tail.tail
  have h3 := h2.tail
  have h4 := h3.tail
  rw [powIs] at h2
  have t := Lib.tabIs_of_head gPow tPow Tryz.underlying260 Tryz.underlying153 cU64 cPow h2
  obtain ⟨a1, s1, v1, _⟩ := laid_sentinel h3 gRng tRng Tryz.underlying173 errRow Tryz.underlying283 Tryz.underlying285 rfl rfl Tryz.underlying9 cErr cStr
  obtain ⟨a2, s2, v2, _⟩ := laid_sentinel h4 gSyn tSyn Tryz.underlying173 errRow Tryz.underlying283 Tryz.underlying285 rfl rfl Tryz.underlying9 cErr cStr
  exact ⟨t, ⟨_, _, v2⟩, ⟨_, _, v1⟩⟩

end Go.Proofs.YtaaioaocjfpajaaGreatDoor
end

section
/-
  The closed facts of ShelfBack's row, one by one: which functions her road reaches.
-/
namespace Go.Proofs.YtaaioaocjfpajaaGreatDoor.shelfBack
open Go.ChangeShapes Go.WideShapes Go.ChangeAt Go.RowKit

theorem f10 : (Rows.shelfBackRow.inPlace == Tryz.prog.inPlace 4) = true := by kernel_rfl
theorem f11 : (Rows.shelfBackRow.unfollowed == Tryz.prog.unfollowed 4) = true := by kernel_rfl
theorem f12 : (Rows.shelfBackRow.recurses == Tryz.prog.recurses 4) = true := by kernel_rfl
theorem f13 : (Rows.shelfBackRow.named == Tryz.prog.varsNamed 4) = true := by kernel_rfl
theorem closed : joinedFacts Tryz.prog 4 Tryz.f4 (OpenSpec.ofChange Rows.shelfBackSpec).bare Rows.shelfBackRow = true := by
  unfold joinedFacts
  rw [f10, f11, f12, f13]
  kernel_rfl
end Go.Proofs.YtaaioaocjfpajaaGreatDoor.shelfBack
end
