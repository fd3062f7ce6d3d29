/- Of the proof: the texts NdFind, NdRDir, NdSame, NdOpen, NdLight, TlvPlain, TlvBase, TlvSmall, NdConv, NdObj, one behind the other. -/
import Derived.Test.YtenfahecnkdhaaaB6
import Derived.Test.YtenfahecnkdhaaaB8
import Derived.Deep.QuietTactic
import Derived.BigQuiet
import Derived.Deep.DeepCutAuto
import Derived.ProofKit
import Derived.OpenShut
import Derived.Deep.Slices
import Derived.Deep.Strs
import Derived.Lib.SmallJoins
import Derived.WideKeyArr2
import Derived.Lib.BitFns
import Derived.Test.YtenfahecnkdhaaaRows
import Derived.WalkKit
import Derived.WalkSpells
import Derived.WalkLawsBesides
import Derived.Laws.AppendOwnNone
import Derived.Laws.IdiomStrings
section
/-
  Find: the entry of a name.
-/
namespace Go.Proofs.Ytenfahecnkdhaaa.Nd
open Go.RowKit
open Stb (Stab Srt Mrg)
open Sim (hid Kp No)

theorem UpTo.lt {d : List Ent} (h : UpTo d d.length) : ∀ (m t u : Nat) (p q : Ent), u = t + 1 + m → d[t]? = some p → d[u]? = some q → lexB p.1 q.1 = true
  | 0, t, u, p, q, hu, hp, hq => (h u q (List.getElem?_eq_some_iff.1 hq).1 hq).2 t p (by omega) hp
  | m + 1, t, u, p, q, hu, hp, hq => by
    have hul := (List.getElem?_eq_some_iff.1 hq).1
    obtain ⟨r, hr⟩ : ∃ r, d[t + 1 + m]? = some r := ⟨_, List.getElem?_eq_getElem (by omega)⟩
    exact lexB_trans _ _ _ (UpTo.lt h m t (t + 1 + m) p r rfl hp hr) ((h u q hul hq).2 (t + 1 + m) r (by omega) hr)
theorem UpTo.mono {d : List Ent} (h : UpTo d d.length) (x : List Int) : ∀ (t u : Nat) (p q : Ent), t ≤ u → d[t]? = some p → d[u]? = some q → lexB q.1 x = true → lexB p.1 x = true := fun t u p q htu hp hq hl => by
  by_cases e : t = u
  · subst e
    rw [hp] at hq
    cases hq
    exact hl
  · exact lexB_trans _ _ _ (h.lt (u - t - 1) t u p q (by omega) hp hq) hl

theorem results_cell_two {P : Program} {fn : Func} {p u : Tmp} {ty : TypeId} (h : fn.results = #[.cell p ty, .tmp u]) (tmps : Array Value) (w : World) (g o : Nat) (cs : List Value) (d : TypeDesc)
    (hp : tmps.getD p undef = .pointer (some ⟨g, o, none⟩)) (hc : w.rangeAt g o cs) (hu : P.underlying ty = some d) (hd : d.isRow = true) (hi : (P.info? ty).map (·.size) = some cs.length) :
    (results fn tmps).run P w = .ok (.tuple #[.agg cs.toArray, tmps.getD u undef]) w := by
  have hp' : tmps[p]?.getD undef = .pointer (some ⟨g, o, none⟩) := by simpa using hp
  simp only [results, h]
  simp [Result.andThen, hp', asAddr, run_loadVar_mid w g o ty cs d hc hu hd hi]

theorem wpList_build0 {P : Program} {ops : Array Oper} {rest : List Oper} {o : Oper} {a : Act} {w : World} {Q : Exit → Act → World → Prop} (hg : o.guard = none) (ty : TypeId) (ho : o.op = .build ty #[]) (C : Array Value) (hb : P.built ty [] = some C)
    (h : wpList P ops Q rest (a.put o.dst (.agg C)) w) : wpList P ops Q (o :: rest) a w := by
  have e : P.built ty ((#[] : Array (Nat × Operand)).map fun (i, x) => (i, a.eval x)).toList = some C := by
    rw [← hb]
    simp
  refine wpList_plain hg fun _ hK => ?_
  unfold Oper.wp execOp
  simp only [ho, Sem.run_bind, run_build w ty _ C e, Result.andThen_ok]
  exact hK _ _ h
def zEn : Ent := ([], false, List.replicate 32 0)
theorem zEn_ok : EOk zEn := ⟨fun x hx => (by cases hx), rfl, fun x hx => (by rw [List.eq_of_mem_replicate hx]; omega)⟩
theorem zEn_lit : (entC zEn).toArray = #[.string ⟨#[]⟩, .bool false, .int .u8 0, .int .u8 0, .int .u8 0, .int .u8 0, .int .u8 0, .int .u8 0, .int .u8 0, .int .u8 0, .int .u8 0, .int .u8 0, .int .u8 0, .int .u8 0, .int .u8 0, .int .u8 0, .int .u8 0, .int .u8 0, .int .u8 0, .int .u8 0, .int .u8 0, .int .u8 0, .int .u8 0, .int .u8 0, .int .u8 0, .int .u8 0, .int .u8 0, .int .u8 0, .int .u8 0, .int .u8 0, .int .u8 0, .int .u8 0, .int .u8 0, .int .u8 0] := by kernel_rfl
theorem built0 : Try.prog.built 70 [] = some (entC zEn).toArray := by kernel_rfl
/-- What Find answers. -/
def FAns (d : List Ent) (h : List Int) (e : Ending) : Prop :=
  ∃ (y : Ent) (b : Bool), e = .returned (.tuple #[.agg (entC y).toArray, .bool b]) ∧ (b = true ↔ RightP d ∧ ∃ y ∈ d, y.1 = h) ∧ (b = true → y ∈ d ∧ y.1 = h) ∧ (b = false → y = zEn)
theorem FAns.no {d : List Ent} {h : List Int} {C : List Value} (hC : entC zEn = C) (hn : ¬ (RightP d ∧ ∃ y ∈ d, y.1 = h)) : FAns d h (.returned (.tuple #[.agg C.toArray, .bool false])) :=
  ⟨zEn, false, by rw [hC], ⟨fun e => (by cases e), fun e => absurd e hn⟩, fun e => (by cases e), fun _ => rfl⟩

set_option maxHeartbeats 4000000 in
set_option maxRecDepth 100000 in
theorem find_any (w : World) (v : Value) (d : List Ent) (P : Nat → Prop) (h : List Int) (hv : EV P w v d) (hl : d.length ≤ 1000000) (hsz : ∀ e ∈ d, e.1.length ≤ 1000000) (hb : ∀ x ∈ h, 0 ≤ x ∧ x ≤ 255) :
    Calls Try.prog 32 #[v, .string (txt h)] w fun e w' => FAns d h e ∧ Kp No w w' := by
  have HOK := hid hv.ok
  have HRT : Hid (∀ V, Kp No w V → Calls Try.prog 44 #[v] V fun e w' => RAns d e ∧ Kp No V w') := fun V hV => right_any V v d P (hv.kept hV) hl hsz
  have HBS : Hid (RightP d → ∀ V, Kp No w V → Calls Try.prog 60 #[v, .string (txt h), .func (.func 61) #[] #[]] V fun e w' => BAns d h e ∧ Kp No V w') := fun hr V hV => bsearch_any V v d P h (hv.kept hV) hl hb (hr.2.mono h)
  obtain ⟨a, c, rfl, h2, h3, h4, h5, h6⟩ := hv
  obtain ⟨n, hn⟩ : ∃ n, d.length = n := ⟨_, rfl⟩
  have HN := hid hn
  rw [hn] at hl HRT HBS ⊢
  have H6 := hid h6
  clear hn h2 h3 h4 h5 h6 hsz
  generalize txt h = T at *
  obtain ⟨W, hW⟩ : ∃ W, w.alloc (.cells #[.string ⟨#[]⟩, .bool false, .int .u8 0, .int .u8 0, .int .u8 0, .int .u8 0, .int .u8 0, .int .u8 0, .int .u8 0, .int .u8 0, .int .u8 0, .int .u8 0, .int .u8 0, .int .u8 0, .int .u8 0, .int .u8 0, .int .u8 0, .int .u8 0, .int .u8 0, .int .u8 0, .int .u8 0, .int .u8 0, .int .u8 0, .int .u8 0, .int .u8 0, .int .u8 0, .int .u8 0, .int .u8 0, .int .u8 0, .int .u8 0, .int .u8 0, .int .u8 0, .int .u8 0, .int .u8 0] 70) = W := ⟨_, rfl⟩
  have hKW : Kp No w W := by rw [← hW]; exact (Kp.refl No w).alloc _
  have hWs : W.heap.size = w.heap.size + 1 := by rw [← hW]; simp
  have HBX : Hid (∀ V, Kp No W V → V.there w.heap.size 0 34 ∧ Kp No w V) := fun V hV => by
    have h2 : W.there w.heap.size 0 34 := by
      rw [← hW]
      exact thereE _ _ _ _ (by simp)
    refine ⟨fun j hj => ?_, hKW.andNone hV⟩
    rw [hV.cell (p := ⟨w.heap.size, _, none⟩) (by show w.heap.size < _; omega) (fun x => x), hV.frozen (p := ⟨w.heap.size, _, none⟩) (by show w.heap.size < _; omega) (fun x => x)]
    exact h2 j hj
  have HST0 : Hid (∀ (V : World) (C : List Value), C.length = 34 → Kp No W V → (V.setCells w.heap.size 0 C).rangeAt w.heap.size 0 C) := fun V C hC hV => World.rangeAt_setCells_same _ _ _ _ (by rw [hC]; exact (HBX.out V hV).1)
  have HSTK : Hid (∀ (V : World) (C : List Value), Kp No W V → Kp No w (V.setCells w.heap.size 0 C)) := fun V C hV => (HBX.out V hV).2.trans (setCells_kp V _ _ _) (fun x hx => .inr (by omega))
  obtain ⟨CZ, hCZ⟩ : ∃ C, entC zEn = C := ⟨_, rfl⟩
  have HCZ := hid hCZ
  have HB0 : Hid (Try.prog.built 70 [] = some CZ.toArray) := by rw [← hCZ]; exact built0
  have HLZ : Hid (CZ.length = 34) := by rw [← hCZ]; exact entC_length zEn_ok
  have HOZ : Hid (CZ.toArray.all (·.oneCell') = true) := by rw [← hCZ]; exact all_oneCell_toArray (entC_one zEn)
  have HIZL : Hid ((Try.prog.info? 70).map (·.size) = some CZ.length) := by rw [← hCZ]; exact inf zEn_ok
  have HIZ : Hid ((Try.prog.info? 70).map (·.size) = some CZ.toArray.size) := by rw [← hCZ]; exact infA zEn_ok
  go_enter Try.func32, Try.ntmps32
  go_wp2_with fail
  have HKW := hid hKW
  clear hW hKW hWs hCZ
  refine (HRT.out _ HKW.out).mono ?_
  rintro e3 w3 ⟨⟨b, rfl, hb1⟩, k3⟩
  have HB3 := hid hb1
  have HK3 := hid k3
  clear hb1 k3
  cases b with
  | false =>
    have HF := hid (FAns.no HCZ.out (d := d) (h := h) (fun hr => by have := HB3.out.2 hr.1; cases this))
    go_wp2_with (first | (refine wpList_build0 (by rfl) 70 (by rfl) CZ.toArray HB0.out ?_) | (refine wpList_store_box (fun V' => V'.rangeAt w.heap.size 0 CZ ∧ Kp No w V') (by rfl) 70 _ _ (by rfl) w.heap.size 0 CZ.toArray (by rfl) (by rfl) (by show World.there _ _ _ CZ.length; rw [HLZ.out]; exact (HBX.out _ HK3.out).1) HIZ.out HOZ.out ⟨HST0.out _ CZ HLZ.out HK3.out, HSTK.out _ CZ HK3.out⟩ ?_; intro w5 h5; have H5 := hid h5; clear h5))
    refine bodyPost_ret (results_cell_two rfl _ _ w.heap.size 0 CZ _ rfl H5.out.1 Try.underlying70 rfl HIZL.out) rfl ?_
    exact ⟨HF.out, H5.out.2⟩
  | true =>
    have HR := hid (HB3.out.1 rfl)
    go_wp2_with fail
    refine (HBS.out HR.out _ (HBX.out _ HK3.out).2).mono ?_
    rintro e4 w4 ⟨⟨i, b4, rfl, hbs⟩, k4⟩
    have HS4 := hid hbs
    have HK4 : Hid (Kp No W w4) := HK3.out.andNone k4
    clear hbs k4
    cases b4 with
    | false =>
      have HF := hid (FAns.no HCZ.out (d := d) (h := h) (fun hr => by
        obtain ⟨_, y, hy, hyh⟩ := hr
        obtain ⟨h1, h2, h3, h4⟩ := HS4.out
        rw [← List.take_append_drop i d] at hy
        rcases List.mem_append.1 hy with hy | hy
        · have := h2 y hy
          rw [hyh, lexB_irr] at this
          cases this
        · obtain ⟨k, hk⟩ := List.mem_iff_getElem?.1 hy
          rw [List.getElem?_drop] at hk
          have hkl := (List.getElem?_eq_some_iff.1 hk).1
          by_cases hk0 : k = 0
          · subst hk0
            have := h4.2 ⟨y, hk, hyh⟩
            cases this
          · obtain ⟨z, hz⟩ : ∃ z, d[i]? = some z := ⟨_, List.getElem?_eq_getElem (by omega)⟩
            have h5 := HR.out.2.lt (k - 1) i (i + k) z y (by omega) hz hk
            rw [hyh] at h5
            have h6 := h3 z (List.mem_iff_getElem?.2 ⟨0, by rw [List.getElem?_drop]; exact hz⟩)
            rw [h5] at h6
            cases h6))
      go_wp2_with (first | (refine wpList_build0 (by rfl) 70 (by rfl) CZ.toArray HB0.out ?_) | (refine wpList_store_box (fun V' => V'.rangeAt w.heap.size 0 CZ ∧ Kp No w V') (by rfl) 70 _ _ (by rfl) w.heap.size 0 CZ.toArray (by rfl) (by rfl) (by show World.there _ _ _ CZ.length; rw [HLZ.out]; exact (HBX.out _ HK4.out).1) HIZ.out HOZ.out ⟨HST0.out _ CZ HLZ.out HK4.out, HSTK.out _ CZ HK4.out⟩ ?_; intro w5 h5; have H5 := hid h5; clear h5))
      refine bodyPost_ret (results_cell_two rfl _ _ w.heap.size 0 CZ _ rfl H5.out.1 Try.underlying70 rfl HIZL.out) rfl ?_
      exact ⟨HF.out, H5.out.2⟩
    | true =>
      obtain ⟨y, hy, hyh⟩ := HS4.out.2.2.2.1 rfl
      have hil := (List.getElem?_eq_some_iff.1 hy).1
      rw [HN.out] at hil
      have hilI : (i : Int) < (n : Int) := by omega
      obtain ⟨g, o, rfl, _, hr⟩ := H6.out (by intro e; rw [e] at hy; simp at hy)
      have hrow := (hr.kp (HBX.out _ HK4.out).2 (fun x => x)).2 i y hy
      have HYO := hid hrow.1
      obtain ⟨CY, hCY⟩ : ∃ C, entC y = C := ⟨_, rfl⟩
      have HLY : Hid (CY.length = 34) := by rw [← hCY]; exact entC_length hrow.1
      have HOY : Hid (CY.toArray.all (·.oneCell') = true) := by rw [← hCY]; exact all_oneCell_toArray (entC_one y)
      have HIY : Hid ((Try.prog.info? 70).map (·.size) = some CY.length) := by rw [← hCY]; exact inf hrow.1
      have HIYA : Hid ((Try.prog.info? 70).map (·.size) = some CY.toArray.size) := by rw [← hCY]; exact infA hrow.1
      have HPL : Hid (w4.rangeAt g (o + i * 34) CY) := by rw [← hCY]; exact hrow.2
      have HF : Hid (FAns d h (.returned (.tuple #[.agg CY.toArray, .bool true]))) := ⟨y, true, by rw [hCY], ⟨fun _ => ⟨HR.out, _, List.mem_of_getElem? hy, hyh⟩, fun _ => rfl⟩, fun _ => ⟨List.mem_of_getElem? hy, hyh⟩, fun e => (by cases e)⟩
      clear hrow hr hy hyh hCY
      go_wp2_with (first | (refine wpList_load_mid (by rfl) 70 _ (by rfl) g (o + i * 34) (by rfl) CY _ HPL.out Try.underlying70 rfl HIY.out ?_) | (refine wpList_build0 (by rfl) 70 (by rfl) CZ.toArray HB0.out ?_) | (refine wpList_store_box (fun V' => V'.rangeAt w.heap.size 0 CY ∧ Kp No w V') (by rfl) 70 _ _ (by rfl) w.heap.size 0 CY.toArray (by rfl) (by rfl) (by show World.there _ _ _ CY.length; rw [HLY.out]; exact (HBX.out _ HK4.out).1) HIYA.out HOY.out ⟨HST0.out _ CY HLY.out HK4.out, HSTK.out _ CY HK4.out⟩ ?_; intro w5 h5; have H5 := hid h5; clear h5))
      refine bodyPost_ret (results_cell_two rfl _ _ w.heap.size 0 CY _ rfl H5.out.1 Try.underlying70 rfl HIY.out) rfl ?_
      exact ⟨HF.out, H5.out.2⟩
end Go.Proofs.Ytenfahecnkdhaaa.Nd
end

section
/-
  RightDir and Same, of the document.
-/
namespace Go.Proofs.Ytenfahecnkdhaaa.Nd
open Go.RowKit
open Stb (Stab Srt Mrg)
open Sim (hid Kp No)

set_option maxHeartbeats 4000000 in
set_option maxRecDepth 100000 in
theorem rightDir_any (w : World) (v : Value) (d : List Ent) (P : Nat → Prop) (hv : EV P w v d) (hl : d.length ≤ 1000000) (hsz : ∀ e ∈ d, e.1.length ≤ 1000000) :
    Calls Try.prog 33 #[v] w fun e w' => RAns d e ∧ Kp No w w' := by
  obtain ⟨a, c, rfl, h2, h3, h4, h5, h6⟩ := hv
  obtain ⟨n, hn⟩ : ∃ n, d.length = n := ⟨_, rfl⟩
  have HN := hid hn
  have HSZ := hid hsz
  rw [hn] at hl h2 ⊢
  have H6 := hid h6
  clear hn h2 h3 h4 h5 h6 hsz
  go_enter Try.func33, Try.ntmps33
  go_wp2_with fail
  go_loopw [3] (fun x wr => ∃ (k : Nat), x = .int .i64 (k : Int) ∧ k ≤ n ∧ Hid (UpTo d k ∧ Kp No w wr)) (fun x _ => n - (intOf x).toNat)
  case atStart => exact ⟨0, rfl, Nat.zero_le _, UpTo.zero _, Kp.refl _ _⟩
  case round =>
    obtain ⟨k, rfl, hkn, HS⟩ := hrel
    by_cases hlt : k < n
    · have hltI : (k : Int) < (n : Int) := by omega
      have hwk : IntKind.i64.wrap ((k : Int) + 1) = ((k + 1 : Nat) : Int) := by rw [IntKind.wrap_i64]; omega
      obtain ⟨e, he⟩ : ∃ e, d[k]? = some e := ⟨_, List.getElem?_eq_getElem (by rw [HN.out]; exact hlt)⟩
      obtain ⟨g, o, rfl, _, hr⟩ := H6.out (by intro e; have := HN.out; rw [e] at this; simp at this; omega)
      have hrow := hr.kp HS.out.2 (fun x => x)
      have HROW := hid hrow
      have HX := hid (hrow.2 k e he)
      have HE0 : Hid (∀ V, Kp No wr V → V.cell? ⟨g, o + k * 34, none⟩ = some (.string (txt e.1))) := fun V hV => ((HROW.out.kp hV (fun x => x)).2 k e he).2 0 _ rfl
      have HP := hid (fun V => Tr.rpart_any (txt e.1) (by rw [txt_size]; have := HSZ.out e (List.mem_of_getElem? he); omega) V)
      rw [show Tr.partB (txt e.1).data.toList = plB e from rfl] at HP
      cases hpl : plB e with
      | false =>
        rw [hpl] at HP
        have HF : Hid (false = true ↔ RightP d) := ⟨fun h => (by cases h), fun h => (by
          have := (h.2 k e (by rw [HN.out]; exact hlt) he).1
          rw [hpl] at this
          cases this)⟩
        have c0 := HE0.out _ (Kp.refl _ _)
        clear hpl hrow hr he
        go_wp2_with fail
        go_quiet ((go_at_call 62; refine Calls.quiet_of_same (HP.out _)))
        go_wp2
        go_ret
        exact ⟨⟨false, rfl, HF.out⟩, HS.out.2.drewN _⟩
      | true =>
        rw [hpl] at HP
        by_cases hk0 : k = 0
        · subst hk0
          have HU : Hid (UpTo d (0 + 1)) := (UpTo.zero d).next he hpl (fun j x hj => by omega)
          have c0 : wr.cell? ⟨g, o, none⟩ = some (.string (txt e.1)) := by
            have := HE0.out _ (Kp.refl _ _)
            simpa using this
          clear hpl hrow hr he
          go_wp2_with fail
          go_quiet ((go_at_call 62; refine Calls.quiet_of_same (HP.out _)))
          go_wp2
          go_roundw
          case rel => exact ⟨0 + 1, by first | rfl | go_num, by omega, HU.out, HS.out.2.drewN _⟩
          case measure => simp [intOf] <;> omega
        · have hkI : (0 : Int) < (k : Int) := by omega
          obtain ⟨k1, hk1⟩ : ∃ k1, k = k1 + 1 := ⟨k - 1, by omega⟩
          obtain ⟨y, hy⟩ : ∃ y, d[k1]? = some y := ⟨_, List.getElem?_eq_getElem (by rw [HN.out]; omega)⟩
          have hyo := (HROW.out.2 k1 y hy).1
          have hwk1 : IntKind.i64.wrap ((k : Int) - 1) = (k1 : Int) := by rw [IntKind.wrap_i64]; omega
          have hk1n : (k1 : Int) < (n : Int) := by omega
          have hk10 : (0 : Int) ≤ (k1 : Int) := by omega
          have HLS := hid (fun V => less_any y.1 e.1 V hyo.1 HX.out.1.1 (HSZ.out y (List.mem_of_getElem? hy)) (HSZ.out e (List.mem_of_getElem? he)))
          have e0' : ∀ V, Kp No wr V → V.cell? ⟨g, o + k * 34, none⟩ = some (.string (txt e.1)) := HE0.out
          have y0' : ∀ V, Kp No wr V → V.cell? ⟨g, o + k1 * 34, none⟩ = some (.string (txt y.1)) := fun V hV => ((HROW.out.kp hV (fun x => x)).2 k1 y hy).2 0 _ rfl
          have HUT : Hid (lexB y.1 e.1 = true → UpTo d (k + 1)) := fun h => HS.out.1.next he hpl (fun j x hj hx => by
            have : j = k1 := by omega
            subst this
            rw [hy] at hx
            cases hx
            exact h)
          have HUF : Hid (lexB y.1 e.1 = false → (false = true ↔ RightP d)) := fun h => ⟨fun h => (by cases h), fun hr => (by
            have := (hr.2 k e (by rw [HN.out]; exact hlt) he).2 k1 y hk1.symm hy
            rw [h] at this
            cases this)⟩
          have hkd : decide ((0 : Int) < (k : Int)) = true := decide_eq_true hkI
          have hkd2 : decide (0 < k) = true := by simp; omega
          generalize lexB y.1 e.1 = z at *
          clear hrow hr hk1 hy hyo hpl he
          cases z with
          | true =>
            have HU := hid (HUT.out rfl)
            go_wp2_with fail
            go_region_held3 (fun V => Kp No wr V) (first | (with_reducible exact Kp.refl _ _) | (with_reducible exact (Kp.refl _ _).drew) | (with_reducible exact HK3.out) | (with_reducible exact HK4.out)) (first | (go_at_call 62; refine (HP.out _).mono ?_; rintro e w3 ⟨rfl, hw3⟩; have HK3 : Hid (Kp No wr w3) := (by rw [hw3]; exact (Kp.refl No wr).drew); clear hw3) | (go_at_call 59; refine (HLS.out _).mono ?_; rintro e w4 ⟨rfl, hk⟩; have HK4 : Hid (Kp No wr w4) := HK3.out.andNone hk; clear hk))
            go_wp2
            go_roundw
            case rel => exact ⟨k + 1, by first | rfl | go_num, by omega, HU.out, HS.out.2.andNone HK4.out⟩
            case measure => simp [intOf] <;> omega
          | false =>
            have HF := hid (HUF.out rfl)
            go_wp2_with fail
            go_region_held3 (fun V => Kp No wr V) (first | (with_reducible exact Kp.refl _ _) | (with_reducible exact (Kp.refl _ _).drew) | (with_reducible exact HK3.out) | (with_reducible exact HK4.out)) (first | (go_at_call 62; refine (HP.out _).mono ?_; rintro e w3 ⟨rfl, hw3⟩; have HK3 : Hid (Kp No wr w3) := (by rw [hw3]; exact (Kp.refl No wr).drew); clear hw3) | (go_at_call 59; refine (HLS.out _).mono ?_; rintro e w4 ⟨rfl, hk⟩; have HK4 : Hid (Kp No wr w4) := HK3.out.andNone hk; clear hk))
            go_wp2
            go_ret
            exact ⟨⟨false, rfl, HF.out⟩, HS.out.2.andNone HK4.out⟩
    · have hltI : ¬ (k : Int) < (n : Int) := by omega
      have HU : Hid (UpTo d d.length) := by rw [HN.out, show n = k by omega]; exact HS.out.1
      by_cases h6 : n ≤ 60
      · have h6I : (n : Int) ≤ 60 := by omega
        have HF : Hid (RightP d) := ⟨by rw [HN.out]; exact h6, HU.out⟩
        go_wp2_with fail
        go_ret
        exact ⟨⟨true, rfl, ⟨fun _ => HF.out, fun _ => rfl⟩⟩, HS.out.2⟩
      · have h6I : ¬ (n : Int) ≤ 60 := by omega
        have HF : Hid (false = true ↔ RightP d) := ⟨fun h => (by cases h), fun h => (by have := h.1; have := HN.out; omega)⟩
        go_wp2_with fail
        go_ret
        exact ⟨⟨false, rfl, HF.out⟩, HS.out.2⟩

end Go.Proofs.Ytenfahecnkdhaaa.Nd
end

section
/-
  Same, of the document: are entries the same?
-/
namespace Go.Proofs.Ytenfahecnkdhaaa.Nd
open Go.RowKit
open Sim (hid Kp No)

theorem cells_b8 (l : List Int) (h : ∀ x ∈ l, 0 ≤ x ∧ x ≤ 255) : (l.map fun x => x.toNat.toUInt8).map Extern.Stop.cell = b8 l := by
  unfold b8
  rw [List.map_map]
  apply List.map_congr_left
  intro x hx
  have := h x hx
  simp [Extern.Stop.cell]
  omega
theorem map_inj8 : ∀ (xs ys : List Int), (∀ x ∈ xs, 0 ≤ x ∧ x ≤ 255) → (∀ x ∈ ys, 0 ≤ x ∧ x ≤ 255) → (xs.map fun x => x.toNat.toUInt8) = (ys.map fun x => x.toNat.toUInt8) → xs = ys
  | [], [], _, _, _ => rfl
  | [], _ :: _, _, _, h => by simp at h
  | _ :: _, [], _, _, h => by simp at h
  | x :: xs, y :: ys, h1, h2, h => by
    simp only [List.map_cons, List.cons.injEq] at h
    have hx := h1 x (by simp)
    have hy := h2 y (by simp)
    have e := congrArg UInt8.toNat h.1
    simp at e
    have e2 : x = y := by omega
    rw [e2, map_inj8 xs ys (fun z hz => h1 z (by simp [hz])) (fun z hz => h2 z (by simp [hz])) h.2]
theorem eqHashAt (D : Nat) (xs ys : List Int) (hx : xs.length = 32) (hy : ys.length = 32) (bx : ∀ x ∈ xs, 0 ≤ x ∧ x ≤ 255) (bY : ∀ x ∈ ys, 0 ≤ x ∧ x ≤ 255) (w : World) :
    (Op.equalIn (D + 2) 68 (.agg (b8 xs).toArray) (.agg (b8 ys).toArray)).run Try.prog w = .ok (decide (xs = ys)) w := by
  have h := run_equalIn_bytes (P := Try.prog) w D 68 5 32 Try.underlying68 Try.underlying5 Try.sizeOf5 (xs.map fun x => x.toNat.toUInt8) (ys.map fun x => x.toNat.toUInt8) (by simpa using hx) (by simpa using hy)
  rw [cells_b8 xs bx, cells_b8 ys bY] at h
  have e : ((xs.map fun x => x.toNat.toUInt8) == (ys.map fun x => x.toNat.toUInt8)) = decide (xs = ys) := by
    rw [Bool.eq_iff_iff]
    simp only [beq_iff_eq, decide_eq_true_eq]
    exact ⟨map_inj8 xs ys bx bY, fun e => by rw [e]⟩
  rw [e] at h
  exact h
theorem ent_hash {x : Ent} (hx : EOk x) : ((entC x).drop 2).take 32 = b8 x.2.2 := by
  show (b8 x.2.2).take 32 = _
  rw [List.take_of_length_le (by rw [b8_length, hx.2.1]; omega)]
set_option maxHeartbeats 2000000 in
theorem eqEnt {x y : Ent} (hx : EOk x) (hy : EOk y) (w : World) : (Op.equalIn 10000 79 (.agg (entC x).toArray) (.agg (entC y).toArray)).run Try.prog w = .ok (decide (x = y)) w := by
  have p1 := ent_hash hx
  have p2 := ent_hash hy
  have c0 : (entC x)[0]? = some (.string (txt x.1)) := rfl
  have c1 : (entC x)[1]? = some (.bool x.2.1) := rfl
  have d0 : (entC y)[0]? = some (.string (txt y.1)) := rfl
  have d1 : (entC y)[1]? = some (.bool y.2.1) := rfl
  have q1 : (Op.equalIn 9999 68 (.agg (b8 x.2.2).toArray) (.agg (b8 y.2.2).toArray)).run Try.prog w = .ok (decide (x.2.2 = y.2.2)) w := eqHashAt 9997 x.2.2 y.2.2 hx.2.1 hy.2.1 hx.2.2 hy.2.2 w
  have heq : ((txt x.1).toList == (txt y.1).toList) = decide (x.1 = y.1) := by
    rw [str_eq8, decide_eq_decide]
    exact txt_inj hx.1 hy.1
  generalize entC x = X at *
  generalize entC y = Y at *
  generalize b8 x.2.2 = bx at *
  generalize b8 y.2.2 = bY at *
  generalize txt x.1 = T1 at *
  generalize txt y.1 = T2 at *
  rw [show (10000 : Nat) = 9999 + 1 from rfl, Op.equalIn]
  go_simp
  clear hx hy c0 c1 d0 d1 q1 p1 p2 heq
  obtain ⟨nm, p, hs⟩ := x
  obtain ⟨nm', p', hs'⟩ := y
  simp only [Prod.mk.injEq]
  by_cases e0 : nm = nm' <;> by_cases e1 : p = p' <;> by_cases e2 : hs = hs' <;> simp [e0, e1, e2]

set_option maxHeartbeats 2000000 in
set_option maxRecDepth 100000 in
theorem same_any (w : World) (v v' : Value) (a b : List Ent) (P P' : Nat → Prop) (hv : EV P w v a) (hv' : EV P' w v' b) (hl : a.length ≤ 1000000) :
    Calls Try.prog 27 #[v, v'] w fun e w' => e = .returned (.bool (decide (a = b))) ∧ Kp No w w' := by
  have HV := hid hv
  have HV' := hid hv'
  obtain ⟨x1, c1, e1, _⟩ := hv
  obtain ⟨x2, c2, e2, _⟩ := hv'
  subst e1
  subst e2
  obtain ⟨n, hn⟩ : ∃ n, a.length = n := ⟨_, rfl⟩
  obtain ⟨m, hm⟩ : ∃ m, b.length = m := ⟨_, rfl⟩
  have HN := hid hn
  have HM := hid hm
  rw [hn] at HV hl ⊢
  rw [hm] at HV' ⊢
  clear hn hm
  obtain ⟨z, hz⟩ : ∃ z, decide (a = b) = z := ⟨_, rfl⟩
  rw [hz]
  have HZ := hid hz
  clear hz
  by_cases hnm : n = m
  · subst hnm
    go_enter Try.func27, Try.ntmps27
    go_wp2_with fail
    go_loopw [5] (fun v5 wr => ∃ (k : Nat), v5 = .int .i64 (k : Int) ∧ k ≤ n ∧ Hid (a.take k = b.take k) ∧ Hid (Kp No w wr)) (fun v5 _ => n - (intOf v5).toNat)
    case atStart => exact ⟨0, rfl, Nat.zero_le _, rfl, Kp.refl _ _⟩
    case round =>
      obtain ⟨k, rfl, hkn, HS, HK⟩ := hrel
      by_cases hlt : k < n
      · have hltI : (k : Int) < (n : Int) := by omega
        have hwk : IntKind.i64.wrap ((k : Int) + 1) = ((k + 1 : Nat) : Int) := by rw [IntKind.wrap_i64]; omega
        obtain ⟨x, hx⟩ : ∃ x, a[k]? = some x := ⟨_, List.getElem?_eq_getElem (by rw [HN.out]; exact hlt)⟩
        obtain ⟨y, hy⟩ : ∃ y, b[k]? = some y := ⟨_, List.getElem?_eq_getElem (by rw [HM.out]; exact hlt)⟩
        obtain ⟨g, o, rfl, _, hr⟩ := ev_row (HV.out.kept HK.out) (by intro e; have := HN.out; rw [e] at this; simp at this; omega)
        obtain ⟨g', o', rfl, _, hr'⟩ := ev_row (HV'.out.kept HK.out) (by intro e; have := HM.out; rw [e] at this; simp at this; omega)
        obtain ⟨hxo, hxr⟩ := hr.2 k x hx
        obtain ⟨hyo, hyr⟩ := hr'.2 k y hy
        have HQ := hid (fun W => eqEnt hxo hyo W)
        have hq := HQ.out
        have HX := hid hxr
        have HY := hid hyr
        have HI1 : Hid ((Try.prog.info? 79).map (·.size) = some (entC x).length) := by rw [Hid, entC_length hxo]; kernel_rfl
        have HI2 : Hid ((Try.prog.info? 79).map (·.size) = some (entC y).length) := by rw [Hid, entC_length hyo]; kernel_rfl
        have HGW := hid hr.1
        have HGW' := hid hr'.1
        have HGX := hid hx
        have HGY := hid hy
        clear hr hr' hxo hyo hxr hyr hx hy HQ
        obtain ⟨zz, hzz⟩ : ∃ zz, decide (x = y) = zz := ⟨_, rfl⟩
        rw [hzz] at hq
        have HZZ := hid hzz
        clear hzz
        generalize entC x = X at *
        generalize entC y = Y at *
        have HLX : Hid (∀ V, Kp No wr V → V.rangeAt g (o + k * 34) X) := fun V hV j u hj => (hV.cell (p := ⟨g, _, none⟩) HGW.out (fun x => x)).trans (HX.out j u hj)
        have HLY : Hid (∀ V, Kp No wr V → V.rangeAt g' (o' + k * 34) Y) := fun V hV j u hj => (hV.cell (p := ⟨g', _, none⟩) HGW'.out (fun x => x)).trans (HY.out j u hj)
        cases zz with
        | true =>
          have HN2 : Hid (a.take (k + 1) = b.take (k + 1)) := by
            rw [Hid, List.take_add_one, List.take_add_one, HS.out, HGX.out, HGY.out, of_decide_eq_true HZZ.out]
          go_wp2_with fail
          refine wp_region_held_drew (S := fun V => Kp No wr V) (by kernel_rfl) ((Kp.refl _ _).drew) (fun hHeld => ?_)
          refine wpAnyH_take (i := 0) (oi := { dst := some 17, op := Op.move (Operand.tmp 0), type := 25, pos := "ref.go:195", after := #[], guard := none }) (v := .slice (some ⟨g, o, none⟩) n c1) rfl (by kernel_rfl) (by kernel_rfl) (by kernel_rfl) (fun _ _ _ h => h) (Or.inl ⟨by rfl, fun w' hw' => by (clear hw'; go_simp)⟩) hHeld ?_
          simp only [Act.put, List.setIfInBounds_toArray, List.set_cons_zero, List.set_cons_succ]
          refine wpAnyH_take (i := 1) (oi := { dst := some 18, op := Op.move (Operand.tmp 5), type := 3, pos := "ref.go:195", after := #[], guard := none }) (v := .int .i64 (k : Int)) rfl (by kernel_rfl) (by kernel_rfl) (by kernel_rfl) (fun _ _ _ h => h) (Or.inl ⟨by rfl, fun w' hw' => by (clear hw'; go_simp)⟩) hHeld ?_
          simp only [Act.put, List.setIfInBounds_toArray, List.set_cons_zero, List.set_cons_succ]
          refine wpAnyH_take (i := 2) (oi := { dst := some 19, op := Op.indexAddr 25 (Operand.tmp 17) (Operand.tmp 18), type := 0, pos := "ref.go:195", after := #[{ on := 0, ground := Ground.data }, { on := 1, ground := Ground.data }], guard := none }) (v := .pointer (some ⟨g, o + k * 34, none⟩)) rfl (by kernel_rfl) (by kernel_rfl) (by kernel_rfl) (fun _ _ _ h => h) (Or.inl ⟨by rfl, fun w' hw' => by (clear hw'; go_simp)⟩) hHeld ?_
          simp only [Act.put, List.setIfInBounds_toArray, List.set_cons_zero, List.set_cons_succ]
          refine wpAnyH_take (i := 3) (oi := { dst := some 20, op := Op.load 79 (Operand.tmp 19), type := 79, pos := "ref.go:195", after := #[{ on := 2, ground := Ground.data }], guard := none }) (v := .agg X.toArray) rfl (by kernel_rfl) (by kernel_rfl) (by kernel_rfl) (fun _ _ _ h => h) (yieldsIf_load_mid (by rfl) _ _ rfl g (o + k * 34) rfl X _ (HLX.out) Try.underlying79 rfl HI1.out) hHeld ?_
          simp only [Act.put, List.setIfInBounds_toArray, List.set_cons_zero, List.set_cons_succ]
          refine wpAnyH_take (i := 4) (oi := { dst := some 21, op := Op.move (Operand.tmp 1), type := 25, pos := "ref.go:195", after := #[], guard := none }) (v := .slice (some ⟨g', o', none⟩) n c2) rfl (by kernel_rfl) (by kernel_rfl) (by kernel_rfl) (fun _ _ _ h => h) (Or.inl ⟨by rfl, fun w' hw' => by (clear hw'; go_simp)⟩) hHeld ?_
          simp only [Act.put, List.setIfInBounds_toArray, List.set_cons_zero, List.set_cons_succ]
          refine wpAnyH_take (i := 5) (oi := { dst := some 22, op := Op.move (Operand.tmp 5), type := 3, pos := "ref.go:195", after := #[], guard := none }) (v := .int .i64 (k : Int)) rfl (by kernel_rfl) (by kernel_rfl) (by kernel_rfl) (fun _ _ _ h => h) (Or.inl ⟨by rfl, fun w' hw' => by (clear hw'; go_simp)⟩) hHeld ?_
          simp only [Act.put, List.setIfInBounds_toArray, List.set_cons_zero, List.set_cons_succ]
          refine wpAnyH_take (i := 6) (oi := { dst := some 23, op := Op.indexAddr 25 (Operand.tmp 21) (Operand.tmp 22), type := 0, pos := "ref.go:195", after := #[{ on := 4, ground := Ground.data }, { on := 5, ground := Ground.data }], guard := none }) (v := .pointer (some ⟨g', o' + k * 34, none⟩)) rfl (by kernel_rfl) (by kernel_rfl) (by kernel_rfl) (fun _ _ _ h => h) (Or.inl ⟨by rfl, fun w' hw' => by (clear hw'; go_simp)⟩) hHeld ?_
          simp only [Act.put, List.setIfInBounds_toArray, List.set_cons_zero, List.set_cons_succ]
          refine wpAnyH_take (i := 7) (oi := { dst := some 24, op := Op.load 79 (Operand.tmp 23), type := 79, pos := "ref.go:195", after := #[{ on := 6, ground := Ground.data }], guard := none }) (v := .agg Y.toArray) rfl (by kernel_rfl) (by kernel_rfl) (by kernel_rfl) (fun _ _ _ h => h) (yieldsIf_load_mid (by rfl) _ _ rfl g' (o' + k * 34) rfl Y _ (HLY.out) Try.underlying79 rfl HI2.out) hHeld ?_
          simp only [Act.put, List.setIfInBounds_toArray, List.set_cons_zero, List.set_cons_succ]
          refine wpAnyH_take (i := 8) (oi := { dst := some 25, op := Op.binOp BinOp.neq 79 (Operand.tmp 20) (Operand.tmp 24) 79, type := 4, pos := "ref.go:195", after := #[{ on := 3, ground := Ground.data }, { on := 7, ground := Ground.data }], guard := none }) (v := .bool false) rfl (by kernel_rfl) (by kernel_rfl) (by kernel_rfl) (fun _ _ _ h => h) (Or.inl ⟨by rfl, fun w' hw' => by (clear hw'; go_simp)⟩) hHeld ?_
          simp only [Act.put, List.setIfInBounds_toArray, List.set_cons_zero, List.set_cons_succ]
          refine wpAnyH_done (by kernel_rfl) ?_ _
          clear hHeld
          go_wp2_with fail
          go_round
          case rel => exact ⟨k + 1, by first | rfl | go_num, by omega, HN2.out, HK.out.drew⟩
          case measure => simp [intOf]; omega
        | false =>
          have HNO : Hid (z = false) := by
            rw [Hid, ← HZ.out, decide_eq_false_iff_not]
            intro e
            have h1 := HGX.out
            rw [e, HGY.out] at h1
            cases h1
            have h2 := HZZ.out
            simp at h2
          go_wp2_with fail
          refine wp_region_held_drew (S := fun V => Kp No wr V) (by kernel_rfl) ((Kp.refl _ _).drew) (fun hHeld => ?_)
          refine wpAnyH_take (i := 0) (oi := { dst := some 17, op := Op.move (Operand.tmp 0), type := 25, pos := "ref.go:195", after := #[], guard := none }) (v := .slice (some ⟨g, o, none⟩) n c1) rfl (by kernel_rfl) (by kernel_rfl) (by kernel_rfl) (fun _ _ _ h => h) (Or.inl ⟨by rfl, fun w' hw' => by (clear hw'; go_simp)⟩) hHeld ?_
          simp only [Act.put, List.setIfInBounds_toArray, List.set_cons_zero, List.set_cons_succ]
          refine wpAnyH_take (i := 1) (oi := { dst := some 18, op := Op.move (Operand.tmp 5), type := 3, pos := "ref.go:195", after := #[], guard := none }) (v := .int .i64 (k : Int)) rfl (by kernel_rfl) (by kernel_rfl) (by kernel_rfl) (fun _ _ _ h => h) (Or.inl ⟨by rfl, fun w' hw' => by (clear hw'; go_simp)⟩) hHeld ?_
          simp only [Act.put, List.setIfInBounds_toArray, List.set_cons_zero, List.set_cons_succ]
          refine wpAnyH_take (i := 2) (oi := { dst := some 19, op := Op.indexAddr 25 (Operand.tmp 17) (Operand.tmp 18), type := 0, pos := "ref.go:195", after := #[{ on := 0, ground := Ground.data }, { on := 1, ground := Ground.data }], guard := none }) (v := .pointer (some ⟨g, o + k * 34, none⟩)) rfl (by kernel_rfl) (by kernel_rfl) (by kernel_rfl) (fun _ _ _ h => h) (Or.inl ⟨by rfl, fun w' hw' => by (clear hw'; go_simp)⟩) hHeld ?_
          simp only [Act.put, List.setIfInBounds_toArray, List.set_cons_zero, List.set_cons_succ]
          refine wpAnyH_take (i := 3) (oi := { dst := some 20, op := Op.load 79 (Operand.tmp 19), type := 79, pos := "ref.go:195", after := #[{ on := 2, ground := Ground.data }], guard := none }) (v := .agg X.toArray) rfl (by kernel_rfl) (by kernel_rfl) (by kernel_rfl) (fun _ _ _ h => h) (yieldsIf_load_mid (by rfl) _ _ rfl g (o + k * 34) rfl X _ (HLX.out) Try.underlying79 rfl HI1.out) hHeld ?_
          simp only [Act.put, List.setIfInBounds_toArray, List.set_cons_zero, List.set_cons_succ]
          refine wpAnyH_take (i := 4) (oi := { dst := some 21, op := Op.move (Operand.tmp 1), type := 25, pos := "ref.go:195", after := #[], guard := none }) (v := .slice (some ⟨g', o', none⟩) n c2) rfl (by kernel_rfl) (by kernel_rfl) (by kernel_rfl) (fun _ _ _ h => h) (Or.inl ⟨by rfl, fun w' hw' => by (clear hw'; go_simp)⟩) hHeld ?_
          simp only [Act.put, List.setIfInBounds_toArray, List.set_cons_zero, List.set_cons_succ]
          refine wpAnyH_take (i := 5) (oi := { dst := some 22, op := Op.move (Operand.tmp 5), type := 3, pos := "ref.go:195", after := #[], guard := none }) (v := .int .i64 (k : Int)) rfl (by kernel_rfl) (by kernel_rfl) (by kernel_rfl) (fun _ _ _ h => h) (Or.inl ⟨by rfl, fun w' hw' => by (clear hw'; go_simp)⟩) hHeld ?_
          simp only [Act.put, List.setIfInBounds_toArray, List.set_cons_zero, List.set_cons_succ]
          refine wpAnyH_take (i := 6) (oi := { dst := some 23, op := Op.indexAddr 25 (Operand.tmp 21) (Operand.tmp 22), type := 0, pos := "ref.go:195", after := #[{ on := 4, ground := Ground.data }, { on := 5, ground := Ground.data }], guard := none }) (v := .pointer (some ⟨g', o' + k * 34, none⟩)) rfl (by kernel_rfl) (by kernel_rfl) (by kernel_rfl) (fun _ _ _ h => h) (Or.inl ⟨by rfl, fun w' hw' => by (clear hw'; go_simp)⟩) hHeld ?_
          simp only [Act.put, List.setIfInBounds_toArray, List.set_cons_zero, List.set_cons_succ]
          refine wpAnyH_take (i := 7) (oi := { dst := some 24, op := Op.load 79 (Operand.tmp 23), type := 79, pos := "ref.go:195", after := #[{ on := 6, ground := Ground.data }], guard := none }) (v := .agg Y.toArray) rfl (by kernel_rfl) (by kernel_rfl) (by kernel_rfl) (fun _ _ _ h => h) (yieldsIf_load_mid (by rfl) _ _ rfl g' (o' + k * 34) rfl Y _ (HLY.out) Try.underlying79 rfl HI2.out) hHeld ?_
          simp only [Act.put, List.setIfInBounds_toArray, List.set_cons_zero, List.set_cons_succ]
          refine wpAnyH_take (i := 8) (oi := { dst := some 25, op := Op.binOp BinOp.neq 79 (Operand.tmp 20) (Operand.tmp 24) 79, type := 4, pos := "ref.go:195", after := #[{ on := 3, ground := Ground.data }, { on := 7, ground := Ground.data }], guard := none }) (v := .bool true) rfl (by kernel_rfl) (by kernel_rfl) (by kernel_rfl) (fun _ _ _ h => h) (Or.inl ⟨by rfl, fun w' hw' => by (clear hw'; go_simp)⟩) hHeld ?_
          simp only [Act.put, List.setIfInBounds_toArray, List.set_cons_zero, List.set_cons_succ]
          refine wpAnyH_done (by kernel_rfl) ?_ _
          clear hHeld
          go_wp2_with fail
          go_ret
          exact ⟨by rw [HNO.out]; rfl, HK.out.drew⟩
      · have hltI : ¬ (k : Int) < (n : Int) := by omega
        have HYE : Hid (z = true) := by
          rw [Hid, ← HZ.out, decide_eq_true_eq]
          have h := HS.out
          rwa [List.take_of_length_le (by rw [HN.out]; omega), List.take_of_length_le (by rw [HM.out]; omega)] at h
        go_wp2_with fail
        go_ret
        exact ⟨by rw [HYE.out]; rfl, HK.out⟩
  · have hne : ((n : Int) != (m : Int)) = true := by simp; omega
    have HNO : Hid (z = false) := by
      rw [Hid, ← HZ.out, decide_eq_false_iff_not]
      intro e
      exact hnm (by rw [← HN.out, ← HM.out, e])
    go_enter Try.func27, Try.ntmps27
    go_wp2_with fail
    go_ret
    exact ⟨by rw [HNO.out]; rfl, Kp.refl _ _⟩
end Go.Proofs.Ytenfahecnkdhaaa.Nd
end

section
/-
  A list of the document's entries that came in, opened.
-/
namespace Go.Proofs.Ytenfahecnkdhaaa.Nd
open Go.RowKit Go.ChangeShapes Go.WideShapes

section opened
variable {H : Type} {enc : TypeId × Value → H} {P : Program} {W : World} {base : Nat} {sp : Nat → Bool} {held : Bool} {t e : TypeId} {n : Nat} {q : IntKind}
theorem mapM_each {α β : Type} {f : α → Option β} : ∀ (L : List α) (ys : List β), L.mapM f = some ys → ∀ i ∈ L, ∃ y, f i = some y
  | [], _, _, i, hi => by simp at hi
  | a :: L, ys, h, i, hi => by
    rw [List.mapM_cons] at h
    simp only [bind, Option.bind_eq_some_iff, pure, Option.some.injEq] at h
    obtain ⟨y, hy, zs, hzs, _⟩ := h
    rcases List.mem_cons.1 hi with rfl | hi
    · exact ⟨y, hy⟩
    · exact mapM_each L zs hzs i hi

section
variable {H : Type} {enc : TypeId × Value → H} {P : Program} {W : World} {base : Nat} {sp : Nat → Bool} {held : Bool} {t e : TypeId} {n : Nat} {q : IntKind}
/-- The cells of an array of integers that came in. -/
theorem arr_ints (hu : P.underlying t = some (.array n e)) (he : P.underlying e = some (.int q)) (h1 : P.cellsOf e = 1) {fuel : Nat} {cs : List Value} {x : DataW H × List MemPlace} (hl : cs.length = n)
    (h : DataW.trod enc P W base sp held fuel t cs = some x) : ∃ zs : List Int, cs = zs.map (fun z => Value.int q z) ∧ zs.length = n ∧ ∀ z ∈ zs, (Lit.int q z).wf = true := by
  cases fuel with
  | zero => simp [DataW.trod] at h
  | succ m =>
    rw [DataW.trod_step] at h
    unfold DataW.trodStep at h
    simp only [hu] at h
    split at h
    · simp only [Option.map_eq_some_iff] at h
      obtain ⟨ys, hy, _⟩ := h
      have hE : ∀ i, i < n → ∃ z, cs[i]? = some (.int q z) ∧ (Lit.int q z).wf = true := fun i hi => by
        obtain ⟨y, hy⟩ := mapM_each _ ys hy i (List.mem_range.2 hi)
        obtain ⟨a, ea, _, wa⟩ := DataW.trod_int he hy
        rw [h1, Nat.mul_one] at ea
        refine ⟨a, ?_, wa⟩
        have h := congrArg (fun l : List Value => l[0]?) ea
        simpa [List.getElem?_take, List.getElem?_drop] using h
      refine ⟨cs.map intOf, ?_, by simpa using hl, ?_⟩
      · apply List.ext_getElem?
        intro i
        by_cases hi : i < n
        · obtain ⟨z, hz, _⟩ := hE i hi
          simp [hz, intOf]
        · have : cs[i]? = none := List.getElem?_eq_none (by omega)
          simp [this]
      · intro z hz
        obtain ⟨x, hx, rfl⟩ := List.mem_map.1 hz
        obtain ⟨i, hi, rfl⟩ := List.getElem_of_mem hx
        obtain ⟨z, hz, hw⟩ := hE i (by omega)
        rw [List.getElem?_eq_getElem hi] at hz
        simp only [Option.some.injEq] at hz
        rw [hz]
        exact hw
    · simp at h
end

end opened
theorem spot_none {w : World} {x : Addr} {v : Value} (c0 : w.cell? (x.add 0) = some v) : x.spot = none := by
  have e : x.add 0 = x := rfl
  rw [e] at c0
  unfold World.cell? at c0
  split at c0
  · split at c0
    · cases c0
    · rename_i hs; simpa using hs
  · cases c0
theorem addr_plus (g o i : Nat) : (⟨g, o, none⟩ : Addr).add i = ⟨g, o + i, none⟩ := by unfold Addr.add; split <;> simp_all
theorem u8_wf {y : Int} (h : (Lit.int .u8 y).wf = true) : 0 ≤ y ∧ y ≤ 255 := by
  have hmin : IntKind.u8.min = 0 := rfl
  have hmax : IntKind.u8.max = 255 := rfl
  simp only [Lit.wf, Bool.and_eq_true, decide_eq_true_eq] at h
  omega
theorem mapM_get {α β : Type} {f : α → Option β} : ∀ (L : List α) (ys : List β), L.mapM f = some ys → ∀ i : Nat, ys[i]? = (L[i]?).bind f
  | [], ys, h, i => by
    simp only [List.mapM_nil, pure, Option.some.injEq] at h
    subst h
    simp
  | a :: L, ys, h, i => by
    rw [List.mapM_cons] at h
    simp only [bind, Option.bind_eq_some_iff, pure, Option.some.injEq] at h
    obtain ⟨y, hy, zs, hzs, rfl⟩ := h
    cases i with
    | zero => simp [hy]
    | succ i => simpa using mapM_get L zs hzs i

theorem cells_get {w : World} {base n : Nat} {a : Addr} {cs : List Value} (h : w.cells? base a n = some cs) (i : Nat) (hi : i < n) : w.cell? (a.add i) = cs[i]? := by
  unfold World.cells? at h
  split at h
  · have := mapM_get _ _ h i
    rw [List.getElem?_range hi] at this
    exact this.symm
  · cases h

theorem bytesOf_nat : ∀ l : List UInt8, Lib.bytesOf (l.map fun b => (b.toNat : Int)) = l
  | [] => rfl
  | b :: l => by
    have e : Lib.bytesOf (((b.toNat : Int)) :: l.map fun b => (b.toNat : Int)) = UInt8.ofNat ((b.toNat : Int)).toNat :: Lib.bytesOf (l.map fun b => (b.toNat : Int)) := rfl
    rw [List.map_cons, e, bytesOf_nat l]
    simp
theorem txt_of (s : ByteArray) : ∃ nm : List Int, txt nm = s ∧ ∀ x ∈ nm, 0 ≤ x ∧ x ≤ 255 := by
  refine ⟨s.data.toList.map fun b => (b.toNat : Int), ?_, fun x hx => ?_⟩
  · unfold txt
    rw [bytesOf_nat]
  · obtain ⟨b, _, rfl⟩ := List.mem_map.1 hx
    have := b.toNat_lt
    omega
set_option maxRecDepth 100000 in
/-- An entry's cells that came in. -/
theorem ent_cells {H : Type} {enc : TypeId × Value → H} {W : World} {fuel : Nat} {cs : List Value} {x : DataW H × List MemPlace} (h : DataW.trod enc Try.prog W 0 (fun _ => true) true fuel 79 cs = some x) :
    ∃ e : Ent, cs = entC e ∧ EOk e := by
  obtain ⟨_, _, _, m, _, hl, h0, h1, h2⟩ := Go.Deep.trod_struct3 Try.underlying79 h
  have e75 : Try.prog.cellsOf 79 = 34 := by kernel_rfl
  have e46 : Try.prog.cellsOf 68 = 32 := by kernel_rfl
  have e9 : Try.prog.cellsOf 9 = 1 := by kernel_rfl
  have e4 : Try.prog.cellsOf 4 = 1 := by kernel_rfl
  rw [e75] at hl
  simp only [e46, e9, e4] at h0 h1 h2
  obtain ⟨s, g0, _, _⟩ := DataW.trod_string Try.underlying9 h0
  obtain ⟨p, g1, _⟩ := DataW.trod_bool Try.underlying4 h1
  obtain ⟨hs, g2, hln, hwf⟩ := arr_ints Try.underlying68 Try.underlying5 (by kernel_rfl) (by simp; omega) h2
  obtain ⟨nm, hnm, hr⟩ := txt_of s
  refine ⟨(nm, p, hs), ?_, hr, hln, fun y hy => u8_wf (hwf y hy)⟩
  show cs = .string (txt nm) :: .bool p :: b8 hs
  rw [hnm]
  have e2 : cs.drop 2 = b8 hs := by
    rw [List.take_of_length_le (by simp; omega)] at g2
    exact g2
  match cs, hl with
  | a :: b :: r, _ =>
    simp at g0 g1 e2
    rw [g0, g1, e2]

theorem spotless {w : World} {x : Addr} {v : Value} (c0 : w.cell? (x.add 0) = some v) : x.spot = none := spot_none c0

set_option maxRecDepth 100000 in
theorem ents_of {H : Type} {enc : TypeId × Value → H} {W : World} {a0 : Option Addr} {len cap fuel : Nat} {x : DataW H × List MemPlace}
    (h : DataW.trod enc Try.prog W 0 (fun _ => true) true fuel 25 [.slice a0 len cap] = some x) :
    ∃ d : List Ent, d.length = len ∧ EV (fun g => g < W.heap.size) W (.slice a0 len cap) d := by
  rcases Go.Deep.open_slice Try.underlying25 h with ⟨hcs, _⟩ | ⟨a, l, c, m, n, D, Pl, hcs, _, hl, hm, hmm, _, hr⟩
  · simp only [List.cons.injEq, Value.slice.injEq, and_true] at hcs
    obtain ⟨rfl, rfl, rfl⟩ := hcs
    exact ⟨[], rfl, EV.nil _ _⟩
  · simp only [List.cons.injEq, Value.slice.injEq, and_true] at hcs
    obtain ⟨rfl, rfl, rfl⟩ := hcs
    simp only [if_true] at hmm
    subst hmm
    have e26 : Try.prog.cellsOf 79 = 34 := by kernel_rfl
    rw [e26] at hr
    have each : ∀ r, r < len → ∃ t : Ent, EOk t ∧ ∀ i, i < 34 → W.cell? ((a.add (r * 34)).add i) = (entC t)[i]? := by
      intro r hr1
      obtain ⟨cs', h1, h2⟩ := hr r (by omega)
      obtain ⟨e, rfl, he⟩ := ent_cells h2
      exact ⟨e, he, fun i hi => cells_get h1 i hi⟩
    obtain ⟨y, hy⟩ := Go.Deep.choose_lt each
    have hlen : ((List.range len).map y).length = len := by simp
    have hget : ∀ j t, ((List.range len).map y)[j]? = some t → j < len ∧ t = y j := fun j t hj => by
      have hjl : j < len := by
        have := (List.getElem?_eq_some_iff.1 hj).1
        simpa using this
      simp only [List.getElem?_map, List.getElem?_range hjl, Option.map_some, Option.some.injEq] at hj
      exact ⟨hjl, hj.symm⟩
    refine ⟨(List.range len).map y, hlen, some a, _, by rw [hlen], by rw [hlen]; exact hl, hm, by simp, fun e he => ?_, fun hne => ?_⟩
    · obtain ⟨j, hj⟩ := List.mem_iff_getElem?.1 he
      obtain ⟨hjl, rfl⟩ := hget j e hj
      exact (hy j hjl).1
    · have hpos : 0 < len := by
        have := List.length_pos_iff.2 hne
        omega
      have h00 := (hy 0 hpos).2 0 (by omega)
      obtain ⟨v0, hv0⟩ : ∃ v, (entC (y 0))[0]? = some v := ⟨_, List.getElem?_eq_getElem (by rw [entC_length (hy 0 hpos).1]; omega)⟩
      rw [hv0] at h00
      have ha : a.spot = none := by
        rw [Nat.zero_mul] at h00
        have e : (a.add 0) = a := rfl
        rw [e] at h00
        exact spot_none h00
      obtain ⟨b, o, s⟩ := a
      simp only at ha
      subst ha
      have hb : b < W.heap.size := by
        rw [addr_plus, addr_plus] at h00
        exact World.block_lt_of_cell? W _ h00
      refine ⟨b, o, rfl, hb, hb, fun j t hj => ?_⟩
      obtain ⟨hjl, rfl⟩ := hget j t hj
      refine ⟨(hy j hjl).1, fun i v hv => ?_⟩
      have hi : i < 34 := by
        have := (List.getElem?_eq_some_iff.1 hv).1
        rw [entC_length (hy j hjl).1] at this
        exact this
      have h := (hy j hjl).2 i hi
      rw [addr_plus, addr_plus, hv] at h
      exact h
end Go.Proofs.Ytenfahecnkdhaaa.Nd
end

section
/-
  light, of the fourteenth law.
-/
namespace Go.Proofs.Ytenfahecnkdhaaa.Nd
open Go.RowKit
open Stb (Stab Srt Mrg)
open Sim (hid Kp No)

def lightN (cn : Nat) (d : List Ent) (bn : Nat) : Bool := decide (cn ≤ 200) && (decide (d.length ≤ 70) && (decide (bn ≤ 5100) && d.all (fun e => decide (e.1.length ≤ 60))))
theorem lightN_short {cn bn : Nat} {d : List Ent} (h : lightN cn d bn = true) : cn ≤ 200 ∧ d.length ≤ 70 ∧ bn ≤ 5100 ∧ ∀ e ∈ d, e.1.length ≤ 60 := by
  unfold lightN at h
  simp only [Bool.and_eq_true, decide_eq_true_eq, List.all_eq_true] at h
  exact h

set_option maxHeartbeats 4000000 in
theorem light_any (w : World) (v : Value) (d : List Ent) (P : Nat → Prop) (sz kd : Int) (ac ab : Option Addr) (cn cc bn cb : Nat) (hv : EV P w v d) :
    Calls Try.prog 7 #[.agg #[.int .i64 sz, .slice ac cn cc], v, .agg #[.int .i64 kd, .slice ab bn cb]] w fun e w' => e = .returned (.bool (lightN cn d bn)) ∧ Kp No w w' := by
  have HL : Hid (lightN cn d bn = (decide (cn ≤ 200) && (decide (d.length ≤ 70) && (decide (bn ≤ 5100) && d.all (fun e => decide (e.1.length ≤ 60)))))) := rfl
  generalize lightN cn d bn = q at *
  have HK0 : Hid (Kp No w ((w.alloc (.cells #[.int .i64 sz, .slice ac cn cc] 24)).alloc (.cells #[.int .i64 kd, .slice ab bn cb] 29))) := ((Kp.refl No w).alloc _).alloc _
  have HV := hid hv
  obtain ⟨a, c, rfl, h2, h3, h4, h5, h6⟩ := hv
  obtain ⟨n, hn⟩ : ∃ n, d.length = n := ⟨_, rfl⟩
  have HN := hid hn
  have H6 := hid h6
  rw [hn] at HL ⊢
  clear hn h2 h3 h4 h5 h6
  by_cases k1 : cn ≤ 200
  · have k1I : ¬ (200 : Int) < (cn : Int) := by omega
    rw [decide_eq_true k1, Bool.true_and] at HL
    by_cases k2 : n ≤ 70
    · have k2I : ¬ (70 : Int) < (n : Int) := by omega
      rw [decide_eq_true k2, Bool.true_and] at HL
      by_cases k3 : bn ≤ 5100
      · have k3I : ¬ (5100 : Int) < (bn : Int) := by omega
        rw [decide_eq_true k3, Bool.true_and] at HL
        go_enter Try.func7, Try.ntmps7
        go_wp2_with fail
        go_loopw [7] (fun x wr => ∃ i : Nat, x = .int .i64 i ∧ i ≤ n ∧ Hid (∀ j y, j < i → d[j]? = some y → y.1.length ≤ 60) ∧ Hid (Kp No w wr)) (fun x _ => n - (intOf x).toNat)
        case atStart => exact ⟨0, rfl, Nat.zero_le _, fun j y hj => absurd hj (Nat.not_lt_zero _), HK0.out⟩
        case round =>
          obtain ⟨i, rfl, hi, HS, HK⟩ := hrel
          by_cases hlt : i < n
          · have hltI : (i : Int) < (n : Int) := by omega
            have hi0 : (0 : Int) ≤ (i : Int) := by omega
            obtain ⟨x, hx⟩ : ∃ x, d[i]? = some x := ⟨_, List.getElem?_eq_getElem (by rw [HN.out]; omega)⟩
            obtain ⟨g, o, rfl, _, hr⟩ := H6.out (by intro e; have := HN.out; rw [e] at this; simp at this; omega)
            have c0 : wr.cell? ⟨g, o + i * 34, none⟩ = some (.string (txt x.1)) := ((hr.kp HK.out (fun x => x)).2 i x hx).2 0 _ rfl
            have HX := hid hx
            have HSZ := hid (txt_size x.1)
            generalize txt x.1 = T at *
            clear hx hr
            by_cases h60 : x.1.length ≤ 60
            · have h60I : ¬ (60 : Int) < (T.size : Int) := by rw [HSZ.out]; omega
              go_wp2
              go_roundw
              case rel => exact ⟨i + 1, by go_num, by omega, fun j y hj hy => by
                by_cases e : j = i
                · subst e
                  have := HX.out
                  rw [hy] at this
                  cases this
                  exact h60
                · exact HS.out j y (by omega) hy, HK.out⟩
              case measure => simp [intOf] <;> omega
            · have h60I : (60 : Int) < (T.size : Int) := by rw [HSZ.out]; omega
              have e : q = false := by
                rw [HL.out]
                exact List.all_eq_false.2 ⟨x, List.mem_of_getElem? HX.out, by simpa using h60⟩
              go_wp2
              go_ret
              refine ⟨?_, HK.out⟩
              rw [e]
              rfl
          · have hltI : ¬ (i : Int) < (n : Int) := by omega
            have e : q = true := by
              rw [HL.out]
              refine List.all_eq_true.2 (fun x hx => ?_)
              obtain ⟨j, hj⟩ := List.mem_iff_getElem?.1 hx
              have := HS.out j x (by have := (List.getElem?_eq_some_iff.1 hj).1; have := HN.out; omega) hj
              simpa using this
            go_wp2
            go_ret
            refine ⟨?_, HK.out⟩
            first | rfl | (rw [e]; rfl)
      · have k3I : (5100 : Int) < (bn : Int) := by omega
        rw [decide_eq_false k3, Bool.false_and] at HL
        rw [HL.out]
        go_enter Try.func7, Try.ntmps7
        go_wp2
        go_ret
        exact ⟨rfl, HK0.out⟩
    · have k2I : (70 : Int) < (n : Int) := by omega
      rw [decide_eq_false k2, Bool.false_and] at HL
      rw [HL.out]
      go_enter Try.func7, Try.ntmps7
      go_wp2
      go_ret
      exact ⟨rfl, HK0.out⟩
  · have k1I : (200 : Int) < (cn : Int) := by omega
    rw [decide_eq_false k1, Bool.false_and] at HL
    rw [HL.out]
    go_enter Try.func7, Try.ntmps7
    go_wp2
    go_ret
    exact ⟨rfl, HK0.out⟩

end Go.Proofs.Ytenfahecnkdhaaa.Nd
end

section
/-
  Plain mathematics of the tlv statements: trees of values by their depth, what their form takes, and their form; no program is named here.
-/
namespace Go.Proofs.Ytenfahecnkdhaaa.Tlv

/-- A value nested at most n deep: its tag, its number, its bytes; the values in it. -/
def Tr : Nat → Type
  | 0 => Empty
  | n + 1 => (Int × Int × List Int) × List (Tr n)

def Tr.hd : {n : Nat} → Tr n → Int × Int × List Int
  | 0, t => by cases t
  | _ + 1, t => t.1

def Tr.kd {n : Nat} (t : Tr (n + 1)) : List (Tr n) := t.2

def Tr.mk {n : Nat} (tag num : Int) (bs : List Int) (ks : List (Tr n)) : Tr (n + 1) := ((tag, num, bs), ks)

/-- How many bytes a number takes. -/
def nsz (x : Int) : Int := ((Lib.bitLen x.toNat : Int) + 7) / 8

theorem bitLen_le64 (x : Nat) : Lib.bitLen x ≤ 64 := by
  have h : ∀ f x, Lib.bitLenAux f x ≤ f := by
    intro f
    induction f with
    | zero => intro x; simp [Lib.bitLenAux]
    | succ f ih => intro x; simp only [Lib.bitLenAux]; split; omega; have := ih (x / 2); omega
  exact h 64 x

theorem nsz_bd (x : Int) : 0 ≤ nsz x ∧ nsz x ≤ 8 := by
  have := bitLen_le64 x.toNat
  unfold nsz
  omega

/-- The other fields are empty. -/
def oeB (tag num : Int) (lb lk : Nat) : Bool := (tag == 1 || num == 0) && (tag == 2 || (lb : Int) == 0) && (tag == 3 || (lk : Int) == 0)

/-- The room that a list's values take, behind one another, 'acc' of it taken already. -/
def lszGo {α : Type} (f : α → Int → Int → Int × Bool) (room deep : Int) : Int → List α → Int × Bool
  | acc, [] => (acc, true)
  | acc, k :: ks => if (f k (room - acc - 3) (deep - 1)).2 then lszGo f room deep (acc + (3 + (f k (room - acc - 3) (deep - 1)).1)) ks else (0, false)

def lsz {α : Type} (f : α → Int → Int → Int × Bool) (ks : List α) (room deep : Int) : Int × Bool :=
  if deep = 0 then (0, false) else lszGo f room deep 0 ks

/-- What is behind the first three bytes of a form: how many bytes, and whether the value is right. -/
def bsz : (n : Nat) → Tr n → Int → Int → Int × Bool
  | 0, t, _, _ => by cases t
  | n + 1, t, room, deep =>
    if room < 0 ∨ oeB t.hd.1 t.hd.2.1 t.hd.2.2.length t.kd.length = false then (0, false)
    else if t.hd.1 = 1 then (nsz t.hd.2.1, decide (nsz t.hd.2.1 ≤ room))
    else if t.hd.1 = 2 then ((t.hd.2.2.length : Int), decide ((t.hd.2.2.length : Int) ≤ room))
    else if t.hd.1 = 3 then lsz (bsz n) t.kd room deep
    else (0, false)

/-- 'f' tells a room only where there is one. -/
def Fits {α : Type} (f : α → Int → Int → Int × Bool) : Prop := ∀ t room deep, (f t room deep).2 = true → 0 ≤ (f t room deep).1 ∧ (f t room deep).1 ≤ room

theorem lszGo_bd {α : Type} {f : α → Int → Int → Int × Bool} (hf : Fits f) (room deep : Int) (ks : List α) : ∀ acc, 0 ≤ acc → acc ≤ room →
    (lszGo f room deep acc ks).2 = true → acc ≤ (lszGo f room deep acc ks).1 ∧ (lszGo f room deep acc ks).1 ≤ room := by
  induction ks with
  | nil => intro acc h0 h1 _; simp [lszGo]; omega
  | cons k ks ih =>
    intro acc h0 h1 h2
    simp only [lszGo] at h2 ⊢
    split at h2
    · rename_i hk
      rw [if_pos hk]
      have b := hf k _ _ hk
      have := ih _ (by omega) (by omega) h2
      omega
    · simp at h2

theorem bsz_fits : ∀ n, Fits (bsz n)
  | 0, t, _, _, _ => by cases t
  | n + 1, t, room, deep, h => by
    simp only [bsz] at h ⊢
    split at h
    · simp at h
    · rename_i h0
      rw [if_neg h0]
      split at h
      · rename_i h1; rw [if_pos h1]; have := nsz_bd t.hd.2.1; simp at h ⊢; omega
      · rename_i h1
        rw [if_neg h1]
        split at h
        · rename_i h2; rw [if_pos h2]; simp at h ⊢; omega
        · rename_i h2
          rw [if_neg h2]
          split at h
          · rename_i h3
            rw [if_pos h3]
            unfold lsz at h ⊢
            split at h
            · simp at h
            · rename_i h4
              rw [if_neg h4]
              exact lszGo_bd (bsz_fits n) room deep _ 0 (by omega) (by have := not_or.1 h0; omega) h
          · simp at h

end Go.Proofs.Ytenfahecnkdhaaa.Tlv
end

section
/-
  How values of tlv lie in memory, and what the small functions of the program do: math/bits.Len64, numberSize, othersEmpty, bytes.Clone, Number, Bytes, the reference's Bytes.
-/
namespace Go.Proofs.Ytenfahecnkdhaaa.Tlv
open Go.RowKit

theorem Try.info5 : (Try.prog.info? 5).map (fun i => (i.zero, i.size, i.bytes)) = some (some (.int .u8 0), 1, 1) := by kernel_rfl
theorem Try.info95 : (Try.prog.info? 95).map (fun i => (i.zero, i.size, i.bytes)) = some (some (.agg #[.int .i64 0, .int .u64 0, .slice none 0 0, .slice none 0 0]), 4, 64) := by kernel_rfl

theorem hid {p : Prop} (h : p) : Hid p := h

/-- Of the blocks from L on, below B, w' holds what w held. -/
def Agree (L B : Nat) (w w' : World) : Prop := ∀ k, L ≤ k → k < B → w'.heap[k]? = w.heap[k]?

theorem Agree.refl (L B : Nat) (w : World) : Agree L B w w := fun _ _ _ => rfl
theorem Agree.trans {L B : Nat} {a b c : World} (h : Agree L B a b) (k : Agree L B b c) : Agree L B a c := fun i h1 h2 => (k i h1 h2).trans (h i h1 h2)
theorem Agree.mono {L L' B B' : Nat} {w w' : World} (h : Agree L B w w') (hL : L ≤ L') (hB : B' ≤ B) : Agree L' B' w w' := fun k h1 h2 => h k (by omega) (by omega)
theorem Agree.below {L B : Nat} {w w' : World} (h : Below B w w') : Agree L B w w' := fun k _ h2 => h.block k h2
theorem Agree.alloc {L B : Nat} {a w : World} (h : Agree L B a w) (hB : B ≤ w.heap.size) (o : Obj) : Agree L B a (w.alloc o) := h.trans fun k _ h2 => Below.heap_alloc _ _ _ (by omega)
theorem Agree.setCell {L B : Nat} {a w : World} (h : Agree L B a w) {p : Addr} (hp : p.block < L ∨ B ≤ p.block) (u : Value) : Agree L B a (w.setCell p u) := h.trans fun k h1 h2 => Below.heap_setCell _ _ _ _ (by omega)
theorem Agree.drew {L B : Nat} {a w : World} (h : Agree L B a w) : Agree L B a w.drew := h
theorem Agree.cell {L B : Nat} {w w' : World} (h : Agree L B w w') {p : Addr} (h1 : L ≤ p.block) (h2 : p.block < B) : w'.cell? p = w.cell? p := World.cell?_of_block (w := w) (h p.block h1 h2)

/-- v is a slice of the bytes bs, in blocks from L on, below B. -/
def BySl (L B : Nat) (w : World) (v : Value) (bs : List Int) : Prop :=
  ∃ a cap, v = .slice a bs.length cap ∧ bs.length ≤ cap ∧ cap ≤ maxLen ∧ (a = none → bs = [] ∧ cap = 0) ∧ bs.length ≤ 140737488355328 ∧ (∀ x ∈ bs, 0 ≤ x ∧ x ≤ 255) ∧
    (bs ≠ [] → ∃ b o, a = some ⟨b, o, none⟩ ∧ L ≤ b ∧ b < B ∧ ∀ i, i < bs.length → w.cell? ⟨b, o + i, none⟩ = some (.int .u8 (bs.getD i 0)))

/-- v is a slice of the values ks, each as R says, in blocks from L on, below B. -/
def KSl {n : Nat} (L B : Nat) (w : World) (R : Tr n → Value → Value → Prop) (v : Value) (ks : List (Tr n)) : Prop :=
  ∃ a cap, v = .slice a ks.length cap ∧ ks.length ≤ cap ∧ cap ≤ maxLen ∧ (a = none → ks = [] ∧ cap = 0) ∧ ks.length ≤ 2199023255552 ∧
    (ks ≠ [] → ∃ b o, a = some ⟨b, o, none⟩ ∧ L ≤ b ∧ b < B ∧ ∀ j t, ks[j]? = some t → ∃ sb sk, w.cell? ⟨b, o + j * 4, none⟩ = some (.int .i64 t.hd.1) ∧ w.cell? ⟨b, o + j * 4 + 1, none⟩ = some (.int .u64 t.hd.2.1) ∧
      w.cell? ⟨b, o + j * 4 + 2, none⟩ = some sb ∧ w.cell? ⟨b, o + j * 4 + 3, none⟩ = some sk ∧ R t sb sk)

/-- The tree t lies in w, in blocks from L on, below B, its bytes behind sb, its values behind sk. -/
def Rep (L B : Nat) (w : World) : (n : Nat) → Tr n → Value → Value → Prop
  | 0, t, _, _ => by cases t
  | n + 1, t, sb, sk => 0 ≤ t.hd.2.1 ∧ t.hd.2.1 ≤ 18446744073709551615 ∧ BySl L B w sb t.hd.2.2 ∧ KSl L B w (Rep L B w n) sk t.kd

theorem BySl.agree {L B L' B' : Nat} {w w' : World} {v : Value} {bs : List Int} (h : BySl L B w v bs) (hb : Agree L B w w') (hL : L' ≤ L) (hB : B ≤ B') : BySl L' B' w' v bs := by
  obtain ⟨a, cap, h1, h2, h3, h4, h5, h6, h7⟩ := h
  refine ⟨a, cap, h1, h2, h3, h4, h5, h6, fun hne => ?_⟩
  obtain ⟨b, o, e, hL', hbB, hc⟩ := h7 hne
  exact ⟨b, o, e, by omega, by omega, fun i hi => (hb.cell (p := ⟨b, o + i, none⟩) hL' hbB).trans (hc i hi)⟩

theorem KSl.agree {n L B L' B' : Nat} {w w' : World} {R R' : Tr n → Value → Value → Prop} {v : Value} {ks : List (Tr n)} (h : KSl L B w R v ks) (hR : ∀ t sb sk, R t sb sk → R' t sb sk) (hb : Agree L B w w') (hL : L' ≤ L) (hB : B ≤ B') : KSl L' B' w' R' v ks := by
  obtain ⟨a, cap, h1, h2, h3, h4, h5, h7⟩ := h
  refine ⟨a, cap, h1, h2, h3, h4, h5, fun hne => ?_⟩
  obtain ⟨b, o, e, hLb, hbB, hc⟩ := h7 hne
  refine ⟨b, o, e, by omega, by omega, fun j t hj => ?_⟩
  obtain ⟨sb, sk, c0, c1, c2, c3, r⟩ := hc j t hj
  exact ⟨sb, sk, (hb.cell (p := ⟨b, _, none⟩) hLb hbB).trans c0, (hb.cell (p := ⟨b, _, none⟩) hLb hbB).trans c1, (hb.cell (p := ⟨b, _, none⟩) hLb hbB).trans c2, (hb.cell (p := ⟨b, _, none⟩) hLb hbB).trans c3, hR _ _ _ r⟩

theorem Rep.agree {L B L' B' : Nat} {w w' : World} (hb : Agree L B w w') (hL : L' ≤ L) (hB : B ≤ B') : ∀ {n : Nat} {t : Tr n} {sb sk : Value}, Rep L B w n t sb sk → Rep L' B' w' n t sb sk
  | 0, t, _, _, _ => by cases t
  | _ + 1, _, _, _, h => ⟨h.1, h.2.1, h.2.2.1.agree hb hL hB, h.2.2.2.agree (fun _ _ _ r => Rep.agree hb hL hB r) hb hL hB⟩

theorem Rep.sl {L B : Nat} {w : World} : ∀ {n : Nat} {t : Tr n} {sb sk : Value}, Rep L B w n t sb sk → ∃ a l c a' l' c', sb = .slice a l c ∧ sk = .slice a' l' c'
  | 0, t, _, _, _ => by cases t
  | _ + 1, _, _, _, h => by
    obtain ⟨_, _, ⟨_, _, rfl, _⟩, ⟨_, _, rfl, _⟩⟩ := h
    exact ⟨_, _, _, _, _, _, rfl, rfl⟩

/-- Out of a row of the call's own. -/
theorem BySl.own {base : Nat} {w : World} {v : Value} {bs : List Int} (h : w.ownsRow base 5 1 v bs.length (bs.map (Value.int .u8))) (hl : bs.length ≤ 140737488355328) (hx : ∀ x ∈ bs, 0 ≤ x ∧ x ≤ 255) : BySl base w.heap.size w v bs := by
  rcases h.2 with ⟨rfl, h0⟩ | ⟨g, cap, cur, rfl, hb, hg, hn, hc, hs, ht⟩
  · have : bs = [] := List.length_eq_zero_iff.1 h0
    subst this
    exact ⟨none, 0, rfl, Nat.le_refl _, Nat.zero_le _, fun _ => ⟨rfl, rfl⟩, by simp, by simp, fun h => absurd rfl h⟩
  · refine ⟨_, cap, rfl, hn, hc, by simp, hl, hx, fun _ => ⟨g, 0, rfl, hb, (Array.getElem?_eq_some_iff.1 hg).1, fun i hi => ?_⟩⟩
    rw [Nat.zero_add, h.cellAt i (by omega)]
    simp [List.getElem?_eq_getElem hi]

theorem BySl.none (L B : Nat) (w : World) : BySl L B w (.slice none 0 0) [] := ⟨_, 0, rfl, Nat.le_refl _, Nat.zero_le _, fun _ => ⟨rfl, rfl⟩, by simp, by simp, fun h => absurd rfl h⟩

theorem KSl.none {n : Nat} (L B : Nat) (w : World) (R : Tr n → Value → Value → Prop) : KSl L B w R (.slice none 0 0) [] := ⟨_, 0, rfl, Nat.le_refl _, Nat.zero_le _, fun _ => ⟨rfl, rfl⟩, by simp, fun h => absurd rfl h⟩

theorem bcell {W w1 : World} (hb : Below W.heap.size W w1) : (∀ b o, b < W.heap.size → w1.cell? ⟨b, o, none⟩ = W.cell? ⟨b, o, none⟩) ∧ (∀ b o, b < W.heap.size → w1.frozen? ⟨b, o, none⟩ = W.frozen? ⟨b, o, none⟩) :=
  ⟨fun b o h => hb.cell (p := ⟨b, o, none⟩) h, fun b o h => hb.frozen (p := ⟨b, o, none⟩) h⟩

theorem tab_size : Lib.len8tab.size = 256 := by decide +kernel
theorem tab_all : ∀ n : Fin 256, (Lib.len8tab[n.val]'(by rw [tab_size]; exact n.2)).toNat = Lib.bitLen n.val := by decide +kernel
theorem tab_at (n : Nat) (h : n < Lib.len8tab.size) : Lib.len8tab[n].toNat = Lib.bitLen n := tab_all ⟨n, by rw [tab_size] at h; exact h⟩
theorem tab_le (n : Nat) (h : n < 256) : Lib.bitLen n ≤ 8 := Lib.bitLen_le8 ⟨n, h⟩

/-- The last row of Len64: what the table holds, and the bits cut off ahead of it. -/
theorem len_close (x k i : Nat) (hk : 2 ^ k ≤ x ∨ k = 0) (hx : x < 2 ^ 64) (hi : i = x / 2 ^ k) (hl : i < 256) (h : i < Lib.len8tab.size) (hk2 : k ≤ 56) :
    wrap64 (k + wrap64 (Lib.len8tab[i].toNat : Nat)) = (Lib.bitLen x : Int) := by
  have l := tab_le i hl
  rw [tab_at i h]
  have e : Lib.bitLen x = k + Lib.bitLen i := by
    subst hi
    rcases hk with hk | rfl
    · exact Lib.bitLen_shift k x hk hx
    · simp
  rw [show wrap64 ((Lib.bitLen i : Nat) : Int) = (Lib.bitLen i : Int) from IntWalk.wrap64_in _ ⟨by omega, by omega⟩, IntWalk.wrap64_in _ ⟨by omega, by omega⟩, e]
  omega

set_option maxHeartbeats 4000000 in
set_option maxRecDepth 100000 in
theorem len64_any (x : Int) (w : World) (h0 : 0 ≤ x) (h1 : x ≤ 18446744073709551615) :
    Calls Try.prog 100 #[.int .u64 x] w fun e w' => e = .returned (.int .i64 (Lib.bitLen x.toNat)) ∧ w' = w := by
  have hts : (Lib.len8tab.size : Int) = 256 := by rw [tab_size]; rfl
  go_enter Try.func100, Try.ntmps100
  go_wp2
  all_goals (go_ret; refine ⟨congrArg Ending.returned (congrArg (Value.int IntKind.i64) ?_), rfl⟩)
  · exact len_close x.toNat 56 _ (.inl (by simp only [Nat.reducePow]; omega)) (by simp only [Nat.reducePow]; omega) (by simp only [Nat.reducePow]; omega) (by omega) _ (by omega)
  · exact len_close x.toNat 48 _ (.inl (by simp only [Nat.reducePow]; omega)) (by simp only [Nat.reducePow]; omega) (by simp only [Nat.reducePow]; omega) (by omega) _ (by omega)
  · exact len_close x.toNat 40 _ (.inl (by simp only [Nat.reducePow]; omega)) (by simp only [Nat.reducePow]; omega) (by simp only [Nat.reducePow]; omega) (by omega) _ (by omega)
  · exact len_close x.toNat 32 _ (.inl (by simp only [Nat.reducePow]; omega)) (by simp only [Nat.reducePow]; omega) (by simp only [Nat.reducePow]; omega) (by omega) _ (by omega)
  · exact len_close x.toNat 24 _ (.inl (by simp only [Nat.reducePow]; omega)) (by simp only [Nat.reducePow]; omega) (by simp only [Nat.reducePow]; omega) (by omega) _ (by omega)
  · exact len_close x.toNat 16 _ (.inl (by simp only [Nat.reducePow]; omega)) (by simp only [Nat.reducePow]; omega) (by simp only [Nat.reducePow]; omega) (by omega) _ (by omega)
  · exact len_close x.toNat 8 _ (.inl (by simp only [Nat.reducePow]; omega)) (by simp only [Nat.reducePow]; omega) (by simp only [Nat.reducePow]; omega) (by omega) _ (by omega)
  · have h := len_close x.toNat 0 x.toNat (.inr rfl) (by simp only [Nat.reducePow]; omega) (by simp) (by omega) (by rw [tab_size]; omega) (by omega)
    simpa using h

set_option maxHeartbeats 400000 in
theorem numberSize_any (x : Int) (w : World) (h0 : 0 ≤ x) (h1 : x ≤ 18446744073709551615) :
    Calls Try.prog 95 #[.int .u64 x] w fun e w' => e = .returned (.int .i64 (nsz x)) ∧ w' = w := by
  have hb := bitLen_le64 x.toNat
  go_enter Try.func95, Try.ntmps95
  go_wp2_with (go_at_call 100; refine (len64_any _ _ h0 h1).mono ?_; rintro e w' ⟨rfl, rfl⟩)
  go_ret
  exact ⟨rfl, rfl⟩

set_option maxHeartbeats 1000000 in
theorem othersEmpty_any (tag num : Int) (a a' : Option Addr) (lb cb lk ck : Nat) (w : World) :
    Calls Try.prog 94 #[.agg #[.int .i64 tag, .int .u64 num, .slice a lb cb, .slice a' lk ck]] w fun e w' => e = .returned (.bool (oeB tag num lb lk)) ∧ Below w.heap.size w w' := by
  go_enter Try.func94, Try.ntmps94
  go_wp2
  all_goals (go_ret; refine ⟨?_, (Below.refl _ _).alloc (Nat.le_refl _) _⟩; simp [oeB, *])

theorem Try.nilEq (w : World) (a : Option Addr) (n c n' c' : Nat) : (binOp .eql 26 (.slice a n c) (.slice none n' c')).run Try.prog w = .ok (.bool a.isNone) w :=
  Lib.run_eql_slice_nil w _ _ a n c n' c' Try.underlying26

set_option maxHeartbeats 1000000 in
theorem clone_bytes (v : Value) (bs : List Int) (w : World) (h : BySl 0 w.heap.size w v bs) :
    Calls Try.prog 47 #[v] w fun e w' => ∃ v', e = .returned v' ∧ BySl w.heap.size w'.heap.size w' v' bs ∧ Below w.heap.size w w' := by
  have q22 := Try.nilEq
  obtain ⟨a, cap, rfl, h2, h3, h4, h5, h6, h7⟩ := h
  cases a with
  | none =>
    obtain ⟨rfl, rfl⟩ := h4 rfl
    clear h7
    go_enter Try.func47, Try.ntmps47
    go_wp2
    go_ret
    exact ⟨_, rfl, BySl.none _ _ _, Below.refl _ _⟩
  | some ad =>
    obtain ⟨i0, hi, hz0, hz1, hz2⟩ := info_parts Try.info5
    have A : Hid (bs ≠ [] → ∃ b o, some ad = some ⟨b, o, none⟩ ∧ 0 ≤ b ∧ b < w.heap.size ∧ ∀ i, i < bs.length → w.cell? ⟨b, o + i, none⟩ = some (.int .u8 (bs.getD i 0))) := h7
    have A6 : Hid (∀ x ∈ bs, 0 ≤ x ∧ x ≤ 255) := h6
    clear h7 h6 h4
    go_enter Try.func47, Try.ntmps47
    go_wp2_with (at_builtin; refine wpList_append_own _ rfl _ _ 26 rfl w.heap.size 5 i0 (.int .u8 0) 1 1 Try.underlying26 hi hz0 hz1 hz2 rfl (by decide) _ _ _ rfl (World.ownsRow_made w #[] 0 (Nat.le_refl _) (Nat.zero_le _) rfl) ad bs.length cap (bs.map (Value.int .u8)) rfl ?qc1 ?qc2 ?qc3 ?qc4 ?qc5 ?qc6 ?_)
    case qc1 => simp
    case qc2 =>
      intro j u hj
      have hjn : j < bs.length := by
        have := (List.getElem?_eq_some_iff.1 hj).1
        simpa using this
      obtain ⟨b, o, e, _, hb, hc⟩ := A.out (by intro e; subst e; simp at hjn)
      simp only [Option.some.injEq] at e
      subst e
      have e2 : (⟨b, o, none⟩ : Addr).add j = ⟨b, o + j, none⟩ := by unfold Addr.add; split <;> simp_all
      rw [e2, World.cell?_alloc_lt _ _ _ hb, hc j hjn]
      simp only [List.getElem?_map, List.getElem?_eq_getElem hjn, Option.map_some, Option.some.injEq] at hj
      simp [List.getElem?_eq_getElem hjn, hj]
    case qc3 => intro u hu; obtain ⟨x, _, rfl⟩ := List.mem_map.1 hu; rfl
    case qc4 => unfold maxLen; omega
    case qc5 => omega
    case qc6 => simp
    intro v' w1 hown hgrow hnil
    go_wp2
    go_ret
    refine ⟨v', rfl, BySl.own (by simpa using hown) h5 A6.out, ?_⟩
    exact ((Below.refl _ w).alloc (Nat.le_refl _) _).grown hgrow (by simp) (by intro k hk; simp [Value.ownBlock] at hk; omega)

set_option maxHeartbeats 400000 in
theorem number_any (n : Int) (w : World) :
    Calls Try.prog 67 #[.int .u64 n] w fun e w' => e = .returned (.agg #[.int .i64 1, .int .u64 n, .slice none 0 0, .slice none 0 0]) ∧ Below w.heap.size w w' := by
  go_enter Try.func67, Try.ntmps67
  go_wp2
  exact bodyPost_ret (v := .agg #[.int .i64 1, .int .u64 n, .slice none 0 0, .slice none 0 0]) (by simp [results, Try.results67, go_sem]) rfl ⟨rfl, (Below.refl _ _).alloc (Nat.le_refl _) _⟩

end Go.Proofs.Ytenfahecnkdhaaa.Tlv
end

section
/-
  What the small functions of tlv that make values do, and the reference's Bytes.
-/
namespace Go.Proofs.Ytenfahecnkdhaaa.Tlv
open Go.RowKit

theorem Agree.set4 {L B b : Nat} (w : World) (hp : b < L ∨ B ≤ b) (u0 u1 u2 u3 : Value) {o0 o1 o2 o3 : Nat} : Agree L B w ((((w.setCell ⟨b, o0, none⟩ u0).setCell ⟨b, o1, none⟩ u1).setCell ⟨b, o2, none⟩ u2).setCell ⟨b, o3, none⟩ u3) :=
  ((((Agree.refl L B w).setCell hp _).setCell hp _).setCell hp _).setCell hp _

theorem bset4 {B b : Nat} {w : World} (hp : B ≤ b) (u0 u1 u2 u3 : Value) {o0 o1 o2 o3 : Nat} : Below B w ((((w.setCell ⟨b, o0, none⟩ u0).setCell ⟨b, o1, none⟩ u1).setCell ⟨b, o2, none⟩ u2).setCell ⟨b, o3, none⟩ u3) :=
  ((((Below.refl B w).setCell hp _).setCell hp _).setCell hp _).setCell hp _

set_option maxHeartbeats 400000 in
theorem bytes_any (v : Value) (bs : List Int) (w : World) (h : BySl 0 w.heap.size w v bs) :
    Calls Try.prog 66 #[v] w fun e w' => ∃ v', e = .returned (.agg #[.int .i64 2, .int .u64 0, v', .slice none 0 0]) ∧ BySl w.heap.size w'.heap.size w' v' bs ∧ Below w.heap.size w w' := by
  obtain ⟨a, cap, rfl, hr⟩ := id h
  clear hr
  have H : Hid (BySl 0 w.heap.size w (.slice a bs.length cap) bs) := h
  clear h
  go_enter Try.func66, Try.ntmps66
  go_wp2_with fail
  refine (clone_bytes _ bs _ (H.out.agree ((Agree.refl _ _ _).alloc (Nat.le_refl _) _) (Nat.le_refl _) (by simp))).mono ?_
  rintro e w1 ⟨v', rfl, hv, hb⟩
  obtain ⟨a', cap', rfl, hr'⟩ := id hv
  clear hr'
  have hz : w.heap.size < w1.heap.size := by have := hb.size; simp at this; omega
  have Hv := hid hv
  have Hb := hid hb
  obtain ⟨hc, hf⟩ := bcell hb
  clear hv hb
  go_wp2_with fail
  refine bodyPost_ret (v := .agg #[.int .i64 2, .int .u64 0, .slice a' bs.length cap', .slice none 0 0]) (by simp [results, Try.results66, go_sem, hc]) rfl ⟨_, rfl, ?_, ?_⟩
  · exact Hv.out.agree (Agree.set4 _ (.inl (by simp)) _ _ _ _) (by simp) (by simp)
  · exact (((Below.refl _ w).alloc (Nat.le_refl _) _).trans (Hb.out.mono (by simp))).trans (bset4 (Nat.le_refl _) _ _ _ _)

set_option maxHeartbeats 400000 in
theorem refBytes_any (v v' : Value) (xs ys : List Int) (w : World) (h : BySl 0 w.heap.size w v xs) (h' : BySl 0 w.heap.size w v' ys) :
    Calls Try.prog 34 #[v, v'] w fun e w' => e = .returned (.bool (decide (xs = ys))) ∧ Below w.heap.size w w' := by
  obtain ⟨a, cap, rfl, h2, h3, h4, h5, h6, h7⟩ := h
  obtain ⟨a', cap', rfl, h2', h3', h4', h5', h6', h7'⟩ := h'
  have A := hid h7
  have A' := hid h7'
  clear h7 h7' h4 h4' h6 h6'
  by_cases hl : xs.length = ys.length
  · have hlb : ((xs.length : Int) != (ys.length : Int)) = false := by simp [hl]
    have HL := hid hl
    clear hl
    go_enter Try.func34, Try.ntmps34
    go_wp2
    go_loopw [5] (fun i wr => ∃ k : Nat, k ≤ xs.length ∧ i = .int .i64 k ∧ Hid (xs.take k = ys.take k) ∧ ∃ q, wr = w.drewN q) (fun i _ => xs.length - (intOf i).toNat)
    case atStart => exact ⟨0, Nat.zero_le _, rfl, by simp [Hid], 0, rfl⟩
    case round =>
      obtain ⟨k, hk, rfl, ht, q, rfl⟩ := hrel
      by_cases hlt : k < xs.length
      · have hlt' : k < ys.length := by have := HL.out; omega
        obtain ⟨b, o, rfl, _, _, hc⟩ := A.out (by intro e; subst e; simp at hlt)
        obtain ⟨b', o', rfl, _, _, hc'⟩ := A'.out (by intro e; subst e; simp at hlt')
        have c1 := hc k hlt
        have c2 := hc' k hlt'
        clear hc hc'
        have e1 : Hid (xs.take (k + 1) = xs.take k ++ [xs.getD k 0]) := by rw [List.take_succ_eq_append_getElem hlt]; simp [Hid, List.getElem?_eq_getElem hlt]
        have e2 : Hid (ys.take (k + 1) = ys.take k ++ [ys.getD k 0]) := by rw [List.take_succ_eq_append_getElem hlt']; simp [Hid, List.getElem?_eq_getElem hlt']
        generalize xs.getD k 0 = x at c1 e1
        generalize ys.getD k 0 = y at c2 e2
        by_cases hxy : x = y
        · subst hxy
          go_wp2_with fail
          go_quiet (fail)
          go_wp2
          go_roundw
          case rel => exact ⟨k + 1, by omega, by go_num, by rw [Hid, e1.out, e2.out, ht.out], _, rfl⟩
          case measure => simp [intOf]; omega
        · have hb : (x != y) = true := by simpa using hxy
          go_wp2_with fail
          go_quiet (fail)
          go_wp2
          go_ret
          refine ⟨?_, ?_⟩
          · rw [decide_eq_false (by intro e; apply hxy; have h1 := e1.out; rw [e, e2.out] at h1; have := (List.append_inj' h1 rfl).2; simpa using this.symm)]
            rfl
          · exact below_drewN (below_drewN (Below.refl _ _) _) _
      · go_wp2
        go_ret
        refine ⟨?_, ?_⟩
        · rw [decide_eq_true (by have := ht.out; have hL := HL.out; rwa [List.take_of_length_le (by omega), List.take_of_length_le (by omega)] at this)]
          rfl
        · exact below_drewN (Below.refl _ _) _
  · have hlb : ((xs.length : Int) != (ys.length : Int)) = true := by simp; omega
    go_enter Try.func34, Try.ntmps34
    go_wp2
    go_ret
    refine ⟨?_, Below.refl _ _⟩
    rw [decide_eq_false (by intro e; exact hl (by rw [e]))]
    rfl

end Go.Proofs.Ytenfahecnkdhaaa.Tlv
end

section
/-
  A text turned into bytes: []byte(s).
-/
namespace Go.Proofs.Ytenfahecnkdhaaa.Nd
open Go.RowKit

theorem bytesOf_get (nm : List Int) (i : Nat) (h : i < nm.length) (hr : ∀ x ∈ nm, 0 ≤ x ∧ x ≤ 255) : (Lib.bytesOf nm)[i]? = some (UInt8.ofNat (nm.getD i 0).toNat) ∧ ((UInt8.ofNat (nm.getD i 0).toNat).toNat : Int) = nm.getD i 0 := by
  have e : nm.getD i 0 = nm[i] := by rw [List.getD_eq_getElem?_getD, List.getElem?_eq_getElem h, Option.getD_some]
  have hx := hr nm[i] (List.getElem_mem h)
  rw [e]
  refine ⟨?_, ?_⟩
  · unfold Lib.bytesOf
    simp [List.getElem?_map, List.getElem?_eq_getElem h]
  · simp
    omega

/-- What []byte(s) makes of a text. -/
theorem conv_txt (nm : List Int) (hr : ∀ x ∈ nm, 0 ≤ x ∧ x ≤ 255) (hl : nm.length ≤ 1000000) (w : World) :
    ∃ cap W, (convert 9 26 (.string (txt nm))).run Try.prog w = .ok (.slice (some ⟨w.heap.size, 0, none⟩) nm.length cap) W ∧ Tlv.BySl w.heap.size W.heap.size W (.slice (some ⟨w.heap.size, 0, none⟩) nm.length cap) nm ∧ Below w.heap.size w W := by
  have h := run_bytes_of_string (P := Try.prog) w 9 26 5 (txt nm) Try.underlying9 Try.underlying26 Try.underlying5
  have hs := txt_size nm
  rw [hs] at h
  refine ⟨_, _, h, ?_, ?_⟩
  · have hg := grownCap_ge w nm.length 0 5
    have hm := grownCap_le_maxLen w nm.length 0 5 (by unfold maxLen; omega)
    generalize grownCap w nm.length 0 5 = C at *
    refine ⟨_, C, rfl, hg, hm, by simp, by omega, hr, fun _ => ⟨w.heap.size, 0, rfl, Nat.le_refl _, by simp, fun i hi => ?_⟩⟩
    obtain ⟨h1, h2⟩ := bytesOf_get nm i hi hr
    have hcell : (w.drew.alloc (.cells (bytesRow (txt nm) C) 5 ((bytesRow (txt nm) C).size, (bytesRow (txt nm) C).size + 1))).cell? ⟨w.heap.size, 0 + i, none⟩ = (bytesRow (txt nm) C)[i]? := by
      rw [Nat.zero_add]
      generalize bytesRow (txt nm) C = R
      have hh : (w.drew.alloc (.cells R 5 (R.size, R.size + 1))).heap[w.heap.size]? = some (.cells R 5 (R.size, R.size + 1)) := by
        show (w.heap.push _)[w.heap.size]? = _
        simp
      unfold World.cell?
      simp only [hh]
      rfl
    rw [hcell]
    unfold bytesRow
    have hsz : i < ((txt nm).data.map (fun b => Value.int .u8 (b.toNat : Int))).size := by
      rw [Array.size_map]
      have : (txt nm).data.size = nm.length := hs
      omega
    rw [Array.getElem?_append_left hsz, Array.getElem?_map]
    have e : (txt nm).data[i]? = some (UInt8.ofNat (nm.getD i 0).toNat) := by
      show ((Lib.bytesOf nm).toArray)[i]? = _
      rw [List.getElem?_toArray]
      exact h1
    rw [e, Option.map_some, h2]
  · exact ((Below.refl _ _).drew).alloc (by simp) _

end Go.Proofs.Ytenfahecnkdhaaa.Nd
end

section
/-
  Same, of the document's objects; Own and Back of them.
-/
namespace Go.Proofs.Ytenfahecnkdhaaa.Nd
open Go.RowKit
open Sim (hid Kp No)

set_option maxHeartbeats 2000000 in
theorem sameObj_any (w : World) (k k' : Int) (v v' : Value) (a b : List Int) (h : Tlv.BySl 0 w.heap.size w v a) (h' : Tlv.BySl 0 w.heap.size w v' b) :
    Calls Try.prog 35 #[.agg #[.int .i64 k, v], .agg #[.int .i64 k', v']] w fun e w' => e = .returned (.bool (decide (k = k' ∧ a = b))) ∧ Kp No w w' := by
  have HB := hid (fun (V : World) (hV : Below w.heap.size w V) => Tlv.refBytes_any v v' a b V (h.agree (Tlv.Agree.below hV) (Nat.le_refl _) hV.size) (h'.agree (Tlv.Agree.below hV) (Nat.le_refl _) hV.size))
  have HK : Hid (Kp No w ((w.alloc (.cells #[.int .i64 k, v] 29)).alloc (.cells #[.int .i64 k', v'] 29))) := ((Kp.refl No w).alloc _).alloc _
  have HBB : Hid (Below w.heap.size w ((w.alloc (.cells #[.int .i64 k, v] 29)).alloc (.cells #[.int .i64 k', v'] 29))) := ((Below.refl _ _).alloc (Nat.le_refl _) _).alloc (by simp) _
  obtain ⟨x, c, rfl, _⟩ := h
  obtain ⟨x', c', rfl, _⟩ := h'
  by_cases hk : k = k'
  · have e : decide (k = k' ∧ a = b) = decide (a = b) := by simp [hk]
    rw [e]
    generalize decide (a = b) = r at *
    clear e
    subst hk
    have hkk : (k == k) = true := by simp
    go_enter Try.func35, Try.ntmps35
    go_wp2_with (go_at_call 34; refine (HB.out _ HBB.out).mono ?_; rintro e w1 ⟨rfl, hb⟩; have HK1 := hid (HK.out.andNone (Kp.below hb)); clear hb)
    go_ret
    refine ⟨?_, HK1.out⟩
    simp
  · have e : decide (k = k' ∧ a = b) = false := by simp [hk]
    rw [e]
    have hkk : (k == k') = false := by simpa using hk
    clear e
    go_enter Try.func35, Try.ntmps35
    go_wp2
    go_ret
    exact ⟨rfl, HK.out⟩

set_option maxHeartbeats 1000000 in
theorem ownObj_any (w : World) (k : Int) (x : Option Addr) (n c : Nat) :
    Calls Try.prog 19 #[.agg #[.int .i64 k, .slice x n c]] w fun e w' => e = .returned (.agg #[.int .i64 k, .slice x n c]) ∧ Kp No w w' := by
  go_enter Try.func19, Try.ntmps19
  go_wp2
  refine bodyPost_ret (v := .agg #[.int .i64 k, .slice x n c]) (by simp [results, Try.results19, go_sem]) rfl ⟨rfl, ((Kp.refl No w).alloc _).alloc _⟩
set_option maxHeartbeats 1000000 in
theorem backObj_any (w : World) (k : Int) (x : Option Addr) (n c : Nat) :
    Calls Try.prog 36 #[.agg #[.int .i64 k, .slice x n c]] w fun e w' => e = .returned (.agg #[.int .i64 k, .slice x n c]) ∧ Kp No w w' := by
  go_enter Try.func36, Try.ntmps36
  go_wp2
  refine bodyPost_ret (v := .agg #[.int .i64 k, .slice x n c]) (by simp [results, Try.results36, go_sem]) rfl ⟨rfl, ((Kp.refl No w).alloc _).alloc _⟩

end Go.Proofs.Ytenfahecnkdhaaa.Nd
end
