/-
  It is proved that ShelfBack returns true for every input, and leaves each argument as it read, the five listed variables of strconv and math/bits being laid as the program's text lays them: the card 'Rows.ShelfBackCardSaid', under no condition of its own.
-/
import Derived.Test.YtaaioaocjfpajaaGreatDoorB3
import Derived.Test.YtaaioaocjfpajaaGreatDoorB18
import Derived.WalkKit
import Derived.ProofKit
import Derived.OpenShut
import Derived.ShutString
import Derived.ChangeOld
import Derived.Below
namespace Go.Proofs.YtaaioaocjfpajaaGreatDoor.shelfBack
open Go.ChangeShapes Go.WideShapes Go.ChangeAt Go.RowKit
open Sim (hid)

/-- What LIn tells, for one that is light or not. -/
theorem walk (a0 a1 ac : Option Addr) (c0 c1 lc cc : Nat) (ts0 ts1 : List Raw) (st nm' : Int) (w : World) (hV : Vars w) (hm0 : ts0.length ≤ 9223372036854775807) (hm1 : ts1.length ≤ 9223372036854775807) (h0 : Sh.RawL w a0 ts0) (h1 : Sh.RawL w a1 ts1)
    (hc0 : a0 = none → c0 = 0) (hc1 : a1 = none → c1 = 0) (hst : -9223372036854775808 ≤ st ∧ st ≤ 9223372036854775807) (hc : Sim.InR .i64 w ac lc cc) :
    Calls Tryz.prog 4 #[.slice a0 ts0.length c0, .slice a1 ts1.length c1, .int .i64 st, .int .i64 nm', .slice ac lc cc] w fun e w' => e = .returned (.bool true) ∧ Sim.Kp Sim.No w w' := by
  obtain ⟨B0, hL0, hy0⟩ := Sh.lin_of w a0 c0 ts0 hm0 h0
  obtain ⟨B1, hL1, hy1⟩ := Sh.lin_of w a1 c1 ts1 hm1 h1
  have hle := hc.le
  by_cases hd : B0 = false ∨ B1 = false ∨ st < 0 ∨ 60 < (lc : Int)
  · exact Sh.back_dark w a0 a1 ac ts0.length c0 ts1.length c1 lc cc st nm' B0 B1 hV hL0 hL1 hd
  · have e0 : B0 = true := by
      cases B0 with
      | true => rfl
      | false => exact absurd (.inl rfl) hd
    have e1 : B1 = true := by
      cases B1 with
      | true => rfl
      | false => exact absurd (.inr (.inl rfl)) hd
    have e2 : 0 ≤ st := by
      rcases Int.lt_or_le st 0 with h | h
      · exact absurd (.inr (.inr (.inl h))) hd
      · exact h
    have e3 : lc ≤ 60 := by
      rcases Nat.lt_or_ge 60 lc with h | h
      · exact absurd (.inr (.inr (.inr (by omega)))) hd
      · exact h
    subst e0 e1
    obtain ⟨n0, ys0, g1, g2⟩ := hy0 rfl
    obtain ⟨n1, ys1, g3, g4⟩ := hy1 rfl
    obtain ⟨cuts, rfl, hin⟩ := hc.ints (by omega)
    exact Sh.back_light w a0 a1 ac ts0.length c0 ts1.length c1 cuts.length cc st nm' ys0 ys1 cuts hV hL0 hL1 g2 g4 g1 g3 hc0 hc1 n0 n1 e2 hst.2 e3 hin

set_option maxRecDepth 100000 in
theorem contract (H : Type) (enc : TypeId × Value → H) (W : World) (base : Nat) (args : Array Value) (ds gs : List (DataW H)) (before : List MemPlace)
    (hval : ∀ (j : Nat) t v, Tryz.f4.params[j]? = some t → args[j]? = some v → Value.okWide Tryz.prog W .any base t v)
    (hW : DataW.Whole enc Tryz.prog Tryz.f4.params.toList Rows.shelfBackSpec.vars false W args.toList ds gs before) (hlaid : laidMetH Tryz.prog laidFive W) :
    Calls Tryz.prog 4 args W fun e W' => ∃ v, e = .returned v ∧ Rows.shelfBackSpec.post enc Tryz.prog Tryz.f4 false true false false W args v W' := by
  have hW' := hW
  obtain ⟨p, q, hA0, hV, rfl, hfz, hnd⟩ := hW
  have hA : DataW.TrodAll enc Tryz.prog W 0 (fun _ => true) true Tryz.f4.params.toList args.toList ds p := hA0
  rw [Tryz.params4] at hA hval
  obtain ⟨v0, vs0, d0, ds0, p0, q0, hargs, rfl, rfl, h0, r0⟩ := trodAll_cons hA
  obtain ⟨v1, vs1, d1, ds1, p1, q1, rfl, rfl, rfl, h1, r1⟩ := trodAll_cons r0
  obtain ⟨v2, vs2, d2, ds2, p2, q2, rfl, rfl, rfl, h2, r2⟩ := trodAll_cons r1
  obtain ⟨v3, vs3, d3, ds3, p3, q3, rfl, rfl, rfl, h3, r3⟩ := trodAll_cons r2
  obtain ⟨v4, vs4, d4, ds4, p4, q4, rfl, rfl, rfl, h4, r4⟩ := trodAll_cons r3
  obtain ⟨rfl, rfl, rfl⟩ := trodAll_nil r4
  obtain rfl : args = #[v0, v1, v2, v3, v4] := by cases args; simp_all
  obtain ⟨rfl, rfl⟩ := trodVars_none hV
  obtain ⟨a0, len0, cap0, rfl⟩ := okWide_slice Tryz.underlying35 (hval 0 35 v0 rfl rfl)
  have k0 := h0
  have lt0 : ∀ x ∈ p0, x.block < W.heap.size := by obtain ⟨m, hm⟩ := k0; exact DataW.trod_lt m _ _ _ hm
  obtain ⟨hm0, hcn0, ts0, hts0, w0⟩ : len0 ≤ maxLen ∧ (a0 = none → cap0 = 0) ∧ ∃ ts : List Raw, ts.length = len0 ∧ Sh.RawL W a0 ts := by
    obtain ⟨fuel, hf⟩ := h0
    refine ⟨(recs_of hf).1, fun ha => ?_, (recs_of hf).2⟩
    rcases Go.Deep.open_slice Tryz.underlying35 hf with ⟨hcs, _⟩ | ⟨a, l, c, m, n, D, Pl, hcs, _⟩
    · simp only [Value.cells, List.cons.injEq, Value.slice.injEq, and_true] at hcs
      exact hcs.2.2
    · simp only [Value.cells, List.cons.injEq, Value.slice.injEq, and_true] at hcs
      rw [ha] at hcs
      cases hcs.1
  subst hts0
  obtain ⟨a1, len1, cap1, rfl⟩ := okWide_slice Tryz.underlying35 (hval 1 35 v1 rfl rfl)
  have k1 := h1
  have lt1 : ∀ x ∈ p1, x.block < W.heap.size := by obtain ⟨m, hm⟩ := k1; exact DataW.trod_lt m _ _ _ hm
  obtain ⟨hm1, hcn1, ts1, hts1, w1⟩ : len1 ≤ maxLen ∧ (a1 = none → cap1 = 0) ∧ ∃ ts : List Raw, ts.length = len1 ∧ Sh.RawL W a1 ts := by
    obtain ⟨fuel, hf⟩ := h1
    refine ⟨(recs_of hf).1, fun ha => ?_, (recs_of hf).2⟩
    rcases Go.Deep.open_slice Tryz.underlying35 hf with ⟨hcs, _⟩ | ⟨a, l, c, m, n, D, Pl, hcs, _⟩
    · simp only [Value.cells, List.cons.injEq, Value.slice.injEq, and_true] at hcs
      exact hcs.2.2
    · simp only [Value.cells, List.cons.injEq, Value.slice.injEq, and_true] at hcs
      rw [ha] at hcs
      cases hcs.1
  subst hts1
  obtain ⟨a2, rfl, rfl, rfl, w2⟩ := open_int Tryz.underlying3 (hval 2 3 v2 rfl rfl) h2
  obtain ⟨a3, rfl, rfl, rfl, w3⟩ := open_int Tryz.underlying3 (hval 3 3 v3 rfl rfl) h3
  obtain ⟨a4, len4, cap4, rfl⟩ := okWide_slice Tryz.underlying23 (hval 4 23 v4 rfl rfl)
  have k4 := h4
  have lt4 : ∀ x ∈ p4, x.block < W.heap.size := by obtain ⟨m, hm⟩ := k4; exact DataW.trod_lt m _ _ _ hm
  have w4 : Sim.InR .i64 W a4 len4 cap4 := by
    obtain ⟨fuel, hf⟩ := h4
    obtain ⟨a, l, c, e, hin⟩ := Sim.in_of Tryz.underlying23 Tryz.underlying3 (by kernel_rfl) hf
    simp only [Value.cells, List.cons.injEq, Value.slice.injEq, and_true] at e
    obtain ⟨rfl, rfl, rfl⟩ := e
    exact hin
  clear hA0
  refine ((walk a0 a1 a4 cap0 cap1 len4 cap4 ts0 ts1 a2 a3 W (vars_of_laid hlaid) (by unfold maxLen at hm0; omega) (by unfold maxLen at hm1; omega) w0 w1 hcn0 hcn1 (i64_wf w2) w4).mono fun e W' h => (⟨h.1, h.2.toBelow'⟩ : e = .returned (.bool true) ∧ Below W.heap.size W W')).mono fun e W' ⟨he, bel⟩ => ?_
  subst he
  exact ⟨_, rfl, _, _, _, [], _, [], hW', trodAll_mk1 (shut_bool Tryz.underlying4 _), (trodAll_cons_mk (Below.trod laidOut (by kernel_rfl) (of_decide_eq_true (by kernel_rfl)) k0 bel lt0) (trodAll_cons_mk (Below.trod laidOut (by kernel_rfl) (of_decide_eq_true (by kernel_rfl)) k1 bel lt1) (trodAll_cons_mk (shut_int Tryz.underlying3 w2) (trodAll_cons_mk (shut_int Tryz.underlying3 w3) (trodAll_cons_mk (Below.trod laidOut (by kernel_rfl) (of_decide_eq_true (by kernel_rfl)) k4 bel lt4) trodAll_mk0))))), rfl, bel.frame _, fun h => by cases h⟩

theorem reads (os : Os) {H : Type} (enc : TypeId × Value → H) : ∃ d places, DataW.whole enc Tryz.prog (({ World.holding Tryz.prog os ⟨#[.cells #[.string synS] 285, .cells #[.string rngS] 285], #[], []⟩ with heap := (((((World.holding Tryz.prog os ⟨#[.cells #[.string synS] 285, .cells #[.string rngS] 285], #[], []⟩).heap.modify 1 (lay #[.iface 283 (.pointer (some ⟨10, 0, none⟩))])).modify 2 (lay #[.iface 283 (.pointer (some ⟨11, 0, none⟩))])).modify 0 (lay tab10)).modify 3 (lay tab32)).modify 4 (lay tab64) } : World).forCall (fun _ _ => 0) ⟨#[], #[.slice none 0 0, .slice none 0 0, .int .i64 0, .int .i64 0, .slice none 0 0], []⟩).memory Tryz.f4.params.toList Rows.shelfBackSpec.vars false (#[.slice none 0 0, .slice none 0 0, .int .i64 0, .int .i64 0, .slice none 0 0] : Array Value).toList 8 = some (d, [], places) :=
  ⟨[.nil, .nil, .lit (.int .i64 0), .lit (.int .i64 0), .nil], [], by kernel_rfl⟩

set_option maxRecDepth 100000 in
theorem lifted (os : Os) (started : os.Started) (H : Type) (enc : TypeId × Value → H) (F : Stop.Interp) :
    ReturnsInHanded {} Tryz.checked os 4 .any ((OpenSpec.ofChange Rows.shelfBackSpec).preRow enc Tryz.prog Tryz.f4 Rows.shelfBackRow.domain false Rows.shelfBackRow.laid) (((OpenSpec.ofChange Rows.shelfBackSpec).at F).post enc Tryz.prog Tryz.f4 false true false false) := by
  obtain ⟨d, places, hx⟩ := reads os enc
  refine returnsInHanded_of_row (C := Tryz.checked) (s := OpenSpec.ofChange Rows.shelfBackSpec) own started (by kernel_rfl) Tryz.func4
    (witness_row_at (enc := enc) (C := Tryz.checked) false ({ World.holding Tryz.prog os ⟨#[.cells #[.string synS] 285, .cells #[.string rngS] 285], #[], []⟩ with heap := (((((World.holding Tryz.prog os ⟨#[.cells #[.string synS] 285, .cells #[.string rngS] 285], #[], []⟩).heap.modify 1 (lay #[.iface 283 (.pointer (some ⟨10, 0, none⟩))])).modify 2 (lay #[.iface 283 (.pointer (some ⟨11, 0, none⟩))])).modify 0 (lay tab10)).modify 3 (lay tab32)).modify 4 (lay tab64) } : World) #[.slice none 0 0, .slice none 0 0, .int .i64 0, .int .i64 0, .slice none 0 0] rfl (by kernel_rfl) (by kernel_rfl) (by kernel_rfl)
      (OpenSpec.preRow_of_cond 8 hx (by kernel_rfl) (fun k hk => by cases hk) (by kernel_rfl) (laid_met os _))) ?_
  intro W base args ds gs before hval hW _ _ _ hL _ _
  exact contract H enc W base args ds gs before hval hW hL

theorem said : Rows.ShelfBackSaid :=
  OpenClaim.holds_of_cond 4 Tryz.f4 rfl rfl rfl rfl rfl rfl rfl ⟨rfl, rfl, rfl, rfl, rfl⟩ rfl rfl rfl rfl rfl (by kernel_rfl) Tryz.func4 closed
    (of_decide_eq_true (by kernel_rfl)) (by unfold Func.isWrapper; first | (rw [if_pos (by decide +kernel)]; kernel_rfl) | (rw [if_neg (by decide +kernel)]; exact ⟨rfl, rfl⟩))
    (fun os started H enc _ F => by rw [OpenClaim.pre_eq_preRow]; exact lifted os started H enc F)

theorem plain (f : FuncId) (fn : Func) (hf : Tryz.pinned.checked.prog.funcNamed Rows.shelfBackRow.func = some f) (hfn : Tryz.pinned.checked.prog.funcs[f]? = some fn) :
    true = Tryz.pinned.checked.prog.looks [] ∧ ∀ (j : Nat) t, fn.params[j]? = some t → Tryz.pinned.checked.prog.wantsStandIn t = false := by
  obtain rfl : f = 4 := Option.some.inj ((show Tryz.prog.funcNamed Rows.shelfBackRow.func = some 4 by kernel_rfl).symm.trans hf) |>.symm
  obtain rfl : fn = Tryz.f4 := (Option.some.inj (Tryz.func4.symm.trans hfn)).symm
  refine ⟨by kernel_rfl, fun j t ht => ?_⟩
  rw [Tryz.params4] at ht
  have hm : t ∈ [35, 35, 3, 3, 23] := by simpa using Array.mem_of_getElem? ht
  have hall : ([35, 35, 3, 3, 23].all fun u => !Tryz.prog.wantsStandIn u) = true := by kernel_rfl
  exact (show Tryz.prog.wantsStandIn t = false by simpa using List.all_eq_true.1 hall t hm)

end Go.Proofs.YtaaioaocjfpajaaGreatDoor.shelfBack
namespace Go.Proofs.YtaaioaocjfpajaaGreatDoor
theorem shelfBack_holds : Rows.ShelfBackCardSaid :=
  Claim7.holds_tied_plain_at .later [] _ _ _ _ shelfBack.said (fun _ h => by cases h) (by kernel_rfl) (fun _ h => by cases h) shelfBack_row_tie rfl ⟨rfl, rfl⟩ (by kernel_rfl) rfl shelfBack.plain (by kernel_rfl)
#print axioms shelfBack_holds
end Go.Proofs.YtaaioaocjfpajaaGreatDoor
