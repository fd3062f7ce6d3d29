/-
  It is proved that IndexSafe returns true for every input, and leaves each argument as it read, the five listed variables of strconv and math/bits being laid as the program's text lays them: the card 'Rows.IndexSafeCardSaid', under no condition of its own.
-/
import Derived.Test.YthmimipoooemjaaGreatDoorB18
import Derived.WalkKit
import Derived.ProofKit
import Derived.OpenShut
import Derived.ShutString
import Derived.ChangeOld
import Derived.Below
namespace Go.Proofs.YthmimipoooemjaaGreatDoor.indexSafe
open Go.ChangeShapes Go.WideShapes Go.ChangeAt Go.RowKit

theorem walk (W : World) (a0 a1 a4 : Option Addr) (n0 n1 n4 c0 c1 c4 : Nat) (l m : List Sg.Ent) (k z : Int) (hk : k ≤ 9223372036854775807) (e0 : l.length = n0) (e1 : m.length = n1)
    (hl : Sg.EV (fun g => g < W.heap.size) W (.slice a0 n0 c0) l) (hm : Sg.EV (fun g => g < W.heap.size) W (.slice a1 n1 c1) m) (hc : Sim.InR .i64 W a4 n4 c4) :
    Calls Tryz.prog 6 #[.slice a0 n0 c0, .slice a1 n1 c1, .int .i64 k, .int .i64 z, .slice a4 n4 c4] W fun e W' => e = .returned (.bool true) ∧ Below W.heap.size W W' := by
  have fin : ∀ {e : Ending} {W' : World}, (e = .returned (.bool true) ∧ Sim.Kp Sim.No W W') → e = .returned (.bool true) ∧ Below W.heap.size W W' := fun h => ⟨h.1, h.2.toBelow'⟩
  by_cases h0 : (30 : Int) < (n0 : Int)
  · exact (Ix.safe_dark W a0 a1 a4 n0 n1 n4 c0 c1 c4 k z (.inl h0)).mono fun _ _ h => fin h
  by_cases h1 : (30 : Int) < (n1 : Int)
  · exact (Ix.safe_dark W a0 a1 a4 n0 n1 n4 c0 c1 c4 k z (.inr (.inl ⟨h0, h1⟩))).mono fun _ _ h => fin h
  by_cases h2 : k < 0
  · exact (Ix.safe_dark W a0 a1 a4 n0 n1 n4 c0 c1 c4 k z (.inr (.inr (.inl ⟨h0, h1, h2⟩)))).mono fun _ _ h => fin h
  by_cases h3 : (60 : Int) < (n4 : Int)
  · exact (Ix.safe_dark W a0 a1 a4 n0 n1 n4 c0 c1 c4 k z (.inr (.inr (.inr ⟨h0, h1, h2, h3⟩)))).mono fun _ _ h => fin h
  obtain ⟨cuts, _, hin⟩ := hc.ints (by omega)
  exact (Ix.safe_light W a0 a1 a4 c0 c1 c4 n0 n1 n4 l m cuts k z (by omega) hk e0 e1 hl hm hin (by omega) (by omega) (by omega)).mono fun _ _ h => fin h

set_option maxRecDepth 100000 in
theorem contract (H : Type) (enc : TypeId × Value → H) (W : World) (base : Nat) (args : Array Value) (ds gs : List (DataW H)) (before : List MemPlace)
    (hval : ∀ (j : Nat) t v, Tryz.f6.params[j]? = some t → args[j]? = some v → Value.okWide Tryz.prog W .any base t v)
    (hW : DataW.Whole enc Tryz.prog Tryz.f6.params.toList Rows.indexSafeSpec.vars false W args.toList ds gs before) (_ : laidMetH Tryz.prog laidFive W) :
    Calls Tryz.prog 6 args W fun e W' => ∃ v, e = .returned v ∧ Rows.indexSafeSpec.post enc Tryz.prog Tryz.f6 false true false false W args v W' := by
  have hW' := hW
  obtain ⟨p, q, hA0, hV, rfl, hfz, hnd⟩ := hW
  have hA : DataW.TrodAll enc Tryz.prog W 0 (fun _ => true) true Tryz.f6.params.toList args.toList ds p := hA0
  rw [Tryz.params6] at hA hval
  obtain ⟨v0, vs0, d0, ds0, p0, q0, hargs, rfl, rfl, h0, r0⟩ := trodAll_cons hA
  obtain ⟨v1, vs1, d1, ds1, p1, q1, rfl, rfl, rfl, h1, r1⟩ := trodAll_cons r0
  obtain ⟨v2, vs2, d2, ds2, p2, q2, rfl, rfl, rfl, h2, r2⟩ := trodAll_cons r1
  obtain ⟨v3, vs3, d3, ds3, p3, q3, rfl, rfl, rfl, h3, r3⟩ := trodAll_cons r2
  obtain ⟨v4, vs4, d4, ds4, p4, q4, rfl, rfl, rfl, h4, r4⟩ := trodAll_cons r3
  obtain ⟨rfl, rfl, rfl⟩ := trodAll_nil r4
  obtain rfl : args = #[v0, v1, v2, v3, v4] := by cases args; simp_all
  obtain ⟨rfl, rfl⟩ := trodVars_none hV
  obtain ⟨a0, len0, cap0, rfl⟩ := okWide_slice Tryz.underlying77 (hval 0 77 v0 rfl rfl)
  have k0 := h0
  have lt0 : ∀ x ∈ p0, x.block < W.heap.size := by obtain ⟨m, hm⟩ := k0; exact DataW.trod_lt m _ _ _ hm
  obtain ⟨l0, hl0, w0⟩ : ∃ d : List Sg.Ent, d.length = len0 ∧ Sg.EV (fun g => g < W.heap.size) W (.slice a0 len0 cap0) d := by
    obtain ⟨fuel, hf⟩ := h0
    exact Sg.ents_of hf
  obtain ⟨a1, len1, cap1, rfl⟩ := okWide_slice Tryz.underlying77 (hval 1 77 v1 rfl rfl)
  have k1 := h1
  have lt1 : ∀ x ∈ p1, x.block < W.heap.size := by obtain ⟨m, hm⟩ := k1; exact DataW.trod_lt m _ _ _ hm
  obtain ⟨l1, hl1, w1⟩ : ∃ d : List Sg.Ent, d.length = len1 ∧ Sg.EV (fun g => g < W.heap.size) W (.slice a1 len1 cap1) d := by
    obtain ⟨fuel, hf⟩ := h1
    exact Sg.ents_of hf
  obtain ⟨a2, rfl, rfl, rfl, w2⟩ := open_int Tryz.underlying3 (hval 2 3 v2 rfl rfl) h2
  obtain ⟨a3, rfl, rfl, rfl, w3⟩ := open_int Tryz.underlying3 (hval 3 3 v3 rfl rfl) h3
  obtain ⟨a4, len4, cap4, rfl⟩ := okWide_slice Tryz.underlying23 (hval 4 23 v4 rfl rfl)
  have b2 := i64_wf w2
  have k4 := h4
  have lt4 : ∀ x ∈ p4, x.block < W.heap.size := by obtain ⟨m, hm⟩ := k4; exact DataW.trod_lt m _ _ _ hm
  have w4 : Sim.InR .i64 W a4 len4 cap4 := by
    obtain ⟨fuel, hf⟩ := h4
    obtain ⟨a, l, c, e, hin⟩ := Sim.in_of Tryz.underlying23 Tryz.underlying3 (by kernel_rfl) hf
    simp only [Value.cells, List.cons.injEq, Value.slice.injEq, and_true] at e
    obtain ⟨rfl, rfl, rfl⟩ := e
    exact hin
  clear hA0
  refine (walk W a0 a1 a4 len0 len1 len4 cap0 cap1 cap4 l0 l1 a2 a3 (by omega) hl0 hl1 w0 w1 w4).mono fun e W' ⟨he, bel⟩ => ?_
  subst he
  exact ⟨_, rfl, _, _, _, [], _, [], hW', trodAll_mk1 (shut_bool Tryz.underlying4 _), (trodAll_cons_mk (Below.trod laidOut (by kernel_rfl) (of_decide_eq_true (by kernel_rfl)) k0 bel lt0) (trodAll_cons_mk (Below.trod laidOut (by kernel_rfl) (of_decide_eq_true (by kernel_rfl)) k1 bel lt1) (trodAll_cons_mk (shut_int Tryz.underlying3 w2) (trodAll_cons_mk (shut_int Tryz.underlying3 w3) (trodAll_cons_mk (Below.trod laidOut (by kernel_rfl) (of_decide_eq_true (by kernel_rfl)) k4 bel lt4) trodAll_mk0))))), rfl, bel.frame _, fun h => by cases h⟩

theorem reads (os : Os) {H : Type} (enc : TypeId × Value → H) : ∃ d places, DataW.whole enc Tryz.prog (({ World.holding Tryz.prog os ⟨#[.cells #[.string synS] 358, .cells #[.string rngS] 358], #[], []⟩ with heap := (((((World.holding Tryz.prog os ⟨#[.cells #[.string synS] 358, .cells #[.string rngS] 358], #[], []⟩).heap.modify 1 (lay #[.iface 356 (.pointer (some ⟨11, 0, none⟩))])).modify 2 (lay #[.iface 356 (.pointer (some ⟨12, 0, none⟩))])).modify 0 (lay tab10)).modify 4 (lay tab32)).modify 5 (lay tab64) } : World).forCall (fun _ _ => 0) ⟨#[], #[Value.slice none 0 0, Value.slice none 0 0, Value.int IntKind.i64 0, Value.int IntKind.i64 0, Value.slice none 0 0], []⟩).memory Tryz.f6.params.toList Rows.indexSafeSpec.vars false (#[Value.slice none 0 0, Value.slice none 0 0, Value.int IntKind.i64 0, Value.int IntKind.i64 0, Value.slice none 0 0] : Array Value).toList 8 = some (d, [], places) :=
  ⟨[.nil, .nil, .lit (.int .i64 0), .lit (.int .i64 0), .nil], [], by kernel_rfl⟩

set_option maxRecDepth 100000 in
theorem lifted (os : Os) (started : os.Started) (H : Type) (enc : TypeId × Value → H) (F : Stop.Interp) :
    ReturnsInHanded {} Tryz.checked os 6 .any ((OpenSpec.ofChange Rows.indexSafeSpec).preRow enc Tryz.prog Tryz.f6 Rows.indexSafeRow.domain false Rows.indexSafeRow.laid) (((OpenSpec.ofChange Rows.indexSafeSpec).at F).post enc Tryz.prog Tryz.f6 false true false false) := by
  obtain ⟨d, places, hx⟩ := reads os enc
  refine returnsInHanded_of_row (C := Tryz.checked) (s := OpenSpec.ofChange Rows.indexSafeSpec) own started (by kernel_rfl) Tryz.func6
    (witness_row_at (enc := enc) (C := Tryz.checked) false ({ World.holding Tryz.prog os ⟨#[.cells #[.string synS] 358, .cells #[.string rngS] 358], #[], []⟩ with heap := (((((World.holding Tryz.prog os ⟨#[.cells #[.string synS] 358, .cells #[.string rngS] 358], #[], []⟩).heap.modify 1 (lay #[.iface 356 (.pointer (some ⟨11, 0, none⟩))])).modify 2 (lay #[.iface 356 (.pointer (some ⟨12, 0, none⟩))])).modify 0 (lay tab10)).modify 4 (lay tab32)).modify 5 (lay tab64) } : World) #[Value.slice none 0 0, Value.slice none 0 0, Value.int IntKind.i64 0, Value.int IntKind.i64 0, Value.slice none 0 0] rfl (by kernel_rfl) (by kernel_rfl) (by kernel_rfl)
      (OpenSpec.preRow_of_cond 8 hx (by kernel_rfl) (fun k hk => by cases hk) (by kernel_rfl) (laid_met os _))) ?_
  intro W base args ds gs before hval hW _ _ _ hL _ _
  exact contract H enc W base args ds gs before hval hW hL

theorem said : Rows.IndexSafeSaid :=
  OpenClaim.holds_of_cond 6 Tryz.f6 rfl rfl rfl rfl rfl rfl rfl ⟨rfl, rfl, rfl, rfl, rfl⟩ rfl rfl rfl rfl rfl (by kernel_rfl) Tryz.func6 closed
    (of_decide_eq_true (by kernel_rfl)) (by unfold Func.isWrapper; first | (rw [if_pos (by decide +kernel)]; kernel_rfl) | (rw [if_neg (by decide +kernel)]; exact ⟨rfl, rfl⟩))
    (fun os started H enc _ F => by rw [OpenClaim.pre_eq_preRow]; exact lifted os started H enc F)

theorem plain (f : FuncId) (fn : Func) (hf : Tryz.pinned.checked.prog.funcNamed Rows.indexSafeRow.func = some f) (hfn : Tryz.pinned.checked.prog.funcs[f]? = some fn) :
    true = Tryz.pinned.checked.prog.looks [] ∧ ∀ (j : Nat) t, fn.params[j]? = some t → Tryz.pinned.checked.prog.wantsStandIn t = false := by
  obtain rfl : f = 6 := Option.some.inj ((show Tryz.prog.funcNamed Rows.indexSafeRow.func = some 6 by kernel_rfl).symm.trans hf) |>.symm
  obtain rfl : fn = Tryz.f6 := (Option.some.inj (Tryz.func6.symm.trans hfn)).symm
  refine ⟨by kernel_rfl, fun j t ht => ?_⟩
  rw [Tryz.params6] at ht
  have hm : t ∈ [77, 77, 3, 3, 23] := by simpa using Array.mem_of_getElem? ht
  have hall : ([77, 77, 3, 3, 23].all fun u => !Tryz.prog.wantsStandIn u) = true := by kernel_rfl
  exact (show Tryz.prog.wantsStandIn t = false by simpa using List.all_eq_true.1 hall t hm)

end Go.Proofs.YthmimipoooemjaaGreatDoor.indexSafe
namespace Go.Proofs.YthmimipoooemjaaGreatDoor
theorem safe_holds : Rows.IndexSafeCardSaid :=
  Claim7.holds_tied_plain_at .later [] _ _ _ _ indexSafe.said (fun _ h => by cases h) (by kernel_rfl) (fun _ h => by cases h) indexSafe_row_tie rfl ⟨rfl, rfl⟩ (by kernel_rfl) rfl indexSafe.plain (by kernel_rfl)
#print axioms safe_holds
end Go.Proofs.YthmimipoooemjaaGreatDoor
