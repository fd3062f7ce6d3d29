/-
  It is proved that ChunkerSync returns true for every input, and leaves each argument as it read, the two tables of math/bits being laid as the program's text lays them: the card 'Rows.ChunkerSyncCardSaid', under no condition of its own.
-/
import Derived.Test.YtinijgkkmfdfiaaDoorSyncB
import Derived.Test.YtinijgkkmfdfiaaDoorFrame
namespace Go.Proofs.YtinijgkkmfdfiaaDoor.chunkerSync
open Go.ChangeShapes Go.WideShapes Go.ChangeAt Go.RowKit

theorem walk (s mn av mx : Int) (a1 : Option Addr) (len1 cap1 : Nat) (a2 : Option Addr) (len2 cap2 : Nat) (a3 : Option Addr) (len3 cap3 : Nat) (w : World) (w0 : (Lit.int .u64 s).wf = true ∧ (Lit.int .i64 mn).wf = true ∧ (Lit.int .i64 av).wf = true ∧ (Lit.int .i64 mx).wf = true) (w1 : ∃ zs, IsRow .u8 w a1 len1 cap1 zs) (w2 : ∃ zs, IsRow .u8 w a2 len2 cap2 zs) (w3 : ∃ zs, IsRow .u8 w a3 len3 cap3 zs) (hT : Tab w) :
    Calls Tryd.prog 6 #[ruleV s mn av mx, .slice a1 len1 cap1, .slice a2 len2 cap2, .slice a3 len3 cap3] w fun e w' => e = .returned (.bool true) ∧ Below w.heap.size w w' := by
  have b0 := bounds_u64 w0.1
  obtain ⟨z1, w1⟩ := w1
  obtain ⟨z2, w2⟩ := w2
  obtain ⟨z3, w3⟩ := w3
  obtain ⟨s, rfl⟩ : ∃ n : Nat, s = n := ⟨s.toNat, by omega⟩
  by_cases h0 : 300 < len1 ∨ 300 < len2 ∨ 300 < len3
  · exact sync_other s mn av mx a1 a2 a3 len1 cap1 len2 cap2 len3 cap3 w h0 w1.le w2.le w3.le hT
  · cases h : rightB mn av mx with
    | false => exact sync_no s mn av mx h a1 a2 a3 len1 cap1 len2 cap2 len3 cap3 w (by omega) (by omega) (by omega) hT
    | true =>
      obtain ⟨a', k, c, rfl, rfl, rfl, _, _, _, hk⟩ := right_nat h
      obtain ⟨r1, e1⟩ := row_bytes w1 (by omega)
      obtain ⟨r2, e2⟩ := row_bytes w2 (by omega)
      obtain ⟨r3, e3⟩ := row_bytes w3 (by omega)
      exact sync_yes w s a' k c (by unfold M64; omega) hk h hT a1 len1 cap1 (byts len1 z1) (by omega) (r1.toP (fun _ hx => hx)) e1 a2 len2 cap2 (byts len2 z2) (by omega) (r2.toP (fun _ hx => hx)) e2 a3 len3 cap3 (byts len3 z3) (by omega) (r3.toP (fun _ hx => hx)) e3

set_option maxRecDepth 100000 in
theorem contract (H : Type) (enc : TypeId × Value → H) (W : World) (base : Nat) (args : Array Value) (ds gs : List (DataW H)) (before : List MemPlace)
    (hval : ∀ (j : Nat) t v, Tryd.f6.params[j]? = some t → args[j]? = some v → Value.okWide Tryd.prog W .any base t v)
    (hW : DataW.Whole enc Tryd.prog Tryd.f6.params.toList Rows.chunkerSyncSpec.vars false W args.toList ds gs before) (hL : laidMetH Tryd.prog laidTwo W) :
    Calls Tryd.prog 6 args W fun e W' => ∃ v, e = .returned v ∧ Rows.chunkerSyncSpec.post enc Tryd.prog Tryd.f6 false true false false W args v W' := by
  have hW' := hW
  obtain ⟨p, q, hA0, hV, rfl, hfz, hnd⟩ := hW
  have hA : DataW.TrodAll enc Tryd.prog W 0 (fun _ => true) true Tryd.f6.params.toList args.toList ds p := hA0
  rw [Tryd.params6] at hA hval
  obtain ⟨v0, vs0, d0, ds0, p0, q0, hargs, rfl, rfl, h0, r0⟩ := trodAll_cons hA
  obtain ⟨v1, vs1, d1, ds1, p1, q1, rfl, rfl, rfl, h1, r1⟩ := trodAll_cons r0
  obtain ⟨v2, vs2, d2, ds2, p2, q2, rfl, rfl, rfl, h2, r2⟩ := trodAll_cons r1
  obtain ⟨v3, vs3, d3, ds3, p3, q3, rfl, rfl, rfl, h3, r3⟩ := trodAll_cons r2
  obtain ⟨rfl, rfl, rfl⟩ := trodAll_nil r3
  obtain rfl : args = #[v0, v1, v2, v3] := by cases args; simp_all
  obtain ⟨rfl, rfl⟩ := trodVars_none hV
  have k0 := h0
  have lt0 : ∀ x ∈ p0, x.block < W.heap.size := by obtain ⟨m, hm⟩ := k0; exact DataW.trod_lt m _ _ _ hm
  obtain ⟨s0, mn0, av0, mx0, rfl, w0⟩ := open_rule (hval 0 24 v0 rfl rfl) h0
  have k1 := h1
  have lt1 : ∀ x ∈ p1, x.block < W.heap.size := by obtain ⟨m, hm⟩ := k1; exact DataW.trod_lt m _ _ _ hm
  obtain ⟨a1, len1, cap1, rfl⟩ := okWide_slice Tryd.underlying25 (hval 1 25 v1 rfl rfl)
  have w1 := open_row h1
  have k2 := h2
  have lt2 : ∀ x ∈ p2, x.block < W.heap.size := by obtain ⟨m, hm⟩ := k2; exact DataW.trod_lt m _ _ _ hm
  obtain ⟨a2, len2, cap2, rfl⟩ := okWide_slice Tryd.underlying25 (hval 2 25 v2 rfl rfl)
  have w2 := open_row h2
  have k3 := h3
  have lt3 : ∀ x ∈ p3, x.block < W.heap.size := by obtain ⟨m, hm⟩ := k3; exact DataW.trod_lt m _ _ _ hm
  obtain ⟨a3, len3, cap3, rfl⟩ := okWide_slice Tryd.underlying25 (hval 3 25 v3 rfl rfl)
  have w3 := open_row h3
  clear hA0
  refine (walk s0 mn0 av0 mx0 a1 len1 cap1 a2 len2 cap2 a3 len3 cap3 W w0 w1 w2 w3 (tab_of_laid hL)).mono fun e W' ⟨he, bel⟩ => ?_
  subst he
  exact ⟨_, rfl, _, _, _, [], _, [], hW', trodAll_mk1 (shut_bool Tryd.underlying4 _), (trodAll_cons_mk (Below.trod laidOut (by kernel_rfl) (of_decide_eq_true (by kernel_rfl)) k0 bel lt0) (trodAll_cons_mk (Below.trod laidOut (by kernel_rfl) (of_decide_eq_true (by kernel_rfl)) k1 bel lt1) (trodAll_cons_mk (Below.trod laidOut (by kernel_rfl) (of_decide_eq_true (by kernel_rfl)) k2 bel lt2) (trodAll_cons_mk (Below.trod laidOut (by kernel_rfl) (of_decide_eq_true (by kernel_rfl)) k3 bel lt3) trodAll_mk0)))), rfl, bel.frame _, fun h => by cases h⟩

theorem reads (os : Os) {H : Type} (enc : TypeId × Value → H) : ∃ places, DataW.whole enc Tryd.prog ((({ World.holding Tryd.prog os ⟨#[], #[], []⟩ with heap := ((World.holding Tryd.prog os ⟨#[], #[], []⟩).heap.modify 1 (lay tab32)).modify 2 (lay tab64) } : World)).forCall (fun _ _ => 0) ⟨#[], #[ruleV 0 0 0 0, .slice none 0 0, .slice none 0 0, .slice none 0 0], []⟩).memory Tryd.f6.params.toList Rows.chunkerSyncSpec.vars false (#[ruleV 0 0 0 0, .slice none 0 0, .slice none 0 0, .slice none 0 0] : Array Value).toList 8 = some ([.agg [.lit (.int .u64 0), .lit (.int .i64 0), .lit (.int .i64 0), .lit (.int .i64 0)], .nil, .nil, .nil], [], places) :=
  ⟨[], by kernel_rfl⟩

set_option maxRecDepth 100000 in
theorem lifted (os : Os) (started : os.Started) (H : Type) (enc : TypeId × Value → H) (F : Stop.Interp) :
    ReturnsInHanded {} Tryd.checked os 6 .any ((OpenSpec.ofChange Rows.chunkerSyncSpec).preRow enc Tryd.prog Tryd.f6 Rows.chunkerSyncRow.domain false Rows.chunkerSyncRow.laid) (((OpenSpec.ofChange Rows.chunkerSyncSpec).at F).post enc Tryd.prog Tryd.f6 false true false false) := by
  obtain ⟨places, hx⟩ := reads os enc
  refine returnsInHanded_of_row (C := Tryd.checked) (s := OpenSpec.ofChange Rows.chunkerSyncSpec) own started (by kernel_rfl) Tryd.func6
    (witness_row_at (enc := enc) (C := Tryd.checked) false ({ World.holding Tryd.prog os ⟨#[], #[], []⟩ with heap := ((World.holding Tryd.prog os ⟨#[], #[], []⟩).heap.modify 1 (lay tab32)).modify 2 (lay tab64) } : World) #[ruleV 0 0 0 0, .slice none 0 0, .slice none 0 0, .slice none 0 0] rfl (by kernel_rfl) (by kernel_rfl) (by kernel_rfl)
      (OpenSpec.preRow_of_cond 8 hx (by kernel_rfl) (fun k hk => by cases hk) (by kernel_rfl) (laid_met os _))) ?_
  intro W base args ds gs before hval hW _ _ _ hL _ _
  exact contract H enc W base args ds gs before hval hW hL

theorem said : Rows.ChunkerSyncSaid :=
  OpenClaim.holds_of_cond 6 Tryd.f6 rfl rfl rfl rfl rfl rfl rfl ⟨rfl, rfl, rfl, rfl, rfl⟩ rfl rfl rfl rfl rfl (by kernel_rfl) Tryd.func6 (by kernel_rfl)
    (of_decide_eq_true (by kernel_rfl)) (by unfold Func.isWrapper; first | (rw [if_pos (by decide +kernel)]; kernel_rfl) | (rw [if_neg (by decide +kernel)]; exact ⟨rfl, rfl⟩))
    (fun os started H enc _ F => by rw [OpenClaim.pre_eq_preRow]; exact lifted os started H enc F)

theorem plain (f : FuncId) (fn : Func) (hf : Tryd.pinned.checked.prog.funcNamed Rows.chunkerSyncRow.func = some f) (hfn : Tryd.pinned.checked.prog.funcs[f]? = some fn) :
    false = Tryd.pinned.checked.prog.looks [] ∧ ∀ (j : Nat) t, fn.params[j]? = some t → Tryd.pinned.checked.prog.wantsStandIn t = false := by
  obtain rfl : f = 6 := Option.some.inj ((show Tryd.prog.funcNamed Rows.chunkerSyncRow.func = some 6 by kernel_rfl).symm.trans hf) |>.symm
  obtain rfl : fn = Tryd.f6 := (Option.some.inj (Tryd.func6.symm.trans hfn)).symm
  refine ⟨by kernel_rfl, fun j t ht => ?_⟩
  rw [Tryd.params6] at ht
  have hm : t ∈ [24, 25, 25, 25] := by simpa using Array.mem_of_getElem? ht
  have hall : ([24, 25, 25, 25].all fun u => !Tryd.prog.wantsStandIn u) = true := by kernel_rfl
  exact (show Tryd.prog.wantsStandIn t = false by simpa using List.all_eq_true.1 hall t hm)

end Go.Proofs.YtinijgkkmfdfiaaDoor.chunkerSync
namespace Go.Proofs.YtinijgkkmfdfiaaDoor
theorem sync_holds : Rows.ChunkerSyncCardSaid :=
  Claim7.holds_tied_plain_at .later [] _ _ _ _ chunkerSync.said (fun _ h => by cases h) (by kernel_rfl) (fun _ h => by cases h) chunkerSync_row_tie rfl ⟨rfl, rfl⟩ (by kernel_rfl) rfl chunkerSync.plain (by kernel_rfl)
#print axioms sync_holds
end Go.Proofs.YtinijgkkmfdfiaaDoor
