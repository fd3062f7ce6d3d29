/-
  It is proved that IndexNils returns true for every input, and leaves each argument as it read, the five listed variables of strconv and math/bits being laid as the program's text lays them: the card 'Rows.IndexNilsCardSaid', under no condition of its own.
-/
import Derived.Test.YthmimipoooemjaaGreatDoorB16
import Derived.WalkKit
import Derived.ProofKit
import Derived.OpenShut
import Derived.ShutString
import Derived.ChangeOld
import Derived.Below
namespace Go.Proofs.YthmimipoooemjaaGreatDoor.indexNils
open Go.ChangeShapes Go.WideShapes Go.ChangeAt Go.RowKit

set_option maxRecDepth 100000 in
theorem contract (H : Type) (enc : TypeId × Value → H) (W : World) (base : Nat) (args : Array Value) (ds gs : List (DataW H)) (before : List MemPlace)
    (hval : ∀ (j : Nat) t v, Tryz.f8.params[j]? = some t → args[j]? = some v → Value.okWide Tryz.prog W .any base t v)
    (hW : DataW.Whole enc Tryz.prog Tryz.f8.params.toList Rows.indexNilsSpec.vars false W args.toList ds gs before) (_ : laidMetH Tryz.prog laidFive W) :
    Calls Tryz.prog 8 args W fun e W' => ∃ v, e = .returned v ∧ Rows.indexNilsSpec.post enc Tryz.prog Tryz.f8 false true false false W args v W' := by
  have hW' := hW
  obtain ⟨p, q, hA0, hV, rfl, hfz, hnd⟩ := hW
  have hA : DataW.TrodAll enc Tryz.prog W 0 (fun _ => true) true Tryz.f8.params.toList args.toList ds p := hA0
  rw [Tryz.params8] at hA hval
  obtain ⟨v0, vs0, d0, ds0, p0, q0, hargs, rfl, rfl, h0, r0⟩ := trodAll_cons hA
  obtain ⟨rfl, rfl, rfl⟩ := trodAll_nil r0
  obtain rfl : args = #[v0] := by cases args; simp_all
  obtain ⟨rfl, rfl⟩ := trodVars_none hV
  have k0 := h0
  have lt0 : ∀ x ∈ p0, x.block < W.heap.size := by obtain ⟨m, hm⟩ := k0; exact DataW.trod_lt m _ _ _ hm
  obtain ⟨nm, rfl, hn, _⟩ := IxH.open_hash (hval 0 53 v0 rfl rfl) h0
  clear hA0
  refine ((Ix.nils_main W (Sg.b8 nm) (by rw [Sg.b8_length, hn])).mono fun e W' h => (⟨h.1, h.2.toBelow'⟩ : e = .returned (.bool true) ∧ Below W.heap.size W W')).mono fun e W' ⟨he, bel⟩ => ?_
  subst he
  exact ⟨_, rfl, _, _, _, [], _, [], hW', trodAll_mk1 (shut_bool Tryz.underlying4 _), (trodAll_cons_mk (Below.trod laidOut (by kernel_rfl) (of_decide_eq_true (by kernel_rfl)) k0 bel lt0) trodAll_mk0), rfl, bel.frame _, fun h => by cases h⟩

theorem reads (os : Os) {H : Type} (enc : TypeId × Value → H) : ∃ d places, DataW.whole enc Tryz.prog (({ World.holding Tryz.prog os ⟨#[.cells #[.string synS] 358, .cells #[.string rngS] 358], #[], []⟩ with heap := (((((World.holding Tryz.prog os ⟨#[.cells #[.string synS] 358, .cells #[.string rngS] 358], #[], []⟩).heap.modify 1 (lay #[.iface 356 (.pointer (some ⟨11, 0, none⟩))])).modify 2 (lay #[.iface 356 (.pointer (some ⟨12, 0, none⟩))])).modify 0 (lay tab10)).modify 4 (lay tab32)).modify 5 (lay tab64) } : World).forCall (fun _ _ => 0) ⟨#[], #[Value.agg (List.replicate 32 (Value.int IntKind.u8 0)).toArray], []⟩).memory Tryz.f8.params.toList Rows.indexNilsSpec.vars false (#[Value.agg (List.replicate 32 (Value.int IntKind.u8 0)).toArray] : Array Value).toList 8 = some (d, [], places) :=
  ⟨[.agg (List.replicate 32 (.lit (.int .u8 0)))], [], by kernel_rfl⟩

set_option maxRecDepth 100000 in
theorem lifted (os : Os) (started : os.Started) (H : Type) (enc : TypeId × Value → H) (F : Stop.Interp) :
    ReturnsInHanded {} Tryz.checked os 8 .any ((OpenSpec.ofChange Rows.indexNilsSpec).preRow enc Tryz.prog Tryz.f8 Rows.indexNilsRow.domain false Rows.indexNilsRow.laid) (((OpenSpec.ofChange Rows.indexNilsSpec).at F).post enc Tryz.prog Tryz.f8 false true false false) := by
  obtain ⟨d, places, hx⟩ := reads os enc
  refine returnsInHanded_of_row (C := Tryz.checked) (s := OpenSpec.ofChange Rows.indexNilsSpec) own started (by kernel_rfl) Tryz.func8
    (witness_row_at (enc := enc) (C := Tryz.checked) false ({ World.holding Tryz.prog os ⟨#[.cells #[.string synS] 358, .cells #[.string rngS] 358], #[], []⟩ with heap := (((((World.holding Tryz.prog os ⟨#[.cells #[.string synS] 358, .cells #[.string rngS] 358], #[], []⟩).heap.modify 1 (lay #[.iface 356 (.pointer (some ⟨11, 0, none⟩))])).modify 2 (lay #[.iface 356 (.pointer (some ⟨12, 0, none⟩))])).modify 0 (lay tab10)).modify 4 (lay tab32)).modify 5 (lay tab64) } : World) #[Value.agg (List.replicate 32 (Value.int IntKind.u8 0)).toArray] rfl (by kernel_rfl) (by kernel_rfl) (by kernel_rfl)
      (OpenSpec.preRow_of_cond 8 hx (by kernel_rfl) (fun k hk => by cases hk) (by kernel_rfl) (laid_met os _))) ?_
  intro W base args ds gs before hval hW _ _ _ hL _ _
  exact contract H enc W base args ds gs before hval hW hL

theorem said : Rows.IndexNilsSaid :=
  OpenClaim.holds_of_cond 8 Tryz.f8 rfl rfl rfl rfl rfl rfl rfl ⟨rfl, rfl, rfl, rfl, rfl⟩ rfl rfl rfl rfl rfl (by kernel_rfl) Tryz.func8 closed
    (of_decide_eq_true (by kernel_rfl)) (by unfold Func.isWrapper; first | (rw [if_pos (by decide +kernel)]; kernel_rfl) | (rw [if_neg (by decide +kernel)]; exact ⟨rfl, rfl⟩))
    (fun os started H enc _ F => by rw [OpenClaim.pre_eq_preRow]; exact lifted os started H enc F)

theorem plain (f : FuncId) (fn : Func) (hf : Tryz.pinned.checked.prog.funcNamed Rows.indexNilsRow.func = some f) (hfn : Tryz.pinned.checked.prog.funcs[f]? = some fn) :
    true = Tryz.pinned.checked.prog.looks [] ∧ ∀ (j : Nat) t, fn.params[j]? = some t → Tryz.pinned.checked.prog.wantsStandIn t = false := by
  obtain rfl : f = 8 := Option.some.inj ((show Tryz.prog.funcNamed Rows.indexNilsRow.func = some 8 by kernel_rfl).symm.trans hf) |>.symm
  obtain rfl : fn = Tryz.f8 := (Option.some.inj (Tryz.func8.symm.trans hfn)).symm
  refine ⟨by kernel_rfl, fun j t ht => ?_⟩
  rw [Tryz.params8] at ht
  have hm : t ∈ [53] := by simpa using Array.mem_of_getElem? ht
  have hall : ([53].all fun u => !Tryz.prog.wantsStandIn u) = true := by kernel_rfl
  exact (show Tryz.prog.wantsStandIn t = false by simpa using List.all_eq_true.1 hall t hm)

end Go.Proofs.YthmimipoooemjaaGreatDoor.indexNils
namespace Go.Proofs.YthmimipoooemjaaGreatDoor
theorem nils_holds : Rows.IndexNilsCardSaid :=
  Claim7.holds_tied_plain_at .later [] _ _ _ _ indexNils.said (fun _ h => by cases h) (by kernel_rfl) (fun _ h => by cases h) indexNils_row_tie rfl ⟨rfl, rfl⟩ (by kernel_rfl) rfl indexNils.plain (by kernel_rfl)
#print axioms nils_holds
end Go.Proofs.YthmimipoooemjaaGreatDoor
