/-
  It is proved that PackWhole returns true for every input, and leaves each argument as it read, the five listed variables of strconv and math/bits being laid as the program's text lays them: the card 'Rows.PackWholeCardSaid', under no condition of its own.
-/
import Derived.Test.YtkekajmmcjacgaaGreatDoorB18
import Derived.Test.YtkekajmmcjacgaaGreatDoorB17
import Derived.WalkKit
import Derived.ProofKit
import Derived.OpenShut
import Derived.ShutString
import Derived.ChangeOld
import Derived.Below
namespace Go.Proofs.YtkekajmmcjacgaaGreatDoor.packWhole
open Go.ChangeShapes Go.WideShapes Go.ChangeAt Go.RowKit

theorem said : Rows.PackWholeSaid :=
  OpenClaim.holds_of_cond 4 Tryz.f4 rfl rfl rfl rfl rfl rfl rfl ⟨rfl, rfl, rfl, rfl, rfl⟩ rfl rfl rfl rfl rfl (by kernel_rfl) Tryz.func4 closed
    (of_decide_eq_true (by kernel_rfl)) (by unfold Func.isWrapper; first | (rw [if_pos (by decide +kernel)]; kernel_rfl) | (rw [if_neg (by decide +kernel)]; exact ⟨rfl, rfl⟩))
    (fun os started H enc _ F => by rw [OpenClaim.pre_eq_preRow]; exact lifted os started H enc F)

theorem plain (f : FuncId) (fn : Func) (hf : Tryz.pinned.checked.prog.funcNamed Rows.packWholeRow.func = some f) (hfn : Tryz.pinned.checked.prog.funcs[f]? = some fn) :
    true = Tryz.pinned.checked.prog.looks [] ∧ ∀ (j : Nat) t, fn.params[j]? = some t → Tryz.pinned.checked.prog.wantsStandIn t = false := by
  obtain rfl : f = 4 := Option.some.inj ((show Tryz.prog.funcNamed Rows.packWholeRow.func = some 4 by kernel_rfl).symm.trans hf) |>.symm
  obtain rfl : fn = Tryz.f4 := (Option.some.inj (Tryz.func4.symm.trans hfn)).symm
  refine ⟨by kernel_rfl, fun j t ht => ?_⟩
  rw [Tryz.params4] at ht
  have hm : t ∈ [87, 3, 3, 41] := by simpa using Array.mem_of_getElem? ht
  have hall : ([87, 3, 3, 41].all fun u => !Tryz.prog.wantsStandIn u) = true := by kernel_rfl
  exact (show Tryz.prog.wantsStandIn t = false by simpa using List.all_eq_true.1 hall t hm)

end Go.Proofs.YtkekajmmcjacgaaGreatDoor.packWhole
namespace Go.Proofs.YtkekajmmcjacgaaGreatDoor
theorem whole_holds : Rows.PackWholeCardSaid :=
  Claim7.holds_tied_plain_at .later [] _ _ _ _ packWhole.said (fun _ h => by cases h) (by kernel_rfl) (fun _ h => by cases h) packWhole_row_tie rfl ⟨rfl, rfl⟩ (by kernel_rfl) rfl packWhole.plain (by kernel_rfl)
#print axioms whole_holds
end Go.Proofs.YtkekajmmcjacgaaGreatDoor
