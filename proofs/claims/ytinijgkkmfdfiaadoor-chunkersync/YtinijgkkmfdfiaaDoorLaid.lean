/-
  What the rows' list gives the walks: the table; a world that holds it.
-/
import Derived.Test.YtinijgkkmfdfiaaDoorMask
import Derived.Test.YtinijgkkmfdfiaaDoorCards
import Derived.Test.YtinijgkkmfdfiaaDoorTie
import Derived.ProofKit
import Derived.OpenShut
import Derived.Deep.DeepHandedRow
import Derived.Lib.LaidTab
import Derived.MakeChecks
namespace Go.Proofs.YtinijgkkmfdfiaaDoor
open Go.ChangeShapes Go.WideShapes Go.ChangeAt Go.RowKit

theorem own : ownKnob Tryd.prog.godebug = none := by kernel_rfl
theorem laidOut : laidOutB Tryd.prog = true := by kernel_rfl
/-- The two listed variables. -/
abbrev laidTwo : List (String × DataW Unit) := Rows.chunkerCutsRow.laid
theorem gTab : Tryd.prog.globalNamed (Rows.chunkerCutsRow.named.getD 1 Rows.chunkerCutsRow.func) = some 2 := by kernel_rfl
theorem tTab : (Tryd.prog.globals[2]?).map (·.type) = some 102 := by kernel_rfl
theorem c70 : Tryd.prog.cellsOf 102 = 64 := by kernel_rfl
theorem c5 : Tryd.prog.cellsOf 5 = 1 := by kernel_rfl
def tabZ : List Int := Lib.deBruijn64tab.map fun n : Nat => (n : Int)
theorem tab_is {H : Type} : (Rows.laid_math_bits_deBruijn64tab : DataW H) = Lib.tabData .u8 tabZ := rfl

theorem tab_of_laid {W : World} (h : laidMetH Tryd.prog laidTwo W) : Tab W := by
  rw [MakeChecks.laidMetH_plain _ _ _ (by kernel_rfl)] at h
  obtain ⟨ps, ⟨g0, t0, cs0, f0, p0, q0, hg0, ht0, hv0, hd0, ⟨g1, t1, cs1, f1, p1, q1, hg1, ht1, hv1, hd1, _, _⟩, _⟩, _, _⟩ := h
  obtain rfl := Option.some.inj (gTab.symm.trans hg1)
  obtain rfl := Option.some.inj (tTab.symm.trans ht1)
  rw [tab_is] at hd1
  have hcs := Lib.cells_of_tab Tryd.underlying102 Tryd.underlying5 c5 c70 hd1
  intro j hj
  have hc := World.var?_cell hg1 hv1 j
  rw [hc]
  have e : cs1[j]? = (cs1.toList)[j]? := by simp
  rw [e, hcs]
  have hl : j < Lib.deBruijn64tab.length := hj
  simp [tabZ, List.getElem?_eq_getElem hl]

def lay (cells : Array Value) : Obj → Obj
  | .cells _ t frozen => .cells cells t frozen
  | o => o
def tab32 : Array Value := (Lib.deBruijn32tab.map fun n : Nat => Value.int .u8 (n : Int)).toArray
def tab64 : Array Value := (Lib.deBruijn64tab.map fun n : Nat => Value.int .u8 (n : Int)).toArray
/-- A world that holds the two tables (typed out at each use: its making is no program). -/
theorem laid_met (os : Os) (args : Array Value) : laidMet Tryd.prog laidTwo ((({ World.holding Tryd.prog os ⟨#[], #[], []⟩ with heap := ((World.holding Tryd.prog os ⟨#[], #[], []⟩).heap.modify 1 (lay tab32)).modify 2 (lay tab64) } : World)).forCall (fun _ _ => 0) ⟨#[], args, []⟩).memory :=
  laidMet_of_run' 8 (by kernel_rfl) (by kernel_rfl)

end Go.Proofs.YtinijgkkmfdfiaaDoor
