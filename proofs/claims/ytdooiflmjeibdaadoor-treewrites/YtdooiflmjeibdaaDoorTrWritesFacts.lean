/-
  The closed facts of TreeWrites's row, one by one: which functions her road reaches.
-/
import Derived.Test.YtdooiflmjeibdaaDoorTrLaid
import Derived.Test.YtdooiflmjeibdaaDoorChecked
import Derived.WalkKit
import Derived.ProofKit
namespace Go.Proofs.YtdooiflmjeibdaaDoor.treeWrites
open Go.ChangeShapes Go.WideShapes Go.ChangeAt Go.RowKit

theorem f10 : (Rows.treeWritesRow.inPlace == Tryd.prog.inPlace 3) = true := by kernel_rfl
theorem f11 : (Rows.treeWritesRow.unfollowed == Tryd.prog.unfollowed 3) = true := by kernel_rfl
theorem f12 : (Rows.treeWritesRow.recurses == Tryd.prog.recurses 3) = true := by kernel_rfl
theorem f13 : (Rows.treeWritesRow.named == Tryd.prog.varsNamed 3) = true := by kernel_rfl
theorem closed : joinedFacts Tryd.prog 3 Tryd.f3 (OpenSpec.ofChange Rows.treeWritesSpec).bare Rows.treeWritesRow = true := by
  unfold joinedFacts
  rw [f10, f11, f12, f13]
  kernel_rfl
end Go.Proofs.YtdooiflmjeibdaaDoor.treeWrites
