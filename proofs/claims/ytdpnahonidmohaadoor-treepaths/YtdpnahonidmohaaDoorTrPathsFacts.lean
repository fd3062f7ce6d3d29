/-
  The closed facts of TreePaths's row, one by one: which functions her road reaches.
-/
import Derived.Test.YtdpnahonidmohaaDoorTrLaid
import Derived.Test.YtdpnahonidmohaaDoorChecked
import Derived.WalkKit
import Derived.ProofKit
namespace Go.Proofs.YtdpnahonidmohaaDoor.treePaths
open Go.ChangeShapes Go.WideShapes Go.ChangeAt Go.RowKit

theorem f10 : (Rows.treePathsRow.inPlace == Tryd.prog.inPlace 4) = true := by kernel_rfl
theorem f11 : (Rows.treePathsRow.unfollowed == Tryd.prog.unfollowed 4) = true := by kernel_rfl
theorem f12 : (Rows.treePathsRow.recurses == Tryd.prog.recurses 4) = true := by kernel_rfl
theorem f13 : (Rows.treePathsRow.named == Tryd.prog.varsNamed 4) = true := by kernel_rfl
theorem closed : joinedFacts Tryd.prog 4 Tryd.f4 (OpenSpec.ofChange Rows.treePathsSpec).bare Rows.treePathsRow = true := by
  unfold joinedFacts
  rw [f10, f11, f12, f13]
  kernel_rfl
end Go.Proofs.YtdpnahonidmohaaDoor.treePaths
