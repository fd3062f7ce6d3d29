/-
  The closed facts of TreeLooks's row, one by one: which functions her road reaches.
-/
import Derived.Test.YtdpnahonidmohaaDoorTrLaid
import Derived.Test.YtdpnahonidmohaaDoorChecked
import Derived.WalkKit
import Derived.ProofKit
namespace Go.Proofs.YtdpnahonidmohaaDoor.treeLooks
open Go.ChangeShapes Go.WideShapes Go.ChangeAt Go.RowKit

theorem f10 : (Rows.treeLooksRow.inPlace == Tryd.prog.inPlace 3) = true := by kernel_rfl
theorem f11 : (Rows.treeLooksRow.unfollowed == Tryd.prog.unfollowed 3) = true := by kernel_rfl
theorem f12 : (Rows.treeLooksRow.recurses == Tryd.prog.recurses 3) = true := by kernel_rfl
theorem f13 : (Rows.treeLooksRow.named == Tryd.prog.varsNamed 3) = true := by kernel_rfl
theorem closed : joinedFacts Tryd.prog 3 Tryd.f3 (OpenSpec.ofChange Rows.treeLooksSpec).bare Rows.treeLooksRow = true := by
  unfold joinedFacts
  rw [f10, f11, f12, f13]
  kernel_rfl
end Go.Proofs.YtdpnahonidmohaaDoor.treeLooks
