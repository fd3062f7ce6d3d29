/-
  The reference's List, and Append.
-/
import Derived.Test.YtcfebhgmbfaahaaSimRCmp
namespace Go.Proofs.Ytcfebhgmbfaahaa.Sim
open Go.RowKit Go.Maps

theorem Try.infoStr : (Try.prog.info? 9).map (fun i => (i.zero, i.size, i.bytes)) = some (some (.string ⟨#[]⟩), 1, 16) := by kernel_rfl


end Go.Proofs.Ytcfebhgmbfaahaa.Sim
