/-
  The library contracts that this program uses (strings.SplitN, LastIndexByte, CutPrefix, Compare, bytes.Equal), laid at its numbers.
-/
import Derived.Shelf.Strings.SplitCore
import Derived.Shelf.Strings.Search3
import Derived.Shelf.Strings.Count
import Derived.Shelf.Strings.LastIndex
import Derived.Shelf.Small.Wraps
import Derived.Shelf.Small.Strs
import Derived.Shelf.Bytes.SlEqualAll
import Derived.Test.YtenfahecnkdhaaaProg
namespace Go.Proofs.Ytenfahecnkdhaaa.Tr
open Go.Shelf
def Try.comp_ren : Go.Shelf.Ren := ⟨fun | 106 => 77 | 213 => 87 | 265 => 93 | n => n, fun | 9 => 9 | 3 => 3 | n => n, fun | n => n⟩
theorem Try.comp : Go.Proofs.Lays.n106 Try.prog Try.comp_ren := {
  mixed := by kernel_rfl
  f106 := Try.func77.trans (congrArg some (by kernel_rfl))
  f213 := Try.func87.trans (congrArg some (by kernel_rfl))
  f265 := Try.func93.trans (congrArg some (by kernel_rfl))
  t3 := Try.underlying3
  a3 := Try.isAgg3
  z3 := Try.sizeOf3
  v3 := Try.zeroValue3
  t9 := Try.underlying9
  a9 := Try.isAgg9
  z9 := Try.sizeOf9
  v9 := Try.zeroValue9 }
end Go.Proofs.Ytenfahecnkdhaaa.Tr
