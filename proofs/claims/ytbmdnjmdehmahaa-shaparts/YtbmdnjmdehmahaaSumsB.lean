/-
  ShaSums at each input; what a block makes, out of its walk.
-/
import Derived.Test.YtbmdnjmdehmahaaSums
import Derived.Test.YtbmdnjmdehmahaaRBlock
import Derived.Test.YtbmdnjmdehmahaaRow2
namespace Go.Proofs.Ytbmdnjmdehmahaa
open Go.RowKit

theorem words64_length : words64.length = 64 := by decide
theorem block_says : BlockSays := fun hs bs gh oh ch gk ok ck gb obb cb w h1 h2 h3 h4 h5 h6 h7 h8 h9 h10 =>
  block_any hs words64 bs gh oh ch gk ok ck gb obb cb w h1 h2 words64_length words64_words h3 h4 h5 h6 h7 h8 h9 h10

set_option maxHeartbeats 400000 in
theorem sums_other (a : Option Addr) (cap k : Nat) (w : World) (h : 20 < k) (hm : k ≤ 9223372036854775807) :
    Calls Try.prog 3 #[.slice a k cap] w fun e w' => e = .returned (.bool true) ∧ Below w.heap.size w w' := by
  have C7 : Hid (Calls Try.prog 7 #[] w fun e w' => e = .returned (.bool true) ∧ Hid (Below w.heap.size w w')) := alive_any w
  go_enter Try.func3, Try.ntmps3
  go_wp2_with fail
  refine C7.out.mono ?_
  rintro e w2 ⟨rfl, HB⟩
  go_wp2_with fail
  go_ret
  exact ⟨rfl, HB.out⟩
end Go.Proofs.Ytbmdnjmdehmahaa
