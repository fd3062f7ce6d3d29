/-
  ShaParts at each input; bools that came in.
-/
import Derived.Test.YtbmdnjmdehmahaaParts
import Derived.Test.YtbmdnjmdehmahaaSumsB
import Derived.Deep.Grids
namespace Go.Proofs.Ytbmdnjmdehmahaa
open Go.RowKit

theorem bools_of {H : Type} {enc : TypeId × Value → H} {W : World} {a0 : Option Addr} {len cap fuel : Nat} {x : DataW H × List MemPlace}
    (h : DataW.trod enc Try.prog W 0 (fun _ => true) true fuel 33 [.slice a0 len cap] = some x) : ∃ Q, BoolsB W a0 len Q := by
  rcases Go.Deep.open_bools Try.underlying33 Try.underlying4 (by kernel_rfl) h with ⟨hcs, _⟩ | ⟨a, l, c, Q, hcs, _, hl, hm, _, hr⟩
  · simp only [List.cons.injEq, Value.slice.injEq, and_true] at hcs
    obtain ⟨rfl, rfl, rfl⟩ := hcs
    exact ⟨fun _ => false, fun r hr => absurd hr (by omega)⟩
  · simp only [List.cons.injEq, Value.slice.injEq, and_true] at hcs
    obtain ⟨rfl, rfl, rfl⟩ := hcs
    refine ⟨Q, fun r hlt => ?_⟩
    have c0 := hr 0 (by omega)
    have hx0 := spot_none c0
    obtain ⟨b, o, s⟩ := a
    simp only at hx0
    subst hx0
    have hbl := World.block_lt_of_cell? W _ c0
    have h1 := hr r (by omega)
    rw [Addr.add_mid] at h1
    exact ⟨b, o, rfl, hbl, h1⟩

set_option maxHeartbeats 400000 in
theorem parts_other (a aq : Option Addr) (cap k kq capq : Nat) (w : World) (h : 20 < k) (hm : k ≤ 9223372036854775807) :
    Calls Try.prog 4 #[.slice a k cap, .slice aq kq capq] w fun e w' => e = .returned (.bool true) ∧ Below w.heap.size w w' := by
  have C7 : Hid (Calls Try.prog 7 #[] w fun e w' => e = .returned (.bool true) ∧ Hid (Below w.heap.size w w')) := alive_any w
  go_enter Try.func4, Try.ntmps4
  go_wp2_with fail
  refine C7.out.mono ?_
  rintro e w2 ⟨rfl, HB⟩
  go_wp2_with fail
  go_ret
  exact ⟨rfl, HB.out⟩
end Go.Proofs.Ytbmdnjmdehmahaa
