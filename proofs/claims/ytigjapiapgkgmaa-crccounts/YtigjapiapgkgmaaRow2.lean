/-
  A slice of slices of bytes that came in, as the walks want it.
-/
import Derived.Test.YtigjapiapgkgmaaParts
import Derived.Test.YtigjapiapgkgmaaRow
import Derived.Deep.Matrix
namespace Go.Proofs.Ytigjapiapgkgmaa
open Go.RowKit

theorem rows2_of {H : Type} {enc : TypeId × Value → H} {W : World} {a0 : Option Addr} {len cap fuel : Nat} {x : DataW H × List MemPlace}
    (h : DataW.trod enc Try.prog W 0 (fun _ => true) true fuel 38 [.slice a0 len cap] = some x) :
    len ≤ 9223372036854775807 ∧ ∃ A L C B, Rows2 W a0 len A L C B := by
  rcases Go.Deep.open_int_rows (k := .u8) Try.underlying38 Try.underlying23 Try.underlying5 (by kernel_rfl) (by kernel_rfl) h with ⟨hcs, _⟩ | ⟨a, l, c, A, L, C, Z, hcs, _, hl, hm, _, hr⟩
  · simp only [List.cons.injEq, Value.slice.injEq, and_true] at hcs
    obtain ⟨rfl, rfl, rfl⟩ := hcs
    exact ⟨by omega, fun _ => none, fun _ => 0, fun _ => 0, fun _ => [], fun r hr => absurd hr (by omega)⟩
  · simp only [List.cons.injEq, Value.slice.injEq, and_true] at hcs
    obtain ⟨rfl, rfl, rfl⟩ := hcs
    refine ⟨by unfold maxLen at hm; omega, A, L, C, fun r => byts (L r) (Z r), fun r hlt => ?_⟩
    have c0 := (hr 0 (by omega)).1
    have hx := spot_none c0
    obtain ⟨b, o, s⟩ := a
    simp only at hx
    subst hx
    have hbl := World.block_lt_of_cell? W _ c0
    obtain ⟨h1, h2, h3, h4, h5, h6, h7⟩ := hr r (by omega)
    rw [addr_add] at h1
    have row : IsRow .u8 W (A r) (L r) (C r) (Z r) := by
      cases e : A r with
      | none =>
        have hc := h6 e
        refine .inl ⟨rfl, by omega, hc, ?_⟩
        exact List.length_eq_zero_iff.1 (by omega)
      | some a' =>
        refine .inr ⟨a', rfl, h2, h3, h4, fun i hi => (h7 a' e).2 i (by omega), h5⟩
    exact ⟨b, o, rfl, hbl, h1, row.le, fun h300 => row_bytes row (by omega)⟩

end Go.Proofs.Ytigjapiapgkgmaa
