/-
  A slice of slices of bytes that came in, as the walks want it.
-/
import Derived.Test.YtbmdnjmdehmahaaMany
import Derived.Test.YtbmdnjmdehmahaaRow
import Derived.Deep.Matrix
import Derived.SizedLaws
namespace Go.Proofs.Ytbmdnjmdehmahaa
open Go.RowKit

theorem weights_all {H : Type} {P : Program} {e : TypeId} : ∀ {l : List (DataW H)} {d : DataW H} {n : Nat}, d ∈ l → n ∈ d.weights P e → n ∈ DataW.weightsAll P e l
  | [], _, _, h, _ => by simp at h
  | x :: l, d, n, h, hn => by
    simp only [DataW.weightsAll, List.mem_append]
    rcases List.mem_cons.1 h with rfl | h
    · exact .inl hn
    · exact .inr (weights_all h hn)

theorem rows_of {H : Type} {enc : TypeId × Value → H} {W : World} {a0 : Option Addr} {len cap fuel : Nat} {x : DataW H × List MemPlace}
    (h : DataW.trod enc Try.prog W 0 (fun _ => true) true fuel 22 [.slice a0 len cap] = some x) (hz : ∀ n ∈ x.1.weights Try.prog 22, n ≤ reachBytes) :
    len ≤ 9223372036854775807 ∧ ∃ A L C B, RowsB W a0 len A L C B := by
  rcases Go.Deep.open_int_rows (k := .u8) Try.underlying22 Try.underlying28 Try.underlying5 (by kernel_rfl) (by kernel_rfl) h with ⟨hcs, _⟩ | ⟨a, l, c, A, L, C, Z, hcs, _, hl, hm, hx, hr⟩
  · simp only [List.cons.injEq, Value.slice.injEq, and_true] at hcs
    obtain ⟨rfl, rfl, rfl⟩ := hcs
    exact ⟨by omega, fun _ => none, fun _ => 0, fun _ => 0, fun _ => [], fun r hr => absurd hr (by omega)⟩
  · simp only [List.cons.injEq, Value.slice.injEq, and_true] at hcs
    obtain ⟨rfl, rfl, rfl⟩ := hcs
    refine ⟨by unfold maxLen at hm; omega, A, L, C, fun r => byts (L r) (Z r), fun r hlt => ?_⟩
    have c0 := (hr 0 (by omega)).1
    have hx0 := spot_none c0
    obtain ⟨b, o, s⟩ := a
    simp only at hx0
    subst hx0
    have hbl := World.block_lt_of_cell? W _ c0
    obtain ⟨h1, h2, h3, h4, h5, h6, h7⟩ := hr r (by omega)
    rw [Addr.add_mid] at h1
    have row : IsRow .u8 W (A r) (L r) (C r) (Z r) := by
      cases e : A r with
      | none =>
        have hc := h6 e
        refine .inl ⟨rfl, by omega, hc, ?_⟩
        exact List.length_eq_zero_iff.1 (by omega)
      | some a' =>
        refine .inr ⟨a', rfl, h2, h3, h4, fun i hi => (h7 a' e).2 i (by omega), h5⟩
    have hcap : L r ≤ 140737488355328 := by
      cases e : A r with
      | none =>
        have hc := h6 e
        omega
      | some a' =>
        have hw := hz ((Z r).length * Try.prog.bytesOf 5) (by
          rw [hx]
          simp only [DataW.weights, Try.underlying22]
          refine List.mem_cons_of_mem _ (List.mem_append_left _ (weights_all (d := Go.Deep.intRow .u8 (A r) (L r) (Z r)) (List.mem_map.2 ⟨r, List.mem_range.2 hlt, rfl⟩) ?_))
          rw [e]
          simp only [Go.Deep.intRow, DataW.weights, Try.underlying28]
          refine List.mem_cons.2 (.inl ?_)
          congr 1
          simp [Go.ChangeShapes.lits]
          omega)
        have hb5 : Try.prog.bytesOf 5 = 1 := by kernel_rfl
        rw [hb5, h4] at hw
        have := reachBytes_lt
        omega
    have hrb := row_bytes row hcap
    exact ⟨b, o, rfl, hbl, h1, hrb.1, hrb.2⟩
end Go.Proofs.Ytbmdnjmdehmahaa
