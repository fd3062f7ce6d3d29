/-
  A slice of nodes that came in, opened: the lengths of their bytes, and, where none is long, the nodes.
-/
import Derived.Test.YtnnanmpogjmkiaaNodes
import Derived.Test.YtnnanmpogjmkiaaLight
import Derived.ProofKit
import Derived.OpenShut
import Derived.Deep.Slices
import Derived.Lib.SmallJoins
namespace Go.Proofs.Ytnnanmpogjmkiaa
open Go.RowKit Go.ChangeShapes Go.WideShapes

theorem four_cells {w : World} {base : Nat} {a : Addr} {cs : List Value} (h : w.cells? base a 4 = some cs) : ∃ c0 c1 c2 c3, cs = [c0, c1, c2, c3] ∧ w.cell? (a.add 0) = some c0 ∧ w.cell? (a.add 1) = some c1 ∧ w.cell? (a.add 2) = some c2 ∧ w.cell? (a.add 3) = some c3 := by
  unfold World.cells? at h
  split at h
  · simp only [show List.range 4 = [0, 1, 2, 3] from rfl, List.mapM_cons, List.mapM_nil] at h
    cases e0 : w.cell? (a.add 0) <;> cases e1 : w.cell? (a.add 1) <;> cases e2 : w.cell? (a.add 2) <;> cases e3 : w.cell? (a.add 3) <;> simp [e0, e1, e2, e3] at h
    exact ⟨_, _, _, _, h.symm, rfl, rfl, rfl, rfl⟩
  · cases h

/-- One node's four cells. -/
theorem node_of {H : Type} {enc : TypeId × Value → H} {W : World} {fuel : Nat} {cs : List Value} {x : DataW H × List MemPlace} (h : DataW.trod enc Try.prog W 0 (fun _ => true) true fuel 62 cs = some x) :
    ∃ (t m n : Int) (a : Option Addr) (l c : Nat) (zs : List Int), cs = [.int .i64 t, .int .i64 m, .int .u64 n, .slice a l c] ∧ (Lit.int .i64 m).wf = true ∧ (Lit.int .u64 n).wf = true ∧
      ((a = none ∧ l = 0 ∧ c = 0 ∧ zs = []) ∨ ∃ y, a = some y ∧ l ≤ c ∧ c ≤ maxLen ∧ zs.length = c ∧ (∀ i, i < zs.length → W.cell? (y.add i) = some (.int .u8 (zs.getD i 0))) ∧ ∀ n ∈ zs, (Lit.int .u8 n).wf = true) := by
  obtain ⟨y0, y1, y2, y3, n, rfl, hl, h0, h1, h2, h3⟩ := Go.Joins.trod_struct4 Try.underlying62 h
  have e62 : Try.prog.cellsOf 62 = 4 := by kernel_rfl
  have e3 : Try.prog.cellsOf 3 = 1 := by kernel_rfl
  have e25 : Try.prog.cellsOf 25 = 1 := by kernel_rfl
  have e26 : Try.prog.cellsOf 26 = 1 := by kernel_rfl
  rw [e62] at hl
  obtain ⟨c0, c1, c2, c3, rfl⟩ : ∃ c0 c1 c2 c3, cs = [c0, c1, c2, c3] := by
    match cs, hl with
    | [c0, c1, c2, c3], _ => exact ⟨c0, c1, c2, c3, rfl⟩
  simp only [e3, e25, e26, List.drop_zero, List.drop_succ_cons, List.take_succ_cons, List.take_zero] at h0 h1 h2 h3
  obtain ⟨t, ht, _, _⟩ := DataW.trod_int Try.underlying3 h0
  obtain ⟨m, hm, _, wm⟩ := DataW.trod_int Try.underlying3 h1
  obtain ⟨q, hq, _, wq⟩ := DataW.trod_int Try.underlying25 h2
  simp only [List.cons.injEq, and_true] at ht hm hq
  subst ht hm hq
  rcases open_ints Try.underlying26 Try.underlying5 (by kernel_rfl) h3 with ⟨hcs, _⟩ | ⟨y, l, c, zs, hcs, _, hlc, hmx, hz, _, hcell, hwz⟩
  · simp only [List.cons.injEq, and_true] at hcs
    subst hcs
    exact ⟨t, m, q, none, 0, 0, [], rfl, wm, wq, .inl ⟨rfl, rfl, rfl, rfl⟩⟩
  · simp only [List.cons.injEq, and_true] at hcs
    subst hcs
    exact ⟨t, m, q, some y, l, c, zs, rfl, wm, wq, .inr ⟨y, rfl, hlc, hmx, by simpa using hz, hcell, hwz⟩⟩

theorem spot_none {w : World} {x : Addr} {v : Value} (c0 : w.cell? (x.add 0) = some v) : x.spot = none := by
  have e : x.add 0 = x := rfl
  rw [e] at c0
  unfold World.cell? at c0
  split at c0
  · split at c0
    · cases c0
    · rename_i hs; simpa using hs
  · cases c0

theorem addr_plus (g o i : Nat) : (⟨g, o, none⟩ : Addr).add i = ⟨g, o + i, none⟩ := by unfold Addr.add; split <;> simp_all

/-- A row of bytes that came in. -/
theorem bytes_of {w : World} {a : Option Addr} {len cap : Nat} {zs : List Int} (hl : len ≤ 3000)
    (h : (a = none ∧ len = 0 ∧ cap = 0 ∧ zs = []) ∨ ∃ y, a = some y ∧ len ≤ cap ∧ cap ≤ maxLen ∧ zs.length = cap ∧ (∀ i, i < zs.length → w.cell? (y.add i) = some (.int .u8 (zs.getD i 0))) ∧ ∀ n ∈ zs, (Lit.int .u8 n).wf = true) :
    BySl 0 w.heap.size w (.slice a len cap) (zs.take len) := by
  rcases h with ⟨rfl, rfl, rfl, rfl⟩ | ⟨x, rfl, h1, h2, h3, h4, h5⟩
  · exact BySl.none _ _ _
  · have hlen : (zs.take len).length = len := List.length_take_of_le (by omega)
    refine ⟨_, cap, by rw [hlen], by rw [hlen]; exact h1, h2, by simp, by rw [hlen]; omega, fun y hy => ?_, fun hne => ?_⟩
    · have hw := h5 y (List.mem_of_mem_take hy)
      have hmin : IntKind.u8.min = 0 := rfl
      have hmax : IntKind.u8.max = 255 := rfl
      simp only [Lit.wf, Bool.and_eq_true, decide_eq_true_eq] at hw
      omega
    · have hpos : 0 < len := by have := List.length_pos_iff.2 hne; omega
      have c0 := h4 0 (by omega)
      have hx := spot_none c0
      obtain ⟨b, o, s⟩ := x
      simp only at hx
      subst hx
      refine ⟨b, o, rfl, Nat.zero_le _, World.block_lt_of_cell? w _ c0, fun i hi => ?_⟩
      have := h4 i (by omega)
      rw [addr_plus] at this
      rw [this]
      rw [hlen] at hi
      simp [hi]

/-- What a slice of nodes that came in is. -/
theorem nodes_of {H : Type} {enc : TypeId × Value → H} {W : World} {a0 : Option Addr} {len cap fuel : Nat} {x : DataW H × List MemPlace}
    (h : DataW.trod enc Try.prog W 0 (fun _ => true) true fuel 22 [.slice a0 len cap] = some x) :
    len ≤ maxLen ∧ (len ≤ 40 → ∃ ls : List Nat, ls.length = len ∧ (ls ≠ [] → ∃ b o, a0 = some ⟨b, o, none⟩ ∧ LensAt W b o ls) ∧
      ((∀ l ∈ ls, l ≤ 3000) → ∃ ns : List Nd, ns.length = len ∧ NSl W.heap.size W (.slice a0 len cap) ns)) := by
  rcases Go.Deep.open_slice Try.underlying22 h with ⟨hcs, _⟩ | ⟨a, l, c, m, n, D, Pl, hcs, _, hl, hm, hmm, _, hr⟩
  · simp only [List.cons.injEq, Value.slice.injEq, and_true] at hcs
    obtain ⟨rfl, rfl, rfl⟩ := hcs
    exact ⟨Nat.zero_le _, fun _ => ⟨[], rfl, fun h => absurd rfl h, fun _ => ⟨[], rfl, _, 0, rfl, Nat.le_refl _, Nat.zero_le _, Nat.zero_le _, fun h => absurd rfl h⟩⟩⟩
  · simp only [List.cons.injEq, Value.slice.injEq, and_true] at hcs
    obtain ⟨rfl, rfl, rfl⟩ := hcs
    simp only [if_true] at hmm
    subst hmm
    have e62 : Try.prog.cellsOf 62 = 4 := by kernel_rfl
    rw [e62] at hr
    refine ⟨by omega, fun h40 => ?_⟩
    by_cases hz : len = 0
    · subst hz
      exact ⟨[], rfl, fun h => absurd rfl h, fun _ => ⟨[], rfl, _, m, rfl, by simp, hm, Nat.zero_le _, fun h => absurd rfl h⟩⟩
    have each : ∀ r, r < len → ∃ y : Int × Int × Int × Option Addr × Nat × Nat × List Int, W.cell? ((a.add (r * 4)).add 0) = some (.int .i64 y.1) ∧ W.cell? ((a.add (r * 4)).add 1) = some (.int .i64 y.2.1) ∧ W.cell? ((a.add (r * 4)).add 2) = some (.int .u64 y.2.2.1) ∧
        W.cell? ((a.add (r * 4)).add 3) = some (.slice y.2.2.2.1 y.2.2.2.2.1 y.2.2.2.2.2.1) ∧ (Lit.int .i64 y.2.1).wf = true ∧ (Lit.int .u64 y.2.2.1).wf = true ∧
        ((y.2.2.2.1 = none ∧ y.2.2.2.2.1 = 0 ∧ y.2.2.2.2.2.1 = 0 ∧ y.2.2.2.2.2.2 = []) ∨ ∃ z, y.2.2.2.1 = some z ∧ y.2.2.2.2.1 ≤ y.2.2.2.2.2.1 ∧ y.2.2.2.2.2.1 ≤ maxLen ∧ y.2.2.2.2.2.2.length = y.2.2.2.2.2.1 ∧ (∀ i, i < y.2.2.2.2.2.2.length → W.cell? (z.add i) = some (.int .u8 (y.2.2.2.2.2.2.getD i 0))) ∧ ∀ n ∈ y.2.2.2.2.2.2, (Lit.int .u8 n).wf = true) := by
      intro r hr1
      obtain ⟨cs', h1, h2⟩ := hr r (by omega)
      obtain ⟨t, q, n', b, l', c', zs, rfl, w1, w2, hb⟩ := node_of h2
      obtain ⟨c0, c1, c2, c3, e, k0, k1, k2, k3⟩ := four_cells h1
      simp only [List.cons.injEq, and_true] at e
      obtain ⟨rfl, rfl, rfl, rfl⟩ := e
      exact ⟨(t, q, n', b, l', c', zs), k0, k1, k2, k3, w1, w2, hb⟩
    obtain ⟨y, hy⟩ := Go.Deep.choose_lt each
    have ha : a.spot = none := by
      have h0 := (hy 0 (by omega)).1
      rw [Nat.zero_mul] at h0
      have e : (a.add 0) = a := rfl
      rw [e] at h0
      exact spot_none h0
    obtain ⟨b, o, s⟩ := a
    simp only at ha
    subst ha
    have hbl : b < W.heap.size := by
      have h0 := (hy 0 (by omega)).1
      rw [addr_plus, addr_plus] at h0
      exact World.block_lt_of_cell? W _ h0
    have key : ∀ r i, (((⟨b, o, none⟩ : Addr).add (r * 4)).add i) = ⟨b, o + r * 4 + i, none⟩ := fun r i => by rw [addr_plus, addr_plus]
    refine ⟨(List.range len).map fun r => (y r).2.2.2.2.1, by simp, fun _ => ⟨b, o, rfl, fun j hj => ?_⟩, fun hall => ⟨(List.range len).map fun r => ((y r).1, (y r).2.1, (y r).2.2.1, (y r).2.2.2.2.2.2.take (y r).2.2.2.2.1), by simp, _, m, by simp, by simpa using hl, hm, by simpa using h40, fun _ => ⟨b, o, rfl, hbl, fun j z hz => ?_⟩⟩⟩
    · simp only [List.length_map, List.length_range] at hj
      obtain ⟨_, _, _, k3, _, _, hb⟩ := hy j hj
      rw [key] at k3
      have eg : ((List.range len).map fun r => (y r).2.2.2.2.1).getD j 0 = (y j).2.2.2.2.1 := by simp [hj]
      rw [eg]
      refine ⟨?_, _, _, k3⟩
      rcases hb with ⟨_, h0, _⟩ | ⟨_, _, h1, h2, _⟩
      · omega
      · unfold maxLen at h2; omega
    · have hj : j < len := by
        have := (List.getElem?_eq_some_iff.1 hz).1
        simpa using this
      obtain ⟨k0, k1, k2, k3, w1, w2, hb⟩ := hy j hj
      rw [key] at k0 k1 k2 k3
      simp only [List.getElem?_map, List.getElem?_range hj, Option.map_some, Option.some.injEq] at hz
      subst hz
      have hmin : IntKind.i64.min = -9223372036854775808 := rfl
      have hmax : IntKind.i64.max = 9223372036854775807 := rfl
      have hmin' : IntKind.u64.min = 0 := rfl
      have hmax' : IntKind.u64.max = 18446744073709551615 := rfl
      simp only [Lit.wf, Bool.and_eq_true, decide_eq_true_eq] at w1 w2
      have h3 : (y j).2.2.2.2.1 ≤ 3000 := hall _ (List.mem_map.2 ⟨j, List.mem_range.2 hj, rfl⟩)
      have hby := bytes_of h3 hb
      have b1 : -9223372036854775808 ≤ (y j).2.1 := by omega
      have b2 : (y j).2.1 ≤ 9223372036854775807 := by omega
      have b3 : 0 ≤ (y j).2.2.1 := by omega
      have b4 : (y j).2.2.1 ≤ 18446744073709551615 := by omega
      exact ⟨_, by simpa using k0, k1, k2, k3, b1, b2, b3, b4, hby⟩

end Go.Proofs.Ytnnanmpogjmkiaa
