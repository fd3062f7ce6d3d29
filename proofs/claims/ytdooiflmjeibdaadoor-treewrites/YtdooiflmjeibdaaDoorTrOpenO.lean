/-
  Changes that came in, opened.
-/
import Derived.Test.YtdooiflmjeibdaaDoorTrOpen
import Derived.Test.YtdooiflmjeibdaaDoorTrOps
namespace Go.Proofs.YtdooiflmjeibdaaDoor.Tr
open Go.RowKit Go.ChangeShapes Go.WideShapes

/-- A change as it came in. -/
structure RawOp where
  k : Int
  n : Int
  p : ByteArray
  q : ByteArray
  a : Option Addr
  l : Nat
  c : Nat
def RawOp.cells (o : RawOp) : List Value := [.int .i64 o.k, .int .i64 o.n, .string o.p, .string o.q, .slice o.a o.l o.c]

set_option maxRecDepth 100000 in
/-- A change's cells that came in. -/
theorem opc_cells {H : Type} {enc : TypeId × Value → H} {W : World} {fuel : Nat} {cs : List Value} {x : DataW H × List MemPlace} (h : DataW.trod enc Tryd.prog W 0 (fun _ => true) true fuel 44 cs = some x) :
    ∃ o : RawOp, cs = o.cells ∧ InR .u8 W o.a o.l o.c := by
  obtain ⟨xs, n, _, _, hl, hlen, hf⟩ := DataW.trod_struct Tryd.underlying44 h
  have e0 : Tryd.prog.cellsOf 44 = 5 := by kernel_rfl
  rw [e0] at hl
  have hx : ∀ j, j < 5 → ∃ y, xs[j]? = some y := fun j hj => ⟨xs[j]'(by rw [hlen]; exact hj), List.getElem?_eq_getElem _⟩
  have f0 := hf 0 _ rfl
  have f1 := hf 1 _ rfl
  have f2 := hf 2 _ rfl
  have f3 := hf 3 _ rfl
  have f4 := hf 4 _ rfl
  clear hf hlen
  obtain ⟨y0, h0⟩ := hx 0 (by omega)
  obtain ⟨y1, h1⟩ := hx 1 (by omega)
  obtain ⟨y2, h2⟩ := hx 2 (by omega)
  obtain ⟨y3, h3⟩ := hx 3 (by omega)
  obtain ⟨y4, h4⟩ := hx 4 (by omega)
  rw [h0] at f0
  rw [h1] at f1
  rw [h2] at f2
  rw [h3] at f3
  rw [h4] at f4
  obtain ⟨k, g0, _, w0⟩ := DataW.trod_int Tryd.underlying3 f0
  obtain ⟨m, g1, _, w1⟩ := DataW.trod_int Tryd.underlying3 f1
  obtain ⟨p, g2, _, w2⟩ := DataW.trod_string Tryd.underlying9 f2
  obtain ⟨q, g3, _, w3⟩ := DataW.trod_string Tryd.underlying9 f3
  obtain ⟨a, l, c, g4, w4⟩ := in_of Tryd.underlying23 Tryd.underlying5 (by kernel_rfl) f4
  refine ⟨⟨k, m, p, q, a, l, c⟩, ?_, w4⟩
  apply List.ext_getElem?
  intro j
  by_cases hj : j < 5
  · rcases (by omega : j = 0 ∨ j = 1 ∨ j = 2 ∨ j = 3 ∨ j = 4) with rfl | rfl | rfl | rfl | rfl
    · exact one_at g0
    · exact one_at g1
    · exact one_at g2
    · exact one_at g3
    · exact one_at g4
  · rw [List.getElem?_eq_none (by omega), List.getElem?_eq_none (by simp [RawOp.cells]; omega)]

set_option maxRecDepth 100000 in
/-- Changes that came in. -/
theorem rawO_of {H : Type} {enc : TypeId × Value → H} {W : World} {a0 : Option Addr} {len cap fuel : Nat} {x : DataW H × List MemPlace}
    (h : DataW.trod enc Tryd.prog W 0 (fun _ => true) true fuel 22 [.slice a0 len cap] = some x) :
    len ≤ cap ∧ cap ≤ maxLen ∧ (a0 = none → len = 0 ∧ cap = 0) ∧ ∃ ts : List RawOp, ts.length = len ∧ ∀ j t, ts[j]? = some t → InR .u8 W t.a t.l t.c ∧ ∃ g o, a0 = some ⟨g, o, none⟩ ∧ g < W.heap.size ∧ ∀ i v, t.cells[i]? = some v → W.cell? ⟨g, o + j * 5 + i, none⟩ = some v := by
  rcases Go.Deep.open_slice Tryd.underlying22 h with ⟨hcs, _⟩ | ⟨a, l, c, m, n, D, Pl, hcs, _, hl, hm, hmm, _, hr⟩
  · simp only [List.cons.injEq, Value.slice.injEq, and_true] at hcs
    obtain ⟨rfl, rfl, rfl⟩ := hcs
    exact ⟨Nat.le_refl _, Nat.zero_le _, fun _ => ⟨rfl, rfl⟩, [], rfl, fun j t h => by simp at h⟩
  · simp only [List.cons.injEq, Value.slice.injEq, and_true] at hcs
    obtain ⟨rfl, rfl, rfl⟩ := hcs
    simp only [if_true] at hmm
    subst hmm
    have e26 : Tryd.prog.cellsOf 44 = 5 := by kernel_rfl
    rw [e26] at hr
    refine ⟨by omega, by omega, by simp, ?_⟩
    have each : ∀ r, r < len → ∃ t : RawOp, InR .u8 W t.a t.l t.c ∧ ∀ i, i < 5 → W.cell? ((a.add (r * 5)).add i) = t.cells[i]? := by
      intro r hr1
      obtain ⟨cs', h1, h2⟩ := hr r (by omega)
      obtain ⟨t, rfl, hb⟩ := opc_cells h2
      exact ⟨t, hb, fun i hi => cells_get h1 i hi⟩
    haveI : Inhabited RawOp := ⟨⟨0, 0, ⟨#[]⟩, ⟨#[]⟩, none, 0, 0⟩⟩
    obtain ⟨y, hy⟩ := Go.Deep.choose_lt each
    refine ⟨(List.range len).map y, by simp, fun j t hj => ?_⟩
    have hjl : j < len := by
      have := (List.getElem?_eq_some_iff.1 hj).1
      simpa using this
    simp only [List.getElem?_map, List.getElem?_range hjl, Option.map_some, Option.some.injEq] at hj
    subst hj
    obtain ⟨h1, h3⟩ := hy j hjl
    refine ⟨h1, ?_⟩
    have h00 := (hy 0 (by omega)).2 0 (by omega)
    have ha : a.spot = none := by
      rw [Nat.zero_mul] at h00
      have e : (a.add 0) = a := rfl
      rw [e] at h00
      exact spot_none h00
    obtain ⟨b, o, s⟩ := a
    simp only at ha
    subst ha
    refine ⟨b, o, rfl, ?_, fun i v hv => ?_⟩
    · rw [addr_add, addr_add] at h00
      exact World.block_lt_of_cell? W _ h00
    · have hi : i < 5 := by
        have := (List.getElem?_eq_some_iff.1 hv).1
        simpa [RawOp.cells] using this
      have h := h3 i hi
      rw [addr_add, addr_add, hv] at h
      exact h

theorem ops_of {H : Type} {enc : TypeId × Value → H} {W : World} {a0 : Option Addr} {len cap fuel : Nat} {x : DataW H × List MemPlace}
    (h : DataW.trod enc Tryd.prog W 0 (fun _ => true) true fuel 22 [.slice a0 len cap] = some x) :
    len ≤ cap ∧ cap ≤ maxLen ∧ ∃ l : List OpT, l.length = len ∧ (len ≠ 0 → ∃ g o, a0 = some ⟨g, o, none⟩ ∧ OpsAt W g o l) ∧ (a0 = none → len = 0 ∧ cap = 0) := by
  obtain ⟨h1, h2, h3, ts, h4, h5⟩ := rawO_of h
  have each : ∀ r, r < len → ∃ y : OpT, ∀ g o, a0 = some ⟨g, o, none⟩ → ∀ V, Kp No W V → ∃ u, V.cell? ⟨g, o + r * 5, none⟩ = some (.int .i64 y.1) ∧ V.cell? ⟨g, o + r * 5 + 1, none⟩ = some (.int .i64 y.2.1) ∧ V.cell? ⟨g, o + r * 5 + 2, none⟩ = some (.string y.2.2.1) ∧ V.cell? ⟨g, o + r * 5 + 3, none⟩ = some (.string y.2.2.2.1) ∧ V.cell? ⟨g, o + r * 5 + 4, none⟩ = some u ∧ ByP Any V u y.2.2.2.2 := fun r hr => by
    obtain ⟨t, ht⟩ : ∃ t, ts[r]? = some t := ⟨_, List.getElem?_eq_getElem (by omega)⟩
    obtain ⟨hok, g, o, e, hg, hc⟩ := h5 r t ht
    obtain ⟨bs, hl, hb⟩ := hok.bytes hok.le
    refine ⟨(t.k, t.n, t.p, t.q, bs), fun g' o' e' V k => ?_⟩
    rw [e] at e'
    cases e'
    have kc := fun i v (hv : t.cells[i]? = some v) => (k.cell (p := ⟨g, o + r * 5 + i, none⟩) hg (fun h => h)).trans (hc i v hv)
    exact ⟨_, kc 0 _ rfl, kc 1 _ rfl, kc 2 _ rfl, kc 3 _ rfl, kc 4 _ rfl, hb.kept k⟩
  haveI : Inhabited OpT := ⟨(0, 0, ⟨#[]⟩, ⟨#[]⟩, [])⟩
  obtain ⟨y, hy⟩ := Go.Deep.choose_lt each
  refine ⟨h1, h2, (List.range len).map y, by simp, fun hne => ?_, h3⟩
  obtain ⟨t, ht⟩ : ∃ t, ts[0]? = some t := ⟨_, List.getElem?_eq_getElem (by omega)⟩
  obtain ⟨_, g, o, e, hg, _⟩ := h5 0 t ht
  refine ⟨g, o, e, fun V k i z hi => ?_⟩
  have hil : i < len := by
    have := (List.getElem?_eq_some_iff.1 hi).1
    simpa using this
  simp only [List.getElem?_map, List.getElem?_range hil, Option.map_some, Option.some.injEq] at hi
  subst hi
  exact hy i hil g o e V k

end Go.Proofs.YtdooiflmjeibdaaDoor.Tr
