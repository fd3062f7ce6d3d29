/- Of the proof: the texts SgOpen, one behind the other. -/
import Derived.Test.YtampnikdmgojjaaB12
import Derived.Test.YtampnikdmgojjaaB5
section
/-
  A list of the document's entries that came in, opened.
-/
namespace Go.Proofs.Ytampnikdmgojjaa.Sg
open Go.RowKit Go.ChangeShapes Go.WideShapes

theorem mapM_get {α β : Type} {f : α → Option β} : ∀ (L : List α) (ys : List β), L.mapM f = some ys → ∀ i : Nat, ys[i]? = (L[i]?).bind f
  | [], ys, h, i => by
    simp only [List.mapM_nil, pure, Option.some.injEq] at h
    subst h
    simp
  | a :: L, ys, h, i => by
    rw [List.mapM_cons] at h
    simp only [bind, Option.bind_eq_some_iff, pure, Option.some.injEq] at h
    obtain ⟨y, hy, zs, hzs, rfl⟩ := h
    cases i with
    | zero => simp [hy]
    | succ i => simpa using mapM_get L zs hzs i

theorem cells_get {w : World} {base n : Nat} {a : Addr} {cs : List Value} (h : w.cells? base a n = some cs) (i : Nat) (hi : i < n) : w.cell? (a.add i) = cs[i]? := by
  unfold World.cells? at h
  split at h
  · have := mapM_get _ _ h i
    rw [List.getElem?_range hi] at this
    exact this.symm
  · cases h

theorem trod_struct2 {H : Type} {enc : TypeId × Value → H} {P : Program} {w : World} {base : Nat} {spare : Nat → Bool} {held : Bool} {t : TypeId} {f0 f1 : Field} {fuel : Nat} {cs : List Value} {x : DataW H × List MemPlace} (ht : P.underlying t = some (.struct #[f0, f1])) (h : DataW.trod enc P w base spare held fuel t cs = some x) :
    ∃ y0 y1 n, cs.length = P.cellsOf t ∧ DataW.trod enc P w base spare held n f0.type ((cs.drop f0.offset).take (P.cellsOf f0.type)) = some y0 ∧
      DataW.trod enc P w base spare held n f1.type ((cs.drop f1.offset).take (P.cellsOf f1.type)) = some y1 := by
  obtain ⟨xs, n, _, rfl, hl, hlen, hf⟩ := DataW.trod_struct ht h
  match xs, hlen with
  | [y0, y1], _ => exact ⟨y0, y1, n, hl, by simpa using hf 0 f0 rfl, by simpa using hf 1 f1 rfl⟩

set_option maxRecDepth 100000 in
/-- An entry's cells that came in. -/
theorem ent_cells {H : Type} {enc : TypeId × Value → H} {W : World} {fuel : Nat} {cs : List Value} {x : DataW H × List MemPlace} (h : DataW.trod enc Try.prog W 0 (fun _ => true) true fuel 75 cs = some x) :
    ∃ e : Ent, cs = entC e ∧ EOk e := by
  obtain ⟨y0, y1, n, hl, h0, h1⟩ := trod_struct2 Try.underlying75 h
  have e75 : Try.prog.cellsOf 75 = 35 := by kernel_rfl
  have e46 : Try.prog.cellsOf 46 = 32 := by kernel_rfl
  have e73 : Try.prog.cellsOf 73 = 3 := by kernel_rfl
  have e3 : Try.prog.cellsOf 3 = 1 := by kernel_rfl
  rw [e75] at hl
  simp only [e46, e73] at h0 h1
  obtain ⟨nm, hnm, hnl, hwf⟩ := arr_ints Try.underlying46 Try.underlying5 (by kernel_rfl) (by simp; omega) h0
  obtain ⟨_, _, _, m, _, _, p0, p1, p2⟩ := Go.Deep.trod_struct3 Try.underlying73 h1
  simp only [e3] at p0 p1 p2
  obtain ⟨p, hp, _, _⟩ := DataW.trod_int Try.underlying3 p0
  obtain ⟨q, hq, _, _⟩ := DataW.trod_int Try.underlying3 p1
  obtain ⟨r, hr, _, _⟩ := DataW.trod_int Try.underlying3 p2
  refine ⟨(nm, p, q, r), ?_, hnl, fun y hy => u8_wf (hwf y hy)⟩
  simp only [List.drop_zero] at hnm
  have l3 : (cs.drop 32).length = 3 := by simp; omega
  have e : cs.drop 32 = [.int .i64 p, .int .i64 q, .int .i64 r] := by
    match hc : cs.drop 32, l3 with
    | [a, b, c], _ =>
      rw [hc] at hp hq hr
      simp at hp hq hr
      rw [hp, hq, hr]
  rw [← List.take_append_drop 32 cs, hnm, e]
  rfl

theorem spotless {w : World} {x : Addr} {v : Value} (c0 : w.cell? (x.add 0) = some v) : x.spot = none := spot_none c0

set_option maxRecDepth 100000 in
theorem ents_of {H : Type} {enc : TypeId × Value → H} {W : World} {a0 : Option Addr} {len cap fuel : Nat} {x : DataW H × List MemPlace}
    (h : DataW.trod enc Try.prog W 0 (fun _ => true) true fuel 22 [.slice a0 len cap] = some x) :
    ∃ d : List Ent, d.length = len ∧ EV (fun g => g < W.heap.size) W (.slice a0 len cap) d := by
  rcases Go.Deep.open_slice Try.underlying22 h with ⟨hcs, _⟩ | ⟨a, l, c, m, n, D, Pl, hcs, _, hl, hm, hmm, _, hr⟩
  · simp only [List.cons.injEq, Value.slice.injEq, and_true] at hcs
    obtain ⟨rfl, rfl, rfl⟩ := hcs
    exact ⟨[], rfl, EV.nil _ _⟩
  · simp only [List.cons.injEq, Value.slice.injEq, and_true] at hcs
    obtain ⟨rfl, rfl, rfl⟩ := hcs
    simp only [if_true] at hmm
    subst hmm
    have e26 : Try.prog.cellsOf 75 = 35 := by kernel_rfl
    rw [e26] at hr
    have each : ∀ r, r < len → ∃ t : Ent, EOk t ∧ ∀ i, i < 35 → W.cell? ((a.add (r * 35)).add i) = (entC t)[i]? := by
      intro r hr1
      obtain ⟨cs', h1, h2⟩ := hr r (by omega)
      obtain ⟨e, rfl, he⟩ := ent_cells h2
      exact ⟨e, he, fun i hi => cells_get h1 i hi⟩
    obtain ⟨y, hy⟩ := Go.Deep.choose_lt each
    have hlen : ((List.range len).map y).length = len := by simp
    have hget : ∀ j t, ((List.range len).map y)[j]? = some t → j < len ∧ t = y j := fun j t hj => by
      have hjl : j < len := by
        have := (List.getElem?_eq_some_iff.1 hj).1
        simpa using this
      simp only [List.getElem?_map, List.getElem?_range hjl, Option.map_some, Option.some.injEq] at hj
      exact ⟨hjl, hj.symm⟩
    refine ⟨(List.range len).map y, hlen, some a, _, by rw [hlen], by rw [hlen]; exact hl, hm, by simp, fun e he => ?_, fun hne => ?_⟩
    · obtain ⟨j, hj⟩ := List.mem_iff_getElem?.1 he
      obtain ⟨hjl, rfl⟩ := hget j e hj
      exact (hy j hjl).1
    · have hpos : 0 < len := by
        have := List.length_pos_iff.2 hne
        omega
      have h00 := (hy 0 hpos).2 0 (by omega)
      obtain ⟨v0, hv0⟩ : ∃ v, (entC (y 0))[0]? = some v := ⟨_, List.getElem?_eq_getElem (by rw [entC_length (hy 0 hpos).1]; omega)⟩
      rw [hv0] at h00
      have ha : a.spot = none := by
        rw [Nat.zero_mul] at h00
        have e : (a.add 0) = a := rfl
        rw [e] at h00
        exact spot_none h00
      obtain ⟨b, o, s⟩ := a
      simp only at ha
      subst ha
      have hb : b < W.heap.size := by
        rw [addr_plus, addr_plus] at h00
        exact World.block_lt_of_cell? W _ h00
      refine ⟨b, o, rfl, hb, hb, fun j t hj => ?_⟩
      obtain ⟨hjl, rfl⟩ := hget j t hj
      refine ⟨(hy j hjl).1, fun i v hv => ?_⟩
      have hi : i < 35 := by
        have := (List.getElem?_eq_some_iff.1 hv).1
        rw [entC_length (hy j hjl).1] at this
        exact this
      have h := (hy j hjl).2 i hi
      rw [addr_plus, addr_plus, hv] at h
      exact h
end Go.Proofs.Ytampnikdmgojjaa.Sg
end
