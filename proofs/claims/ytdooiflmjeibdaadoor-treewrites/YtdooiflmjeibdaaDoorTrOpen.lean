/-
  Items that came in, opened.
-/
import Derived.Test.YtdooiflmjeibdaaDoorTrIns
import Derived.OpenShut
import Derived.Deep.Slices
import Derived.Deep.Strs
namespace Go.Proofs.YtdooiflmjeibdaaDoor.Tr
open Go.RowKit Go.ChangeShapes Go.WideShapes

theorem mapM_get {α β : Type} {f : α → Option β} : ∀ (L : List α) (ys : List β), L.mapM f = some ys → ∀ i : Nat, ys[i]? = (L[i]?).bind f
  | [], ys, h, i => by
    simp only [List.mapM_nil, pure, Option.some.injEq] at h
    subst h
    simp
  | a :: L, ys, h, i => by
    rw [List.mapM_cons] at h
    simp only [bind, Option.bind_eq_some_iff, pure, Option.some.injEq] at h
    obtain ⟨y, hy, zs, hzs, rfl⟩ := h
    cases i with
    | zero => simp [hy]
    | succ i => simpa using mapM_get L zs hzs i
theorem cells_get {w : World} {base n : Nat} {a : Addr} {cs : List Value} (h : w.cells? base a n = some cs) (i : Nat) (hi : i < n) : w.cell? (a.add i) = cs[i]? := by
  unfold World.cells? at h
  split at h
  · have := mapM_get _ _ h i
    rw [List.getElem?_range hi] at this
    exact this.symm
  · cases h
theorem spot_none {w : World} {x : Addr} {v : Value} (c0 : w.cell? (x.add 0) = some v) : x.spot = none := by
  have e : x.add 0 = x := rfl
  rw [e] at c0
  unfold World.cell? at c0
  split at c0
  · split at c0
    · cases c0
    · rename_i hs; simpa using hs
  · cases c0
theorem u8_wf {y : Int} (h : (Lit.int .u8 y).wf = true) : 0 ≤ y ∧ y ≤ 255 := by
  have hmin : IntKind.u8.min = 0 := rfl
  have hmax : IntKind.u8.max = 255 := rfl
  simp only [Lit.wf, Bool.and_eq_true, decide_eq_true_eq] at h
  omega
theorem i64_wf {y : Int} (h : (Lit.int .i64 y).wf = true) : -9223372036854775808 ≤ y ∧ y ≤ 9223372036854775807 := by
  have hmin : IntKind.i64.min = -9223372036854775808 := rfl
  have hmax : IntKind.i64.max = 9223372036854775807 := rfl
  simp only [Lit.wf, Bool.and_eq_true, decide_eq_true_eq] at h
  omega

/-- A slice of numbers, as it came in. -/
def InR (q : IntKind) (W : World) (a : Option Addr) (l c : Nat) : Prop :=
  (a = none ∧ l = 0 ∧ c = 0) ∨ ∃ (y : Addr) (zs : List Int), a = some y ∧ l ≤ c ∧ c ≤ maxLen ∧ zs.length = c ∧ (∀ i, i < zs.length → W.cell? (y.add i) = some (.int q (zs.getD i 0))) ∧ ∀ n ∈ zs, (Lit.int q n).wf = true
theorem InR.le {q : IntKind} {W : World} {a : Option Addr} {l c : Nat} (h : InR q W a l c) : l ≤ 9223372036854775807 := by
  rcases h with ⟨_, rfl, _⟩ | ⟨_, _, _, h1, h2, _⟩
  · omega
  · unfold maxLen at h2; omega
/-- Its numbers, and where they lie. -/
theorem InR.nums {q : IntKind} {w : World} {a : Option Addr} {len cap : Nat} (h : InR q w a len cap) : ∃ zs : List Int, zs.length = len ∧ len ≤ cap ∧ cap ≤ maxLen ∧ (a = none → zs = [] ∧ cap = 0) ∧ (∀ z ∈ zs, (Lit.int q z).wf = true) ∧
    (zs ≠ [] → ∃ g o, a = some ⟨g, o, none⟩ ∧ g < w.heap.size ∧ ∀ i, i < zs.length → w.cell? ⟨g, o + i, none⟩ = some (.int q (zs.getD i 0))) := by
  rcases h with ⟨rfl, rfl, rfl⟩ | ⟨x, zs, rfl, h1, h2, h3, h4, h5⟩
  · exact ⟨[], rfl, Nat.le_refl _, Nat.zero_le _, fun _ => ⟨rfl, rfl⟩, by simp, fun h => absurd rfl h⟩
  · have hlen : (zs.take len).length = len := List.length_take_of_le (by omega)
    refine ⟨zs.take len, hlen, h1, h2, by simp, fun z hz => h5 z (List.mem_of_mem_take hz), fun hne => ?_⟩
    have hpos : 0 < len := by have := List.length_pos_iff.2 hne; omega
    have c0 := h4 0 (by omega)
    have hx := spot_none c0
    obtain ⟨b, o, s⟩ := x
    simp only at hx
    subst hx
    refine ⟨b, o, rfl, World.block_lt_of_cell? w _ c0, fun i hi => ?_⟩
    have := h4 i (by omega)
    rw [addr_add] at this
    rw [this]
    rw [hlen] at hi
    simp [hi]
theorem InR.bytes {w : World} {a : Option Addr} {len cap : Nat} (h : InR .u8 w a len cap) (hle : len ≤ 9223372036854775807) : ∃ bs : List Nat, bs.length = len ∧ ByP Any w (.slice a len cap) bs := by
  obtain ⟨zs, h1, h2, h3, h4, h5, h6⟩ := h.nums
  have hb : ∀ z ∈ zs, 0 ≤ z ∧ z ≤ 255 := fun z hz => u8_wf (h5 z hz)
  have hmap : (zs.map Int.toNat).length = len := by simpa using h1
  refine ⟨zs.map Int.toNat, hmap, a, cap, by rw [hmap], by omega, h3, fun ha => ?_, by omega, fun x hx => ?_, fun hne => ?_⟩
  · obtain ⟨e1, e2⟩ := h4 ha; subst e1; exact ⟨rfl, e2⟩
  · obtain ⟨z, hz, rfl⟩ := List.mem_map.1 hx
    have := hb z hz
    omega
  · obtain ⟨g, o, e, hg, hc⟩ := h6 (fun e => hne (by rw [e]; rfl))
    refine ⟨g, o, e, trivial, hg, fun i hi => ?_⟩
    have hi' : i < zs.length := by simpa using hi
    rw [hc i hi', List.getD_eq_getElem?_getD, List.getD_eq_getElem?_getD, List.getElem?_map, List.getElem?_eq_getElem hi']
    have := hb _ (List.getElem_mem hi')
    simp only [Option.getD_some, Option.map_some]
    rw [Int.toNat_of_nonneg this.1]
theorem one_at {cs : List Value} {j : Nat} {v : Value} (h : (cs.drop j).take 1 = [v]) : cs[j]? = some v := by
  have := congrArg (fun l : List Value => l[0]?) h
  simpa [List.getElem?_take, List.getElem?_drop] using this
theorem in_of {H : Type} {enc : TypeId × Value → H} {W : World} {q : IntKind} {t e : TypeId} (ht : Tryd.prog.underlying t = some (.slice e)) (he : Tryd.prog.underlying e = some (.int q)) (hc : Tryd.prog.cellsOf e = 1) {fuel : Nat} {cs : List Value} {x : DataW H × List MemPlace}
    (h : DataW.trod enc Tryd.prog W 0 (fun _ => true) true fuel t cs = some x) : ∃ a l c, cs = [.slice a l c] ∧ InR q W a l c := by
  rcases open_ints ht he hc h with ⟨hcs, _⟩ | ⟨y, l, c, zs, hcs, _, hlc, hmx, hz, _, hcell, hwz⟩
  · exact ⟨none, 0, 0, hcs, .inl ⟨rfl, rfl, rfl⟩⟩
  · exact ⟨some y, l, c, hcs, .inr ⟨y, zs, rfl, hlc, hmx, by simpa using hz, hcell, hwz⟩⟩

/-- An item as it came in. -/
structure RawIt where
  s : ByteArray
  d : Bool
  a : Option Addr
  l : Nat
  c : Nat
def RawIt.cells (o : RawIt) : List Value := [.string o.s, .bool o.d, .slice o.a o.l o.c]
structure RawIt.Ok (W : World) (o : RawIt) : Prop where
  s : o.s.size ≤ maxLen
  b : InR .u8 W o.a o.l o.c

set_option maxRecDepth 100000 in
/-- An item's cells that came in. -/
theorem it_cells {H : Type} {enc : TypeId × Value → H} {W : World} {fuel : Nat} {cs : List Value} {x : DataW H × List MemPlace} (h : DataW.trod enc Tryd.prog W 0 (fun _ => true) true fuel 33 cs = some x) :
    ∃ o : RawIt, cs = o.cells ∧ o.Ok W := by
  obtain ⟨xs, n, _, _, hl, hlen, hf⟩ := DataW.trod_struct Tryd.underlying33 h
  have e0 : Tryd.prog.cellsOf 33 = 3 := by kernel_rfl
  rw [e0] at hl
  have hx : ∀ j, j < 3 → ∃ y, xs[j]? = some y := fun j hj => ⟨xs[j]'(by rw [hlen]; exact hj), List.getElem?_eq_getElem _⟩
  have f0 := hf 0 _ rfl
  have f1 := hf 1 _ rfl
  have f2 := hf 2 _ rfl
  clear hf hlen
  obtain ⟨y0, h0⟩ := hx 0 (by omega)
  obtain ⟨y1, h1⟩ := hx 1 (by omega)
  obtain ⟨y2, h2⟩ := hx 2 (by omega)
  rw [h0] at f0
  rw [h1] at f1
  rw [h2] at f2
  obtain ⟨s, g0, _, w0⟩ := DataW.trod_string Tryd.underlying9 f0
  obtain ⟨d, g1, _⟩ := DataW.trod_bool Tryd.underlying4 f1
  obtain ⟨a, l, c, g2, w2⟩ := in_of Tryd.underlying23 Tryd.underlying5 (by kernel_rfl) f2
  refine ⟨⟨s, d, a, l, c⟩, ?_, ⟨w0, w2⟩⟩
  apply List.ext_getElem?
  intro j
  by_cases hj : j < 3
  · rcases (by omega : j = 0 ∨ j = 1 ∨ j = 2) with rfl | rfl | rfl
    · exact one_at g0
    · exact one_at g1
    · exact one_at g2
  · rw [List.getElem?_eq_none (by omega), List.getElem?_eq_none (by simp [RawIt.cells]; omega)]

set_option maxRecDepth 100000 in
/-- A tree that came in. -/
theorem raw_of {H : Type} {enc : TypeId × Value → H} {W : World} {a0 : Option Addr} {len cap fuel : Nat} {x : DataW H × List MemPlace}
    (h : DataW.trod enc Tryd.prog W 0 (fun _ => true) true fuel 26 [.slice a0 len cap] = some x) :
    len ≤ cap ∧ cap ≤ maxLen ∧ (a0 = none → len = 0 ∧ cap = 0) ∧ ∃ ts : List RawIt, ts.length = len ∧ ∀ j t, ts[j]? = some t → t.Ok W ∧ ∃ g o, a0 = some ⟨g, o, none⟩ ∧ g < W.heap.size ∧ ∀ i v, t.cells[i]? = some v → W.cell? ⟨g, o + j * 3 + i, none⟩ = some v := by
  rcases Go.Deep.open_slice Tryd.underlying26 h with ⟨hcs, _⟩ | ⟨a, l, c, m, n, D, Pl, hcs, _, hl, hm, hmm, _, hr⟩
  · simp only [List.cons.injEq, Value.slice.injEq, and_true] at hcs
    obtain ⟨rfl, rfl, rfl⟩ := hcs
    exact ⟨Nat.le_refl _, Nat.zero_le _, fun _ => ⟨rfl, rfl⟩, [], rfl, fun j t h => by simp at h⟩
  · simp only [List.cons.injEq, Value.slice.injEq, and_true] at hcs
    obtain ⟨rfl, rfl, rfl⟩ := hcs
    simp only [if_true] at hmm
    subst hmm
    have e26 : Tryd.prog.cellsOf 33 = 3 := by kernel_rfl
    rw [e26] at hr
    refine ⟨by omega, by omega, by simp, ?_⟩
    have each : ∀ r, r < len → ∃ t : RawIt, t.Ok W ∧ ∀ i, i < 3 → W.cell? ((a.add (r * 3)).add i) = t.cells[i]? := by
      intro r hr1
      obtain ⟨cs', h1, h2⟩ := hr r (by omega)
      obtain ⟨t, rfl, hb⟩ := it_cells h2
      exact ⟨t, hb, fun i hi => cells_get h1 i hi⟩
    haveI : Inhabited RawIt := ⟨⟨⟨#[]⟩, false, none, 0, 0⟩⟩
    obtain ⟨y, hy⟩ := Go.Deep.choose_lt each
    refine ⟨(List.range len).map y, by simp, fun j t hj => ?_⟩
    have hjl : j < len := by
      have := (List.getElem?_eq_some_iff.1 hj).1
      simpa using this
    simp only [List.getElem?_map, List.getElem?_range hjl, Option.map_some, Option.some.injEq] at hj
    subst hj
    obtain ⟨h1, h3⟩ := hy j hjl
    refine ⟨h1, ?_⟩
    have h00 := (hy 0 (by omega)).2 0 (by omega)
    have ha : a.spot = none := by
      rw [Nat.zero_mul] at h00
      have e : (a.add 0) = a := rfl
      rw [e] at h00
      exact spot_none h00
    obtain ⟨b, o, s⟩ := a
    simp only at ha
    subst ha
    refine ⟨b, o, rfl, ?_, fun i v hv => ?_⟩
    · rw [addr_add, addr_add] at h00
      exact World.block_lt_of_cell? W _ h00
    · have hi : i < 3 := by
        have := (List.getElem?_eq_some_iff.1 hv).1
        simpa [RawIt.cells] using this
      have h := h3 i hi
      rw [addr_add, addr_add, hv] at h
      exact h

theorem items_of {H : Type} {enc : TypeId × Value → H} {W : World} {a0 : Option Addr} {len cap fuel : Nat} {x : DataW H × List MemPlace}
    (h : DataW.trod enc Tryd.prog W 0 (fun _ => true) true fuel 26 [.slice a0 len cap] = some x) : ∃ t : List It, IRow Any W (.slice a0 len cap) t := by
  obtain ⟨h1, h2, h3, ts, h4, h5⟩ := raw_of h
  have each : ∀ r, r < len → ∃ y : It, ∀ g o, a0 = some ⟨g, o, none⟩ → ItAt Any W g (o + r * 3) y := fun r hr => by
    obtain ⟨t, ht⟩ : ∃ t, ts[r]? = some t := ⟨_, List.getElem?_eq_getElem (by omega)⟩
    obtain ⟨hok, g, o, e, hg, hc⟩ := h5 r t ht
    obtain ⟨bs, hl, hb⟩ := hok.b.bytes hok.b.le
    refine ⟨(t.s, t.d, bs), fun g' o' e' => ?_⟩
    rw [e] at e'
    cases e'
    exact ⟨_, hc 0 _ rfl, hc 1 _ rfl, hc 2 _ rfl, hb⟩
  haveI : Inhabited It := ⟨(⟨#[]⟩, false, [])⟩
  obtain ⟨y, hy⟩ := Go.Deep.choose_lt each
  have hyl : ((List.range len).map y).length = len := by simp
  refine ⟨(List.range len).map y, a0, cap, by rw [hyl], by omega, h2, fun e => ?_, fun hne => ?_⟩
  · obtain ⟨rfl, e2⟩ := h3 e
    exact ⟨rfl, e2⟩
  · have hpos : 0 < len := by
      have := List.length_pos_iff.2 hne
      omega
    obtain ⟨t, ht⟩ : ∃ t, ts[0]? = some t := ⟨_, List.getElem?_eq_getElem (by omega)⟩
    obtain ⟨_, g, o, e, hg, _⟩ := h5 0 t ht
    refine ⟨g, o, e, trivial, hg, fun i z hi => ?_⟩
    have hil : i < len := by
      have := (List.getElem?_eq_some_iff.1 hi).1
      omega
    simp only [List.getElem?_map, List.getElem?_range hil, Option.map_some, Option.some.injEq] at hi
    subst hi
    exact hy i hil g o e

end Go.Proofs.YtdooiflmjeibdaaDoor.Tr
