/- Of the proof: the texts FrOpen, FrOpenL, SimOpen, ShWalksO, PkLaid, PkVars, ShWalksFacts, one behind the other. -/
import Derived.Test.YtaaioaocjfpajaaGreatDoorB6
import Derived.ProofKit
import Derived.OpenShut
import Derived.Deep.Slices
import Derived.Deep.Strs
import Derived.Lib.SmallJoins
import Derived.WideKeyArr2
import Derived.Test.YtaaioaocjfpajaaGreatDoorB12
import Derived.Test.YtaaioaocjfpajaaGreatDoorB3
import Derived.Test.YtaaioaocjfpajaaGreatDoorB17
import Derived.Test.YtaaioaocjfpajaaGreatDoorCards
import Derived.Test.YtaaioaocjfpajaaGreatDoorTie
import Derived.Deep.DeepHandedRow
import Derived.Lib.LaidTab
import Derived.MakeChecks
import Derived.Lib.TrailingZeros
import Derived.Stop.LaidErr
import Derived.Test.YtaaioaocjfpajaaGreatDoorChecked
import Derived.WalkKit
section
/-
  Records that came in, opened.
-/
namespace Go.Proofs.YtaaioaocjfpajaaGreatDoor
open Go.RowKit Go.ChangeShapes Go.WideShapes

theorem mapM_each {α β : Type} {f : α → Option β} : ∀ (L : List α) (ys : List β), L.mapM f = some ys → ∀ i ∈ L, ∃ y, f i = some y
  | [], _, _, i, hi => by simp at hi
  | a :: L, ys, h, i, hi => by
    rw [List.mapM_cons] at h
    simp only [bind, Option.bind_eq_some_iff, pure, Option.some.injEq] at h
    obtain ⟨y, hy, zs, hzs, _⟩ := h
    rcases List.mem_cons.1 hi with rfl | hi
    · exact ⟨y, hy⟩
    · exact mapM_each L zs hzs i hi

section
variable {H : Type} {enc : TypeId × Value → H} {P : Program} {W : World} {base : Nat} {sp : Nat → Bool} {held : Bool} {t e : TypeId} {n : Nat} {q : IntKind}
/-- The cells of an array of integers that came in. -/
theorem arr_ints (hu : P.underlying t = some (.array n e)) (he : P.underlying e = some (.int q)) (h1 : P.cellsOf e = 1) {fuel : Nat} {cs : List Value} {x : DataW H × List MemPlace} (hl : cs.length = n)
    (h : DataW.trod enc P W base sp held fuel t cs = some x) : ∃ zs : List Int, cs = zs.map (fun z => Value.int q z) ∧ zs.length = n ∧ ∀ z ∈ zs, (Lit.int q z).wf = true := by
  cases fuel with
  | zero => simp [DataW.trod] at h
  | succ m =>
    rw [DataW.trod_step] at h
    unfold DataW.trodStep at h
    simp only [hu] at h
    split at h
    · simp only [Option.map_eq_some_iff] at h
      obtain ⟨ys, hy, _⟩ := h
      have hE : ∀ i, i < n → ∃ z, cs[i]? = some (.int q z) ∧ (Lit.int q z).wf = true := fun i hi => by
        obtain ⟨y, hy⟩ := mapM_each _ ys hy i (List.mem_range.2 hi)
        obtain ⟨a, ea, _, wa⟩ := DataW.trod_int he hy
        rw [h1, Nat.mul_one] at ea
        refine ⟨a, ?_, wa⟩
        have h := congrArg (fun l : List Value => l[0]?) ea
        simpa [List.getElem?_take, List.getElem?_drop] using h
      refine ⟨cs.map intOf, ?_, by simpa using hl, ?_⟩
      · apply List.ext_getElem?
        intro i
        by_cases hi : i < n
        · obtain ⟨z, hz, _⟩ := hE i hi
          simp [hz, intOf]
        · have : cs[i]? = none := List.getElem?_eq_none (by omega)
          simp [this]
      · intro z hz
        obtain ⟨x, hx, rfl⟩ := List.mem_map.1 hz
        obtain ⟨i, hi, rfl⟩ := List.getElem_of_mem hx
        obtain ⟨z, hz, hw⟩ := hE i (by omega)
        rw [List.getElem?_eq_getElem hi] at hz
        simp only [Option.some.injEq] at hz
        rw [hz]
        exact hw
    · simp at h
end

/-- A slice of bytes, as it came in. -/
def InRow (W : World) (a : Option Addr) (l c : Nat) : Prop :=
  (a = none ∧ l = 0 ∧ c = 0) ∨ ∃ (y : Addr) (zs : List Int), a = some y ∧ l ≤ c ∧ c ≤ maxLen ∧ zs.length = c ∧ (∀ i, i < zs.length → W.cell? (y.add i) = some (.int .u8 (zs.getD i 0))) ∧ ∀ n ∈ zs, (Lit.int .u8 n).wf = true

theorem InRow.le {W : World} {a : Option Addr} {l c : Nat} (h : InRow W a l c) : l ≤ 9223372036854775807 := by
  rcases h with ⟨_, rfl, _⟩ | ⟨_, _, _, h1, h2, _⟩
  · omega
  · unfold maxLen at h2; omega

theorem spot_none {w : World} {x : Addr} {v : Value} (c0 : w.cell? (x.add 0) = some v) : x.spot = none := by
  have e : x.add 0 = x := rfl
  rw [e] at c0
  unfold World.cell? at c0
  split at c0
  · split at c0
    · cases c0
    · rename_i hs; simpa using hs
  · cases c0

theorem addr_plus (g o i : Nat) : (⟨g, o, none⟩ : Addr).add i = ⟨g, o + i, none⟩ := by unfold Addr.add; split <;> simp_all

theorem u8_wf {y : Int} (h : (Lit.int .u8 y).wf = true) : 0 ≤ y ∧ y ≤ 255 := by
  have hmin : IntKind.u8.min = 0 := rfl
  have hmax : IntKind.u8.max = 255 := rfl
  simp only [Lit.wf, Bool.and_eq_true, decide_eq_true_eq] at h
  omega

theorem i64_wf {y : Int} (h : (Lit.int .i64 y).wf = true) : -9223372036854775808 ≤ y ∧ y ≤ 9223372036854775807 := by
  have hmin : IntKind.i64.min = -9223372036854775808 := rfl
  have hmax : IntKind.i64.max = 9223372036854775807 := rfl
  simp only [Lit.wf, Bool.and_eq_true, decide_eq_true_eq] at h
  omega
theorem InRow.bytes {w : World} {a : Option Addr} {len cap : Nat} (h : InRow w a len cap) (hl : len ≤ 140737488355328) : ∃ bs : List Int, bs.length = len ∧ Tlv.BySl 0 w.heap.size w (.slice a len cap) bs := by
  rcases h with ⟨rfl, rfl, rfl⟩ | ⟨x, zs, rfl, h1, h2, h3, h4, h5⟩
  · exact ⟨[], rfl, Tlv.BySl.none _ _ _⟩
  · have hlen : (zs.take len).length = len := List.length_take_of_le (by omega)
    refine ⟨zs.take len, hlen, _, cap, by rw [hlen], by rw [hlen]; exact h1, h2, by simp, by rw [hlen]; omega, fun y hy => u8_wf (h5 y (List.mem_of_mem_take hy)), fun hne => ?_⟩
    have hpos : 0 < len := by have := List.length_pos_iff.2 hne; omega
    have c0 := h4 0 (by omega)
    have hx := spot_none c0
    obtain ⟨b, o, s⟩ := x
    simp only at hx
    subst hx
    refine ⟨b, o, rfl, Nat.zero_le _, World.block_lt_of_cell? w _ c0, fun i hi => ?_⟩
    have := h4 i (by omega)
    rw [addr_plus] at this
    rw [this]
    rw [hlen] at hi
    simp [hi]

set_option maxRecDepth 100000 in
/-- A record's cells that came in. -/
theorem rec_cells {H : Type} {enc : TypeId × Value → H} {W : World} {fuel : Nat} {cs : List Value} {x : DataW H × List MemPlace} (h : DataW.trod enc Tryz.prog W 0 (fun _ => true) true fuel 68 cs = some x) :
    ∃ (k : Int) (nm : List Int) (a : Option Addr) (l c : Nat), cs = recA k nm (.slice a l c) ∧ nm.length = 32 ∧ (∀ y ∈ nm, 0 ≤ y ∧ y ≤ 255) ∧ InRow W a l c := by
  obtain ⟨y0, y1, y2, n, _, hl, h0, h1, h2⟩ := Go.Deep.trod_struct3 Tryz.underlying68 h
  have e26 : Tryz.prog.cellsOf 68 = 34 := by kernel_rfl
  have e3 : Tryz.prog.cellsOf 3 = 1 := by kernel_rfl
  have e23 : Tryz.prog.cellsOf 53 = 32 := by kernel_rfl
  have e24 : Tryz.prog.cellsOf 54 = 1 := by kernel_rfl
  rw [e26] at hl
  simp only [e3, e23, e24] at h0 h1 h2
  obtain ⟨k, hk, _, _⟩ := DataW.trod_int Tryz.underlying3 h0
  obtain ⟨nm, hnm, hnl, hwf⟩ := arr_ints Tryz.underlying53 Tryz.underlying5 (by kernel_rfl) (by simp; omega) h1
  have split : cs = cs.take 1 ++ ((cs.drop 1).take 32 ++ (cs.drop 33).take 1) := by
    have e1 : (cs.drop 33).take 1 = cs.drop 33 := List.take_of_length_le (by simp; omega)
    have e2 : (cs.drop 1).take 32 ++ cs.drop 33 = cs.drop 1 := by
      have h : (cs.drop 1).drop 32 = cs.drop 33 := by rw [List.drop_drop]
      rw [← h, List.take_append_drop]
    rw [e1, e2, List.take_append_drop]
  simp only [List.drop_zero] at hk
  rcases open_ints Tryz.underlying54 Tryz.underlying5 (by kernel_rfl) h2 with ⟨hcs, _⟩ | ⟨y, l, c, zs, hcs, _, hlc, hmx, hz, _, hcell, hwz⟩
  · refine ⟨k, nm, none, 0, 0, ?_, hnl, fun y hy => u8_wf (hwf y hy), .inl ⟨rfl, rfl, rfl⟩⟩
    rw [split, hk, hnm, hcs]
    rfl
  · refine ⟨k, nm, some y, l, c, ?_, hnl, fun y hy => u8_wf (hwf y hy), .inr ⟨y, zs, rfl, hlc, hmx, by simpa using hz, hcell, hwz⟩⟩
    rw [split, hk, hnm, hcs]
    rfl

end Go.Proofs.YtaaioaocjfpajaaGreatDoor
end

section
/-
  A list of records that came in, opened.
-/
namespace Go.Proofs.YtaaioaocjfpajaaGreatDoor
open Go.RowKit Go.ChangeShapes Go.WideShapes

theorem mapM_get {α β : Type} {f : α → Option β} : ∀ (L : List α) (ys : List β), L.mapM f = some ys → ∀ i : Nat, ys[i]? = (L[i]?).bind f
  | [], ys, h, i => by
    simp only [List.mapM_nil, pure, Option.some.injEq] at h
    subst h
    simp
  | a :: L, ys, h, i => by
    rw [List.mapM_cons] at h
    simp only [bind, Option.bind_eq_some_iff, pure, Option.some.injEq] at h
    obtain ⟨y, hy, zs, hzs, rfl⟩ := h
    cases i with
    | zero => simp [hy]
    | succ i => simpa using mapM_get L zs hzs i

theorem cells_get {w : World} {base n : Nat} {a : Addr} {cs : List Value} (h : w.cells? base a n = some cs) (i : Nat) (hi : i < n) : w.cell? (a.add i) = cs[i]? := by
  unfold World.cells? at h
  split at h
  · have := mapM_get _ _ h i
    rw [List.getElem?_range hi] at this
    exact this.symm
  · cases h

/-- One of the list: kind, name, and the body's slice. -/
abbrev Raw : Type := Int × List Int × Option Addr × Nat × Nat
def rawC (t : Raw) : List Value := recA t.1 t.2.1 (.slice t.2.2.1 t.2.2.2.1 t.2.2.2.2)

set_option maxRecDepth 100000 in
theorem recs_of {H : Type} {enc : TypeId × Value → H} {W : World} {a0 : Option Addr} {len cap fuel : Nat} {x : DataW H × List MemPlace}
    (h : DataW.trod enc Tryz.prog W 0 (fun _ => true) true fuel 35 [.slice a0 len cap] = some x) :
    len ≤ maxLen ∧ ∃ ts : List Raw, ts.length = len ∧ ∀ j t, ts[j]? = some t → (t.2.1.length = 32 ∧ ∀ y ∈ t.2.1, 0 ≤ y ∧ y ≤ 255) ∧ InRow W t.2.2.1 t.2.2.2.1 t.2.2.2.2 ∧
      ∃ g o, a0 = some ⟨g, o, none⟩ ∧ g < W.heap.size ∧ W.rangeAt g (o + j * 34) (rawC t) := by
  rcases Go.Deep.open_slice Tryz.underlying35 h with ⟨hcs, _⟩ | ⟨a, l, c, m, n, D, Pl, hcs, _, hl, hm, hmm, _, hr⟩
  · simp only [List.cons.injEq, Value.slice.injEq, and_true] at hcs
    obtain ⟨rfl, rfl, rfl⟩ := hcs
    exact ⟨Nat.zero_le _, [], rfl, fun j t h => by simp at h⟩
  · simp only [List.cons.injEq, Value.slice.injEq, and_true] at hcs
    obtain ⟨rfl, rfl, rfl⟩ := hcs
    simp only [if_true] at hmm
    subst hmm
    have e26 : Tryz.prog.cellsOf 68 = 34 := by kernel_rfl
    rw [e26] at hr
    refine ⟨by omega, ?_⟩
    have each : ∀ r, r < len → ∃ t : Raw, (t.2.1.length = 32 ∧ ∀ y ∈ t.2.1, 0 ≤ y ∧ y ≤ 255) ∧ InRow W t.2.2.1 t.2.2.2.1 t.2.2.2.2 ∧ ∀ i, i < 34 → W.cell? ((a.add (r * 34)).add i) = (rawC t)[i]? := by
      intro r hr1
      obtain ⟨cs', h1, h2⟩ := hr r (by omega)
      obtain ⟨k, nm, b, l', c', rfl, w1, w2, hb⟩ := rec_cells h2
      exact ⟨(k, nm, b, l', c'), ⟨w1, w2⟩, hb, fun i hi => cells_get h1 i hi⟩
    obtain ⟨y, hy⟩ := Go.Deep.choose_lt each
    refine ⟨(List.range len).map y, by simp, fun j t hj => ?_⟩
    have hjl : j < len := by
      have := (List.getElem?_eq_some_iff.1 hj).1
      simpa using this
    simp only [List.getElem?_map, List.getElem?_range hjl, Option.map_some, Option.some.injEq] at hj
    subst hj
    obtain ⟨h1, h2, h3⟩ := hy j hjl
    refine ⟨h1, h2, ?_⟩
    have h00 := (hy 0 (by omega)).2.2 0 (by omega)
    have ha : a.spot = none := by
      rw [Nat.zero_mul] at h00
      have e : (a.add 0) = a := rfl
      rw [e] at h00
      exact spot_none h00
    obtain ⟨b, o, s⟩ := a
    simp only at ha
    subst ha
    refine ⟨b, o, rfl, ?_, fun i v hv => ?_⟩
    · rw [addr_plus, addr_plus] at h00
      exact World.block_lt_of_cell? W _ h00
    · have hi : i < 34 := by
        have := (List.getElem?_eq_some_iff.1 hv).1
        rw [rawC, recA_length _ _ _ h1.1] at this
        exact this
      have h := h3 i hi
      rw [addr_plus, addr_plus, hv] at h
      exact h

/-- The same list, where no body is long. -/
theorem els_of {W : World} {a0 : Option Addr} {ts : List Raw} (h : ∀ j t, ts[j]? = some t → (t.2.1.length = 32 ∧ ∀ y ∈ t.2.1, 0 ≤ y ∧ y ≤ 255) ∧ InRow W t.2.2.1 t.2.2.2.1 t.2.2.2.2 ∧ ∃ g o, a0 = some ⟨g, o, none⟩ ∧ g < W.heap.size ∧ W.rangeAt g (o + j * 34) (rawC t))
    (hs : ∀ t ∈ ts, t.2.2.2.1 ≤ 140737488355328) :
    ∃ ys : List El, ys.length = ts.length ∧ (ys.map fun y => y.1.2.2.length) = (ts.map fun t => t.2.2.2.1) ∧ (∀ y ∈ ys, elOk y) ∧ (∀ j y, ys[j]? = some y → ∃ g o, a0 = some ⟨g, o, none⟩ ∧ g < W.heap.size ∧ W.rangeAt g (o + j * 34) (elC y)) ∧ ∀ y ∈ ys, Tlv.BySl 0 W.heap.size W (elV y) y.1.2.2 := by
  have each : ∀ r, r < ts.length → ∃ bs : List Int, ∀ t, ts[r]? = some t → bs.length = t.2.2.2.1 ∧ Tlv.BySl 0 W.heap.size W (.slice t.2.2.1 t.2.2.2.1 t.2.2.2.2) bs := fun r hr => by
    obtain ⟨bs, b1, b2⟩ := (h r ts[r] (List.getElem?_eq_getElem hr)).2.1.bytes (hs _ (List.getElem_mem hr))
    refine ⟨bs, fun t ht => ?_⟩
    rw [List.getElem?_eq_getElem hr, Option.some.injEq] at ht
    subst ht
    exact ⟨b1, b2⟩
  obtain ⟨f, hf⟩ := Go.Deep.choose_lt each
  have key : ∀ (j : Nat) (y : El), ((List.range ts.length).map fun j => (((ts.getD j (0, [], none, 0, 0)).1, (ts.getD j (0, [], none, 0, 0)).2.1, f j), (ts.getD j (0, [], none, 0, 0)).2.2.1, (ts.getD j (0, [], none, 0, 0)).2.2.2.2))[j]? = some y →
      ∃ t, ts[j]? = some t ∧ y = ((t.1, t.2.1, f j), t.2.2.1, t.2.2.2.2) ∧ (f j).length = t.2.2.2.1 ∧ Tlv.BySl 0 W.heap.size W (.slice t.2.2.1 t.2.2.2.1 t.2.2.2.2) (f j) := fun j y hy => by
    have hjl : j < ts.length := by
      have := (List.getElem?_eq_some_iff.1 hy).1
      simpa using this
    simp only [List.getElem?_map, List.getElem?_range hjl, Option.map_some, Option.some.injEq] at hy
    subst hy
    refine ⟨ts[j], List.getElem?_eq_getElem hjl, ?_, hf j hjl _ (List.getElem?_eq_getElem hjl)⟩
    rw [List.getD_eq_getElem?_getD, List.getElem?_eq_getElem hjl]
    rfl
  refine ⟨(List.range ts.length).map fun j => (((ts.getD j (0, [], none, 0, 0)).1, (ts.getD j (0, [], none, 0, 0)).2.1, f j), (ts.getD j (0, [], none, 0, 0)).2.2.1, (ts.getD j (0, [], none, 0, 0)).2.2.2.2), by simp, ?_, fun y hy => ?_, fun j y hj => ?_, fun y hy => ?_⟩
  · apply List.ext_getElem?
    intro j
    by_cases hjl : j < ts.length
    · obtain ⟨b1, _⟩ := hf j hjl _ (List.getElem?_eq_getElem hjl)
      simp [hjl, b1]
    · rw [List.getElem?_eq_none (by simp; omega), List.getElem?_eq_none (by simp; omega)]
  · obtain ⟨j, hj⟩ := List.mem_iff_getElem?.1 hy
    obtain ⟨t, ht, rfl, _⟩ := key j y hj
    exact (h j t ht).1
  · obtain ⟨t, ht, rfl, e, _⟩ := key j y hj
    obtain ⟨g, o, h1, h2, h3⟩ := (h j t ht).2.2
    refine ⟨g, o, h1, h2, ?_⟩
    have : elC ((t.1, t.2.1, f j), t.2.2.1, t.2.2.2.2) = rawC t := by
      show recA t.1 t.2.1 (.slice t.2.2.1 (f j).length t.2.2.2.2) = _
      rw [e]
      rfl
    rw [this]
    exact h3
  · obtain ⟨j, hj⟩ := List.mem_iff_getElem?.1 hy
    obtain ⟨t, ht, rfl, e, hb⟩ := key j y hj
    show Tlv.BySl 0 W.heap.size W (.slice t.2.2.1 (f j).length t.2.2.2.2) (f j)
    rw [e]
    exact hb

end Go.Proofs.YtaaioaocjfpajaaGreatDoor
end

section
/-
  Calls of a script that came in, opened; are they few, and short?
-/
namespace Go.Proofs.YtaaioaocjfpajaaGreatDoor.Sim
open Go.RowKit Go.ChangeShapes Go.WideShapes

theorem mapM_get {α β : Type} {f : α → Option β} : ∀ (L : List α) (ys : List β), L.mapM f = some ys → ∀ i : Nat, ys[i]? = (L[i]?).bind f
  | [], ys, h, i => by
    simp only [List.mapM_nil, pure, Option.some.injEq] at h
    subst h
    simp
  | a :: L, ys, h, i => by
    rw [List.mapM_cons] at h
    simp only [bind, Option.bind_eq_some_iff, pure, Option.some.injEq] at h
    obtain ⟨y, hy, zs, hzs, rfl⟩ := h
    cases i with
    | zero => simp [hy]
    | succ i => simpa using mapM_get L zs hzs i
theorem cells_get {w : World} {base n : Nat} {a : Addr} {cs : List Value} (h : w.cells? base a n = some cs) (i : Nat) (hi : i < n) : w.cell? (a.add i) = cs[i]? := by
  unfold World.cells? at h
  split at h
  · have := mapM_get _ _ h i
    rw [List.getElem?_range hi] at this
    exact this.symm
  · cases h
theorem spot_none {w : World} {x : Addr} {v : Value} (c0 : w.cell? (x.add 0) = some v) : x.spot = none := by
  have e : x.add 0 = x := rfl
  rw [e] at c0
  unfold World.cell? at c0
  split at c0
  · split at c0
    · cases c0
    · rename_i hs; simpa using hs
  · cases c0
theorem u8_wf {y : Int} (h : (Lit.int .u8 y).wf = true) : 0 ≤ y ∧ y ≤ 255 := by
  have hmin : IntKind.u8.min = 0 := rfl
  have hmax : IntKind.u8.max = 255 := rfl
  simp only [Lit.wf, Bool.and_eq_true, decide_eq_true_eq] at h
  omega
theorem i64_wf {y : Int} (h : (Lit.int .i64 y).wf = true) : -9223372036854775808 ≤ y ∧ y ≤ 9223372036854775807 := by
  have hmin : IntKind.i64.min = -9223372036854775808 := rfl
  have hmax : IntKind.i64.max = 9223372036854775807 := rfl
  simp only [Lit.wf, Bool.and_eq_true, decide_eq_true_eq] at h
  omega

/-- A slice of numbers, as it came in. -/
def InR (q : IntKind) (W : World) (a : Option Addr) (l c : Nat) : Prop :=
  (a = none ∧ l = 0 ∧ c = 0) ∨ ∃ (y : Addr) (zs : List Int), a = some y ∧ l ≤ c ∧ c ≤ maxLen ∧ zs.length = c ∧ (∀ i, i < zs.length → W.cell? (y.add i) = some (.int q (zs.getD i 0))) ∧ ∀ n ∈ zs, (Lit.int q n).wf = true
theorem InR.le {q : IntKind} {W : World} {a : Option Addr} {l c : Nat} (h : InR q W a l c) : l ≤ 9223372036854775807 := by
  rcases h with ⟨_, rfl, _⟩ | ⟨_, _, _, h1, h2, _⟩
  · omega
  · unfold maxLen at h2; omega
/-- Its numbers, and where they lie. -/
theorem InR.nums {q : IntKind} {w : World} {a : Option Addr} {len cap : Nat} (h : InR q w a len cap) : ∃ zs : List Int, zs.length = len ∧ len ≤ cap ∧ cap ≤ maxLen ∧ (a = none → zs = [] ∧ cap = 0) ∧ (∀ z ∈ zs, (Lit.int q z).wf = true) ∧
    (zs ≠ [] → ∃ g o, a = some ⟨g, o, none⟩ ∧ g < w.heap.size ∧ ∀ i, i < zs.length → w.cell? ⟨g, o + i, none⟩ = some (.int q (zs.getD i 0))) := by
  rcases h with ⟨rfl, rfl, rfl⟩ | ⟨x, zs, rfl, h1, h2, h3, h4, h5⟩
  · exact ⟨[], rfl, Nat.le_refl _, Nat.zero_le _, fun _ => ⟨rfl, rfl⟩, by simp, fun h => absurd rfl h⟩
  · have hlen : (zs.take len).length = len := List.length_take_of_le (by omega)
    refine ⟨zs.take len, hlen, h1, h2, by simp, fun z hz => h5 z (List.mem_of_mem_take hz), fun hne => ?_⟩
    have hpos : 0 < len := by have := List.length_pos_iff.2 hne; omega
    have c0 := h4 0 (by omega)
    have hx := spot_none c0
    obtain ⟨b, o, s⟩ := x
    simp only at hx
    subst hx
    refine ⟨b, o, rfl, World.block_lt_of_cell? w _ c0, fun i hi => ?_⟩
    have := h4 i (by omega)
    rw [addr_add] at this
    rw [this]
    rw [hlen] at hi
    simp [hi]
theorem InR.bytes {w : World} {a : Option Addr} {len cap : Nat} (h : InR .u8 w a len cap) (hle : len ≤ 140737488355328) : ∃ bs : List Nat, bs.length = len ∧ ByP (· < w.heap.size) w (.slice a len cap) bs := by
  obtain ⟨zs, h1, h2, h3, h4, h5, h6⟩ := h.nums
  have hb : ∀ z ∈ zs, 0 ≤ z ∧ z ≤ 255 := fun z hz => u8_wf (h5 z hz)
  have hmap : (zs.map Int.toNat).length = len := by simpa using h1
  refine ⟨zs.map Int.toNat, hmap, a, cap, by rw [hmap], by omega, h3, fun ha => ?_, by omega, fun x hx => ?_, fun hne => ?_⟩
  · obtain ⟨e1, e2⟩ := h4 ha; subst e1; exact ⟨rfl, e2⟩
  · obtain ⟨z, hz, rfl⟩ := List.mem_map.1 hx
    have := hb z hz
    omega
  · obtain ⟨g, o, e, hg, hc⟩ := h6 (fun e => hne (by rw [e]; rfl))
    refine ⟨g, o, e, hg, hg, fun i hi => ?_⟩
    have hi' : i < zs.length := by simpa using hi
    rw [hc i hi', List.getD_eq_getElem?_getD, List.getD_eq_getElem?_getD, List.getElem?_map, List.getElem?_eq_getElem hi']
    have := hb _ (List.getElem_mem hi')
    simp only [Option.getD_some, Option.map_some]
    rw [Int.toNat_of_nonneg this.1]
theorem InR.ints {w : World} {a : Option Addr} {len cap : Nat} (h : InR .i64 w a len cap) (hl : len ≤ 1000) : ∃ zs : List Int, zs.length = len ∧ IntsAt (· < w.heap.size) w (.slice a len cap) zs := by
  obtain ⟨zs, h1, h2, h3, h4, h5, h6⟩ := h.nums
  refine ⟨zs, h1, a, cap, by rw [h1], by omega, h3, by omega, fun hne => ?_⟩
  obtain ⟨g, o, e, hg, hc⟩ := h6 hne
  exact ⟨g, o, e, hg, hg, hc⟩

/-- A call as it came in. -/
structure RawOp where
  k : Int
  s : ByteArray
  t : ByteArray
  a : Option Addr
  l : Nat
  c : Nat
  z : Int
  y : Nat
  a' : Option Addr
  l' : Nat
  c' : Nat
def RawOp.cells (o : RawOp) : List Value := [.int .i64 o.k, .string o.s, .string o.t, .slice o.a o.l o.c, .int .i64 o.z, .int .u8 (o.y : Int), .slice o.a' o.l' o.c']
theorem in_of {H : Type} {enc : TypeId × Value → H} {W : World} {q : IntKind} {t e : TypeId} (ht : Tryz.prog.underlying t = some (.slice e)) (he : Tryz.prog.underlying e = some (.int q)) (hc : Tryz.prog.cellsOf e = 1) {fuel : Nat} {cs : List Value} {x : DataW H × List MemPlace}
    (h : DataW.trod enc Tryz.prog W 0 (fun _ => true) true fuel t cs = some x) : ∃ a l c, cs = [.slice a l c] ∧ InR q W a l c := by
  rcases open_ints ht he hc h with ⟨hcs, _⟩ | ⟨y, l, c, zs, hcs, _, hlc, hmx, hz, _, hcell, hwz⟩
  · exact ⟨none, 0, 0, hcs, .inl ⟨rfl, rfl, rfl⟩⟩
  · exact ⟨some y, l, c, hcs, .inr ⟨y, zs, rfl, hlc, hmx, by simpa using hz, hcell, hwz⟩⟩

/-! ### Few, and short -/
def shortB (t : RawOp) : Bool := decide (t.s.size ≤ 60) && decide (t.t.size ≤ 60) && decide (t.l ≤ 200) && decide (t.l' ≤ 60)
def lightB (n : Nat) (ts : List RawOp) : Bool := decide (ts.length ≤ n) && ts.all shortB
end Go.Proofs.YtaaioaocjfpajaaGreatDoor.Sim
end

section
/-
  Lists of records that came in, opened.
-/
namespace Go.Proofs.YtaaioaocjfpajaaGreatDoor.Sh
open Go.RowKit Go.ChangeShapes Go.WideShapes
open Tlv (BySlS)
open Sim (hid Kp No)

/-- A list that came in, raw. -/
def RawL (w : World) (a : Option Addr) (ts : List Raw) : Prop := ∀ (j : Nat) (t : Raw), ts[j]? = some t → (t.2.1.length = 32 ∧ ∀ y ∈ t.2.1, 0 ≤ y ∧ y ≤ 255) ∧ InRow w t.2.2.1 t.2.2.2.1 t.2.2.2.2 ∧ ∃ g o, a = some ⟨g, o, none⟩ ∧ g < w.heap.size ∧ w.rangeAt g (o + j * 34) (rawC t)
theorem bySl_lift {B : Nat} {w : World} {v : Value} {bs : List Int} (h : Tlv.BySl 0 B w v bs) : BySlS (fun g => g < B) w v bs := by
  obtain ⟨a, c, e, h1, h2, h3, h4, h5, h6⟩ := h
  refine ⟨a, c, e, h1, h2, h3, h4, h5, fun h => ?_⟩
  obtain ⟨b, o, e, _, hb, hc⟩ := h6 h
  exact ⟨b, o, e, hb, hc⟩
set_option maxHeartbeats 1000000 in
/-- Many are not light. -/
theorem light_long (a : Option Addr) (L cap : Nat) (w : World) (h1 : 20 < (L : Int)) (_hL : L ≤ 9223372036854775807) :
    Calls Tryz.prog 9 #[.slice a L cap] w fun e w' => e = .returned (.bool false) ∧ w' = w := by
  go_enter Tryz.func9, Tryz.ntmps9
  go_wp2
  go_ret
  exact ⟨rfl, rfl⟩

/-- Of such a list it is known whether it is light, and its records. -/
theorem lin_of (w : World) (a : Option Addr) (c : Nat) (ts : List Raw) (hm : ts.length ≤ 9223372036854775807) (h : RawL w a ts) : LIn w a ts.length c := by
  by_cases hl : 20 < (ts.length : Int)
  · exact ⟨false, fun V _ => light_long a ts.length c V hl (by omega), fun e => by cases e⟩
  · refine ⟨lightB (ts.map fun t => t.2.2.2.1), fun V k => ?_, fun hb => ?_⟩
    · have hli := light_any a c (ts.map fun t => t.2.2.2.1) V (by rw [List.length_map]; omega) (fun l hl => by
        obtain ⟨t, ht, rfl⟩ := List.mem_map.1 hl
        obtain ⟨j, hj⟩ := List.mem_iff_getElem?.1 ht
        exact (h j t hj).2.1.le) (fun i hi => by
        rw [List.length_map] at hi
        obtain ⟨h1, _, g, o, h2, hg, h3⟩ := h i ts[i] (List.getElem?_eq_getElem hi)
        refine ⟨g, o, ts[i].2.2.1, ts[i].2.2.2.2, h2, ?_⟩
        have h4 := h3 33 _ (recA_33 _ _ _ h1.1)
        rw [(k.cell (p := ⟨g, _, none⟩) hg (fun e => e)).trans h4, List.getD_eq_getElem?_getD, List.getElem?_map, List.getElem?_eq_getElem hi]
        rfl)
      rw [List.length_map] at hli
      exact hli
    · have hs : ∀ t ∈ ts, t.2.2.2.1 ≤ 140737488355328 := fun t ht => by
        simp [lightB] at hb
        have h1 : t.2.2.2.1 ≤ 5100 := hb.2 _ _ _ _ _ ht
        exact Nat.le_trans h1 (by omega)
      obtain ⟨ys, y1, y2, y3, y4, y5⟩ := els_of h hs
      refine ⟨by omega, ys, y1, a, c, by rw [y1], fun z hz => ⟨y3 z hz, BySlS.mono (bySl_lift (y5 z hz)) (fun g hg => ⟨hg, hg⟩)⟩, fun i z hz => ?_⟩
      obtain ⟨g, o, e, hg, hr⟩ := y4 i z hz
      exact ⟨g, o, e, hg, hg, hr⟩

set_option maxRecDepth 100000 in
theorem lists_of {H : Type} {enc : TypeId × Value → H} {W : World} {a0 : Option Addr} {len cap fuel : Nat} {x : DataW H × List MemPlace}
    (h : DataW.trod enc Tryz.prog W 0 (fun _ => true) true fuel 22 [.slice a0 len cap] = some x) :
    len ≤ maxLen ∧ ∀ i, i < len → ∃ g o a n c, a0 = some ⟨g, o, none⟩ ∧ g < W.heap.size ∧ W.cell? ⟨g, o + i, none⟩ = some (.slice a n c) ∧ n ≤ maxLen ∧ ∃ ts : List Raw, ts.length = n ∧ RawL W a ts := by
  rcases Go.Deep.open_slice Tryz.underlying22 h with ⟨hcs, _⟩ | ⟨a, l, c, m, n, D, Pl, hcs, _, hl, hm, hmm, _, hr⟩
  · simp only [List.cons.injEq, Value.slice.injEq, and_true] at hcs
    obtain ⟨rfl, rfl, rfl⟩ := hcs
    exact ⟨Nat.zero_le _, fun i hi => by omega⟩
  · simp only [List.cons.injEq, Value.slice.injEq, and_true] at hcs
    obtain ⟨rfl, rfl, rfl⟩ := hcs
    simp only [if_true] at hmm
    subst hmm
    have e1 : Tryz.prog.cellsOf 35 = 1 := by kernel_rfl
    rw [e1] at hr
    refine ⟨by omega, fun i hi => ?_⟩
    have one : ∀ r, r < len → ∃ (ai : Option Addr) (li ci : Nat), W.cell? (a.add r) = some (.slice ai li ci) ∧ li ≤ maxLen ∧ ∃ ts : List Raw, ts.length = li ∧ RawL W ai ts := by
      intro r hr1
      obtain ⟨cs', h1, h2⟩ := hr r (by omega)
      have hc := cells_get h1 0 (by omega)
      rw [Nat.mul_one] at hc
      have ea : (a.add r).add 0 = a.add r := rfl
      rw [ea] at hc
      rcases Go.Deep.open_slice Tryz.underlying35 h2 with ⟨hcs, _⟩ | ⟨a', l', c', _, _, _, _, hcs, _⟩
      · subst hcs
        obtain ⟨hm', ts, h3, h4⟩ := recs_of h2
        exact ⟨_, _, _, hc, hm', ts, h3, h4⟩
      · subst hcs
        obtain ⟨hm', ts, h3, h4⟩ := recs_of h2
        exact ⟨_, _, _, hc, hm', ts, h3, h4⟩
    obtain ⟨a1, l1, c1, hc0, _⟩ := one 0 (by omega)
    have ha : a.spot = none := spot_none hc0
    obtain ⟨b, o, s⟩ := a
    simp only at ha
    subst ha
    obtain ⟨ai, li, ci, hc, hm', ts, h3, h4⟩ := one i hi
    rw [addr_plus] at hc hc0
    exact ⟨b, o, ai, li, ci, rfl, World.block_lt_of_cell? W _ hc, hc, hm', ts, h3, h4⟩

end Go.Proofs.YtaaioaocjfpajaaGreatDoor.Sh
end

section
/-
  A world that holds the listed variables: two errors, three tables.
-/
namespace Go.Proofs.YtaaioaocjfpajaaGreatDoor
open Go.ChangeShapes Go.WideShapes Go.ChangeAt Go.RowKit

theorem own : ownKnob Tryz.prog.godebug = none := by kernel_rfl
theorem laidOut : laidOutB Tryz.prog = true := by kernel_rfl
abbrev laidFive : List (String × DataW Unit) := Rows.shelfWalksRow.laid
def lay (cells : Array Value) : Obj → Obj
  | .cells _ t frozen => .cells cells t frozen
  | o => o
def tab32 : Array Value := (Lib.deBruijn32tab.map fun n : Nat => Value.int .u8 (n : Int)).toArray
def tab64 : Array Value := (Lib.deBruijn64tab.map fun n : Nat => Value.int .u8 (n : Int)).toArray
def tab10 : Array Value := ((List.range 20).map fun n : Nat => Value.int .u64 ((10 ^ n : Nat) : Int)).toArray
def synS : ByteArray := { data := #[105, 110, 118, 97, 108, 105, 100, 32, 115, 121, 110, 116, 97, 120] }
def rngS : ByteArray := { data := #[118, 97, 108, 117, 101, 32, 111, 117, 116, 32, 111, 102, 32, 114, 97, 110, 103, 101] }
theorem laid_met (os : Os) (args : Array Value) : laidMet Tryz.prog laidFive (({ World.holding Tryz.prog os ⟨#[.cells #[.string synS] 285, .cells #[.string rngS] 285], #[], []⟩ with heap := (((((World.holding Tryz.prog os ⟨#[.cells #[.string synS] 285, .cells #[.string rngS] 285], #[], []⟩).heap.modify 1 (lay #[.iface 283 (.pointer (some ⟨10, 0, none⟩))])).modify 2 (lay #[.iface 283 (.pointer (some ⟨11, 0, none⟩))])).modify 0 (lay tab10)).modify 3 (lay tab32)).modify 4 (lay tab64) } : World).forCall (fun _ _ => 0) ⟨#[], args, []⟩).memory :=
  laidMet_of_run' 8 (by kernel_rfl) (by kernel_rfl)
end Go.Proofs.YtaaioaocjfpajaaGreatDoor
end

section
/-
  The listed variables, as the walks want them.
-/
namespace Go.Proofs.YtaaioaocjfpajaaGreatDoor
open Go.ChangeShapes Go.WideShapes Go.ChangeAt Go.RowKit

theorem star : "*" ++ "errors.errorString" = "*errors.errorString" := by decide
theorem errRow (u : TypeId) (h : Tryz.prog.typeName? 3 u = some "*errors.errorString") : u = 283 :=
  typeName_ptr_named (nm := "errors.errorString") (by rw [star]; kernel_rfl) (by kernel_rfl) (by decide) u (by rw [star]; exact h)
theorem gSyn : Tryz.prog.globalNamed "strconv.ErrSyntax" = some 1 := by kernel_rfl
theorem gRng : Tryz.prog.globalNamed "strconv.ErrRange" = some 2 := by kernel_rfl
theorem gPow : Tryz.prog.globalNamed "internal/strconv.uint64pow10" = some 0 := by kernel_rfl
theorem tSyn : (Tryz.prog.globals[1]?).map (·.type) = some 173 := by kernel_rfl
theorem tRng : (Tryz.prog.globals[2]?).map (·.type) = some 173 := by kernel_rfl
theorem tPow : (Tryz.prog.globals[0]?).map (·.type) = some 260 := by kernel_rfl
theorem cErr : Tryz.prog.cellsOf 285 = 1 := by kernel_rfl
theorem cStr : Tryz.prog.cellsOf 9 = 1 := by kernel_rfl
theorem cU64 : Tryz.prog.cellsOf 153 = 1 := by kernel_rfl
theorem cPow : Tryz.prog.cellsOf 260 = 20 := by kernel_rfl
theorem powIs : (Rows.laid_internal_strconv_uint64pow10 : DataW Unit) = Lib.tabData .u64 Lib.pow10Tab := rfl

theorem vars_of_laid {W : World} (h : laidMetH Tryz.prog laidFive W) : Vars W := by
  rw [MakeChecks.laidMetH_plain _ _ _ (by kernel_rfl)] at h
  have h0 : laidMet Tryz.prog (("math/bits.deBruijn32tab", Rows.laid_math_bits_deBruijn32tab) :: ("math/bits.deBruijn64tab", Rows.laid_math_bits_deBruijn64tab) :: ("internal/strconv.uint64pow10", Rows.laid_internal_strconv_uint64pow10) :: ("strconv.ErrRange", Rows.laid_strconv_ErrRange) :: ("strconv.ErrSyntax", Rows.laid_strconv_ErrSyntax) :: []) W := h
  have h2 := h0.tail.tail
  have h3 := h2.tail
  have h4 := h3.tail
  rw [powIs] at h2
  have t := Lib.tabIs_of_head gPow tPow Tryz.underlying260 Tryz.underlying153 cU64 cPow h2
  obtain ⟨a1, s1, v1, _⟩ := laid_sentinel h3 gRng tRng Tryz.underlying173 errRow Tryz.underlying283 Tryz.underlying285 rfl rfl Tryz.underlying9 cErr cStr
  obtain ⟨a2, s2, v2, _⟩ := laid_sentinel h4 gSyn tSyn Tryz.underlying173 errRow Tryz.underlying283 Tryz.underlying285 rfl rfl Tryz.underlying9 cErr cStr
  exact ⟨t, ⟨_, _, v2⟩, ⟨_, _, v1⟩⟩

end Go.Proofs.YtaaioaocjfpajaaGreatDoor
end

section
/-
  The closed facts of ShelfWalks's row, one by one: which functions her road reaches.
-/
namespace Go.Proofs.YtaaioaocjfpajaaGreatDoor.shelfWalks
open Go.ChangeShapes Go.WideShapes Go.ChangeAt Go.RowKit

theorem f10 : (Rows.shelfWalksRow.inPlace == Tryz.prog.inPlace 3) = true := by kernel_rfl
theorem f11 : (Rows.shelfWalksRow.unfollowed == Tryz.prog.unfollowed 3) = true := by kernel_rfl
theorem f12 : (Rows.shelfWalksRow.recurses == Tryz.prog.recurses 3) = true := by kernel_rfl
theorem f13 : (Rows.shelfWalksRow.named == Tryz.prog.varsNamed 3) = true := by kernel_rfl
theorem closed : joinedFacts Tryz.prog 3 Tryz.f3 (OpenSpec.ofChange Rows.shelfWalksSpec).bare Rows.shelfWalksRow = true := by
  unfold joinedFacts
  rw [f10, f11, f12, f13]
  kernel_rfl
end Go.Proofs.YtaaioaocjfpajaaGreatDoor.shelfWalks
end
