/-
  Records that came in, opened.
-/
import Derived.Test.YthbhdbjjobfchaaFrBase
import Derived.ProofKit
import Derived.OpenShut
import Derived.Deep.Slices
import Derived.Deep.Strs
import Derived.Lib.SmallJoins
import Derived.WideKeyArr2
namespace Go.Proofs.Ythbhdbjjobfchaa
open Go.RowKit Go.ChangeShapes Go.WideShapes

theorem mapM_each {α β : Type} {f : α → Option β} : ∀ (L : List α) (ys : List β), L.mapM f = some ys → ∀ i ∈ L, ∃ y, f i = some y
  | [], _, _, i, hi => by simp at hi
  | a :: L, ys, h, i, hi => by
    rw [List.mapM_cons] at h
    simp only [bind, Option.bind_eq_some_iff, pure, Option.some.injEq] at h
    obtain ⟨y, hy, zs, hzs, _⟩ := h
    rcases List.mem_cons.1 hi with rfl | hi
    · exact ⟨y, hy⟩
    · exact mapM_each L zs hzs i hi

section
variable {H : Type} {enc : TypeId × Value → H} {P : Program} {W : World} {base : Nat} {sp : Nat → Bool} {held : Bool} {t e : TypeId} {n : Nat} {q : IntKind}
/-- The cells of an array of integers that came in. -/
theorem arr_ints (hu : P.underlying t = some (.array n e)) (he : P.underlying e = some (.int q)) (h1 : P.cellsOf e = 1) {fuel : Nat} {cs : List Value} {x : DataW H × List MemPlace} (hl : cs.length = n)
    (h : DataW.trod enc P W base sp held fuel t cs = some x) : ∃ zs : List Int, cs = zs.map (fun z => Value.int q z) ∧ zs.length = n ∧ ∀ z ∈ zs, (Lit.int q z).wf = true := by
  cases fuel with
  | zero => simp [DataW.trod] at h
  | succ m =>
    rw [DataW.trod_step] at h
    unfold DataW.trodStep at h
    simp only [hu] at h
    split at h
    · simp only [Option.map_eq_some_iff] at h
      obtain ⟨ys, hy, _⟩ := h
      have hE : ∀ i, i < n → ∃ z, cs[i]? = some (.int q z) ∧ (Lit.int q z).wf = true := fun i hi => by
        obtain ⟨y, hy⟩ := mapM_each _ ys hy i (List.mem_range.2 hi)
        obtain ⟨a, ea, _, wa⟩ := DataW.trod_int he hy
        rw [h1, Nat.mul_one] at ea
        refine ⟨a, ?_, wa⟩
        have h := congrArg (fun l : List Value => l[0]?) ea
        simpa [List.getElem?_take, List.getElem?_drop] using h
      refine ⟨cs.map intOf, ?_, by simpa using hl, ?_⟩
      · apply List.ext_getElem?
        intro i
        by_cases hi : i < n
        · obtain ⟨z, hz, _⟩ := hE i hi
          simp [hz, intOf]
        · have : cs[i]? = none := List.getElem?_eq_none (by omega)
          simp [this]
      · intro z hz
        obtain ⟨x, hx, rfl⟩ := List.mem_map.1 hz
        obtain ⟨i, hi, rfl⟩ := List.getElem_of_mem hx
        obtain ⟨z, hz, hw⟩ := hE i (by omega)
        rw [List.getElem?_eq_getElem hi] at hz
        simp only [Option.some.injEq] at hz
        rw [hz]
        exact hw
    · simp at h
end

/-- A slice of bytes, as it came in. -/
def InRow (W : World) (a : Option Addr) (l c : Nat) : Prop :=
  (a = none ∧ l = 0 ∧ c = 0) ∨ ∃ (y : Addr) (zs : List Int), a = some y ∧ l ≤ c ∧ c ≤ maxLen ∧ zs.length = c ∧ (∀ i, i < zs.length → W.cell? (y.add i) = some (.int .u8 (zs.getD i 0))) ∧ ∀ n ∈ zs, (Lit.int .u8 n).wf = true

theorem InRow.le {W : World} {a : Option Addr} {l c : Nat} (h : InRow W a l c) : l ≤ 9223372036854775807 := by
  rcases h with ⟨_, rfl, _⟩ | ⟨_, _, _, h1, h2, _⟩
  · omega
  · unfold maxLen at h2; omega

theorem spot_none {w : World} {x : Addr} {v : Value} (c0 : w.cell? (x.add 0) = some v) : x.spot = none := by
  have e : x.add 0 = x := rfl
  rw [e] at c0
  unfold World.cell? at c0
  split at c0
  · split at c0
    · cases c0
    · rename_i hs; simpa using hs
  · cases c0

theorem addr_plus (g o i : Nat) : (⟨g, o, none⟩ : Addr).add i = ⟨g, o + i, none⟩ := by unfold Addr.add; split <;> simp_all

theorem u8_wf {y : Int} (h : (Lit.int .u8 y).wf = true) : 0 ≤ y ∧ y ≤ 255 := by
  have hmin : IntKind.u8.min = 0 := rfl
  have hmax : IntKind.u8.max = 255 := rfl
  simp only [Lit.wf, Bool.and_eq_true, decide_eq_true_eq] at h
  omega

theorem i64_wf {y : Int} (h : (Lit.int .i64 y).wf = true) : -9223372036854775808 ≤ y ∧ y ≤ 9223372036854775807 := by
  have hmin : IntKind.i64.min = -9223372036854775808 := rfl
  have hmax : IntKind.i64.max = 9223372036854775807 := rfl
  simp only [Lit.wf, Bool.and_eq_true, decide_eq_true_eq] at h
  omega
theorem u32_wf {y : Int} (h : (Lit.int .u32 y).wf = true) : 0 ≤ y ∧ y ≤ 4294967295 := by
  have hmin : IntKind.u32.min = 0 := rfl
  have hmax : IntKind.u32.max = 4294967295 := rfl
  simp only [Lit.wf, Bool.and_eq_true, decide_eq_true_eq] at h
  omega

theorem InRow.bytes {w : World} {a : Option Addr} {len cap : Nat} (h : InRow w a len cap) (hl : len ≤ 140737488355328) : ∃ bs : List Int, bs.length = len ∧ Tlv.BySl 0 w.heap.size w (.slice a len cap) bs := by
  rcases h with ⟨rfl, rfl, rfl⟩ | ⟨x, zs, rfl, h1, h2, h3, h4, h5⟩
  · exact ⟨[], rfl, Tlv.BySl.none _ _ _⟩
  · have hlen : (zs.take len).length = len := List.length_take_of_le (by omega)
    refine ⟨zs.take len, hlen, _, cap, by rw [hlen], by rw [hlen]; exact h1, h2, by simp, by rw [hlen]; omega, fun y hy => u8_wf (h5 y (List.mem_of_mem_take hy)), fun hne => ?_⟩
    have hpos : 0 < len := by have := List.length_pos_iff.2 hne; omega
    have c0 := h4 0 (by omega)
    have hx := spot_none c0
    obtain ⟨b, o, s⟩ := x
    simp only at hx
    subst hx
    refine ⟨b, o, rfl, Nat.zero_le _, World.block_lt_of_cell? w _ c0, fun i hi => ?_⟩
    have := h4 i (by omega)
    rw [addr_plus] at this
    rw [this]
    rw [hlen] at hi
    simp [hi]

set_option maxRecDepth 100000 in
/-- A record's cells that came in. -/
theorem rec_cells {H : Type} {enc : TypeId × Value → H} {W : World} {fuel : Nat} {cs : List Value} {x : DataW H × List MemPlace} (h : DataW.trod enc Try.prog W 0 (fun _ => true) true fuel 26 cs = some x) :
    ∃ (k : Int) (nm : List Int) (a : Option Addr) (l c : Nat), cs = recA k nm (.slice a l c) ∧ nm.length = 32 ∧ (∀ y ∈ nm, 0 ≤ y ∧ y ≤ 255) ∧ InRow W a l c := by
  obtain ⟨y0, y1, y2, n, _, hl, h0, h1, h2⟩ := Go.Deep.trod_struct3 Try.underlying26 h
  have e26 : Try.prog.cellsOf 26 = 34 := by kernel_rfl
  have e3 : Try.prog.cellsOf 3 = 1 := by kernel_rfl
  have e23 : Try.prog.cellsOf 23 = 32 := by kernel_rfl
  have e24 : Try.prog.cellsOf 24 = 1 := by kernel_rfl
  rw [e26] at hl
  simp only [e3, e23, e24] at h0 h1 h2
  obtain ⟨k, hk, _, _⟩ := DataW.trod_int Try.underlying3 h0
  obtain ⟨nm, hnm, hnl, hwf⟩ := arr_ints Try.underlying23 Try.underlying5 (by kernel_rfl) (by simp; omega) h1
  have split : cs = cs.take 1 ++ ((cs.drop 1).take 32 ++ (cs.drop 33).take 1) := by
    have e1 : (cs.drop 33).take 1 = cs.drop 33 := List.take_of_length_le (by simp; omega)
    have e2 : (cs.drop 1).take 32 ++ cs.drop 33 = cs.drop 1 := by
      have h : (cs.drop 1).drop 32 = cs.drop 33 := by rw [List.drop_drop]
      rw [← h, List.take_append_drop]
    rw [e1, e2, List.take_append_drop]
  simp only [List.drop_zero] at hk
  rcases open_ints Try.underlying24 Try.underlying5 (by kernel_rfl) h2 with ⟨hcs, _⟩ | ⟨y, l, c, zs, hcs, _, hlc, hmx, hz, _, hcell, hwz⟩
  · refine ⟨k, nm, none, 0, 0, ?_, hnl, fun y hy => u8_wf (hwf y hy), .inl ⟨rfl, rfl, rfl⟩⟩
    rw [split, hk, hnm, hcs]
    rfl
  · refine ⟨k, nm, some y, l, c, ?_, hnl, fun y hy => u8_wf (hwf y hy), .inr ⟨y, zs, rfl, hlc, hmx, by simpa using hz, hcell, hwz⟩⟩
    rw [split, hk, hnm, hcs]
    rfl

set_option maxRecDepth 100000 in
/-- A record that came in. -/
theorem open_rec {H : Type} {enc : TypeId × Value → H} {W : World} {r : Reach} {base : Nat} {v : Value} {d : DataW H} {p : List MemPlace} (hv : Value.okWide Try.prog W r base 26 v) (h : DataW.Trod enc Try.prog W 0 (fun _ => true) true 26 v d p) :
    ∃ (k : Int) (nm : List Int) (a : Option Addr) (l c : Nat), v = .agg (recA k nm (.slice a l c)).toArray ∧ nm.length = 32 ∧ (∀ y ∈ nm, 0 ≤ y ∧ y ≤ 255) ∧ InRow W a l c := by
  obtain ⟨cs, rfl, hsz⟩ := okWide_struct Try.underlying26 hv
  obtain ⟨fuel, hf⟩ := h
  obtain ⟨k, nm, a, l, c, hcs, h1, h2, h3⟩ := rec_cells hf
  refine ⟨k, nm, a, l, c, ?_, h1, h2, h3⟩
  have : cs.toList = recA k nm (.slice a l c) := hcs
  rw [← this]

end Go.Proofs.Ythbhdbjjobfchaa
