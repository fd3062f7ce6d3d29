/-
  Calls of a script that came in, opened; are they few, and short?
-/
import Derived.Test.YtmiipifhbliamaaGreatSimUp2
import Derived.OpenShut
import Derived.Deep.Slices
import Derived.Deep.Strs
namespace Go.Proofs.YtmiipifhbliamaaGreat.Sim
open Go.RowKit Go.ChangeShapes Go.WideShapes

theorem mapM_get {α β : Type} {f : α → Option β} : ∀ (L : List α) (ys : List β), L.mapM f = some ys → ∀ i : Nat, ys[i]? = (L[i]?).bind f
  | [], ys, h, i => by
    simp only [List.mapM_nil, pure, Option.some.injEq] at h
    subst h
    simp
  | a :: L, ys, h, i => by
    rw [List.mapM_cons] at h
    simp only [bind, Option.bind_eq_some_iff, pure, Option.some.injEq] at h
    obtain ⟨y, hy, zs, hzs, rfl⟩ := h
    cases i with
    | zero => simp [hy]
    | succ i => simpa using mapM_get L zs hzs i
theorem cells_get {w : World} {base n : Nat} {a : Addr} {cs : List Value} (h : w.cells? base a n = some cs) (i : Nat) (hi : i < n) : w.cell? (a.add i) = cs[i]? := by
  unfold World.cells? at h
  split at h
  · have := mapM_get _ _ h i
    rw [List.getElem?_range hi] at this
    exact this.symm
  · cases h
theorem spot_none {w : World} {x : Addr} {v : Value} (c0 : w.cell? (x.add 0) = some v) : x.spot = none := by
  have e : x.add 0 = x := rfl
  rw [e] at c0
  unfold World.cell? at c0
  split at c0
  · split at c0
    · cases c0
    · rename_i hs; simpa using hs
  · cases c0
theorem u8_wf {y : Int} (h : (Lit.int .u8 y).wf = true) : 0 ≤ y ∧ y ≤ 255 := by
  have hmin : IntKind.u8.min = 0 := rfl
  have hmax : IntKind.u8.max = 255 := rfl
  simp only [Lit.wf, Bool.and_eq_true, decide_eq_true_eq] at h
  omega
theorem i64_wf {y : Int} (h : (Lit.int .i64 y).wf = true) : -9223372036854775808 ≤ y ∧ y ≤ 9223372036854775807 := by
  have hmin : IntKind.i64.min = -9223372036854775808 := rfl
  have hmax : IntKind.i64.max = 9223372036854775807 := rfl
  simp only [Lit.wf, Bool.and_eq_true, decide_eq_true_eq] at h
  omega

/-- A slice of numbers, as it came in. -/
def InR (q : IntKind) (W : World) (a : Option Addr) (l c : Nat) : Prop :=
  (a = none ∧ l = 0 ∧ c = 0) ∨ ∃ (y : Addr) (zs : List Int), a = some y ∧ l ≤ c ∧ c ≤ maxLen ∧ zs.length = c ∧ (∀ i, i < zs.length → W.cell? (y.add i) = some (.int q (zs.getD i 0))) ∧ ∀ n ∈ zs, (Lit.int q n).wf = true
theorem InR.le {q : IntKind} {W : World} {a : Option Addr} {l c : Nat} (h : InR q W a l c) : l ≤ 9223372036854775807 := by
  rcases h with ⟨_, rfl, _⟩ | ⟨_, _, _, h1, h2, _⟩
  · omega
  · unfold maxLen at h2; omega
/-- Its numbers, and where they lie. -/
theorem InR.nums {q : IntKind} {w : World} {a : Option Addr} {len cap : Nat} (h : InR q w a len cap) : ∃ zs : List Int, zs.length = len ∧ len ≤ cap ∧ cap ≤ maxLen ∧ (a = none → zs = [] ∧ cap = 0) ∧ (∀ z ∈ zs, (Lit.int q z).wf = true) ∧
    (zs ≠ [] → ∃ g o, a = some ⟨g, o, none⟩ ∧ g < w.heap.size ∧ ∀ i, i < zs.length → w.cell? ⟨g, o + i, none⟩ = some (.int q (zs.getD i 0))) := by
  rcases h with ⟨rfl, rfl, rfl⟩ | ⟨x, zs, rfl, h1, h2, h3, h4, h5⟩
  · exact ⟨[], rfl, Nat.le_refl _, Nat.zero_le _, fun _ => ⟨rfl, rfl⟩, by simp, fun h => absurd rfl h⟩
  · have hlen : (zs.take len).length = len := List.length_take_of_le (by omega)
    refine ⟨zs.take len, hlen, h1, h2, by simp, fun z hz => h5 z (List.mem_of_mem_take hz), fun hne => ?_⟩
    have hpos : 0 < len := by have := List.length_pos_iff.2 hne; omega
    have c0 := h4 0 (by omega)
    have hx := spot_none c0
    obtain ⟨b, o, s⟩ := x
    simp only at hx
    subst hx
    refine ⟨b, o, rfl, World.block_lt_of_cell? w _ c0, fun i hi => ?_⟩
    have := h4 i (by omega)
    rw [addr_add] at this
    rw [this]
    rw [hlen] at hi
    simp [hi]
theorem InR.bytes {w : World} {a : Option Addr} {len cap : Nat} (h : InR .u8 w a len cap) (hle : len ≤ 140737488355328) : ∃ bs : List Nat, bs.length = len ∧ ByP (· < w.heap.size) w (.slice a len cap) bs := by
  obtain ⟨zs, h1, h2, h3, h4, h5, h6⟩ := h.nums
  have hb : ∀ z ∈ zs, 0 ≤ z ∧ z ≤ 255 := fun z hz => u8_wf (h5 z hz)
  have hmap : (zs.map Int.toNat).length = len := by simpa using h1
  refine ⟨zs.map Int.toNat, hmap, a, cap, by rw [hmap], by omega, h3, fun ha => ?_, by omega, fun x hx => ?_, fun hne => ?_⟩
  · obtain ⟨e1, e2⟩ := h4 ha; subst e1; exact ⟨rfl, e2⟩
  · obtain ⟨z, hz, rfl⟩ := List.mem_map.1 hx
    have := hb z hz
    omega
  · obtain ⟨g, o, e, hg, hc⟩ := h6 (fun e => hne (by rw [e]; rfl))
    refine ⟨g, o, e, hg, hg, fun i hi => ?_⟩
    have hi' : i < zs.length := by simpa using hi
    rw [hc i hi', List.getD_eq_getElem?_getD, List.getD_eq_getElem?_getD, List.getElem?_map, List.getElem?_eq_getElem hi']
    have := hb _ (List.getElem_mem hi')
    simp only [Option.getD_some, Option.map_some]
    rw [Int.toNat_of_nonneg this.1]
theorem InR.ints {w : World} {a : Option Addr} {len cap : Nat} (h : InR .i64 w a len cap) (hl : len ≤ 1000) : ∃ zs : List Int, zs.length = len ∧ IntsAt (· < w.heap.size) w (.slice a len cap) zs := by
  obtain ⟨zs, h1, h2, h3, h4, h5, h6⟩ := h.nums
  refine ⟨zs, h1, a, cap, by rw [h1], by omega, h3, by omega, fun hne => ?_⟩
  obtain ⟨g, o, e, hg, hc⟩ := h6 hne
  exact ⟨g, o, e, hg, hg, hc⟩

/-- A call as it came in. -/
structure RawOp where
  k : Int
  s : ByteArray
  t : ByteArray
  a : Option Addr
  l : Nat
  c : Nat
  z : Int
  y : Nat
  a' : Option Addr
  l' : Nat
  c' : Nat
def RawOp.cells (o : RawOp) : List Value := [.int .i64 o.k, .string o.s, .string o.t, .slice o.a o.l o.c, .int .i64 o.z, .int .u8 (o.y : Int), .slice o.a' o.l' o.c']
structure RawOp.Ok (W : World) (o : RawOp) : Prop where
  k : -9223372036854775808 ≤ o.k ∧ o.k ≤ 9223372036854775807
  s : o.s.size ≤ maxLen
  t : o.t.size ≤ maxLen
  b : InR .u8 W o.a o.l o.c
  z : -9223372036854775808 ≤ o.z ∧ o.z ≤ 9223372036854775807
  y : o.y < 256
  n : InR .i64 W o.a' o.l' o.c'

theorem one_at {cs : List Value} {j : Nat} {v : Value} (h : (cs.drop j).take 1 = [v]) : cs[j]? = some v := by
  have := congrArg (fun l : List Value => l[0]?) h
  simpa [List.getElem?_take, List.getElem?_drop] using this
theorem in_of {H : Type} {enc : TypeId × Value → H} {W : World} {q : IntKind} {t e : TypeId} (ht : Tryz.prog.underlying t = some (.slice e)) (he : Tryz.prog.underlying e = some (.int q)) (hc : Tryz.prog.cellsOf e = 1) {fuel : Nat} {cs : List Value} {x : DataW H × List MemPlace}
    (h : DataW.trod enc Tryz.prog W 0 (fun _ => true) true fuel t cs = some x) : ∃ a l c, cs = [.slice a l c] ∧ InR q W a l c := by
  rcases open_ints ht he hc h with ⟨hcs, _⟩ | ⟨y, l, c, zs, hcs, _, hlc, hmx, hz, _, hcell, hwz⟩
  · exact ⟨none, 0, 0, hcs, .inl ⟨rfl, rfl, rfl⟩⟩
  · exact ⟨some y, l, c, hcs, .inr ⟨y, zs, rfl, hlc, hmx, by simpa using hz, hcell, hwz⟩⟩

set_option maxRecDepth 100000 in
/-- A call's cells that came in. -/
theorem op_cells {H : Type} {enc : TypeId × Value → H} {W : World} {fuel : Nat} {cs : List Value} {x : DataW H × List MemPlace} (h : DataW.trod enc Tryz.prog W 0 (fun _ => true) true fuel 35 cs = some x) :
    ∃ o : RawOp, cs = o.cells ∧ o.Ok W := by
  obtain ⟨xs, n, _, _, hl, hlen, hf⟩ := DataW.trod_struct Tryz.underlying35 h
  have e0 : Tryz.prog.cellsOf 35 = 7 := by kernel_rfl
  rw [e0] at hl
  have hx : ∀ j, j < 7 → ∃ y, xs[j]? = some y := fun j hj => ⟨xs[j]'(by rw [hlen]; exact hj), List.getElem?_eq_getElem _⟩
  have f0 := hf 0 _ rfl
  have f1 := hf 1 _ rfl
  have f2 := hf 2 _ rfl
  have f3 := hf 3 _ rfl
  have f4 := hf 4 _ rfl
  have f5 := hf 5 _ rfl
  have f6 := hf 6 _ rfl
  clear hf hlen
  obtain ⟨y0, h0⟩ := hx 0 (by omega)
  obtain ⟨y1, h1⟩ := hx 1 (by omega)
  obtain ⟨y2, h2⟩ := hx 2 (by omega)
  obtain ⟨y3, h3⟩ := hx 3 (by omega)
  obtain ⟨y4, h4⟩ := hx 4 (by omega)
  obtain ⟨y5, h5⟩ := hx 5 (by omega)
  obtain ⟨y6, h6⟩ := hx 6 (by omega)
  rw [h0] at f0
  rw [h1] at f1
  rw [h2] at f2
  rw [h3] at f3
  rw [h4] at f4
  rw [h5] at f5
  rw [h6] at f6
  obtain ⟨k, g0, _, w0⟩ := DataW.trod_int Tryz.underlying3 f0
  obtain ⟨s, g1, _, w1⟩ := DataW.trod_string Tryz.underlying9 f1
  obtain ⟨t, g2, _, w2⟩ := DataW.trod_string Tryz.underlying9 f2
  obtain ⟨a, l, c, g3, w3⟩ := in_of Tryz.underlying32 Tryz.underlying5 (by kernel_rfl) f3
  obtain ⟨z, g4, _, w4⟩ := DataW.trod_int Tryz.underlying3 f4
  obtain ⟨y, g5, _, w5⟩ := DataW.trod_int Tryz.underlying5 f5
  obtain ⟨a', l', c', g6, w6⟩ := in_of Tryz.underlying33 Tryz.underlying3 (by kernel_rfl) f6
  have hy := u8_wf w5
  refine ⟨⟨k, s, t, a, l, c, z, y.toNat, a', l', c'⟩, ?_, ⟨i64_wf w0, w1, w2, w3, i64_wf w4, by simp only; omega, w6⟩⟩
  have ey : ((y.toNat : Nat) : Int) = y := Int.toNat_of_nonneg hy.1
  apply List.ext_getElem?
  intro j
  by_cases hj : j < 7
  · rcases (by omega : j = 0 ∨ j = 1 ∨ j = 2 ∨ j = 3 ∨ j = 4 ∨ j = 5 ∨ j = 6) with rfl | rfl | rfl | rfl | rfl | rfl | rfl
    · exact one_at g0
    · exact one_at g1
    · exact one_at g2
    · exact one_at g3
    · exact one_at g4
    · exact (one_at g5).trans (by show _ = some (Value.int .u8 ((y.toNat : Nat) : Int)); rw [ey])
    · exact one_at g6
  · rw [List.getElem?_eq_none (by omega), List.getElem?_eq_none (by simp [RawOp.cells]; omega)]

set_option maxRecDepth 100000 in
/-- A script that came in. -/
theorem ops_of {H : Type} {enc : TypeId × Value → H} {W : World} {a0 : Option Addr} {len cap fuel : Nat} {x : DataW H × List MemPlace}
    (h : DataW.trod enc Tryz.prog W 0 (fun _ => true) true fuel 22 [.slice a0 len cap] = some x) :
    len ≤ maxLen ∧ ∃ ts : List RawOp, ts.length = len ∧ ∀ j t, ts[j]? = some t → t.Ok W ∧ ∃ g o, a0 = some ⟨g, o, none⟩ ∧ g < W.heap.size ∧ ∀ i v, t.cells[i]? = some v → W.cell? ⟨g, o + j * 7 + i, none⟩ = some v := by
  rcases Go.Deep.open_slice Tryz.underlying22 h with ⟨hcs, _⟩ | ⟨a, l, c, m, n, D, Pl, hcs, _, hl, hm, hmm, _, hr⟩
  · simp only [List.cons.injEq, Value.slice.injEq, and_true] at hcs
    obtain ⟨rfl, rfl, rfl⟩ := hcs
    exact ⟨Nat.zero_le _, [], rfl, fun j t h => by simp at h⟩
  · simp only [List.cons.injEq, Value.slice.injEq, and_true] at hcs
    obtain ⟨rfl, rfl, rfl⟩ := hcs
    simp only [if_true] at hmm
    subst hmm
    have e26 : Tryz.prog.cellsOf 35 = 7 := by kernel_rfl
    rw [e26] at hr
    refine ⟨by omega, ?_⟩
    have each : ∀ r, r < len → ∃ t : RawOp, t.Ok W ∧ ∀ i, i < 7 → W.cell? ((a.add (r * 7)).add i) = t.cells[i]? := by
      intro r hr1
      obtain ⟨cs', h1, h2⟩ := hr r (by omega)
      obtain ⟨t, rfl, hb⟩ := op_cells h2
      exact ⟨t, hb, fun i hi => cells_get h1 i hi⟩
    haveI : Inhabited RawOp := ⟨⟨0, ⟨#[]⟩, ⟨#[]⟩, none, 0, 0, 0, 0, none, 0, 0⟩⟩
    obtain ⟨y, hy⟩ := Go.Deep.choose_lt each
    refine ⟨(List.range len).map y, by simp, fun j t hj => ?_⟩
    have hjl : j < len := by
      have := (List.getElem?_eq_some_iff.1 hj).1
      simpa using this
    simp only [List.getElem?_map, List.getElem?_range hjl, Option.map_some, Option.some.injEq] at hj
    subst hj
    obtain ⟨h1, h3⟩ := hy j hjl
    refine ⟨h1, ?_⟩
    have h00 := (hy 0 (by omega)).2 0 (by omega)
    have ha : a.spot = none := by
      rw [Nat.zero_mul] at h00
      have e : (a.add 0) = a := rfl
      rw [e] at h00
      exact spot_none h00
    obtain ⟨b, o, s⟩ := a
    simp only at ha
    subst ha
    refine ⟨b, o, rfl, ?_, fun i v hv => ?_⟩
    · rw [addr_add, addr_add] at h00
      exact World.block_lt_of_cell? W _ h00
    · have hi : i < 7 := by
        have := (List.getElem?_eq_some_iff.1 hv).1
        simpa [RawOp.cells] using this
      have h := h3 i hi
      rw [addr_add, addr_add, hv] at h
      exact h

/-! ### Few, and short -/
def shortB (t : RawOp) : Bool := decide (t.s.size ≤ 60) && decide (t.t.size ≤ 60) && decide (t.l ≤ 200) && decide (t.l' ≤ 60)
def lightB (n : Nat) (ts : List RawOp) : Bool := decide (ts.length ≤ n) && ts.all shortB
/-- A script in memory. -/
def Ops (W : World) (a : Option Addr) (ts : List RawOp) : Prop := ∀ j t, ts[j]? = some t → t.Ok W ∧ ∃ g o, a = some ⟨g, o, none⟩ ∧ g < W.heap.size ∧ ∀ i v, t.cells[i]? = some v → W.cell? ⟨g, o + j * 7 + i, none⟩ = some v

set_option maxHeartbeats 1000000 in
set_option maxRecDepth 100000 in
theorem light_any (a : Option Addr) (cap : Nat) (ts : List RawOp) (n : Nat) (hn : n ≤ 1000) (w : World) (hm : ts.length ≤ 4611686018427387904) (h : Ops w a ts) :
    Calls Tryz.prog 5 #[.slice a ts.length cap, .int .i64 (n : Int)] w fun e w' => e = .returned (.bool (lightB n ts)) ∧ w' = w := by
  have H := hid h
  clear h
  by_cases h20 : ts.length ≤ n
  · have h20' : ¬ ((n : Int) < ts.length) := by omega
    go_enter Tryz.func5, Tryz.ntmps5
    go_wp2
    go_loop [5] (fun i => ∃ k : Nat, k ≤ ts.length ∧ i = .int .i64 k ∧ Hid (∀ t ∈ ts.take k, shortB t = true)) (fun i => ts.length - (intOf i).toNat)
    case atStart => exact ⟨0, Nat.zero_le _, rfl, fun t ht => by simp at ht⟩
    case round =>
      obtain ⟨k, hk, rfl, HJ⟩ := hrel
      by_cases hlt : k < ts.length
      · obtain ⟨hok, g, o, rfl, hg, hc⟩ := H.out k ts[k] (List.getElem?_eq_getElem hlt)
        have HN : Hid (shortB ts[k] = true → ∀ t ∈ ts.take (k + 1), shortB t = true) := by
          intro h t ht
          rw [List.take_succ_eq_append_getElem hlt] at ht
          rcases List.mem_append.1 ht with ht | ht
          · exact HJ.out t ht
          · rw [List.mem_singleton] at ht; rw [ht]; exact h
        have HB : Hid (shortB ts[k] = false → lightB n ts = false) := by
          intro h
          rw [lightB]
          have : ts.all shortB = false := by
            rw [List.all_eq_false]
            exact ⟨ts[k], List.getElem_mem hlt, by rw [h]; simp⟩
          rw [this, Bool.and_false]
        have c1 := hc 1 _ rfl
        have c2 := hc 2 _ rfl
        have c3 := hc 3 _ rfl
        have c6 := hc 6 _ rfl
        have d1 := hok.s
        have d2 := hok.t
        have d3 := hok.b.le
        have d6 := hok.n.le
        unfold maxLen at d1 d2
        have HS : Hid (shortB ts[k] = (decide (ts[k].s.size ≤ 60) && decide (ts[k].t.size ≤ 60) && decide (ts[k].l ≤ 200) && decide (ts[k].l' ≤ 60))) := rfl
        clear hok hc
        generalize ts[k].s = s1 at *
        generalize ts[k].t = s2 at *
        generalize ts[k].l = L1 at *
        generalize ts[k].l' = L2 at *
        generalize shortB ts[k] = B at *
        by_cases b1 : s1.size ≤ 60
        · have b1' : ¬ ((60 : Int) < s1.size) := by omega
          by_cases b2 : s2.size ≤ 60
          · have b2' : ¬ ((60 : Int) < s2.size) := by omega
            by_cases b3 : L1 ≤ 200
            · have b3' : ¬ ((200 : Int) < L1) := by omega
              by_cases b4 : L2 ≤ 60
              · have b4' : ¬ ((60 : Int) < L2) := by omega
                have HR := hid (HN.out (by rw [HS.out]; simp [b1, b2, b3, b4]))
                go_wp2
                go_round
                case rel => exact ⟨k + 1, by omega, by go_num, HR.out⟩
                case measure => simp [intOf]; omega
              · have b4' : (60 : Int) < L2 := by omega
                have HBB := hid (HB.out (by rw [HS.out]; simp [b4]))
                go_wp2
                go_ret
                exact ⟨by rw [HBB.out]; rfl, rfl⟩
            · have b3' : (200 : Int) < L1 := by omega
              have HBB := hid (HB.out (by rw [HS.out]; simp [b3]))
              go_wp2
              go_ret
              exact ⟨by rw [HBB.out]; rfl, rfl⟩
          · have b2' : (60 : Int) < s2.size := by omega
            have HBB := hid (HB.out (by rw [HS.out]; simp [b2]))
            go_wp2
            go_ret
            exact ⟨by rw [HBB.out]; rfl, rfl⟩
        · have b1' : (60 : Int) < s1.size := by omega
          have HBB := hid (HB.out (by rw [HS.out]; simp [b1]))
          go_wp2
          go_ret
          exact ⟨by rw [HBB.out]; rfl, rfl⟩
      · have HBB : Hid (lightB n ts = true) := by
          have hk' : k = ts.length := by omega
          rw [Hid, lightB]
          simp only [Bool.and_eq_true, decide_eq_true_eq, List.all_eq_true]
          refine ⟨h20, fun t ht => HJ.out t ?_⟩
          rw [hk', List.take_length]
          exact ht
        go_wp2
        go_ret
        exact ⟨by rw [HBB.out]; rfl, rfl⟩
  · have h20' : (n : Int) < ts.length := by omega
    have HBB : Hid (lightB n ts = false) := by rw [Hid, lightB, decide_eq_false h20, Bool.false_and]
    clear h20
    go_enter Tryz.func5, Tryz.ntmps5
    go_wp2
    go_ret
    exact ⟨by rw [HBB.out]; rfl, rfl⟩

end Go.Proofs.YtmiipifhbliamaaGreat.Sim
