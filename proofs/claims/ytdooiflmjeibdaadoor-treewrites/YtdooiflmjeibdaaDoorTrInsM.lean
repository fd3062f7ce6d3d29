/-
  slices.Insert of one item: what its appends and copies do to a row of items.
-/
import Derived.Test.YtdooiflmjeibdaaDoorTrApart
import Derived.Laws.CopyRow
import Derived.Laws.CopyOwn
import Derived.Lib.AppendZerosOnto
import Derived.Shelf.Spec.SlicesInsert

namespace Go.Proofs.YtdooiflmjeibdaaDoor.Tr
open Go.RowKit

/-- append says the same by both types of slices of one element. -/
theorem append_types (t t' e ty : TypeId) (ht : Tryd.prog.underlying t = some (.slice e)) (ht' : Tryd.prog.underlying t' = some (.slice e)) (w : World) (b : Option Addr) (n c : Nat) (x : Value) :
    (Builtin.append_ #[t, t'] ty #[.slice b n c, x]).run Tryd.prog w = (Builtin.append_ #[t, t] ty #[.slice b n c, x]).run Tryd.prog w := by
  simp [Builtin.append_, run_underlying ht, run_underlying ht']

/-- copy of elements of k cells, into a row that is known whole. -/
theorem run_copyK (w : World) (dT sT ty elem : TypeId) (k g o dLen dCap : Nat) (a : Addr) (sLen sCap : Nat) (cur : List Value) (t : TypeId) (cs : List Value)
    (hu : Tryd.prog.underlying dT = some (.slice elem)) (hs : (Tryd.prog.info? elem).map (·.size) = some k)
    (hg : w.heap[g]? = some (.cells cur.toArray t (0, 0))) (hn : cs.length = Nat.min sLen dLen * k)
    (hsrc : ∀ j v, cs[j]? = some v → w.cell? (a.add j) = some v) (hfit : o + cs.length ≤ cur.length) (h1 : ∀ v ∈ cs, v.oneCell' = true) :
    (Builtin.copy_ #[dT, sT] ty #[.slice (some ⟨g, o, none⟩) dLen dCap, .slice (some a) sLen sCap]).run Tryd.prog w =
      .ok (goInt (Nat.min sLen dLen)) (w.setRow g (cur.take o ++ cs ++ cur.drop (o + cs.length)).toArray) := by
  have hl := run_loadCells_list (P := Tryd.prog) w a cs hsrc
  have hst := run_storeCells_at Tryd.prog g o t cs 0 cur.toArray w hg (by simpa using hfit) h1
  cases hq : Tryd.prog.info? elem with
  | none => simp [hq] at hs
  | some i =>
    have hi : i.size = k := by simpa [hq] using hs
    simp [Builtin.copy_, run_underlying hu, Builtin.lenOf, Builtin.firstCells, sizeOf, typeInfo, hq, hi, ← hn, hl, hst]
theorem setRow_kp (w : World) (g : Nat) (cs : Array Value) : Kp (· = g) w (w.setRow g cs) := ⟨rfl, rfl, rfl, by simp [World.setRow], fun k _ hk => setRow_other w g k cs hk⟩

theorem cellsI_append : ∀ (xs ys : List It) (us vs : List Value), us.length = xs.length → cellsI (xs ++ ys) (us ++ vs) = cellsI xs us ++ cellsI ys vs
  | [], ys, [], vs, _ => by simp [cellsI]
  | [], _, _ :: _, _, h => by simp at h
  | _ :: _, _, [], _, h => by simp at h
  | x :: xs, ys, u :: us, vs, h => by
    simp only [List.cons_append, cellsI, List.append_assoc]
    rw [cellsI_append xs ys us vs (by simpa using h)]
theorem cellsI_cut (xs : List It) (us : List Value) (i : Nat) (h : us.length = xs.length) (hi : i ≤ xs.length) : cellsI (xs.take i) (us.take i) = (cellsI xs us).take (i * 3) ∧ cellsI (xs.drop i) (us.drop i) = (cellsI xs us).drop (i * 3) := by
  have h1 := cellsI_append (xs.take i) (xs.drop i) (us.take i) (us.drop i) (by rw [List.length_take, List.length_take]; omega)
  rw [List.take_append_drop, List.take_append_drop] at h1
  have hl := cellsI_length (xs.take i) (us.take i) (by rw [List.length_take, List.length_take]; omega)
  have hl' : (cellsI (xs.take i) (us.take i)).length = i * 3 := by rw [hl, List.length_take, Nat.min_eq_left hi]
  rw [h1]
  exact ⟨by rw [← hl', List.take_left], by rw [← hl', List.drop_left]⟩

theorem IOwn.opened {w : World} {v : Value} {xs : List It} (h : IOwn w v xs) (hne : xs ≠ []) : ∃ (g cap : Nat) (cur us : List Value), v = .slice (some ⟨g, 0, none⟩) xs.length cap ∧ w.heap[g]? = some (.cells cur.toArray 33 (0, 0)) ∧ xs.length ≤ cap ∧ cap ≤ maxLen ∧
    cur.length = cap * 3 ∧ cur.take (xs.length * 3) = cellsI xs us ∧ us.length = xs.length ∧ ∀ (i : Nat) (x : It) (u : Value), xs[i]? = some x → us[i]? = some u → ByU w u x.2.2 ∧ u.oneCell' = true := by
  obtain ⟨us, hl, hr, hb⟩ := h
  rcases hr.2 with ⟨rfl, h0⟩ | ⟨g, cap, cur, rfl, _, hh, hn, hc, hs, ht⟩
  · exact absurd (List.length_eq_zero_iff.1 h0) hne
  · exact ⟨g, cap, cur.toList, us, rfl, by simpa using hh, hn, hc, by simpa using hs, ht, hl, hb⟩
theorem IOwn.closed {w : World} {g cap : Nat} {cur us : List Value} {ys : List It} (hh : w.heap[g]? = some (.cells cur.toArray 33 (0, 0))) (hn : ys.length ≤ cap) (hc : cap ≤ maxLen) (hs : cur.length = cap * 3) (ht : cur.take (ys.length * 3) = cellsI ys us) (hl : us.length = ys.length)
    (hb : ∀ (i : Nat) (x : It) (u : Value), ys[i]? = some x → us[i]? = some u → ByU w u x.2.2 ∧ u.oneCell' = true) : IOwn w (.slice (some ⟨g, 0, none⟩) ys.length cap) ys :=
  ⟨us, hl, ⟨cellsI_length ys us hl, .inr ⟨g, cap, cur.toArray, rfl, Nat.zero_le _, hh, hn, hc, by simpa using hs, by simpa using ht⟩⟩, hb⟩

/-- In place: what stood from a on is laid 3 cells further on, then X is laid over. -/
theorem splice_room (C X D : List Value) (a : Nat) (hX : X.length = 3) (h : a + 3 + D.length ≤ C.length) :
    let C1 := C.take (a + 3) ++ D ++ C.drop (a + 3 + D.length)
    let C2 := C1.take a ++ X ++ C1.drop (a + X.length)
    C1.length = C.length ∧ C2.length = C.length ∧ C2.take (a + 3 + D.length) = C.take a ++ X ++ D := by
  intro C1 C2
  have e0 : C.take (a + 3) = C.take a ++ (C.drop a).take 3 := by rw [List.take_add]
  have hla : (C.take a).length = a := by rw [List.length_take]; omega
  have hl3 : ((C.drop a).take 3).length = 3 := by rw [List.length_take, List.length_drop]; omega
  have e1 : C1 = C.take a ++ (C.drop a).take 3 ++ D ++ C.drop (a + 3 + D.length) := by show _ ++ D ++ _ = _; rw [e0]
  have e2 : C1.take a = C.take a := by rw [e1, List.append_assoc, List.append_assoc, List.take_append_of_le_length (by omega), List.take_of_length_le (by omega)]
  have e3 : C1.drop (a + X.length) = D ++ C.drop (a + 3 + D.length) := by
    rw [e1, hX, List.append_assoc, List.append_assoc, List.drop_append, List.drop_eq_nil_of_le (by omega), hla, List.drop_append, List.drop_eq_nil_of_le (by omega), hl3]
    simp
  have e4 : C2 = C.take a ++ X ++ D ++ C.drop (a + 3 + D.length) := by show C1.take a ++ X ++ C1.drop (a + X.length) = _; rw [e2, e3]; simp
  refine ⟨?_, ?_, ?_⟩
  · rw [e1]
    simp only [List.length_append, List.length_drop, hla, hl3]
    omega
  · rw [e4]
    simp only [List.length_append, List.length_drop, hla, hX]
    omega
  · rw [e4, List.take_append_of_le_length (by simp only [List.length_append, hla, hX]; omega)]
    exact List.take_of_length_le (by simp only [List.length_append, hla, hX]; omega)
/-- In a new row that begins with A: X behind A, D behind X. -/
theorem splice_grow (A Z X D : List Value) (hX : X.length = 3) (h : 3 + D.length ≤ Z.length) :
    let R := A ++ Z
    let R1 := R.take A.length ++ X ++ R.drop (A.length + X.length)
    let R2 := R1.take (A.length + 3) ++ D ++ R1.drop (A.length + 3 + D.length)
    R1.length = R.length ∧ R2.length = R.length ∧ R2.take (A.length + 3 + D.length) = A ++ X ++ D := by
  intro R R1 R2
  have e1 : R1 = A ++ X ++ Z.drop 3 := by
    show (A ++ Z).take A.length ++ X ++ (A ++ Z).drop (A.length + X.length) = _
    rw [List.take_left, hX, ← List.drop_drop, List.drop_left]
  have e2 : R1.take (A.length + 3) = A ++ X := by
    rw [e1, List.take_append_of_le_length (by simp only [List.length_append, hX]; omega)]
    exact List.take_of_length_le (by simp only [List.length_append, hX]; omega)
  have e4 : R2 = A ++ X ++ D ++ R1.drop (A.length + 3 + D.length) := by show R1.take (A.length + 3) ++ D ++ _ = _; rw [e2]
  have hl1 : R1.length = R.length := by
    rw [e1]
    show _ = (A ++ Z).length
    simp only [List.length_append, List.length_drop, hX]
    omega
  refine ⟨hl1, ?_, ?_⟩
  · rw [e4]
    simp only [List.length_append, List.length_drop, hX]
    rw [hl1]
    show _ = (A ++ Z).length
    simp only [R, List.length_append]
    omega
  · rw [e4, List.take_append_of_le_length (by simp only [List.length_append, hX]; omega)]
    exact List.take_of_length_le (by simp only [List.length_append, hX]; omega)

end Go.Proofs.YtdooiflmjeibdaaDoor.Tr
