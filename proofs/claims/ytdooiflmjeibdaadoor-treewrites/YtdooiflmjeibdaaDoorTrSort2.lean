/-
  slices.SortFunc of items: what a row of the call's own holds behind it.
-/
import Derived.Test.YtdooiflmjeibdaaDoorTrSort
namespace Go.Proofs.YtdooiflmjeibdaaDoor.Tr
open Go.RowKit Go.Lib Go.Sort Go.Shelf

theorem ltS (x y : Sl) : ltOf cmpS x y = bytesBefore (tx x.1.1) (tx y.1.1) := by
  unfold ltOf cmpS
  cases h : bytesBefore (tx x.1.1) (tx y.1.1) with
  | true => exact decide_eq_true ((cmp_neg _ _).2 h)
  | false => exact decide_eq_false (fun e => by rw [(cmp_neg _ _).1 e] at h; cases h)
theorem swoS : SWO (ltOf cmpS) where
  irrefl x := by rw [ltS]; exact bb_irr _
  trans x y z h1 h2 := by rw [ltS] at *; exact bb_trans _ _ _ h1 h2
  ntrans x y z h1 h2 := by
    rw [ltS] at *
    cases h : bytesBefore (tx x.1.1) (tx z.1.1) with
    | false => rfl
    | true =>
      exfalso
      cases h3 : bytesBefore (tx y.1.1) (tx x.1.1) with
      | true => rw [bb_trans _ _ _ h3 h] at h2; cases h2
      | false =>
        have e := bb_tri _ _ h1 h3
        rw [e, h2] at h
        cases h

def tri : Value → Option Addr × Nat × Nat
  | .slice a n c => (a, n, c)
  | _ => (none, 0, 0)
def unt (z : Option Addr × Nat × Nat) : Value := .slice z.1 z.2.1 z.2.2
theorem encS_itC (z : Sl) : encS z = itC z.1 (unt z.2) := rfl

/-- Items in the order of their paths. -/
def Srt (zs : List It) : Prop := zs.Pairwise (fun a b => bytesBefore (tx b.1) (tx a.1) = false)

theorem cells_of (zs : List Sl) (j : Nat) (hj : j < zs.length * 3) : (cellsI (zs.map (·.1)) (zs.map (fun z => unt z.2)))[j]? = some (encS zs.toArray[j / 3]!)[j % 3]! := by
  have hi : j / 3 < zs.length := by omega
  have h := cellsI_at (zs.map (·.1)) (zs.map (fun z => unt z.2)) (j / 3) zs[j / 3].1 (unt zs[j / 3].2) (j % 3) (by rw [List.getElem?_map, List.getElem?_eq_getElem hi]; rfl) (by rw [List.getElem?_map, List.getElem?_eq_getElem hi]; rfl) (by omega)
  rw [show j / 3 * 3 + j % 3 = j by omega] at h
  rw [h, ← encS_itC]
  have e : zs.toArray[j / 3]! = zs[j / 3] := by rw [getElem!_pos _ _ (by simpa using hi)]; simp
  rw [e]
  have hr : j % 3 < (encS zs[j / 3]).length := by show j % 3 < 3; omega
  rw [List.getElem?_eq_getElem hr, getElem!_pos (encS zs[j / 3]) (j % 3) hr]

theorem sorted_cells (zs : List Sl) (cur : Array Value) (cap : Nat) (h : cur.size = cap * 3) (hc : zs.length ≤ cap) : (putCells id 0 (flatK encS 3 zs.toArray) cur).toList.take (zs.length * 3) = cellsI (zs.map (·.1)) (zs.map (fun z => unt z.2)) := by
  have hl : (cellsI (zs.map (·.1)) (zs.map (fun z => unt z.2))).length = zs.length * 3 := by rw [cellsI_length _ _ (by simp), List.length_map]
  apply List.ext_getElem?
  intro j
  by_cases hj : j < zs.length * 3
  · rw [cells_of zs j hj, List.getElem?_take_of_lt hj, Array.getElem?_toList]
    unfold putCells
    have hjc : j < cur.size := by omega
    rw [Array.getElem?_mapIdx, Array.getElem?_eq_getElem hjc, Option.map_some, if_pos ⟨Nat.zero_le _, by rw [size_flatK]; simpa using hj⟩, Nat.sub_zero, id, get_flatK _ _ _ _ (by simpa using hj)]
  · rw [List.getElem?_eq_none (by rw [List.length_take]; omega), List.getElem?_eq_none (by omega)]

set_option maxHeartbeats 1000000 in
/-- A row of the call's own, sorted. -/
theorem sort_own (w : World) (v : Value) (ys : List It) (h : IOwn w v ys) (hne : ys ≠ []) (hl : ys.length ≤ 1000000) :
    Calls Tryd.prog 27 #[v, .func (.func 28) #[] #[]] w fun e w' => e = .returned (.tuple #[]) ∧ ∃ zs, zs.Perm ys ∧ Srt zs ∧ IOwn w' v zs ∧ Kp (fun b => v.ownBlock = some b) w w' := by
  obtain ⟨us, hul, hr, hb⟩ := h
  have hr' := hr
  rcases hr.2 with ⟨rfl, h0⟩ | ⟨g, cap, cur, rfl, hg, hh, hn, hc, hs, ht⟩
  · exact absurd (List.length_eq_zero_iff.1 h0) hne
  have hlt : g < w.heap.size := (Array.getElem?_eq_some_iff.1 hh).1
  obtain ⟨ds, hds⟩ : ∃ ds : List Sl, ds = List.zipWith (fun x u => (x, tri u)) ys us := ⟨_, rfl⟩
  have hdl : ds.length = ys.length := by rw [hds, List.length_zipWith, hul, Nat.min_self]
  have hd1 : ds.map (·.1) = ys := by
    apply List.ext_getElem (by rw [List.length_map, hdl])
    intro i h1 h2
    simp [hds]
  have hd2 : ds.map (fun z => unt z.2) = us := by
    apply List.ext_getElem (by rw [List.length_map, hdl, hul])
    intro i h1 h2
    have hy : i < ys.length := by rw [← hul]; exact h2
    obtain ⟨a, c, e⟩ := (hb i ys[i] us[i] (List.getElem?_eq_getElem hy) (List.getElem?_eq_getElem h2)).1.form
    simp only [hds, List.getElem_map, List.getElem_zipWith]
    rw [e]
    rfl
  have hH : HoldsK encS 3 w g 0 ds.toArray := by
    intro j hj
    rw [size_flatK] at hj
    have hj' : j < ds.length * 3 := by simpa using hj
    have h1 := cells_of ds j hj'
    rw [hd1, hd2] at h1
    rw [Nat.zero_add, id, get_flatK _ _ _ _ hj]
    exact ⟨(Row.cellAt hr' j (by omega)).trans h1, Blk.frozen (w := w) (b := g) (t := 33) (cs := cur.toList) (by unfold Blk; simpa using hh) j⟩
  have e : ds.toArray.size = ys.length := by simpa using hdl
  have HS := sortF_any swoS g 0 cap ds.toArray w hH hlt (by omega)
  rw [e] at HS
  refine HS.mono ?_
  rintro e' w' ⟨rfl, d', n, os, hp, hso, rfl⟩
  obtain ⟨hsz, _, hperm⟩ := hp
  obtain ⟨zs, rfl⟩ : ∃ zs : List Sl, d' = zs.toArray := ⟨d'.toList, by simp⟩
  have hzl : zs.length = ys.length := by simpa [e] using hsz
  have x1 : (zs.toArray.extract 0 ys.length).toList = zs := by rw [← hzl]; simp
  have x2 : (ds.toArray.extract 0 ys.length).toList = ds := by rw [← hdl]; simp
  rw [x1, x2] at hperm
  have hw : ∀ k, (sortWorldK encS 3 w g 0 n zs.toArray os).heap[k]? = if k = g then some (.cells (putCells id 0 (flatK encS 3 zs.toArray) cur) 33 (0, 0)) else if k < w.heap.size then w.heap[k]? else os[k - w.heap.size]? := by
    intro k
    show (w.heap.modify g (onCells (putCells id 0 (flatK encS 3 zs.toArray))) ++ os)[k]? = _
    by_cases hk : k = g
    · subst hk
      rw [if_pos rfl, Array.getElem?_append_left (by simpa using hlt), Array.getElem?_modify, if_pos rfl, hh]
      rfl
    · rw [if_neg hk]
      by_cases hk2 : k < w.heap.size
      · rw [if_pos hk2, Array.getElem?_append_left (by simpa using hk2), Array.getElem?_modify, if_neg (fun h => hk h.symm)]
      · rw [if_neg hk2, Array.getElem?_append_right (by simpa using hk2)]
        simp
  have hk : Kp (fun b => (Value.slice (some ⟨g, 0, none⟩) ys.length cap).ownBlock = some b) w (sortWorldK encS 3 w g 0 n zs.toArray os) := ⟨rfl, rfl, rfl, by
    show w.heap.size ≤ (w.heap.modify g _ ++ os).size
    simp, fun k h1 h2 => by
    rw [hw k, if_neg (by rintro rfl; exact h2 rfl), if_pos h1]⟩
  have hmem : ∀ z ∈ zs, ByU w (unt z.2) z.1.2.2 := by
    intro z hz
    obtain ⟨i, hi⟩ := List.mem_iff_getElem?.1 (hperm.mem_iff.1 hz)
    refine (hb i z.1 (unt z.2) ?_ ?_).1
    · rw [← hd1, List.getElem?_map, hi]; rfl
    · rw [← hd2, List.getElem?_map, hi]; rfl
  refine ⟨rfl, zs.map (·.1), hd1 ▸ hperm.map _, ?_, ⟨zs.map (fun z => unt z.2), by simp, ⟨?_, .inr ⟨g, cap, putCells id 0 (flatK encS 3 zs.toArray) cur, ?_, Nat.zero_le _, ?_, ?_, hc, ?_, ?_⟩⟩, ?_⟩, hk⟩
  · refine List.pairwise_iff_getElem.2 (fun i j hi hj hij => ?_)
    rw [List.length_map] at hi hj
    have h1 := hso i j (Nat.zero_le _) hij (by omega)
    rw [ltS, getElem!_pos _ _ (by simpa using hj), getElem!_pos _ _ (by simpa using hi)] at h1
    simpa using h1
  · rw [cellsI_length _ _ (by simp), List.length_map]
  · rw [List.length_map, hzl]
  · rw [hw g, if_pos rfl]
  · rw [List.length_map, hzl]; exact hn
  · rw [← hs]; simp [putCells]
  · rw [List.length_map]; exact sorted_cells zs cur cap hs (by omega)
  · intro i x u hx hu
    rw [List.getElem?_map] at hx hu
    cases hz : zs[i]? with
    | none => rw [hz] at hx; cases hx
    | some z =>
      rw [hz] at hx hu
      cases hx
      cases hu
      exact ⟨(hmem z (List.mem_of_getElem? hz)).kp hk (fun x hx _ ht => by
        have e2 : g = x := by simpa [Value.ownBlock] using hx
        subst e2
        exact (Row.ty hr' g rfl).ne ht (by decide) rfl), rfl⟩

end Go.Proofs.YtdooiflmjeibdaaDoor.Tr
