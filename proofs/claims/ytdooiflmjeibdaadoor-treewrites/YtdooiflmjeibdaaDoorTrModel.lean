/-
  Trees, purely.
-/
import Derived.Test.YtdooiflmjeibdaaDoorTrItem
namespace Go.Proofs.YtdooiflmjeibdaaDoor.Tr
open Go.RowKit

abbrev tx (s : ByteArray) : Tx := s.data.toList
/-- The item of a path. -/
def look (t : List It) (p : ByteArray) : Option It := t.find? (fun x => decide (x.1 = p))
/-- What keeps the directory of a path from holding it. -/
def homeF (t : List It) (p : ByteArray) : Int :=
  if (splitS p).1 = ⟨#[]⟩ then 0 else match look t (splitS p).1 with
    | none => 5
    | some x => if x.2.1 then 0 else 7
def Rises (t : List It) : Prop := t.Pairwise (fun a b => bytesBefore (tx a.1) (tx b.1) = true)
/-- Each one above the one ahead of it. -/
def risesB : List It → Bool
  | x :: y :: r => bytesBefore (tx x.1) (tx y.1) && risesB (y :: r)
  | _ => true
def wrongB (t : List It) (x : It) : Bool := !(pathB (tx x.1)) || !(decide (homeF t x.1 = 0)) || decide ((if x.2.1 then 0 else 2000) < x.2.2.length)
def rightB (t : List It) : Bool := decide (t.length ≤ 60) && risesB t && !(t.any (wrongB t))

theorem rises_adj : ∀ t : List It, risesB t = true ↔ ∀ i x y, t[i]? = some x → t[i + 1]? = some y → bytesBefore (tx x.1) (tx y.1) = true
  | [] => by simp [risesB]
  | [x] => by
    simp only [risesB, true_iff]
    intro i x y _ h
    simp at h
  | x :: y :: r => by
    rw [risesB, Bool.and_eq_true, rises_adj (y :: r)]
    constructor
    · rintro ⟨h1, h2⟩ i a b ha hb
      cases i with
      | zero =>
        simp at ha hb
        subst ha hb
        exact h1
      | succ i =>
        simp only [List.getElem?_cons_succ] at ha
        exact h2 i a b ha (by simpa using hb)
    · intro h
      exact ⟨h 0 x y rfl rfl, fun i a b ha hb => h (i + 1) a b (by simpa using ha) (by simpa using hb)⟩
theorem rises_pair : ∀ t : List It, risesB t = true → Rises t
  | [], _ => List.Pairwise.nil
  | [x], _ => List.pairwise_singleton _ _
  | x :: y :: r, h => by
    rw [risesB, Bool.and_eq_true] at h
    have h2 := rises_pair (y :: r) h.2
    refine List.pairwise_cons.2 ⟨fun z hz => ?_, h2⟩
    rcases List.mem_cons.1 hz with rfl | hz
    · exact h.1
    · exact bb_trans _ _ _ h.1 ((List.pairwise_cons.1 h2).1 z hz)
theorem pair_rises : ∀ t : List It, Rises t → risesB t = true
  | [], _ => rfl
  | [_], _ => rfl
  | x :: y :: r, h => by
    have h1 := List.pairwise_cons.1 h
    rw [risesB, h1.1 y (List.mem_cons_self ..), pair_rises (y :: r) h1.2]
    rfl
theorem Rises.lt {t : List It} (h : Rises t) {i j : Nat} {x y : It} (hij : i < j) (hx : t[i]? = some x) (hy : t[j]? = some y) : bytesBefore (tx x.1) (tx y.1) = true := by
  obtain ⟨hi, rfl⟩ := List.getElem?_eq_some_iff.1 hx
  obtain ⟨hj, rfl⟩ := List.getElem?_eq_some_iff.1 hy
  exact List.pairwise_iff_getElem.1 h i j hi hj hij
theorem Rises.same {t : List It} (h : Rises t) {x y : It} (hx : x ∈ t) (hy : y ∈ t) (e : x.1 = y.1) : x = y := by
  obtain ⟨i, hi⟩ := List.mem_iff_getElem?.1 hx
  obtain ⟨j, hj⟩ := List.mem_iff_getElem?.1 hy
  rcases Nat.lt_trichotomy i j with hlt | rfl | hlt
  · have := h.lt hlt hi hj
    rw [e, bb_irr] at this
    cases this
  · rw [hi] at hj
    exact Option.some.inj hj
  · have := h.lt hlt hj hi
    rw [e, bb_irr] at this
    cases this
theorem look_mem {t : List It} {p : ByteArray} {x : It} (h : look t p = some x) : x ∈ t ∧ x.1 = p := ⟨List.mem_of_find?_eq_some h, by simpa using List.find?_some h⟩
theorem look_none {t : List It} {p : ByteArray} (h : look t p = none) : ∀ x ∈ t, x.1 ≠ p := fun x hx => by simpa using List.find?_eq_none.1 h x hx
theorem look_none' {t : List It} {p : ByteArray} (h : ∀ x ∈ t, x.1 ≠ p) : look t p = none := List.find?_eq_none.2 (fun x hx => by simpa using h x hx)
theorem look_rises {t : List It} (h : Rises t) {x : It} (hx : x ∈ t) : look t x.1 = some x := by
  cases e : look t x.1 with
  | none => exact absurd rfl (look_none e x hx)
  | some y =>
    obtain ⟨h1, h2⟩ := look_mem e
    rw [h.same h1 hx h2]

/-- i and j halve t at p. -/
def Half (t : List It) (p : ByteArray) (i j : Nat) : Prop := (∀ u z, u < i → t[u]? = some z → bytesBefore (tx z.1) (tx p) = true) ∧ (∀ u z, j ≤ u → t[u]? = some z → bytesBefore (tx z.1) (tx p) = false)
theorem Half.begin (t : List It) (p : ByteArray) : Half t p 0 t.length := ⟨fun u z h => absurd h (Nat.not_lt_zero _), fun u z h hz => by
  have := (List.getElem?_eq_some_iff.1 hz).1
  omega⟩
theorem Half.yes {t : List It} {p : ByteArray} {i j h : Nat} (H : Half t p i j) (hr : Rises t) {y : It} (hy : t[h]? = some y) (e : bytesBefore (tx y.1) (tx p) = true) : Half t p (h + 1) j :=
  ⟨fun u z hu hz => by
    by_cases hh : u = h
    · subst hh
      rw [hy] at hz
      cases hz
      exact e
    · exact bb_trans _ _ _ (hr.lt (by omega) hz hy) e, H.2⟩
theorem Half.no {t : List It} {p : ByteArray} {i j h : Nat} (H : Half t p i j) (hr : Rises t) {y : It} (hy : t[h]? = some y) (e : bytesBefore (tx y.1) (tx p) = false) : Half t p i h :=
  ⟨H.1, fun u z hu hz => by
    by_cases hh : u = h
    · subst hh
      rw [hy] at hz
      cases hz
      exact e
    · cases hb : bytesBefore (tx z.1) (tx p) with
      | false => rfl
      | true =>
        rw [bb_trans _ _ _ (hr.lt (by omega) hy hz) hb] at e
        cases e⟩

/-- What at answers: where p stands, or would. -/
def AtP (t : List It) (p : ByteArray) (i : Nat) (b : Bool) : Prop := i ≤ t.length ∧ (b = true ↔ ∃ x, t[i]? = some x ∧ x.1 = p) ∧ (risesB t = true → Half t p i i)
theorem AtP.found {t : List It} {p : ByteArray} {i : Nat} (h : AtP t p i true) (hr : risesB t = true) : ∃ x, t[i]? = some x ∧ x.1 = p ∧ look t p = some x := by
  obtain ⟨x, hx, e⟩ := h.2.1.1 rfl
  refine ⟨x, hx, e, ?_⟩
  rw [← e]
  exact look_rises (rises_pair _ hr) (List.mem_of_getElem? hx)
theorem AtP.lost {t : List It} {p : ByteArray} {i : Nat} (h : AtP t p i false) (hr : risesB t = true) : look t p = none := by
  refine look_none' (fun z hz e => ?_)
  obtain ⟨u, hu⟩ := List.mem_iff_getElem?.1 hz
  obtain ⟨h1, h2⟩ := h.2.2 hr
  rcases Nat.lt_trichotomy u i with hlt | rfl | hlt
  · have := h1 u z hlt hu
    rw [e, bb_irr] at this
    cases this
  · have := h.2.1.2 ⟨z, hu, e⟩
    cases this
  · obtain ⟨y, hy⟩ : ∃ y, t[i]? = some y := ⟨_, List.getElem?_eq_getElem (by have := (List.getElem?_eq_some_iff.1 hu).1; omega)⟩
    have h3 := (rises_pair _ hr).lt hlt hy hu
    have h4 := h2 i y (Nat.le_refl _) hy
    rw [e] at h3
    rw [h3] at h4
    cases h4

/-- Those within a path. -/
def underL (t : List It) (p : ByteArray) : List It := t.filter (fun x => withinB (tx p) (tx x.1))
/-- All others. -/
def outL (t : List It) (p : ByteArray) : List It := t.filter (fun x => !withinB (tx p) (tx x.1))
/-- A tree with an item, as the document lays it. -/
def putR (x : It) : List It → Bool → List It
  | [], inn => if inn then [] else [x]
  | y :: r, inn => (if !inn && !bytesBefore (tx y.1) (tx x.1) then [x] else []) ++ (if y.1 = x.1 then [] else [y]) ++ putR x r (inn || !bytesBefore (tx y.1) (tx x.1))
def putL (t : List It) (x : It) : List It := putR x t false
def bytesN (t : List It) : Nat := (t.map (fun x => x.2.2.length)).sum

end Go.Proofs.YtdooiflmjeibdaaDoor.Tr
