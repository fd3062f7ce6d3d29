/-
  with, asked, bars, Mkdir, Write, Remove.
-/
import Derived.Test.YtdooiflmjeibdaaDoorTrIns
namespace Go.Proofs.YtdooiflmjeibdaaDoor.Tr
open Go.RowKit

/-- A tree with x, in the place of what had its path. -/
def withL (t : List It) (x : It) (i : Nat) : List It := if (look t x.1).isSome then t.set i x else t.take i ++ x :: t.drop i
/-- An item's place in a row is written over. -/
theorem IOwn.set {w : World} {v : Value} {xs : List It} (h : IOwn w v xs) {i : Nat} {x : It} {u : Value} (hi : i < xs.length) (hu : ByU w u x.2.2) (h1 : u.oneCell' = true) :
    ∃ g cap, v = .slice (some ⟨g, 0, none⟩) xs.length cap ∧ g < w.heap.size ∧ TyAt w g 33 ∧
      (∀ j, j < 3 → ∃ c, w.cell? ⟨g, i * 3 + j, none⟩ = some c) ∧ (∀ j, j < 3 → w.frozen? ⟨g, i * 3 + j, none⟩ = false) ∧
      ∀ w', w' = ((w.setCell ⟨g, i * 3, none⟩ (.string x.1)).setCell ⟨g, i * 3 + 1, none⟩ (.bool x.2.1)).setCell ⟨g, i * 3 + 2, none⟩ u → IOwn w' v (xs.set i x) ∧ Kp (· = g) w w' := by
  obtain ⟨g, cap, cur, us, rfl, hh, hnc, hc, hs, ht, hus, hb⟩ := h.opened (by rintro rfl; simp at hi)
  have hB : Blk w g 33 cur := hh
  refine ⟨g, cap, rfl, hB.lt, hB.ty, fun j hj => ?_, fun j _ => hB.frozen _, fun w' hw' => ?_⟩
  · rw [hB.cell]
    exact ⟨_, List.getElem?_eq_getElem (by omega)⟩
  · have h3 := ((hB.setCell (i * 3) (.string x.1)).setCell (i * 3 + 1) (.bool x.2.1)).setCell (i * 3 + 2) u
    rw [← hw'] at h3
    have k : Kp (· = g) w w' := by
      rw [hw']
      exact (((Kp.refl (· = g) w).setCell (p := ⟨g, i * 3, none⟩) (.inl rfl) _).setCell (p := ⟨g, i * 3 + 1, none⟩) (.inl rfl) _).setCell (p := ⟨g, i * 3 + 2, none⟩) (.inl rfl) _
    have hL : ∀ b, b = g → b < w.heap.size → ¬ TyAt w b 5 := fun b e _ ty => by subst e; exact ty.ne hB.ty (by decide) rfl
    refine ⟨?_, k⟩
    have hl : (xs.set i x).length = xs.length := List.length_set
    rw [← hl]
    have hci : cellsI (xs.set i x) (us.set i u) = (((cellsI xs us).set (i * 3) (.string x.1)).set (i * 3 + 1) (.bool x.2.1)).set (i * 3 + 2) u := by
      apply List.ext_getElem?
      intro j
      by_cases hjl : j < xs.length * 3
      · have e : j = (j / 3) * 3 + j % 3 := by omega
        obtain ⟨q, r, hr, rfl⟩ : ∃ q r, r < 3 ∧ j = q * 3 + r := ⟨j / 3, j % 3, Nat.mod_lt _ (by decide), e⟩
        have hq : q < xs.length := by omega
        by_cases hqi : q = i
        · subst hqi
          rw [cellsI_at _ _ q x u r (by rw [List.getElem?_set_self hi]) (by rw [List.getElem?_set_self (by omega)]) hr]
          have hlc := cellsI_length xs us hus
          match r, hr with
          | 0, _ => rw [List.getElem?_set_ne (by omega), List.getElem?_set_ne (by omega), Nat.add_zero, List.getElem?_set_self (by omega)]; rfl
          | 1, _ => rw [List.getElem?_set_ne (by omega), List.getElem?_set_self (by rw [List.length_set]; omega)]; rfl
          | 2, _ => rw [List.getElem?_set_self (by rw [List.length_set, List.length_set]; omega)]; rfl
        · obtain ⟨y, hy⟩ : ∃ y, xs[q]? = some y := ⟨_, List.getElem?_eq_getElem hq⟩
          obtain ⟨p, hp⟩ : ∃ p, us[q]? = some p := ⟨_, List.getElem?_eq_getElem (by omega)⟩
          rw [cellsI_at _ _ q y p r (by rw [List.getElem?_set_ne (by omega)]; exact hy) (by rw [List.getElem?_set_ne (by omega)]; exact hp) hr,
            List.getElem?_set_ne (by omega), List.getElem?_set_ne (by omega), List.getElem?_set_ne (by omega), cellsI_at _ _ q y p r hy hp hr]
      · have h1 : (cellsI (xs.set i x) (us.set i u)).length ≤ j := by rw [cellsI_length _ _ (by rw [List.length_set, List.length_set]; exact hus), List.length_set]; omega
        have h2 : ((((cellsI xs us).set (i * 3) (.string x.1)).set (i * 3 + 1) (.bool x.2.1)).set (i * 3 + 2) u).length ≤ j := by rw [List.length_set, List.length_set, List.length_set, cellsI_length _ _ hus]; omega
        rw [List.getElem?_eq_none h1, List.getElem?_eq_none h2]
    refine IOwn.closed (us := us.set i u) h3 (by omega) hc (by simp [hs]) ?_ (by rw [List.length_set, List.length_set]; exact hus) (fun j y q hy hq => ?_)
    · rw [hl, hci, ← ht, List.take_set, List.take_set, List.take_set]
    · by_cases e : j = i
      · subst e
        rw [List.getElem?_set_self hi] at hy
        rw [List.getElem?_set_self (by omega)] at hq
        cases hy
        cases hq
        exact ⟨hu.kp k hL, h1⟩
      · rw [List.getElem?_set_ne (by omega)] at hy hq
        exact ⟨(hb j y q hy hq).1.kp k hL, (hb j y q hy hq).2⟩

end Go.Proofs.YtdooiflmjeibdaaDoor.Tr
