/-
  A slice of values that a call builds by append, one behind the other: how it lies in memory.
-/
import Derived.Test.YthbhdbjjobfchaaTlvSmall
import Derived.Deep.AppendLies
namespace Go.Proofs.Ythbhdbjjobfchaa.Tlv
open Go.RowKit

def cell4 {n : Nat} (t : Tr n) (p : Value × Value) : List Value := [.int .i64 t.hd.1, .int .u64 t.hd.2.1, p.1, p.2]

def cellsK {n : Nat} : List (Tr n) → List (Value × Value) → List Value
  | t :: ts, p :: ps => cell4 t p ++ cellsK ts ps
  | _, _ => []

theorem cellsK_snoc {n : Nat} (t : Tr n) (p : Value × Value) : ∀ (ts : List (Tr n)) (ps : List (Value × Value)), ps.length = ts.length → cellsK (ts ++ [t]) (ps ++ [p]) = cellsK ts ps ++ cell4 t p
  | [], [], _ => by simp [cellsK]
  | [], _ :: _, h => by simp at h
  | _ :: _, [], h => by simp at h
  | t' :: ts, p' :: ps, h => by
    simp only [List.cons_append, cellsK, List.append_assoc]
    rw [cellsK_snoc t p ts ps (by simpa using h)]

theorem cellsK_at {n : Nat} : ∀ (ts : List (Tr n)) (ps : List (Value × Value)) (j : Nat) (t : Tr n) (p : Value × Value) (r : Nat), ts[j]? = some t → ps[j]? = some p → r < 4 → (cellsK ts ps)[j * 4 + r]? = (cell4 t p)[r]?
  | [], _, _, _, _, _, h, _, _ => by simp at h
  | _ :: _, [], _, _, _, _, _, h, _ => by simp at h
  | t' :: ts, p' :: ps, 0, t, p, r, h1, h2, h3 => by
    simp only [List.getElem?_cons_zero, Option.some.injEq] at h1 h2
    subst h1 h2
    simp only [cellsK, Nat.zero_mul, Nat.zero_add]
    rw [List.getElem?_append_left (by simpa [cell4] using h3)]
  | t' :: ts, p' :: ps, j + 1, t, p, r, h1, h2, h3 => by
    simp only [List.getElem?_cons_succ] at h1 h2
    simp only [cellsK]
    rw [List.getElem?_append_right (by simp [cell4]; omega), ← cellsK_at ts ps j t p r h1 h2 h3]
    congr 1
    simp [cell4]
    omega

/-- v is a slice of the values ts that the call itself has built, in blocks from base on: its row, and where each value lies, which is none of the row. -/
def CInv {n : Nat} (base : Nat) (ts : List (Tr n)) (v : Value) (w : World) : Prop :=
  ∃ ps : List (Value × Value), ps.length = ts.length ∧ w.ownsRow base 88 4 v ts.length (cellsK ts ps) ∧
    ∀ (j : Nat) (t : Tr n) (p : Value × Value), ts[j]? = some t → ps[j]? = some p → ∃ L B, Rep L B w n t p.1 p.2 ∧ base ≤ L ∧ B ≤ w.heap.size ∧ (∀ r, v.ownBlock = some r → r < L ∨ B ≤ r)

theorem CInv.nil {n : Nat} (base : Nat) (w : World) : CInv base ([] : List (Tr n)) (.slice none 0 0) w := ⟨[], rfl, World.ownsRow_nil _ _ _ _, by simp⟩

theorem ownsRow_agree {w w' : World} {base e size n : Nat} {v : Value} {xs : List Value} (h : w.ownsRow base e size v n xs) (hA : Agree base w.heap.size w w') : w'.ownsRow base e size v n xs := by
  obtain ⟨h1, h2⟩ := h
  refine ⟨h1, ?_⟩
  rcases h2 with h2 | ⟨g, cap, cur, hv, hg, hh, r⟩
  · exact Or.inl h2
  · exact Or.inr ⟨g, cap, cur, hv, hg, by rw [hA g hg (Array.getElem?_eq_some_iff.1 hh).1]; exact hh, r⟩

theorem CInv.agree {n base : Nat} {ts : List (Tr n)} {v : Value} {w w' : World} (h : CInv base ts v w) (hA : Agree base w.heap.size w w') (hs : w.heap.size ≤ w'.heap.size) : CInv base ts v w' := by
  obtain ⟨ps, hl, hown, hk⟩ := h
  refine ⟨ps, hl, ownsRow_agree hown hA, fun j t p hj hp => ?_⟩
  obtain ⟨L, B, hr, hL, hB, hd⟩ := hk j t p hj hp
  exact ⟨L, B, hr.agree (hA.mono hL hB) (Nat.le_refl _) (Nat.le_refl _), hL, by omega, hd⟩

theorem CInv.lt {n base : Nat} {ts : List (Tr n)} {v : Value} {w : World} (h : CInv base ts v w) : ∀ r, v.ownBlock = some r → base ≤ r ∧ r < w.heap.size := by
  obtain ⟨ps, hl, hown, _⟩ := h
  exact hown.lt

theorem CInv.form {n base : Nat} {ts : List (Tr n)} {v : Value} {w : World} (h : CInv base ts v w) : ∃ a c, v = .slice a ts.length c := by
  obtain ⟨ps, hl, hown, _⟩ := h
  rcases hown.2 with ⟨rfl, h0⟩ | ⟨g, cap, cur, rfl, _⟩
  · exact ⟨_, _, by rw [h0]⟩
  · exact ⟨_, _, rfl⟩

/-- One value more, behind the append that lays it. -/
theorem CInv.push {n base g cap L B : Nat} {ts : List (Tr n)} {t : Tr n} {v sb sk : Value} {ps : List (Value × Value)} {w w' : World} (hl : ps.length = ts.length)
    (hk : ∀ (j : Nat) (t : Tr n) (p : Value × Value), ts[j]? = some t → ps[j]? = some p → ∃ L B, Rep L B w n t p.1 p.2 ∧ base ≤ L ∧ B ≤ w.heap.size ∧ (∀ r, v.ownBlock = some r → r < L ∨ B ≤ r))
    (hr : Rep L B w n t sb sk) (hL : base ≤ L) (hB : B ≤ w.heap.size) (hd : ∀ r, v.ownBlock = some r → r < L ∨ B ≤ r)
    (hown : w'.ownsRow base 88 4 (.slice (some ⟨g, 0, none⟩) (ts.length + 1) cap) (ts.length + 1) (cellsK ts ps ++ cell4 t (sb, sk))) (hgrow : w.grownBy w' v.ownBlock) (hat : v.ownBlock = some g ∨ g = w.heap.size) :
    CInv base (ts ++ [t]) (.slice (some ⟨g, 0, none⟩) (ts.length + 1) cap) w' := by
  have old : ∀ {L B : Nat} {t : Tr n} {sb sk : Value}, Rep L B w n t sb sk → base ≤ L → B ≤ w.heap.size → (∀ r, v.ownBlock = some r → r < L ∨ B ≤ r) →
      Rep L B w' n t sb sk ∧ base ≤ L ∧ B ≤ w'.heap.size ∧ (∀ r, (Value.slice (some ⟨g, 0, none⟩) (ts.length + 1) cap).ownBlock = some r → r < L ∨ B ≤ r) := by
    intro L B t sb sk hr hL hB hd
    refine ⟨hr.agree (fun k h1 h2 => hgrow.block k (by omega) (fun e => by have := hd k e.symm; omega)) (Nat.le_refl _) (Nat.le_refl _), hL, by have := hgrow.size; omega, ?_⟩
    intro r e
    simp only [Value.ownBlock, Option.some.injEq] at e
    subst e
    rcases hat with hat | hat
    · exact hd _ hat
    · omega
  refine ⟨ps ++ [(sb, sk)], by simp [hl], ?_, ?_⟩
  · rw [cellsK_snoc _ _ _ _ hl]
    simpa using hown
  · intro j t' p hj hp
    by_cases hlt : j < ts.length
    · rw [List.getElem?_append_left hlt] at hj
      rw [List.getElem?_append_left (by omega)] at hp
      obtain ⟨L', B', q⟩ := hk j t' p hj hp
      exact ⟨L', B', old q.1 q.2.1 q.2.2.1 q.2.2.2⟩
    · have : j = ts.length := by
        have := (List.getElem?_eq_some_iff.1 hj).1
        simp at this
        omega
      subst this
      rw [List.getElem?_append_right (Nat.le_refl _)] at hj
      rw [List.getElem?_append_right (by omega)] at hp
      simp [hl] at hj hp
      subst hj hp
      exact ⟨L, B, old hr hL hB hd⟩

theorem CInv.done {n base : Nat} {ts : List (Tr n)} {v : Value} {w : World} (h : CInv base ts v w) (hlen : ts.length ≤ 2199023255552) : KSl base w.heap.size w (Rep base w.heap.size w n) v ts := by
  obtain ⟨ps, hl, hown, hk⟩ := h
  rcases hown.2 with ⟨rfl, h0⟩ | ⟨g, cap, cur, rfl, hb, hg, hn, hc, hs, ht⟩
  · have : ts = [] := List.length_eq_zero_iff.1 h0
    subst this
    exact KSl.none _ _ _ _
  · refine ⟨_, cap, rfl, hn, hc, by simp, hlen, fun _ => ⟨g, 0, rfl, hb, (Array.getElem?_eq_some_iff.1 hg).1, fun j t hj => ?_⟩⟩
    have hjl := (List.getElem?_eq_some_iff.1 hj).1
    obtain ⟨p, hp⟩ : ∃ p, ps[j]? = some p := ⟨ps[j]'(by omega), List.getElem?_eq_getElem (by omega)⟩
    obtain ⟨L, B, hr, hL, hB, _⟩ := hk j t p hj hp
    have cc : ∀ r, r < 4 → w.cell? ⟨g, 0 + j * 4 + r, none⟩ = (cell4 t p)[r]? := fun r hr4 => by
      rw [Nat.zero_add, hown.cellAt (j * 4 + r) (by omega), cellsK_at ts ps j t p r hj hp hr4]
    exact ⟨p.1, p.2, cc 0 (by omega), cc 1 (by omega), cc 2 (by omega), cc 3 (by omega), hr.agree (Agree.refl _ _ _) hL hB⟩

end Go.Proofs.Ythbhdbjjobfchaa.Tlv
