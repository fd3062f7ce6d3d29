/-
  Less of the document, strings.Compare, and Within of the document.
-/
import Derived.Test.YtdooiflmjeibdaaDoorTrSplit
import Derived.Deep.QuietTactic
import Derived.BigQuiet
namespace Go.Proofs.YtdooiflmjeibdaaDoor.Tr
open Go.RowKit

theorem bb_step (a b : List UInt8) (i : Nat) (ha : i < a.length) (hb : i < b.length) : bytesBefore (a.drop i) (b.drop i) = if (a.getD i 0).toNat = (b.getD i 0).toNat then bytesBefore (a.drop (i + 1)) (b.drop (i + 1)) else decide ((a.getD i 0).toNat < (b.getD i 0).toNat) := by
  rw [List.drop_eq_getElem_cons ha, List.drop_eq_getElem_cons hb, List.getD_eq_getElem?_getD, List.getElem?_eq_getElem ha, List.getD_eq_getElem?_getD, List.getElem?_eq_getElem hb, Option.getD_some, Option.getD_some]
  rw [bytesBefore]
  by_cases h : a[i] = b[i]
  · simp [h]
  · have h' : ¬ a[i].toNat = b[i].toNat := fun e => h (UInt8.toNat_inj.1 e)
    have h'' : (a[i] == b[i]) = false := by simp [h]
    rw [if_neg h', h'']
    simp [UInt8.lt_iff_toNat_lt]
theorem bb_end (a b : List UInt8) (i : Nat) (h : a.length ≤ i ∨ b.length ≤ i) (ha : i ≤ a.length) (hb : i ≤ b.length) : bytesBefore (a.drop i) (b.drop i) = decide (a.length < b.length) := by
  by_cases h1 : a.length ≤ i
  · rw [List.drop_of_length_le h1]
    by_cases h2 : b.length ≤ i
    · rw [List.drop_of_length_le h2, decide_eq_false (by omega)]
      rfl
    · rw [List.drop_eq_getElem_cons (by omega : i < b.length), decide_eq_true (by omega)]
      rfl
  · have h2 : b.length ≤ i := by omega
    rw [List.drop_of_length_le h2, List.drop_eq_getElem_cons (by omega : i < a.length), decide_eq_false (by omega)]
    rfl


/-! ### How texts stand -/
abbrev lts (a b : Tx) : Bool := bytesBefore a b
theorem bb_irr : ∀ a : Tx, bytesBefore a a = false
  | [] => rfl
  | a :: r => by rw [bytesBefore]; simp [bb_irr r]
theorem bb_cons (a b : UInt8) (r t : Tx) : bytesBefore (a :: r) (b :: t) = if a = b then bytesBefore r t else decide (a < b) := by
  rw [bytesBefore]
  by_cases h : a = b <;> simp [h]
theorem bb_trans : ∀ a b c : Tx, bytesBefore a b = true → bytesBefore b c = true → bytesBefore a c = true
  | [], [], _, h, _ => by simp [bytesBefore] at h
  | [], _ :: _, [], _, h => by simp [bytesBefore] at h
  | [], _ :: _, _ :: _, _, _ => rfl
  | _ :: _, [], _, h, _ => by simp [bytesBefore] at h
  | _ :: _, _ :: _, [], _, h => by simp [bytesBefore] at h
  | a :: r, b :: t, c :: u, h1, h2 => by
    rw [bb_cons] at h1 h2 ⊢
    by_cases e1 : a = b
    · subst e1
      rw [if_pos rfl] at h1
      by_cases e2 : a = c
      · subst e2
        rw [if_pos rfl] at h2 ⊢
        exact bb_trans r t u h1 h2
      · rw [if_neg e2] at h2 ⊢
        exact h2
    · rw [if_neg e1] at h1
      by_cases e2 : b = c
      · subst e2
        rw [if_neg e1]
        exact h1
      · rw [if_neg e2] at h2
        simp only [decide_eq_true_eq] at h1 h2
        have h3 : a < c := UInt8.lt_trans h1 h2
        rw [if_neg (by rintro rfl; exact UInt8.lt_irrefl _ h3)]
        simpa using h3
theorem bb_tri : ∀ a b : Tx, bytesBefore a b = false → bytesBefore b a = false → a = b
  | [], [], _, _ => rfl
  | [], _ :: _, h, _ => by simp [bytesBefore] at h
  | _ :: _, [], _, h => by simp [bytesBefore] at h
  | a :: r, b :: t, h1, h2 => by
    rw [bb_cons] at h1 h2
    by_cases e : a = b
    · subst e
      rw [if_pos rfl] at h1 h2
      rw [bb_tri r t h1 h2]
    · rw [if_neg e] at h1
      rw [if_neg (fun h => e h.symm)] at h2
      simp only [decide_eq_false_iff_not] at h1 h2
      exact absurd (UInt8.le_antisymm (UInt8.not_lt.1 h2) (UInt8.not_lt.1 h1)) e
theorem bb_asym {a b : Tx} (h : bytesBefore a b = true) : bytesBefore b a = false := by
  cases h2 : bytesBefore b a with
  | false => rfl
  | true =>
    have := bb_trans a b a h h2
    rw [bb_irr] at this
    exact this.symm
theorem cmp_bb : ∀ a b : Tx, Lib.compareBytes a b = if bytesBefore a b then -1 else if a = b then 0 else 1
  | [], [] => rfl
  | [], _ :: _ => rfl
  | _ :: _, [] => rfl
  | a :: r, b :: t => by
    rw [Lib.compareBytes, bb_cons]
    by_cases e : a = b
    · subst e
      rw [if_neg (UInt8.lt_irrefl a), if_neg (UInt8.lt_irrefl a), if_pos rfl, cmp_bb r t]
      simp
    · rw [if_neg e]
      by_cases h : a < b
      · rw [if_pos h]
        simp [h]
      · have h' : b < a := by
          rcases UInt8.lt_or_lt_of_ne e with h2 | h2
          · exact absurd h2 h
          · exact h2
        rw [if_neg h, if_pos h']
        simp [h, e]
theorem cmp_neg (a b : Tx) : Lib.compareBytes a b < 0 ↔ bytesBefore a b = true := by
  rw [cmp_bb]
  cases bytesBefore a b
  · by_cases h : a = b <;> simp [h]
  · simp
theorem cmp_zero (a b : Tx) : Lib.compareBytes a b = 0 ↔ a = b := by
  rw [cmp_bb]
  cases h : bytesBefore a b
  · by_cases h : a = b <;> simp [h]
  · simp
    rintro rfl
    rw [bb_irr] at h
    cases h
theorem compare_any (a b : ByteArray) (w : World) : Calls Tryd.prog 29 #[.string a, .string b] w fun e w' => e = .returned (.int .i64 (Lib.compareBytes a.data.toList b.data.toList)) ∧ w' = w := Any.strings_Compare Tryd.comp a b w

end Go.Proofs.YtdooiflmjeibdaaDoor.Tr
