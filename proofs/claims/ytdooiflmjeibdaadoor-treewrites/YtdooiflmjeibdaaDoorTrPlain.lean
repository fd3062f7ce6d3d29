/-
  Texts of paths, purely: parts, how a text is cut at each /, paths, and how a path is split.
-/
import Derived.Lib.Split
import Derived.Lib.SplitLaws
import Derived.Lib.LastIndexByte
import Derived.Lib.IndexBytes
namespace Go.Proofs.YtdooiflmjeibdaaDoor.Tr

abbrev Tx := List UInt8
def sgn (c : UInt8) : Bool := decide (33 ≤ c.toNat) && decide (c.toNat ≤ 126) && !(c.toNat == 47)
def partB (s : Tx) : Bool := decide (1 ≤ s.length) && decide (s.length ≤ 20) && !(s == [46]) && !(s == [46, 46]) && s.all sgn
/-- p put ahead of the first one. -/
def ahd (p : Tx) : List Tx → List Tx
  | [] => [p]
  | h :: t => (p ++ h) :: t
/-- A text, cut at each /. -/
def cuts : Tx → List Tx
  | [] => [[]]
  | c :: r => if c = 47 then [] :: cuts r else ahd [c] (cuts r)
def pathB (s : Tx) : Bool := decide ((cuts s).length ≤ 6) && (cuts s).all partB

theorem cuts_ne (s : Tx) : cuts s ≠ [] := by
  cases s with
  | nil => simp [cuts]
  | cons c r =>
    rw [cuts]
    split
    · simp
    · cases cuts r <;> simp [ahd]
theorem ahd_nil (l : List Tx) (h : l ≠ []) : ahd [] l = l := by
  cases l with
  | nil => exact absurd rfl h
  | cons a t => rfl
theorem ahd_ahd (p q : Tx) (l : List Tx) : ahd p (ahd q l) = ahd (p ++ q) l := by cases l <;> simp [ahd]
theorem ahd_length (p : Tx) (l : List Tx) (h : l ≠ []) : (ahd p l).length = l.length := by
  cases l with
  | nil => exact absurd rfl h
  | cons a t => rfl
/-- All lengths, with one for each /. -/
def tot (l : List Tx) : Nat := (l.map (fun x => x.length + 1)).sum
theorem tot_ahd (p : Tx) (l : List Tx) (h : l ≠ []) : tot (ahd p l) = p.length + tot l := by
  cases l with
  | nil => exact absurd rfl h
  | cons a t => simp [ahd, tot]; omega
theorem tot_cuts : ∀ s : Tx, tot (cuts s) = s.length + 1
  | [] => rfl
  | c :: r => by
    rw [cuts]
    split
    · have := tot_cuts r
      simp only [tot, List.map_cons, List.sum_cons, List.length_nil, List.length_cons] at this ⊢
      omega
    · rw [tot_ahd _ _ (cuts_ne r), tot_cuts r]
      simp
      omega
theorem cuts_len (s : Tx) : (cuts s).length ≤ s.length + 1 := by
  induction s with
  | nil => simp [cuts]
  | cons c r ih =>
    rw [cuts]
    split
    · simp; omega
    · rw [ahd_length _ _ (cuts_ne r)]; simp; omega
theorem tot_le : ∀ l : List Tx, l.all partB = true → tot l ≤ l.length * 21
  | [], _ => by simp [tot]
  | x :: t, h => by
    simp only [List.all_cons, Bool.and_eq_true] at h
    have h1 := tot_le t h.2
    have h2 : x.length ≤ 20 := by
      have := h.1
      simp only [partB, Bool.and_eq_true, decide_eq_true_eq] at this
      exact this.1.1.1.2
    simp only [tot, List.map_cons, List.sum_cons, List.length_cons] at h1 ⊢
    omega
theorem path_len {s : Tx} (h : pathB s = true) : s.length ≤ 125 := by
  simp only [pathB, Bool.and_eq_true, decide_eq_true_eq] at h
  have h1 := tot_le _ h.2
  have h2 := tot_cuts s
  have h3 : (cuts s).length * 21 ≤ 6 * 21 := Nat.mul_le_mul_right _ h.1
  omega
theorem cuts_of_index : ∀ (s : Tx), (Lib.indexByte s 47 = -1 ∧ cuts s = [s]) ∨ ∃ i : Nat, Lib.indexByte s 47 = i ∧ i < s.length ∧ cuts s = s.take i :: cuts (s.drop (i + 1))
  | [] => .inl ⟨rfl, rfl⟩
  | c :: r => by
    by_cases hc : c = 47
    · subst hc
      refine .inr ⟨0, by simp [Lib.indexByte], by simp, ?_⟩
      simp [cuts]
    · have hb : (c == 47) = false := by simp [hc]
      rcases cuts_of_index r with ⟨h1, h2⟩ | ⟨i, h1, h2, h3⟩
      · refine .inl ⟨?_, ?_⟩
        · rw [Lib.indexByte, hb, h1]; rfl
        · rw [cuts, if_neg hc, h2]; rfl
      · refine .inr ⟨i + 1, ?_, by simpa using h2, ?_⟩
        · rw [Lib.indexByte, hb, h1]
          have : ((i : Int) == -1) = false := by simp
          rw [this]
          simp
        · rw [cuts, if_neg hc, h3]
          simp [ahd]
theorem splitK_all : ∀ (k : Nat) (s : Tx), (cuts s).length ≤ k + 1 → Lib.splitK [47] 0 k s = cuts s
  | 0, s, h => by
    rcases cuts_of_index s with ⟨_, h2⟩ | ⟨i, _, _, h3⟩
    · rw [h2]; rfl
    · rw [h3, List.length_cons] at h
      have := List.length_pos_iff.2 (cuts_ne (s.drop (i + 1)))
      omega
  | k + 1, s, h => by
    rcases cuts_of_index s with ⟨h1, h2⟩ | ⟨i, h1, _, h3⟩
    · rw [Lib.splitK, Lib.index_one, h1, h2]; rfl
    · rw [Lib.splitK, Lib.index_one, h1, h3]
      have : ((i : Int) == -1) = false := by simp
      rw [this]
      simp only [Bool.false_eq_true, if_false, Int.toNat_natCast, Nat.add_zero, List.length_cons, List.length_nil, Nat.zero_add]
      rw [splitK_all k _ (by rw [h3] at h; simpa using h)]
theorem splitK_more : ∀ (k : Nat) (s : Tx), k + 1 ≤ (cuts s).length → (Lib.splitK [47] 0 k s).length = k + 1
  | 0, s, _ => rfl
  | k + 1, s, h => by
    rcases cuts_of_index s with ⟨h1, h2⟩ | ⟨i, h1, _, h3⟩
    · rw [h2] at h
      simp at h
    · rw [Lib.splitK, Lib.index_one, h1]
      have : ((i : Int) == -1) = false := by simp
      rw [this]
      simp only [Bool.false_eq_true, if_false, Int.toNat_natCast, Nat.add_zero, List.length_cons, List.length_nil, Nat.zero_add]
      rw [splitK_more k _ (by rw [h3] at h; simpa using h)]
/-- What SplitN of at most seven tells. -/
theorem path_split (s : Tx) : pathB s = (decide ((Lib.splitK [47] 0 (min 7 (s.length + 1) - 1) s).length ≤ 6) && (Lib.splitK [47] 0 (min 7 (s.length + 1) - 1) s).all partB) := by
  by_cases h : (cuts s).length ≤ 6
  · rw [splitK_all _ s (by have := cuts_len s; omega)]
    rfl
  · have h1 := cuts_len s
    have h2 := splitK_more 6 s (by omega)
    have e : min 7 (s.length + 1) - 1 = 6 := by omega
    rw [e, h2, pathB, decide_eq_false h]
    rfl

end Go.Proofs.YtdooiflmjeibdaaDoor.Tr
