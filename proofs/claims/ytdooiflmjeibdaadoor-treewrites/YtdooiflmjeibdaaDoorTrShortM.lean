/-
  What is right is short.
-/
import Derived.Test.YtdooiflmjeibdaaDoorTrDo
namespace Go.Proofs.YtdooiflmjeibdaaDoor.Tr
open Go.RowKit

theorem cuts_sum (s : Tx) : ((cuts s).map List.length).sum + (cuts s).length = s.length + 1 := by
  induction s with
  | nil => simp [cuts]
  | cons c r ih =>
    rw [cuts]
    split
    · simp only [List.map_cons, List.sum_cons, List.length_cons, List.length_nil]
      omega
    · cases h : cuts r with
      | nil => exact absurd h (cuts_ne r)
      | cons a l =>
        rw [h] at ih
        simp only [ahd, List.map_cons, List.sum_cons, List.length_cons, List.length_append, List.length_nil] at ih ⊢
        omega
theorem sum_le (l : List Tx) (h : ∀ x ∈ l, x.length ≤ 20) : (l.map List.length).sum ≤ 20 * l.length := by
  induction l with
  | nil => simp
  | cons a l ih =>
    have h1 := h a (List.mem_cons_self ..)
    have h2 := ih (fun x hx => h x (List.mem_cons_of_mem _ hx))
    simp only [List.map_cons, List.sum_cons, List.length_cons]
    omega
/-- A path has at most 125 bytes. -/
theorem path_size {s : Tx} (h : pathB s = true) : s.length ≤ 125 := by
  simp only [pathB, Bool.and_eq_true, decide_eq_true_eq, List.all_eq_true] at h
  have h1 := cuts_sum s
  have h2 := sum_le (cuts s) (fun x hx => by
    have := h.2 x hx
    simp only [partB, Bool.and_eq_true, decide_eq_true_eq] at this
    exact this.1.1.1.2)
  have h3 := h.1
  omega
theorem right_short {t : List It} (h : rightB t = true) : ∀ y ∈ t, ShortI y := fun y hy => by
  have h1 := path_size (right_each h hy).1
  have h2 := right_size h hy
  rw [tx_len] at h1
  refine ⟨by omega, ?_⟩
  split at h2 <;> omega
theorem right_nil : rightB [] = true := by decide

end Go.Proofs.YtdooiflmjeibdaaDoor.Tr
