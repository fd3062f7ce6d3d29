/-
  Plain mathematics of the statement on the values that are made: how many bytes a list of numbers and bytes takes.
-/
import Derived.Test.YtnnanmpogjmkiaaSize
namespace Go.Proofs.Ytnnanmpogjmkiaa

def tN (x : Int) : Tr 1 := Tr.mk 1 x [] []
def tB (bs : List Int) : Tr 1 := Tr.mk 2 0 bs []

/-- So many times a number and bytes. -/
def abs (x : Int) (bs : List Int) : Nat → List (Tr 1)
  | 0 => []
  | k + 1 => abs x bs k ++ [tN x, tB bs]

theorem abs_length (x : Int) (bs : List Int) : ∀ k, (abs x bs k).length = 2 * k
  | 0 => rfl
  | k + 1 => by rw [abs, List.length_append, abs_length x bs k]; simp; omega

theorem lszGo_app {α : Type} {f : α → Int → Int → Int × Bool} {room deep : Int} (r : List α) : ∀ (l : List α) (acc m : Int), lszGo f room deep acc l = (m, true) → lszGo f room deep acc (l ++ r) = lszGo f room deep m r
  | [], acc, m, h => by
    simp only [lszGo, Prod.mk.injEq, and_true] at h
    rw [h, List.nil_append]
  | k :: ks, acc, m, h => by
    simp only [List.cons_append, lszGo] at h ⊢
    split at h
    · rename_i hk
      rw [if_pos hk]
      exact lszGo_app r ks _ m h
    · simp at h

theorem bsz_tN (x room deep : Int) (hr : 8 ≤ room) : bsz 1 (tN x) room deep = (nsz x, true) := by
  have := nsz_bd x
  rw [bsz_yes (by omega) (by rfl)]
  rw [if_pos (by rfl)]
  simp only [Prod.mk.injEq, decide_eq_true_eq]
  exact ⟨rfl, by show nsz x ≤ room; omega⟩

theorem bsz_tB (bs : List Int) (room deep : Int) (hr : (bs.length : Int) ≤ room) : bsz 1 (tB bs) room deep = ((bs.length : Int), true) := by
  rw [bsz_yes (by omega) (by rfl)]
  rw [if_neg (by show ¬ (2 : Int) = 1; decide), if_pos (by rfl)]
  simp only [Prod.mk.injEq, decide_eq_true_eq]
  exact ⟨rfl, hr⟩

theorem szT_tN (x : Int) : szT 1 (tN x) = 3 + nsz x := by rw [szT, bsz_tN x 65535 8 (by omega)]; rfl
theorem szT_tB (bs : List Int) (h : bs.length ≤ 3000) : szT 1 (tB bs) = 3 + bs.length := by rw [szT, bsz_tB bs 65535 8 (by omega)]; rfl

theorem lszGo_abs (x : Int) (bs : List Int) (h : bs.length ≤ 3000) : ∀ k : Nat, k ≤ 10 → lszGo (bsz 1) 65535 8 0 (abs x bs k) = ((k : Int) * (6 + nsz x + bs.length), true)
  | 0, _ => by simp [abs, lszGo]
  | k + 1, hk => by
    have := nsz_bd x
    have hb : (k : Int) * (6 + nsz x + bs.length) ≤ 9 * 3014 := by
      refine Int.le_trans (Int.mul_le_mul_of_nonneg_left (show 6 + nsz x + bs.length ≤ 3014 by omega) (by omega)) (Int.mul_le_mul_of_nonneg_right (by omega) (by omega))
    have hb0 : 0 ≤ (k : Int) * (6 + nsz x + bs.length) := Int.mul_nonneg (by omega) (by omega)
    rw [abs, lszGo_app [tN x, tB bs] _ _ _ (lszGo_abs x bs h k (by omega))]
    have e : (((k + 1 : Nat) : Int)) * (6 + nsz x + bs.length) = (k : Int) * (6 + nsz x + bs.length) + (6 + nsz x + bs.length) := by rw [show (((k + 1 : Nat) : Int)) = (k : Int) + 1 by omega, Int.add_mul]; omega
    rw [e]
    generalize (k : Int) * (6 + nsz x + bs.length) = q at *
    simp only [lszGo]
    rw [bsz_tN x _ _ (by omega)]
    simp only
    rw [bsz_tB bs _ _ (by omega)]
    simp only [if_true, Prod.mk.injEq, and_true]
    omega

theorem szT_abs (x : Int) (bs : List Int) (k : Nat) (h : bs.length ≤ 3000) (hk : k ≤ 10) : szT 2 (Tr.mk 3 0 [] (abs x bs k)) = 3 + (k : Int) * (szT 1 (tN x) + szT 1 (tB bs)) := by
  have e : bsz 2 (Tr.mk 3 0 [] (abs x bs k)) 65535 8 = ((k : Int) * (6 + nsz x + bs.length), true) := by
    rw [bsz_yes (by omega) (by rfl)]
    rw [if_neg (by show ¬ (3 : Int) = 1; decide), if_neg (by show ¬ (3 : Int) = 2; decide), if_pos (by rfl), lsz_go (by omega)]
    exact lszGo_abs x bs h k hk
  rw [szT_tN, szT_tB bs h, szT, e]
  simp only [if_true]
  rw [show (3 : Int) + nsz x + (3 + (bs.length : Int)) = 6 + nsz x + bs.length by omega]

end Go.Proofs.Ytnnanmpogjmkiaa
