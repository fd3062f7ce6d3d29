/-
  Plain mathematics: what a scan is told, frame behind frame.
-/
import Derived.Test.YthbhdbjjobfchaaFrMath
namespace Go.Proofs.Ythbhdbjjobfchaa

/-- What is told: where, and what Take answers there. -/
abbrev Item : Type := Nat × (Int × (Int × List Int × List Int) × Nat)

def toldN : Nat → List Int → Nat → List Item
  | 0, _, _ => []
  | k + 1, xs, p => if xs.length ≤ p then [] else (p, takeF (xs.drop p)) :: if (takeF (xs.drop p)).1 = 0 then toldN k xs (p + (takeF (xs.drop p)).2.2) else []

theorem toldN_fuel : ∀ (k m : Nat) (xs : List Int) (p : Nat), xs.length + 1 - p ≤ k → xs.length + 1 - p ≤ m → toldN k xs p = toldN m xs p
  | 0, m, xs, p, h1, h2 => by
    cases m with
    | zero => rfl
    | succ m => rw [toldN, toldN, if_pos (by omega)]
  | k + 1, 0, xs, p, h1, h2 => by rw [toldN, toldN, if_pos (by omega)]
  | k + 1, m + 1, xs, p, h1, h2 => by
    rw [toldN, toldN]
    by_cases h : xs.length ≤ p
    · rw [if_pos h, if_pos h]
    · rw [if_neg h, if_neg h]
      by_cases h0 : (takeF (xs.drop p)).1 = 0
      · have hp := takeF_pos h0
        rw [if_pos h0, if_pos h0, toldN_fuel k m xs _ (by omega) (by omega)]
      · rw [if_neg h0, if_neg h0]

/-- All that is told from p on. -/
def tl (xs : List Int) (p : Nat) : List Item := toldN (xs.length + 1 - p) xs p

theorem tl_end {xs : List Int} {p : Nat} (h : xs.length ≤ p) : tl xs p = [] := by
  rw [tl]
  cases hq : xs.length + 1 - p with
  | zero => rfl
  | succ k => rw [toldN, if_pos h]
theorem tl_bad {xs : List Int} {p : Nat} (h : p < xs.length) (hf : (takeF (xs.drop p)).1 ≠ 0) : tl xs p = [(p, takeF (xs.drop p))] := by
  rw [tl, show xs.length + 1 - p = (xs.length - p) + 1 by omega, toldN, if_neg (by omega), if_neg hf]
theorem tl_good {xs : List Int} {p : Nat} (h : p < xs.length) (hf : (takeF (xs.drop p)).1 = 0) : tl xs p = (p, takeF (xs.drop p)) :: tl xs (p + (takeF (xs.drop p)).2.2) := by
  have hp := takeF_pos hf
  rw [tl, show xs.length + 1 - p = (xs.length - p) + 1 by omega, toldN, if_neg (by omega), if_pos hf, tl, toldN_fuel (xs.length - p) (xs.length + 1 - (p + (takeF (xs.drop p)).2.2)) xs _ (by omega) (by omega)]
theorem tl_head {xs : List Int} {p : Nat} (h : p < xs.length) : ∃ L, tl xs p = (p, takeF (xs.drop p)) :: L ∧ (((takeF (xs.drop p)).1 = 0 ∧ L = tl xs (p + (takeF (xs.drop p)).2.2)) ∨ ((takeF (xs.drop p)).1 ≠ 0 ∧ L = [])) := by
  by_cases hf : (takeF (xs.drop p)).1 = 0
  · exact ⟨_, tl_good h hf, .inl ⟨hf, rfl⟩⟩
  · exact ⟨_, tl_bad h hf, .inr ⟨hf, rfl⟩⟩

/-- The good ones, where the first that is none begins, and the fault there. -/
def scanR : List Item → Nat → List Item × Nat × Int
  | [], p => ([], p, 0)
  | x :: L, _ => if x.2.1 = 0 then (x :: (scanR L (x.1 + x.2.2.2)).1, (scanR L (x.1 + x.2.2.2)).2) else ([], x.1, x.2.1)

def scanF (xs : List Int) : List Item × Nat × Int := scanR (tl xs 0) 0

theorem tl_length_le (xs : List Int) : ∀ (d p : Nat), xs.length - p ≤ d → (tl xs p).length ≤ xs.length - p
  | 0, p, h => by rw [tl_end (by omega)]; simp
  | d + 1, p, h => by
    by_cases hp : xs.length ≤ p
    · rw [tl_end hp]; simp
    · by_cases hf : (takeF (xs.drop p)).1 = 0
      · have hq := takeF_pos hf
        have := tl_length_le xs d (p + (takeF (xs.drop p)).2.2) (by omega)
        rw [tl_good (by omega) hf, List.length_cons]
        omega
      · rw [tl_bad (by omega) hf]; simp; omega

end Go.Proofs.Ythbhdbjjobfchaa
