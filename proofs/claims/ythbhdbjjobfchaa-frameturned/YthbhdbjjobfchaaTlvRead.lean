/-
  Plain mathematics: the tree that bytes begin with.
-/
import Derived.Test.YthbhdbjjobfchaaTlvForm
namespace Go.Proofs.Ythbhdbjjobfchaa.Tlv

/-- The number of bytes, the highest first. -/
def valB (bs : List Int) : Int := bs.foldl (fun a x => a * 256 + x) 0

/-- The values that bytes are, one behind the other, by what one of them is. -/
def rdList {α : Type} (f : List Int → Option (α × Nat)) : Nat → List Int → Option (List α)
  | _, [] => some []
  | 0, _ :: _ => none
  | k + 1, b :: bs => match f (b :: bs) with
    | none => none
    | some (v, m) => (rdList f k ((b :: bs).drop m)).map (v :: ·)

/-- A value of its tag and what is behind the first three bytes, lists nested at most d deep. -/
def rdBody (d : Nat) (f : List Int → Option (List (Tr d))) (tag : Int) (bs : List Int) : Option (Tr (d + 1)) :=
  if tag = 1 then (if 8 < bs.length ∨ bs.head? = some 0 then none else some (Tr.mk 1 (valB bs) [] []))
  else if tag = 2 then some (Tr.mk 2 0 bs [])
  else if tag = 3 then (f bs).map fun ks => Tr.mk 3 0 [] ks
  else none

/-- How many bytes the form that b begins with has, as its first three tell. -/
def endOf (b : List Int) : Nat := 3 + (b.getD 1 0 * 256 + b.getD 2 0).toNat

/-- The tree that b begins with, and how many bytes its form has. -/
def rd1 (d : Nat) (f : List Int → Option (List (Tr d))) (b : List Int) : Option (Tr (d + 1) × Nat) :=
  if b.length < 3 then none else if b.length < endOf b then none
  else (rdBody d f (b.getD 0 0) ((b.take (endOf b)).drop 3)).map fun v => (v, endOf b)

def rd : (d : Nat) → List Int → Option (Tr (d + 1) × Nat)
  | 0 => rd1 0 fun _ => none
  | d + 1 => rd1 (d + 1) fun b => rdList (rd d) b.length b

/-- A list's values, as deep as may be. -/
def rdKids : (d : Nat) → List Int → Option (List (Tr d))
  | 0, _ => none
  | d + 1, b => rdList (rd d) b.length b

theorem rd_eq (d : Nat) (b : List Int) : rd d b = rd1 d (rdKids d) b := by
  cases d <;> rfl

theorem rd_try : rd 8 [3, 0, 9, 1, 0, 2, 1, 44, 2, 0, 1, 97] = some (Tr.mk 3 0 [] [Tr.mk 1 300 [] [], Tr.mk 2 0 [97] []], 12) := by rfl

theorem rd_pos {d : Nat} {b : List Int} {t : Tr (d + 1)} {m : Nat} (h : rd d b = some (t, m)) : 3 ≤ m ∧ m ≤ b.length := by
  rw [rd_eq, rd1] at h
  split at h
  · simp at h
  · split at h
    · simp at h
    · simp only [Option.map_eq_some_iff, Prod.mk.injEq] at h
      obtain ⟨_, _, _, rfl⟩ := h
      unfold endOf at *
      omega

theorem valB_snoc (l : List Int) (x : Int) : valB (l ++ [x]) = valB l * 256 + x := by simp [valB]

theorem valB_bd (l : List Int) (h : ∀ x ∈ l, 0 ≤ x ∧ x ≤ 255) : 0 ≤ valB l ∧ valB l < 256 ^ l.length := by
  have go : ∀ (l : List Int) (a : Int) (k : Nat), (∀ x ∈ l, 0 ≤ x ∧ x ≤ 255) → 0 ≤ a → a < 256 ^ k → 0 ≤ l.foldl (fun a x => a * 256 + x) a ∧ l.foldl (fun a x => a * 256 + x) a < 256 ^ (k + l.length) := by
    intro l
    induction l with
    | nil => intro a k _ h0 h1; simp; exact ⟨h0, h1⟩
    | cons x l ih =>
      intro a k hx h0 h1
      have hx1 := hx x (List.mem_cons_self ..)
      have h2 : a * 256 + x < 256 ^ (k + 1) := by rw [Int.pow_succ]; omega
      have := ih (a * 256 + x) (k + 1) (fun y hy => hx y (List.mem_cons_of_mem _ hy)) (by omega) h2
      rw [List.foldl_cons, List.length_cons, show k + (l.length + 1) = k + 1 + l.length by omega]
      exact this
  have := go l 0 0 h (by omega) (by simp)
  simpa [valB] using this

end Go.Proofs.Ythbhdbjjobfchaa.Tlv
