/-
  Plain mathematics of the tlv statements: trees of values by their depth, what their form takes, and their form; no program is named here.
-/
import Derived.Lib.BitFns
namespace Go.Proofs.Ythbhdbjjobfchaa.Tlv

/-- A value nested at most n deep: its tag, its number, its bytes; the values in it. -/
def Tr : Nat → Type
  | 0 => Empty
  | n + 1 => (Int × Int × List Int) × List (Tr n)

def Tr.hd : {n : Nat} → Tr n → Int × Int × List Int
  | 0, t => by cases t
  | _ + 1, t => t.1

def Tr.kd {n : Nat} (t : Tr (n + 1)) : List (Tr n) := t.2

def Tr.mk {n : Nat} (tag num : Int) (bs : List Int) (ks : List (Tr n)) : Tr (n + 1) := ((tag, num, bs), ks)

/-- How many bytes a number takes. -/
def nsz (x : Int) : Int := ((Lib.bitLen x.toNat : Int) + 7) / 8

theorem bitLen_le64 (x : Nat) : Lib.bitLen x ≤ 64 := by
  have h : ∀ f x, Lib.bitLenAux f x ≤ f := by
    intro f
    induction f with
    | zero => intro x; simp [Lib.bitLenAux]
    | succ f ih => intro x; simp only [Lib.bitLenAux]; split; omega; have := ih (x / 2); omega
  exact h 64 x

theorem nsz_bd (x : Int) : 0 ≤ nsz x ∧ nsz x ≤ 8 := by
  have := bitLen_le64 x.toNat
  unfold nsz
  omega

/-- The other fields are empty. -/
def oeB (tag num : Int) (lb lk : Nat) : Bool := (tag == 1 || num == 0) && (tag == 2 || (lb : Int) == 0) && (tag == 3 || (lk : Int) == 0)

/-- The room that a list's values take, behind one another, 'acc' of it taken already. -/
def lszGo {α : Type} (f : α → Int → Int → Int × Bool) (room deep : Int) : Int → List α → Int × Bool
  | acc, [] => (acc, true)
  | acc, k :: ks => if (f k (room - acc - 3) (deep - 1)).2 then lszGo f room deep (acc + (3 + (f k (room - acc - 3) (deep - 1)).1)) ks else (0, false)

def lsz {α : Type} (f : α → Int → Int → Int × Bool) (ks : List α) (room deep : Int) : Int × Bool :=
  if deep = 0 then (0, false) else lszGo f room deep 0 ks

/-- What is behind the first three bytes of a form: how many bytes, and whether the value is right. -/
def bsz : (n : Nat) → Tr n → Int → Int → Int × Bool
  | 0, t, _, _ => by cases t
  | n + 1, t, room, deep =>
    if room < 0 ∨ oeB t.hd.1 t.hd.2.1 t.hd.2.2.length t.kd.length = false then (0, false)
    else if t.hd.1 = 1 then (nsz t.hd.2.1, decide (nsz t.hd.2.1 ≤ room))
    else if t.hd.1 = 2 then ((t.hd.2.2.length : Int), decide ((t.hd.2.2.length : Int) ≤ room))
    else if t.hd.1 = 3 then lsz (bsz n) t.kd room deep
    else (0, false)

/-- 'f' tells a room only where there is one. -/
def Fits {α : Type} (f : α → Int → Int → Int × Bool) : Prop := ∀ t room deep, (f t room deep).2 = true → 0 ≤ (f t room deep).1 ∧ (f t room deep).1 ≤ room

theorem lszGo_bd {α : Type} {f : α → Int → Int → Int × Bool} (hf : Fits f) (room deep : Int) (ks : List α) : ∀ acc, 0 ≤ acc → acc ≤ room →
    (lszGo f room deep acc ks).2 = true → acc ≤ (lszGo f room deep acc ks).1 ∧ (lszGo f room deep acc ks).1 ≤ room := by
  induction ks with
  | nil => intro acc h0 h1 _; simp [lszGo]; omega
  | cons k ks ih =>
    intro acc h0 h1 h2
    simp only [lszGo] at h2 ⊢
    split at h2
    · rename_i hk
      rw [if_pos hk]
      have b := hf k _ _ hk
      have := ih _ (by omega) (by omega) h2
      omega
    · simp at h2

theorem bsz_fits : ∀ n, Fits (bsz n)
  | 0, t, _, _, _ => by cases t
  | n + 1, t, room, deep, h => by
    simp only [bsz] at h ⊢
    split at h
    · simp at h
    · rename_i h0
      rw [if_neg h0]
      split at h
      · rename_i h1; rw [if_pos h1]; have := nsz_bd t.hd.2.1; simp at h ⊢; omega
      · rename_i h1
        rw [if_neg h1]
        split at h
        · rename_i h2; rw [if_pos h2]; simp at h ⊢; omega
        · rename_i h2
          rw [if_neg h2]
          split at h
          · rename_i h3
            rw [if_pos h3]
            unfold lsz at h ⊢
            split at h
            · simp at h
            · rename_i h4
              rw [if_neg h4]
              exact lszGo_bd (bsz_fits n) room deep _ 0 (by omega) (by have := not_or.1 h0; omega) h
          · simp at h

end Go.Proofs.Ythbhdbjjobfchaa.Tlv
