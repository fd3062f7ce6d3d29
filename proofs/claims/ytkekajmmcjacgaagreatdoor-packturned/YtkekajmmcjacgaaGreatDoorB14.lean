/- Of the proof: the texts PkManyM, PkGet, FrBackM, TlvRefTake, CrcRefOpen, one behind the other. -/
import Derived.Test.YtkekajmmcjacgaaGreatDoorB13
import Derived.Test.YtkekajmmcjacgaaGreatDoorB11
import Derived.Test.YtkekajmmcjacgaaGreatDoorB9
import Derived.Test.YtkekajmmcjacgaaGreatDoorB4
import Derived.Test.YtkekajmmcjacgaaGreatDoorB5
import Derived.Test.YtkekajmmcjacgaaGreatDoorB8
section
/-
  Plain mathematics of a pack with many records: one file that is appended to, synced and moved, on a disk that goes down at any step; and what is there once it is up again.
-/
namespace Go.Proofs.YtkekajmmcjacgaaGreatDoor.Sim

/-- One file x, whatever is seen of it. -/
def one (d ar : Bool) (lf st : Nat) (sn : Dir) (cg : List PC) (sa : Dir) (r x : Nat) (f : Fl) : PS := ⟨r, true, sn, sa, cg, d, ar, lf, st, fun y => if y = x then some f else none⟩
theorem one_setF (d ar : Bool) (lf st : Nat) (sn : Dir) (cg : List PC) (sa : Dir) (r x : Nat) (f g : Fl) : setF x g (one d ar lf st sn cg sa r x f) = one d ar lf st sn cg sa r x g := by
  simp only [setF, one, PS.mk.injEq, true_and]
  funext y
  by_cases h : y = x <;> simp [h]
theorem one_fileAt (d ar : Bool) (lf st : Nat) (sn : Dir) (cg : List PC) (sa : Dir) (r x : Nat) (f : Fl) : fileAt (one d ar lf st sn cg sa r x f) x = f := by simp [fileAt, one]
theorem one_tick (d ar : Bool) (lf st : Nat) (sn : Dir) (cg : List PC) (sa : Dir) (r x : Nat) (f : Fl) : tick (one d ar lf st sn cg sa r x f) = one d ar (if ar then lf - 1 else lf) (st + 1) sn cg sa r x f := rfl
theorem one_fall (d ar : Bool) (lf st : Nat) (sn : Dir) (cg : List PC) (sa : Dir) (r x : Nat) (f : Fl) : fall (one d ar lf st sn cg sa r x f) = one true ar lf st sn cg sa r x f := rfl
theorem one_dead (d ar : Bool) (lf st : Nat) (sn : Dir) (cg : List PC) (sa : Dir) (r x : Nat) (f : Fl) : dead (one d ar lf st sn cg sa r x f) = (ar && lf == 0) := rfl

section
variable {t n : Nm} {r x : Nat} {ar d : Bool} {ys bs : List Nat} {p : PS}

def start (r : Nat) (ar : Bool) (lf : Nat) : PS := { startPS r with armed := ar, left := lf }
/-- The pack is begun: the file is seen under its temporary name. -/
def Beg (t : Nm) (r x : Nat) (ar d : Bool) (ys : List Nat) (p : PS) : Prop := (d = true → ar = true) ∧ ∃ lf st, p = one d ar lf st [(t, x)] [⟨0, t, [], x⟩] [] r x ⟨ys, 0⟩

theorem start_make (ht : nameB t = true) (lf : Nat) : (pCreate t x (start r ar lf) = (12, fall (start r ar lf)) ∧ ar = true) ∨ ((pCreate t x (start r ar lf)).1 = 0 ∧ Beg t r x ar false [] (pCreate t x (start r ar lf)).2) := by
  have h : pCreate t x (start r ar lf) = stp (start r ar lf) (fun q => chgd ⟨0, t, [], x⟩ (setF x ⟨[], 0⟩ q)) := by simp [pCreate, wrongs, start, startPS, ht, dfind]
  rw [h, stp]
  cases hd : dead (start r ar lf) with
  | true =>
    rw [if_pos rfl]
    refine .inl ⟨rfl, ?_⟩
    simp [dead, start] at hd
    exact hd.1
  | false =>
    rw [if_neg (by simp)]
    refine .inr ⟨rfl, by simp, (tick (start r ar lf)).left, 1, ?_⟩
    simp [chgd, setF, tick, start, startPS, one, pdo, dput, ddel, dins]
theorem Beg.down (h : Beg t r x ar d ys p) : p.down = d := by obtain ⟨_, _, _, rfl⟩ := h; rfl
theorem Beg.finds (h : Beg t r x ar d ys p) (ht : nameB t = true) : finds p t = if d then 12 else 0 := by
  obtain ⟨_, lf, st, rfl⟩ := h
  cases d <;> simp [Sim.finds, wrongs, one, ht, dfind]
theorem Beg.block (h : Beg t r x ar d ys p) : blockOf p t = x := by obtain ⟨_, lf, st, rfl⟩ := h; simp [blockOf, one, dfind]
theorem Beg.file (h : Beg t r x ar d ys p) : fileAt p x = ⟨ys, 0⟩ := by obtain ⟨_, lf, st, rfl⟩ := h; exact one_fileAt ..
theorem Beg.used (h : Beg t r x ar d ys p) : used p = ys.length := by
  have hf := h.file
  obtain ⟨_, lf, st, rfl⟩ := h
  show (([(t, x)] : Dir).map fun e => (fileAt (one d ar lf st [(t, x)] [⟨0, t, [], x⟩] [] r x ⟨ys, 0⟩) e.2).b.length).sum = _
  simp [hf]
theorem Beg.room (h : Beg t r x ar d ys p) : p.room = r := by obtain ⟨_, lf, st, rfl⟩ := h; rfl
theorem Beg.append (h : Beg t r x ar d ys p) (ht : nameB t = true) (hl : ys.length + bs.length ≤ r) :
    ((pAppend t bs p).1 = 12 ∧ ar = true ∧ Beg t r x ar true ys (pAppend t bs p).2) ∨ ((pAppend t bs p).1 = 0 ∧ d = false ∧ Beg t r x ar false (ys ++ bs) (pAppend t bs p).2) := by
  cases d with
  | true =>
    have e : pAppend t bs p = (12, p) := by rw [pAppend, h.finds ht]; simp
    rw [e]
    exact .inl ⟨rfl, h.1 rfl, h⟩
  | false =>
    have e : pAppend t bs p = stp p (setF x ⟨ys ++ bs, 0⟩) := by
      rw [pAppend, h.finds ht, if_neg (by simp), h.used, h.room, if_neg (by omega), h.block, h.file]
    rw [e, stp]
    obtain ⟨_, lf, st, rfl⟩ := h
    rw [one_dead, one_fall, one_tick, one_setF]
    cases hd : (ar && lf == 0) with
    | true =>
      rw [if_pos rfl]
      have ha : ar = true := by simp at hd; exact hd.1
      exact .inl ⟨rfl, ha, fun _ => ha, lf, st, rfl⟩
    | false =>
      rw [if_neg (by simp)]
      exact .inr ⟨rfl, rfl, by simp, _, _, rfl⟩

/-- How far a sealing came: 0: nothing of it is safe; 1: the bytes are; 2: they are moved; 3: that is safe. -/
def SealR (t n : Nm) (r x : Nat) (ys : List Nat) (k : Nat) (p : PS) : Prop :=
  ∃ d ar lf st, (k = 0 ∧ p = one d ar lf st [(t, x)] [⟨0, t, [], x⟩] [] r x ⟨ys, 0⟩) ∨ (k = 1 ∧ p = one d ar lf st [(t, x)] [⟨0, t, [], x⟩] [] r x ⟨ys, ys.length⟩) ∨
    (k = 2 ∧ p = one d ar lf st [(n, x)] [⟨0, t, [], x⟩, ⟨2, t, n, 0⟩] [] r x ⟨ys, ys.length⟩) ∨ (k = 3 ∧ p = one d ar lf st [(n, x)] [] [(n, x)] r x ⟨ys, ys.length⟩)
theorem Beg.sealR (h : Beg t r x ar d ys p) : SealR t n r x ys 0 p := by
  obtain ⟨_, lf, st, rfl⟩ := h
  exact ⟨d, ar, lf, st, .inl ⟨rfl, rfl⟩⟩

theorem Beg.fsync (h : Beg t r x ar d ys p) (ht : nameB t = true) :
    ((pFsync t p).1 = 12 ∧ ar = true ∧ SealR t n r x ys 0 (pFsync t p).2) ∨ ((pFsync t p).1 = 0 ∧ ∃ lf st, (pFsync t p).2 = one false ar lf st [(t, x)] [⟨0, t, [], x⟩] [] r x ⟨ys, ys.length⟩) := by
  cases d with
  | true =>
    have e : pFsync t p = (12, p) := by rw [pFsync, h.finds ht]; simp
    rw [e]
    exact .inl ⟨rfl, h.1 rfl, h.sealR⟩
  | false =>
    have e : pFsync t p = stp p (setF x ⟨ys, ys.length⟩) := by rw [pFsync, h.finds ht, if_neg (by simp), h.block, h.file]
    rw [e, stp]
    obtain ⟨_, lf, st, rfl⟩ := h
    rw [one_dead, one_fall, one_tick, one_setF]
    cases hd : (ar && lf == 0) with
    | true =>
      rw [if_pos rfl]
      have ha : ar = true := by simp at hd; exact hd.1
      exact .inl ⟨rfl, ha, true, ar, lf, st, .inl ⟨rfl, rfl⟩⟩
    | false =>
      rw [if_neg (by simp)]
      exact .inr ⟨rfl, _, _, rfl⟩
theorem one_rename (lf st : Nat) (ht : nameB t = true) (hn : nameB n = true) :
    let q := one false ar lf st [(t, x)] [⟨0, t, [], x⟩] [] r x ⟨ys, ys.length⟩
    ((pRename t n q).1 = 12 ∧ ar = true ∧ SealR t n r x ys 1 (pRename t n q).2) ∨ ((pRename t n q).1 = 0 ∧ ∃ lf st, (pRename t n q).2 = one false ar lf st [(n, x)] [⟨0, t, [], x⟩, ⟨2, t, n, 0⟩] [] r x ⟨ys, ys.length⟩) := by
  intro q
  have e : pRename t n q = stp q (chgd ⟨2, t, n, 0⟩) := by simp [pRename, wrongs, q, one, ht, hn, dfind]
  rw [e, stp]
  rw [one_dead, one_fall, one_tick]
  cases hd : (ar && lf == 0) with
  | true =>
    rw [if_pos rfl]
    have ha : ar = true := by simp at hd; exact hd.1
    exact .inl ⟨rfl, ha, true, ar, lf, st, .inr (.inl ⟨rfl, rfl⟩)⟩
  | false =>
    rw [if_neg (by simp)]
    refine .inr ⟨rfl, if ar then lf - 1 else lf, st + 1, ?_⟩
    simp [chgd, one, pdo, dput, ddel, dins, dfind]
theorem one_sync (lf st : Nat) :
    let q := one false ar lf st [(n, x)] [⟨0, t, [], x⟩, ⟨2, t, n, 0⟩] [] r x ⟨ys, ys.length⟩
    ((pSyncDir q).1 = 12 ∧ ar = true ∧ SealR t n r x ys 2 (pSyncDir q).2) ∨ ((pSyncDir q).1 = 0 ∧ ∃ lf st, (pSyncDir q).2 = one false ar lf st [(n, x)] [] [(n, x)] r x ⟨ys, ys.length⟩) := by
  intro q
  have e : pSyncDir q = stp q (settle 2) := by simp [pSyncDir, wrongs, q, one]
  rw [e, stp]
  rw [one_dead, one_fall, one_tick]
  cases hd : (ar && lf == 0) with
  | true =>
    rw [if_pos rfl]
    have ha : ar = true := by simp at hd; exact hd.1
    exact .inl ⟨rfl, ha, true, ar, lf, st, .inr (.inr (.inl ⟨rfl, rfl⟩))⟩
  | false =>
    rw [if_neg (by simp)]
    refine .inr ⟨rfl, if ar then lf - 1 else lf, st + 1, ?_⟩
    simp [settle, one, pdo, dput, ddel, dins, dfind]

/-- What there is once it is up again: 0: nothing; 1: the temporary name; 2: the pack, whole. -/
def UpR (t n : Nm) (x : Nat) (ys : List Nat) (c : Nat) (p : PS) : Prop :=
  p.down = false ∧ p.armed = false ∧ p.chg = [] ∧ ((c = 0 ∧ p.seen = []) ∨ (c = 1 ∧ p.seen = [(t, x)]) ∨ (c = 2 ∧ p.seen = [(n, x)] ∧ (fileAt p x).b = ys))
theorem lose_whole (k : Int) : (lose k ⟨ys, ys.length⟩).b = ys := by simp [lose]
theorem up_start (lf : Nat) (k : Int) (cuts : List Int) (b : Bool) : UpR t n x ys 0 (pUp k cuts { start r ar lf with down := b }) := by
  have e : (settle (min (max k 0).toNat (start r ar lf).chg.length) (start r ar lf)).safe = [] := by simp [settle, start, startPS]
  refine ⟨rfl, rfl, ?_, .inl ⟨rfl, ?_⟩⟩ <;> simp [pUp, settle, start, startPS, loses]
theorem loses_chg (cuts : List Int) : ∀ (l : Dir) (i : Nat) (q : PS), (loses l i cuts q).chg = q.chg
  | [], _, _ => rfl
  | _ :: l, i, q => by rw [loses, loses_chg cuts l]; rfl
theorem SealR.up {k : Nat} (h : SealR t n r x ys k p) (z : Int) (cuts : List Int) : ∃ c, UpR t n x ys c (pUp z cuts p) ∧ (k = 3 → c = 2) ∧ (k < 2 → c < 2) := by
  obtain ⟨d, ar, lf, st, h⟩ := h
  rcases h with ⟨rfl, rfl⟩ | ⟨rfl, rfl⟩ | ⟨rfl, rfl⟩ | ⟨rfl, rfl⟩
  · obtain ⟨m, hm, hm1⟩ : ∃ m, min (max z 0).toNat 1 = m ∧ m ≤ 1 := ⟨_, rfl, by omega⟩
    have e : pUp z cuts (one d ar lf st [(t, x)] [⟨0, t, [], x⟩] [] r x ⟨ys, 0⟩) = (let q := settle m (one d ar lf st [(t, x)] [⟨0, t, [], x⟩] [] r x ⟨ys, 0⟩); let r := loses q.safe 0 cuts q; { r with seen := r.safe, down := false, armed := false, left := 0 }) := by rw [← hm]; rfl
    rw [e]
    have : m = 0 ∨ m = 1 := by omega
    rcases this with rfl | rfl
    · exact ⟨0, ⟨rfl, rfl, loses_chg _ _ _ _, .inl ⟨rfl, rfl⟩⟩, by omega, by omega⟩
    · refine ⟨1, ⟨rfl, rfl, loses_chg _ _ _ _, .inr (.inl ⟨rfl, ?_⟩)⟩, by omega, by omega⟩
      simp [settle, one, pdo, dput, ddel, dins, loses, setF]
  · obtain ⟨m, hm, hm1⟩ : ∃ m, min (max z 0).toNat 1 = m ∧ m ≤ 1 := ⟨_, rfl, by omega⟩
    have e : pUp z cuts (one d ar lf st [(t, x)] [⟨0, t, [], x⟩] [] r x ⟨ys, ys.length⟩) = (let q := settle m (one d ar lf st [(t, x)] [⟨0, t, [], x⟩] [] r x ⟨ys, ys.length⟩); let r := loses q.safe 0 cuts q; { r with seen := r.safe, down := false, armed := false, left := 0 }) := by rw [← hm]; rfl
    rw [e]
    have : m = 0 ∨ m = 1 := by omega
    rcases this with rfl | rfl
    · exact ⟨0, ⟨rfl, rfl, loses_chg _ _ _ _, .inl ⟨rfl, rfl⟩⟩, by omega, by omega⟩
    · refine ⟨1, ⟨rfl, rfl, loses_chg _ _ _ _, .inr (.inl ⟨rfl, ?_⟩)⟩, by omega, by omega⟩
      simp [settle, one, pdo, dput, ddel, dins, loses, setF]
  · obtain ⟨m, hm, hm1⟩ : ∃ m, min (max z 0).toNat 2 = m ∧ m ≤ 2 := ⟨_, rfl, by omega⟩
    have e : pUp z cuts (one d ar lf st [(n, x)] [⟨0, t, [], x⟩, ⟨2, t, n, 0⟩] [] r x ⟨ys, ys.length⟩) = (let q := settle m (one d ar lf st [(n, x)] [⟨0, t, [], x⟩, ⟨2, t, n, 0⟩] [] r x ⟨ys, ys.length⟩); let r := loses q.safe 0 cuts q; { r with seen := r.safe, down := false, armed := false, left := 0 }) := by rw [← hm]; rfl
    rw [e]
    have : m = 0 ∨ m = 1 ∨ m = 2 := by omega
    rcases this with rfl | rfl | rfl
    · exact ⟨0, ⟨rfl, rfl, loses_chg _ _ _ _, .inl ⟨rfl, rfl⟩⟩, by omega, by omega⟩
    · refine ⟨1, ⟨rfl, rfl, loses_chg _ _ _ _, .inr (.inl ⟨rfl, ?_⟩)⟩, by omega, by omega⟩
      simp [settle, one, pdo, dput, ddel, dins, loses, setF]
    · refine ⟨2, ⟨rfl, rfl, loses_chg _ _ _ _, .inr (.inr ⟨rfl, ?_, ?_⟩)⟩, by omega, by omega⟩
      · simp [settle, one, pdo, dput, ddel, dins, dfind, loses, setF]
      · simp [settle, one, pdo, dput, ddel, dins, dfind, loses, setF, fileAt, lose_whole]
  · have e : pUp z cuts (one d ar lf st [(n, x)] [] [(n, x)] r x ⟨ys, ys.length⟩) = (let q := settle 0 (one d ar lf st [(n, x)] [] [(n, x)] r x ⟨ys, ys.length⟩); let r := loses q.safe 0 cuts q; { r with seen := r.safe, down := false, armed := false, left := 0 }) := by
      have h0 : min (max z 0).toNat (one d ar lf st [(n, x)] [] [(n, x)] r x ⟨ys, ys.length⟩).chg.length = 0 := Nat.min_zero _
      rw [pUp, h0]
    rw [e]
    refine ⟨2, ⟨rfl, rfl, loses_chg _ _ _ _, .inr (.inr ⟨rfl, ?_, ?_⟩)⟩, by omega, by omega⟩
    · simp [settle, one, loses, setF]
    · simp [settle, one, loses, setF, fileAt, lose_whole]

variable {c : Nat}
theorem UpR.list (h : UpR t n x ys c p) : pList p = if c = 0 then [] else if c = 1 then [t] else [n] := by
  obtain ⟨h1, _, _, h⟩ := h
  rcases h with ⟨rfl, h⟩ | ⟨rfl, h⟩ | ⟨rfl, h, _⟩ <;> simp [pList, h1, h]
theorem UpR.clean (h : UpR t n x ys 1 p) (ht : nameB t = true) : (pRemove t p).1 = 0 ∧ (pSyncDir (pRemove t p).2).1 = 0 ∧ UpR t n x ys 0 (pSyncDir (pRemove t p).2).2 := by
  obtain ⟨h1, h2, h3, h⟩ := h
  have hs : p.seen = [(t, x)] := by
    rcases h with ⟨h, _⟩ | ⟨_, h⟩ | ⟨h, _⟩
    · omega
    · exact h
    · omega
  have hf : Sim.finds p t = 0 := by simp [Sim.finds, wrongs, h1, hs, ht, dfind]
  have hd : dead p = false := by simp [dead, h2]
  have e1 : pRemove t p = (0, chgd ⟨1, t, [], 0⟩ (tick p)) := by rw [pRemove, hf, if_neg (by simp), stp, hd]; rfl
  have hw : wrongs (chgd ⟨1, t, [], 0⟩ (tick p)) [] = 0 := by simp [wrongs, chgd, tick, h1]
  have hd2 : dead (chgd ⟨1, t, [], 0⟩ (tick p)) = false := by simp [dead, chgd, tick, h2]
  have e2 : pSyncDir (chgd ⟨1, t, [], 0⟩ (tick p)) = (0, settle (chgd ⟨1, t, [], 0⟩ (tick p)).chg.length (tick (chgd ⟨1, t, [], 0⟩ (tick p)))) := by rw [pSyncDir, hw, if_neg (by simp), stp, hd2]; rfl
  rw [e1]
  refine ⟨rfl, by rw [e2], ?_⟩
  rw [e2]
  refine ⟨h1, h2, rfl, .inl ⟨rfl, ?_⟩⟩
  simp [settle, chgd, tick, hs, pdo, ddel]
theorem UpR.finds0 (h : UpR t n x ys 0 p) (hn : nameB n = true) : Sim.finds p n = 5 := by
  obtain ⟨h1, h2, h3, h⟩ := h
  have hs : p.seen = [] := by
    rcases h with ⟨_, h⟩ | ⟨h, _⟩ | ⟨h, _⟩
    · exact h
    · omega
    · omega
  simp [Sim.finds, wrongs, h1, hs, hn, dfind]
theorem UpR.finds2 (h : UpR t n x ys 2 p) (hn : nameB n = true) : Sim.finds p n = 0 ∧ pBytes n p = ys := by
  obtain ⟨h1, h2, h3, h⟩ := h
  obtain ⟨hs, hf⟩ : p.seen = [(n, x)] ∧ (fileAt p x).b = ys := by
    rcases h with ⟨h, _⟩ | ⟨h, _⟩ | ⟨_, h⟩
    · omega
    · omega
    · exact h
  have e : Sim.finds p n = 0 := by simp [Sim.finds, wrongs, h1, hs, hn, dfind]
  have eb : blockOf p n = x := by simp [blockOf, hs, dfind]
  exact ⟨e, by rw [pBytes, e, if_neg (by simp), eb, hf]⟩
end
end Go.Proofs.YtkekajmmcjacgaaGreatDoor.Sim
namespace Go.Proofs.YtkekajmmcjacgaaGreatDoor
open Sim (Beg SealR nm nameB PS)

section
variable {i r x : Nat} {ar d : Bool} {ys : List Nat} {p : PS}
/-- A record more, or a fault. -/
theorem beg_add (h : Beg (nm (nameT i)) r x ar d ys p) (ht : nameB (nm (nameT i)) = true) (sz ct : Nat) (X : List Int) (R : Bool) (hl : ys.length = sz) (hr : 12000 ≤ r) :
    (∃ (f : Int) (d' : Bool) (q : PS), f ≠ 0 ∧ addF i sz ct X R p = (0, f, q, sz, ct) ∧ Beg (nm (nameT i)) r x ar d' ys q) ∨
    (R = true ∧ sz + X.length ≤ 12000 ∧ ∃ q, addF i sz ct X R p = ((sz : Int), 0, q, sz + X.length, ct + 1) ∧ Beg (nm (nameT i)) r x ar false (ys ++ nats X) q) := by
  cases R with
  | false => exact .inl ⟨1, d, p, by omega, by simp [addF], h⟩
  | true =>
    by_cases h12 : 12000 < sz + X.length
    · exact .inl ⟨2, d, p, by omega, by simp [addF, h12], h⟩
    · rcases h.append (bs := nats X) ht (by rw [nats_length]; omega) with ⟨h1, _, h2⟩ | ⟨h1, _, h2⟩
      · refine .inl ⟨12, true, _, by omega, ?_, h2⟩
        rw [addF, if_neg (by simp), if_neg h12, h1, if_neg (by omega)]
        rfl
      · refine .inr ⟨rfl, by omega, _, ?_, h2⟩
        rw [addF, if_neg (by simp), if_neg h12, h1, if_pos rfl]
/-- A seal is done, or the disk is down. -/
theorem beg_seal (h : Beg (nm (nameT i)) r x ar d ys p) (ht : nameB (nm (nameT i)) = true) (hn : nameB (nm (nameP i)) = true) :
    ((sealF i p).1 = 12 ∧ ar = true ∧ ∃ k, k < 3 ∧ SealR (nm (nameT i)) (nm (nameP i)) r x ys k (sealF i p).2) ∨
    ((sealF i p).1 = 0 ∧ ∃ lf st, (sealF i p).2 = Sim.one false ar lf st [(nm (nameP i), x)] [] [(nm (nameP i), x)] r x ⟨ys, ys.length⟩) := by
  rcases h.fsync (n := nm (nameP i)) ht with ⟨h1, ha, h2⟩ | ⟨h1, lf, st, h2⟩
  · left
    rw [sealF, if_pos (by omega)]
    exact ⟨h1, ha, 0, by omega, h2⟩
  · rw [sealF, if_neg (by omega), h2]
    rcases Sim.one_rename (r := r) (x := x) (ys := ys) (ar := ar) lf st ht hn with ⟨h1, ha, h3⟩ | ⟨h1, lf', st', h3⟩
    · left
      rw [if_pos (by omega)]
      exact ⟨h1, ha, 1, by omega, h3⟩
    · rw [if_neg (by omega), h3]
      rcases Sim.one_sync (t := nm (nameT i)) (n := nm (nameP i)) (r := r) (x := x) (ys := ys) (ar := ar) lf' st' with ⟨h1, ha, h4⟩ | ⟨h1, lf2, st2, h4⟩
      · exact .inl ⟨h1, ha, 2, by omega, h4⟩
      · exact .inr ⟨h1, lf2, st2, h4⟩
end
end Go.Proofs.YtkekajmmcjacgaaGreatDoor
end

section
/-
  A record of a pack is got.
-/
namespace Go.Proofs.YtkekajmmcjacgaaGreatDoor
open Go.RowKit Go.Shelf
open Tlv (BySlS)
open Sim (hid Kp No PS Done Blk nm finds pBytes OwnB)

theorem takeF_faults (bs : List Int) : (takeF bs).1 = 0 ∨ ((takeF bs).1 ≠ 0 ∧ (takeF bs).1 ≠ 1 ∧ takeF bs = noRec (takeF bs).1) := by
  cases hr : Tlv.rd 8 bs with
  | none => rw [takeF_none hr]; right; simp [noRec]
  | some x =>
    obtain ⟨t, m⟩ := x
    rw [takeF_some hr]
    by_cases h1 : bs.length - m < 4
    · rw [if_pos h1]; right; simp [noRec]
    · rw [if_neg h1]
      by_cases h2 : sumI (bs.take m) ≠ (bs.drop m).take 4
      · rw [if_pos h2]; right; simp [noRec]
      · rw [if_neg h2]
        cases recOf t with
        | none => right; simp [noRec]
        | some r => left; rfl

/-- What Get answers: a fault of the reading, a place that is none, or what stands there. -/
def Gotten (w w' : World) (b : Nat) (e : Ending) (f : Nat) (bs : List Int) (z : Int) : Prop :=
  ((f ≠ 0 ∧ e = .returned (.tuple #[.agg zRec.toArray, .int .i64 (f : Int)])) ∨
   (f = 0 ∧ (z < 0 ∨ (bs.length : Int) ≤ z) ∧ e = .returned (.tuple #[.agg zRec.toArray, .int .i64 1])) ∨
   (∃ k : Nat, f = 0 ∧ z = k ∧ k < bs.length ∧ (takeF (bs.drop k)).1 ≠ 0 ∧ e = .returned (.tuple #[.agg zRec.toArray, .int .i64 4])) ∨
   (∃ k : Nat, f = 0 ∧ z = k ∧ k < bs.length ∧ (takeF (bs.drop k)).1 = 0 ∧ ∃ a c, e = .returned (.tuple #[.agg (recA (takeF (bs.drop k)).2.1.1 (takeF (bs.drop k)).2.1.2.1 (.slice a (takeF (bs.drop k)).2.1.2.2.length c)).toArray, .int .i64 0]) ∧
      BySlS (fun g => w.heap.size ≤ g ∧ g < w'.heap.size) w' (.slice a (takeF (bs.drop k)).2.1.2.2.length c) (takeF (bs.drop k)).2.1.2.2 ∧ ((takeF (bs.drop k)).2.1.2.1.length = 32 ∧ ∀ y ∈ (takeF (bs.drop k)).2.1.2.1, 0 ≤ y ∧ y ≤ 255))) ∧
  Crc.Kept b w w' ∧ TabX w' b

set_option maxHeartbeats 2000000 in
set_option maxRecDepth 100000 in
theorem get_any {P : Nat → Prop} {N : Nat} (w : World) (s b : Nat) (p : PS) (i : Nat) (z : Int) (h1 : 1 ≤ i) (h2 : i < 100) (h : Sim.Sys P N w s p) (hT : TabX w b) (hb : ∀ x ∈ pBytes (nm (nameP i)) p, x < 256) (hl : (pBytes (nm (nameP i)) p).length ≤ 20000000) :
    Calls Tryz.prog 27 #[.pointer (some ⟨s, 0, none⟩), .pointer (some ⟨b, 0, none⟩), .int .i64 (i : Int), .int .i64 z] w fun e w' => Gotten w w' b e (finds p (nm (nameP i))) (ints (pBytes (nm (nameP i)) p)) z := by
  have HRD := hid (fun V (k : Below w.heap.size w V) => pread_any V s b p i h1 h2 (h.kept (Kp.below k)))
  have HT := hid hT
  have hbw := hT.lt
  obtain ⟨F, hF⟩ : ∃ F, finds p (nm (nameP i)) = F := ⟨_, rfl⟩
  obtain ⟨Y, hY⟩ : ∃ Y, pBytes (nm (nameP i)) p = Y := ⟨_, rfl⟩
  rw [hY] at hb hl
  simp only [hF, hY] at HRD ⊢
  have HY := hid (And.intro hb hl)
  have hz0 := zero35
  have hb0 := build35z
  obtain ⟨Z, hZ⟩ : ∃ Z, zRec = Z := ⟨_, rfl⟩
  have HZ := hid hZ
  have HZL : Hid (Z.length = 34) := by rw [← hZ]; exact zRec_length
  have HZs : Hid (Z.toArray.size = 34) := HZL.out
  rw [hZ] at hz0 hb0
  clear hF hY hb hT hZ
  have HI2 : Hid ((Tryz.prog.info? 52).map (·.size) = some Z.toArray.size) := by rw [← HZ.out]; exact Tryz.info35
  have H1 : Hid (Z.toArray.all (·.oneCell') = true) := by rw [← HZ.out]; exact all_oneCell_toArray zRec_one
  have hB1 : Below w.heap.size w (w.alloc (.cells Z.toArray 52)) := (Below.refl _ _).alloc (Nat.le_refl _) _
  have HT1 : Hid (World.there (w.alloc (.cells Z.toArray 52)) w.heap.size 0 34) := by have h := there_new w Z 52; rwa [HZL.out] at h
  have hs1 : (w.alloc (.cells Z.toArray 52)).heap.size = w.heap.size + 1 := by simp
  have HB1 := hid hB1
  have HRD1 := hid (HRD.out _ hB1)
  clear HRD
  go_enter Tryz.func27, Tryz.ntmps27
  go_wp2_with fail
  generalize hW1 : w.alloc (.cells Z.toArray 52) = W1 at *
  refine HRD1.out.mono ?_
  rintro e w2 ⟨ad, cap, rfl, ho, hlt, hk⟩
  have hB2 : Below W1.heap.size W1 w2 := hk.toBelow'
  have HB2 : Hid (Below w.heap.size w w2) := HB1.out.trans (hB2.mono HB1.out.size)
  have HT2 : Hid (w2.there w.heap.size 0 34) := there_below HT1.out hB2 (by omega)
  have hs2 := hB2.size
  have HO := hid (And.intro ho hlt)
  clear ho hlt hk hB2
  by_cases hF0 : F = 0
  · subst hF0
    have HTB2 := hid (HT.out.below HB2.out)
    have HBY : Hid (BySlS (fun g => W1.heap.size ≤ g ∧ g < w2.heap.size) w2 (.slice ad Y.length cap) (ints Y)) := own_of HO.out.1 HY.out.1 (by have := HY.out.2; omega) W1.heap.size HO.out.2
    by_cases hzr : z < 0 ∨ ((ints Y).length : Int) ≤ z
    · have HAT := hid (at_bad b ad Y.length cap z w2 (by rw [ints_length] at hzr; exact hzr))
      rw [HZ.out] at HAT
      go_wp2_with fail
      refine HAT.out.mono ?_
      rintro e w3 ⟨rfl, hb3⟩
      have HB3 := hid hb3
      have hs3 := hb3.size
      have HTN : Hid (World.there (w3.alloc (.cells Z.toArray 52)) w3.heap.size 0 Z.toArray.size) := there_new w3 Z 52
      have hn3 : Below w3.heap.size w3 ((w3.alloc (.cells Z.toArray 52)).setCells w3.heap.size 0 Z) := ((Below.refl _ _).alloc (Nat.le_refl _) _).trans (setCells_below (Nat.le_refl _) _ _ _)
      have HTR : Hid (World.there ((w3.alloc (.cells Z.toArray 52)).setCells w3.heap.size 0 Z) w.heap.size 0 Z.toArray.size) := by
        rw [Hid, HZs.out]
        exact there_below (there_below HT2.out hb3 (by omega)) hn3 (by omega)
      have HN3 := hid hn3
      clear hb3 hn3
      go_wp2_with (first
        | (refine wpList_store_mid (by rfl) 52 _ _ (by rfl) w3.heap.size 0 Z.toArray (by rfl) (by rfl) HTN.out HI2.out H1.out ?_)
        | (refine wpList_store_mid (by rfl) 52 _ _ (by rfl) w.heap.size 0 Z.toArray (by rfl) (by rfl) HTR.out HI2.out H1.out ?_))
      have hr : World.rangeAt (((w3.alloc (.cells Z.toArray 52)).setCells w3.heap.size 0 Z).setCells w.heap.size 0 Z) w.heap.size 0 Z := World.rangeAt_setCells_same _ _ _ _ HTR.out
      refine bodyPost_ret (v := .tuple #[.agg Z.toArray, .int .i64 1]) (results_cell_mid2 Tryz.results27 _ _ w.heap.size 0 _ _ rfl hr Tryz.underlying52 rfl HI2.out) rfl ?_
      have hall : Below w.heap.size w (((w3.alloc (.cells Z.toArray 52)).setCells w3.heap.size 0 Z).setCells w.heap.size 0 Z) := ((HB2.out.trans (HB3.out.mono HB2.out.size)).trans (HN3.out.mono (by omega))).trans (setCells_below (Nat.le_refl _) _ _ _)
      exact ⟨.inr (.inl ⟨rfl, hzr, by rw [HZ.out]⟩), Crc.Kept.below hall, HT.out.below hall⟩
    · obtain ⟨k, rfl⟩ : ∃ k : Nat, z = k := ⟨z.toNat, by omega⟩
      have hkl : k < (ints Y).length := by omega
      have HAT := hid (at_any b k (.slice ad Y.length cap) (ints Y) w2 HTB2.out (BySlS.mono HBY.out (fun g hg => ⟨by omega, hg.2⟩)) hkl)
      have HFA := hid (takeF_faults ((ints Y).drop k))
      go_wp2_with fail
      refine HAT.out.mono ?_
      rintro e w3 ⟨ar, cr, rfl, hby, hnm, hkk, htt⟩
      generalize hX : takeF ((ints Y).drop k) = X at *
      have HPL := hid (recA_length X.2.1.1 X.2.1.2.1 (.slice ar X.2.1.2.2.length cr) hnm.1)
      have HPO := hid (recA_one X.2.1.1 X.2.1.2.1 ar X.2.1.2.2.length cr)
      obtain ⟨C, hC⟩ : ∃ C, recA X.2.1.1 X.2.1.2.1 (.slice ar X.2.1.2.2.length cr) = C := ⟨_, rfl⟩
      rw [hC] at HPL HPO
      rw [hC]
      have HCs : Hid (C.toArray.size = 34) := HPL.out
      have HI : Hid ((Tryz.prog.info? 52).map (·.size) = some C.toArray.size) := by rw [Hid, HCs.out]; exact Tryz.info35
      have HOC : Hid (C.toArray.all (·.oneCell') = true) := all_oneCell_toArray HPO.out
      have hs3 := hkk.size
      have HTN : Hid (World.there (w3.alloc (.cells Z.toArray 52)) w3.heap.size 0 C.toArray.size) := by have h := there_new w3 Z 52; rw [HZL.out] at h; rw [Hid, HCs.out]; exact h
      have HRN : Hid (World.rangeAt ((w3.alloc (.cells Z.toArray 52)).setCells w3.heap.size 0 C) w3.heap.size 0 C) := World.rangeAt_setCells_same _ _ _ _ HTN.out
      have hn3 : Below w3.heap.size w3 ((w3.alloc (.cells Z.toArray 52)).setCells w3.heap.size 0 C) := ((Below.refl _ _).alloc (Nat.le_refl _) _).trans (setCells_below (Nat.le_refl _) _ _ _)
      have ht3 : ((w3.alloc (.cells Z.toArray 52)).setCells w3.heap.size 0 C).there w.heap.size 0 34 := there_below (there_kept HT2.out hkk (by omega) (by omega)) hn3 (by omega)
      have HTR : Hid (World.there ((w3.alloc (.cells Z.toArray 52)).setCells w3.heap.size 0 C) w.heap.size 0 C.toArray.size) := by rw [Hid, HCs.out]; exact ht3
      have HTZ : Hid (World.there ((w3.alloc (.cells Z.toArray 52)).setCells w3.heap.size 0 C) w.heap.size 0 Z.toArray.size) := by rw [Hid, HZs.out]; exact ht3
      have HN3 := hid hn3
      have HBY3 := hid (And.intro hby (And.intro hnm (And.intro hkk htt)))
      have HX := hid (And.intro hX hC)
      clear hby hnm hkk htt hn3 ht3 hX hC
      have HKALL : Hid (∀ D : List Value, Crc.Kept b w (((w3.alloc (.cells Z.toArray 52)).setCells w3.heap.size 0 C).setCells w.heap.size 0 D) ∧ TabX (((w3.alloc (.cells Z.toArray 52)).setCells w3.heap.size 0 C).setCells w.heap.size 0 D) b) := fun D => by
        have hV : Below w.heap.size w3 (((w3.alloc (.cells Z.toArray 52)).setCells w3.heap.size 0 C).setCells w.heap.size 0 D) := (HN3.out.mono (by omega)).trans (setCells_below (Nat.le_refl _) _ _ _)
        exact ⟨Kept.then ((Crc.Kept.below HB2.out).trans HBY3.out.2.2.1) hV, tabX_below HBY3.out.2.2.2 hV hbw⟩
      by_cases hx0 : X.1 = 0
      · have HX0 := hid hx0
        rw [hx0]
        clear hx0
        go_wp2_with (first
          | (refine wpList_store_mid (by rfl) 52 _ _ (by rfl) w3.heap.size 0 C.toArray (by rfl) (by rfl) HTN.out HI.out HOC.out ?_)
          | (refine wpList_load_mid (by rfl) 52 _ (by rfl) w3.heap.size 0 (by rfl) C _ HRN.out Tryz.underlying52 rfl HI.out ?_)
          | (refine wpList_store_mid (by rfl) 52 _ _ (by rfl) w.heap.size 0 C.toArray (by rfl) (by rfl) HTR.out HI.out HOC.out ?_))
        have hr : World.rangeAt (((w3.alloc (.cells Z.toArray 52)).setCells w3.heap.size 0 C).setCells w.heap.size 0 C) w.heap.size 0 C := World.rangeAt_setCells_same _ _ _ _ HTR.out
        refine bodyPost_ret (v := .tuple #[.agg C.toArray, .int .i64 0]) (results_cell_mid2 Tryz.results27 _ _ w.heap.size 0 _ _ rfl hr Tryz.underlying52 rfl HI.out) rfl ?_
        obtain ⟨hby, hnm, hkk, htt⟩ := HBY3.out
        obtain ⟨hX, hC⟩ := HX.out
        refine ⟨.inr (.inr (.inr ⟨k, rfl, rfl, hkl, by rw [hX]; exact HX0.out, ar, cr, by rw [hX, hC], ?_, by rw [hX]; exact hnm⟩)), HKALL.out C⟩
        rw [hX]
        have hV : Below w.heap.size w3 (((w3.alloc (.cells Z.toArray 52)).setCells w3.heap.size 0 C).setCells w.heap.size 0 C) := (HN3.out.mono (by omega)).trans (setCells_below (Nat.le_refl _) _ _ _)
        exact hby.agree (fun g hg => (setCells_block _ _ _ _ _ (by omega)).trans (HN3.out.block g hg.2)) (fun g hg => ⟨by omega, Nat.lt_of_lt_of_le hg.2 hV.size⟩)
      · have hx1 : ¬ X.1 = 1 := by
          rcases HFA.out with h | h
          · exact absurd h hx0
          · exact h.2.1
        obtain ⟨fx, hfx⟩ : ∃ fx, X.1 = fx := ⟨_, rfl⟩
        have HFX := hid hfx
        rw [hfx] at hx0 hx1 ⊢
        clear hfx
        go_wp2_with (first
          | (refine wpList_store_mid (by rfl) 52 _ _ (by rfl) w3.heap.size 0 C.toArray (by rfl) (by rfl) HTN.out HI.out HOC.out ?_)
          | (refine wpList_store_mid (by rfl) 52 _ _ (by rfl) w.heap.size 0 Z.toArray (by rfl) (by rfl) HTZ.out HI2.out H1.out ?_))
        have hr : World.rangeAt (((w3.alloc (.cells Z.toArray 52)).setCells w3.heap.size 0 C).setCells w.heap.size 0 Z) w.heap.size 0 Z := World.rangeAt_setCells_same _ _ _ _ HTZ.out
        refine bodyPost_ret (v := .tuple #[.agg Z.toArray, .int .i64 4]) (results_cell_mid2 Tryz.results27 _ _ w.heap.size 0 _ _ rfl hr Tryz.underlying52 rfl HI2.out) rfl ?_
        exact ⟨.inr (.inr (.inl ⟨k, rfl, rfl, hkl, by rw [HX.out.1, HFX.out]; exact hx0, by rw [HZ.out]⟩)), HKALL.out Z⟩
  · have hF' : ¬ ((F : Int) = 0) := by omega
    have HTZ : Hid (World.there w2 w.heap.size 0 Z.toArray.size) := by rw [Hid, HZs.out]; exact HT2.out
    go_wp2_with (refine wpList_store_mid (by rfl) 52 _ _ (by rfl) w.heap.size 0 Z.toArray (by rfl) (by rfl) HTZ.out HI2.out H1.out ?_)
    have hr : World.rangeAt (w2.setCells w.heap.size 0 Z) w.heap.size 0 Z := World.rangeAt_setCells_same _ _ _ _ HTZ.out
    refine bodyPost_ret (v := .tuple #[.agg Z.toArray, .int .i64 (F : Int)]) (results_cell_mid2 Tryz.results27 _ _ w.heap.size 0 _ _ rfl hr Tryz.underlying52 rfl HI2.out) rfl ?_
    have hall : Below w.heap.size w (w2.setCells w.heap.size 0 Z) := HB2.out.trans (setCells_below (Nat.le_refl _) _ _ _)
    exact ⟨.inl ⟨hF0, by rw [HZ.out]⟩, Crc.Kept.below hall, HT.out.below hall⟩
end Go.Proofs.YtkekajmmcjacgaaGreatDoor
end

section
/-
  Plain mathematics: frames laid one behind the other, and cut off anywhere, are scanned to those that are whole.
-/
namespace Go.Proofs.YtkekajmmcjacgaaGreatDoor

abbrev Rec : Type := Int × List Int × List Int
def frOf (r : Rec) : List Int := frameR r.1 r.2.1 r.2.2
def Rt (r : Rec) : Prop := RightR r.1 r.2.1 r.2.2
theorem frOf_length {r : Rec} (h : Rt r) : (frOf r).length = 49 + r.2.2.length := frameR_length h

/-- Frames, one behind the other. -/
def cat : List Rec → List Int
  | [] => []
  | r :: rs => frOf r ++ cat rs
theorem cat_snoc (r : Rec) : ∀ rs : List Rec, cat (rs ++ [r]) = cat rs ++ frOf r
  | [] => by simp [cat]
  | x :: rs => by rw [List.cons_append, cat, cat, cat_snoc r rs, List.append_assoc]
theorem cat_length : ∀ {rs : List Rec}, (∀ r ∈ rs, Rt r) → (cat rs).length ≤ rs.length * 5049
  | [], _ => by simp [cat]
  | r :: rs, h => by
    have h1 := cat_length (fun x hx => h x (List.mem_cons_of_mem _ hx))
    have h2 := frOf_length (h r List.mem_cons_self)
    have h3 := (h r List.mem_cons_self).2.2.1
    rw [cat, List.length_append, List.length_cons]
    omega
theorem cat_bd : ∀ {rs : List Rec}, (∀ r ∈ rs, Rt r) → ∀ x ∈ cat rs, 0 ≤ x ∧ x ≤ 255
  | [], _, x, hx => by simp [cat] at hx
  | r :: rs, h, x, hx => by
    rw [cat] at hx
    rcases List.mem_append.1 hx with hx | hx
    · exact frameR_bd (h r List.mem_cons_self) x hx
    · exact cat_bd (fun y hy => h y (List.mem_cons_of_mem _ hy)) x hx

/-- What is found of them, from a place on. -/
def itemsOf : Nat → List Rec → List Item
  | _, [] => []
  | p, r :: rs => (p, (0, r, (frOf r).length)) :: itemsOf (p + (frOf r).length) rs
theorem itemsOf_length : ∀ (p : Nat) (rs : List Rec), (itemsOf p rs).length = rs.length
  | _, [] => rfl
  | p, r :: rs => by rw [itemsOf, List.length_cons, List.length_cons, itemsOf_length]
theorem itemsOf_get : ∀ (p : Nat) (rs : List Rec) (j : Nat) (r : Rec), rs[j]? = some r → (itemsOf p rs)[j]? = some (p + (cat (rs.take j)).length, (0, r, (frOf r).length))
  | _, [], j, r, h => by simp at h
  | p, x :: rs, 0, r, h => by
    simp only [List.getElem?_cons_zero, Option.some.injEq] at h
    subst h
    simp [itemsOf, cat]
  | p, x :: rs, j + 1, r, h => by
    have h1 : rs[j]? = some r := by simpa using h
    have := itemsOf_get (p + (frOf x).length) rs j r h1
    simp only [itemsOf, List.getElem?_cons_succ, List.take_succ_cons, cat, List.length_append]
    rw [this]
    simp only [Option.some.injEq, Prod.mk.injEq, and_true]
    omega

/-- How many are whole in the first c bytes. -/
def cnt : List Rec → Nat → Nat
  | [], _ => 0
  | r :: rs, c => if (frOf r).length ≤ c then cnt rs (c - (frOf r).length) + 1 else 0
theorem cnt_le : ∀ (rs : List Rec) (c : Nat), cnt rs c ≤ rs.length
  | [], _ => Nat.le_refl _
  | r :: rs, c => by
    rw [cnt]
    split
    · have := cnt_le rs (c - (frOf r).length)
      rw [List.length_cons]
      omega
    · omega
theorem cnt_all : ∀ (rs : List Rec) (c : Nat), (cat rs).length ≤ c → cnt rs c = rs.length
  | [], _, _ => rfl
  | r :: rs, c, h => by
    rw [cat, List.length_append] at h
    rw [cnt, if_pos (by omega), cnt_all rs _ (by omega), List.length_cons]
/-- The frames that end at or ahead of c are the first ones. -/
theorem cnt_iff : ∀ (rs : List Rec) (c j : Nat), j < rs.length → ((cat (rs.take (j + 1))).length ≤ c ↔ j < cnt rs c)
  | [], _, j, h => by simp at h
  | r :: rs, c, 0, h => by
    rw [cnt, List.take_succ_cons, List.take_zero, cat, cat, List.append_nil]
    split <;> omega
  | r :: rs, c, j + 1, h => by
    rw [cnt, List.take_succ_cons, cat, List.length_append]
    have := cnt_iff rs (c - (frOf r).length) j (by simpa using h)
    split
    · omega
    · omega
theorem cnt_end : ∀ (rs : List Rec) (c : Nat), (cat (rs.take (cnt rs c))).length ≤ c
  | [], _ => by simp [cnt, cat]
  | r :: rs, c => by
    rw [cnt]
    split
    · have := cnt_end rs (c - (frOf r).length)
      rw [List.take_succ_cons, cat, List.length_append]
      omega
    · simp [cat]

theorem scan_cat : ∀ (rs : List Rec) (pre : List Int) (c : Nat), (∀ r ∈ rs, Rt r) → c ≤ (cat rs).length →
    scanR (tl (pre ++ (cat rs).take c) pre.length) pre.length = (itemsOf pre.length (rs.take (cnt rs c)), pre.length + (cat (rs.take (cnt rs c))).length, if (cat (rs.take (cnt rs c))).length = c then 0 else 16)
  | [], pre, c, _, hc => by
    have h0 : c = 0 := by simpa [cat] using hc
    subst h0
    rw [tl_end (by simp [cat])]
    simp [scanR, cnt, itemsOf, cat]
  | r :: rs, pre, c, hr, hc => by
    have hR := hr r List.mem_cons_self
    have hl := frOf_length hR
    have hrs : ∀ x ∈ rs, Rt x := fun x hx => hr x (List.mem_cons_of_mem _ hx)
    rw [cat, List.length_append] at hc
    by_cases h1 : (frOf r).length ≤ c
    · have e : (cat (r :: rs)).take c = frOf r ++ (cat rs).take (c - (frOf r).length) := by rw [cat, List.take_append, List.take_of_length_le h1]
      have hd : (pre ++ (cat (r :: rs)).take c).drop pre.length = frOf r ++ (cat rs).take (c - (frOf r).length) := by rw [e, List.drop_left' rfl]
      have ht : takeF ((pre ++ (cat (r :: rs)).take c).drop pre.length) = (0, r, (frOf r).length) := by rw [hd, hl]; exact take_frame hR _
      have hlt : pre.length < (pre ++ (cat (r :: rs)).take c).length := by rw [e, List.length_append, List.length_append]; omega
      rw [tl_good hlt (by rw [ht]), ht]
      have ih := scan_cat rs (pre ++ frOf r) (c - (frOf r).length) hrs (by omega)
      have e2 : (pre ++ (cat (r :: rs)).take c) = (pre ++ frOf r) ++ (cat rs).take (c - (frOf r).length) := by rw [e, List.append_assoc]
      have e3 : pre.length + (frOf r).length = (pre ++ frOf r).length := by rw [List.length_append]
      rw [scanR, if_pos rfl, e2, show (pre.length, ((0 : Int), r, (frOf r).length)).fst + (pre.length, ((0 : Int), r, (frOf r).length)).snd.snd.snd = (pre ++ frOf r).length from e3,
        ih, cnt, if_pos h1, List.take_succ_cons, itemsOf, cat, List.length_append, List.length_append]
      simp only [Prod.mk.injEq, true_and]
      refine ⟨by omega, ?_⟩
      by_cases h2 : (cat (rs.take (cnt rs (c - (frOf r).length)))).length = c - (frOf r).length
      · rw [if_pos h2, if_pos (by omega)]
      · rw [if_neg h2, if_neg (by omega)]
    · have e : (cat (r :: rs)).take c = (frOf r).take c := by rw [cat, List.take_append_of_le_length (by omega)]
      have hc0 : cnt (r :: rs) c = 0 := by rw [cnt, if_neg h1]
      rw [hc0, e]
      by_cases h0 : c = 0
      · subst h0
        rw [tl_end (by simp)]
        simp [scanR, itemsOf, cat]
      · have hd : (pre ++ (frOf r).take c).drop pre.length = (frOf r).take c := by rw [List.drop_left' rfl]
        have ht : takeF ((pre ++ (frOf r).take c).drop pre.length) = noRec 16 := by rw [hd]; exact take_cut hR (by omega)
        have hlt : pre.length < (pre ++ (frOf r).take c).length := by rw [List.length_append, List.length_take]; omega
        rw [tl_bad hlt (by rw [ht]; simp [noRec]), ht, scanR, if_neg (by simp [noRec])]
        simp only [List.take_zero, itemsOf, cat, List.length_nil, Nat.add_zero]
        rw [if_neg (by omega)]
        rfl

/-- What Scan finds in the first c bytes. -/
theorem scanF_cat {rs : List Rec} {c : Nat} (hr : ∀ r ∈ rs, Rt r) (hc : c ≤ (cat rs).length) :
    scanF ((cat rs).take c) = (itemsOf 0 (rs.take (cnt rs c)), (cat (rs.take (cnt rs c))).length, if (cat (rs.take (cnt rs c))).length = c then 0 else 16) := by
  have h := scan_cat rs [] c hr hc
  simpa [scanF] using h

theorem scanR_mem : ∀ (L : List Item) (p : Nat), ∀ x ∈ (scanR L p).1, x ∈ L
  | [], p, x, h => by simp [scanR] at h
  | y :: L, p, x, h => by
    rw [scanR] at h
    split at h
    · rcases List.mem_cons.1 h with rfl | h
      · exact List.mem_cons_self
      · exact List.mem_cons_of_mem _ (scanR_mem L _ x h)
    · simp at h
/-- What stands at the place of the record j. -/
theorem at_cat {rs : List Rec} {c j : Nat} {r : Rec} (hr : ∀ r ∈ rs, Rt r) (hc : c ≤ (cat rs).length) (hj : j < cnt rs c) (hg : rs[j]? = some r) :
    (cat (rs.take j)).length < ((cat rs).take c).length ∧ takeF (((cat rs).take c).drop (cat (rs.take j)).length) = (0, r, (frOf r).length) := by
  have h1 : (rs.take (cnt rs c))[j]? = some r := by rw [List.getElem?_take_of_lt hj]; exact hg
  have h2 := itemsOf_get 0 _ j r h1
  have h3 : (0 + (cat ((rs.take (cnt rs c)).take j)).length, ((0 : Int), r, (frOf r).length)) ∈ (scanF ((cat rs).take c)).1 := by
    rw [scanF_cat hr hc]
    exact List.mem_of_getElem? h2
  obtain ⟨m1, m2⟩ := tl_mem _ _ 0 (Nat.le_refl _) _ (scanR_mem _ _ _ h3)
  rw [List.take_take, Nat.min_eq_left (by omega)] at m1 m2
  simp only [Nat.zero_add] at m1 m2
  exact ⟨m1, m2.symm⟩

end Go.Proofs.YtkekajmmcjacgaaGreatDoor
end

section
/-
  What the reference's Take and Get answer.
-/
namespace Go.Proofs.YtkekajmmcjacgaaGreatDoor.Tlv
open Go.RowKit
attribute [local go_sem ↓] Go.wp_at_zero Go.wp_at_succ

theorem AgreeS.of {S : Nat → Prop} {L B : Nat} {w w' : World} (h : Agree L B w w') (hS : ∀ b, S b → L ≤ b ∧ b < B) : AgreeS S w w' := fun b hb => h b (hS b hb).1 (hS b hb).2

set_option maxHeartbeats 1000000 in
set_option maxRecDepth 100000 in
theorem refTake_any (v : Value) (bs : List Int) (w : World) (h : BySl 0 w.heap.size w v bs) :
    Calls Tryz.prog 145 #[v] w fun e w' => ((rd 8 bs = none ∧ e = .returned (.tuple #[.agg #[.int .i64 0, .int .u64 0, .slice none 0 0, .slice none 0 0], .slice none 0 0, .int .i64 3])) ∨
      (∃ (t : Tr 9) (m : Nat) (sb sk vr : Value), rd 8 bs = some (t, m) ∧ e = .returned (.tuple #[.agg #[.int .i64 t.hd.1, .int .u64 t.hd.2.1, sb, sk], vr, .int .i64 0]) ∧ RepS (fun b => w.heap.size ≤ b ∧ b < w'.heap.size) w' 9 t sb sk ∧ BySl 0 w'.heap.size w' vr (bs.drop m))) ∧ Below w.heap.size w w' := by
  obtain ⟨a, cap, rfl, hr⟩ := id h
  clear hr
  have H := hid h
  have hcapM : cap ≤ 9223372036854775807 := by obtain ⟨_, _, e, _, h3, _⟩ := h; simp only [Value.slice.injEq, true_and] at e; obtain ⟨_, rfl⟩ := e; exact h3
  have hlc : bs.length ≤ cap := by obtain ⟨_, _, e, h2, _⟩ := h; simp only [Value.slice.injEq, true_and] at e; obtain ⟨_, rfl⟩ := e; exact h2
  clear h
  obtain ⟨R, hR⟩ : ∃ R, rd 8 bs = R := ⟨_, rfl⟩
  rw [hR]
  have HR := hid hR
  clear hR
  have hS : w.heap.size ≤ (w.alloc (Obj.cells #[Value.int IntKind.i64 0, Value.int IntKind.u64 0, Value.slice none 0 0, Value.slice none 0 0] 225)).heap.size := by simp
  have hbs : Hid (BySl 0 (w.alloc (Obj.cells #[Value.int IntKind.i64 0, Value.int IntKind.u64 0, Value.slice none 0 0, Value.slice none 0 0] 225)).heap.size (w.alloc (Obj.cells #[Value.int IntKind.i64 0, Value.int IntKind.u64 0, Value.slice none 0 0, Value.slice none 0 0] 225)) (.slice a bs.length cap) bs) := H.out.agree ((Agree.refl _ _ _).alloc (Nat.le_refl _) _) (Nat.le_refl _) hS
  have hrd := hid (rreadOk 8 (Nat.le_refl _))
  clear hS
  obtain ⟨L, hL⟩ : ∃ L, bs.length = L := ⟨_, rfl⟩
  have HL := hid hL
  rw [hL] at hbs hlc ⊢
  clear hL
  go_enter Tryz.func145, Tryz.ntmps145
  go_wp2_with fail
  refine (hrd.out _ bs _ hbs.out).mono ?_
  rintro e w1 ⟨hres, hb1⟩
  obtain ⟨hz, g0, g1, g2, g3, gf, hbel⟩ := res_facts32 (w := w) (w1 := w1) (by simpa using hb1)
  have HB := hid hbel
  clear hb1 hbel
  rcases hres with ⟨hn, rfl⟩ | ⟨t, m, sb, sk, hs, rfl, hr1⟩
  · have HN := hid hn
    clear hn
    go_wp2_with fail
    obtain ⟨q0, q1, q2, q3⟩ := set4_read (w := w1) (u0 := .int .i64 0) (u1 := .int .u64 0) (u2 := .slice none 0 0) (u3 := .slice none 0 0) g0 g1 g2 g3
    refine bodyPost_ret (v := .tuple #[.agg #[.int .i64 0, .int .u64 0, .slice none 0 0, .slice none 0 0], .slice none 0 0, .int .i64 3]) (by simp [results, Tryz.results145, go_sem, q0, q1, q2, q3, hz]) rfl ⟨.inl ⟨?_, rfl⟩, (HB.out.trans (bset4 (Nat.le_refl _) _ _ _ _)).alloc (by simp; omega) _⟩
    rw [← HR.out, HN.out]
  · obtain ⟨a1, l1, p1, a2, l2, p2, rfl, rfl⟩ := hr1.sl
    have HS := hid hs
    have Hr1 := hid hr1
    have hm := rd_pos hs
    rw [HL.out] at hm
    clear hs hr1
    obtain ⟨b, o, ha⟩ : ∃ b o, a = some ⟨b, o, none⟩ := by
      obtain ⟨_, _, e, _, _, _, _, _, h7⟩ := hbs.out
      simp only [Value.slice.injEq] at e
      obtain ⟨rfl, _, rfl⟩ := e
      obtain ⟨b, o, e, _⟩ := h7 (by intro e; have := HL.out; subst e; simp at this; omega)
      exact ⟨b, o, e⟩
    subst ha
    have hmz : ((m : Int) == 0) = false := by simp; omega
    obtain ⟨A, hA⟩ : ∃ A, (if cap = m then some (⟨b, o, none⟩ : Addr) else some ⟨b, o + m, none⟩) = A := ⟨_, rfl⟩
    go_upto_region 4 with fail
    go_region
    all_goals go_wp2_with fail
    obtain ⟨q0, q1, q2, q3⟩ := set4_read (w := w1) (u0 := .int .i64 t.hd.1) (u1 := .int .u64 t.hd.2.1) (u2 := .slice a1 l1 p1) (u3 := .slice a2 l2 p2) g0 g1 g2 g3
    have hA1 : Agree (w.heap.size + 1) w1.heap.size w1 (((((w1.setCell ⟨w.heap.size, 0, none⟩ (.int .i64 t.hd.1)).setCell ⟨w.heap.size, 1, none⟩ (.int .u64 t.hd.2.1)).setCell ⟨w.heap.size, 2, none⟩ (.slice a1 l1 p1)).setCell ⟨w.heap.size, 3, none⟩ (.slice a2 l2 p2)).alloc (Obj.cells #[.int .i64 t.hd.1, .int .u64 t.hd.2.1, .slice a1 l1 p1, .slice a2 l2 p2] 225)).drew := ((Agree.set4 _ (.inl (by omega)) _ _ _ _).alloc (by simp) _).drew
    have hB1 : Below w.heap.size w (((((w1.setCell ⟨w.heap.size, 0, none⟩ (.int .i64 t.hd.1)).setCell ⟨w.heap.size, 1, none⟩ (.int .u64 t.hd.2.1)).setCell ⟨w.heap.size, 2, none⟩ (.slice a1 l1 p1)).setCell ⟨w.heap.size, 3, none⟩ (.slice a2 l2 p2)).alloc (Obj.cells #[.int .i64 t.hd.1, .int .u64 t.hd.2.1, .slice a1 l1 p1, .slice a2 l2 p2] 225)).drew := ((HB.out.trans (bset4 (Nat.le_refl _) _ _ _ _)).alloc (by simp; omega) _).drew
    refine bodyPost_ret (v := .tuple #[.agg #[.int .i64 t.hd.1, .int .u64 t.hd.2.1, .slice a1 l1 p1, .slice a2 l2 p2], .slice A (L - m) (cap - m), .int .i64 0]) (by simp [results, Tryz.results145, go_sem, q0, q1, q2, q3, hz]) rfl ⟨.inr ⟨t, m, .slice a1 l1 p1, .slice a2 l2 p2, .slice A (L - m) (cap - m), ?_, rfl, ?_, ?_⟩, hB1⟩
    · rw [← HR.out, HS.out]
    · refine RepS.agree (AgreeS.of hA1 ?_) ?_ Hr1.out
      · intro b hb; simp at hb; omega
      · intro b hb; simp at hb; simp; omega
    · have hq : BySl 0 w.heap.size _ (.slice (some ⟨b, o, none⟩) bs.length cap) bs := H.out.agree (Agree.below hB1) (Nat.le_refl _) (Nat.le_refl _)
      have := bySl_rest hq m (by rw [HL.out]; omega) rfl
      rw [hA, HL.out] at this
      exact this.agree (Agree.refl _ _ _) (Nat.le_refl _) (by simp; omega)

set_option maxHeartbeats 1000000 in
set_option maxRecDepth 100000 in
theorem refGet_any (v : Value) (bs : List Int) (w : World) (h : BySl 0 w.heap.size w v bs) :
    Calls Tryz.prog 147 #[v] w fun e w' => ((getT bs = none ∧ e = .returned (.tuple #[.agg #[.int .i64 0, .int .u64 0, .slice none 0 0, .slice none 0 0], .int .i64 3])) ∨
      (∃ (t : Tr 9) (sb sk : Value), getT bs = some t ∧ e = .returned (.tuple #[.agg #[.int .i64 t.hd.1, .int .u64 t.hd.2.1, sb, sk], .int .i64 0]) ∧ RepS (fun b => w.heap.size ≤ b ∧ b < w'.heap.size) w' 9 t sb sk)) ∧ Below w.heap.size w w' := by
  obtain ⟨a, cap, rfl, hr⟩ := id h
  clear hr
  have H := hid h
  clear h
  obtain ⟨R, hR⟩ : ∃ R, getT bs = R := ⟨_, rfl⟩
  rw [hR]
  have HR := hid hR
  clear hR
  have hS : w.heap.size ≤ (w.alloc (Obj.cells #[Value.int IntKind.i64 0, Value.int IntKind.u64 0, Value.slice none 0 0, Value.slice none 0 0] 225)).heap.size := by simp
  have hbs : Hid (BySl 0 (w.alloc (Obj.cells #[Value.int IntKind.i64 0, Value.int IntKind.u64 0, Value.slice none 0 0, Value.slice none 0 0] 225)).heap.size (w.alloc (Obj.cells #[Value.int IntKind.i64 0, Value.int IntKind.u64 0, Value.slice none 0 0, Value.slice none 0 0] 225)) (.slice a bs.length cap) bs) := H.out.agree ((Agree.refl _ _ _).alloc (Nat.le_refl _) _) (Nat.le_refl _) hS
  clear hS
  obtain ⟨L, hL⟩ : ∃ L, bs.length = L := ⟨_, rfl⟩
  have HL := hid hL
  rw [hL] at hbs ⊢
  clear hL
  go_enter Tryz.func147, Tryz.ntmps147
  go_wp2_with fail
  refine (refTake_any _ bs _ hbs.out).mono ?_
  rintro e w1 ⟨hres, hb1⟩
  obtain ⟨hz, g0, g1, g2, g3, gf, hbel⟩ := res_facts32 (w := w) (w1 := w1) (by simpa using hb1)
  have HB := hid hbel
  clear hb1 hbel
  rcases hres with ⟨hn, rfl⟩ | ⟨t, m, sb, sk, vr, hs, rfl, hr1, hvr⟩
  · have HN := hid hn
    clear hn
    go_wp2_with fail
    obtain ⟨q0, q1, q2, q3⟩ := set4_read (w := w1) (u0 := .int .i64 0) (u1 := .int .u64 0) (u2 := .slice none 0 0) (u3 := .slice none 0 0) g0 g1 g2 g3
    refine bodyPost_ret (v := .tuple #[.agg #[.int .i64 0, .int .u64 0, .slice none 0 0, .slice none 0 0], .int .i64 3]) (by simp [results, Tryz.results147, go_sem, q0, q1, q2, q3, hz]) rfl ⟨.inl ⟨?_, rfl⟩, (HB.out.trans (bset4 (Nat.le_refl _) _ _ _ _)).alloc (by simp; omega) _⟩
    rw [← HR.out, getT, HN.out]
  · obtain ⟨a1, l1, p1, a2, l2, p2, rfl, rfl⟩ := hr1.sl
    obtain ⟨a3, c3, rfl, hr3⟩ := id hvr
    clear hr3 hvr
    have HS := hid hs
    have Hr1 := hid hr1
    have hm := rd_pos hs
    rw [HL.out] at hm
    clear hs hr1
    have hdl : (bs.drop m).length = L - m := by rw [List.length_drop, HL.out]
    obtain ⟨M, hM⟩ : ∃ M, L - m = M := ⟨_, rfl⟩
    rw [hdl, hM]
    have HdM := hid hM
    clear hdl hM
    cases M with
    | zero =>
      have HM : Hid (m = L) := by have := HdM.out; unfold Hid; omega
      go_wp2_with fail
      obtain ⟨q0, q1, q2, q3⟩ := set4_read (w := w1) (u0 := .int .i64 t.hd.1) (u1 := .int .u64 t.hd.2.1) (u2 := .slice a1 l1 p1) (u3 := .slice a2 l2 p2) g0 g1 g2 g3
      refine bodyPost_ret (v := .tuple #[.agg #[.int .i64 t.hd.1, .int .u64 t.hd.2.1, .slice a1 l1 p1, .slice a2 l2 p2], .int .i64 0]) (by simp [results, Tryz.results147, go_sem, q0, q1, q2, q3, hz]) rfl ⟨.inr ⟨t, .slice a1 l1 p1, .slice a2 l2 p2, ?_, rfl, ?_⟩, (HB.out.trans (bset4 (Nat.le_refl _) _ _ _ _)).alloc (by simp; omega) _⟩
      · rw [← HR.out, getT, HS.out]
        simp only
        rw [if_pos (by rw [HL.out]; exact HM.out)]
      · refine RepS.agree (AgreeS.of ((Agree.set4 (L := w.heap.size + 1) (B := w1.heap.size) w1 (.inl (by simp)) _ _ _ _).alloc (by simp) _) ?_) ?_ Hr1.out
        · intro b hb; simp at hb; omega
        · intro b hb; simp at hb; simp; omega
    | succ M =>
      have HM : Hid (¬ m = L) := by have := HdM.out; unfold Hid; omega
      go_wp2_with fail
      obtain ⟨q0, q1, q2, q3⟩ := set4_read (w := w1) (u0 := .int .i64 0) (u1 := .int .u64 0) (u2 := .slice none 0 0) (u3 := .slice none 0 0) g0 g1 g2 g3
      refine bodyPost_ret (v := .tuple #[.agg #[.int .i64 0, .int .u64 0, .slice none 0 0, .slice none 0 0], .int .i64 3]) (by simp [results, Tryz.results147, go_sem, q0, q1, q2, q3, hz]) rfl ⟨.inl ⟨?_, rfl⟩, (HB.out.trans (bset4 (Nat.le_refl _) _ _ _ _)).alloc (by simp; omega) _⟩
      rw [← HR.out, getT, HS.out]
      simp only
      rw [if_neg (by rw [HL.out]; exact HM.out)]

end Go.Proofs.YtkekajmmcjacgaaGreatDoor.Tlv
end

section
/-
  What the reference's Open does.
-/
namespace Go.Proofs.YtkekajmmcjacgaaGreatDoor.Crc
open Go.RowKit

set_option maxHeartbeats 400000 in
theorem refOpen_short (b : Nat) (v : Value) (bs : List Nat) (w : World) (h : BySl b w v bs) (hl : bs.length < 4) :
    Calls Tryz.prog 146 #[v] w fun e w' => e = .returned (.tuple #[.slice none 0 0, .int .i64 3]) ∧ w' = w := by
  obtain ⟨a, cap, rfl, r⟩ := h
  clear r
  go_enter Tryz.func146, Tryz.ntmps146
  go_wp2_with fail
  go_ret2
  exact ⟨rfl, rfl⟩

set_option maxHeartbeats 2000000 in
set_option maxRecDepth 100000 in
theorem refOpen_any (b : Nat) (v : Value) (xs ys : List Nat) (w : World) (hb : b < w.heap.size) (h : BySl b w v (xs ++ ys)) (hy : ys.length = 4) (hl : xs.length ≤ 80000) :
    Calls Tryz.prog 146 #[v] w fun e w' => Below w.heap.size w w' ∧
      ∃ v' q, e = .returned (.tuple #[v', .int .i64 q]) ∧ ((le4 (more 0 xs) = ys ∧ q = 0 ∧ BySl b w' v' xs) ∨ (le4 (more 0 xs) ≠ ys ∧ q = 4 ∧ v' = .slice none 0 0)) := by
  have H := hid h
  obtain ⟨a, cap, rfl, h2, h3, h4, h5, h6, h7⟩ := h
  have hN : (xs ++ ys).length = xs.length + 4 := by rw [List.length_append, hy]
  have H1 : Hid (BySl b w (.slice a xs.length cap) xs) := by
    have := BySl.take H.out (k := xs.length) (by omega)
    rw [List.take_left' rfl] at this
    exact this
  obtain ⟨g, o, rfl, hgb, hg, hc⟩ := h7 (by intro e; rw [e] at hN; simp at hN)
  have HX6 := hid h6
  rw [hN] at H h2 ⊢
  obtain ⟨N, hN2⟩ : ∃ N, xs.length = N := ⟨_, rfl⟩
  have HN := hid hN2
  rw [hN2] at hN H h2 hl H1 ⊢
  have HC := hid hc
  have HNN := hid hN
  have HY := hid hy
  clear hN2 hc h7 h6 h4 h5 hN hy
  unfold maxLen at h3
  go_enter Tryz.func146, Tryz.ntmps146
  go_wp2_with fail
  refine (refSeal_any b _ xs _ hb H1.out (by rw [HN.out]; exact hl)).mono ?_
  rintro e w1 ⟨v1, rfl, hown, hbel⟩
  have hbz := hbel.size
  have HX : Hid (BySl b w1 v1 (xs ++ le4 (more 0 xs))) := Own.bySl hown hb (by have := HN.out; simp [le4_len]; omega) (by
    intro x hx
    rcases List.mem_append.1 hx with h | h
    · exact HX6.out x (List.mem_append_left _ h)
    · exact le4_lt (more_lt _ _) x h)
  obtain ⟨zs, hz⟩ : ∃ zs, le4 (more 0 xs) = zs := ⟨_, rfl⟩
  have hzl : zs.length = 4 := by rw [← hz]; rfl
  rw [hz] at HX
  have HZ := hid hz
  have HB := hid hbel
  clear hown hbel hz
  have hNz : (xs ++ zs).length = N + 4 := by rw [List.length_append, hzl, HN.out]
  obtain ⟨a1, k1, e1, r2, r3, r4, r5, r6, r7⟩ := id HX.out
  subst e1
  rw [hNz] at r2
  obtain ⟨g1, o1, rfl, hg1b, hg1, hc1⟩ := r7 (by intro e; rw [e] at hNz; simp at hNz)
  have HC1 := hid hc1
  have HNZ := hid hNz
  have HC' : Hid (∀ i, i < (xs ++ ys).length → w1.cell? ⟨g, o + i, none⟩ = some (.int .u8 ((xs ++ ys).getD i 0 : Nat))) := fun i hi => (HB.out.cell (p := ⟨g, o + i, none⟩) hg).trans (HC.out i hi)
  rw [hNz] at HX ⊢
  have HZL := hid hzl
  clear r7 r6 r5 r4 hc1 HC hNz hzl
  unfold maxLen at r3
  go_wp2_with fail
  go_loopw [6] (fun i wr => ∃ k : Nat, N ≤ k ∧ k ≤ N + 4 ∧ i = .int .i64 k ∧ Hid ((xs ++ zs).take k = (xs ++ ys).take k) ∧ ∃ q, wr = w1.drewN q) (fun i _ => N + 4 - (intOf i).toNat)
  case atStart => exact ⟨N, Nat.le_refl _, by omega, rfl, by rw [Hid, List.take_left' HN.out, List.take_left' HN.out], 0, rfl⟩
  case round =>
    obtain ⟨k, hk0, hk, rfl, ht, q, rfl⟩ := hrel
    by_cases hlt : k < N + 4
    · have c1 := HC1.out k (by rw [HNZ.out]; exact hlt)
      have c2 := HC'.out k (by rw [HNN.out]; exact hlt)
      have e1 : Hid ((xs ++ zs).take (k + 1) = (xs ++ zs).take k ++ [(xs ++ zs).getD k 0]) := by
        have hi : k < (xs ++ zs).length := by rw [HNZ.out]; exact hlt
        rw [Hid, List.take_succ_eq_append_getElem hi, List.getD_eq_getElem?_getD, List.getElem?_eq_getElem hi]; rfl
      have e2 : Hid ((xs ++ ys).take (k + 1) = (xs ++ ys).take k ++ [(xs ++ ys).getD k 0]) := by
        have hi : k < (xs ++ ys).length := by rw [HNN.out]; exact hlt
        rw [Hid, List.take_succ_eq_append_getElem hi, List.getD_eq_getElem?_getD, List.getElem?_eq_getElem hi]; rfl
      generalize (xs ++ zs).getD k 0 = x at c1 e1
      generalize (xs ++ ys).getD k 0 = y at c2 e2
      have hlt' : k < N + 4 := hlt
      by_cases hxy : x = y
      · subst hxy
        go_wp2_with fail
        go_quiet (fail)
        go_wp2
        go_roundw
        case rel => exact ⟨k + 1, by omega, by omega, by go_num, by rw [Hid, e1.out, e2.out, ht.out], _, rfl⟩
        case measure => simp [intOf]; omega
      · have hb : ((x : Int) != (y : Int)) = true := by simp; omega
        go_wp2_with fail
        go_quiet (fail)
        go_wp2
        go_ret2
        refine ⟨below_drewN (below_drewN HB.out _) _, _, _, rfl, .inr ⟨?_, rfl, rfl⟩⟩
        rw [HZ.out]
        intro e
        apply hxy
        have h1 := e1.out
        rw [e, e2.out] at h1
        have := (List.append_inj' h1 rfl).2
        simpa using this.symm
    · go_wp2
      go_ret2
      refine ⟨below_drewN HB.out _, _, _, rfl, .inl ⟨?_, rfl, ?_⟩⟩
      · rw [HZ.out]
        have h1 := ht.out
        rw [List.take_of_length_le (by rw [HNZ.out]; omega), List.take_of_length_le (by rw [HNN.out]; omega)] at h1
        exact List.append_cancel_left h1
      · have := BySl.take (k := N) (bs := xs ++ zs) (b := b) (w := w1) (a := some ⟨g1, o1, none⟩) (cap := k1) (by rw [HNZ.out]; exact HX.out) (by rw [HNZ.out]; omega)
        rw [List.take_left' HN.out] at this
        exact this.kept ((Kept.refl _ _).drewN _)

end Go.Proofs.YtkekajmmcjacgaaGreatDoor.Crc
end
