/- Of the proof: the texts PkManyM, PkGet, FrBackM, TlvRefTake, CrcRefOpen, FrRTake, FrRScan, FrTurned, FrBackR, SimUp, SimUp2, PkRun, PkNames, one behind the other. -/
import Derived.Test.YtkpibphalhhkdaaGreatDoorB12
import Derived.Test.YtkpibphalhhkdaaGreatDoorB10
import Derived.Test.YtkpibphalhhkdaaGreatDoorB9
import Derived.Test.YtkpibphalhhkdaaGreatDoorB4
import Derived.Test.YtkpibphalhhkdaaGreatDoorB5
import Derived.Test.YtkpibphalhhkdaaGreatDoorB8
import Derived.Test.YtkpibphalhhkdaaGreatDoorB11
import Derived.Test.YtkpibphalhhkdaaGreatDoorB1
import Derived.Lib.ItoaLen
import Derived.Lib.AppendIntMem
section
/-
  Plain mathematics of a pack with many records: one file that is appended to, synced and moved, on a disk that goes down at any step; and what is there once it is up again.
-/
namespace Go.Proofs.YtkpibphalhhkdaaGreatDoor.Sim

/-- One file x, whatever is seen of it. -/
def one (d ar : Bool) (lf st : Nat) (sn : Dir) (cg : List PC) (sa : Dir) (r x : Nat) (f : Fl) : PS := ⟨r, true, sn, sa, cg, d, ar, lf, st, fun y => if y = x then some f else none⟩
theorem one_setF (d ar : Bool) (lf st : Nat) (sn : Dir) (cg : List PC) (sa : Dir) (r x : Nat) (f g : Fl) : setF x g (one d ar lf st sn cg sa r x f) = one d ar lf st sn cg sa r x g := by
  simp only [setF, one, PS.mk.injEq, true_and]
  funext y
  by_cases h : y = x <;> simp [h]
theorem one_fileAt (d ar : Bool) (lf st : Nat) (sn : Dir) (cg : List PC) (sa : Dir) (r x : Nat) (f : Fl) : fileAt (one d ar lf st sn cg sa r x f) x = f := by simp [fileAt, one]
theorem one_tick (d ar : Bool) (lf st : Nat) (sn : Dir) (cg : List PC) (sa : Dir) (r x : Nat) (f : Fl) : tick (one d ar lf st sn cg sa r x f) = one d ar (if ar then lf - 1 else lf) (st + 1) sn cg sa r x f := rfl
theorem one_fall (d ar : Bool) (lf st : Nat) (sn : Dir) (cg : List PC) (sa : Dir) (r x : Nat) (f : Fl) : fall (one d ar lf st sn cg sa r x f) = one true ar lf st sn cg sa r x f := rfl
theorem one_dead (d ar : Bool) (lf st : Nat) (sn : Dir) (cg : List PC) (sa : Dir) (r x : Nat) (f : Fl) : dead (one d ar lf st sn cg sa r x f) = (ar && lf == 0) := rfl

section
variable {t n : Nm} {r x : Nat} {ar d : Bool} {ys bs : List Nat} {p : PS}

def start (r : Nat) (ar : Bool) (lf : Nat) : PS := { startPS r with armed := ar, left := lf }
/-- The pack is begun: the file is seen under its temporary name. -/
def Beg (t : Nm) (r x : Nat) (ar d : Bool) (ys : List Nat) (p : PS) : Prop := (d = true → ar = true) ∧ ∃ lf st, p = one d ar lf st [(t, x)] [⟨0, t, [], x⟩] [] r x ⟨ys, 0⟩

theorem start_make (ht : nameB t = true) (lf : Nat) : (pCreate t x (start r ar lf) = (12, fall (start r ar lf)) ∧ ar = true) ∨ ((pCreate t x (start r ar lf)).1 = 0 ∧ Beg t r x ar false [] (pCreate t x (start r ar lf)).2) := by
  have h : pCreate t x (start r ar lf) = stp (start r ar lf) (fun q => chgd ⟨0, t, [], x⟩ (setF x ⟨[], 0⟩ q)) := by simp [pCreate, wrongs, start, startPS, ht, dfind]
  rw [h, stp]
  cases hd : dead (start r ar lf) with
  | true =>
    rw [if_pos rfl]
    refine .inl ⟨rfl, ?_⟩
    simp [dead, start] at hd
    exact hd.1
  | false =>
    rw [if_neg (by simp)]
    refine .inr ⟨rfl, by simp, (tick (start r ar lf)).left, 1, ?_⟩
    simp [chgd, setF, tick, start, startPS, one, pdo, dput, ddel, dins]
theorem Beg.down (h : Beg t r x ar d ys p) : p.down = d := by obtain ⟨_, _, _, rfl⟩ := h; rfl
theorem Beg.finds (h : Beg t r x ar d ys p) (ht : nameB t = true) : finds p t = if d then 12 else 0 := by
  obtain ⟨_, lf, st, rfl⟩ := h
  cases d <;> simp [Sim.finds, wrongs, one, ht, dfind]
theorem Beg.block (h : Beg t r x ar d ys p) : blockOf p t = x := by obtain ⟨_, lf, st, rfl⟩ := h; simp [blockOf, one, dfind]
theorem Beg.file (h : Beg t r x ar d ys p) : fileAt p x = ⟨ys, 0⟩ := by obtain ⟨_, lf, st, rfl⟩ := h; exact one_fileAt ..
theorem Beg.used (h : Beg t r x ar d ys p) : used p = ys.length := by
  have hf := h.file
  obtain ⟨_, lf, st, rfl⟩ := h
  show (([(t, x)] : Dir).map fun e => (fileAt (one d ar lf st [(t, x)] [⟨0, t, [], x⟩] [] r x ⟨ys, 0⟩) e.2).b.length).sum = _
  simp [hf]
theorem Beg.room (h : Beg t r x ar d ys p) : p.room = r := by obtain ⟨_, lf, st, rfl⟩ := h; rfl
theorem Beg.append (h : Beg t r x ar d ys p) (ht : nameB t = true) (hl : ys.length + bs.length ≤ r) :
    ((pAppend t bs p).1 = 12 ∧ ar = true ∧ Beg t r x ar true ys (pAppend t bs p).2) ∨ ((pAppend t bs p).1 = 0 ∧ d = false ∧ Beg t r x ar false (ys ++ bs) (pAppend t bs p).2) := by
  cases d with
  | true =>
    have e : pAppend t bs p = (12, p) := by rw [pAppend, h.finds ht]; simp
    rw [e]
    exact .inl ⟨rfl, h.1 rfl, h⟩
  | false =>
    have e : pAppend t bs p = stp p (setF x ⟨ys ++ bs, 0⟩) := by
      rw [pAppend, h.finds ht, if_neg (by simp), h.used, h.room, if_neg (by omega), h.block, h.file]
    rw [e, stp]
    obtain ⟨_, lf, st, rfl⟩ := h
    rw [one_dead, one_fall, one_tick, one_setF]
    cases hd : (ar && lf == 0) with
    | true =>
      rw [if_pos rfl]
      have ha : ar = true := by simp at hd; exact hd.1
      exact .inl ⟨rfl, ha, fun _ => ha, lf, st, rfl⟩
    | false =>
      rw [if_neg (by simp)]
      exact .inr ⟨rfl, rfl, by simp, _, _, rfl⟩

/-- How far a sealing came: 0: nothing of it is safe; 1: the bytes are; 2: they are moved; 3: that is safe. -/
def SealR (t n : Nm) (r x : Nat) (ys : List Nat) (k : Nat) (p : PS) : Prop :=
  ∃ d ar lf st, (k = 0 ∧ p = one d ar lf st [(t, x)] [⟨0, t, [], x⟩] [] r x ⟨ys, 0⟩) ∨ (k = 1 ∧ p = one d ar lf st [(t, x)] [⟨0, t, [], x⟩] [] r x ⟨ys, ys.length⟩) ∨
    (k = 2 ∧ p = one d ar lf st [(n, x)] [⟨0, t, [], x⟩, ⟨2, t, n, 0⟩] [] r x ⟨ys, ys.length⟩) ∨ (k = 3 ∧ p = one d ar lf st [(n, x)] [] [(n, x)] r x ⟨ys, ys.length⟩)
theorem Beg.sealR (h : Beg t r x ar d ys p) : SealR t n r x ys 0 p := by
  obtain ⟨_, lf, st, rfl⟩ := h
  exact ⟨d, ar, lf, st, .inl ⟨rfl, rfl⟩⟩

theorem Beg.fsync (h : Beg t r x ar d ys p) (ht : nameB t = true) :
    ((pFsync t p).1 = 12 ∧ ar = true ∧ SealR t n r x ys 0 (pFsync t p).2) ∨ ((pFsync t p).1 = 0 ∧ ∃ lf st, (pFsync t p).2 = one false ar lf st [(t, x)] [⟨0, t, [], x⟩] [] r x ⟨ys, ys.length⟩) := by
  cases d with
  | true =>
    have e : pFsync t p = (12, p) := by rw [pFsync, h.finds ht]; simp
    rw [e]
    exact .inl ⟨rfl, h.1 rfl, h.sealR⟩
  | false =>
    have e : pFsync t p = stp p (setF x ⟨ys, ys.length⟩) := by rw [pFsync, h.finds ht, if_neg (by simp), h.block, h.file]
    rw [e, stp]
    obtain ⟨_, lf, st, rfl⟩ := h
    rw [one_dead, one_fall, one_tick, one_setF]
    cases hd : (ar && lf == 0) with
    | true =>
      rw [if_pos rfl]
      have ha : ar = true := by simp at hd; exact hd.1
      exact .inl ⟨rfl, ha, true, ar, lf, st, .inl ⟨rfl, rfl⟩⟩
    | false =>
      rw [if_neg (by simp)]
      exact .inr ⟨rfl, _, _, rfl⟩
theorem one_rename (lf st : Nat) (ht : nameB t = true) (hn : nameB n = true) :
    let q := one false ar lf st [(t, x)] [⟨0, t, [], x⟩] [] r x ⟨ys, ys.length⟩
    ((pRename t n q).1 = 12 ∧ ar = true ∧ SealR t n r x ys 1 (pRename t n q).2) ∨ ((pRename t n q).1 = 0 ∧ ∃ lf st, (pRename t n q).2 = one false ar lf st [(n, x)] [⟨0, t, [], x⟩, ⟨2, t, n, 0⟩] [] r x ⟨ys, ys.length⟩) := by
  intro q
  have e : pRename t n q = stp q (chgd ⟨2, t, n, 0⟩) := by simp [pRename, wrongs, q, one, ht, hn, dfind]
  rw [e, stp]
  rw [one_dead, one_fall, one_tick]
  cases hd : (ar && lf == 0) with
  | true =>
    rw [if_pos rfl]
    have ha : ar = true := by simp at hd; exact hd.1
    exact .inl ⟨rfl, ha, true, ar, lf, st, .inr (.inl ⟨rfl, rfl⟩)⟩
  | false =>
    rw [if_neg (by simp)]
    refine .inr ⟨rfl, if ar then lf - 1 else lf, st + 1, ?_⟩
    simp [chgd, one, pdo, dput, ddel, dins, dfind]
theorem one_sync (lf st : Nat) :
    let q := one false ar lf st [(n, x)] [⟨0, t, [], x⟩, ⟨2, t, n, 0⟩] [] r x ⟨ys, ys.length⟩
    ((pSyncDir q).1 = 12 ∧ ar = true ∧ SealR t n r x ys 2 (pSyncDir q).2) ∨ ((pSyncDir q).1 = 0 ∧ ∃ lf st, (pSyncDir q).2 = one false ar lf st [(n, x)] [] [(n, x)] r x ⟨ys, ys.length⟩) := by
  intro q
  have e : pSyncDir q = stp q (settle 2) := by simp [pSyncDir, wrongs, q, one]
  rw [e, stp]
  rw [one_dead, one_fall, one_tick]
  cases hd : (ar && lf == 0) with
  | true =>
    rw [if_pos rfl]
    have ha : ar = true := by simp at hd; exact hd.1
    exact .inl ⟨rfl, ha, true, ar, lf, st, .inr (.inr (.inl ⟨rfl, rfl⟩))⟩
  | false =>
    rw [if_neg (by simp)]
    refine .inr ⟨rfl, if ar then lf - 1 else lf, st + 1, ?_⟩
    simp [settle, one, pdo, dput, ddel, dins, dfind]

/-- What there is once it is up again: 0: nothing; 1: the temporary name; 2: the pack, whole. -/
def UpR (t n : Nm) (x : Nat) (ys : List Nat) (c : Nat) (p : PS) : Prop :=
  p.down = false ∧ p.armed = false ∧ p.chg = [] ∧ ((c = 0 ∧ p.seen = []) ∨ (c = 1 ∧ p.seen = [(t, x)]) ∨ (c = 2 ∧ p.seen = [(n, x)] ∧ (fileAt p x).b = ys))
theorem lose_whole (k : Int) : (lose k ⟨ys, ys.length⟩).b = ys := by simp [lose]
theorem up_start (lf : Nat) (k : Int) (cuts : List Int) (b : Bool) : UpR t n x ys 0 (pUp k cuts { start r ar lf with down := b }) := by
  have e : (settle (min (max k 0).toNat (start r ar lf).chg.length) (start r ar lf)).safe = [] := by simp [settle, start, startPS]
  refine ⟨rfl, rfl, ?_, .inl ⟨rfl, ?_⟩⟩ <;> simp [pUp, settle, start, startPS, loses]
theorem loses_chg (cuts : List Int) : ∀ (l : Dir) (i : Nat) (q : PS), (loses l i cuts q).chg = q.chg
  | [], _, _ => rfl
  | _ :: l, i, q => by rw [loses, loses_chg cuts l]; rfl
theorem SealR.up {k : Nat} (h : SealR t n r x ys k p) (z : Int) (cuts : List Int) : ∃ c, UpR t n x ys c (pUp z cuts p) ∧ (k = 3 → c = 2) ∧ (k < 2 → c < 2) := by
  obtain ⟨d, ar, lf, st, h⟩ := h
  rcases h with ⟨rfl, rfl⟩ | ⟨rfl, rfl⟩ | ⟨rfl, rfl⟩ | ⟨rfl, rfl⟩
  · obtain ⟨m, hm, hm1⟩ : ∃ m, min (max z 0).toNat 1 = m ∧ m ≤ 1 := ⟨_, rfl, by omega⟩
    have e : pUp z cuts (one d ar lf st [(t, x)] [⟨0, t, [], x⟩] [] r x ⟨ys, 0⟩) = (let q := settle m (one d ar lf st [(t, x)] [⟨0, t, [], x⟩] [] r x ⟨ys, 0⟩); let r := loses q.safe 0 cuts q; { r with seen := r.safe, down := false, armed := false, left := 0 }) := by rw [← hm]; rfl
    rw [e]
    have : m = 0 ∨ m = 1 := by omega
    rcases this with rfl | rfl
    · exact ⟨0, ⟨rfl, rfl, loses_chg _ _ _ _, .inl ⟨rfl, rfl⟩⟩, by omega, by omega⟩
    · refine ⟨1, ⟨rfl, rfl, loses_chg _ _ _ _, .inr (.inl ⟨rfl, ?_⟩)⟩, by omega, by omega⟩
      simp [settle, one, pdo, dput, ddel, dins, loses, setF]
  · obtain ⟨m, hm, hm1⟩ : ∃ m, min (max z 0).toNat 1 = m ∧ m ≤ 1 := ⟨_, rfl, by omega⟩
    have e : pUp z cuts (one d ar lf st [(t, x)] [⟨0, t, [], x⟩] [] r x ⟨ys, ys.length⟩) = (let q := settle m (one d ar lf st [(t, x)] [⟨0, t, [], x⟩] [] r x ⟨ys, ys.length⟩); let r := loses q.safe 0 cuts q; { r with seen := r.safe, down := false, armed := false, left := 0 }) := by rw [← hm]; rfl
    rw [e]
    have : m = 0 ∨ m = 1 := by omega
    rcases this with rfl | rfl
    · exact ⟨0, ⟨rfl, rfl, loses_chg _ _ _ _, .inl ⟨rfl, rfl⟩⟩, by omega, by omega⟩
    · refine ⟨1, ⟨rfl, rfl, loses_chg _ _ _ _, .inr (.inl ⟨rfl, ?_⟩)⟩, by omega, by omega⟩
      simp [settle, one, pdo, dput, ddel, dins, loses, setF]
  · obtain ⟨m, hm, hm1⟩ : ∃ m, min (max z 0).toNat 2 = m ∧ m ≤ 2 := ⟨_, rfl, by omega⟩
    have e : pUp z cuts (one d ar lf st [(n, x)] [⟨0, t, [], x⟩, ⟨2, t, n, 0⟩] [] r x ⟨ys, ys.length⟩) = (let q := settle m (one d ar lf st [(n, x)] [⟨0, t, [], x⟩, ⟨2, t, n, 0⟩] [] r x ⟨ys, ys.length⟩); let r := loses q.safe 0 cuts q; { r with seen := r.safe, down := false, armed := false, left := 0 }) := by rw [← hm]; rfl
    rw [e]
    have : m = 0 ∨ m = 1 ∨ m = 2 := by omega
    rcases this with rfl | rfl | rfl
    · exact ⟨0, ⟨rfl, rfl, loses_chg _ _ _ _, .inl ⟨rfl, rfl⟩⟩, by omega, by omega⟩
    · refine ⟨1, ⟨rfl, rfl, loses_chg _ _ _ _, .inr (.inl ⟨rfl, ?_⟩)⟩, by omega, by omega⟩
      simp [settle, one, pdo, dput, ddel, dins, loses, setF]
    · refine ⟨2, ⟨rfl, rfl, loses_chg _ _ _ _, .inr (.inr ⟨rfl, ?_, ?_⟩)⟩, by omega, by omega⟩
      · simp [settle, one, pdo, dput, ddel, dins, dfind, loses, setF]
      · simp [settle, one, pdo, dput, ddel, dins, dfind, loses, setF, fileAt, lose_whole]
  · have e : pUp z cuts (one d ar lf st [(n, x)] [] [(n, x)] r x ⟨ys, ys.length⟩) = (let q := settle 0 (one d ar lf st [(n, x)] [] [(n, x)] r x ⟨ys, ys.length⟩); let r := loses q.safe 0 cuts q; { r with seen := r.safe, down := false, armed := false, left := 0 }) := by
      have h0 : min (max z 0).toNat (one d ar lf st [(n, x)] [] [(n, x)] r x ⟨ys, ys.length⟩).chg.length = 0 := Nat.min_zero _
      rw [pUp, h0]
    rw [e]
    refine ⟨2, ⟨rfl, rfl, loses_chg _ _ _ _, .inr (.inr ⟨rfl, ?_, ?_⟩)⟩, by omega, by omega⟩
    · simp [settle, one, loses, setF]
    · simp [settle, one, loses, setF, fileAt, lose_whole]

variable {c : Nat}
theorem UpR.list (h : UpR t n x ys c p) : pList p = if c = 0 then [] else if c = 1 then [t] else [n] := by
  obtain ⟨h1, _, _, h⟩ := h
  rcases h with ⟨rfl, h⟩ | ⟨rfl, h⟩ | ⟨rfl, h, _⟩ <;> simp [pList, h1, h]
theorem UpR.clean (h : UpR t n x ys 1 p) (ht : nameB t = true) : (pRemove t p).1 = 0 ∧ (pSyncDir (pRemove t p).2).1 = 0 ∧ UpR t n x ys 0 (pSyncDir (pRemove t p).2).2 := by
  obtain ⟨h1, h2, h3, h⟩ := h
  have hs : p.seen = [(t, x)] := by
    rcases h with ⟨h, _⟩ | ⟨_, h⟩ | ⟨h, _⟩
    · omega
    · exact h
    · omega
  have hf : Sim.finds p t = 0 := by simp [Sim.finds, wrongs, h1, hs, ht, dfind]
  have hd : dead p = false := by simp [dead, h2]
  have e1 : pRemove t p = (0, chgd ⟨1, t, [], 0⟩ (tick p)) := by rw [pRemove, hf, if_neg (by simp), stp, hd]; rfl
  have hw : wrongs (chgd ⟨1, t, [], 0⟩ (tick p)) [] = 0 := by simp [wrongs, chgd, tick, h1]
  have hd2 : dead (chgd ⟨1, t, [], 0⟩ (tick p)) = false := by simp [dead, chgd, tick, h2]
  have e2 : pSyncDir (chgd ⟨1, t, [], 0⟩ (tick p)) = (0, settle (chgd ⟨1, t, [], 0⟩ (tick p)).chg.length (tick (chgd ⟨1, t, [], 0⟩ (tick p)))) := by rw [pSyncDir, hw, if_neg (by simp), stp, hd2]; rfl
  rw [e1]
  refine ⟨rfl, by rw [e2], ?_⟩
  rw [e2]
  refine ⟨h1, h2, rfl, .inl ⟨rfl, ?_⟩⟩
  simp [settle, chgd, tick, hs, pdo, ddel]
theorem UpR.finds0 (h : UpR t n x ys 0 p) (hn : nameB n = true) : Sim.finds p n = 5 := by
  obtain ⟨h1, h2, h3, h⟩ := h
  have hs : p.seen = [] := by
    rcases h with ⟨_, h⟩ | ⟨h, _⟩ | ⟨h, _⟩
    · exact h
    · omega
    · omega
  simp [Sim.finds, wrongs, h1, hs, hn, dfind]
theorem UpR.finds2 (h : UpR t n x ys 2 p) (hn : nameB n = true) : Sim.finds p n = 0 ∧ pBytes n p = ys := by
  obtain ⟨h1, h2, h3, h⟩ := h
  obtain ⟨hs, hf⟩ : p.seen = [(n, x)] ∧ (fileAt p x).b = ys := by
    rcases h with ⟨h, _⟩ | ⟨h, _⟩ | ⟨_, h⟩
    · omega
    · omega
    · exact h
  have e : Sim.finds p n = 0 := by simp [Sim.finds, wrongs, h1, hs, hn, dfind]
  have eb : blockOf p n = x := by simp [blockOf, hs, dfind]
  exact ⟨e, by rw [pBytes, e, if_neg (by simp), eb, hf]⟩
end
end Go.Proofs.YtkpibphalhhkdaaGreatDoor.Sim
namespace Go.Proofs.YtkpibphalhhkdaaGreatDoor
open Sim (Beg SealR nm nameB PS)

section
variable {i r x : Nat} {ar d : Bool} {ys : List Nat} {p : PS}
/-- A record more, or a fault. -/
theorem beg_add (h : Beg (nm (nameT i)) r x ar d ys p) (ht : nameB (nm (nameT i)) = true) (sz ct : Nat) (X : List Int) (R : Bool) (hl : ys.length = sz) (hr : 12000 ≤ r) :
    (∃ (f : Int) (d' : Bool) (q : PS), f ≠ 0 ∧ addF i sz ct X R p = (0, f, q, sz, ct) ∧ Beg (nm (nameT i)) r x ar d' ys q) ∨
    (R = true ∧ sz + X.length ≤ 12000 ∧ ∃ q, addF i sz ct X R p = ((sz : Int), 0, q, sz + X.length, ct + 1) ∧ Beg (nm (nameT i)) r x ar false (ys ++ nats X) q) := by
  cases R with
  | false => exact .inl ⟨1, d, p, by omega, by simp [addF], h⟩
  | true =>
    by_cases h12 : 12000 < sz + X.length
    · exact .inl ⟨2, d, p, by omega, by simp [addF, h12], h⟩
    · rcases h.append (bs := nats X) ht (by rw [nats_length]; omega) with ⟨h1, _, h2⟩ | ⟨h1, _, h2⟩
      · refine .inl ⟨12, true, _, by omega, ?_, h2⟩
        rw [addF, if_neg (by simp), if_neg h12, h1, if_neg (by omega)]
        rfl
      · refine .inr ⟨rfl, by omega, _, ?_, h2⟩
        rw [addF, if_neg (by simp), if_neg h12, h1, if_pos rfl]
/-- A seal is done, or the disk is down. -/
theorem beg_seal (h : Beg (nm (nameT i)) r x ar d ys p) (ht : nameB (nm (nameT i)) = true) (hn : nameB (nm (nameP i)) = true) :
    ((sealF i p).1 = 12 ∧ ar = true ∧ ∃ k, k < 3 ∧ SealR (nm (nameT i)) (nm (nameP i)) r x ys k (sealF i p).2) ∨
    ((sealF i p).1 = 0 ∧ ∃ lf st, (sealF i p).2 = Sim.one false ar lf st [(nm (nameP i), x)] [] [(nm (nameP i), x)] r x ⟨ys, ys.length⟩) := by
  rcases h.fsync (n := nm (nameP i)) ht with ⟨h1, ha, h2⟩ | ⟨h1, lf, st, h2⟩
  · left
    rw [sealF, if_pos (by omega)]
    exact ⟨h1, ha, 0, by omega, h2⟩
  · rw [sealF, if_neg (by omega), h2]
    rcases Sim.one_rename (r := r) (x := x) (ys := ys) (ar := ar) lf st ht hn with ⟨h1, ha, h3⟩ | ⟨h1, lf', st', h3⟩
    · left
      rw [if_pos (by omega)]
      exact ⟨h1, ha, 1, by omega, h3⟩
    · rw [if_neg (by omega), h3]
      rcases Sim.one_sync (t := nm (nameT i)) (n := nm (nameP i)) (r := r) (x := x) (ys := ys) (ar := ar) lf' st' with ⟨h1, ha, h4⟩ | ⟨h1, lf2, st2, h4⟩
      · exact .inl ⟨h1, ha, 2, by omega, h4⟩
      · exact .inr ⟨h1, lf2, st2, h4⟩
end
end Go.Proofs.YtkpibphalhhkdaaGreatDoor
end

section
/-
  A record of a pack is got.
-/
namespace Go.Proofs.YtkpibphalhhkdaaGreatDoor
open Go.RowKit Go.Shelf
open Tlv (BySlS)
open Sim (hid Kp No PS Done Blk nm finds pBytes OwnB)

theorem takeF_faults (bs : List Int) : (takeF bs).1 = 0 ∨ ((takeF bs).1 ≠ 0 ∧ (takeF bs).1 ≠ 1 ∧ takeF bs = noRec (takeF bs).1) := by
  cases hr : Tlv.rd 8 bs with
  | none => rw [takeF_none hr]; right; simp [noRec]
  | some x =>
    obtain ⟨t, m⟩ := x
    rw [takeF_some hr]
    by_cases h1 : bs.length - m < 4
    · rw [if_pos h1]; right; simp [noRec]
    · rw [if_neg h1]
      by_cases h2 : sumI (bs.take m) ≠ (bs.drop m).take 4
      · rw [if_pos h2]; right; simp [noRec]
      · rw [if_neg h2]
        cases recOf t with
        | none => right; simp [noRec]
        | some r => left; rfl

/-- What Get answers: a fault of the reading, a place that is none, or what stands there. -/
def Gotten (w w' : World) (b : Nat) (e : Ending) (f : Nat) (bs : List Int) (z : Int) : Prop :=
  ((f ≠ 0 ∧ e = .returned (.tuple #[.agg zRec.toArray, .int .i64 (f : Int)])) ∨
   (f = 0 ∧ (z < 0 ∨ (bs.length : Int) ≤ z) ∧ e = .returned (.tuple #[.agg zRec.toArray, .int .i64 1])) ∨
   (∃ k : Nat, f = 0 ∧ z = k ∧ k < bs.length ∧ (takeF (bs.drop k)).1 ≠ 0 ∧ e = .returned (.tuple #[.agg zRec.toArray, .int .i64 4])) ∨
   (∃ k : Nat, f = 0 ∧ z = k ∧ k < bs.length ∧ (takeF (bs.drop k)).1 = 0 ∧ ∃ a c, e = .returned (.tuple #[.agg (recA (takeF (bs.drop k)).2.1.1 (takeF (bs.drop k)).2.1.2.1 (.slice a (takeF (bs.drop k)).2.1.2.2.length c)).toArray, .int .i64 0]) ∧
      BySlS (fun g => w.heap.size ≤ g ∧ g < w'.heap.size) w' (.slice a (takeF (bs.drop k)).2.1.2.2.length c) (takeF (bs.drop k)).2.1.2.2 ∧ ((takeF (bs.drop k)).2.1.2.1.length = 32 ∧ ∀ y ∈ (takeF (bs.drop k)).2.1.2.1, 0 ≤ y ∧ y ≤ 255))) ∧
  Crc.Kept b w w' ∧ TabX w' b

set_option maxHeartbeats 2000000 in
set_option maxRecDepth 100000 in
theorem get_any {P : Nat → Prop} {N : Nat} (w : World) (s b : Nat) (p : PS) (i : Nat) (z : Int) (h1 : 1 ≤ i) (h2 : i < 100) (h : Sim.Sys P N w s p) (hT : TabX w b) (hb : ∀ x ∈ pBytes (nm (nameP i)) p, x < 256) (hl : (pBytes (nm (nameP i)) p).length ≤ 20000000) :
    Calls Tryz.prog 25 #[.pointer (some ⟨s, 0, none⟩), .pointer (some ⟨b, 0, none⟩), .int .i64 (i : Int), .int .i64 z] w fun e w' => Gotten w w' b e (finds p (nm (nameP i))) (ints (pBytes (nm (nameP i)) p)) z := by
  have HRD := hid (fun V (k : Below w.heap.size w V) => pread_any V s b p i h1 h2 (h.kept (Kp.below k)))
  have HT := hid hT
  have hbw := hT.lt
  obtain ⟨F, hF⟩ : ∃ F, finds p (nm (nameP i)) = F := ⟨_, rfl⟩
  obtain ⟨Y, hY⟩ : ∃ Y, pBytes (nm (nameP i)) p = Y := ⟨_, rfl⟩
  rw [hY] at hb hl
  simp only [hF, hY] at HRD ⊢
  have HY := hid (And.intro hb hl)
  have hz0 := zero35
  have hb0 := build35z
  obtain ⟨Z, hZ⟩ : ∃ Z, zRec = Z := ⟨_, rfl⟩
  have HZ := hid hZ
  have HZL : Hid (Z.length = 34) := by rw [← hZ]; exact zRec_length
  have HZs : Hid (Z.toArray.size = 34) := HZL.out
  rw [hZ] at hz0 hb0
  clear hF hY hb hT hZ
  have HI2 : Hid ((Tryz.prog.info? 43).map (·.size) = some Z.toArray.size) := by rw [← HZ.out]; exact Tryz.info35
  have H1 : Hid (Z.toArray.all (·.oneCell') = true) := by rw [← HZ.out]; exact all_oneCell_toArray zRec_one
  have hB1 : Below w.heap.size w (w.alloc (.cells Z.toArray 43)) := (Below.refl _ _).alloc (Nat.le_refl _) _
  have HT1 : Hid (World.there (w.alloc (.cells Z.toArray 43)) w.heap.size 0 34) := by have h := there_new w Z 43; rwa [HZL.out] at h
  have hs1 : (w.alloc (.cells Z.toArray 43)).heap.size = w.heap.size + 1 := by simp
  have HB1 := hid hB1
  have HRD1 := hid (HRD.out _ hB1)
  clear HRD
  go_enter Tryz.func25, Tryz.ntmps25
  go_wp2_with fail
  generalize hW1 : w.alloc (.cells Z.toArray 43) = W1 at *
  refine HRD1.out.mono ?_
  rintro e w2 ⟨ad, cap, rfl, ho, hlt, hk⟩
  have hB2 : Below W1.heap.size W1 w2 := hk.toBelow'
  have HB2 : Hid (Below w.heap.size w w2) := HB1.out.trans (hB2.mono HB1.out.size)
  have HT2 : Hid (w2.there w.heap.size 0 34) := there_below HT1.out hB2 (by omega)
  have hs2 := hB2.size
  have HO := hid (And.intro ho hlt)
  clear ho hlt hk hB2
  by_cases hF0 : F = 0
  · subst hF0
    have HTB2 := hid (HT.out.below HB2.out)
    have HBY : Hid (BySlS (fun g => W1.heap.size ≤ g ∧ g < w2.heap.size) w2 (.slice ad Y.length cap) (ints Y)) := own_of HO.out.1 HY.out.1 (by have := HY.out.2; omega) W1.heap.size HO.out.2
    by_cases hzr : z < 0 ∨ ((ints Y).length : Int) ≤ z
    · have HAT := hid (at_bad b ad Y.length cap z w2 (by rw [ints_length] at hzr; exact hzr))
      rw [HZ.out] at HAT
      go_wp2_with fail
      refine HAT.out.mono ?_
      rintro e w3 ⟨rfl, hb3⟩
      have HB3 := hid hb3
      have hs3 := hb3.size
      have HTN : Hid (World.there (w3.alloc (.cells Z.toArray 43)) w3.heap.size 0 Z.toArray.size) := there_new w3 Z 43
      have hn3 : Below w3.heap.size w3 ((w3.alloc (.cells Z.toArray 43)).setCells w3.heap.size 0 Z) := ((Below.refl _ _).alloc (Nat.le_refl _) _).trans (setCells_below (Nat.le_refl _) _ _ _)
      have HTR : Hid (World.there ((w3.alloc (.cells Z.toArray 43)).setCells w3.heap.size 0 Z) w.heap.size 0 Z.toArray.size) := by
        rw [Hid, HZs.out]
        exact there_below (there_below HT2.out hb3 (by omega)) hn3 (by omega)
      have HN3 := hid hn3
      clear hb3 hn3
      go_wp2_with (first
        | (refine wpList_store_mid (by rfl) 43 _ _ (by rfl) w3.heap.size 0 Z.toArray (by rfl) (by rfl) HTN.out HI2.out H1.out ?_)
        | (refine wpList_store_mid (by rfl) 43 _ _ (by rfl) w.heap.size 0 Z.toArray (by rfl) (by rfl) HTR.out HI2.out H1.out ?_))
      have hr : World.rangeAt (((w3.alloc (.cells Z.toArray 43)).setCells w3.heap.size 0 Z).setCells w.heap.size 0 Z) w.heap.size 0 Z := World.rangeAt_setCells_same _ _ _ _ HTR.out
      refine bodyPost_ret (v := .tuple #[.agg Z.toArray, .int .i64 1]) (results_cell_mid2 Tryz.results25 _ _ w.heap.size 0 _ _ rfl hr Tryz.underlying43 rfl HI2.out) rfl ?_
      have hall : Below w.heap.size w (((w3.alloc (.cells Z.toArray 43)).setCells w3.heap.size 0 Z).setCells w.heap.size 0 Z) := ((HB2.out.trans (HB3.out.mono HB2.out.size)).trans (HN3.out.mono (by omega))).trans (setCells_below (Nat.le_refl _) _ _ _)
      exact ⟨.inr (.inl ⟨rfl, hzr, by rw [HZ.out]⟩), Crc.Kept.below hall, HT.out.below hall⟩
    · obtain ⟨k, rfl⟩ : ∃ k : Nat, z = k := ⟨z.toNat, by omega⟩
      have hkl : k < (ints Y).length := by omega
      have HAT := hid (at_any b k (.slice ad Y.length cap) (ints Y) w2 HTB2.out (BySlS.mono HBY.out (fun g hg => ⟨by omega, hg.2⟩)) hkl)
      have HFA := hid (takeF_faults ((ints Y).drop k))
      go_wp2_with fail
      refine HAT.out.mono ?_
      rintro e w3 ⟨ar, cr, rfl, hby, hnm, hkk, htt⟩
      generalize hX : takeF ((ints Y).drop k) = X at *
      have HPL := hid (recA_length X.2.1.1 X.2.1.2.1 (.slice ar X.2.1.2.2.length cr) hnm.1)
      have HPO := hid (recA_one X.2.1.1 X.2.1.2.1 ar X.2.1.2.2.length cr)
      obtain ⟨C, hC⟩ : ∃ C, recA X.2.1.1 X.2.1.2.1 (.slice ar X.2.1.2.2.length cr) = C := ⟨_, rfl⟩
      rw [hC] at HPL HPO
      rw [hC]
      have HCs : Hid (C.toArray.size = 34) := HPL.out
      have HI : Hid ((Tryz.prog.info? 43).map (·.size) = some C.toArray.size) := by rw [Hid, HCs.out]; exact Tryz.info35
      have HOC : Hid (C.toArray.all (·.oneCell') = true) := all_oneCell_toArray HPO.out
      have hs3 := hkk.size
      have HTN : Hid (World.there (w3.alloc (.cells Z.toArray 43)) w3.heap.size 0 C.toArray.size) := by have h := there_new w3 Z 43; rw [HZL.out] at h; rw [Hid, HCs.out]; exact h
      have HRN : Hid (World.rangeAt ((w3.alloc (.cells Z.toArray 43)).setCells w3.heap.size 0 C) w3.heap.size 0 C) := World.rangeAt_setCells_same _ _ _ _ HTN.out
      have hn3 : Below w3.heap.size w3 ((w3.alloc (.cells Z.toArray 43)).setCells w3.heap.size 0 C) := ((Below.refl _ _).alloc (Nat.le_refl _) _).trans (setCells_below (Nat.le_refl _) _ _ _)
      have ht3 : ((w3.alloc (.cells Z.toArray 43)).setCells w3.heap.size 0 C).there w.heap.size 0 34 := there_below (there_kept HT2.out hkk (by omega) (by omega)) hn3 (by omega)
      have HTR : Hid (World.there ((w3.alloc (.cells Z.toArray 43)).setCells w3.heap.size 0 C) w.heap.size 0 C.toArray.size) := by rw [Hid, HCs.out]; exact ht3
      have HTZ : Hid (World.there ((w3.alloc (.cells Z.toArray 43)).setCells w3.heap.size 0 C) w.heap.size 0 Z.toArray.size) := by rw [Hid, HZs.out]; exact ht3
      have HN3 := hid hn3
      have HBY3 := hid (And.intro hby (And.intro hnm (And.intro hkk htt)))
      have HX := hid (And.intro hX hC)
      clear hby hnm hkk htt hn3 ht3 hX hC
      have HKALL : Hid (∀ D : List Value, Crc.Kept b w (((w3.alloc (.cells Z.toArray 43)).setCells w3.heap.size 0 C).setCells w.heap.size 0 D) ∧ TabX (((w3.alloc (.cells Z.toArray 43)).setCells w3.heap.size 0 C).setCells w.heap.size 0 D) b) := fun D => by
        have hV : Below w.heap.size w3 (((w3.alloc (.cells Z.toArray 43)).setCells w3.heap.size 0 C).setCells w.heap.size 0 D) := (HN3.out.mono (by omega)).trans (setCells_below (Nat.le_refl _) _ _ _)
        exact ⟨Kept.then ((Crc.Kept.below HB2.out).trans HBY3.out.2.2.1) hV, tabX_below HBY3.out.2.2.2 hV hbw⟩
      by_cases hx0 : X.1 = 0
      · have HX0 := hid hx0
        rw [hx0]
        clear hx0
        go_wp2_with (first
          | (refine wpList_store_mid (by rfl) 43 _ _ (by rfl) w3.heap.size 0 C.toArray (by rfl) (by rfl) HTN.out HI.out HOC.out ?_)
          | (refine wpList_load_mid (by rfl) 43 _ (by rfl) w3.heap.size 0 (by rfl) C _ HRN.out Tryz.underlying43 rfl HI.out ?_)
          | (refine wpList_store_mid (by rfl) 43 _ _ (by rfl) w.heap.size 0 C.toArray (by rfl) (by rfl) HTR.out HI.out HOC.out ?_))
        have hr : World.rangeAt (((w3.alloc (.cells Z.toArray 43)).setCells w3.heap.size 0 C).setCells w.heap.size 0 C) w.heap.size 0 C := World.rangeAt_setCells_same _ _ _ _ HTR.out
        refine bodyPost_ret (v := .tuple #[.agg C.toArray, .int .i64 0]) (results_cell_mid2 Tryz.results25 _ _ w.heap.size 0 _ _ rfl hr Tryz.underlying43 rfl HI.out) rfl ?_
        obtain ⟨hby, hnm, hkk, htt⟩ := HBY3.out
        obtain ⟨hX, hC⟩ := HX.out
        refine ⟨.inr (.inr (.inr ⟨k, rfl, rfl, hkl, by rw [hX]; exact HX0.out, ar, cr, by rw [hX, hC], ?_, by rw [hX]; exact hnm⟩)), HKALL.out C⟩
        rw [hX]
        have hV : Below w.heap.size w3 (((w3.alloc (.cells Z.toArray 43)).setCells w3.heap.size 0 C).setCells w.heap.size 0 C) := (HN3.out.mono (by omega)).trans (setCells_below (Nat.le_refl _) _ _ _)
        exact hby.agree (fun g hg => (setCells_block _ _ _ _ _ (by omega)).trans (HN3.out.block g hg.2)) (fun g hg => ⟨by omega, Nat.lt_of_lt_of_le hg.2 hV.size⟩)
      · have hx1 : ¬ X.1 = 1 := by
          rcases HFA.out with h | h
          · exact absurd h hx0
          · exact h.2.1
        obtain ⟨fx, hfx⟩ : ∃ fx, X.1 = fx := ⟨_, rfl⟩
        have HFX := hid hfx
        rw [hfx] at hx0 hx1 ⊢
        clear hfx
        go_wp2_with (first
          | (refine wpList_store_mid (by rfl) 43 _ _ (by rfl) w3.heap.size 0 C.toArray (by rfl) (by rfl) HTN.out HI.out HOC.out ?_)
          | (refine wpList_store_mid (by rfl) 43 _ _ (by rfl) w.heap.size 0 Z.toArray (by rfl) (by rfl) HTZ.out HI2.out H1.out ?_))
        have hr : World.rangeAt (((w3.alloc (.cells Z.toArray 43)).setCells w3.heap.size 0 C).setCells w.heap.size 0 Z) w.heap.size 0 Z := World.rangeAt_setCells_same _ _ _ _ HTZ.out
        refine bodyPost_ret (v := .tuple #[.agg Z.toArray, .int .i64 4]) (results_cell_mid2 Tryz.results25 _ _ w.heap.size 0 _ _ rfl hr Tryz.underlying43 rfl HI2.out) rfl ?_
        exact ⟨.inr (.inr (.inl ⟨k, rfl, rfl, hkl, by rw [HX.out.1, HFX.out]; exact hx0, by rw [HZ.out]⟩)), HKALL.out Z⟩
  · have hF' : ¬ ((F : Int) = 0) := by omega
    have HTZ : Hid (World.there w2 w.heap.size 0 Z.toArray.size) := by rw [Hid, HZs.out]; exact HT2.out
    go_wp2_with (refine wpList_store_mid (by rfl) 43 _ _ (by rfl) w.heap.size 0 Z.toArray (by rfl) (by rfl) HTZ.out HI2.out H1.out ?_)
    have hr : World.rangeAt (w2.setCells w.heap.size 0 Z) w.heap.size 0 Z := World.rangeAt_setCells_same _ _ _ _ HTZ.out
    refine bodyPost_ret (v := .tuple #[.agg Z.toArray, .int .i64 (F : Int)]) (results_cell_mid2 Tryz.results25 _ _ w.heap.size 0 _ _ rfl hr Tryz.underlying43 rfl HI2.out) rfl ?_
    have hall : Below w.heap.size w (w2.setCells w.heap.size 0 Z) := HB2.out.trans (setCells_below (Nat.le_refl _) _ _ _)
    exact ⟨.inl ⟨hF0, by rw [HZ.out]⟩, Crc.Kept.below hall, HT.out.below hall⟩
end Go.Proofs.YtkpibphalhhkdaaGreatDoor
end

section
/-
  Plain mathematics: frames laid one behind the other, and cut off anywhere, are scanned to those that are whole.
-/
namespace Go.Proofs.YtkpibphalhhkdaaGreatDoor

abbrev Rec : Type := Int × List Int × List Int
def frOf (r : Rec) : List Int := frameR r.1 r.2.1 r.2.2
def Rt (r : Rec) : Prop := RightR r.1 r.2.1 r.2.2
theorem frOf_length {r : Rec} (h : Rt r) : (frOf r).length = 49 + r.2.2.length := frameR_length h

/-- Frames, one behind the other. -/
def cat : List Rec → List Int
  | [] => []
  | r :: rs => frOf r ++ cat rs
theorem cat_snoc (r : Rec) : ∀ rs : List Rec, cat (rs ++ [r]) = cat rs ++ frOf r
  | [] => by simp [cat]
  | x :: rs => by rw [List.cons_append, cat, cat, cat_snoc r rs, List.append_assoc]
theorem cat_length : ∀ {rs : List Rec}, (∀ r ∈ rs, Rt r) → (cat rs).length ≤ rs.length * 5049
  | [], _ => by simp [cat]
  | r :: rs, h => by
    have h1 := cat_length (fun x hx => h x (List.mem_cons_of_mem _ hx))
    have h2 := frOf_length (h r List.mem_cons_self)
    have h3 := (h r List.mem_cons_self).2.2.1
    rw [cat, List.length_append, List.length_cons]
    omega
theorem cat_bd : ∀ {rs : List Rec}, (∀ r ∈ rs, Rt r) → ∀ x ∈ cat rs, 0 ≤ x ∧ x ≤ 255
  | [], _, x, hx => by simp [cat] at hx
  | r :: rs, h, x, hx => by
    rw [cat] at hx
    rcases List.mem_append.1 hx with hx | hx
    · exact frameR_bd (h r List.mem_cons_self) x hx
    · exact cat_bd (fun y hy => h y (List.mem_cons_of_mem _ hy)) x hx

/-- What is found of them, from a place on. -/
def itemsOf : Nat → List Rec → List Item
  | _, [] => []
  | p, r :: rs => (p, (0, r, (frOf r).length)) :: itemsOf (p + (frOf r).length) rs
theorem itemsOf_length : ∀ (p : Nat) (rs : List Rec), (itemsOf p rs).length = rs.length
  | _, [] => rfl
  | p, r :: rs => by rw [itemsOf, List.length_cons, List.length_cons, itemsOf_length]
theorem itemsOf_get : ∀ (p : Nat) (rs : List Rec) (j : Nat) (r : Rec), rs[j]? = some r → (itemsOf p rs)[j]? = some (p + (cat (rs.take j)).length, (0, r, (frOf r).length))
  | _, [], j, r, h => by simp at h
  | p, x :: rs, 0, r, h => by
    simp only [List.getElem?_cons_zero, Option.some.injEq] at h
    subst h
    simp [itemsOf, cat]
  | p, x :: rs, j + 1, r, h => by
    have h1 : rs[j]? = some r := by simpa using h
    have := itemsOf_get (p + (frOf x).length) rs j r h1
    simp only [itemsOf, List.getElem?_cons_succ, List.take_succ_cons, cat, List.length_append]
    rw [this]
    simp only [Option.some.injEq, Prod.mk.injEq, and_true]
    omega

/-- How many are whole in the first c bytes. -/
def cnt : List Rec → Nat → Nat
  | [], _ => 0
  | r :: rs, c => if (frOf r).length ≤ c then cnt rs (c - (frOf r).length) + 1 else 0
theorem cnt_le : ∀ (rs : List Rec) (c : Nat), cnt rs c ≤ rs.length
  | [], _ => Nat.le_refl _
  | r :: rs, c => by
    rw [cnt]
    split
    · have := cnt_le rs (c - (frOf r).length)
      rw [List.length_cons]
      omega
    · omega
theorem cnt_all : ∀ (rs : List Rec) (c : Nat), (cat rs).length ≤ c → cnt rs c = rs.length
  | [], _, _ => rfl
  | r :: rs, c, h => by
    rw [cat, List.length_append] at h
    rw [cnt, if_pos (by omega), cnt_all rs _ (by omega), List.length_cons]
/-- The frames that end at or ahead of c are the first ones. -/
theorem cnt_iff : ∀ (rs : List Rec) (c j : Nat), j < rs.length → ((cat (rs.take (j + 1))).length ≤ c ↔ j < cnt rs c)
  | [], _, j, h => by simp at h
  | r :: rs, c, 0, h => by
    rw [cnt, List.take_succ_cons, List.take_zero, cat, cat, List.append_nil]
    split <;> omega
  | r :: rs, c, j + 1, h => by
    rw [cnt, List.take_succ_cons, cat, List.length_append]
    have := cnt_iff rs (c - (frOf r).length) j (by simpa using h)
    split
    · omega
    · omega
theorem cnt_end : ∀ (rs : List Rec) (c : Nat), (cat (rs.take (cnt rs c))).length ≤ c
  | [], _ => by simp [cnt, cat]
  | r :: rs, c => by
    rw [cnt]
    split
    · have := cnt_end rs (c - (frOf r).length)
      rw [List.take_succ_cons, cat, List.length_append]
      omega
    · simp [cat]

theorem scan_cat : ∀ (rs : List Rec) (pre : List Int) (c : Nat), (∀ r ∈ rs, Rt r) → c ≤ (cat rs).length →
    scanR (tl (pre ++ (cat rs).take c) pre.length) pre.length = (itemsOf pre.length (rs.take (cnt rs c)), pre.length + (cat (rs.take (cnt rs c))).length, if (cat (rs.take (cnt rs c))).length = c then 0 else 16)
  | [], pre, c, _, hc => by
    have h0 : c = 0 := by simpa [cat] using hc
    subst h0
    rw [tl_end (by simp [cat])]
    simp [scanR, cnt, itemsOf, cat]
  | r :: rs, pre, c, hr, hc => by
    have hR := hr r List.mem_cons_self
    have hl := frOf_length hR
    have hrs : ∀ x ∈ rs, Rt x := fun x hx => hr x (List.mem_cons_of_mem _ hx)
    rw [cat, List.length_append] at hc
    by_cases h1 : (frOf r).length ≤ c
    · have e : (cat (r :: rs)).take c = frOf r ++ (cat rs).take (c - (frOf r).length) := by rw [cat, List.take_append, List.take_of_length_le h1]
      have hd : (pre ++ (cat (r :: rs)).take c).drop pre.length = frOf r ++ (cat rs).take (c - (frOf r).length) := by rw [e, List.drop_left' rfl]
      have ht : takeF ((pre ++ (cat (r :: rs)).take c).drop pre.length) = (0, r, (frOf r).length) := by rw [hd, hl]; exact take_frame hR _
      have hlt : pre.length < (pre ++ (cat (r :: rs)).take c).length := by rw [e, List.length_append, List.length_append]; omega
      rw [tl_good hlt (by rw [ht]), ht]
      have ih := scan_cat rs (pre ++ frOf r) (c - (frOf r).length) hrs (by omega)
      have e2 : (pre ++ (cat (r :: rs)).take c) = (pre ++ frOf r) ++ (cat rs).take (c - (frOf r).length) := by rw [e, List.append_assoc]
      have e3 : pre.length + (frOf r).length = (pre ++ frOf r).length := by rw [List.length_append]
      rw [scanR, if_pos rfl, e2, show (pre.length, ((0 : Int), r, (frOf r).length)).fst + (pre.length, ((0 : Int), r, (frOf r).length)).snd.snd.snd = (pre ++ frOf r).length from e3,
        ih, cnt, if_pos h1, List.take_succ_cons, itemsOf, cat, List.length_append, List.length_append]
      simp only [Prod.mk.injEq, true_and]
      refine ⟨by omega, ?_⟩
      by_cases h2 : (cat (rs.take (cnt rs (c - (frOf r).length)))).length = c - (frOf r).length
      · rw [if_pos h2, if_pos (by omega)]
      · rw [if_neg h2, if_neg (by omega)]
    · have e : (cat (r :: rs)).take c = (frOf r).take c := by rw [cat, List.take_append_of_le_length (by omega)]
      have hc0 : cnt (r :: rs) c = 0 := by rw [cnt, if_neg h1]
      rw [hc0, e]
      by_cases h0 : c = 0
      · subst h0
        rw [tl_end (by simp)]
        simp [scanR, itemsOf, cat]
      · have hd : (pre ++ (frOf r).take c).drop pre.length = (frOf r).take c := by rw [List.drop_left' rfl]
        have ht : takeF ((pre ++ (frOf r).take c).drop pre.length) = noRec 16 := by rw [hd]; exact take_cut hR (by omega)
        have hlt : pre.length < (pre ++ (frOf r).take c).length := by rw [List.length_append, List.length_take]; omega
        rw [tl_bad hlt (by rw [ht]; simp [noRec]), ht, scanR, if_neg (by simp [noRec])]
        simp only [List.take_zero, itemsOf, cat, List.length_nil, Nat.add_zero]
        rw [if_neg (by omega)]
        rfl

/-- What Scan finds in the first c bytes. -/
theorem scanF_cat {rs : List Rec} {c : Nat} (hr : ∀ r ∈ rs, Rt r) (hc : c ≤ (cat rs).length) :
    scanF ((cat rs).take c) = (itemsOf 0 (rs.take (cnt rs c)), (cat (rs.take (cnt rs c))).length, if (cat (rs.take (cnt rs c))).length = c then 0 else 16) := by
  have h := scan_cat rs [] c hr hc
  simpa [scanF] using h

theorem scanR_mem : ∀ (L : List Item) (p : Nat), ∀ x ∈ (scanR L p).1, x ∈ L
  | [], p, x, h => by simp [scanR] at h
  | y :: L, p, x, h => by
    rw [scanR] at h
    split at h
    · rcases List.mem_cons.1 h with rfl | h
      · exact List.mem_cons_self
      · exact List.mem_cons_of_mem _ (scanR_mem L _ x h)
    · simp at h
/-- What stands at the place of the record j. -/
theorem at_cat {rs : List Rec} {c j : Nat} {r : Rec} (hr : ∀ r ∈ rs, Rt r) (hc : c ≤ (cat rs).length) (hj : j < cnt rs c) (hg : rs[j]? = some r) :
    (cat (rs.take j)).length < ((cat rs).take c).length ∧ takeF (((cat rs).take c).drop (cat (rs.take j)).length) = (0, r, (frOf r).length) := by
  have h1 : (rs.take (cnt rs c))[j]? = some r := by rw [List.getElem?_take_of_lt hj]; exact hg
  have h2 := itemsOf_get 0 _ j r h1
  have h3 : (0 + (cat ((rs.take (cnt rs c)).take j)).length, ((0 : Int), r, (frOf r).length)) ∈ (scanF ((cat rs).take c)).1 := by
    rw [scanF_cat hr hc]
    exact List.mem_of_getElem? h2
  obtain ⟨m1, m2⟩ := tl_mem _ _ 0 (Nat.le_refl _) _ (scanR_mem _ _ _ h3)
  rw [List.take_take, Nat.min_eq_left (by omega)] at m1 m2
  simp only [Nat.zero_add] at m1 m2
  exact ⟨m1, m2.symm⟩

end Go.Proofs.YtkpibphalhhkdaaGreatDoor
end

section
/-
  What the reference's Take and Get answer.
-/
namespace Go.Proofs.YtkpibphalhhkdaaGreatDoor.Tlv
open Go.RowKit
attribute [local go_sem ↓] Go.wp_at_zero Go.wp_at_succ

theorem AgreeS.of {S : Nat → Prop} {L B : Nat} {w w' : World} (h : Agree L B w w') (hS : ∀ b, S b → L ≤ b ∧ b < B) : AgreeS S w w' := fun b hb => h b (hS b hb).1 (hS b hb).2



end Go.Proofs.YtkpibphalhhkdaaGreatDoor.Tlv
end

section
/-
  What the reference's Open does.
-/
namespace Go.Proofs.YtkpibphalhhkdaaGreatDoor.Crc
open Go.RowKit


end Go.Proofs.YtkpibphalhhkdaaGreatDoor.Crc
end

section
/-
  The document's Take.
-/
namespace Go.Proofs.YtkpibphalhhkdaaGreatDoor
open Go.RowKit Go.Shelf
open Tlv (Tr BySlS AgreeS Agree)
open Crc (hid Kept Tab)

theorem built26b (k : Int) (a : Option Addr) (l c : Nat) : Tryz.prog.built 60 [(0, .int .i64 k), (2, .slice a l c)] = some (recA k (List.replicate 32 0) (.slice a l c)).toArray := by kernel_rfl

/-- What the document's Take leaves. -/
def Rook (w w' : World) (e : Ending) (x : Int × (Int × List Int × List Int) × Nat) : Prop :=
  ∃ a c, e = .returned (.tuple #[.agg (recA x.2.1.1 x.2.1.2.1 (.slice a x.2.1.2.2.length c)).toArray, .int .i64 (x.2.2 : Nat), .int .i64 x.1]) ∧
    BySlS (fun g => w.heap.size ≤ g ∧ g < w'.heap.size) w' (.slice a x.2.1.2.2.length c) x.2.1.2.2 ∧ (x.2.1.2.1.length = 32 ∧ ∀ y ∈ x.2.1.2.1, 0 ≤ y ∧ y ≤ 255) ∧ Below w.heap.size w w'

theorem recA_set (k : Int) (nm : List Int) (v : Value) (j : Nat) (y : Int) (hj : j < nm.length) : recA k (nm.set j y) v = (recA k nm v).set (1 + j) (.int .u8 y) := by
  rw [recA, recA, Nat.add_comm 1 j, List.set_cons_succ, List.set_append_left _ _ (by rw [u8s_length]; exact hj)]
  simp [u8s, List.map_set]

theorem Half.put {w W : World} {k : Int} {nm : List Int} {v : Value} {g : Nat} (h : Half w W k nm v g) (hn : nm.length = 32) (j : Nat) (hj : j < 32) (y : Int) : Half w (W.setCell ⟨g, 1 + j, none⟩ (.int .u8 y)) k (nm.set j y) v g := by
  obtain ⟨h1, h2, h3, h4, h5⟩ := h
  have e : W.setCells g (1 + j) [.int .u8 y] = W.setCell ⟨g, 1 + j, none⟩ (.int .u8 y) := rfl
  refine ⟨h1.setCell (p := ⟨g, 1 + j, none⟩) h2 _, h2, by simpa using h3, fun i u hi => ?_, by rw [← e]; exact World.there_setCells h5 _ _ _⟩
  rw [recA_set _ _ _ _ _ (by omega), List.getElem?_set] at hi
  rw [Nat.zero_add]
  by_cases hq : 1 + j = i
  · subst hq
    rw [if_pos rfl, if_pos (by rw [recA_length _ _ _ hn]; omega)] at hi
    obtain ⟨u', hs⟩ := Option.isSome_iff_exists.1 (h5 (1 + j) (by omega)).1
    rw [Nat.zero_add] at hs
    rw [World.cell?_setCell_same _ _ _ hs]
    exact hi
  · rw [if_neg hq] at hi
    rw [World.cell?_setCell_other _ _ _ _ (by simp only [ne_eq, Addr.mk.injEq, and_true, true_and]; omega)]
    have := h4 i u hi
    rwa [Nat.zero_add] at this

theorem set_next (bn : List Int) {j : Nat} (hl : bn.length = 32) (hj : j < 32) : bn.take (j + 1) ++ List.replicate (32 - (j + 1)) 0 = (bn.take j ++ List.replicate (32 - j) 0).set j (bn.getD j 0) := by
  have h1 : (bn.take j).length = j := by rw [List.length_take]; omega
  rw [List.set_append_right _ _ (by omega), h1, Nat.sub_self, show 32 - j = (32 - (j + 1)) + 1 by omega, List.replicate_succ, List.set_cons_zero, List.take_add_one, List.append_assoc]
  congr 1
  rw [List.getD_eq_getElem?_getD, List.getElem?_eq_getElem (by omega)]
  rfl

theorem rook_none (w w' : World) (f : Int) (hk : Below w.heap.size w w') : Rook w w' (.returned (.tuple #[.agg zRec.toArray, .int .i64 0, .int .i64 f])) (noRec f) := by
  refine ⟨none, 0, rfl, Tlv.BySlS.none _ _, ⟨by simp [noRec], ?_⟩, hk⟩
  intro y hy
  rw [(List.mem_replicate.1 hy).2]
  omega


end Go.Proofs.YtkpibphalhhkdaaGreatDoor
end

section
/-
  The document's Scan.
-/
namespace Go.Proofs.YtkpibphalhhkdaaGreatDoor
open Go.RowKit Go.Shelf
open Tlv (Tr BySlS AgreeS Agree)
open Crc (hid Kept Tab)

theorem wpList_val {P : Program} {ops : Array Oper} {rest : List Oper} {o : Oper} {a : Act} {Q : Exit → Act → World → Prop} {w w' : World} {v : Value} (hgd : o.guard = none) (hr : (execOp a.eval o).run P w = .ok (.value v) w') (h : wpList P ops Q rest (a.put o.dst v) w') : wpList P ops Q (o :: rest) a w :=
  wpList_plain hgd fun _ hK => by unfold Oper.wp; rw [hr]; exact hK _ _ h



end Go.Proofs.YtkpibphalhhkdaaGreatDoor
end

section
/-
  FrameTurned, walked: a frame of which bits within 32 are turned, behind its first three bytes, is none.
-/
namespace Go.Proofs.YtkpibphalhhkdaaGreatDoor
open Go.RowKit
open Tlv (Tr BySlS AgreeS Agree)
open Crc (hid Kept Tab turn)

theorem turn_get (xs : List Nat) (p m j : Nat) (h : j < p / 8) : ∀ k, (turn xs p m k)[j]? = xs[j]?
  | 0 => rfl
  | k + 1 => by
    rw [turn]
    split
    · rw [Crc.flip, List.getElem?_set_ne (by omega), turn_get xs p m j h k]
    · exact turn_get xs p m j h k

/-- A turned frame is none. -/
theorem take_turned {k : Int} {nm bs : List Int} (h : RightR k nm bs) {p m : Nat} (hp : 24 ≤ p) (hl : p + 32 ≤ 8 * (49 + bs.length)) (hm : m < 4294967296) (h0 : m ≠ 0) :
    takeF (ints (turn (nats (frameR k nm bs)) p m 32)) = noRec 16 ∨ takeF (ints (turn (nats (frameR k nm bs)) p m 32)) = noRec 4 := by
  have hfl := formR_length h
  have hbd := formR_bd h
  have hxl := nats_lt _ hbd
  have hlen : (ints (turn (nats (frameR k nm bs)) p m 32)).length = 49 + bs.length := by rw [ints_length, Crc.turn_len, nats_length, frameR_length h]
  obtain ⟨t0, hr0, _⟩ := Tlv.form_rd 2 8 (recT k nm bs) 65535 (sumI (formR k nm bs)) (recT_num h.1 h.2.1) (by omega) (recT_right h)
  have e0 : (formR k nm bs).length = Tlv.endOf (frameR k nm bs) := rd_end hr0
  have hget : ∀ j, j < 3 → (ints (turn (nats (frameR k nm bs)) p m 32))[j]? = (frameR k nm bs)[j]? := by
    intro j hj
    have e1 : (frameR k nm bs)[j]? = (ints (nats (frameR k nm bs)))[j]? := by rw [ints_nats _ (frameR_bd h)]
    rw [e1, ints, ints, List.getElem?_map, List.getElem?_map, turn_get _ _ _ _ (by omega)]
  have hend : Tlv.endOf (ints (turn (nats (frameR k nm bs)) p m 32)) = (formR k nm bs).length := by
    rw [e0]
    exact endOf_of (hget 1 (by omega)) (hget 2 (by omega))
  cases hr : Tlv.rd 8 (ints (turn (nats (frameR k nm bs)) p m 32)) with
  | none => exact .inl (takeF_none hr)
  | some x =>
    obtain ⟨t, q⟩ := x
    have hq := rd_end hr
    rw [hend] at hq
    right
    rw [takeF_some hr, if_neg (by rw [hlen, hq, hfl]; omega), if_pos]
    rw [hq]
    intro hc
    have hfr : nats (frameR k nm bs) = nats (formR k nm bs) ++ Crc.le4 (Crc.more 0 (nats (formR k nm bs))) := by rw [frameR, sealI_nats]
    have htl := Crc.turn_lt (xs := nats (frameR k nm bs)) (nats_lt _ (frameR_bd h)) p m 32
    refine Crc.burst_told (nats (formR k nm bs)) ((turn (nats (frameR k nm bs)) p m 32).take (formR k nm bs).length) ((turn (nats (frameR k nm bs)) p m 32).drop (formR k nm bs).length) p m hxl (fun x hx => htl x (List.mem_of_mem_take hx)) hm h0 ?_ ?_ ?_
    · rw [← hfr, nats_length, frameR_length h]; exact hl
    · rw [← hfr, List.take_append_drop]
    · have e1 : (ints (turn (nats (frameR k nm bs)) p m 32)).take (formR k nm bs).length = ints ((turn (nats (frameR k nm bs)) p m 32).take (formR k nm bs).length) := by rw [ints, ints, List.map_take]
      have e2 : ((ints (turn (nats (frameR k nm bs)) p m 32)).drop (formR k nm bs).length).take 4 = ints ((turn (nats (frameR k nm bs)) p m 32).drop (formR k nm bs).length) := by
        rw [ints, ints, List.map_drop, List.take_of_length_le]
        rw [List.length_drop, List.length_map, Crc.turn_len, nats_length, frameR_length h, hfl]
        omega
      rw [e1, e2, sumI, nats_ints] at hc
      have := congrArg nats hc
      rwa [nats_ints, nats_ints] at this

/-- One record, laid in a row. -/
theorem run_onerec (k : Int) (nm : List Int) (a : Option Addr) (l c : Nat) (hn : nm.length = 32) (w : World) :
    (Instr.buildSlice 22 1 #[(0, .agg (recA k nm (.slice a l c)).toArray)]).run Tryz.prog w =
      .ok (.slice (some ⟨w.heap.size, 0, none⟩) 1 1) (w.alloc (.cells (recA k nm (.slice a l c)).toArray 60)) := by
  obtain ⟨x0, x1, x2, x3, x4, x5, x6, x7, x8, x9, x10, x11, x12, x13, x14, x15, x16, x17, x18, x19, x20, x21, x22, x23, x24, x25, x26, x27, x28, x29, x30, x31, rfl⟩ := ex32 hn
  kernel_rfl

theorem wpList_slice1 {P : Program} {ops : Array Oper} {rest : List Oper} {o : Oper} {a : Act} {w w' : World} {Q : Exit → Act → World → Prop} (hg : o.guard = none) (ty : TypeId) (x : Operand) (ho : o.op = .buildSlice ty 1 #[(0, x)])
    (vx v : Value) (hx : a.eval x = vx) (hr : (Instr.buildSlice ty 1 #[(0, vx)]).run P w = .ok v w')
    (h : wpList P ops Q rest (a.put o.dst v) w') : wpList P ops Q (o :: rest) a w := by
  refine wpList_plain hg fun K hK => ?_
  unfold Oper.wp execOp
  have e : ((#[(0, x)] : Array (Nat × Operand)).map fun (i, x) => (i, a.eval x)) = #[(0, vx)] := by simp [hx]
  simp only [ho, Sem.run_bind, e, hr, Result.andThen_ok]
  exact hK _ _ h

/-- The row at g holds xs in wr; all else is as it was. -/
def Held (g : Nat) (W wr : World) (xs : List Nat) : Prop :=
  Kept g W wr ∧ wr.heap.size = W.heap.size ∧ (∀ j, j < xs.length → wr.cell? ⟨g, j, none⟩ = some (.int .u8 (xs.getD j 0 : Nat))) ∧ ∀ j, wr.frozen? ⟨g, j, none⟩ = false

theorem Held.set {g : Nat} {W wr : World} {xs : List Nat} (h : Held g W wr xs) (j x : Nat) (hj : j < xs.length) : Held g W (wr.setCell ⟨g, j, none⟩ (.int .u8 (x : Nat))) (xs.set j x) := by
  obtain ⟨h1, h2, h3, h4⟩ := h
  refine ⟨h1.setCell rfl _, by simpa using h2, fun i hi => ?_, fun i => by simpa using h4 i⟩
  simp only [List.length_set] at hi
  by_cases e : j = i
  · subst e
    rw [World.cell?_setCell_same _ _ _ (h3 j hj)]
    simp [hj]
  · rw [World.cell?_setCell_other _ _ _ _ (by simp only [ne_eq, Addr.mk.injEq, true_and, and_true]; omega), h3 i hi]
    simp [e]

theorem bit_test (m k : Nat) (hm : m < 4294967296) : (bits .and .u32 ((m : Int) / 2 ^ k) 1 == 1) = m.testBit k := by
  have e : ((m : Int) / 2 ^ k) = ((m / 2 ^ k : Nat) : Int) := by rw [Int.natCast_ediv, Int.natCast_pow]; rfl
  rw [e, Crc.and_one _ (Nat.lt_of_le_of_lt (Nat.div_le_self _ _) hm), Nat.testBit_eq_decide_div_mod_eq, Bool.eq_iff_iff]
  simp
  omega
theorem bit_xor (c q : Nat) (hc : c < 256) (hq : q < 8) : bits .xor .u8 (c : Int) (2 ^ q % 256) = ((c ^^^ 2 ^ q : Nat) : Int) := by
  have hp : 2 ^ q < 256 := Nat.pow_lt_pow_right (m := q) (n := 8) (by decide) hq
  have e : ((2 : Int) ^ q % 256) = ((2 ^ q : Nat) : Int) := by
    rw [Int.natCast_pow]
    apply Int.emod_eq_of_lt
    · exact Int.pow_nonneg (by decide)
    · have : (((2 ^ q : Nat)) : Int) < 256 := by omega
      rw [Int.natCast_pow] at this
      exact this
  rw [e]
  exact u8_xor_nat c (2 ^ q) hc hp

end Go.Proofs.YtkpibphalhhkdaaGreatDoor
end

section
/-
  Three rows that a call builds side by side: bytes, ends, records.
-/
namespace Go.Proofs.YtkpibphalhhkdaaGreatDoor
open Go.RowKit Go.Shelf
open Tlv (Tr BySlS AgreeS Agree)
open Crc (hid Kept Tab)

/-- One of the list: a record, and where its body lies. -/
abbrev El : Type := Rec × Option Addr × Nat
def elV (z : El) : Value := .slice z.2.1 z.1.2.2.length z.2.2
def elC (z : El) : List Value := recA z.1.1 z.1.2.1 (elV z)
def elOk (z : El) : Prop := z.1.2.1.length = 32 ∧ ∀ y ∈ z.1.2.1, 0 ≤ y ∧ y ≤ 255
theorem elC_length {z : El} (h : elOk z) : (elC z).length = 34 := recA_length _ _ _ h.1
theorem elC_one (z : El) : ∀ v ∈ elC z, v.oneCell' = true := recA_one _ _ _ _ _
def recsC : List El → List Value
  | [] => []
  | z :: zs => elC z ++ recsC zs
theorem recsC_snoc (z : El) : ∀ zs : List El, recsC (zs ++ [z]) = recsC zs ++ elC z
  | [] => by simp [recsC]
  | x :: zs => by rw [List.cons_append, recsC, recsC, recsC_snoc z zs, List.append_assoc]
theorem recsC_at : ∀ (zs : List El) (j : Nat) (z : El) (r : Nat), (∀ y ∈ zs, elOk y) → zs[j]? = some z → r < 34 → (recsC zs)[j * 34 + r]? = (elC z)[r]?
  | [], j, z, r, _, h, _ => by simp at h
  | x :: zs, 0, z, r, ho, h, hr => by
    simp only [List.getElem?_cons_zero, Option.some.injEq] at h
    subst h
    rw [recsC, Nat.zero_mul, Nat.zero_add, List.getElem?_append_left (by rw [elC_length (ho _ List.mem_cons_self)]; exact hr)]
  | x :: zs, j + 1, z, r, ho, h, hr => by
    have hl := elC_length (ho _ List.mem_cons_self)
    rw [recsC, List.getElem?_append_right (by rw [hl]; omega), hl, show (j + 1) * 34 + r - 34 = j * 34 + r by omega]
    exact recsC_at zs j z r (fun y hy => ho y (List.mem_cons_of_mem _ hy)) (by simpa using h) hr

/-- Where the frames end. -/
def endsL (rs : List Rec) : List Nat := (List.range rs.length).map fun j => (cat (rs.take (j + 1))).length
theorem endsL_length (rs : List Rec) : (endsL rs).length = rs.length := by simp [endsL]
theorem endsL_at {rs : List Rec} {j : Nat} (h : j < rs.length) : (endsL rs)[j]? = some (cat (rs.take (j + 1))).length := by simp [endsL, h]
theorem endsL_snoc (rs : List Rec) (r : Rec) : endsL (rs ++ [r]) = endsL rs ++ [(cat (rs ++ [r])).length] := by
  apply List.ext_getElem?
  intro j
  by_cases h : j < rs.length
  · rw [endsL_at (by simp; omega), List.getElem?_append_left (by rw [endsL_length]; exact h), endsL_at h, List.take_append_of_le_length (by omega)]
  · by_cases h2 : j = rs.length
    · subst h2
      rw [endsL_at (by simp), List.getElem?_append_right (by rw [endsL_length]; omega), endsL_length, List.take_of_length_le (by simp)]
      simp
    · rw [List.getElem?_eq_none (by rw [endsL_length]; simp; omega), List.getElem?_eq_none (by simp [endsL_length]; omega)]
def nums (l : List Nat) : List Value := l.map fun (n : Nat) => Value.int .i64 (n : Int)

theorem info8 : (Tryz.prog.info? 5).map (fun i => (i.zero, i.size, i.bytes)) = some (some (.int .u8 0), 1, 1) := by kernel_rfl
theorem info64 : (Tryz.prog.info? 3).map (fun i => (i.zero, i.size, i.bytes)) = some (some (.int .i64 0), 1, 8) := by kernel_rfl
theorem infoR : (Tryz.prog.info? 60).map (fun i => (i.zero, i.size, i.bytes)) = some (some (.agg zRec.toArray), 34, 64) := by kernel_rfl

/-- The three rows, in blocks from B on, each in one of its own; all else from w1 on is as it was, the table's block b left out. -/
structure R3 (B b : Nat) (w1 wr : World) (va ve vw : Value) (xa : List Int) (xe : List Nat) (zs : List El) : Prop where
  kept : Kept b w1 wr
  tab : TabX wr b
  all : wr.ownsRow B 5 1 va xa.length (u8s xa)
  ends : wr.ownsRow B 3 1 ve xe.length (nums xe)
  want : wr.ownsRow B 60 34 vw zs.length (recsC zs)
  ae : ∀ q, va.ownBlock = some q → ve.ownBlock ≠ some q
  aw : ∀ q, va.ownBlock = some q → vw.ownBlock ≠ some q
  ew : ∀ q, ve.ownBlock = some q → vw.ownBlock ≠ some q

theorem R3.start {b : Nat} {w1 : World} (h : TabX w1 b) : R3 w1.heap.size b w1 w1 (.slice none 0 0) (.slice none 0 0) (.slice none 0 0) [] [] [] :=
  ⟨Kept.refl _ _, h, World.ownsRow_nil _ _ _ _, World.ownsRow_nil _ _ _ _, World.ownsRow_nil _ _ _ _, fun _ h => (by cases h), fun _ h => (by cases h), fun _ h => (by cases h)⟩

theorem ownsRow_of_kept {ty : TypeId} {base b n k : Nat} {w w' : World} {v : Value} {cs : List Value} (h : w.ownsRow base ty k v n cs) (hk : Kept b w w') (hb : b < base) : w'.ownsRow base ty k v n cs := by
  refine ⟨h.1, ?_⟩
  rcases h.2 with h2 | ⟨g, cap, cur, hv, hg, hh, r⟩
  · exact Or.inl h2
  · exact Or.inr ⟨g, cap, cur, hv, hg, (hk.block g (Array.getElem?_eq_some_iff.1 hh).1 (by omega)).trans hh, r⟩

section
variable {B b : Nat} {w1 wr W : World} {va ve vw : Value} {xa : List Int} {xe : List Nat} {zs : List El}

theorem R3.on (h : R3 B b w1 wr va ve vw xa xe zs) (hk : Kept b wr W) (ht : TabX W b) (hb : b < B) : R3 B b w1 W va ve vw xa xe zs :=
  ⟨h.kept.trans hk, ht, ownsRow_of_kept h.all hk hb, ownsRow_of_kept h.ends hk hb, ownsRow_of_kept h.want hk hb, h.ae, h.aw, h.ew⟩
theorem R3.below (h : R3 B b w1 wr va ve vw xa xe zs) (hk : Below wr.heap.size wr W) (hb : b < B) : R3 B b w1 W va ve vw xa xe zs := h.on (Kept.below hk) (h.tab.below hk) hb

theorem kept_grown {row : Option Nat} (h : Kept b w1 wr) (hg : wr.grownBy W row) (hr : ∀ q, row = some q → w1.heap.size ≤ q) : Kept b w1 W :=
  ⟨hg.os.trans h.os, hg.tape.trans h.tape, hg.output.trans h.output, Nat.le_trans h.size hg.size, fun i hi hb => (hg.block i (Nat.lt_of_lt_of_le hi h.size) (fun e => by have := hr i e.symm; omega)).trans (h.block i hi hb)⟩
theorem tab_grown {row : Option Nat} (h : TabX wr b) (hg : wr.grownBy W row) (hr : ∀ q, row = some q → q ≠ b) : TabX W b := by
  cases row with
  | none => exact h.below ⟨hg.os, hg.tape, hg.output, hg.size, fun k hk => hg.block k hk (by simp)⟩
  | some q => exact h.kept (g := q) ⟨hg.os, hg.tape, hg.output, hg.size, fun k hk hq => hg.block k hk (fun e => hq (Option.some.inj e))⟩ (fun e => hr q rfl e.symm)

/-- Bytes laid behind the first row. -/
theorem R3.push_all (h : R3 B b w1 wr va ve vw xa xe zs) (hb : b < B) (hB : B = w1.heap.size) {S : Nat → Prop} {a : Option Addr} {c : Nat} {ys : List Int} (hy : BySlS S wr (.slice a ys.length c) ys) (hne : ys ≠ []) (hl : xa.length + ys.length ≤ 1000000000) :
    ∃ g cap W, (Builtin.append_ #[41, 41] 41 #[va, .slice a ys.length c]).run Tryz.prog wr = .ok (.slice (some ⟨g, 0, none⟩) (xa.length + ys.length) cap) W ∧
      R3 B b w1 W (.slice (some ⟨g, 0, none⟩) (xa.length + ys.length) cap) ve vw (xa ++ ys) xe zs := by
  obtain ⟨i, hi, hiz⟩ := Option.map_eq_some_iff.1 info8
  simp only [Prod.mk.injEq] at hiz
  obtain ⟨z1, z2, z3⟩ := hiz
  obtain ⟨a', c', e, _, _, _, _, hx, hc⟩ := hy
  simp only [Value.slice.injEq, true_and] at e
  obtain ⟨rfl, rfl⟩ := e
  obtain ⟨gy, oy, rfl, _, hcell⟩ := hc hne
  have hpos := List.length_pos_iff.2 hne
  have hk := h.kept.size
  obtain ⟨g2, cap2, W2, hap, hown2, hgrow, hat, hg2⟩ := run_append_lies (P := Tryz.prog) wr 41 41 B 5 i (.int .u8 0) 1 1 Tryz.underlying41 hi z1 z2 z3 rfl (by omega)
    va xa.length _ h.all ⟨gy, oy, none⟩ ys.length c (u8s ys) (by rw [u8s_length]; omega) (fun j u hj => by
      rw [u8s, List.getElem?_map, Option.map_eq_some_iff] at hj
      obtain ⟨y, hy, rfl⟩ := hj
      have := hcell j (List.getElem?_eq_some_iff.1 hy).1
      rw [List.getD_eq_getElem?_getD, hy] at this
      have e : (⟨gy, oy, none⟩ : Addr).add j = ⟨gy, oy + j, none⟩ := by first | rfl | simp [Addr.add]
      rw [e]
      exact this) (u8s_one ys) hpos (by unfold maxLen; omega) (by omega) (by omega) _ rfl
  have hlt := h.all.lt
  refine ⟨g2, cap2, W2, hap, kept_grown h.kept hgrow (fun q e => by have := hlt q e; omega), tab_grown h.tab hgrow (fun q e => by have := hlt q e; omega), ?_, h.ends.kept hgrow ?_, h.want.kept hgrow ?_, ?_, ?_, h.ew⟩
  · rw [List.length_append, u8s, List.map_append]
    exact hown2
  · by_cases e : ve.ownBlock = none
    · exact .inl e
    · right
      intro e2
      obtain ⟨q, hq⟩ := Option.ne_none_iff_exists'.1 e
      exact h.ae q (by rw [← e2]; exact hq) hq
  · by_cases e : vw.ownBlock = none
    · exact .inl e
    · right
      intro e2
      obtain ⟨q, hq⟩ := Option.ne_none_iff_exists'.1 e
      exact h.aw q (by rw [← e2]; exact hq) hq
  · intro q hq e2
    simp only [Value.ownBlock, Option.some.injEq] at hq
    subst hq
    rcases hat with h1 | h1
    · exact h.ae _ h1 e2
    · have := h.ends.lt _ e2; omega
  · intro q hq e2
    simp only [Value.ownBlock, Option.some.injEq] at hq
    subst hq
    rcases hat with h1 | h1
    · exact h.aw _ h1 e2
    · have := h.want.lt _ e2; omega

theorem run_oneint (n : Int) (w : World) : (Instr.buildSlice 53 1 #[(0, .int .i64 n)]).run Tryz.prog w = .ok (.slice (some ⟨w.heap.size, 0, none⟩) 1 1) (w.alloc (.cells #[.int .i64 n] 3)) := by kernel_rfl

/-- A number laid behind the second row. -/
theorem R3.push_end (h : R3 B b w1 wr va ve vw xa xe zs) (hb : b < B) (hB : B = w1.heap.size) (n : Nat) (hl : xe.length ≤ 1000000) :
    ∃ g cap W, (Builtin.append_ #[53, 53] 53 #[ve, .slice (some ⟨wr.heap.size, 0, none⟩) 1 1]).run Tryz.prog (wr.alloc (.cells #[.int .i64 (n : Int)] 3)) = .ok (.slice (some ⟨g, 0, none⟩) (xe.length + 1) cap) W ∧
      R3 B b w1 W va (.slice (some ⟨g, 0, none⟩) (xe.length + 1) cap) vw xa (xe ++ [n]) zs := by
  obtain ⟨i, hi, hiz⟩ := Option.map_eq_some_iff.1 info64
  simp only [Prod.mk.injEq] at hiz
  obtain ⟨z1, z2, z3⟩ := hiz
  have hal : Below wr.heap.size wr (wr.alloc (.cells #[.int .i64 (n : Int)] 3)) := (Below.refl _ _).alloc (Nat.le_refl _) _
  have hsz : (wr.alloc (.cells #[.int .i64 (n : Int)] 3)).heap.size = wr.heap.size + 1 := by simp
  have hr := range_new wr [.int .i64 (n : Int)] 3
  have h' := h.below hal hb
  have hk := h'.kept.size
  have hk0 := h.kept.size
  obtain ⟨W1, hW1⟩ : ∃ W1, wr.alloc (.cells #[.int .i64 (n : Int)] 3) = W1 := ⟨_, rfl⟩
  rw [show (wr.alloc (.cells [.int .i64 (n : Int)].toArray 3)) = W1 from hW1] at hr
  rw [hW1] at h' hk hsz ⊢
  obtain ⟨g2, cap2, W2, hap, hown2, hgrow, hat, hg2⟩ := run_append_lies (P := Tryz.prog) W1 53 53 B 3 i (.int .i64 0) 1 8 Tryz.underlying53 hi z1 z2 z3 rfl (by omega)
    ve xe.length _ h'.ends ⟨wr.heap.size, 0, none⟩ 1 1 [.int .i64 (n : Int)] rfl (fun j u hj => by rw [Addr.add_lit]; exact hr j u hj) (by simp [Value.oneCell']) (by omega) (by unfold maxLen; omega) (by omega) (by omega) _ rfl
  have hlt := h'.ends.lt
  refine ⟨g2, cap2, W2, hap, kept_grown h'.kept hgrow (fun q e => by have := hlt q e; omega), tab_grown h'.tab hgrow (fun q e => by have := hlt q e; omega), h'.all.kept hgrow ?_, ?_, h'.want.kept hgrow ?_, ?_, h.aw, ?_⟩
  · by_cases e : va.ownBlock = none
    · exact .inl e
    · right
      intro e2
      obtain ⟨q, hq⟩ := Option.ne_none_iff_exists'.1 e
      exact h.ae q hq (by rw [← e2]; exact hq)
  · rw [List.length_append, nums, List.map_append]
    exact hown2
  · by_cases e : vw.ownBlock = none
    · exact .inl e
    · right
      intro e2
      obtain ⟨q, hq⟩ := Option.ne_none_iff_exists'.1 e
      exact h.ew q (by rw [← e2]; exact hq) hq
  · intro q hq e2
    simp only [Value.ownBlock, Option.some.injEq] at e2
    subst e2
    rcases hat with h1 | h1
    · exact h.ae _ hq h1
    · have := h.all.lt _ hq; omega
  · intro q hq e2
    simp only [Value.ownBlock, Option.some.injEq] at hq
    subst hq
    rcases hat with h1 | h1
    · exact h.ew _ h1 e2
    · have := h.want.lt _ e2; omega

/-- A record laid behind the third row. -/
theorem R3.push_want (h : R3 B b w1 wr va ve vw xa xe zs) (hb : b < B) (hB : B = w1.heap.size) (z : El) (hz : elOk z) (hl : zs.length ≤ 1000000) :
    ∃ g cap W, (Builtin.append_ #[22, 22] 22 #[vw, .slice (some ⟨wr.heap.size, 0, none⟩) 1 1]).run Tryz.prog (wr.alloc (.cells (elC z).toArray 60)) = .ok (.slice (some ⟨g, 0, none⟩) (zs.length + 1) cap) W ∧
      R3 B b w1 W va ve (.slice (some ⟨g, 0, none⟩) (zs.length + 1) cap) xa xe (zs ++ [z]) := by
  obtain ⟨i, hi, hiz⟩ := Option.map_eq_some_iff.1 infoR
  simp only [Prod.mk.injEq] at hiz
  obtain ⟨z1, z2, z3⟩ := hiz
  have hal : Below wr.heap.size wr (wr.alloc (.cells (elC z).toArray 60)) := (Below.refl _ _).alloc (Nat.le_refl _) _
  have hsz : (wr.alloc (.cells (elC z).toArray 60)).heap.size = wr.heap.size + 1 := by simp
  have hr := range_new wr (elC z) 60
  have h' := h.below hal hb
  have hk := h'.kept.size
  have hk0 := h.kept.size
  generalize hW1 : wr.alloc (.cells (elC z).toArray 60) = W1 at *
  obtain ⟨g2, cap2, W2, hap, hown2, hgrow, hat, hg2⟩ := run_append_lies (P := Tryz.prog) W1 22 22 B 60 i (.agg zRec.toArray) 34 64 Tryz.underlying22 hi z1 z2 z3 rfl (by omega)
    vw zs.length _ h'.want ⟨wr.heap.size, 0, none⟩ 1 1 (elC z) (by rw [elC_length hz]) (fun j u hj => by rw [Addr.add_lit]; exact hr j u hj) (elC_one z) (by omega) (by unfold maxLen; omega) (by omega) (by omega) _ rfl
  have hlt := h'.want.lt
  refine ⟨g2, cap2, W2, hap, kept_grown h'.kept hgrow (fun q e => by have := hlt q e; omega), tab_grown h'.tab hgrow (fun q e => by have := hlt q e; omega), h'.all.kept hgrow ?_, h'.ends.kept hgrow ?_, ?_, h.ae, ?_, ?_⟩
  · by_cases e : va.ownBlock = none
    · exact .inl e
    · right
      intro e2
      obtain ⟨q, hq⟩ := Option.ne_none_iff_exists'.1 e
      exact h.aw q hq (by rw [← e2]; exact hq)
  · by_cases e : ve.ownBlock = none
    · exact .inl e
    · right
      intro e2
      obtain ⟨q, hq⟩ := Option.ne_none_iff_exists'.1 e
      exact h.ew q hq (by rw [← e2]; exact hq)
  · rw [List.length_append, recsC_snoc]
    exact hown2
  · intro q hq e2
    simp only [Value.ownBlock, Option.some.injEq] at e2
    subst e2
    rcases hat with h1 | h1
    · exact h.aw _ hq h1
    · have := h.all.lt _ hq; omega
  · intro q hq e2
    simp only [Value.ownBlock, Option.some.injEq] at e2
    subst e2
    rcases hat with h1 | h1
    · exact h.ew _ hq h1
    · have := h.ends.lt _ hq; omega
end
end Go.Proofs.YtkpibphalhhkdaaGreatDoor
end

section
/-
  lose, Up.
-/
namespace Go.Proofs.YtkpibphalhhkdaaGreatDoor.Sim
open Go.RowKit Go.Maps

/-- A row's front. -/
theorem OwnB.front {w : World} {a : Option Addr} {n0 cap : Nat} {bs : List Nat} (h : OwnB w (.slice a n0 cap) bs) (j : Nat) (hj : j ≤ bs.length) : OwnB w (.slice a j cap) (bs.take j) := by
  have hl : (bs.take j).length = j := List.length_take_of_le hj
  have hcl : cl (bs.take j) = (cl bs).take j := by simp [cl, List.map_take]
  rcases h.row.2 with ⟨e, e2⟩ | ⟨g, cap', cur, e, hb, hh, h1, h2, h3, h4⟩
  · cases e
    have : bs = [] := List.length_eq_zero_iff.1 e2
    subst this
    have : j = 0 := by simpa using hj
    subst this
    exact OwnB.nil _
  · cases e
    refine ⟨by rw [cl_length]; omega, .inr ⟨g, cap, cur, by rw [hl], hb, hh, by omega, h2, h3, ?_⟩⟩
    rw [hcl, ← h4, List.take_take, hl]
    congr 1
    omega

theorem lose_len (k : Int) (f : Fl) (h : f.safe ≤ f.b.length) : (lose k f).b = f.b.take (f.safe + min (max k 0).toNat (f.b.length - f.safe)) ∧ (lose k f).b.length = f.safe + min (max k 0).toNat (f.b.length - f.safe) ∧ (lose k f).safe = f.safe + min (max k 0).toNat (f.b.length - f.safe) ∧ f.safe + min (max k 0).toNat (f.b.length - f.safe) ≤ f.b.length := by
  have h1 : f.safe + min (max k 0).toNat (f.b.length - f.safe) ≤ f.b.length := by omega
  have h2 : (f.b.take (f.safe + min (max k 0).toNat (f.b.length - f.safe))).length = f.safe + min (max k 0).toNat (f.b.length - f.safe) := List.length_take_of_le h1
  exact ⟨rfl, h2, h2, h1⟩


/-! ### Up -/
/-- A slice of numbers that is read. -/
def IntsAt (Q : Nat → Prop) (w : World) (v : Value) (zs : List Int) : Prop :=
  ∃ a cap, v = .slice a zs.length cap ∧ zs.length ≤ cap ∧ cap ≤ maxLen ∧ zs.length ≤ 1000 ∧ (zs ≠ [] → ∃ g o, a = some ⟨g, o, none⟩ ∧ Q g ∧ g < w.heap.size ∧ ∀ i, i < zs.length → w.cell? ⟨g, o + i, none⟩ = some (.int .i64 (zs.getD i 0)))
theorem IntsAt.kp {Q L : Nat → Prop} {w w' : World} {v : Value} {zs : List Int} (h : IntsAt Q w v zs) (k : Kp L w w') (hL : ∀ x, L x → ¬ Q x) : IntsAt Q w' v zs := by
  obtain ⟨a, cap, h1, h2, h3, h4, h5⟩ := h
  refine ⟨a, cap, h1, h2, h3, h4, fun hne => ?_⟩
  obtain ⟨g, o, e, hq, hg, hc⟩ := h5 hne
  exact ⟨g, o, e, hq, Nat.lt_of_lt_of_le hg k.size, fun i hi => (k.cell (p := ⟨g, o + i, none⟩) hg (fun hl => hL g hl hq)).trans (hc i hi)⟩
theorem IntsAt.nil (Q : Nat → Prop) (w : World) : IntsAt Q w (.slice none 0 0) [] := ⟨none, 0, rfl, Nat.le_refl _, Nat.zero_le _, Nat.zero_le _, fun h => absurd rfl h⟩

theorem loses_snoc (e : Nm × Nat) (cuts : List Int) : ∀ (l : Dir) (i : Nat) (p : PS), loses (l ++ [e]) i cuts p = setF e.2 (lose (cuts.getD (i + l.length) 0) (fileAt (loses l i cuts p) e.2)) (loses l i cuts p)
  | [], i, p => by simp [loses]
  | x :: r, i, p => by
    rw [List.cons_append, loses, loses_snoc e cuts r (i + 1)]
    have : i + 1 + r.length = i + (x :: r).length := by simp; omega
    rw [this]
    rfl
theorem loses_same (cuts : List Int) : ∀ (l : Dir) (i : Nat) (p : PS), (loses l i cuts p).safe = p.safe ∧ (loses l i cuts p).seen = p.seen ∧ (loses l i cuts p).chg = p.chg ∧ (loses l i cuts p).made = p.made ∧ (loses l i cuts p).room = p.room ∧ (loses l i cuts p).steps = p.steps
  | [], _, _ => ⟨rfl, rfl, rfl, rfl, rfl, rfl⟩
  | x :: r, i, p => by
    rw [loses]
    exact loses_same cuts r (i + 1) _
theorem loses_files (cuts : List Int) (B : Nat) : ∀ (l : Dir) (i : Nat) (p : PS), (∀ b f, p.files b = some f → f.b.length ≤ B) → (∀ b f, (loses l i cuts p).files b = some f → f.b.length ≤ B) ∧ ∀ b, ((p.files b).isSome = true → ((loses l i cuts p).files b).isSome = true)
  | [], _, _, h => ⟨h, fun _ h => h⟩
  | x :: r, i, p, h => by
    rw [loses]
    obtain ⟨h1, h2⟩ := loses_files cuts B r (i + 1) (setF x.2 (lose (cuts.getD i 0) (fileAt p x.2)) p) (fun b f hf => by
      have hf' : (if b = x.2 then some (lose (cuts.getD i 0) (fileAt p x.2)) else p.files b) = some f := hf
      split at hf'
      · cases hf'
        have hlen : (lose (cuts.getD i 0) (fileAt p x.2)).b.length ≤ (fileAt p x.2).b.length := List.length_take_le' _ _
        refine Nat.le_trans hlen ?_
        unfold fileAt
        cases hx : p.files x.2 with
        | none => simp
        | some g => exact h _ g hx
      · exact h b f hf')
    refine ⟨h1, fun b hb => h2 b ?_⟩
    show (if b = x.2 then some (lose (cuts.getD i 0) (fileAt p x.2)) else p.files b).isSome = true
    split
    · rfl
    · exact hb
theorem inv_up {N : Nat} {p : PS} (h : PInv N p) (hr : Ris p.safe) (k : Int) (cuts : List Int) : PInv N (pUp k cuts p) := by
  obtain ⟨n, hn, hn2⟩ : ∃ n, min (max k 0).toNat p.chg.length = n ∧ n ≤ p.chg.length := ⟨_, rfl, by omega⟩
  have e : pUp k cuts p = { loses ((p.chg.take n).foldl pdo p.safe) 0 cuts (settle n p) with seen := (loses ((p.chg.take n).foldl pdo p.safe) 0 cuts (settle n p)).safe, down := false, armed := false, left := 0 } := by
    unfold pUp
    rw [hn]
    rfl
  rw [e]
  obtain ⟨s1, s2, s3, s4, s5, s6⟩ := loses_same cuts ((p.chg.take n).foldl pdo p.safe) 0 (settle n p)
  obtain ⟨f1, f2⟩ := loses_files cuts (12000 * N) ((p.chg.take n).foldl pdo p.safe) 0 (settle n p) h.lfile
  have s1' : (loses ((p.chg.take n).foldl pdo p.safe) 0 cuts (settle n p)).safe = (p.chg.take n).foldl pdo p.safe := s1
  have s3' : (loses ((p.chg.take n).foldl pdo p.safe) 0 cuts (settle n p)).chg = [] := s3
  have hfn := fold_names h n
  refine {
    seen_eq := by show _ = List.foldl pdo _ _; rw [s3']; rfl
    okc := by show okcs _ _; rw [s3']; trivial
    has := fun x hx => ?_
    hasC := fun c hc => ?_
    nodup := ?_
    nmS := fun x hx => ?_
    nmC := fun c hc => ?_
    nmade := fun hm => ?_
    room := by show _ ≤ _; rw [s5]; exact h.room
    left := Nat.zero_le _
    steps := by show _ ≤ _; rw [s6]; exact h.steps
    lsum := ?_
    lfile := f1
    big := h.big }
  · have hx' : x ∈ (p.chg.take n).foldl pdo p.safe := by rw [← s1']; exact hx
    exact f2 x.2 ((hfn x hx').1)
  · have hc' : c ∈ (loses ((p.chg.take n).foldl pdo p.safe) 0 cuts (settle n p)).chg := hc
    rw [s3'] at hc'
    simp at hc'
  · show (List.map _ (loses ((p.chg.take n).foldl pdo p.safe) 0 cuts (settle n p)).safe ++ List.map _ (List.filter _ (loses ((p.chg.take n).foldl pdo p.safe) 0 cuts (settle n p)).chg)).Nodup
    rw [s3', s1']
    have hd := h.nodup
    have h2 := nodup_fold (p.chg.take n) (p.chg.drop n) p.safe hr (by
      have := h.okc
      rw [← List.take_append_drop n p.chg, okcs_append] at this
      exact this.1) (by rw [List.take_append_drop]; exact hd)
    rw [List.nodup_append] at h2
    simpa [vals] using h2.1
  · have hx' : x ∈ (p.chg.take n).foldl pdo p.safe := by rw [← s1']; exact hx
    exact (hfn x hx').2
  · have hc' : c ∈ (loses ((p.chg.take n).foldl pdo p.safe) 0 cuts (settle n p)).chg := hc
    rw [s3'] at hc'
    simp at hc'
  · have hm' : (loses ((p.chg.take n).foldl pdo p.safe) 0 cuts (settle n p)).made = false := hm
    rw [s4] at hm'
    obtain ⟨h1, h2⟩ := h.nmade hm'
    refine ⟨s3', ?_⟩
    show (loses ((p.chg.take n).foldl pdo p.safe) 0 cuts (settle n p)).safe = []
    rw [s1', h1, h2]
    simp
  · show (loses ((p.chg.take n).foldl pdo p.safe) 0 cuts (settle n p)).safe.length + (loses ((p.chg.take n).foldl pdo p.safe) 0 cuts (settle n p)).chg.length ≤ N
    rw [s1', s3']
    have h1 := length_fold (p.chg.take n) p.safe
    have h2 := List.length_take_le n p.chg
    have := h.lsum
    have h3 : (p.chg.take n).length ≤ p.chg.length := by simp; omega
    simp only [List.length_nil]
    omega


end Go.Proofs.YtkpibphalhhkdaaGreatDoor.Sim
end

section
/-
  Up.
-/
namespace Go.Proofs.YtkpibphalhhkdaaGreatDoor.Sim
open Go.RowKit Go.Maps

/-- What holds while Up goes on. -/
def UpI (N : Nat) (d : Dir) : PS → Prop := fun p => (∀ b f, p.files b = some f → f.b.length ≤ 12000 * N) ∧ (∀ e ∈ d, (p.files e.2).isSome = true) ∧ p.safe = d ∧ N ≤ 1000

/-- Where Up stands, i names through. -/
def UpAt (P : Nat → Prop) (N : Nat) (w : World) (s : Nat) (q : PS) (d : Dir) (cuts : List Int) (vs : Value) (mo : Option Nat) (i : Nat) (wr : World) : Prop :=
  ∃ u, Rp P (UpI N d) wr s (loses (d.take i) 0 cuts q) vs (.map mo) (.slice none 0 0) u ∧ Kp P w wr

theorem upI_step {N : Nat} {d : Dir} {q : PS} {b : Nat} {f : Fl} {k : Int} (h : UpI N d q) (hf : q.files b = some f) : UpI N d (setF b (lose k f) q) := by
  refine ⟨fun x g hg => ?_, fun e he => ?_, h.2.2.1, h.2.2.2⟩
  · have hg' : (if x = b then some (lose k f) else q.files x) = some g := hg
    split at hg'
    · cases hg'
      exact Nat.le_trans (List.length_take_le' _ _) (h.1 b f hf)
    · exact h.1 x g hg'
  · show (if e.2 = b then some (lose k f) else q.files e.2).isSome = true
    split
    · rfl
    · exact h.2.1 e he

theorem map_get {l : Dir} {i : Nat} (h : i < l.length) : (l.map (·.1)).getD i [] = (l[i]).1 := by
  rw [List.getD_eq_getElem?_getD, List.getElem?_map, List.getElem?_eq_getElem h]
  rfl

/-- At the end of Up. -/
theorem up_end {P : Nat → Prop} {N : Nat} {w wr w2 : World} {s : Nat} {q : PS} {vs vs' : Value} {mo : Option Nat} {u : Nat → Value} (h : Rp P (UpI N q.safe) wr s q vs (.map mo) (.slice none 0 0) u) (hq : q.chg = [])
    (hv : (mo = none ∧ vs' = .map none ∧ w2 = wr) ∨ ∃ b, mo = some b ∧ vs' = .map (some wr.heap.size) ∧ MapAt w2 wr.heap.size q.safe) (k2 : Kp No wr w2) (hk : Kp P w wr)
    (hi : PInv N { q with seen := q.safe, down := false, armed := false, left := 0 }) :
    Done P N w ((((w2.setCell ⟨s, 1, none⟩ vs').setCell ⟨s, 4, none⟩ (.bool false)).setCell ⟨s, 5, none⟩ (.bool false)).setCell ⟨s, 6, none⟩ (.int .i64 0)) s { q with seen := q.safe, down := false, armed := false, left := 0 } := by
  have hR := h.kp k2 (fun _ h => h.elim)
  have k4 : Kp (· = s) w2 ((((w2.setCell ⟨s, 1, none⟩ vs').setCell ⟨s, 4, none⟩ (.bool false)).setCell ⟨s, 5, none⟩ (.bool false)).setCell ⟨s, 6, none⟩ (.int .i64 0)) :=
    (((Kp.set1 _ _ _ _).trans (Kp.set1 _ _ _ _) (fun x hx => .inl hx)).trans (Kp.set1 _ _ _ _) (fun x hx => .inl hx)).trans (Kp.set1 _ _ _ _) (fun x hx => .inl hx)
  have hb := (((hR.blk.setCell 1 vs').setCell 4 (.bool false)).setCell 5 (.bool false)).setCell 6 (.int .i64 0)
  generalize hw' : (((w2.setCell ⟨s, 1, none⟩ vs').setCell ⟨s, 4, none⟩ (.bool false)).setCell ⟨s, 5, none⟩ (.bool false)).setCell ⟨s, 6, none⟩ (.int .i64 0) = w' at *
  have hz : w2.heap.size = w'.heap.size := by rw [← hw']; simp
  have hsl := hR.lt s hR.ps
  refine ⟨fun x => P x ∨ (wr.heap.size = x ∧ mo ≠ none), ⟨vs', .map mo, .slice none 0 0, u, ?_⟩, ((hk.andNone k2).trans k4 (fun x hx => .inl (by subst hx; exact h.ps))), fun x hx => by
    rcases hx with hx | hx
    · exact .inl hx
    · exact .inr (by have := hk.size; omega)⟩
  have hnew : ∀ b, mo = some b → wr.heap.size < w2.heap.size := fun b e => by
    rcases hv with ⟨e1, _⟩ | ⟨b', _, _, hm⟩
    · rw [e] at e1; cases e1
    · exact hm.lt
  exact {
    lt := fun x hx => by
      rcases hx with hx | ⟨hx, hm⟩
      · have := h.lt x hx; have := k2.size; omega
      · cases mo with
        | none => exact absurd rfl hm
        | some b => have := hnew b rfl; omega
    ps := .inl h.ps
    blk := hb
    seen := by
      rcases hv with ⟨e1, e2, e3⟩ | ⟨b, e1, e2, hm⟩
      · refine .inl ⟨e2, ?_⟩
        rcases h.safe with ⟨_, h2⟩ | ⟨b, h1, _⟩
        · exact h2
        · rw [e1] at h1; cases h1
      · exact .inr ⟨_, e2, hm.kp k4 (hm.blk hR.blk)⟩
    safe := by
      rcases hR.safe with ⟨h1, h2⟩ | ⟨b, h1, h2⟩
      · exact .inl ⟨h1, h2⟩
      · exact .inr ⟨b, h1, h2.kp k4 (h2.blk hR.blk)⟩
    unmade := fun e => by
      obtain ⟨e1, e2⟩ := h.unmade e
      rcases hv with ⟨_, e3, _⟩ | ⟨b, e3, _⟩
      · exact ⟨e3, e2⟩
      · rw [e3] at e2; cases e2
    mades := fun e => by
      obtain ⟨a, b, h1, h2, h3, h4, h5⟩ := h.mades e
      rcases hv with ⟨e1, _⟩ | ⟨b', e1, e2, hm⟩
      · rw [e1] at h2; cases h2
      · have : b = b' := by rw [e1] at h2; cases h2; rfl
        refine ⟨wr.heap.size, b, e2, h2, ?_, .inr ⟨rfl, by rw [e1]; simp⟩, .inl h5⟩
        have := h.lt b h5
        omega
    chg := by show Row _ _ _ _ q.chg.length _; rw [hq]; exact Row.nil _ _ _
    pc := by simp [Value.ownBlock]
    file := fun b f hf => by
      obtain ⟨h1, h2, h3⟩ := hR.file b f hf
      exact ⟨.inl h1, h2.kp k4 (h2.blk.ne hR.blk (by decide)) (fun x hx e => h2.own.row.ne hR.blk (by decide) (by rw [hx, e])), fun x hx => .inl (h3 x hx)⟩
    sep := h.sep
    inv := hi }


end Go.Proofs.YtkpibphalhhkdaaGreatDoor.Sim
end

section
/-
  A pack that is written, record by record, on a disk that may go down; the writer's other calls.
-/
namespace Go.Proofs.YtkpibphalhhkdaaGreatDoor
open Go.RowKit Go.Shelf
open Tlv (BySlS Agree)
open Sim (hid Kp No PS Done Blk nm finds pBytes pRemove OwnB Beg)

theorem sizeW_any (w : World) (g s b : Nat) (i sz ct : Int) (cl : Bool) (h : WrAt w g s b i sz ct cl) : Calls Tryz.prog 65 #[.pointer (some ⟨g, 0, none⟩)] w fun e w' => e = .returned (.int .i64 sz) ∧ w' = w := by
  have c3 : w.cell? ⟨g, 3, none⟩ = some (.int .i64 sz) := h.cell 3
  clear h
  go_enter Tryz.func65, Tryz.ntmps65
  go_wp2
  go_ret
  exact ⟨rfl, rfl⟩
theorem sealW_early (w : World) (g s b : Nat) (i sz : Int) (h : WrAt w g s b i sz 0 false) : Calls Tryz.prog 41 #[.pointer (some ⟨g, 0, none⟩)] w fun e w' => e = .returned (.int .i64 16) ∧ w' = w := by
  have c4 : w.cell? ⟨g, 4, none⟩ = some (.int .i64 0) := h.cell 4
  have HW := hid (wrongW_any w g s b i sz 0 false h)
  clear h
  go_enter Tryz.func41, Tryz.ntmps41
  go_wp2_with (go_at_call 66; refine HW.out.mono ?_; rintro e w1 ⟨rfl, h⟩; subst w1)
  go_ret
  exact ⟨rfl, rfl⟩
theorem sealW_closed (w : World) (g s b : Nat) (i sz ct : Int) (h : WrAt w g s b i sz ct true) : Calls Tryz.prog 41 #[.pointer (some ⟨g, 0, none⟩)] w fun e w' => e = .returned (.int .i64 13) ∧ w' = w := by
  have HW := hid (wrongW_any w g s b i sz ct true h)
  clear h
  go_enter Tryz.func41, Tryz.ntmps41
  go_wp2_with (go_at_call 66; refine HW.out.mono ?_; rintro e w1 ⟨rfl, h⟩; subst w1)
  go_ret
  exact ⟨rfl, rfl⟩

def goodB (y : El) : Bool := rightB y.1.1 y.1.2.2.length
theorem good_right {y : El} (h : goodB y = true) (ho : elOk y) (hb : ∀ x ∈ y.1.2.2, 0 ≤ x ∧ x ≤ 255) : Rt y.1 := by
  simp [goodB, rightB] at h
  exact ⟨by omega, by omega, by omega, ho.1, ho.2, hb⟩
theorem n3T : Sim.nameB (nm (nameT 3)) = true := by
  have e : nameT 3 = ⟨#[116, 109, 112, 46, 51]⟩ := by decide +kernel
  rw [e]; decide
theorem n3P : Sim.nameB (nm (nameP 3)) = true := by
  have e : nameP 3 = ⟨#[112, 97, 99, 107, 46, 51]⟩ := by decide +kernel
  rw [e]; decide

/-- A pack that is being written: its records, on a disk that may be down; blocks of K are none of its. -/
structure PR (s b g x : Nat) (ar : Bool) (N : Nat) (K : Nat → Prop) (w wr : World) (rs : List Rec) : Prop where
  rt : ∀ r ∈ rs, Rt r
  size : (cat rs).length ≤ 12000
  wrt : WrAt wr g s b 3 ((cat rs).length : Nat) (rs.length : Nat) false
  tab : TabX wr b
  sys : ∃ P p d, Sim.Sys P N wr s p ∧ Beg (nm (nameT 3)) 99000 x ar d (nats (cat rs)) p ∧ ¬ P b ∧ ¬ P g ∧ (∀ y, P y → w.heap.size ≤ y) ∧ ∀ q, K q → ¬ P q
  keep : ∀ q, K q → q ≠ b ∧ q ≠ g ∧ q < wr.heap.size
  below : Below w.heap.size w wr
  gb : g ≠ b
  gB : w.heap.size ≤ g
  bB : w.heap.size ≤ b

section
variable {s b g x N : Nat} {ar : Bool} {K K' : Nat → Prop} {w wr V : World} {rs : List Rec}
theorem PR.kp {L : Nat → Prop} (h : PR s b g x ar N K w wr rs) (k : Kp L wr V) (hL : ∀ y, L y → K y ∧ w.heap.size ≤ y) : PR s b g x ar N K w V rs := by
  obtain ⟨P, p, d, h1, h2, h3, h4, h5, h6⟩ := h.sys
  have ng : ¬ L g := fun e => (h.keep g (hL g e).1).2.1 rfl
  have nb : ¬ L b := fun e => (h.keep b (hL b e).1).1 rfl
  exact ⟨h.rt, h.size, h.wrt.kp k ng, h.tab.kp k nb, ⟨P, p, d, h1.kp k (fun y hy => h6 y (hL y hy).1), h2, h3, h4, h5, h6⟩, fun q hq => ⟨(h.keep q hq).1, (h.keep q hq).2.1, Nat.lt_of_lt_of_le (h.keep q hq).2.2 k.size⟩,
    Kp.under h.below k (fun y hy => (hL y hy).2) h.below.size, h.gb, h.gB, h.bB⟩
theorem PR.on (h : PR s b g x ar N K w wr rs) (k : Below wr.heap.size wr V) : PR s b g x ar N K w V rs := h.kp (L := No) (Kp.below k) (fun _ hy => hy.elim)
/-- Other blocks are to be kept: those of before, or new ones. -/
theorem PR.re (h : PR s b g x ar N K w wr rs) (hK : ∀ q, K' q → (K q ∧ q < wr.heap.size) ∨ (∀ P p, Sim.Sys P N wr s p → ¬ P q) ∧ q ≠ b ∧ q ≠ g ∧ q < wr.heap.size) : PR s b g x ar N K' w wr rs := by
  obtain ⟨P, p, d, h1, h2, h3, h4, h5, h6⟩ := h.sys
  refine ⟨h.rt, h.size, h.wrt, h.tab, ⟨P, p, d, h1, h2, h3, h4, h5, fun q hq => ?_⟩, fun q hq => ?_, h.below, h.gb, h.gB, h.bB⟩
  · rcases hK q hq with e | e
    · exact h6 q e.1
    · exact e.1 P p h1
  · rcases hK q hq with e | e
    · exact h.keep q e.1
    · exact e.2
/-- A row of the caller's grows: its block stays, or is new. -/
theorem PR.grown {v v' : Value} (h : PR s b g x ar N (fun q => v.ownBlock = some q) w wr rs) (hg : wr.grownBy V v.ownBlock) (hv : v'.ownBlock = v.ownBlock ∨ v'.ownBlock = some wr.heap.size) (hs : ∀ q, v'.ownBlock = some q → q < V.heap.size) (hB : ∀ q, v.ownBlock = some q → w.heap.size ≤ q) :
    PR s b g x ar N (fun q => v'.ownBlock = some q) w V rs := by
  have hk : Kp (fun q => v.ownBlock = some q) wr V := Kp.ofGrown hg
  obtain ⟨P, p, d, h1, h2, h3, h4, h5, h6⟩ := h.sys
  have hw := h.wrt.lt
  have ht := h.tab.lt
  have h' := h.kp hk (fun y hy => ⟨hy, hB y hy⟩)
  refine ⟨h'.rt, h'.size, h'.wrt, h'.tab, ⟨P, p, d, h1.kp hk (fun y hy => h6 y hy), h2, h3, h4, h5, fun q hq => ?_⟩, fun q hq => ?_, h'.below, h.gb, h.gB, h.bB⟩
  · rcases hv with e | e
    · exact h6 q (by rw [← e]; exact hq)
    · intro hp
      have := h1.lt q hp
      have hq' : v'.ownBlock = some q := hq
      rw [e] at hq'
      have := Option.some.inj hq'
      omega
  · rcases hv with e | e
    · exact h'.keep q (by show v.ownBlock = some q; rw [← e]; exact hq)
    · have hq' : v'.ownBlock = some q := hq
      have hq2 := hq'
      rw [e] at hq2
      have e2 := Option.some.inj hq2
      exact ⟨by omega, by omega, hs q hq'⟩

theorem PR.add (h : PR s b g x ar N K w wr rs) (hN : N + 1 ≤ 1000) (hn : rs.length ≤ 1000) (y : El) (hy : elOk y) (hb : Tlv.BySl 0 w.heap.size w (elV y) y.1.2.2) (hV : Below wr.heap.size wr V) :
    Calls Tryz.prog 64 #[.pointer (some ⟨g, 0, none⟩), .agg (elC y).toArray] V fun e w' =>
      ((∃ f : Int, f ≠ 0 ∧ e = .returned (.tuple #[.int .i64 0, .int .i64 f]) ∧ PR s b g x ar (N + 1) K w w' rs) ∨
       (goodB y = true ∧ e = .returned (.tuple #[.int .i64 ((cat rs).length : Nat), .int .i64 0]) ∧ PR s b g x ar (N + 1) K w w' (rs ++ [y.1]))) ∧ Kp (fun q => ¬ K q) wr w' := by
  have h' := h.on hV
  obtain ⟨P, p, d, h1, h2, h3, h4, h5, h6⟩ := h'.sys
  have hbb : ∀ z ∈ y.1.2.2, 0 ≤ z ∧ z ≤ 255 := by obtain ⟨_, _, _, _, _, _, _, h, _⟩ := hb; exact h
  have hpx : (putX y.1.1 y.1.2.1 y.1.2.2).length ≤ 12000 := by
    unfold putX
    cases hr : rightB y.1.1 y.1.2.2.length with
    | false => simp
    | true =>
      have hR := good_right (y := y) hr hy hbb
      have e := frameR_length hR
      have := hR.2.2.1
      simp only [if_true]
      omega
  have hadd := addW_any (P := P) (N := N) V g s b 3 (cat rs).length rs.length p y.1.1 y.1.2.1 y.1.2.2 (elV y) (by omega) (by omega) h'.wrt h1 hN h'.tab h3 h4 h.gb
    (hb.agree (Agree.below h'.below) (Nat.le_refl _) h'.below.size) hy.1 hy.2 hpx h.size (by omega)
  refine hadd.mono ?_
  rintro e w' ⟨rfl, hW, hT, P', hS, hK, hP'⟩
  have hKV : Kp (fun q => ¬ K q) wr w' := (Kp.below hV).trans hK (fun z hz => by
    left
    intro hk
    rcases hz with hz | hz | hz
    · exact h6 z hk hz
    · exact (h.keep z hk).1 hz
    · exact (h.keep z hk).2.1 hz)
  have hbel : Below w.heap.size w w' := Kp.under h'.below hK (fun z hz => by
    rcases hz with hz | hz | hz
    · exact h5 z hz
    · rw [hz]; exact h.bB
    · rw [hz]; exact h.gB) h'.below.size
  have hng : ¬ P' g := fun e => by
    rcases hP' g e with e | e
    · exact h4 e
    · have := h'.wrt.lt; omega
  have hnb : ¬ P' b := fun e => by
    rcases hP' b e with e | e
    · exact h3 e
    · have := h'.tab.lt; omega
  have hlow : ∀ z, P' z → w.heap.size ≤ z := fun z hz => by
    rcases hP' z hz with e | e
    · exact h5 z e
    · have := h'.below.size; omega
  have hkk : ∀ q, K q → ¬ P' q := fun q hq e => by
    rcases hP' q e with e | e
    · exact h6 q hq e
    · have := (h'.keep q hq).2.2; omega
  have hkp : ∀ q, K q → q ≠ b ∧ q ≠ g ∧ q < w'.heap.size := fun q hq => ⟨(h.keep q hq).1, (h.keep q hq).2.1, Nat.lt_of_lt_of_le (h'.keep q hq).2.2 hK.size⟩
  rcases beg_add h2 n3T (cat rs).length rs.length (putX y.1.1 y.1.2.1 y.1.2.2) (rightB y.1.1 y.1.2.2.length) (nats_length _) (by omega) with ⟨f, d', q, hf, he, hq⟩ | ⟨hR, hl, q, he, hq⟩
  · rw [he] at hW hS ⊢
    exact ⟨.inl ⟨f, hf, rfl, h.rt, h.size, hW, hT, ⟨P', q, d', hS, hq, hnb, hng, hlow, hkk⟩, hkp, hbel, h.gb, h.gB, h.bB⟩, hKV⟩
  · rw [he] at hW hS ⊢
    have hRt := good_right (y := y) hR hy hbb
    have hpe : putX y.1.1 y.1.2.1 y.1.2.2 = frOf y.1 := by rw [putX, hR]; rfl
    rw [hpe] at hl hW hq
    refine ⟨.inr ⟨hR, rfl, fun r hr => ?_, ?_, ?_, hT, ⟨P', q, false, hS, ?_, hnb, hng, hlow, hkk⟩, hkp, hbel, h.gb, h.gB, h.bB⟩, hKV⟩
    · rcases List.mem_append.1 hr with hr | hr
      · exact h.rt r hr
      · rw [List.mem_singleton.1 hr]; exact hRt
    · rw [cat_snoc, List.length_append]; exact hl
    · rw [cat_snoc, List.length_append, List.length_append]; exact hW
    · rw [cat_snoc, nats_append]; exact hq
end
end Go.Proofs.YtkpibphalhhkdaaGreatDoor
end

section
/-
  The names of any id.
-/
namespace Go.Proofs.YtkpibphalhhkdaaGreatDoor
open Go.RowKit Go.Shelf
open Sim (hid)

/-- A name of that sort, of any id. -/
def nameZ (p : ByteArray) (z : Int) : ByteArray := if idB z then p ++ ⟨(Lib.itoa z).toArray⟩ else ⟨#[]⟩

set_option maxHeartbeats 1000000 in
theorem name_any (p : ByteArray) (hp : p.size ≤ 100) (z : Int) (w : World) (htab : Lib.TabIs Tryz.prog w "internal/strconv.uint64pow10" .u64 Lib.pow10Tab) :
    Calls Tryz.prog 52 #[.string p, .int .i64 z] w fun e w' => e = .returned (.string (nameZ p z)) ∧ Below w.heap.size w w' := by
  cases hid1 : idB z with
  | false =>
    go_enter Tryz.func52, Tryz.ntmps52
    go_wp2_with (go_at_call 49; refine (isID_any _ _).mono ?_; rintro e w1 ⟨rfl, h⟩; subst w1; rw [hid1])
    go_ret
    exact ⟨by rw [nameZ, hid1]; rfl, Below.refl _ _⟩
  | true =>
    have hz : 1 ≤ z ∧ z ≤ 999999 := by simpa [idB] using hid1
    have HI : Hid (Calls Tryz.prog 75 #[.int .i64 z] w fun e w' => e = .returned (.string ⟨(Lib.itoa z).toArray⟩) ∧ Below w.heap.size w w') := by
      refine (Any.strconv_Itoa Sim.Tryz.itoa z (by omega) (by omega) w htab).mono ?_
      rintro e w' ⟨rfl, k, os, rfl⟩
      exact ⟨rfl, Lib.below_grow _ _ (Nat.le_refl _) _ _⟩
    have hl := Lib.itoa_length_le z (by omega) (by omega)
    have hsz : ¬ 9223372036854775807 < p.size + (Lib.itoa z).length := by omega
    go_enter Tryz.func52, Tryz.ntmps52
    go_wp2_with (first
      | (go_at_call 49; refine (isID_any _ _).mono ?_; rintro e w1 ⟨rfl, h⟩; subst w1; rw [hid1])
      | (go_at_call 75; refine HI.out.mono ?_; rintro e w2 ⟨rfl, h⟩; have HG := Sim.hid h; clear h))
    go_ret
    exact ⟨by rw [nameZ, hid1]; rfl, HG.out⟩

theorem pname_any (z : Int) (w : World) (htab : Lib.TabIs Tryz.prog w "internal/strconv.uint64pow10" .u64 Lib.pow10Tab) : Calls Tryz.prog 32 #[.int .i64 z] w fun e w' => e = .returned (.string (nameZ ⟨#[112, 97, 99, 107, 46]⟩ z)) ∧ Below w.heap.size w w' := by
  have HN := hid (name_any ⟨#[112, 97, 99, 107, 46]⟩ (by decide) z w htab)
  go_enter Tryz.func32, Tryz.ntmps32
  go_wp2_with (go_at_call 52; refine HN.out.mono ?_; rintro e w1 ⟨rfl, h⟩; have HB := hid h; clear h)
  go_ret
  exact ⟨rfl, HB.out⟩
theorem ptemp_any (z : Int) (w : World) (htab : Lib.TabIs Tryz.prog w "internal/strconv.uint64pow10" .u64 Lib.pow10Tab) : Calls Tryz.prog 42 #[.int .i64 z] w fun e w' => e = .returned (.string (nameZ ⟨#[116, 109, 112, 46]⟩ z)) ∧ Below w.heap.size w w' := by
  have HN := hid (name_any ⟨#[116, 109, 112, 46]⟩ (by decide) z w htab)
  go_enter Tryz.func42, Tryz.ntmps42
  go_wp2_with (go_at_call 52; refine HN.out.mono ?_; rintro e w1 ⟨rfl, h⟩; have HB := hid h; clear h)
  go_ret
  exact ⟨rfl, HB.out⟩
end Go.Proofs.YtkpibphalhhkdaaGreatDoor
end
