/- Of the proof: the texts PkManyM, PkGet, FrBackM, TlvRefTake, CrcRefOpen, FrRTake, FrRScan, FrTurned, FrBackR, SimUp, SimUp2, PkRun, PkNames, PkIdM, PkId, PkPick, ShNil, ShOpen, ShWalk0, IxRebuild0, SgNil, SgAlive, SgGetM, SgEntry, SgEntries, SgGet, SgTurnM, SgSame, SgWhere, SgBack, SgBackM, IxOpen0, one behind the other. -/
import Derived.Test.YthmimipoooemjaaGreatDoorB14
import Derived.Test.YthmimipoooemjaaGreatDoorB6
import Derived.Test.YthmimipoooemjaaGreatDoorB4
import Derived.Test.YthmimipoooemjaaGreatDoorB3
import Derived.Lib.ItoaLen
import Derived.Lib.AppendIntMem
import Derived.Lib.AtoiAll
import Derived.Test.YthmimipoooemjaaGreatDoorB1
import Derived.RangeFuncBox
import Derived.Test.YthmimipoooemjaaGreatDoorB13
import Derived.Test.YthmimipoooemjaaGreatDoorB5
import Derived.Test.YthmimipoooemjaaGreatDoorB11
import Derived.Deep.DeepCutAuto
section
/-
  Plain mathematics of a pack with many records: one file that is appended to, synced and moved, on a disk that goes down at any step; and what is there once it is up again.
-/
namespace Go.Proofs.YthmimipoooemjaaGreatDoor.Sim

/-- One file x, whatever is seen of it. -/
def one (d ar : Bool) (lf st : Nat) (sn : Dir) (cg : List PC) (sa : Dir) (r x : Nat) (f : Fl) : PS := ⟨r, true, sn, sa, cg, d, ar, lf, st, fun y => if y = x then some f else none⟩
theorem one_setF (d ar : Bool) (lf st : Nat) (sn : Dir) (cg : List PC) (sa : Dir) (r x : Nat) (f g : Fl) : setF x g (one d ar lf st sn cg sa r x f) = one d ar lf st sn cg sa r x g := by
  simp only [setF, one, PS.mk.injEq, true_and]
  funext y
  by_cases h : y = x <;> simp [h]
theorem one_fileAt (d ar : Bool) (lf st : Nat) (sn : Dir) (cg : List PC) (sa : Dir) (r x : Nat) (f : Fl) : fileAt (one d ar lf st sn cg sa r x f) x = f := by simp [fileAt, one]
theorem one_tick (d ar : Bool) (lf st : Nat) (sn : Dir) (cg : List PC) (sa : Dir) (r x : Nat) (f : Fl) : tick (one d ar lf st sn cg sa r x f) = one d ar (if ar then lf - 1 else lf) (st + 1) sn cg sa r x f := rfl
theorem one_fall (d ar : Bool) (lf st : Nat) (sn : Dir) (cg : List PC) (sa : Dir) (r x : Nat) (f : Fl) : fall (one d ar lf st sn cg sa r x f) = one true ar lf st sn cg sa r x f := rfl
theorem one_dead (d ar : Bool) (lf st : Nat) (sn : Dir) (cg : List PC) (sa : Dir) (r x : Nat) (f : Fl) : dead (one d ar lf st sn cg sa r x f) = (ar && lf == 0) := rfl

section
variable {t n : Nm} {r x : Nat} {ar d : Bool} {ys bs : List Nat} {p : PS}

def start (r : Nat) (ar : Bool) (lf : Nat) : PS := { startPS r with armed := ar, left := lf }
/-- The pack is begun: the file is seen under its temporary name. -/
def Beg (t : Nm) (r x : Nat) (ar d : Bool) (ys : List Nat) (p : PS) : Prop := (d = true → ar = true) ∧ ∃ lf st, p = one d ar lf st [(t, x)] [⟨0, t, [], x⟩] [] r x ⟨ys, 0⟩

theorem Beg.down (h : Beg t r x ar d ys p) : p.down = d := by obtain ⟨_, _, _, rfl⟩ := h; rfl
theorem Beg.finds (h : Beg t r x ar d ys p) (ht : nameB t = true) : finds p t = if d then 12 else 0 := by
  obtain ⟨_, lf, st, rfl⟩ := h
  cases d <;> simp [Sim.finds, wrongs, one, ht, dfind]
theorem Beg.block (h : Beg t r x ar d ys p) : blockOf p t = x := by obtain ⟨_, lf, st, rfl⟩ := h; simp [blockOf, one, dfind]
theorem Beg.file (h : Beg t r x ar d ys p) : fileAt p x = ⟨ys, 0⟩ := by obtain ⟨_, lf, st, rfl⟩ := h; exact one_fileAt ..
theorem Beg.used (h : Beg t r x ar d ys p) : used p = ys.length := by
  have hf := h.file
  obtain ⟨_, lf, st, rfl⟩ := h
  show (([(t, x)] : Dir).map fun e => (fileAt (one d ar lf st [(t, x)] [⟨0, t, [], x⟩] [] r x ⟨ys, 0⟩) e.2).b.length).sum = _
  simp [hf]
theorem Beg.room (h : Beg t r x ar d ys p) : p.room = r := by obtain ⟨_, lf, st, rfl⟩ := h; rfl
theorem Beg.append (h : Beg t r x ar d ys p) (ht : nameB t = true) (hl : ys.length + bs.length ≤ r) :
    ((pAppend t bs p).1 = 12 ∧ ar = true ∧ Beg t r x ar true ys (pAppend t bs p).2) ∨ ((pAppend t bs p).1 = 0 ∧ d = false ∧ Beg t r x ar false (ys ++ bs) (pAppend t bs p).2) := by
  cases d with
  | true =>
    have e : pAppend t bs p = (12, p) := by rw [pAppend, h.finds ht]; simp
    rw [e]
    exact .inl ⟨rfl, h.1 rfl, h⟩
  | false =>
    have e : pAppend t bs p = stp p (setF x ⟨ys ++ bs, 0⟩) := by
      rw [pAppend, h.finds ht, if_neg (by simp), h.used, h.room, if_neg (by omega), h.block, h.file]
    rw [e, stp]
    obtain ⟨_, lf, st, rfl⟩ := h
    rw [one_dead, one_fall, one_tick, one_setF]
    cases hd : (ar && lf == 0) with
    | true =>
      rw [if_pos rfl]
      have ha : ar = true := by simp at hd; exact hd.1
      exact .inl ⟨rfl, ha, fun _ => ha, lf, st, rfl⟩
    | false =>
      rw [if_neg (by simp)]
      exact .inr ⟨rfl, rfl, by simp, _, _, rfl⟩

/-- How far a sealing came: 0: nothing of it is safe; 1: the bytes are; 2: they are moved; 3: that is safe. -/
def SealR (t n : Nm) (r x : Nat) (ys : List Nat) (k : Nat) (p : PS) : Prop :=
  ∃ d ar lf st, (k = 0 ∧ p = one d ar lf st [(t, x)] [⟨0, t, [], x⟩] [] r x ⟨ys, 0⟩) ∨ (k = 1 ∧ p = one d ar lf st [(t, x)] [⟨0, t, [], x⟩] [] r x ⟨ys, ys.length⟩) ∨
    (k = 2 ∧ p = one d ar lf st [(n, x)] [⟨0, t, [], x⟩, ⟨2, t, n, 0⟩] [] r x ⟨ys, ys.length⟩) ∨ (k = 3 ∧ p = one d ar lf st [(n, x)] [] [(n, x)] r x ⟨ys, ys.length⟩)
/-- What there is once it is up again: 0: nothing; 1: the temporary name; 2: the pack, whole. -/
def UpR (t n : Nm) (x : Nat) (ys : List Nat) (c : Nat) (p : PS) : Prop :=
  p.down = false ∧ p.armed = false ∧ p.chg = [] ∧ ((c = 0 ∧ p.seen = []) ∨ (c = 1 ∧ p.seen = [(t, x)]) ∨ (c = 2 ∧ p.seen = [(n, x)] ∧ (fileAt p x).b = ys))
theorem lose_whole (k : Int) : (lose k ⟨ys, ys.length⟩).b = ys := by simp [lose]
theorem loses_chg (cuts : List Int) : ∀ (l : Dir) (i : Nat) (q : PS), (loses l i cuts q).chg = q.chg
  | [], _, _ => rfl
  | _ :: l, i, q => by rw [loses, loses_chg cuts l]; rfl
theorem SealR.up {k : Nat} (h : SealR t n r x ys k p) (z : Int) (cuts : List Int) : ∃ c, UpR t n x ys c (pUp z cuts p) ∧ (k = 3 → c = 2) ∧ (k < 2 → c < 2) := by
  obtain ⟨d, ar, lf, st, h⟩ := h
  rcases h with ⟨rfl, rfl⟩ | ⟨rfl, rfl⟩ | ⟨rfl, rfl⟩ | ⟨rfl, rfl⟩
  · obtain ⟨m, hm, hm1⟩ : ∃ m, min (max z 0).toNat 1 = m ∧ m ≤ 1 := ⟨_, rfl, by omega⟩
    have e : pUp z cuts (one d ar lf st [(t, x)] [⟨0, t, [], x⟩] [] r x ⟨ys, 0⟩) = (let q := settle m (one d ar lf st [(t, x)] [⟨0, t, [], x⟩] [] r x ⟨ys, 0⟩); let r := loses q.safe 0 cuts q; { r with seen := r.safe, down := false, armed := false, left := 0 }) := by rw [← hm]; rfl
    rw [e]
    have : m = 0 ∨ m = 1 := by omega
    rcases this with rfl | rfl
    · exact ⟨0, ⟨rfl, rfl, loses_chg _ _ _ _, .inl ⟨rfl, rfl⟩⟩, by omega, by omega⟩
    · refine ⟨1, ⟨rfl, rfl, loses_chg _ _ _ _, .inr (.inl ⟨rfl, ?_⟩)⟩, by omega, by omega⟩
      simp [settle, one, pdo, dput, ddel, dins, loses, setF]
  · obtain ⟨m, hm, hm1⟩ : ∃ m, min (max z 0).toNat 1 = m ∧ m ≤ 1 := ⟨_, rfl, by omega⟩
    have e : pUp z cuts (one d ar lf st [(t, x)] [⟨0, t, [], x⟩] [] r x ⟨ys, ys.length⟩) = (let q := settle m (one d ar lf st [(t, x)] [⟨0, t, [], x⟩] [] r x ⟨ys, ys.length⟩); let r := loses q.safe 0 cuts q; { r with seen := r.safe, down := false, armed := false, left := 0 }) := by rw [← hm]; rfl
    rw [e]
    have : m = 0 ∨ m = 1 := by omega
    rcases this with rfl | rfl
    · exact ⟨0, ⟨rfl, rfl, loses_chg _ _ _ _, .inl ⟨rfl, rfl⟩⟩, by omega, by omega⟩
    · refine ⟨1, ⟨rfl, rfl, loses_chg _ _ _ _, .inr (.inl ⟨rfl, ?_⟩)⟩, by omega, by omega⟩
      simp [settle, one, pdo, dput, ddel, dins, loses, setF]
  · obtain ⟨m, hm, hm1⟩ : ∃ m, min (max z 0).toNat 2 = m ∧ m ≤ 2 := ⟨_, rfl, by omega⟩
    have e : pUp z cuts (one d ar lf st [(n, x)] [⟨0, t, [], x⟩, ⟨2, t, n, 0⟩] [] r x ⟨ys, ys.length⟩) = (let q := settle m (one d ar lf st [(n, x)] [⟨0, t, [], x⟩, ⟨2, t, n, 0⟩] [] r x ⟨ys, ys.length⟩); let r := loses q.safe 0 cuts q; { r with seen := r.safe, down := false, armed := false, left := 0 }) := by rw [← hm]; rfl
    rw [e]
    have : m = 0 ∨ m = 1 ∨ m = 2 := by omega
    rcases this with rfl | rfl | rfl
    · exact ⟨0, ⟨rfl, rfl, loses_chg _ _ _ _, .inl ⟨rfl, rfl⟩⟩, by omega, by omega⟩
    · refine ⟨1, ⟨rfl, rfl, loses_chg _ _ _ _, .inr (.inl ⟨rfl, ?_⟩)⟩, by omega, by omega⟩
      simp [settle, one, pdo, dput, ddel, dins, loses, setF]
    · refine ⟨2, ⟨rfl, rfl, loses_chg _ _ _ _, .inr (.inr ⟨rfl, ?_, ?_⟩)⟩, by omega, by omega⟩
      · simp [settle, one, pdo, dput, ddel, dins, dfind, loses, setF]
      · simp [settle, one, pdo, dput, ddel, dins, dfind, loses, setF, fileAt, lose_whole]
  · have e : pUp z cuts (one d ar lf st [(n, x)] [] [(n, x)] r x ⟨ys, ys.length⟩) = (let q := settle 0 (one d ar lf st [(n, x)] [] [(n, x)] r x ⟨ys, ys.length⟩); let r := loses q.safe 0 cuts q; { r with seen := r.safe, down := false, armed := false, left := 0 }) := by
      have h0 : min (max z 0).toNat (one d ar lf st [(n, x)] [] [(n, x)] r x ⟨ys, ys.length⟩).chg.length = 0 := Nat.min_zero _
      rw [pUp, h0]
    rw [e]
    refine ⟨2, ⟨rfl, rfl, loses_chg _ _ _ _, .inr (.inr ⟨rfl, ?_, ?_⟩)⟩, by omega, by omega⟩
    · simp [settle, one, loses, setF]
    · simp [settle, one, loses, setF, fileAt, lose_whole]

variable {c : Nat}
end
end Go.Proofs.YthmimipoooemjaaGreatDoor.Sim
namespace Go.Proofs.YthmimipoooemjaaGreatDoor
open Sim (Beg SealR nm nameB PS)

section
variable {i r x : Nat} {ar d : Bool} {ys : List Nat} {p : PS}
/-- A record more, or a fault. -/
theorem beg_add (h : Beg (nm (nameT i)) r x ar d ys p) (ht : nameB (nm (nameT i)) = true) (sz ct : Nat) (X : List Int) (R : Bool) (hl : ys.length = sz) (hr : 12000 ≤ r) :
    (∃ (f : Int) (d' : Bool) (q : PS), f ≠ 0 ∧ addF i sz ct X R p = (0, f, q, sz, ct) ∧ Beg (nm (nameT i)) r x ar d' ys q) ∨
    (R = true ∧ sz + X.length ≤ 12000 ∧ ∃ q, addF i sz ct X R p = ((sz : Int), 0, q, sz + X.length, ct + 1) ∧ Beg (nm (nameT i)) r x ar false (ys ++ nats X) q) := by
  cases R with
  | false => exact .inl ⟨1, d, p, by omega, by simp [addF], h⟩
  | true =>
    by_cases h12 : 12000 < sz + X.length
    · exact .inl ⟨2, d, p, by omega, by simp [addF, h12], h⟩
    · rcases h.append (bs := nats X) ht (by rw [nats_length]; omega) with ⟨h1, _, h2⟩ | ⟨h1, _, h2⟩
      · refine .inl ⟨12, true, _, by omega, ?_, h2⟩
        rw [addF, if_neg (by simp), if_neg h12, h1, if_neg (by omega)]
        rfl
      · refine .inr ⟨rfl, by omega, _, ?_, h2⟩
        rw [addF, if_neg (by simp), if_neg h12, h1, if_pos rfl]
end
end Go.Proofs.YthmimipoooemjaaGreatDoor
end

section
/-
  A record of a pack is got.
-/
namespace Go.Proofs.YthmimipoooemjaaGreatDoor
open Go.RowKit Go.Shelf
open Tlv (BySlS)
open Sim (hid Kp No PS Done Blk nm finds pBytes OwnB)
end Go.Proofs.YthmimipoooemjaaGreatDoor
end

section
/-
  Plain mathematics: frames laid one behind the other, and cut off anywhere, are scanned to those that are whole.
-/
namespace Go.Proofs.YthmimipoooemjaaGreatDoor

abbrev Rec : Type := Int × List Int × List Int
def frOf (r : Rec) : List Int := frameR r.1 r.2.1 r.2.2
def Rt (r : Rec) : Prop := RightR r.1 r.2.1 r.2.2
/-- Frames, one behind the other. -/
def cat : List Rec → List Int
  | [] => []
  | r :: rs => frOf r ++ cat rs
theorem cat_snoc (r : Rec) : ∀ rs : List Rec, cat (rs ++ [r]) = cat rs ++ frOf r
  | [] => by simp [cat]
  | x :: rs => by rw [List.cons_append, cat, cat, cat_snoc r rs, List.append_assoc]
/-- How many are whole in the first c bytes. -/
def cnt : List Rec → Nat → Nat
  | [], _ => 0
  | r :: rs, c => if (frOf r).length ≤ c then cnt rs (c - (frOf r).length) + 1 else 0
end Go.Proofs.YthmimipoooemjaaGreatDoor
end

section
/-
  What the reference's Take and Get answer.
-/
namespace Go.Proofs.YthmimipoooemjaaGreatDoor.Tlv
open Go.RowKit
attribute [local go_sem ↓] Go.wp_at_zero Go.wp_at_succ

theorem AgreeS.of {S : Nat → Prop} {L B : Nat} {w w' : World} (h : Agree L B w w') (hS : ∀ b, S b → L ≤ b ∧ b < B) : AgreeS S w w' := fun b hb => h b (hS b hb).1 (hS b hb).2

end Go.Proofs.YthmimipoooemjaaGreatDoor.Tlv
end

section
/-
  What the reference's Open does.
-/
namespace Go.Proofs.YthmimipoooemjaaGreatDoor.Crc
open Go.RowKit

end Go.Proofs.YthmimipoooemjaaGreatDoor.Crc
end

section
/-
  The document's Take.
-/
namespace Go.Proofs.YthmimipoooemjaaGreatDoor
open Go.RowKit Go.Shelf
open Tlv (Tr BySlS AgreeS Agree)
open Crc (hid Kept Tab)
theorem recA_set (k : Int) (nm : List Int) (v : Value) (j : Nat) (y : Int) (hj : j < nm.length) : recA k (nm.set j y) v = (recA k nm v).set (1 + j) (.int .u8 y) := by
  rw [recA, recA, Nat.add_comm 1 j, List.set_cons_succ, List.set_append_left _ _ (by rw [u8s_length]; exact hj)]
  simp [u8s, List.map_set]

theorem Half.put {w W : World} {k : Int} {nm : List Int} {v : Value} {g : Nat} (h : Half w W k nm v g) (hn : nm.length = 32) (j : Nat) (hj : j < 32) (y : Int) : Half w (W.setCell ⟨g, 1 + j, none⟩ (.int .u8 y)) k (nm.set j y) v g := by
  obtain ⟨h1, h2, h3, h4, h5⟩ := h
  have e : W.setCells g (1 + j) [.int .u8 y] = W.setCell ⟨g, 1 + j, none⟩ (.int .u8 y) := rfl
  refine ⟨h1.setCell (p := ⟨g, 1 + j, none⟩) h2 _, h2, by simpa using h3, fun i u hi => ?_, by rw [← e]; exact World.there_setCells h5 _ _ _⟩
  rw [recA_set _ _ _ _ _ (by omega), List.getElem?_set] at hi
  rw [Nat.zero_add]
  by_cases hq : 1 + j = i
  · subst hq
    rw [if_pos rfl, if_pos (by rw [recA_length _ _ _ hn]; omega)] at hi
    obtain ⟨u', hs⟩ := Option.isSome_iff_exists.1 (h5 (1 + j) (by omega)).1
    rw [Nat.zero_add] at hs
    rw [World.cell?_setCell_same _ _ _ hs]
    exact hi
  · rw [if_neg hq] at hi
    rw [World.cell?_setCell_other _ _ _ _ (by simp only [ne_eq, Addr.mk.injEq, and_true, true_and]; omega)]
    have := h4 i u hi
    rwa [Nat.zero_add] at this

end Go.Proofs.YthmimipoooemjaaGreatDoor
end

section
/-
  The document's Scan.
-/
namespace Go.Proofs.YthmimipoooemjaaGreatDoor
open Go.RowKit Go.Shelf
open Tlv (Tr BySlS AgreeS Agree)
open Crc (hid Kept Tab)

theorem wpList_val {P : Program} {ops : Array Oper} {rest : List Oper} {o : Oper} {a : Act} {Q : Exit → Act → World → Prop} {w w' : World} {v : Value} (hgd : o.guard = none) (hr : (execOp a.eval o).run P w = .ok (.value v) w') (h : wpList P ops Q rest (a.put o.dst v) w') : wpList P ops Q (o :: rest) a w :=
  wpList_plain hgd fun _ hK => by unfold Oper.wp; rw [hr]; exact hK _ _ h

end Go.Proofs.YthmimipoooemjaaGreatDoor
end

section
/-
  FrameTurned, walked: a frame of which bits within 32 are turned, behind its first three bytes, is none.
-/
namespace Go.Proofs.YthmimipoooemjaaGreatDoor
open Go.RowKit
open Tlv (Tr BySlS AgreeS Agree)
open Crc (hid Kept Tab turn)
/-- The row at g holds xs in wr; all else is as it was. -/
def Held (g : Nat) (W wr : World) (xs : List Nat) : Prop :=
  Kept g W wr ∧ wr.heap.size = W.heap.size ∧ (∀ j, j < xs.length → wr.cell? ⟨g, j, none⟩ = some (.int .u8 (xs.getD j 0 : Nat))) ∧ ∀ j, wr.frozen? ⟨g, j, none⟩ = false

theorem Held.set {g : Nat} {W wr : World} {xs : List Nat} (h : Held g W wr xs) (j x : Nat) (hj : j < xs.length) : Held g W (wr.setCell ⟨g, j, none⟩ (.int .u8 (x : Nat))) (xs.set j x) := by
  obtain ⟨h1, h2, h3, h4⟩ := h
  refine ⟨h1.setCell rfl _, by simpa using h2, fun i hi => ?_, fun i => by simpa using h4 i⟩
  simp only [List.length_set] at hi
  by_cases e : j = i
  · subst e
    rw [World.cell?_setCell_same _ _ _ (h3 j hj)]
    simp [hj]
  · rw [World.cell?_setCell_other _ _ _ _ (by simp only [ne_eq, Addr.mk.injEq, true_and, and_true]; omega), h3 i hi]
    simp [e]

end Go.Proofs.YthmimipoooemjaaGreatDoor
end

section
/-
  Three rows that a call builds side by side: bytes, ends, records.
-/
namespace Go.Proofs.YthmimipoooemjaaGreatDoor
open Go.RowKit Go.Shelf
open Tlv (Tr BySlS AgreeS Agree)
open Crc (hid Kept Tab)

/-- One of the list: a record, and where its body lies. -/
abbrev El : Type := Rec × Option Addr × Nat
def elV (z : El) : Value := .slice z.2.1 z.1.2.2.length z.2.2
def elC (z : El) : List Value := recA z.1.1 z.1.2.1 (elV z)
def elOk (z : El) : Prop := z.1.2.1.length = 32 ∧ ∀ y ∈ z.1.2.1, 0 ≤ y ∧ y ≤ 255
def recsC : List El → List Value
  | [] => []
  | z :: zs => elC z ++ recsC zs
def nums (l : List Nat) : List Value := l.map fun (n : Nat) => Value.int .i64 (n : Int)

/-- The three rows, in blocks from B on, each in one of its own; all else from w1 on is as it was, the table's block b left out. -/
structure R3 (B b : Nat) (w1 wr : World) (va ve vw : Value) (xa : List Int) (xe : List Nat) (zs : List El) : Prop where
  kept : Kept b w1 wr
  tab : TabX wr b
  all : wr.ownsRow B 5 1 va xa.length (u8s xa)
  ends : wr.ownsRow B 3 1 ve xe.length (nums xe)
  want : wr.ownsRow B 68 34 vw zs.length (recsC zs)
  ae : ∀ q, va.ownBlock = some q → ve.ownBlock ≠ some q
  aw : ∀ q, va.ownBlock = some q → vw.ownBlock ≠ some q
  ew : ∀ q, ve.ownBlock = some q → vw.ownBlock ≠ some q

theorem R3.start {b : Nat} {w1 : World} (h : TabX w1 b) : R3 w1.heap.size b w1 w1 (.slice none 0 0) (.slice none 0 0) (.slice none 0 0) [] [] [] :=
  ⟨Kept.refl _ _, h, World.ownsRow_nil _ _ _ _, World.ownsRow_nil _ _ _ _, World.ownsRow_nil _ _ _ _, fun _ h => (by cases h), fun _ h => (by cases h), fun _ h => (by cases h)⟩

theorem ownsRow_of_kept {ty : TypeId} {base b n k : Nat} {w w' : World} {v : Value} {cs : List Value} (h : w.ownsRow base ty k v n cs) (hk : Kept b w w') (hb : b < base) : w'.ownsRow base ty k v n cs := by
  refine ⟨h.1, ?_⟩
  rcases h.2 with h2 | ⟨g, cap, cur, hv, hg, hh, r⟩
  · exact Or.inl h2
  · exact Or.inr ⟨g, cap, cur, hv, hg, (hk.block g (Array.getElem?_eq_some_iff.1 hh).1 (by omega)).trans hh, r⟩

section
variable {B b : Nat} {w1 wr W : World} {va ve vw : Value} {xa : List Int} {xe : List Nat} {zs : List El}

theorem R3.on (h : R3 B b w1 wr va ve vw xa xe zs) (hk : Kept b wr W) (ht : TabX W b) (hb : b < B) : R3 B b w1 W va ve vw xa xe zs :=
  ⟨h.kept.trans hk, ht, ownsRow_of_kept h.all hk hb, ownsRow_of_kept h.ends hk hb, ownsRow_of_kept h.want hk hb, h.ae, h.aw, h.ew⟩
theorem R3.below (h : R3 B b w1 wr va ve vw xa xe zs) (hk : Below wr.heap.size wr W) (hb : b < B) : R3 B b w1 W va ve vw xa xe zs := h.on (Kept.below hk) (h.tab.below hk) hb

end
end Go.Proofs.YthmimipoooemjaaGreatDoor
end

section
/-
  lose, Up.
-/
namespace Go.Proofs.YthmimipoooemjaaGreatDoor.Sim
open Go.RowKit Go.Maps
/-- A row's front. -/
theorem OwnB.front {w : World} {a : Option Addr} {n0 cap : Nat} {bs : List Nat} (h : OwnB w (.slice a n0 cap) bs) (j : Nat) (hj : j ≤ bs.length) : OwnB w (.slice a j cap) (bs.take j) := by
  have hl : (bs.take j).length = j := List.length_take_of_le hj
  have hcl : cl (bs.take j) = (cl bs).take j := by simp [cl, List.map_take]
  rcases h.row.2 with ⟨e, e2⟩ | ⟨g, cap', cur, e, hb, hh, h1, h2, h3, h4⟩
  · cases e
    have : bs = [] := List.length_eq_zero_iff.1 e2
    subst this
    have : j = 0 := by simpa using hj
    subst this
    exact OwnB.nil _
  · cases e
    refine ⟨by rw [cl_length]; omega, .inr ⟨g, cap, cur, by rw [hl], hb, hh, by omega, h2, h3, ?_⟩⟩
    rw [hcl, ← h4, List.take_take, hl]
    congr 1
    omega

/-! ### Up -/
/-- A slice of numbers that is read. -/
def IntsAt (Q : Nat → Prop) (w : World) (v : Value) (zs : List Int) : Prop :=
  ∃ a cap, v = .slice a zs.length cap ∧ zs.length ≤ cap ∧ cap ≤ maxLen ∧ zs.length ≤ 1000 ∧ (zs ≠ [] → ∃ g o, a = some ⟨g, o, none⟩ ∧ Q g ∧ g < w.heap.size ∧ ∀ i, i < zs.length → w.cell? ⟨g, o + i, none⟩ = some (.int .i64 (zs.getD i 0)))
theorem IntsAt.kp {Q L : Nat → Prop} {w w' : World} {v : Value} {zs : List Int} (h : IntsAt Q w v zs) (k : Kp L w w') (hL : ∀ x, L x → ¬ Q x) : IntsAt Q w' v zs := by
  obtain ⟨a, cap, h1, h2, h3, h4, h5⟩ := h
  refine ⟨a, cap, h1, h2, h3, h4, fun hne => ?_⟩
  obtain ⟨g, o, e, hq, hg, hc⟩ := h5 hne
  exact ⟨g, o, e, hq, Nat.lt_of_lt_of_le hg k.size, fun i hi => (k.cell (p := ⟨g, o + i, none⟩) hg (fun hl => hL g hl hq)).trans (hc i hi)⟩
theorem IntsAt.nil (Q : Nat → Prop) (w : World) : IntsAt Q w (.slice none 0 0) [] := ⟨none, 0, rfl, Nat.le_refl _, Nat.zero_le _, Nat.zero_le _, fun h => absurd rfl h⟩

end Go.Proofs.YthmimipoooemjaaGreatDoor.Sim
end

section
/-
  Up.
-/
namespace Go.Proofs.YthmimipoooemjaaGreatDoor.Sim
open Go.RowKit Go.Maps
end Go.Proofs.YthmimipoooemjaaGreatDoor.Sim
end

section
/-
  A pack that is written, record by record, on a disk that may go down; the writer's other calls.
-/
namespace Go.Proofs.YthmimipoooemjaaGreatDoor
open Go.RowKit Go.Shelf
open Tlv (BySlS Agree)
open Sim (hid Kp No PS Done Blk nm finds pBytes pRemove OwnB Beg)
def goodB (y : El) : Bool := rightB y.1.1 y.1.2.2.length
theorem good_right {y : El} (h : goodB y = true) (ho : elOk y) (hb : ∀ x ∈ y.1.2.2, 0 ≤ x ∧ x ≤ 255) : Rt y.1 := by
  simp [goodB, rightB] at h
  exact ⟨by omega, by omega, by omega, ho.1, ho.2, hb⟩
theorem n3T : Sim.nameB (nm (nameT 3)) = true := by
  have e : nameT 3 = ⟨#[116, 109, 112, 46, 51]⟩ := by decide +kernel
  rw [e]; decide
/-- A pack that is being written: its records, on a disk that may be down; blocks of K are none of its. -/
structure PR (s b g x : Nat) (ar : Bool) (N : Nat) (K : Nat → Prop) (w wr : World) (rs : List Rec) : Prop where
  rt : ∀ r ∈ rs, Rt r
  size : (cat rs).length ≤ 12000
  wrt : WrAt wr g s b 3 ((cat rs).length : Nat) (rs.length : Nat) false
  tab : TabX wr b
  sys : ∃ P p d, Sim.Sys P N wr s p ∧ Beg (nm (nameT 3)) 99000 x ar d (nats (cat rs)) p ∧ ¬ P b ∧ ¬ P g ∧ (∀ y, P y → w.heap.size ≤ y) ∧ ∀ q, K q → ¬ P q
  keep : ∀ q, K q → q ≠ b ∧ q ≠ g ∧ q < wr.heap.size
  below : Below w.heap.size w wr
  gb : g ≠ b
  gB : w.heap.size ≤ g
  bB : w.heap.size ≤ b

section
variable {s b g x N : Nat} {ar : Bool} {K K' : Nat → Prop} {w wr V : World} {rs : List Rec}
theorem PR.kp {L : Nat → Prop} (h : PR s b g x ar N K w wr rs) (k : Kp L wr V) (hL : ∀ y, L y → K y ∧ w.heap.size ≤ y) : PR s b g x ar N K w V rs := by
  obtain ⟨P, p, d, h1, h2, h3, h4, h5, h6⟩ := h.sys
  have ng : ¬ L g := fun e => (h.keep g (hL g e).1).2.1 rfl
  have nb : ¬ L b := fun e => (h.keep b (hL b e).1).1 rfl
  exact ⟨h.rt, h.size, h.wrt.kp k ng, h.tab.kp k nb, ⟨P, p, d, h1.kp k (fun y hy => h6 y (hL y hy).1), h2, h3, h4, h5, h6⟩, fun q hq => ⟨(h.keep q hq).1, (h.keep q hq).2.1, Nat.lt_of_lt_of_le (h.keep q hq).2.2 k.size⟩,
    Kp.under h.below k (fun y hy => (hL y hy).2) h.below.size, h.gb, h.gB, h.bB⟩
theorem PR.on (h : PR s b g x ar N K w wr rs) (k : Below wr.heap.size wr V) : PR s b g x ar N K w V rs := h.kp (L := No) (Kp.below k) (fun _ hy => hy.elim)
/-- A row of the caller's grows: its block stays, or is new. -/
theorem PR.grown {v v' : Value} (h : PR s b g x ar N (fun q => v.ownBlock = some q) w wr rs) (hg : wr.grownBy V v.ownBlock) (hv : v'.ownBlock = v.ownBlock ∨ v'.ownBlock = some wr.heap.size) (hs : ∀ q, v'.ownBlock = some q → q < V.heap.size) (hB : ∀ q, v.ownBlock = some q → w.heap.size ≤ q) :
    PR s b g x ar N (fun q => v'.ownBlock = some q) w V rs := by
  have hk : Kp (fun q => v.ownBlock = some q) wr V := Kp.ofGrown hg
  obtain ⟨P, p, d, h1, h2, h3, h4, h5, h6⟩ := h.sys
  have hw := h.wrt.lt
  have ht := h.tab.lt
  have h' := h.kp hk (fun y hy => ⟨hy, hB y hy⟩)
  refine ⟨h'.rt, h'.size, h'.wrt, h'.tab, ⟨P, p, d, h1.kp hk (fun y hy => h6 y hy), h2, h3, h4, h5, fun q hq => ?_⟩, fun q hq => ?_, h'.below, h.gb, h.gB, h.bB⟩
  · rcases hv with e | e
    · exact h6 q (by rw [← e]; exact hq)
    · intro hp
      have := h1.lt q hp
      have hq' : v'.ownBlock = some q := hq
      rw [e] at hq'
      have := Option.some.inj hq'
      omega
  · rcases hv with e | e
    · exact h'.keep q (by show v.ownBlock = some q; rw [← e]; exact hq)
    · have hq' : v'.ownBlock = some q := hq
      have hq2 := hq'
      rw [e] at hq2
      have e2 := Option.some.inj hq2
      exact ⟨by omega, by omega, hs q hq'⟩

theorem PR.add (h : PR s b g x ar N K w wr rs) (hN : N + 1 ≤ 1000) (hn : rs.length ≤ 1000) (y : El) (hy : elOk y) (hb : Tlv.BySl 0 w.heap.size w (elV y) y.1.2.2) (hV : Below wr.heap.size wr V) :
    Calls Tryz.prog 139 #[.pointer (some ⟨g, 0, none⟩), .agg (elC y).toArray] V fun e w' =>
      ((∃ f : Int, f ≠ 0 ∧ e = .returned (.tuple #[.int .i64 0, .int .i64 f]) ∧ PR s b g x ar (N + 1) K w w' rs) ∨
       (goodB y = true ∧ e = .returned (.tuple #[.int .i64 ((cat rs).length : Nat), .int .i64 0]) ∧ PR s b g x ar (N + 1) K w w' (rs ++ [y.1]))) ∧ Kp (fun q => ¬ K q) wr w' := by
  have h' := h.on hV
  obtain ⟨P, p, d, h1, h2, h3, h4, h5, h6⟩ := h'.sys
  have hbb : ∀ z ∈ y.1.2.2, 0 ≤ z ∧ z ≤ 255 := by obtain ⟨_, _, _, _, _, _, _, h, _⟩ := hb; exact h
  have hpx : (putX y.1.1 y.1.2.1 y.1.2.2).length ≤ 12000 := by
    unfold putX
    cases hr : rightB y.1.1 y.1.2.2.length with
    | false => simp
    | true =>
      have hR := good_right (y := y) hr hy hbb
      have e := frameR_length hR
      have := hR.2.2.1
      simp only [if_true]
      omega
  have hadd := addW_any (P := P) (N := N) V g s b 3 (cat rs).length rs.length p y.1.1 y.1.2.1 y.1.2.2 (elV y) (by omega) (by omega) h'.wrt h1 hN h'.tab h3 h4 h.gb
    (hb.agree (Agree.below h'.below) (Nat.le_refl _) h'.below.size) hy.1 hy.2 hpx h.size (by omega)
  refine hadd.mono ?_
  rintro e w' ⟨rfl, hW, hT, P', hS, hK, hP'⟩
  have hKV : Kp (fun q => ¬ K q) wr w' := (Kp.below hV).trans hK (fun z hz => by
    left
    intro hk
    rcases hz with hz | hz | hz
    · exact h6 z hk hz
    · exact (h.keep z hk).1 hz
    · exact (h.keep z hk).2.1 hz)
  have hbel : Below w.heap.size w w' := Kp.under h'.below hK (fun z hz => by
    rcases hz with hz | hz | hz
    · exact h5 z hz
    · rw [hz]; exact h.bB
    · rw [hz]; exact h.gB) h'.below.size
  have hng : ¬ P' g := fun e => by
    rcases hP' g e with e | e
    · exact h4 e
    · have := h'.wrt.lt; omega
  have hnb : ¬ P' b := fun e => by
    rcases hP' b e with e | e
    · exact h3 e
    · have := h'.tab.lt; omega
  have hlow : ∀ z, P' z → w.heap.size ≤ z := fun z hz => by
    rcases hP' z hz with e | e
    · exact h5 z e
    · have := h'.below.size; omega
  have hkk : ∀ q, K q → ¬ P' q := fun q hq e => by
    rcases hP' q e with e | e
    · exact h6 q hq e
    · have := (h'.keep q hq).2.2; omega
  have hkp : ∀ q, K q → q ≠ b ∧ q ≠ g ∧ q < w'.heap.size := fun q hq => ⟨(h.keep q hq).1, (h.keep q hq).2.1, Nat.lt_of_lt_of_le (h'.keep q hq).2.2 hK.size⟩
  rcases beg_add h2 n3T (cat rs).length rs.length (putX y.1.1 y.1.2.1 y.1.2.2) (rightB y.1.1 y.1.2.2.length) (nats_length _) (by omega) with ⟨f, d', q, hf, he, hq⟩ | ⟨hR, hl, q, he, hq⟩
  · rw [he] at hW hS ⊢
    exact ⟨.inl ⟨f, hf, rfl, h.rt, h.size, hW, hT, ⟨P', q, d', hS, hq, hnb, hng, hlow, hkk⟩, hkp, hbel, h.gb, h.gB, h.bB⟩, hKV⟩
  · rw [he] at hW hS ⊢
    have hRt := good_right (y := y) hR hy hbb
    have hpe : putX y.1.1 y.1.2.1 y.1.2.2 = frOf y.1 := by rw [putX, hR]; rfl
    rw [hpe] at hl hW hq
    refine ⟨.inr ⟨hR, rfl, fun r hr => ?_, ?_, ?_, hT, ⟨P', q, false, hS, ?_, hnb, hng, hlow, hkk⟩, hkp, hbel, h.gb, h.gB, h.bB⟩, hKV⟩
    · rcases List.mem_append.1 hr with hr | hr
      · exact h.rt r hr
      · rw [List.mem_singleton.1 hr]; exact hRt
    · rw [cat_snoc, List.length_append]; exact hl
    · rw [cat_snoc, List.length_append, List.length_append]; exact hW
    · rw [cat_snoc, nats_append]; exact hq
end
end Go.Proofs.YthmimipoooemjaaGreatDoor
end

section
/-
  The names of any id.
-/
namespace Go.Proofs.YthmimipoooemjaaGreatDoor
open Go.RowKit Go.Shelf
open Sim (hid)
end Go.Proofs.YthmimipoooemjaaGreatDoor
end

section
/-
  Digits, and what they tell.
-/
namespace Go.Proofs.YthmimipoooemjaaGreatDoor
open Go.RowKit Go.Shelf
open Sim (hid)
end Go.Proofs.YthmimipoooemjaaGreatDoor
end

section
/-
  The id of any name.
-/
namespace Go.Proofs.YthmimipoooemjaaGreatDoor
open Go.RowKit Go.Shelf
open Sim (hid)

/-- The variables of strconv that are read: a table, two errors. -/
structure Vars (w : World) : Prop where
  tab : Lib.TabIs Tryz.prog w "internal/strconv.uint64pow10" .u64 Lib.pow10Tab
  syn : ∃ tp p, w.var? Tryz.prog "strconv.ErrSyntax" = some #[.iface tp p]
  rng : ∃ tp p, w.var? Tryz.prog "strconv.ErrRange" = some #[.iface tp p]
theorem var_below {w w' : World} {n : String} {cs : Array Value} (k : Below w.heap.size w w') (h : w.var? Tryz.prog n = some cs) : w'.var? Tryz.prog n = some cs := by
  unfold World.var? at h ⊢
  cases hg : Tryz.prog.globalNamed n with
  | none => rw [hg] at h; cases h
  | some g =>
    rw [hg] at h
    simp only [Option.bind_some] at h ⊢
    have hlt : g < w.heap.size := by
      rcases Nat.lt_or_ge g w.heap.size with h' | h'
      · exact h'
      · rw [Array.getElem?_eq_none h'] at h; cases h
    rw [k.block g hlt]
    exact h
theorem Vars.below {w w' : World} (h : Vars w) (k : Below w.heap.size w w') : Vars w' := by
  obtain ⟨h1, ⟨t2, p2, h2⟩, ⟨t3, p3, h3⟩⟩ := h
  exact ⟨var_below k h1, ⟨t2, p2, var_below k h2⟩, ⟨t3, p3, var_below k h3⟩⟩

end Go.Proofs.YthmimipoooemjaaGreatDoor
end

section
/-
  What is picked of the names that are seen: temporary ones; and their cleaning.
-/
namespace Go.Proofs.YthmimipoooemjaaGreatDoor
open Go.RowKit Go.Shelf
open Sim (hid Kp No PS Done Blk nm finds pBytes pRemove pSyncDir pList Nm OwnN Row)

def tmpL : List UInt8 := [116, 109, 112, 46]
/-- Is it a temporary name? -/
def isTmp (n : Nm) : Bool := Lib.hasPrefix n tmpL

theorem own_any (n : Nm) (w : World) : Calls Tryz.prog 69 #[.string ⟨#[116, 109, 112, 46]⟩, .string ⟨n.toArray⟩] w fun e w' => ∃ t, e = .returned (.tuple #[.string t, .bool (isTmp n)]) ∧ (isTmp n = true → t = ⟨n.toArray⟩) ∧ w' = w := by
  have HP := hid (Any.strings_HasPrefix Sim.Tryz.hasP ⟨n.toArray⟩ ⟨#[116, 109, 112, 46]⟩ w)
  have e : Lib.hasPrefix (⟨n.toArray⟩ : ByteArray).data.toList (⟨#[116, 109, 112, 46]⟩ : ByteArray).data.toList = isTmp n := rfl
  rw [e] at HP
  clear e
  cases hb : isTmp n with
  | true =>
    rw [hb] at HP
    clear hb
    go_enter Tryz.func69, Tryz.ntmps69
    go_wp2_with (go_at_call 111; refine HP.out.mono ?_; rintro e w1 ⟨rfl, h⟩; subst w1)
    go_ret2
    exact ⟨_, rfl, fun _ => rfl, rfl⟩
  | false =>
    rw [hb] at HP
    clear hb
    go_enter Tryz.func69, Tryz.ntmps69
    go_wp2_with (go_at_call 111; refine HP.out.mono ?_; rintro e w1 ⟨rfl, h⟩; subst w1)
    go_ret2
    exact ⟨_, rfl, fun h => (by cases h), rfl⟩

theorem infoS : (Tryz.prog.info? 9).map (fun i => (i.zero, i.size, i.bytes)) = some (some (.string ⟨#[]⟩), 1, 16) := by kernel_rfl
theorem run_onestr (s : ByteArray) (w : World) : (Instr.buildSlice 70 1 #[(0, .string s)]).run Tryz.prog w = .ok (.slice (some ⟨w.heap.size, 0, none⟩) 1 1) (w.alloc (.cells #[.string s] 9)) := by kernel_rfl
theorem OwnN.cell {w : World} {g n cap : Nat} {ns : List Nm} (h : OwnN w (.slice (some ⟨g, 0, none⟩) n cap) ns) (hn : n = ns.length) (k : Nat) {x : Nm} (hk : ns[k]? = some x) : w.cell? ⟨g, k, none⟩ = some (.string ⟨x.toArray⟩) := by
  subst hn
  have hl := (List.getElem?_eq_some_iff.1 hk).1
  have h' : Row w 9 1 (.slice (some ⟨g, 0, none⟩) ns.length cap) ns.length (ns.map encStr) := h
  rw [h'.cellAt k (by omega), List.getElem?_map, hk]
  rfl
theorem OwnN.form {w : World} {v : Value} {ns : List Nm} (h : OwnN w v ns) : ∃ a c, v = .slice a ns.length c ∧ (ns ≠ [] → ∃ g, a = some ⟨g, 0, none⟩) := by
  have h' : Row w 9 1 v ns.length (ns.map encStr) := h
  obtain ⟨a, c, h1, _, _, h2, h3⟩ := h'.shape
  refine ⟨a, c, h1, fun hne => ?_⟩
  cases a with
  | none => exact absurd (List.length_eq_zero_iff.1 (h2 rfl).1) hne
  | some q =>
    obtain ⟨gq, oq, sq⟩ := q
    obtain ⟨h4, h5⟩ := h3 _ rfl
    simp only at h4 h5
    subst h4 h5
    exact ⟨gq, rfl⟩

set_option maxHeartbeats 2000000 in
set_option maxRecDepth 100000 in
theorem pickS_any {P : Nat → Prop} {N : Nat} (w : World) (s : Nat) (p : PS) (h : Sim.Sys P N w s p) :
    Calls Tryz.prog 68 #[.pointer (some ⟨s, 0, none⟩), .func (.func 69) #[.string ⟨#[116, 109, 112, 46]⟩] #[]] w fun e w' => ∃ u, e = .returned u ∧ OwnN w' u ((pList p).filter isTmp) ∧ (∀ x, u.ownBlock = some x → w.heap.size ≤ x) ∧ Kp No w w' := by
  have HL := hid (Sim.list_any w s p h)
  have hlen : (pList p).length ≤ 1000 := by
    have h1 := h.inv.lseen
    have h2 := h.inv.big
    unfold pList
    split
    · simp
    · rw [List.length_map]; omega
  obtain ⟨L, hL⟩ : ∃ L, pList p = L := ⟨_, rfl⟩
  rw [hL] at HL hlen ⊢
  clear hL h
  go_enter Tryz.func68, Tryz.ntmps68
  go_wp2_with fail
  refine HL.out.mono ?_
  rintro e w1 ⟨u, rfl, hu, hub, hk⟩
  obtain ⟨ua, uc, rfl, hform⟩ := OwnN.form hu
  have HU := hid (And.intro hu (And.intro hub (And.intro hk hform)))
  have HK1 := hid hk
  clear hu hub hk hform
  go_wp2_with fail
  go_loopw [5, 13] (fun v i wr => ∃ (k : Nat) (a : Option Addr) (m c : Nat), k ≤ L.length ∧ i = .int .i64 (k : Int) ∧ v = .slice a m c ∧ m ≤ k ∧ Hid (m = ((L.take k).filter isTmp).length ∧ OwnN wr (.slice a m c) ((L.take k).filter isTmp) ∧ (∀ x, (Value.slice a m c).ownBlock = some x → w1.heap.size ≤ x) ∧ Kp No w1 wr)) (fun _ i _ => L.length - (intOf i).toNat)
  case atStart => exact ⟨0, none, 0, 0, Nat.zero_le _, rfl, rfl, Nat.le_refl _, by simp, Row.nil _ _ _, (by intro x hx; cases hx), Kp.refl _ _⟩
  case round =>
    obtain ⟨k, a, m, c, hk, rfl, rfl, hmk, HS⟩ := hrel
    by_cases hlt : k < L.length
    · have hltI : (k : Int) < (L.length : Int) := by omega
      obtain ⟨n, hn⟩ : ∃ n, L[k]? = some n := ⟨_, List.getElem?_eq_getElem hlt⟩
      obtain ⟨hu, hub, hk1, hform⟩ := HU.out
      obtain ⟨gu, rfl⟩ := hform (by intro e; rw [e] at hlt; simp at hlt)
      obtain ⟨hm, hrow, hblk, hkr⟩ := HS.out
      have cu : wr.cell? ⟨gu, k, none⟩ = some (.string ⟨n.toArray⟩) := OwnN.cell (Row.kept hu hkr) rfl k hn
      have HOWN := hid (own_any n wr)
      have HN := hid hn
      have HX := hid (And.intro hm (And.intro hrow (And.intro hblk hkr)))
      clear hu hub hk1 hform hm hrow hblk hkr hn HS
      cases hb : isTmp n with
      | false =>
        rw [hb] at HOWN
        go_wp2_with fail
        refine HOWN.out.mono ?_
        rintro e w2 ⟨t, rfl, ht, hw2⟩
        rw [hw2]
        clear hw2 w2 ht HOWN
        have HF : Hid (m = ((L.take (k + 1)).filter isTmp).length ∧ OwnN wr (.slice a m c) ((L.take (k + 1)).filter isTmp) ∧ (∀ x, (Value.slice a m c).ownBlock = some x → w1.heap.size ≤ x) ∧ Kp No w1 wr) := by
          have e : (L.take (k + 1)).filter isTmp = (L.take k).filter isTmp := by rw [List.take_add_one, HN.out, List.filter_append]; simp [hb]
          rw [Hid, e]
          exact HX.out
        clear hb
        go_wp2_with fail
        go_round
        case rel => exact ⟨k + 1, a, m, c, by omega, by go_num, rfl, by omega, HF⟩
        case measure => simp [intOf]; omega
      | true =>
        rw [hb] at HOWN
        go_wp2_with fail
        refine HOWN.out.mono ?_
        rintro e w2 ⟨t, rfl, ht, hw2⟩
        rw [hw2, ht (by first | rfl | trivial)]
        clear hw2 w2 ht HOWN
        have hal : Kp No wr (wr.alloc (.cells #[.string ⟨n.toArray⟩] 9)) := (Kp.refl _ _).alloc _
        have HR5 : Hid (Row (wr.alloc (.cells #[.string ⟨n.toArray⟩] 9)) 9 1 (.slice a m c) m (((L.take k).filter isTmp).map encStr)) := by
          have h : Row wr 9 1 (.slice a m c) ((L.take k).filter isTmp).length (((L.take k).filter isTmp).map encStr) := HX.out.2.1
          rw [← HX.out.1] at h
          exact h.kept hal
        have HSRC : Hid (Sim.Src (wr.alloc (.cells #[.string ⟨n.toArray⟩] 9)) (.slice (some ⟨wr.heap.size, 0, none⟩) 1 1) 1 1 [.string ⟨n.toArray⟩]) := Sim.Src.one wr [.string ⟨n.toArray⟩] 1 9 rfl (by intro u hu; rw [List.mem_singleton.1 hu]; rfl)
        have HN1 := hid (fun V => run_onestr ⟨n.toArray⟩ V)
        have HAL := hid hal
        have HB := hid hb
        clear hal hb
        go_wp2_with (first
          | (refine wpList_val (by rfl) (exec_slice1 70 _ (by rfl) (.string ⟨n.toArray⟩) _ (by rfl) (HN1.out _)) ?_)
          | (refine Sim.app_row _ (by rfl) _ _ 70 9 (.string ⟨#[]⟩) 1 16 (by rfl) Tryz.underlying70 infoS rfl (by omega) (.slice a m c) (.slice (some ⟨wr.heap.size, 0, none⟩) 1 1) m 1 (((L.take k).filter isTmp).map encStr) [.string ⟨n.toArray⟩] (by rfl) (by rfl) HR5.out HSRC.out (by omega) (by omega) ?_; intro ad2 cap2 w6 hrow6 hgr6 hown6))
        have HF : Hid (m + 1 = ((L.take (k + 1)).filter isTmp).length ∧ OwnN w6 (.slice ad2 (m + 1) cap2) ((L.take (k + 1)).filter isTmp) ∧ (∀ x, (Value.slice ad2 (m + 1) cap2).ownBlock = some x → w1.heap.size ≤ x) ∧ Kp No w1 w6) := by
          obtain ⟨hm, hrow, hblk, hkr⟩ := HX.out
          have e : (L.take (k + 1)).filter isTmp = (L.take k).filter isTmp ++ [n] := by rw [List.take_add_one, HN.out, List.filter_append]; simp [HB.out]
          have hs := hkr.size
          rw [Hid, e, List.length_append, ← hm]
          refine ⟨rfl, ?_, fun x hx => ?_, ?_⟩
          · unfold OwnN
            rw [List.length_append, ← hm, List.map_append]
            exact hrow6
          · rcases hown6 with h | h
            · exact hblk x (by rw [← h]; exact hx)
            · rw [h] at hx
              have := Option.some.inj hx
              simp at this
              omega
          · exact (hkr.andNone HAL.out).grown hgr6 (fun x hx => .inr (hblk x hx))
        clear hrow6 hgr6 hown6 HX
        go_wp2_with fail
        go_round
        case rel => exact ⟨k + 1, _, m + 1, _, by omega, by go_num, rfl, by omega, HF⟩
        case measure => simp [intOf]; omega
    · have hltI : ¬ (k : Int) < (L.length : Int) := by omega
      have hkn : k = L.length := by omega
      subst hkn
      go_wp2_with fail
      go_ret
      obtain ⟨hm, hrow, hblk, hkr⟩ := HS.out
      rw [List.take_length] at hrow
      exact ⟨_, rfl, hrow, fun x hx => Nat.le_trans HK1.out.size (hblk x hx), HK1.out.andNone hkr⟩

theorem temps_any {P : Nat → Prop} {N : Nat} (w : World) (s : Nat) (p : PS) (h : Sim.Sys P N w s p) :
    Calls Tryz.prog 27 #[.pointer (some ⟨s, 0, none⟩)] w fun e w' => ∃ u, e = .returned u ∧ OwnN w' u ((pList p).filter isTmp) ∧ (∀ x, u.ownBlock = some x → w.heap.size ≤ x) ∧ Kp No w w' := by
  have HP := hid (pickS_any w s p h)
  clear h
  go_enter Tryz.func27, Tryz.ntmps27
  go_wp2_with (go_at_call 68; refine HP.out.mono ?_; rintro e w1 ⟨u, rfl, h1, h2, h3⟩; have H1 := hid (And.intro h1 (And.intro h2 h3)); clear h1 h2 h3)
  go_ret
  exact ⟨u, rfl, H1.out⟩

/-- What Clean does, name by name: how many are gone, the fault, the files. -/
def cleanF : List Nm → Nat → PS → Nat × Nat × PS
  | [], k, p => if k = 0 then (0, 0, p) else (k, (pSyncDir p).1, (pSyncDir p).2)
  | n :: r, k, p => if (pRemove n p).1 ≠ 0 then (k, (pRemove n p).1, (pRemove n p).2) else cleanF r (k + 1) (pRemove n p).2

set_option maxHeartbeats 2000000 in
set_option maxRecDepth 100000 in
theorem clean_any {P : Nat → Prop} {N : Nat} (w : World) (s : Nat) (p : PS) (h : Sim.Sys P N w s p) (hN : N + (pList p).length + 1 ≤ 1000) (hnl : ∀ n ∈ pList p, n.length ≤ 20000000) :
    Calls Tryz.prog 47 #[.pointer (some ⟨s, 0, none⟩)] w fun e w' => e = .returned (.tuple #[.int .i64 ((cleanF ((pList p).filter isTmp) 0 p).1 : Nat), .int .i64 ((cleanF ((pList p).filter isTmp) 0 p).2.1 : Nat)]) ∧ Done P (N + (pList p).length + 1) w w' s (cleanF ((pList p).filter isTmp) 0 p).2.2 := by
  have HT := hid (temps_any w s p h)
  obtain ⟨L, hL⟩ : ∃ L, (pList p).filter isTmp = L := ⟨_, rfl⟩
  have hLl : L.length ≤ (pList p).length := by rw [← hL]; exact List.length_filter_le _ _
  have hLn : ∀ n ∈ L, n.length ≤ 20000000 := fun n hn => hnl n (by rw [← hL] at hn; exact (List.mem_filter.1 hn).1)
  obtain ⟨M, hM⟩ : ∃ M, (pList p).length = M := ⟨_, rfl⟩
  rw [hL] at HT ⊢
  rw [hM] at hLl hN ⊢
  have HS := hid h
  have HLN := hid hLn
  clear hL hM h hnl hLn
  obtain ⟨R, hR⟩ : ∃ R, cleanF L 0 p = R := ⟨_, rfl⟩
  have HR := hid hR
  rw [hR]
  clear hR
  go_enter Tryz.func47, Tryz.ntmps47
  go_wp2_with fail
  refine HT.out.mono ?_
  rintro e w1 ⟨u, rfl, hu, hub, hk⟩
  obtain ⟨ua, uc, rfl, hform⟩ := OwnN.form hu
  have hlt := HS.out.lt
  have HU := hid (And.intro hu (And.intro hub hform))
  have HST : Hid (∃ P', Sim.Sys P' (N + 0) w1 s p ∧ Kp P w w1 ∧ (∀ x, P' x → P x ∨ w.heap.size ≤ x) ∧ OwnN w1 (.slice ua L.length uc) L ∧ ∀ x, (Value.slice ua L.length uc).ownBlock = some x → ¬ P' x ∧ w.heap.size ≤ x) :=
    ⟨P, HS.out.kept hk, hk.ofNo, fun x hx => .inl hx, hu, fun x hx => ⟨fun hp => by have := hlt x hp; have := hub x hx; omega, hub x hx⟩⟩
  clear hu hub hk hform hlt HT
  go_wp2_with fail
  go_loopw [4, 13] (fun v i wr => ∃ (k : Nat), k ≤ L.length ∧ i = .int .i64 (k : Int) ∧ v = .int .i64 (k : Int) ∧ Hid (∃ q P', R = cleanF (L.drop k) k q ∧ Sim.Sys P' (N + k) wr s q ∧ Kp P w wr ∧ (∀ x, P' x → P x ∨ w.heap.size ≤ x) ∧ OwnN wr (.slice ua L.length uc) L ∧ ∀ x, (Value.slice ua L.length uc).ownBlock = some x → ¬ P' x ∧ w.heap.size ≤ x)) (fun _ i _ => L.length - (intOf i).toNat)
  case atStart =>
    obtain ⟨P', h1, h2⟩ := HST.out
    exact ⟨0, Nat.zero_le _, rfl, rfl, p, P', HR.out.symm, h1, h2⟩
  case round =>
    obtain ⟨k, hk, rfl, rfl, HQ⟩ := hrel
    by_cases hlt : k < L.length
    · have hltI : (k : Int) < (L.length : Int) := by omega
      obtain ⟨n, hn⟩ : ∃ n, L[k]? = some n := ⟨_, List.getElem?_eq_getElem hlt⟩
      obtain ⟨gu, rfl⟩ := HU.out.2.2 (by intro e; rw [e] at hlt; simp at hlt)
      obtain ⟨q, P', hRq, hSq, hKq, hPq, hOq, hAq⟩ := HQ.out
      have cu : wr.cell? ⟨gu, k, none⟩ = some (.string ⟨n.toArray⟩) := OwnN.cell hOq rfl k hn
      have hdr : L.drop k = n :: L.drop (k + 1) := by
        rw [List.drop_eq_getElem_cons hlt]
        have := (List.getElem?_eq_some_iff.1 hn).2
        rw [this]
      rw [hdr, cleanF] at hRq
      have hsz : (⟨n.toArray⟩ : ByteArray).size ≤ 20000000 := by
        have := HLN.out n (List.mem_of_getElem? hn)
        have e : (⟨n.toArray⟩ : ByteArray).size = n.length := by rw [Lib.size_eq]
        omega
      have HRM := hid (Sim.remove_any wr s q ⟨n.toArray⟩ hsz hSq (by omega))
      have hnm : nm ⟨n.toArray⟩ = n := rfl
      rw [hnm] at HRM
      obtain ⟨A, hA⟩ : ∃ A, pRemove n q = A := ⟨_, rfl⟩
      rw [hA] at HRM hRq
      have HX := hid (And.intro hRq (And.intro hSq (And.intro hKq (And.intro hPq (And.intro hOq hAq)))))
      clear hRq hSq hKq hPq hOq hAq hA hsz hnm hdr hn HQ
      go_wp2_with fail
      refine HRM.out.mono ?_
      rintro e w2 ⟨rfl, P2, hS2, hK2, hP2⟩
      obtain ⟨hRq, hSq, hKq, hPq, hOq, hAq⟩ := HX.out
      have hKw : Kp P w w2 := hKq.trans hK2 (fun x hx => by
        rcases hPq x hx with e | e
        · exact .inl e
        · exact .inr e)
      have hPw : ∀ x, P2 x → P x ∨ w.heap.size ≤ x := fun x hx => by
        rcases hP2 x hx with e | e
        · exact hPq x e
        · right; have := hKq.size; omega
      have HX2 := hid (And.intro hS2 (And.intro hKw (And.intro hPw (And.intro (Row.kp hOq hK2 (fun x hx => (hAq x hx).1)) (fun x hx => (show ¬ P2 x ∧ w.heap.size ≤ x from ⟨fun hp => by
        rcases hP2 x hp with e | e
        · exact (hAq x hx).1 e
        · have := Row.lt hOq x hx; omega, (hAq x hx).2⟩))))))
      have HRQ := hid hRq
      clear hRq hSq hKq hPq hOq hAq hS2 hK2 hP2 hKw hPw HX HRM
      by_cases hA0 : A.1 = 0
      · have HA0 := hid hA0
        rw [hA0]
        have hwk : IntKind.i64.wrap ((k : Int) + 1) = ((k + 1 : Nat) : Int) := by rw [IntKind.wrap_i64]; omega
        clear hA0
        go_wp2_with fail
        go_round
        case rel =>
          obtain ⟨h1, h2, h3, h4, h5⟩ := HX2.out
          refine ⟨k + 1, by omega, by go_num, by go_num, A.2, P2, ?_, h1, h2, h3, h4, h5⟩
          rw [HRQ.out, if_neg (by rw [HA0.out]; simp)]
        case measure => simp [intOf]; omega
      · have hA1 : ¬ ((A.1 : Int) = 0) := by omega
        obtain ⟨f, hf⟩ : ∃ f, A.1 = f := ⟨_, rfl⟩
        have HF := hid hf
        rw [hf] at hA0 hA1 ⊢
        clear hf
        go_wp2_with fail
        go_ret2
        obtain ⟨h1, h2, h3, _, _⟩ := HX2.out
        have e : R = (k, A.1, A.2) := by rw [HRQ.out, if_pos (by rw [HF.out]; exact hA0)]
        rw [e]
        exact ⟨by rw [HF.out]; rfl, P2, h1.more (by omega) (by omega), h2, h3⟩
    · have hltI : ¬ (k : Int) < (L.length : Int) := by omega
      have hkn : k = L.length := by omega
      subst hkn
      obtain ⟨q, P', hRq, hSq, hKq, hPq, hOq, hAq⟩ := HQ.out
      rw [List.drop_length, cleanF] at hRq
      by_cases h0 : L.length = 0
      · rw [if_pos h0] at hRq
        have HX := hid (And.intro hRq (And.intro hSq (And.intro hKq hPq)))
        have h0I : ((L.length : Int) = 0) := by omega
        clear hRq hSq hKq hPq hOq hAq
        go_wp2_with fail
        go_ret2
        obtain ⟨e, h1, h2, h3⟩ := HX.out
        rw [e]
        exact ⟨rfl, P', h1.more (by omega) (by omega), h2, h3⟩
      · rw [if_neg h0] at hRq
        have h0I : ¬ ((L.length : Int) = 0) := by omega
        have HSY := hid (Sim.syncdir_any wr s q hSq (by omega))
        obtain ⟨A, hA⟩ : ∃ A, pSyncDir q = A := ⟨_, rfl⟩
        rw [hA] at HSY hRq
        have HX := hid (And.intro hRq (And.intro hKq hPq))
        clear hRq hSq hKq hPq hOq hAq hA
        go_wp2_with fail
        refine HSY.out.mono ?_
        rintro e w2 ⟨rfl, P2, hS2, hK2, hP2⟩
        have HD := hid (And.intro hS2 (And.intro hK2 hP2))
        clear hS2 hK2 hP2 HSY
        go_wp2_with fail
        go_ret2
        obtain ⟨e, h2, h3⟩ := HX.out
        obtain ⟨d1, d2, d3⟩ := HD.out
        rw [e]
        refine ⟨rfl, P2, d1.more (by omega) (by omega), h2.trans d2 (fun x hx => h3 x hx), fun x hx => ?_⟩
        rcases d3 x hx with e | e
        · exact h3 x e
        · right; have := h2.size; omega
end Go.Proofs.YthmimipoooemjaaGreatDoor
end

section
/-
  The shelf: what is said of what is not there.
-/
namespace Go.Proofs.YthmimipoooemjaaGreatDoor.Sh
open Go.RowKit
open Sim (hid Kp No)

theorem none_nil (w : World) : Calls Tryz.prog 48 #[.pointer none] w fun e w' => e = .returned (.bool true) ∧ w' = w := by
  go_enter Tryz.func48, Tryz.ntmps48
  go_wp2_with fail
  go_ret
  exact ⟨rfl, rfl⟩
theorem ids_nil (w : World) : Calls Tryz.prog 19 #[.pointer none] w fun e w' => e = .returned (.slice none 0 0) ∧ w' = w := by
  go_enter Tryz.func19, Tryz.ntmps19
  go_wp2_with fail
  refine (none_nil _).mono ?_
  rintro e w1 ⟨rfl, rfl⟩
  go_wp2_with fail
  go_ret
  exact ⟨rfl, rfl⟩
theorem load_nil (w : World) (id : Int) : Calls Tryz.prog 20 #[.pointer none, .int .i64 id] w fun e w' => e = .returned (.tuple #[.slice none 0 0, .int .i64 18]) ∧ w' = w := by
  go_enter Tryz.func20, Tryz.ntmps20
  go_wp2_with fail
  refine (none_nil _).mono ?_
  rintro e w1 ⟨rfl, rfl⟩
  go_wp2_with fail
  refine bodyPost_ret (v := .tuple #[.slice none 0 0, .int .i64 18]) (by simp [results, Tryz.results20, go_sem]) rfl ⟨rfl, rfl⟩
theorem open_nil (w : World) (t : Option Addr) : Calls Tryz.prog 11 #[.pointer none, .pointer t] w fun e w' => e = .returned (.tuple #[.pointer none, .int .i64 18]) ∧ w' = w := by
  go_enter Tryz.func11, Tryz.ntmps11
  go_wp2_with fail
  refine bodyPost_ret (v := .tuple #[.pointer none, .int .i64 18]) (by simp [results, Tryz.results11, go_sem]) rfl ⟨rfl, rfl⟩
end Go.Proofs.YthmimipoooemjaaGreatDoor.Sh
end

section
/-
  The shelf: Open, and what an empty one tells.
-/
namespace Go.Proofs.YthmimipoooemjaaGreatDoor.Sh
open Go.RowKit Go.Shelf
open Sim (hid Kp No PS Done Blk nm pList OwnN)

def shC (s b : Nat) (n : Int) : List Value := [.pointer (some ⟨s, 0, none⟩), .pointer (some ⟨b, 0, none⟩), .int .i64 n]
/-- A shelf at h, of the files at s, with the table at b; the greatest id that was begun is n. -/
def ShAt (w : World) (h s b : Nat) (n : Int) : Prop := Blk w h 112 (shC s b n)

theorem none_any (w : World) (h s b : Nat) (n : Int) (hH : ShAt w h s b n) : Calls Tryz.prog 48 #[.pointer (some ⟨h, 0, none⟩)] w fun e w' => e = .returned (.bool false) ∧ w' = w := by
  have c0 : w.cell? ⟨h, 0, none⟩ = some (.pointer (some ⟨s, 0, none⟩)) := hH.cell 0
  go_enter Tryz.func48, Tryz.ntmps48
  go_wp2_with fail
  go_ret
  exact ⟨rfl, rfl⟩

/-- What Open answers, and leaves: a fault, or a shelf at a new block. -/
def OpenP (P : Nat → Prop) (N : Nat) (w : World) (s b : Nat) (f : Nat) (q : PS) (e : Ending) (w' : World) : Prop :=
  (f ≠ 0 ∧ e = .returned (.tuple #[.pointer none, .int .i64 (f : Nat)]) ∧ Done P N w w' s q) ∨
  (f = 0 ∧ ∃ g P', e = .returned (.tuple #[.pointer (some ⟨g, 0, none⟩), .int .i64 0]) ∧ ShAt w' g s b 0 ∧ Sim.Sys P' N w' s q ∧ Kp P w w' ∧ (∀ x, P' x → P x ∨ w.heap.size ≤ x) ∧ ¬ P' g ∧ w.heap.size ≤ g)

theorem open_any {P : Nat → Prop} {N : Nat} (w : World) (s b : Nat) (p : PS) (h : Sim.Sys P N w s p) (hN : N + (pList p).length + 1 ≤ 1000) (hnl : ∀ n ∈ pList p, n.length ≤ 20000000) :
    Calls Tryz.prog 11 #[.pointer (some ⟨s, 0, none⟩), .pointer (some ⟨b, 0, none⟩)] w fun e w' => OpenP P (N + (pList p).length + 1) w s b (cleanF ((pList p).filter isTmp) 0 p).2.1 (cleanF ((pList p).filter isTmp) 0 p).2.2 e w' := by
  have HC := hid (clean_any w s p h hN hnl)
  obtain ⟨R, hR⟩ : ∃ R, cleanF ((pList p).filter isTmp) 0 p = R := ⟨_, rfl⟩
  rw [hR] at HC ⊢
  generalize N + (pList p).length + 1 = M at *
  clear hR h hN hnl
  go_enter Tryz.func11, Tryz.ntmps11
  go_wp2_with fail
  refine HC.out.mono ?_
  rintro e w1 ⟨rfl, hD⟩
  have HD := hid hD
  clear hD HC
  by_cases hz : R.2.1 = 0
  · have HZ := hid hz
    rw [hz]
    clear hz
    go_wp2_with fail
    obtain ⟨P', h1, h2, h3⟩ := HD.out
    refine bodyPost_ret (v := .tuple #[.pointer (some ⟨w1.heap.size, 0, none⟩), .int .i64 0]) (by simp [results, Tryz.results11, go_sem]) rfl ?_
    have hal : Kp No w1 (w1.alloc (.cells (shC s b 0).toArray 112)) := (Kp.refl _ _).alloc _
    exact .inr ⟨HZ.out, w1.heap.size, P', rfl, Blk.new w1 _ _, h1.kept hal, h2.andNone hal, h3, fun e => by have := h1.lt _ e; omega, h2.size⟩
  · have HZ := hid hz
    obtain ⟨F, hF⟩ : ∃ F, R.2.1 = F := ⟨_, rfl⟩
    have HF := hid hF
    rw [hF] at hz ⊢
    have hz' : ¬ ((F : Int) = 0) := by omega
    clear hF
    go_wp2_with fail
    refine bodyPost_ret (v := .tuple #[.pointer none, .int .i64 (F : Nat)]) (by simp [results, Tryz.results11, go_sem]) rfl ?_
    exact .inl ⟨HZ.out, by rw [HF.out], HD.out⟩

/-- No pack is seen where nothing is. -/
theorem pids_none {P : Nat → Prop} {N : Nat} (w : World) (s : Nat) (p : PS) (h : Sim.Sys P N w s p) (he : pList p = []) :
    Calls Tryz.prog 57 #[.pointer (some ⟨s, 0, none⟩)] w fun e w' => e = .returned (.slice none 0 0) ∧ Kp No w w' := by
  have HP : Hid (∀ f : Value, Calls Tryz.prog 96 #[.pointer (some ⟨s, 0, none⟩), f] w fun e w' => e = .returned (.slice none 0 0) ∧ Kp No w w') := fun f => by
    have HL := hid (Sim.list_any w s p h)
    rw [he] at HL
    clear h he
    go_enter Tryz.func96, Tryz.ntmps96
    go_wp2_with fail
    refine HL.out.mono ?_
    rintro e w1 ⟨u, rfl, hu, _, hk⟩
    obtain ⟨ua, uc, rfl, _⟩ := OwnN.form hu
    have HK := hid hk
    clear hu hk
    have e0 : ([] : List Sim.Nm).length = 0 := rfl
    rw [e0]
    go_wp2_with fail
    go_loop [5, 13] (fun l i => l = .slice none 0 0 ∧ i = .int .i64 0) (fun _ _ => 0)
    case atStart => exact ⟨rfl, rfl⟩
    case round =>
      obtain ⟨rfl, rfl⟩ := hrel
      go_wp2
      go_ret
      exact ⟨rfl, HK.out⟩
  have hs : Hid (∀ V, Calls Tryz.prog 98 #[.slice none 0 0] V fun e w' => e = .returned (.tuple #[]) ∧ w' = V) := fun V => Any.slices_Sort_int_none Sim.Tryz.sortI none 0 V
  clear h he
  go_enter Tryz.func57, Tryz.ntmps57
  go_wp2_with (first
    | (go_at_call 96; refine (HP.out _).mono ?_; rintro e w1 ⟨rfl, h⟩; have HK := hid h; clear h)
    | (go_at_call 98; refine (hs.out _).mono ?_; rintro e w2 ⟨rfl, h⟩; subst w2))
  go_ret
  exact ⟨rfl, HK.out⟩

theorem ids_none {P : Nat → Prop} {N : Nat} (w : World) (h s b : Nat) (n : Int) (p : PS) (hH : ShAt w h s b n) (hS : Sim.Sys P N w s p) (he : pList p = []) :
    Calls Tryz.prog 19 #[.pointer (some ⟨h, 0, none⟩)] w fun e w' => e = .returned (.slice none 0 0) ∧ Kp No w w' := by
  have c0 : w.cell? ⟨h, 0, none⟩ = some (.pointer (some ⟨s, 0, none⟩)) := hH.cell 0
  have HN := hid (none_any w h s b n hH)
  have HI := hid (pids_none w s p hS he)
  clear hH hS he
  go_enter Tryz.func19, Tryz.ntmps19
  go_wp2_with fail
  refine HN.out.mono ?_
  rintro e w1 ⟨rfl, rfl⟩
  go_wp2_with fail
  refine HI.out.mono ?_
  rintro e w2 ⟨rfl, hk⟩
  have HK := hid hk
  clear hk
  go_wp2_with fail
  go_ret
  exact ⟨rfl, HK.out⟩

end Go.Proofs.YthmimipoooemjaaGreatDoor.Sh
end

section
/-
  A walk through no pack.
-/
namespace Go.Proofs.YthmimipoooemjaaGreatDoor.Sh
open Go.RowKit Go.Shelf
open Crc (Kept)
open Sim (hid Kp No PS Done Blk nm pList OwnN)
attribute [local go_sem] Oper.semAt_some

theorem records_any (w : World) (a : Option Addr) (n c : Nat) (fn : Fn) (first caps : Array Value) :
    Calls Tryz.prog 56 #[.slice a n c, .func fn first caps] w fun e w' => e = .returned (.func (.func 95) #[] #[.pointer (some ⟨w.heap.size, 0, none⟩), .pointer (some ⟨w.heap.size + 1, 0, none⟩)]) ∧
      w' = (w.alloc (.cells #[.slice a n c] 23)).alloc (.cells #[.func fn first caps] 49) := by
  have hmf : ∀ (fn : Fn) (first cap : Array Value) (w : World), (Instr.makeFunc fn first cap).run Tryz.prog w = .ok (.func fn first cap) w := fun _ _ _ _ => rfl
  go_enter Tryz.func56, Tryz.ntmps56
  go_wp2
  go_ret
  exact ⟨rfl, rfl⟩

set_option maxHeartbeats 1000000 in
set_option maxRecDepth 100000 in
theorem tells0 (n p q b : Nat) (V : Nat → Nat → Array Value → World → Prop) :
    Tells n 95 #[.pointer (some ⟨p, 0, none⟩), .pointer (some ⟨q, 0, none⟩)] b (fun W => W.cell? ⟨p, 0, none⟩ = some (.slice none 0 0)) V 0 := by
  intro l J Jx W hT hJ hY h0
  have H0 := hid h0
  have HT := hid hT
  clear hJ hY h0
  refine callsIn_of_wp Tryz.func95 rfl trivial ?_ rfl
  simp only [Tryz.ntmps95, List.size_toArray, List.length_cons, List.length_nil, Nat.reduceAdd, Nat.reduceSub, Array.replicate_succ, Array.replicate_zero, List.push_toArray, List.append_toArray, List.nil_append, List.cons_append]
  gi_wp2_with fail
  gi_loopw [12] (fun i wr => i = .int .i64 0 ∧ wr = W) (fun _ _ => 0)
  case atStart => exact ⟨rfl, rfl⟩
  case round =>
    obtain ⟨rfl, rfl⟩ := hrel
    gi_wp2
    go_end0
    exact ⟨⟨_, rfl⟩, .inl ⟨_, H0.out, HT.out⟩⟩

set_option maxHeartbeats 2000000 in
set_option maxRecDepth 100000 in
theorem walk0 (w : World) (h : Option Addr) (m : Int) (hm : 1 ≤ m) (hI : ∀ V, Kp No w V → Calls Tryz.prog 19 #[.pointer h] V fun e w' => e = .returned (.slice none 0 0) ∧ Kp No V w') :
    Calls Tryz.prog 18 #[.pointer h, .int .i64 m] w fun e w' => e = .returned (.tuple #[.slice none 0 0, .slice none 0 0]) ∧ Kp No w w' := by
  have hm1 : ¬ (m < 1) := by omega
  have HI := hid hI
  have hmf : ∀ (fn : Fn) (first cap : Array Value) (w : World), (Instr.makeFunc fn first cap).run Tryz.prog w = .ok (.func fn first cap) w := fun _ _ _ _ => rfl
  clear hI hm
  refine (callsIn_wide (n := 3)).1 ?_
  refine callsIn_of_wp_marks Tryz.func18 rfl trivial ?_ rfl
  simp only [Tryz.ntmps18, List.size_toArray, List.length_cons, List.length_nil, Nat.reduceAdd, Nat.reduceSub, Array.replicate_succ, Array.replicate_zero, List.push_toArray, List.append_toArray, List.nil_append, List.cons_append]
  gi_wp2_with fail
  obtain ⟨W1, hW1⟩ : ∃ W1, ((w.alloc (.cells #[.int .i64 m] 3)).alloc (.cells #[.slice none 0 0] 43)).alloc (.cells #[.slice none 0 0] 23) = W1 := ⟨_, rfl⟩
  have k1 : Kp No w W1 := by rw [← hW1]; exact (((Kp.refl _ w).alloc _).alloc _).alloc _
  have hsz1 : W1.heap.size = w.heap.size + 3 := by rw [← hW1]; simp
  have b1 : Boxed W1 (w.heap.size + 1) 43 (.slice none 0 0) := by
    rw [← hW1]
    have h := (Boxed.new (w.alloc (.cells #[.int .i64 m] 3)) 43 (.slice none 0 0)).alloc (.cells #[.slice none 0 0] 23)
    simpa only [World.size_alloc] using h
  have b2 : Boxed W1 (w.heap.size + 2) 23 (.slice none 0 0) := by
    rw [← hW1]
    have h := Boxed.new ((w.alloc (.cells #[.int .i64 m] 3)).alloc (.cells #[.slice none 0 0] 43)) 23 (.slice none 0 0)
    simpa only [World.size_alloc] using h
  rw [hW1]
  refine ⟨trivial, (callsIn_wide.2 (HI.out W1 k1)).mono ?_⟩
  clear hW1 HI
  rintro e W2 ⟨rfl, k2⟩
  have b1' : Boxed W2 (w.heap.size + 1) 43 (.slice none 0 0) := (k2.block _ (by omega) (fun h => h)).trans b1
  have b2' : Boxed W2 (w.heap.size + 2) 23 (.slice none 0 0) := (k2.block _ (by omega) (fun h => h)).trans b2
  have hsz2 : w.heap.size + 3 ≤ W2.heap.size := by have := k2.size; omega
  have k12 : Kp No w W2 := k1.andNone k2
  clear b1 b2 k1 k2 hsz1
  gi_wp2_with fail
  refine ⟨trivial, (callsIn_wide.2 (records_any W2 _ _ _ _ _ _)).mono ?_⟩
  rintro e W3 ⟨rfl, hW3⟩
  have hsz3 : W3.heap.size = W2.heap.size + 2 := by rw [hW3]; simp
  have b3 : Boxed W3 W2.heap.size 23 (.slice none 0 0) := by rw [hW3]; exact (Boxed.new W2 23 (.slice none 0 0)).alloc _
  have k3 : Kp No W2 W3 := by rw [hW3]; exact ((Kp.refl _ _).alloc _).alloc _
  have b1'' : Boxed W3 (w.heap.size + 1) 43 (.slice none 0 0) := (k3.block _ (by omega) (fun h => h)).trans b1'
  have b2'' : Boxed W3 (w.heap.size + 2) 23 (.slice none 0 0) := (k3.block _ (by omega) (fun h => h)).trans b2'
  have k13 : Kp No w W3 := k12.andNone k3
  clear b1' b2' k12 k3 hW3
  gi_wp2_with fail
  refine over_func (gf := 95) (lb := #[.pointer (some ⟨W2.heap.size, 0, none⟩), .pointer (some ⟨W2.heap.size + 1, 0, none⟩)]) rfl (enters_of Tryz.func95 (by kernel_rfl) rfl)
    (tells0 2 W2.heap.size (W2.heap.size + 1) w.heap.size (fun _ _ _ _ => False)) (fun _ _ _ _ h => h.elim) (by omega) (fun U W h k => (k.cell (p := ⟨W2.heap.size, 0, none⟩) (by simp; omega)).trans h) b3.cell
    (fun _ _ W => Boxed W (w.heap.size + 1) 43 (.slice none 0 0) ∧ Boxed W (w.heap.size + 2) 23 (.slice none 0 0) ∧ Kp No w W) (fun _ _ _ => False)
    ?ik ?ii (fun _ _ _ _ h _ => h) ?i0 (fun _ W => W) (fun _ W => Below.refl _ W) (fun _ _ _ _ h => h) (fun _ _ _ _ h _ => h.elim) (fun _ _ _ => { tmps := #[], defers := [] }) (fun _ _ _ _ _ h _ => h) ?assign ?body ?done ?stop
  case ik =>
    rintro k m' U W ⟨h1, h2, h3⟩ _ hk
    exact ⟨(hk.block _ h1.lt (by omega)).trans h1, (hk.block _ h2.lt (by omega)).trans h2, h3.trans (L := No) (M := fun x => x = w.heap.size) (kp_kept hk) (fun x hx => .inr (by omega))⟩
  case ii =>
    rintro k m' U W ⟨h1, h2, h3⟩ hp
    have hb := hp.below
    exact ⟨hp.block h1, hp.block h2, ⟨by rw [hb.os, h3.os], by rw [hb.tape, h3.tape], by rw [hb.output, h3.output], Nat.le_trans h3.size hb.size, fun k hk hn => (hb.block k (by omega)).trans (h3.block k hk hn)⟩⟩
  case i0 =>
    intro W hB _
    exact ⟨(hB.block _ (by omega)).trans b1'', (hB.block _ (by omega)).trans b2'', k13.andNone (Kp.below hB)⟩
  case assign => exact fun l k m vs W K _ h _ => h.elim
  case body => exact fun l k m vs U W _ _ h _ _ _ _ _ => h.elim
  case stop => exact fun D c k W _ _ h _ => h.elim
  case done =>
    rintro D m' W hD ⟨h1, h2, h3⟩ hT hd
    have c1 := h1.cell
    have c2 := h2.cell
    change W.cell? ⟨w.heap.size + 1 + 1, 0, none⟩ = _ at c2
    gi_wp2_with fail
    refine wpIn_wide.2 ?_
    go_region
    gi_wp2_with fail
    have hd' : W.drew.heap[D]? = some (.deferred (some [])) := hd
    refine ⟨by simp, .inl ⟨_, _, rfl, run_takeDeferred hd', ?_⟩⟩
    have hpb := put_below (B := w.heap.size) W.drew (.deferred none) (l := D) (by omega) (Array.getElem?_eq_some_iff.1 hd').1
    have hk := h3.drew
    refine ⟨.tuple #[.slice none 0 0, .slice none 0 0], by simp [results, Tryz.results18, go_sem], rfl, ?_⟩
    exact ⟨by rw [hpb.os, hk.os], by rw [hpb.tape, hk.tape], by rw [hpb.output, hk.output], Nat.le_trans hk.size hpb.size, fun k hk1 hn => (hpb.block k hk1).trans (hk.block k hk1 hn)⟩

end Go.Proofs.YthmimipoooemjaaGreatDoor.Sh
end

section
/-
  Rebuild of a shelf that has no pack.
-/
namespace Go.Proofs.YthmimipoooemjaaGreatDoor.Ix
open Go.RowKit Go.Shelf
open Stb (Stab Srt)
open Sim (hid Kp No PS Done Blk nm)

theorem stab_nil {X : List Sg.Ent} (h : Stab Sg.ky [] X) : X = [] := List.length_eq_zero_iff.1 h.length

set_option maxHeartbeats 1000000 in
set_option maxRecDepth 100000 in
theorem rebuild0 (w : World) (h : Option Addr) (hI : ∀ V, Kp No w V → Calls Tryz.prog 19 #[.pointer h] V fun e w' => e = .returned (.slice none 0 0) ∧ Kp No V w') :
    Calls Tryz.prog 44 #[.pointer h] w fun e w' => ∃ v, e = .returned (.tuple #[v, .slice none 0 0]) ∧ Sg.EV (fun g => w.heap.size ≤ g) w' v [] ∧ Kp No w w' := by
  have HW := hid (Sh.walk0 w h 9223372036854775807 (by omega) hI)
  clear hI
  go_enter Tryz.func44, Tryz.ntmps44
  go_wp2_with fail
  refine HW.out.mono ?_
  rintro e w1 ⟨rfl, hk⟩
  have HK := hid hk
  clear hk HW
  have hmk : ∀ W, (Instr.makeSlice 81 (.int .i64 0) (.int .i64 0)).run Tryz.prog W = .ok (.slice (some ⟨W.heap.size, 0, none⟩) 0 0) (W.alloc (.cells #[] 155)) := by
    intro W
    obtain ⟨i0, hi, hz0, hz1, hz2⟩ := info_parts Sg.infoE
    have h := run_make (P := Tryz.prog) W 81 155 i0 _ Tryz.underlying81 hi hz0 .i64 .i64 0 0 (by omega) (by omega) (by rw [hz2]; omega) (by omega)
    rw [h, hz1]
    have e : madeCells Sg.zE.toArray (Int.toNat 0 * 35) = #[] := Array.eq_empty_of_size_eq_zero (by rw [size_madeCells]; rfl)
    first | rfl | (show Result.ok _ (W.alloc (.cells (madeCells Sg.zE.toArray (Int.toNat 0 * 35)) _)) = _; rw [e]; rfl)
  have hEV : ∀ W : World, Sg.EV No (W.alloc (.cells #[] 155)) (.slice (some ⟨W.heap.size, 0, none⟩) 0 0) [] := fun W => ⟨_, 0, rfl, Nat.le_refl _, by decide, by simp, by simp, fun h => absurd rfl h⟩
  have HEV := hid (Sg.sort_any _ _ [] No (hEV w1) (by simp))
  clear hEV
  go_wp2_with fail
  go_loop [6, 19] (fun l i => l = .slice (some ⟨w1.heap.size, 0, none⟩) 0 0 ∧ i = .int .i64 0) (fun _ _ => 0)
  case atStart => exact ⟨rfl, rfl⟩
  case round =>
    obtain ⟨rfl, rfl⟩ := hrel
    go_wp2_with fail
    refine HEV.out.mono ?_
    rintro e w2 ⟨r, X, rfl, hs, _, hk, hv⟩
    rw [stab_nil hs, show Sg.cmpct [] = [] from rfl] at hv
    obtain ⟨ra, rc, hr, _⟩ := id hv
    have hr' : r = .slice ra 0 rc := hr
    clear hr
    subst hr'
    have HF : Hid (Sg.EV (fun g => w.heap.size ≤ g) w2 (.slice ra 0 rc) [] ∧ Kp No w w2) := ⟨hv.mono (fun g hg => Nat.le_trans HK.out.size (Nat.le_trans (by simp) hg)), (HK.out.alloc _).andNone hk⟩
    clear hv hs hk
    go_wp2_with fail
    refine bodyPost_ret (v := .tuple #[.slice ra 0 rc, .slice none 0 0]) (by simp [results, Tryz.results44, go_sem]) rfl ⟨_, rfl, HF.out.1, HF.out.2⟩

end Go.Proofs.YthmimipoooemjaaGreatDoor.Ix
end

section
/-
  Put and Get of segment with no table.
-/
namespace Go.Proofs.YthmimipoooemjaaGreatDoor.Sg
open Go.RowKit
open Sim (hid Kp No)
end Go.Proofs.YthmimipoooemjaaGreatDoor.Sg
end

section
/-
  alive of the tenth law.
-/
namespace Go.Proofs.YthmimipoooemjaaGreatDoor.Sg
open Go.RowKit
open Tlv (Tr Agree)
open Crc (Kept)
open Sim (hid Kp No)

def h1 : List Int := [1, 0, 0, 0, 0, 0, 0, 0, 0, 0, 0, 0, 0, 0, 0, 0, 0, 0, 0, 0, 0, 0, 0, 0, 0, 0, 0, 0, 0, 0, 0, 0]
theorem right0 : RightP [] := ⟨by simp, fun i e hi => by simp at hi⟩
theorem seal0 : nats (sealE []) = [3, 0, 0] ++ Crc.le4 (Crc.more 0 [3, 0, 0]) := by
  rw [sealE, sealI_nats]
  rfl
end Go.Proofs.YthmimipoooemjaaGreatDoor.Sg
end

section
/-
  Plain mathematics of segment's Get: which trees are entries' values, and what bytes answer.
-/
namespace Go.Proofs.YthmimipoooemjaaGreatDoor.Sg
open Go.RowKit
open Tlv (Tr)

/-- What the fields of a value tell, whatever is in them. -/
def entOf (k : Tr 8) : Ent := match k.kd with
  | [a, b, c, e] => (pad32 a.hd.2.2, wrap64 b.hd.2.1, wrap64 c.hd.2.1, wrap64 e.hd.2.1)
  | _ => ([], 0, 0, 0)
/-- A value that is one of right entries. -/
def GoodT (t : Tr 9) : Prop := (∀ k ∈ t.kd, k.kd.length = 4) ∧ RightP (t.kd.map entOf) ∧ Tlv.sameT 9 t 3 (entsT (t.kd.map entOf)) = true

/-- What Get answers. -/
def GAns (bs : List Int) (f : Int) (d : List Ent) : Prop :=
  (bs.length < 4 ∧ f = 3 ∧ d = []) ∨ (4 ≤ bs.length ∧ sealI (bs.take (bs.length - 4)) ≠ bs ∧ f = 4 ∧ d = []) ∨
  (4 ≤ bs.length ∧ sealI (bs.take (bs.length - 4)) = bs ∧ (∀ t, Tlv.getT (bs.take (bs.length - 4)) = some t → ¬ GoodT t) ∧ f = 3 ∧ d = []) ∨
  (4 ≤ bs.length ∧ sealI (bs.take (bs.length - 4)) = bs ∧ ∃ t, Tlv.getT (bs.take (bs.length - 4)) = some t ∧ GoodT t ∧ f = 0 ∧ d = t.kd.map entOf)

end Go.Proofs.YthmimipoooemjaaGreatDoor.Sg
end

section
/-
  entry of segment: what the fields of a value tell, whatever is in them.
-/
namespace Go.Proofs.YthmimipoooemjaaGreatDoor.Sg
open Go.RowKit
open Tlv (Tr Agree)
open Sim (hid Kp No)
def z32 : List Int := List.replicate 32 0
/-- What lies at g: an entry, of the call's own. -/
def HalfE (w W : World) (x : Ent) (g : Nat) : Prop := Below w.heap.size w W ∧ w.heap.size ≤ g ∧ g < W.heap.size ∧ W.rangeAt g 0 (entC x) ∧ W.there g 0 35
theorem HalfE.drew {w W : World} {x : Ent} {g : Nat} (h : HalfE w W x g) : HalfE w W.drew x g := by
  obtain ⟨h1, h2, h3, h4, h5⟩ := h
  exact ⟨h1.drew, h2, h3, by rwa [World.rangeAt_drew], by rwa [World.there_drew]⟩
theorem b8_append (a b : List Int) : b8 (a ++ b) = b8 a ++ b8 b := by simp [b8]
theorem HalfE.named {w W : World} {p q r : Int} {bn : List Int} {g : Nat} (h : HalfE w W (z32, p, q, r) g) (ht : W.there g 0 (b8 (bn.take 32)).length) : HalfE w (W.setCells g 0 (b8 (bn.take 32))) (pad32 bn, p, q, r) g := by
  obtain ⟨h1, h2, h3, h4, h5⟩ := h
  refine ⟨h1.trans (setCells_below h2 _ _ _), h2, by rw [setCells_size]; exact h3, fun j u hj => ?_, World.there_setCells h5 _ _ _⟩
  have hl : (b8 (bn.take 32)).length = (bn.take 32).length := b8_length _
  have hl2 : (bn.take 32).length ≤ 32 := by rw [List.length_take]; omega
  have e1 : entC (pad32 bn, p, q, r) = b8 (bn.take 32) ++ (b8 (List.replicate (32 - bn.length) 0) ++ [.int .i64 p, .int .i64 q, .int .i64 r]) := by
    show b8 (bn.take 32 ++ List.replicate (32 - bn.length) 0) ++ _ = _
    rw [b8_append, List.append_assoc]
  rw [Nat.zero_add]
  by_cases hj1 : j < (bn.take 32).length
  · have hi : j < (b8 (bn.take 32)).length := by omega
    have := World.cell?_setCells_in g (b8 (bn.take 32)) 0 W (fun i hi => (ht i hi).1) j hi
    rw [Nat.zero_add] at this
    rw [this, ← hj, e1, List.getElem?_append_left hi]
    exact (List.getElem?_eq_getElem hi).symm
  · rw [World.cell?_setCells_out g _ 0 W ⟨g, j, none⟩ (fun _ _ => .inr (by show 0 + _ ≤ j; omega))]
    have h6 := h4 j u (by
      rw [← hj, e1]
      have e2 : entC (z32, p, q, r) = b8 (List.replicate (bn.take 32).length 0) ++ (b8 (List.replicate (32 - bn.length) 0) ++ [.int .i64 p, .int .i64 q, .int .i64 r]) := by
        rw [← List.append_assoc, ← b8_append, List.replicate_append_replicate, show (bn.take 32).length + (32 - bn.length) = 32 by rw [List.length_take]; omega]
        rfl
      rw [e2]
      exact app_right (by rw [b8_length, b8_length]; simp) (by rw [b8_length, List.length_replicate]; omega))
    rw [Nat.zero_add] at h6
    exact h6

end Go.Proofs.YthmimipoooemjaaGreatDoor.Sg
end

section
/-
  entries of segment: the right entries that a value is the value of.
-/
namespace Go.Proofs.YthmimipoooemjaaGreatDoor.Sg
open Go.RowKit
open Tlv (Tr Agree)
open Sim (hid Kp No)
/-- Entries' cells are whole. -/
def Oks (d : List Ent) : Prop := ∀ x ∈ d, EOk x
end Go.Proofs.YthmimipoooemjaaGreatDoor.Sg
end

section
/-
  Get of segment: the entries that bytes were put of.
-/
namespace Go.Proofs.YthmimipoooemjaaGreatDoor.Sg
open Go.RowKit
open Tlv (Tr Agree BySlS)
open Crc (Kept Tab)
open Sim (hid Kp No)
/-- What Get leaves. -/
def Got (w w' : World) (b : Nat) (bs : List Int) (e : Ending) : Prop :=
  ∃ v f d, e = .returned (.tuple #[v, .int .i64 f]) ∧ GAns bs f d ∧ Sim.Row w' 155 35 v d.length (ents d) ∧ (∀ x, v.ownBlock = some x → w.heap.size ≤ x) ∧ Oks d ∧ Kept b w w' ∧ TabX w' b
theorem Got.none {w w' : World} {b : Nat} {bs : List Int} {f : Int} (hg : GAns bs f []) (hk : Kept b w w') (ht : TabX w' b) : Got w w' b bs (.returned (.tuple #[.slice none 0 0, .int .i64 f])) :=
  ⟨.slice Option.none 0 0, f, [], rfl, hg, Sim.Row.nil _ _ _, by intro x hx; simp [Value.ownBlock] at hx, by intro x hx; simp at hx, hk, ht⟩

end Go.Proofs.YthmimipoooemjaaGreatDoor.Sg
end

section
/-
  Plain mathematics: sealed bytes of which one is turned are not sealed.
-/
namespace Go.Proofs.YthmimipoooemjaaGreatDoor.Sg
open Crc (turn)
end Go.Proofs.YthmimipoooemjaaGreatDoor.Sg
end

section
/-
  Two lists of the document's entries: are they the same?
-/
namespace Go.Proofs.YthmimipoooemjaaGreatDoor.Sg
open Go.RowKit
open Sim (hid Kp No)
end Go.Proofs.YthmimipoooemjaaGreatDoor.Sg
end

section
/-
  Where of the tenth law: a place of the program's type as the document's.
-/
namespace Go.Proofs.YthmimipoooemjaaGreatDoor.Sg
open Go.RowKit
open Sim (hid Kp No)
end Go.Proofs.YthmimipoooemjaaGreatDoor.Sg
end

section
/-
  Back of the tenth law: entries of the program's type as the document's.
-/
namespace Go.Proofs.YthmimipoooemjaaGreatDoor.Sg
open Go.RowKit
open Stb (Stab Srt Mrg)
open Sim (hid Kp No)
/-- A row of the document's entries, of the call's own, that began at u. -/
def MineR (u w : World) (v : Value) (d : List Ent) : Prop := Sim.Row w 159 35 v d.length (ents d) ∧ (∀ x, v.ownBlock = some x → u.heap.size ≤ x) ∧ Kp No u w
theorem MineR.nil (w : World) : MineR w w (.slice none 0 0) [] := ⟨Sim.Row.nil _ _ _, by intro x hx; simp [Value.ownBlock] at hx, Kp.refl _ _⟩
end Go.Proofs.YthmimipoooemjaaGreatDoor.Sg
end

section
/-
  Memory of the tenth law of back: a table, and bytes of which one is turned.
-/
namespace Go.Proofs.YthmimipoooemjaaGreatDoor.Sg
open Go.RowKit
open Tlv (Tr Agree BySlS)
open Crc (Kept Tab)
open Sim (hid Kp No)

theorem kpK {b : Nat} {w w' : World} (k : Kept b w w') : Kp (fun x => x = b) w w' := ⟨k.os, k.tape, k.output, k.size, fun j hj hne => k.block j hj hne⟩
/-- How far a call has come: a table at b, and all else that there was as it was. -/
def On (w1 w : World) (b : Nat) : Prop := Kp (fun x => x = b) w1 w ∧ TabX w b
theorem On.kept {w1 w w' : World} {b : Nat} (h : On w1 w b) (k : Kept b w w') (t : TabX w' b) : On w1 w' b := ⟨h.1.trans (kpK k) (fun _ hx => .inl hx), t⟩
theorem On.kp {w1 w w' : World} {b : Nat} (h : On w1 w b) (k : Kp No w w') : On w1 w' b := ⟨h.1.andNone k, h.2.below k.toBelow'⟩
theorem On.fin {w w1 w2 : World} (h0 : Below w.heap.size w w1) (h : On w1 w2 w.heap.size) : Below w.heap.size w w2 := Kp.under h0 h.1 (fun x hx => by omega) h0.size
theorem On.bytes {w w1 w2 : World} {v : Value} {bs : List Int} (h0 : Below w.heap.size w w1) (h : On w1 w2 w.heap.size) (hb : Tlv.BySl 0 w.heap.size w v bs) : BySlS (fun g => g ≠ w.heap.size ∧ g < w2.heap.size) w2 v bs := by
  have hB := On.fin h0 h
  exact hb.toS.agree (fun g hg => hB.block g hg.2) (fun g hg => ⟨by omega, Nat.lt_of_lt_of_le hg.2 hB.size⟩)
theorem EV.on {w w' : World} {b : Nat} {v : Value} {d : List Ent} {P : Nat → Prop} (h : EV P w v d) (k : Kept b w w') (hP : ∀ g, P g → g ≠ b) : EV P w' v d := h.kp (kpK k) hP

theorem form_mem {n : Nat} {t : Tr n} (h0 : 0 ≤ t.hd.1 ∧ t.hd.1 ≤ 255) (hl : (Tlv.bodyOf n t).length ≤ 65535) (hb : ∀ x ∈ Tlv.bodyOf n t, 0 ≤ x ∧ x ≤ 255) : ∀ x ∈ Tlv.formOf n t, 0 ≤ x ∧ x ≤ 255 := by
  intro x hx
  simp only [Tlv.formOf, List.mem_cons] at hx
  rcases hx with rfl | rfl | rfl | hx
  · exact h0
  · omega
  · omega
  · exact hb x hx
theorem num_bytes (p : Int) : ∀ x ∈ Tlv.formOf 1 (Tr.mk 1 p [] [] : Tr 1), 0 ≤ x ∧ x ≤ 255 := by
  have e : Tlv.bodyOf 1 (Tr.mk 1 p [] [] : Tr 1) = Tlv.numB (Tlv.nsz p).toNat p := rfl
  have := Tlv.nsz_bd p
  exact form_mem ⟨(by decide : (0 : Int) ≤ 1), (by decide : (1 : Int) ≤ 255)⟩ (by rw [e, Tlv.numB_length]; omega) (by rw [e]; exact Tlv.numB_byte _ _)
theorem ent_bytes {e : Ent} (he : EOk e) : ∀ x ∈ Tlv.formOf 2 (entT e), 0 ≤ x ∧ x ≤ 255 := by
  obtain ⟨h1, _, h3⟩ := ent_bsz he.1 (room := 68) (deep := 1) (by omega) (by omega)
  have h4 := Tlv.bsz_len 2 _ _ _ h1
  refine form_mem ⟨Int.le_of_lt (by decide : (0 : Int) < 3), (by decide : (3 : Int) ≤ 255)⟩ (by omega) ?_
  rw [Tlv.bodyOf_kids (show (entT e).hd.1 = 3 from rfl)]
  intro x hx
  obtain ⟨l, hl, hxl⟩ := List.mem_flatten.1 hx
  obtain ⟨k, hk, rfl⟩ := List.mem_map.1 hl
  have hk' : k ∈ ([Tr.mk 2 0 e.1 [], Tr.mk 1 e.2.1 [] [], Tr.mk 1 e.2.2.1 [] [], Tr.mk 1 e.2.2.2 [] []] : List (Tr 1)) := hk
  rcases List.mem_cons.1 hk' with rfl | hk1
  · refine form_mem (t := (Tr.mk 2 0 e.1 [] : Tr 1)) ⟨(by decide : (0 : Int) ≤ 2), (by decide : (2 : Int) ≤ 255)⟩ (show e.1.length ≤ 65535 by rw [he.1]; omega) (show ∀ x ∈ e.1, 0 ≤ x ∧ x ≤ 255 from he.2) x hxl
  rcases List.mem_cons.1 hk1 with rfl | hk2
  · exact num_bytes _ x hxl
  rcases List.mem_cons.1 hk2 with rfl | hk3
  · exact num_bytes _ x hxl
  rcases List.mem_cons.1 hk3 with rfl | hk4
  · exact num_bytes _ x hxl
  · cases hk4
theorem formE_bd {d : List Ent} (ho : ∀ e ∈ d, EOk e) (hl : d.length ≤ 900) : ∀ x ∈ formE d, 0 ≤ x ∧ x ≤ 255 := by
  have h1 := entsT_right (fun e he => (ho e he).1) hl
  have h2 := Tlv.bsz_fits 3 _ _ _ h1
  have h3 := Tlv.bsz_len 3 _ _ _ h1
  refine form_mem ⟨Int.le_of_lt (by decide : (0 : Int) < 3), (by decide : (3 : Int) ≤ 255)⟩ (by omega) ?_
  rw [Tlv.bodyOf_kids (show (entsT d).hd.1 = 3 from rfl)]
  intro x hx
  obtain ⟨l, hl, hxl⟩ := List.mem_flatten.1 hx
  obtain ⟨k, hk, rfl⟩ := List.mem_map.1 hl
  obtain ⟨e, he, rfl⟩ := List.mem_map.1 hk
  exact ent_bytes (ho e he) x hxl
theorem sealE_bd {d : List Ent} (ho : ∀ e ∈ d, EOk e) (hl : d.length ≤ 900) : ∀ x ∈ sealE d, 0 ≤ x ∧ x ≤ 255 := sealI_bd _ (formE_bd ho hl)
end Go.Proofs.YthmimipoooemjaaGreatDoor.Sg
end

section
/-
  Open of an index where no file of it is, and no pack.
-/
namespace Go.Proofs.YthmimipoooemjaaGreatDoor.Ix
open Go.RowKit Go.Shelf
open Stb (Stab Srt)
open Sim (hid Kp No PS Done Blk nm ByP finds pBytes)

/-- Load, where the file is not to be read. -/
theorem load_no {P : Nat → Prop} {N : Nat} (w : World) (s : Nat) (t : Addr) (p : PS) (h : Sim.Sys P N w s p) (hf : finds p nI ≠ 0) :
    Calls Tryz.prog 36 #[.pointer (some ⟨s, 0, none⟩), .pointer (some t)] w fun e w' => e = .returned (.tuple #[.slice none 0 0, .int .i64 (finds p nI : Nat)]) ∧ Kp No w w' := by
  have HC := hid (Sim.read_any w s p sI (by decide) h)
  rw [nm_sI] at HC
  unfold sI at HC
  obtain ⟨F, hF⟩ : ∃ F, finds p nI = F := ⟨_, rfl⟩
  rw [hF] at HC hf ⊢
  have hf' : ¬ ((F : Int) = 0) := by omega
  generalize pBytes nI p = bs at *
  clear hF h
  go_enter Tryz.func36, Tryz.ntmps36
  go_wp2_with fail
  refine HC.out.mono ?_
  rintro e w1 ⟨ad, cap, rfl, _, _, hk⟩
  have HK := hid hk
  clear hk HC
  go_wp2_with fail
  refine bodyPost_ret (v := .tuple #[.slice none 0 0, .int .i64 (F : Nat)]) (by simp [results, Tryz.results36, go_sem]) rfl ⟨rfl, HK.out⟩

theorem nats_lt {d : List Sg.Ent} (ho : ∀ e ∈ d, Sg.EOk e) (hl : d.length ≤ 900) : ∀ x ∈ nats (Sg.sealE d), x < 256 := by
  intro x hx
  have hb := Sg.sealE_bd ho hl
  rw [nats, List.mem_map] at hx
  obtain ⟨y, hy, rfl⟩ := hx
  have := hb y hy
  omega

theorem seal0_len : (nats (Sg.sealE [])).length = 7 := by rw [Sg.seal0]; rfl

/-- What Open leaves: a new index with no entry, its list saved. -/
def Open0P (P : Nat → Prop) (N b : Nat) (w : World) (s : Nat) (p : PS) (e : Ending) (w' : World) : Prop :=
  ∃ r, Saved (nats (Sg.sealE [])) p r ∧ TabX w' b ∧
    ((r.1 ≠ 0 ∧ e = .returned (.tuple #[.pointer none, .bool false, .int .i64 (r.1 : Nat)])) ∨
     (r.1 = 0 ∧ ∃ x v, e = .returned (.tuple #[.pointer (some ⟨x, 0, none⟩), .bool true, .int .i64 0]) ∧ w.heap.size ≤ x ∧ IxAt w' x s b v ∧ Sg.EV (fun g => w.heap.size ≤ g) w' v [] ∧
      ∃ P', Sim.Sys P' N w' s r.2 ∧ Kp (fun y => P y ∨ y = b) w w' ∧ (∀ y, P' y → P y ∨ w.heap.size ≤ y) ∧ ¬ P' x ∧ ¬ P' b))

set_option maxHeartbeats 2000000 in
set_option maxRecDepth 100000 in
theorem open0 {P : Nat → Prop} {N : Nat} (w : World) (s b h : Nat) (k : Int) (p : PS) (hS : Sim.Sys P N w s p) (hN : N + 6 ≤ 1000) (hT : TabX w b) (hb : ¬ P b) (hH : Sh.ShAt w h s b k) (hf : finds p nI = 5) (he : Sim.pList p = []) :
    Calls Tryz.prog 39 #[.pointer (some ⟨s, 0, none⟩), .pointer (some ⟨b, 0, none⟩), .pointer (some ⟨h, 0, none⟩)] w fun e w' => Open0P P (N + 6) b w s p e w' := by
  have HLD := hid (load_no w s ⟨b, 0, none⟩ p hS (by rw [hf]; omega))
  rw [hf] at HLD
  have HRB := hid (fun V (hV : Kp No w V) => rebuild0 V (some ⟨h, 0, none⟩) (fun U hU => Sh.ids_none U h s b k p (hH.kp (hV.andNone hU) (fun h => h)) (hS.kept (hV.andNone hU)) he))
  have HBC := hid (fun V v (hV : Kp No w V) (x : Nat) v0 (hX : IxAt V x s b v0) (hx : w.heap.size ≤ x) (hv : Sg.EV (fun g => w.heap.size ≤ g) V v []) => become_any V s b x p v v0 [] (hS.kept hV) hN (hT.kp hV (fun h => h)) hb hX (fun e => by have := hS.lt _ e; omega) (fun e => by have := hT.lt; omega) hv Sg.right0 (by rw [seal0_len]; omega) (nats_lt (by simp) (by simp)))
  have hbl := hT.lt
  have HPL := hid hS.lt
  have hbP := hb
  clear hS hT hH hf he
  go_enter Tryz.func39, Tryz.ntmps39
  go_wp2_with fail
  refine HLD.out.mono ?_
  rintro e w1 ⟨rfl, hk1⟩
  have HK1 := hid hk1
  clear hk1 HLD
  go_wp2_with fail
  refine (HRB.out w1 HK1.out).mono ?_
  rintro e w2 ⟨v, rfl, hv, hk2⟩
  obtain ⟨ra, rc, hr, _⟩ := id hv
  have hr' : v = .slice ra 0 rc := hr
  clear hr
  subst hr'
  have HV : Hid (Sg.EV (fun g => w.heap.size ≤ g) w2 (.slice ra 0 rc) []) := hv.mono (fun g hg => Nat.le_trans HK1.out.size hg)
  have HK2 := hid (HK1.out.andNone hk2)
  clear hv hk2 HRB HK1
  go_wp2_with fail
  have HK3 : Hid (Kp No w (w2.alloc (.cells (ixC s b (.slice none 0 0)).toArray 169))) := HK2.out.alloc _
  refine (HBC.out (w2.alloc (.cells (ixC s b (.slice none 0 0)).toArray 169)) _ HK3.out w2.heap.size _ (Blk.new w2 _ _) HK2.out.size (HV.out.kept ((Kp.refl _ _).alloc _))).mono ?_
  rintro e w4 ⟨r, hsv, rfl, hX, hT, P', hS, hK, hP⟩
  have hsz : (w2.alloc (.cells (ixC s b (.slice none 0 0)).toArray 169)).heap.size = w2.heap.size + 1 := by simp
  have hw2 := HK2.out.size
  have HF : Hid (TabX w4 b ∧ IxAt w4 w2.heap.size s b (if r.1 = 0 then .slice ra 0 rc else .slice none 0 0) ∧ Sg.EV (fun g => w.heap.size ≤ g) w4 (.slice ra 0 rc) [] ∧ ∃ P', Sim.Sys P' (N + 6) w4 s r.2 ∧ Kp (fun y => P y ∨ y = b) w w4 ∧ (∀ y, P' y → P y ∨ w.heap.size ≤ y) ∧ ¬ P' w2.heap.size ∧ ¬ P' b) := by
    refine ⟨hT, hX, ?_, P', hS, HK3.out.ofNo.trans hK (fun y hy => ?_), fun y hy => ?_, fun e => ?_, fun e => ?_⟩
    · obtain ⟨a', c', h1, h2, h3, h4, h5, _⟩ := HV.out
      exact ⟨a', c', h1, h2, h3, h4, h5, fun h => absurd rfl h⟩
    · rcases hy with e | e | e
      · exact .inl (.inl e)
      · exact .inl (.inr e)
      · right; omega
    · rcases hP y hy with e | e
      · exact .inl e
      · right; omega
    · rcases hP _ e with e | e
      · have := HPL.out _ e; omega
      · omega
    · rcases hP _ e with e | e
      · exact hbP e
      · omega
  have HSV := hid hsv
  clear hsz hX hT hS hK hP hsv HBC HV
  by_cases hz : r.1 = 0
  · have HZ := hid hz
    rw [hz]
    clear hz
    go_wp2_with fail
    refine bodyPost_ret (v := .tuple #[.pointer (some ⟨w2.heap.size, 0, none⟩), .bool true, .int .i64 0]) (by simp [results, Tryz.results39, go_sem]) rfl ?_
    obtain ⟨h1, h2, h3, h4⟩ := HF.out
    rw [if_pos HZ.out] at h2
    exact ⟨r, HSV.out, h1, .inr ⟨HZ.out, w2.heap.size, _, rfl, hw2, h2, h3, h4⟩⟩
  · have HZ := hid hz
    obtain ⟨F, hF⟩ : ∃ F, r.1 = F := ⟨_, rfl⟩
    have HFF := hid hF
    rw [hF] at hz ⊢
    have hz' : ¬ ((F : Int) = 0) := by omega
    clear hF
    go_wp2_with fail
    refine bodyPost_ret (v := .tuple #[.pointer none, .bool false, .int .i64 (F : Nat)]) (by simp [results, Tryz.results39, go_sem]) rfl ?_
    exact ⟨r, HSV.out, HF.out.1, .inl ⟨HZ.out, by rw [HFF.out]⟩⟩

end Go.Proofs.YthmimipoooemjaaGreatDoor.Ix
end
