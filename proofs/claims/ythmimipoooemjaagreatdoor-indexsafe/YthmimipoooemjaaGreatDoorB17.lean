/- Of the proof: the texts PkManyM, PkGet, FrBackM, TlvRefTake, CrcRefOpen, FrRTake, FrRScan, FrTurned, FrBackR, SimUp, SimUp2, PkRun, PkNames, PkIdM, PkId, PkPick, ShNil, one behind the other. -/
import Derived.Test.YthmimipoooemjaaGreatDoorB16
import Derived.Test.YthmimipoooemjaaGreatDoorB8
import Derived.Test.YthmimipoooemjaaGreatDoorB4
import Derived.Test.YthmimipoooemjaaGreatDoorB5
import Derived.Test.YthmimipoooemjaaGreatDoorB7
import Derived.Test.YthmimipoooemjaaGreatDoorB3
import Derived.Lib.ItoaLen
import Derived.Lib.AppendIntMem
import Derived.Lib.AtoiAll
import Derived.Test.YthmimipoooemjaaGreatDoorB1
section
/-
  Plain mathematics of a pack with many records: one file that is appended to, synced and moved, on a disk that goes down at any step; and what is there once it is up again.
-/
namespace Go.Proofs.YthmimipoooemjaaGreatDoor.Sim

/-- One file x, whatever is seen of it. -/
def one (d ar : Bool) (lf st : Nat) (sn : Dir) (cg : List PC) (sa : Dir) (r x : Nat) (f : Fl) : PS := ⟨r, true, sn, sa, cg, d, ar, lf, st, fun y => if y = x then some f else none⟩
theorem one_setF (d ar : Bool) (lf st : Nat) (sn : Dir) (cg : List PC) (sa : Dir) (r x : Nat) (f g : Fl) : setF x g (one d ar lf st sn cg sa r x f) = one d ar lf st sn cg sa r x g := by
  simp only [setF, one, PS.mk.injEq, true_and]
  funext y
  by_cases h : y = x <;> simp [h]
theorem one_fileAt (d ar : Bool) (lf st : Nat) (sn : Dir) (cg : List PC) (sa : Dir) (r x : Nat) (f : Fl) : fileAt (one d ar lf st sn cg sa r x f) x = f := by simp [fileAt, one]
theorem one_tick (d ar : Bool) (lf st : Nat) (sn : Dir) (cg : List PC) (sa : Dir) (r x : Nat) (f : Fl) : tick (one d ar lf st sn cg sa r x f) = one d ar (if ar then lf - 1 else lf) (st + 1) sn cg sa r x f := rfl
theorem one_fall (d ar : Bool) (lf st : Nat) (sn : Dir) (cg : List PC) (sa : Dir) (r x : Nat) (f : Fl) : fall (one d ar lf st sn cg sa r x f) = one true ar lf st sn cg sa r x f := rfl
theorem one_dead (d ar : Bool) (lf st : Nat) (sn : Dir) (cg : List PC) (sa : Dir) (r x : Nat) (f : Fl) : dead (one d ar lf st sn cg sa r x f) = (ar && lf == 0) := rfl

section
variable {t n : Nm} {r x : Nat} {ar d : Bool} {ys bs : List Nat} {p : PS}

def start (r : Nat) (ar : Bool) (lf : Nat) : PS := { startPS r with armed := ar, left := lf }
/-- The pack is begun: the file is seen under its temporary name. -/
def Beg (t : Nm) (r x : Nat) (ar d : Bool) (ys : List Nat) (p : PS) : Prop := (d = true → ar = true) ∧ ∃ lf st, p = one d ar lf st [(t, x)] [⟨0, t, [], x⟩] [] r x ⟨ys, 0⟩

theorem Beg.down (h : Beg t r x ar d ys p) : p.down = d := by obtain ⟨_, _, _, rfl⟩ := h; rfl
theorem Beg.finds (h : Beg t r x ar d ys p) (ht : nameB t = true) : finds p t = if d then 12 else 0 := by
  obtain ⟨_, lf, st, rfl⟩ := h
  cases d <;> simp [Sim.finds, wrongs, one, ht, dfind]
theorem Beg.block (h : Beg t r x ar d ys p) : blockOf p t = x := by obtain ⟨_, lf, st, rfl⟩ := h; simp [blockOf, one, dfind]
theorem Beg.file (h : Beg t r x ar d ys p) : fileAt p x = ⟨ys, 0⟩ := by obtain ⟨_, lf, st, rfl⟩ := h; exact one_fileAt ..
theorem Beg.used (h : Beg t r x ar d ys p) : used p = ys.length := by
  have hf := h.file
  obtain ⟨_, lf, st, rfl⟩ := h
  show (([(t, x)] : Dir).map fun e => (fileAt (one d ar lf st [(t, x)] [⟨0, t, [], x⟩] [] r x ⟨ys, 0⟩) e.2).b.length).sum = _
  simp [hf]
theorem Beg.room (h : Beg t r x ar d ys p) : p.room = r := by obtain ⟨_, lf, st, rfl⟩ := h; rfl
theorem Beg.append (h : Beg t r x ar d ys p) (ht : nameB t = true) (hl : ys.length + bs.length ≤ r) :
    ((pAppend t bs p).1 = 12 ∧ ar = true ∧ Beg t r x ar true ys (pAppend t bs p).2) ∨ ((pAppend t bs p).1 = 0 ∧ d = false ∧ Beg t r x ar false (ys ++ bs) (pAppend t bs p).2) := by
  cases d with
  | true =>
    have e : pAppend t bs p = (12, p) := by rw [pAppend, h.finds ht]; simp
    rw [e]
    exact .inl ⟨rfl, h.1 rfl, h⟩
  | false =>
    have e : pAppend t bs p = stp p (setF x ⟨ys ++ bs, 0⟩) := by
      rw [pAppend, h.finds ht, if_neg (by simp), h.used, h.room, if_neg (by omega), h.block, h.file]
    rw [e, stp]
    obtain ⟨_, lf, st, rfl⟩ := h
    rw [one_dead, one_fall, one_tick, one_setF]
    cases hd : (ar && lf == 0) with
    | true =>
      rw [if_pos rfl]
      have ha : ar = true := by simp at hd; exact hd.1
      exact .inl ⟨rfl, ha, fun _ => ha, lf, st, rfl⟩
    | false =>
      rw [if_neg (by simp)]
      exact .inr ⟨rfl, rfl, by simp, _, _, rfl⟩

/-- How far a sealing came: 0: nothing of it is safe; 1: the bytes are; 2: they are moved; 3: that is safe. -/
def SealR (t n : Nm) (r x : Nat) (ys : List Nat) (k : Nat) (p : PS) : Prop :=
  ∃ d ar lf st, (k = 0 ∧ p = one d ar lf st [(t, x)] [⟨0, t, [], x⟩] [] r x ⟨ys, 0⟩) ∨ (k = 1 ∧ p = one d ar lf st [(t, x)] [⟨0, t, [], x⟩] [] r x ⟨ys, ys.length⟩) ∨
    (k = 2 ∧ p = one d ar lf st [(n, x)] [⟨0, t, [], x⟩, ⟨2, t, n, 0⟩] [] r x ⟨ys, ys.length⟩) ∨ (k = 3 ∧ p = one d ar lf st [(n, x)] [] [(n, x)] r x ⟨ys, ys.length⟩)
/-- What there is once it is up again: 0: nothing; 1: the temporary name; 2: the pack, whole. -/
def UpR (t n : Nm) (x : Nat) (ys : List Nat) (c : Nat) (p : PS) : Prop :=
  p.down = false ∧ p.armed = false ∧ p.chg = [] ∧ ((c = 0 ∧ p.seen = []) ∨ (c = 1 ∧ p.seen = [(t, x)]) ∨ (c = 2 ∧ p.seen = [(n, x)] ∧ (fileAt p x).b = ys))
theorem lose_whole (k : Int) : (lose k ⟨ys, ys.length⟩).b = ys := by simp [lose]
theorem loses_chg (cuts : List Int) : ∀ (l : Dir) (i : Nat) (q : PS), (loses l i cuts q).chg = q.chg
  | [], _, _ => rfl
  | _ :: l, i, q => by rw [loses, loses_chg cuts l]; rfl
theorem SealR.up {k : Nat} (h : SealR t n r x ys k p) (z : Int) (cuts : List Int) : ∃ c, UpR t n x ys c (pUp z cuts p) ∧ (k = 3 → c = 2) ∧ (k < 2 → c < 2) := by
  obtain ⟨d, ar, lf, st, h⟩ := h
  rcases h with ⟨rfl, rfl⟩ | ⟨rfl, rfl⟩ | ⟨rfl, rfl⟩ | ⟨rfl, rfl⟩
  · obtain ⟨m, hm, hm1⟩ : ∃ m, min (max z 0).toNat 1 = m ∧ m ≤ 1 := ⟨_, rfl, by omega⟩
    have e : pUp z cuts (one d ar lf st [(t, x)] [⟨0, t, [], x⟩] [] r x ⟨ys, 0⟩) = (let q := settle m (one d ar lf st [(t, x)] [⟨0, t, [], x⟩] [] r x ⟨ys, 0⟩); let r := loses q.safe 0 cuts q; { r with seen := r.safe, down := false, armed := false, left := 0 }) := by rw [← hm]; rfl
    rw [e]
    have : m = 0 ∨ m = 1 := by omega
    rcases this with rfl | rfl
    · exact ⟨0, ⟨rfl, rfl, loses_chg _ _ _ _, .inl ⟨rfl, rfl⟩⟩, by omega, by omega⟩
    · refine ⟨1, ⟨rfl, rfl, loses_chg _ _ _ _, .inr (.inl ⟨rfl, ?_⟩)⟩, by omega, by omega⟩
      simp [settle, one, pdo, dput, ddel, dins, loses, setF]
  · obtain ⟨m, hm, hm1⟩ : ∃ m, min (max z 0).toNat 1 = m ∧ m ≤ 1 := ⟨_, rfl, by omega⟩
    have e : pUp z cuts (one d ar lf st [(t, x)] [⟨0, t, [], x⟩] [] r x ⟨ys, ys.length⟩) = (let q := settle m (one d ar lf st [(t, x)] [⟨0, t, [], x⟩] [] r x ⟨ys, ys.length⟩); let r := loses q.safe 0 cuts q; { r with seen := r.safe, down := false, armed := false, left := 0 }) := by rw [← hm]; rfl
    rw [e]
    have : m = 0 ∨ m = 1 := by omega
    rcases this with rfl | rfl
    · exact ⟨0, ⟨rfl, rfl, loses_chg _ _ _ _, .inl ⟨rfl, rfl⟩⟩, by omega, by omega⟩
    · refine ⟨1, ⟨rfl, rfl, loses_chg _ _ _ _, .inr (.inl ⟨rfl, ?_⟩)⟩, by omega, by omega⟩
      simp [settle, one, pdo, dput, ddel, dins, loses, setF]
  · obtain ⟨m, hm, hm1⟩ : ∃ m, min (max z 0).toNat 2 = m ∧ m ≤ 2 := ⟨_, rfl, by omega⟩
    have e : pUp z cuts (one d ar lf st [(n, x)] [⟨0, t, [], x⟩, ⟨2, t, n, 0⟩] [] r x ⟨ys, ys.length⟩) = (let q := settle m (one d ar lf st [(n, x)] [⟨0, t, [], x⟩, ⟨2, t, n, 0⟩] [] r x ⟨ys, ys.length⟩); let r := loses q.safe 0 cuts q; { r with seen := r.safe, down := false, armed := false, left := 0 }) := by rw [← hm]; rfl
    rw [e]
    have : m = 0 ∨ m = 1 ∨ m = 2 := by omega
    rcases this with rfl | rfl | rfl
    · exact ⟨0, ⟨rfl, rfl, loses_chg _ _ _ _, .inl ⟨rfl, rfl⟩⟩, by omega, by omega⟩
    · refine ⟨1, ⟨rfl, rfl, loses_chg _ _ _ _, .inr (.inl ⟨rfl, ?_⟩)⟩, by omega, by omega⟩
      simp [settle, one, pdo, dput, ddel, dins, loses, setF]
    · refine ⟨2, ⟨rfl, rfl, loses_chg _ _ _ _, .inr (.inr ⟨rfl, ?_, ?_⟩)⟩, by omega, by omega⟩
      · simp [settle, one, pdo, dput, ddel, dins, dfind, loses, setF]
      · simp [settle, one, pdo, dput, ddel, dins, dfind, loses, setF, fileAt, lose_whole]
  · have e : pUp z cuts (one d ar lf st [(n, x)] [] [(n, x)] r x ⟨ys, ys.length⟩) = (let q := settle 0 (one d ar lf st [(n, x)] [] [(n, x)] r x ⟨ys, ys.length⟩); let r := loses q.safe 0 cuts q; { r with seen := r.safe, down := false, armed := false, left := 0 }) := by
      have h0 : min (max z 0).toNat (one d ar lf st [(n, x)] [] [(n, x)] r x ⟨ys, ys.length⟩).chg.length = 0 := Nat.min_zero _
      rw [pUp, h0]
    rw [e]
    refine ⟨2, ⟨rfl, rfl, loses_chg _ _ _ _, .inr (.inr ⟨rfl, ?_, ?_⟩)⟩, by omega, by omega⟩
    · simp [settle, one, loses, setF]
    · simp [settle, one, loses, setF, fileAt, lose_whole]

variable {c : Nat}
end
end Go.Proofs.YthmimipoooemjaaGreatDoor.Sim
namespace Go.Proofs.YthmimipoooemjaaGreatDoor
open Sim (Beg SealR nm nameB PS)

section
variable {i r x : Nat} {ar d : Bool} {ys : List Nat} {p : PS}
/-- A record more, or a fault. -/
theorem beg_add (h : Beg (nm (nameT i)) r x ar d ys p) (ht : nameB (nm (nameT i)) = true) (sz ct : Nat) (X : List Int) (R : Bool) (hl : ys.length = sz) (hr : 12000 ≤ r) :
    (∃ (f : Int) (d' : Bool) (q : PS), f ≠ 0 ∧ addF i sz ct X R p = (0, f, q, sz, ct) ∧ Beg (nm (nameT i)) r x ar d' ys q) ∨
    (R = true ∧ sz + X.length ≤ 12000 ∧ ∃ q, addF i sz ct X R p = ((sz : Int), 0, q, sz + X.length, ct + 1) ∧ Beg (nm (nameT i)) r x ar false (ys ++ nats X) q) := by
  cases R with
  | false => exact .inl ⟨1, d, p, by omega, by simp [addF], h⟩
  | true =>
    by_cases h12 : 12000 < sz + X.length
    · exact .inl ⟨2, d, p, by omega, by simp [addF, h12], h⟩
    · rcases h.append (bs := nats X) ht (by rw [nats_length]; omega) with ⟨h1, _, h2⟩ | ⟨h1, _, h2⟩
      · refine .inl ⟨12, true, _, by omega, ?_, h2⟩
        rw [addF, if_neg (by simp), if_neg h12, h1, if_neg (by omega)]
        rfl
      · refine .inr ⟨rfl, by omega, _, ?_, h2⟩
        rw [addF, if_neg (by simp), if_neg h12, h1, if_pos rfl]
end
end Go.Proofs.YthmimipoooemjaaGreatDoor
end

section
/-
  A record of a pack is got.
-/
namespace Go.Proofs.YthmimipoooemjaaGreatDoor
open Go.RowKit Go.Shelf
open Tlv (BySlS)
open Sim (hid Kp No PS Done Blk nm finds pBytes OwnB)

theorem takeF_faults (bs : List Int) : (takeF bs).1 = 0 ∨ ((takeF bs).1 ≠ 0 ∧ (takeF bs).1 ≠ 1 ∧ takeF bs = noRec (takeF bs).1) := by
  cases hr : Tlv.rd 8 bs with
  | none => rw [takeF_none hr]; right; simp [noRec]
  | some x =>
    obtain ⟨t, m⟩ := x
    rw [takeF_some hr]
    by_cases h1 : bs.length - m < 4
    · rw [if_pos h1]; right; simp [noRec]
    · rw [if_neg h1]
      by_cases h2 : sumI (bs.take m) ≠ (bs.drop m).take 4
      · rw [if_pos h2]; right; simp [noRec]
      · rw [if_neg h2]
        cases recOf t with
        | none => right; simp [noRec]
        | some r => left; rfl

/-- What Get answers: a fault of the reading, a place that is none, or what stands there. -/
def Gotten (w w' : World) (b : Nat) (e : Ending) (f : Nat) (bs : List Int) (z : Int) : Prop :=
  ((f ≠ 0 ∧ e = .returned (.tuple #[.agg zRec.toArray, .int .i64 (f : Int)])) ∨
   (f = 0 ∧ (z < 0 ∨ (bs.length : Int) ≤ z) ∧ e = .returned (.tuple #[.agg zRec.toArray, .int .i64 1])) ∨
   (∃ k : Nat, f = 0 ∧ z = k ∧ k < bs.length ∧ (takeF (bs.drop k)).1 ≠ 0 ∧ e = .returned (.tuple #[.agg zRec.toArray, .int .i64 4])) ∨
   (∃ k : Nat, f = 0 ∧ z = k ∧ k < bs.length ∧ (takeF (bs.drop k)).1 = 0 ∧ ∃ a c, e = .returned (.tuple #[.agg (recA (takeF (bs.drop k)).2.1.1 (takeF (bs.drop k)).2.1.2.1 (.slice a (takeF (bs.drop k)).2.1.2.2.length c)).toArray, .int .i64 0]) ∧
      BySlS (fun g => w.heap.size ≤ g ∧ g < w'.heap.size) w' (.slice a (takeF (bs.drop k)).2.1.2.2.length c) (takeF (bs.drop k)).2.1.2.2 ∧ ((takeF (bs.drop k)).2.1.2.1.length = 32 ∧ ∀ y ∈ (takeF (bs.drop k)).2.1.2.1, 0 ≤ y ∧ y ≤ 255))) ∧
  Crc.Kept b w w' ∧ TabX w' b

set_option maxHeartbeats 2000000 in
set_option maxRecDepth 100000 in
theorem get_any {P : Nat → Prop} {N : Nat} (w : World) (s b : Nat) (p : PS) (i : Nat) (z : Int) (h1 : 1 ≤ i) (h2 : i < 100) (h : Sim.Sys P N w s p) (hT : TabX w b) (hb : ∀ x ∈ pBytes (nm (nameP i)) p, x < 256) (hl : (pBytes (nm (nameP i)) p).length ≤ 20000000) :
    Calls Tryz.prog 65 #[.pointer (some ⟨s, 0, none⟩), .pointer (some ⟨b, 0, none⟩), .int .i64 (i : Int), .int .i64 z] w fun e w' => Gotten w w' b e (finds p (nm (nameP i))) (ints (pBytes (nm (nameP i)) p)) z := by
  have HRD := hid (fun V (k : Below w.heap.size w V) => pread_any V s b p i h1 h2 (h.kept (Kp.below k)))
  have HT := hid hT
  have hbw := hT.lt
  obtain ⟨F, hF⟩ : ∃ F, finds p (nm (nameP i)) = F := ⟨_, rfl⟩
  obtain ⟨Y, hY⟩ : ∃ Y, pBytes (nm (nameP i)) p = Y := ⟨_, rfl⟩
  rw [hY] at hb hl
  simp only [hF, hY] at HRD ⊢
  have HY := hid (And.intro hb hl)
  have hz0 := zero35
  have hb0 := build35z
  obtain ⟨Z, hZ⟩ : ∃ Z, zRec = Z := ⟨_, rfl⟩
  have HZ := hid hZ
  have HZL : Hid (Z.length = 34) := by rw [← hZ]; exact zRec_length
  have HZs : Hid (Z.toArray.size = 34) := HZL.out
  rw [hZ] at hz0 hb0
  clear hF hY hb hT hZ
  have HI2 : Hid ((Tryz.prog.info? 56).map (·.size) = some Z.toArray.size) := by rw [← HZ.out]; exact Tryz.info35
  have H1 : Hid (Z.toArray.all (·.oneCell') = true) := by rw [← HZ.out]; exact all_oneCell_toArray zRec_one
  have hB1 : Below w.heap.size w (w.alloc (.cells Z.toArray 56)) := (Below.refl _ _).alloc (Nat.le_refl _) _
  have HT1 : Hid (World.there (w.alloc (.cells Z.toArray 56)) w.heap.size 0 34) := by have h := there_new w Z 56; rwa [HZL.out] at h
  have hs1 : (w.alloc (.cells Z.toArray 56)).heap.size = w.heap.size + 1 := by simp
  have HB1 := hid hB1
  have HRD1 := hid (HRD.out _ hB1)
  clear HRD
  go_enter Tryz.func65, Tryz.ntmps65
  go_wp2_with fail
  generalize hW1 : w.alloc (.cells Z.toArray 56) = W1 at *
  refine HRD1.out.mono ?_
  rintro e w2 ⟨ad, cap, rfl, ho, hlt, hk⟩
  have hB2 : Below W1.heap.size W1 w2 := hk.toBelow'
  have HB2 : Hid (Below w.heap.size w w2) := HB1.out.trans (hB2.mono HB1.out.size)
  have HT2 : Hid (w2.there w.heap.size 0 34) := there_below HT1.out hB2 (by omega)
  have hs2 := hB2.size
  have HO := hid (And.intro ho hlt)
  clear ho hlt hk hB2
  by_cases hF0 : F = 0
  · subst hF0
    have HTB2 := hid (HT.out.below HB2.out)
    have HBY : Hid (BySlS (fun g => W1.heap.size ≤ g ∧ g < w2.heap.size) w2 (.slice ad Y.length cap) (ints Y)) := own_of HO.out.1 HY.out.1 (by have := HY.out.2; omega) W1.heap.size HO.out.2
    by_cases hzr : z < 0 ∨ ((ints Y).length : Int) ≤ z
    · have HAT := hid (at_bad b ad Y.length cap z w2 (by rw [ints_length] at hzr; exact hzr))
      rw [HZ.out] at HAT
      go_wp2_with fail
      refine HAT.out.mono ?_
      rintro e w3 ⟨rfl, hb3⟩
      have HB3 := hid hb3
      have hs3 := hb3.size
      have HTN : Hid (World.there (w3.alloc (.cells Z.toArray 56)) w3.heap.size 0 Z.toArray.size) := there_new w3 Z 56
      have hn3 : Below w3.heap.size w3 ((w3.alloc (.cells Z.toArray 56)).setCells w3.heap.size 0 Z) := ((Below.refl _ _).alloc (Nat.le_refl _) _).trans (setCells_below (Nat.le_refl _) _ _ _)
      have HTR : Hid (World.there ((w3.alloc (.cells Z.toArray 56)).setCells w3.heap.size 0 Z) w.heap.size 0 Z.toArray.size) := by
        rw [Hid, HZs.out]
        exact there_below (there_below HT2.out hb3 (by omega)) hn3 (by omega)
      have HN3 := hid hn3
      clear hb3 hn3
      go_wp2_with (first
        | (refine wpList_store_mid (by rfl) 56 _ _ (by rfl) w3.heap.size 0 Z.toArray (by rfl) (by rfl) HTN.out HI2.out H1.out ?_)
        | (refine wpList_store_mid (by rfl) 56 _ _ (by rfl) w.heap.size 0 Z.toArray (by rfl) (by rfl) HTR.out HI2.out H1.out ?_))
      have hr : World.rangeAt (((w3.alloc (.cells Z.toArray 56)).setCells w3.heap.size 0 Z).setCells w.heap.size 0 Z) w.heap.size 0 Z := World.rangeAt_setCells_same _ _ _ _ HTR.out
      refine bodyPost_ret (v := .tuple #[.agg Z.toArray, .int .i64 1]) (results_cell_mid2 Tryz.results65 _ _ w.heap.size 0 _ _ rfl hr Tryz.underlying56 rfl HI2.out) rfl ?_
      have hall : Below w.heap.size w (((w3.alloc (.cells Z.toArray 56)).setCells w3.heap.size 0 Z).setCells w.heap.size 0 Z) := ((HB2.out.trans (HB3.out.mono HB2.out.size)).trans (HN3.out.mono (by omega))).trans (setCells_below (Nat.le_refl _) _ _ _)
      exact ⟨.inr (.inl ⟨rfl, hzr, by rw [HZ.out]⟩), Crc.Kept.below hall, HT.out.below hall⟩
    · obtain ⟨k, rfl⟩ : ∃ k : Nat, z = k := ⟨z.toNat, by omega⟩
      have hkl : k < (ints Y).length := by omega
      have HAT := hid (at_any b k (.slice ad Y.length cap) (ints Y) w2 HTB2.out (BySlS.mono HBY.out (fun g hg => ⟨by omega, hg.2⟩)) hkl)
      have HFA := hid (takeF_faults ((ints Y).drop k))
      go_wp2_with fail
      refine HAT.out.mono ?_
      rintro e w3 ⟨ar, cr, rfl, hby, hnm, hkk, htt⟩
      generalize hX : takeF ((ints Y).drop k) = X at *
      have HPL := hid (recA_length X.2.1.1 X.2.1.2.1 (.slice ar X.2.1.2.2.length cr) hnm.1)
      have HPO := hid (recA_one X.2.1.1 X.2.1.2.1 ar X.2.1.2.2.length cr)
      obtain ⟨C, hC⟩ : ∃ C, recA X.2.1.1 X.2.1.2.1 (.slice ar X.2.1.2.2.length cr) = C := ⟨_, rfl⟩
      rw [hC] at HPL HPO
      rw [hC]
      have HCs : Hid (C.toArray.size = 34) := HPL.out
      have HI : Hid ((Tryz.prog.info? 56).map (·.size) = some C.toArray.size) := by rw [Hid, HCs.out]; exact Tryz.info35
      have HOC : Hid (C.toArray.all (·.oneCell') = true) := all_oneCell_toArray HPO.out
      have hs3 := hkk.size
      have HTN : Hid (World.there (w3.alloc (.cells Z.toArray 56)) w3.heap.size 0 C.toArray.size) := by have h := there_new w3 Z 56; rw [HZL.out] at h; rw [Hid, HCs.out]; exact h
      have HRN : Hid (World.rangeAt ((w3.alloc (.cells Z.toArray 56)).setCells w3.heap.size 0 C) w3.heap.size 0 C) := World.rangeAt_setCells_same _ _ _ _ HTN.out
      have hn3 : Below w3.heap.size w3 ((w3.alloc (.cells Z.toArray 56)).setCells w3.heap.size 0 C) := ((Below.refl _ _).alloc (Nat.le_refl _) _).trans (setCells_below (Nat.le_refl _) _ _ _)
      have ht3 : ((w3.alloc (.cells Z.toArray 56)).setCells w3.heap.size 0 C).there w.heap.size 0 34 := there_below (there_kept HT2.out hkk (by omega) (by omega)) hn3 (by omega)
      have HTR : Hid (World.there ((w3.alloc (.cells Z.toArray 56)).setCells w3.heap.size 0 C) w.heap.size 0 C.toArray.size) := by rw [Hid, HCs.out]; exact ht3
      have HTZ : Hid (World.there ((w3.alloc (.cells Z.toArray 56)).setCells w3.heap.size 0 C) w.heap.size 0 Z.toArray.size) := by rw [Hid, HZs.out]; exact ht3
      have HN3 := hid hn3
      have HBY3 := hid (And.intro hby (And.intro hnm (And.intro hkk htt)))
      have HX := hid (And.intro hX hC)
      clear hby hnm hkk htt hn3 ht3 hX hC
      have HKALL : Hid (∀ D : List Value, Crc.Kept b w (((w3.alloc (.cells Z.toArray 56)).setCells w3.heap.size 0 C).setCells w.heap.size 0 D) ∧ TabX (((w3.alloc (.cells Z.toArray 56)).setCells w3.heap.size 0 C).setCells w.heap.size 0 D) b) := fun D => by
        have hV : Below w.heap.size w3 (((w3.alloc (.cells Z.toArray 56)).setCells w3.heap.size 0 C).setCells w.heap.size 0 D) := (HN3.out.mono (by omega)).trans (setCells_below (Nat.le_refl _) _ _ _)
        exact ⟨Kept.then ((Crc.Kept.below HB2.out).trans HBY3.out.2.2.1) hV, tabX_below HBY3.out.2.2.2 hV hbw⟩
      by_cases hx0 : X.1 = 0
      · have HX0 := hid hx0
        rw [hx0]
        clear hx0
        go_wp2_with (first
          | (refine wpList_store_mid (by rfl) 56 _ _ (by rfl) w3.heap.size 0 C.toArray (by rfl) (by rfl) HTN.out HI.out HOC.out ?_)
          | (refine wpList_load_mid (by rfl) 56 _ (by rfl) w3.heap.size 0 (by rfl) C _ HRN.out Tryz.underlying56 rfl HI.out ?_)
          | (refine wpList_store_mid (by rfl) 56 _ _ (by rfl) w.heap.size 0 C.toArray (by rfl) (by rfl) HTR.out HI.out HOC.out ?_))
        have hr : World.rangeAt (((w3.alloc (.cells Z.toArray 56)).setCells w3.heap.size 0 C).setCells w.heap.size 0 C) w.heap.size 0 C := World.rangeAt_setCells_same _ _ _ _ HTR.out
        refine bodyPost_ret (v := .tuple #[.agg C.toArray, .int .i64 0]) (results_cell_mid2 Tryz.results65 _ _ w.heap.size 0 _ _ rfl hr Tryz.underlying56 rfl HI.out) rfl ?_
        obtain ⟨hby, hnm, hkk, htt⟩ := HBY3.out
        obtain ⟨hX, hC⟩ := HX.out
        refine ⟨.inr (.inr (.inr ⟨k, rfl, rfl, hkl, by rw [hX]; exact HX0.out, ar, cr, by rw [hX, hC], ?_, by rw [hX]; exact hnm⟩)), HKALL.out C⟩
        rw [hX]
        have hV : Below w.heap.size w3 (((w3.alloc (.cells Z.toArray 56)).setCells w3.heap.size 0 C).setCells w.heap.size 0 C) := (HN3.out.mono (by omega)).trans (setCells_below (Nat.le_refl _) _ _ _)
        exact hby.agree (fun g hg => (setCells_block _ _ _ _ _ (by omega)).trans (HN3.out.block g hg.2)) (fun g hg => ⟨by omega, Nat.lt_of_lt_of_le hg.2 hV.size⟩)
      · have hx1 : ¬ X.1 = 1 := by
          rcases HFA.out with h | h
          · exact absurd h hx0
          · exact h.2.1
        obtain ⟨fx, hfx⟩ : ∃ fx, X.1 = fx := ⟨_, rfl⟩
        have HFX := hid hfx
        rw [hfx] at hx0 hx1 ⊢
        clear hfx
        go_wp2_with (first
          | (refine wpList_store_mid (by rfl) 56 _ _ (by rfl) w3.heap.size 0 C.toArray (by rfl) (by rfl) HTN.out HI.out HOC.out ?_)
          | (refine wpList_store_mid (by rfl) 56 _ _ (by rfl) w.heap.size 0 Z.toArray (by rfl) (by rfl) HTZ.out HI2.out H1.out ?_))
        have hr : World.rangeAt (((w3.alloc (.cells Z.toArray 56)).setCells w3.heap.size 0 C).setCells w.heap.size 0 Z) w.heap.size 0 Z := World.rangeAt_setCells_same _ _ _ _ HTZ.out
        refine bodyPost_ret (v := .tuple #[.agg Z.toArray, .int .i64 4]) (results_cell_mid2 Tryz.results65 _ _ w.heap.size 0 _ _ rfl hr Tryz.underlying56 rfl HI2.out) rfl ?_
        exact ⟨.inr (.inr (.inl ⟨k, rfl, rfl, hkl, by rw [HX.out.1, HFX.out]; exact hx0, by rw [HZ.out]⟩)), HKALL.out Z⟩
  · have hF' : ¬ ((F : Int) = 0) := by omega
    have HTZ : Hid (World.there w2 w.heap.size 0 Z.toArray.size) := by rw [Hid, HZs.out]; exact HT2.out
    go_wp2_with (refine wpList_store_mid (by rfl) 56 _ _ (by rfl) w.heap.size 0 Z.toArray (by rfl) (by rfl) HTZ.out HI2.out H1.out ?_)
    have hr : World.rangeAt (w2.setCells w.heap.size 0 Z) w.heap.size 0 Z := World.rangeAt_setCells_same _ _ _ _ HTZ.out
    refine bodyPost_ret (v := .tuple #[.agg Z.toArray, .int .i64 (F : Int)]) (results_cell_mid2 Tryz.results65 _ _ w.heap.size 0 _ _ rfl hr Tryz.underlying56 rfl HI2.out) rfl ?_
    have hall : Below w.heap.size w (w2.setCells w.heap.size 0 Z) := HB2.out.trans (setCells_below (Nat.le_refl _) _ _ _)
    exact ⟨.inl ⟨hF0, by rw [HZ.out]⟩, Crc.Kept.below hall, HT.out.below hall⟩
end Go.Proofs.YthmimipoooemjaaGreatDoor
end

section
/-
  Plain mathematics: frames laid one behind the other, and cut off anywhere, are scanned to those that are whole.
-/
namespace Go.Proofs.YthmimipoooemjaaGreatDoor

abbrev Rec : Type := Int × List Int × List Int
def frOf (r : Rec) : List Int := frameR r.1 r.2.1 r.2.2
def Rt (r : Rec) : Prop := RightR r.1 r.2.1 r.2.2
/-- Frames, one behind the other. -/
def cat : List Rec → List Int
  | [] => []
  | r :: rs => frOf r ++ cat rs
theorem cat_snoc (r : Rec) : ∀ rs : List Rec, cat (rs ++ [r]) = cat rs ++ frOf r
  | [] => by simp [cat]
  | x :: rs => by rw [List.cons_append, cat, cat, cat_snoc r rs, List.append_assoc]
/-- How many are whole in the first c bytes. -/
def cnt : List Rec → Nat → Nat
  | [], _ => 0
  | r :: rs, c => if (frOf r).length ≤ c then cnt rs (c - (frOf r).length) + 1 else 0
end Go.Proofs.YthmimipoooemjaaGreatDoor
end

section
/-
  What the reference's Take and Get answer.
-/
namespace Go.Proofs.YthmimipoooemjaaGreatDoor.Tlv
open Go.RowKit
attribute [local go_sem ↓] Go.wp_at_zero Go.wp_at_succ

theorem AgreeS.of {S : Nat → Prop} {L B : Nat} {w w' : World} (h : Agree L B w w') (hS : ∀ b, S b → L ≤ b ∧ b < B) : AgreeS S w w' := fun b hb => h b (hS b hb).1 (hS b hb).2

end Go.Proofs.YthmimipoooemjaaGreatDoor.Tlv
end

section
/-
  What the reference's Open does.
-/
namespace Go.Proofs.YthmimipoooemjaaGreatDoor.Crc
open Go.RowKit

end Go.Proofs.YthmimipoooemjaaGreatDoor.Crc
end

section
/-
  The document's Take.
-/
namespace Go.Proofs.YthmimipoooemjaaGreatDoor
open Go.RowKit Go.Shelf
open Tlv (Tr BySlS AgreeS Agree)
open Crc (hid Kept Tab)
theorem recA_set (k : Int) (nm : List Int) (v : Value) (j : Nat) (y : Int) (hj : j < nm.length) : recA k (nm.set j y) v = (recA k nm v).set (1 + j) (.int .u8 y) := by
  rw [recA, recA, Nat.add_comm 1 j, List.set_cons_succ, List.set_append_left _ _ (by rw [u8s_length]; exact hj)]
  simp [u8s, List.map_set]

theorem Half.put {w W : World} {k : Int} {nm : List Int} {v : Value} {g : Nat} (h : Half w W k nm v g) (hn : nm.length = 32) (j : Nat) (hj : j < 32) (y : Int) : Half w (W.setCell ⟨g, 1 + j, none⟩ (.int .u8 y)) k (nm.set j y) v g := by
  obtain ⟨h1, h2, h3, h4, h5⟩ := h
  have e : W.setCells g (1 + j) [.int .u8 y] = W.setCell ⟨g, 1 + j, none⟩ (.int .u8 y) := rfl
  refine ⟨h1.setCell (p := ⟨g, 1 + j, none⟩) h2 _, h2, by simpa using h3, fun i u hi => ?_, by rw [← e]; exact World.there_setCells h5 _ _ _⟩
  rw [recA_set _ _ _ _ _ (by omega), List.getElem?_set] at hi
  rw [Nat.zero_add]
  by_cases hq : 1 + j = i
  · subst hq
    rw [if_pos rfl, if_pos (by rw [recA_length _ _ _ hn]; omega)] at hi
    obtain ⟨u', hs⟩ := Option.isSome_iff_exists.1 (h5 (1 + j) (by omega)).1
    rw [Nat.zero_add] at hs
    rw [World.cell?_setCell_same _ _ _ hs]
    exact hi
  · rw [if_neg hq] at hi
    rw [World.cell?_setCell_other _ _ _ _ (by simp only [ne_eq, Addr.mk.injEq, and_true, true_and]; omega)]
    have := h4 i u hi
    rwa [Nat.zero_add] at this

end Go.Proofs.YthmimipoooemjaaGreatDoor
end

section
/-
  The document's Scan.
-/
namespace Go.Proofs.YthmimipoooemjaaGreatDoor
open Go.RowKit Go.Shelf
open Tlv (Tr BySlS AgreeS Agree)
open Crc (hid Kept Tab)

theorem wpList_val {P : Program} {ops : Array Oper} {rest : List Oper} {o : Oper} {a : Act} {Q : Exit → Act → World → Prop} {w w' : World} {v : Value} (hgd : o.guard = none) (hr : (execOp a.eval o).run P w = .ok (.value v) w') (h : wpList P ops Q rest (a.put o.dst v) w') : wpList P ops Q (o :: rest) a w :=
  wpList_plain hgd fun _ hK => by unfold Oper.wp; rw [hr]; exact hK _ _ h

end Go.Proofs.YthmimipoooemjaaGreatDoor
end

section
/-
  FrameTurned, walked: a frame of which bits within 32 are turned, behind its first three bytes, is none.
-/
namespace Go.Proofs.YthmimipoooemjaaGreatDoor
open Go.RowKit
open Tlv (Tr BySlS AgreeS Agree)
open Crc (hid Kept Tab turn)
/-- The row at g holds xs in wr; all else is as it was. -/
def Held (g : Nat) (W wr : World) (xs : List Nat) : Prop :=
  Kept g W wr ∧ wr.heap.size = W.heap.size ∧ (∀ j, j < xs.length → wr.cell? ⟨g, j, none⟩ = some (.int .u8 (xs.getD j 0 : Nat))) ∧ ∀ j, wr.frozen? ⟨g, j, none⟩ = false

theorem Held.set {g : Nat} {W wr : World} {xs : List Nat} (h : Held g W wr xs) (j x : Nat) (hj : j < xs.length) : Held g W (wr.setCell ⟨g, j, none⟩ (.int .u8 (x : Nat))) (xs.set j x) := by
  obtain ⟨h1, h2, h3, h4⟩ := h
  refine ⟨h1.setCell rfl _, by simpa using h2, fun i hi => ?_, fun i => by simpa using h4 i⟩
  simp only [List.length_set] at hi
  by_cases e : j = i
  · subst e
    rw [World.cell?_setCell_same _ _ _ (h3 j hj)]
    simp [hj]
  · rw [World.cell?_setCell_other _ _ _ _ (by simp only [ne_eq, Addr.mk.injEq, true_and, and_true]; omega), h3 i hi]
    simp [e]

end Go.Proofs.YthmimipoooemjaaGreatDoor
end

section
/-
  Three rows that a call builds side by side: bytes, ends, records.
-/
namespace Go.Proofs.YthmimipoooemjaaGreatDoor
open Go.RowKit Go.Shelf
open Tlv (Tr BySlS AgreeS Agree)
open Crc (hid Kept Tab)

/-- One of the list: a record, and where its body lies. -/
abbrev El : Type := Rec × Option Addr × Nat
def elV (z : El) : Value := .slice z.2.1 z.1.2.2.length z.2.2
def elC (z : El) : List Value := recA z.1.1 z.1.2.1 (elV z)
def elOk (z : El) : Prop := z.1.2.1.length = 32 ∧ ∀ y ∈ z.1.2.1, 0 ≤ y ∧ y ≤ 255
def recsC : List El → List Value
  | [] => []
  | z :: zs => elC z ++ recsC zs
def nums (l : List Nat) : List Value := l.map fun (n : Nat) => Value.int .i64 (n : Int)

theorem infoR : (Tryz.prog.info? 68).map (fun i => (i.zero, i.size, i.bytes)) = some (some (.agg zRec.toArray), 34, 64) := by kernel_rfl

/-- The three rows, in blocks from B on, each in one of its own; all else from w1 on is as it was, the table's block b left out. -/
structure R3 (B b : Nat) (w1 wr : World) (va ve vw : Value) (xa : List Int) (xe : List Nat) (zs : List El) : Prop where
  kept : Kept b w1 wr
  tab : TabX wr b
  all : wr.ownsRow B 5 1 va xa.length (u8s xa)
  ends : wr.ownsRow B 3 1 ve xe.length (nums xe)
  want : wr.ownsRow B 68 34 vw zs.length (recsC zs)
  ae : ∀ q, va.ownBlock = some q → ve.ownBlock ≠ some q
  aw : ∀ q, va.ownBlock = some q → vw.ownBlock ≠ some q
  ew : ∀ q, ve.ownBlock = some q → vw.ownBlock ≠ some q

theorem R3.start {b : Nat} {w1 : World} (h : TabX w1 b) : R3 w1.heap.size b w1 w1 (.slice none 0 0) (.slice none 0 0) (.slice none 0 0) [] [] [] :=
  ⟨Kept.refl _ _, h, World.ownsRow_nil _ _ _ _, World.ownsRow_nil _ _ _ _, World.ownsRow_nil _ _ _ _, fun _ h => (by cases h), fun _ h => (by cases h), fun _ h => (by cases h)⟩

theorem ownsRow_of_kept {ty : TypeId} {base b n k : Nat} {w w' : World} {v : Value} {cs : List Value} (h : w.ownsRow base ty k v n cs) (hk : Kept b w w') (hb : b < base) : w'.ownsRow base ty k v n cs := by
  refine ⟨h.1, ?_⟩
  rcases h.2 with h2 | ⟨g, cap, cur, hv, hg, hh, r⟩
  · exact Or.inl h2
  · exact Or.inr ⟨g, cap, cur, hv, hg, (hk.block g (Array.getElem?_eq_some_iff.1 hh).1 (by omega)).trans hh, r⟩

section
variable {B b : Nat} {w1 wr W : World} {va ve vw : Value} {xa : List Int} {xe : List Nat} {zs : List El}

theorem R3.on (h : R3 B b w1 wr va ve vw xa xe zs) (hk : Kept b wr W) (ht : TabX W b) (hb : b < B) : R3 B b w1 W va ve vw xa xe zs :=
  ⟨h.kept.trans hk, ht, ownsRow_of_kept h.all hk hb, ownsRow_of_kept h.ends hk hb, ownsRow_of_kept h.want hk hb, h.ae, h.aw, h.ew⟩
theorem R3.below (h : R3 B b w1 wr va ve vw xa xe zs) (hk : Below wr.heap.size wr W) (hb : b < B) : R3 B b w1 W va ve vw xa xe zs := h.on (Kept.below hk) (h.tab.below hk) hb

end
end Go.Proofs.YthmimipoooemjaaGreatDoor
end

section
/-
  lose, Up.
-/
namespace Go.Proofs.YthmimipoooemjaaGreatDoor.Sim
open Go.RowKit Go.Maps

set_option maxHeartbeats 2000000 in
theorem lose_raw (W : World) (b n cap m : Nat) (a : Option Addr) (k : Int) (hb : Blk W b 135 [.slice a n cap, .int .i64 (m : Int)]) (hn : n ≤ cap) (hm : m ≤ n) (hN : n ≤ 20000000) :
    Calls Tryz.prog 63 #[.pointer (some ⟨b, 0, none⟩), .int .i64 k] W fun e w' => e = .returned (.tuple #[]) ∧ ∃ W1, Kp No W W1 ∧
      w' = (W1.setCell ⟨b, 0, none⟩ (.slice a (m + min (max k 0).toNat (n - m)) cap)).setCell ⟨b, 1, none⟩ (.int .i64 ((m + min (max k 0).toNat (n - m) : Nat) : Int)) := by
  have c0 : W.cell? ⟨b, 0, none⟩ = some (.slice a n cap) := hb.cell 0
  have c1 : W.cell? ⟨b, 1, none⟩ = some (.int .i64 (m : Int)) := hb.cell 1
  have f0 := hb.frozen 0
  have f1 := hb.frozen 1
  clear hb
  obtain ⟨r, hr⟩ : ∃ r : Nat, min (max k 0).toNat (n - m) = r := ⟨_, rfl⟩
  have hrI : min (max k 0) ((n : Int) - (m : Int)) = (r : Int) := by rw [← hr]; omega
  have hrm : m + r ≤ n := by rw [← hr]; omega
  rw [hr]
  clear hr
  have hrc : m + r ≤ cap := by omega
  have hI0 : (0 : Int) ≤ (m : Int) + (r : Int) := by omega
  have hI1 : (m : Int) + (r : Int) ≤ (cap : Int) := by omega
  go_enter Tryz.func63, Tryz.ntmps63
  go_wp2_with fail
  go_region
  all_goals
    go_wp2_with fail
    go_region
    all_goals
      go_wp2
      go_end0
      exact ⟨rfl, W.drew.drew, (Kp.refl _ _).drew.drew, rfl⟩

/-- A row's front. -/
theorem OwnB.front {w : World} {a : Option Addr} {n0 cap : Nat} {bs : List Nat} (h : OwnB w (.slice a n0 cap) bs) (j : Nat) (hj : j ≤ bs.length) : OwnB w (.slice a j cap) (bs.take j) := by
  have hl : (bs.take j).length = j := List.length_take_of_le hj
  have hcl : cl (bs.take j) = (cl bs).take j := by simp [cl, List.map_take]
  rcases h.row.2 with ⟨e, e2⟩ | ⟨g, cap', cur, e, hb, hh, h1, h2, h3, h4⟩
  · cases e
    have : bs = [] := List.length_eq_zero_iff.1 e2
    subst this
    have : j = 0 := by simpa using hj
    subst this
    exact OwnB.nil _
  · cases e
    refine ⟨by rw [cl_length]; omega, .inr ⟨g, cap, cur, by rw [hl], hb, hh, by omega, h2, h3, ?_⟩⟩
    rw [hcl, ← h4, List.take_take, hl]
    congr 1
    omega

theorem lose_len (k : Int) (f : Fl) (h : f.safe ≤ f.b.length) : (lose k f).b = f.b.take (f.safe + min (max k 0).toNat (f.b.length - f.safe)) ∧ (lose k f).b.length = f.safe + min (max k 0).toNat (f.b.length - f.safe) ∧ (lose k f).safe = f.safe + min (max k 0).toNat (f.b.length - f.safe) ∧ f.safe + min (max k 0).toNat (f.b.length - f.safe) ≤ f.b.length := by
  have h1 : f.safe + min (max k 0).toNat (f.b.length - f.safe) ≤ f.b.length := by omega
  have h2 : (f.b.take (f.safe + min (max k 0).toNat (f.b.length - f.safe))).length = f.safe + min (max k 0).toNat (f.b.length - f.safe) := List.length_take_of_le h1
  exact ⟨rfl, h2, h2, h1⟩

/-- lose, of a file of the system. -/
theorem lose_any {P : Nat → Prop} {I J : PS → Prop} (W : World) (s b : Nat) (q : PS) (vs vf vc : Value) (u : Nat → Value) (f : Fl) (k : Int) (h : Rp P I W s q vs vf vc u) (hb : q.files b = some f) (hl : f.b.length ≤ 20000000) (hi : J (setF b (lose k f) q)) :
    Calls Tryz.prog 63 #[.pointer (some ⟨b, 0, none⟩), .int .i64 k] W fun e w' => e = .returned (.tuple #[]) ∧ ∃ u', Rp P J w' s (setF b (lose k f) q) vs vf vc u' ∧ Kp P W w' := by
  obtain ⟨hPb, hFb, hPu⟩ := h.file b f hb
  obtain ⟨a, cap, hv, hle, hcap, hnil⟩ := hFb.own.shape
  obtain ⟨l1, l2, l3, l4⟩ := lose_len k f hFb.le
  have hblk := hFb.blk
  rw [hv] at hblk
  refine (lose_raw W b f.b.length cap f.safe a k hblk hle hFb.le hl).mono ?_
  rintro e w' ⟨rfl, W1, k1, rfl⟩
  generalize hj : f.safe + min (max k 0).toNat (f.b.length - f.safe) = j at *
  have kb : Kp (· = b) W1 ((W1.setCell ⟨b, 0, none⟩ (.slice a j cap)).setCell ⟨b, 1, none⟩ (.int .i64 (j : Int))) := (Kp.set1 _ _ _ _).trans (Kp.set1 _ _ _ _) (fun x hx => .inl hx)
  have K : Kp (fun k => k = b ∨ (u b).ownBlock = some k) W ((W1.setCell ⟨b, 0, none⟩ (.slice a j cap)).setCell ⟨b, 1, none⟩ (.int .i64 (j : Int))) := (k1.mono (fun _ h => h.elim)).trans kb (fun x hx => .inl (.inl hx))
  have hown : OwnB W1 (.slice a j cap) (f.b.take j) := ((by rw [hv] at hFb; exact hFb.own.kept k1 : OwnB W1 (.slice a f.b.length cap) f.b)).front j l4
  have hbk : (Value.slice a j cap).ownBlock = (u b).ownBlock := by rw [hv]; cases a <;> rfl
  have hF : FileAt ((W1.setCell ⟨b, 0, none⟩ (.slice a j cap)).setCell ⟨b, 1, none⟩ (.int .i64 (j : Int))) b (.slice a j cap) (lose k f) := by
    refine ⟨?_, ?_, fun x hx => hFb.byt x (List.mem_of_mem_take (by rw [l1] at hx; exact hx)), by rw [l2, l3]; exact Nat.le_refl _⟩
    · have := ((hFb.blk.kp k1 (fun h => h)).setCell 0 (.slice a j cap)).setCell 1 (.int .i64 (j : Int))
      rw [l3]
      exact this
    · rw [l1]
      exact hown.row.kp kb (fun x hx e => by
        rw [hbk] at hx
        exact hFb.own.row.ne hFb.blk (by decide) (by rw [hx, e]))
  obtain ⟨r1, r2⟩ := rq_setF (P' := P) (J := J) h hb K hF (fun x hx => .inl (by rw [← hbk]; exact hx)) (fun _ h => h) (fun x hx => Nat.lt_of_lt_of_le (h.lt x hx) K.size) (fun x hx => hPu x (by rw [← hbk]; exact hx)) hi
  exact ⟨rfl, _, r1, r2⟩

/-! ### Up -/
/-- A slice of numbers that is read. -/
def IntsAt (Q : Nat → Prop) (w : World) (v : Value) (zs : List Int) : Prop :=
  ∃ a cap, v = .slice a zs.length cap ∧ zs.length ≤ cap ∧ cap ≤ maxLen ∧ zs.length ≤ 1000 ∧ (zs ≠ [] → ∃ g o, a = some ⟨g, o, none⟩ ∧ Q g ∧ g < w.heap.size ∧ ∀ i, i < zs.length → w.cell? ⟨g, o + i, none⟩ = some (.int .i64 (zs.getD i 0)))
theorem IntsAt.kp {Q L : Nat → Prop} {w w' : World} {v : Value} {zs : List Int} (h : IntsAt Q w v zs) (k : Kp L w w') (hL : ∀ x, L x → ¬ Q x) : IntsAt Q w' v zs := by
  obtain ⟨a, cap, h1, h2, h3, h4, h5⟩ := h
  refine ⟨a, cap, h1, h2, h3, h4, fun hne => ?_⟩
  obtain ⟨g, o, e, hq, hg, hc⟩ := h5 hne
  exact ⟨g, o, e, hq, Nat.lt_of_lt_of_le hg k.size, fun i hi => (k.cell (p := ⟨g, o + i, none⟩) hg (fun hl => hL g hl hq)).trans (hc i hi)⟩
theorem IntsAt.nil (Q : Nat → Prop) (w : World) : IntsAt Q w (.slice none 0 0) [] := ⟨none, 0, rfl, Nat.le_refl _, Nat.zero_le _, Nat.zero_le _, fun h => absurd rfl h⟩

theorem loses_snoc (e : Nm × Nat) (cuts : List Int) : ∀ (l : Dir) (i : Nat) (p : PS), loses (l ++ [e]) i cuts p = setF e.2 (lose (cuts.getD (i + l.length) 0) (fileAt (loses l i cuts p) e.2)) (loses l i cuts p)
  | [], i, p => by simp [loses]
  | x :: r, i, p => by
    rw [List.cons_append, loses, loses_snoc e cuts r (i + 1)]
    have : i + 1 + r.length = i + (x :: r).length := by simp; omega
    rw [this]
    rfl
theorem loses_same (cuts : List Int) : ∀ (l : Dir) (i : Nat) (p : PS), (loses l i cuts p).safe = p.safe ∧ (loses l i cuts p).seen = p.seen ∧ (loses l i cuts p).chg = p.chg ∧ (loses l i cuts p).made = p.made ∧ (loses l i cuts p).room = p.room ∧ (loses l i cuts p).steps = p.steps
  | [], _, _ => ⟨rfl, rfl, rfl, rfl, rfl, rfl⟩
  | x :: r, i, p => by
    rw [loses]
    exact loses_same cuts r (i + 1) _
theorem loses_files (cuts : List Int) (B : Nat) : ∀ (l : Dir) (i : Nat) (p : PS), (∀ b f, p.files b = some f → f.b.length ≤ B) → (∀ b f, (loses l i cuts p).files b = some f → f.b.length ≤ B) ∧ ∀ b, ((p.files b).isSome = true → ((loses l i cuts p).files b).isSome = true)
  | [], _, _, h => ⟨h, fun _ h => h⟩
  | x :: r, i, p, h => by
    rw [loses]
    obtain ⟨h1, h2⟩ := loses_files cuts B r (i + 1) (setF x.2 (lose (cuts.getD i 0) (fileAt p x.2)) p) (fun b f hf => by
      have hf' : (if b = x.2 then some (lose (cuts.getD i 0) (fileAt p x.2)) else p.files b) = some f := hf
      split at hf'
      · cases hf'
        have hlen : (lose (cuts.getD i 0) (fileAt p x.2)).b.length ≤ (fileAt p x.2).b.length := List.length_take_le' _ _
        refine Nat.le_trans hlen ?_
        unfold fileAt
        cases hx : p.files x.2 with
        | none => simp
        | some g => exact h _ g hx
      · exact h b f hf')
    refine ⟨h1, fun b hb => h2 b ?_⟩
    show (if b = x.2 then some (lose (cuts.getD i 0) (fileAt p x.2)) else p.files b).isSome = true
    split
    · rfl
    · exact hb
theorem inv_up {N : Nat} {p : PS} (h : PInv N p) (hr : Ris p.safe) (k : Int) (cuts : List Int) : PInv N (pUp k cuts p) := by
  obtain ⟨n, hn, hn2⟩ : ∃ n, min (max k 0).toNat p.chg.length = n ∧ n ≤ p.chg.length := ⟨_, rfl, by omega⟩
  have e : pUp k cuts p = { loses ((p.chg.take n).foldl pdo p.safe) 0 cuts (settle n p) with seen := (loses ((p.chg.take n).foldl pdo p.safe) 0 cuts (settle n p)).safe, down := false, armed := false, left := 0 } := by
    unfold pUp
    rw [hn]
    rfl
  rw [e]
  obtain ⟨s1, s2, s3, s4, s5, s6⟩ := loses_same cuts ((p.chg.take n).foldl pdo p.safe) 0 (settle n p)
  obtain ⟨f1, f2⟩ := loses_files cuts (12000 * N) ((p.chg.take n).foldl pdo p.safe) 0 (settle n p) h.lfile
  have s1' : (loses ((p.chg.take n).foldl pdo p.safe) 0 cuts (settle n p)).safe = (p.chg.take n).foldl pdo p.safe := s1
  have s3' : (loses ((p.chg.take n).foldl pdo p.safe) 0 cuts (settle n p)).chg = [] := s3
  have hfn := fold_names h n
  refine {
    seen_eq := by show _ = List.foldl pdo _ _; rw [s3']; rfl
    okc := by show okcs _ _; rw [s3']; trivial
    has := fun x hx => ?_
    hasC := fun c hc => ?_
    nodup := ?_
    nmS := fun x hx => ?_
    nmC := fun c hc => ?_
    nmade := fun hm => ?_
    room := by show _ ≤ _; rw [s5]; exact h.room
    left := Nat.zero_le _
    steps := by show _ ≤ _; rw [s6]; exact h.steps
    lsum := ?_
    lfile := f1
    big := h.big }
  · have hx' : x ∈ (p.chg.take n).foldl pdo p.safe := by rw [← s1']; exact hx
    exact f2 x.2 ((hfn x hx').1)
  · have hc' : c ∈ (loses ((p.chg.take n).foldl pdo p.safe) 0 cuts (settle n p)).chg := hc
    rw [s3'] at hc'
    simp at hc'
  · show (List.map _ (loses ((p.chg.take n).foldl pdo p.safe) 0 cuts (settle n p)).safe ++ List.map _ (List.filter _ (loses ((p.chg.take n).foldl pdo p.safe) 0 cuts (settle n p)).chg)).Nodup
    rw [s3', s1']
    have hd := h.nodup
    have h2 := nodup_fold (p.chg.take n) (p.chg.drop n) p.safe hr (by
      have := h.okc
      rw [← List.take_append_drop n p.chg, okcs_append] at this
      exact this.1) (by rw [List.take_append_drop]; exact hd)
    rw [List.nodup_append] at h2
    simpa [vals] using h2.1
  · have hx' : x ∈ (p.chg.take n).foldl pdo p.safe := by rw [← s1']; exact hx
    exact (hfn x hx').2
  · have hc' : c ∈ (loses ((p.chg.take n).foldl pdo p.safe) 0 cuts (settle n p)).chg := hc
    rw [s3'] at hc'
    simp at hc'
  · have hm' : (loses ((p.chg.take n).foldl pdo p.safe) 0 cuts (settle n p)).made = false := hm
    rw [s4] at hm'
    obtain ⟨h1, h2⟩ := h.nmade hm'
    refine ⟨s3', ?_⟩
    show (loses ((p.chg.take n).foldl pdo p.safe) 0 cuts (settle n p)).safe = []
    rw [s1', h1, h2]
    simp
  · show (loses ((p.chg.take n).foldl pdo p.safe) 0 cuts (settle n p)).safe.length + (loses ((p.chg.take n).foldl pdo p.safe) 0 cuts (settle n p)).chg.length ≤ N
    rw [s1', s3']
    have h1 := length_fold (p.chg.take n) p.safe
    have h2 := List.length_take_le n p.chg
    have := h.lsum
    have h3 : (p.chg.take n).length ≤ p.chg.length := by simp; omega
    simp only [List.length_nil]
    omega

end Go.Proofs.YthmimipoooemjaaGreatDoor.Sim
end

section
/-
  Up.
-/
namespace Go.Proofs.YthmimipoooemjaaGreatDoor.Sim
open Go.RowKit Go.Maps

/-- What holds while Up goes on. -/
def UpI (N : Nat) (d : Dir) : PS → Prop := fun p => (∀ b f, p.files b = some f → f.b.length ≤ 12000 * N) ∧ (∀ e ∈ d, (p.files e.2).isSome = true) ∧ p.safe = d ∧ N ≤ 1000

/-- Where Up stands, i names through. -/
def UpAt (P : Nat → Prop) (N : Nat) (w : World) (s : Nat) (q : PS) (d : Dir) (cuts : List Int) (vs : Value) (mo : Option Nat) (i : Nat) (wr : World) : Prop :=
  ∃ u, Rp P (UpI N d) wr s (loses (d.take i) 0 cuts q) vs (.map mo) (.slice none 0 0) u ∧ Kp P w wr

theorem upI_step {N : Nat} {d : Dir} {q : PS} {b : Nat} {f : Fl} {k : Int} (h : UpI N d q) (hf : q.files b = some f) : UpI N d (setF b (lose k f) q) := by
  refine ⟨fun x g hg => ?_, fun e he => ?_, h.2.2.1, h.2.2.2⟩
  · have hg' : (if x = b then some (lose k f) else q.files x) = some g := hg
    split at hg'
    · cases hg'
      exact Nat.le_trans (List.length_take_le' _ _) (h.1 b f hf)
    · exact h.1 x g hg'
  · show (if e.2 = b then some (lose k f) else q.files e.2).isSome = true
    split
    · rfl
    · exact h.2.1 e he

/-- At the end of Up. -/
theorem up_end {P : Nat → Prop} {N : Nat} {w wr w2 : World} {s : Nat} {q : PS} {vs vs' : Value} {mo : Option Nat} {u : Nat → Value} (h : Rp P (UpI N q.safe) wr s q vs (.map mo) (.slice none 0 0) u) (hq : q.chg = [])
    (hv : (mo = none ∧ vs' = .map none ∧ w2 = wr) ∨ ∃ b, mo = some b ∧ vs' = .map (some wr.heap.size) ∧ MapAt w2 wr.heap.size q.safe) (k2 : Kp No wr w2) (hk : Kp P w wr)
    (hi : PInv N { q with seen := q.safe, down := false, armed := false, left := 0 }) :
    Done P N w ((((w2.setCell ⟨s, 1, none⟩ vs').setCell ⟨s, 4, none⟩ (.bool false)).setCell ⟨s, 5, none⟩ (.bool false)).setCell ⟨s, 6, none⟩ (.int .i64 0)) s { q with seen := q.safe, down := false, armed := false, left := 0 } := by
  have hR := h.kp k2 (fun _ h => h.elim)
  have k4 : Kp (· = s) w2 ((((w2.setCell ⟨s, 1, none⟩ vs').setCell ⟨s, 4, none⟩ (.bool false)).setCell ⟨s, 5, none⟩ (.bool false)).setCell ⟨s, 6, none⟩ (.int .i64 0)) :=
    (((Kp.set1 _ _ _ _).trans (Kp.set1 _ _ _ _) (fun x hx => .inl hx)).trans (Kp.set1 _ _ _ _) (fun x hx => .inl hx)).trans (Kp.set1 _ _ _ _) (fun x hx => .inl hx)
  have hb := (((hR.blk.setCell 1 vs').setCell 4 (.bool false)).setCell 5 (.bool false)).setCell 6 (.int .i64 0)
  generalize hw' : (((w2.setCell ⟨s, 1, none⟩ vs').setCell ⟨s, 4, none⟩ (.bool false)).setCell ⟨s, 5, none⟩ (.bool false)).setCell ⟨s, 6, none⟩ (.int .i64 0) = w' at *
  have hz : w2.heap.size = w'.heap.size := by rw [← hw']; simp
  have hsl := hR.lt s hR.ps
  refine ⟨fun x => P x ∨ (wr.heap.size = x ∧ mo ≠ none), ⟨vs', .map mo, .slice none 0 0, u, ?_⟩, ((hk.andNone k2).trans k4 (fun x hx => .inl (by subst hx; exact h.ps))), fun x hx => by
    rcases hx with hx | hx
    · exact .inl hx
    · exact .inr (by have := hk.size; omega)⟩
  have hnew : ∀ b, mo = some b → wr.heap.size < w2.heap.size := fun b e => by
    rcases hv with ⟨e1, _⟩ | ⟨b', _, _, hm⟩
    · rw [e] at e1; cases e1
    · exact hm.lt
  exact {
    lt := fun x hx => by
      rcases hx with hx | ⟨hx, hm⟩
      · have := h.lt x hx; have := k2.size; omega
      · cases mo with
        | none => exact absurd rfl hm
        | some b => have := hnew b rfl; omega
    ps := .inl h.ps
    blk := hb
    seen := by
      rcases hv with ⟨e1, e2, e3⟩ | ⟨b, e1, e2, hm⟩
      · refine .inl ⟨e2, ?_⟩
        rcases h.safe with ⟨_, h2⟩ | ⟨b, h1, _⟩
        · exact h2
        · rw [e1] at h1; cases h1
      · exact .inr ⟨_, e2, hm.kp k4 (hm.blk hR.blk)⟩
    safe := by
      rcases hR.safe with ⟨h1, h2⟩ | ⟨b, h1, h2⟩
      · exact .inl ⟨h1, h2⟩
      · exact .inr ⟨b, h1, h2.kp k4 (h2.blk hR.blk)⟩
    unmade := fun e => by
      obtain ⟨e1, e2⟩ := h.unmade e
      rcases hv with ⟨_, e3, _⟩ | ⟨b, e3, _⟩
      · exact ⟨e3, e2⟩
      · rw [e3] at e2; cases e2
    mades := fun e => by
      obtain ⟨a, b, h1, h2, h3, h4, h5⟩ := h.mades e
      rcases hv with ⟨e1, _⟩ | ⟨b', e1, e2, hm⟩
      · rw [e1] at h2; cases h2
      · have : b = b' := by rw [e1] at h2; cases h2; rfl
        refine ⟨wr.heap.size, b, e2, h2, ?_, .inr ⟨rfl, by rw [e1]; simp⟩, .inl h5⟩
        have := h.lt b h5
        omega
    chg := by show Row _ _ _ _ q.chg.length _; rw [hq]; exact Row.nil _ _ _
    pc := by simp [Value.ownBlock]
    file := fun b f hf => by
      obtain ⟨h1, h2, h3⟩ := hR.file b f hf
      exact ⟨.inl h1, h2.kp k4 (h2.blk.ne hR.blk (by decide)) (fun x hx e => h2.own.row.ne hR.blk (by decide) (by rw [hx, e])), fun x hx => .inl (h3 x hx)⟩
    sep := h.sep
    inv := hi }

set_option maxHeartbeats 4000000 in
set_option maxRecDepth 100000 in
theorem up_any {P Q : Nat → Prop} {N : Nat} (w : World) (s : Nat) (p : PS) (k : Int) (v : Value) (cuts : List Int) (h : Sys P N w s p) (hv : IntsAt Q w v cuts) (hQ : ∀ x, Q x → ¬ P x) :
    Calls Tryz.prog 23 #[.pointer (some ⟨s, 0, none⟩), .int .i64 k, v] w fun e w' => e = .returned (.int .i64 0) ∧ Done P N w w' s (pUp k cuts p) := by
  have hI := h.inv
  obtain ⟨vs, vf, vc, u, hR⟩ := h
  obtain ⟨mo, rfl⟩ := hR.safe.shape
  obtain ⟨ac, cc, hvc, _⟩ := hR.chg.shape
  obtain ⟨n, hn, hn2⟩ : ∃ n, min (max k 0).toNat p.chg.length = n ∧ n ≤ p.chg.length := ⟨_, rfl, by omega⟩
  have hnI : min (max k 0) (p.chg.length : Int) = (n : Int) := by rw [← hn]; omega
  have hbig := hI.big
  have hsl := hR.lt s hR.ps
  have hps := hR.ps
  have c3 : w.cell? ⟨s, 3, none⟩ = some (.slice ac p.chg.length cc) := by rw [← hvc]; exact hR.c 3
  have HUP : Hid (pUp k cuts p = { loses ((p.chg.take n).foldl pdo p.safe) 0 cuts (settle n p) with seen := (loses ((p.chg.take n).foldl pdo p.safe) 0 cuts (settle n p)).safe, down := false, armed := false, left := 0 }) := by
    unfold Hid pUp
    rw [hn]
    rfl
  have HINV := hid (inv_up hI hR.safe.ris k cuts)
  have hfn := fold_names hI n
  have hrs : Ris ((p.chg.take n).foldl pdo p.safe) := hR.safe.ris.fold _
  -- settle
  have HST : Hid (Calls Tryz.prog 61 #[.pointer (some ⟨s, 0, none⟩), .int .i64 (n : Int)] w fun e w' => e = .returned (.tuple #[]) ∧ UpAt P N w s (settle n p) ((p.chg.take n).foldl pdo p.safe) cuts vs mo 0 w') := by
    refine (settle_raw w s p vs vc mo u n hR hn2 hI.okc hI.nmC (by have := hI.lsafe; omega) (by have := hI.lchg; omega) hI.nmade).mono ?_
    rintro e w' ⟨rfl, W1, hm1, hk1, hw1⟩
    obtain ⟨hS, hK⟩ := rq_settle (J := UpI N ((p.chg.take n).foldl pdo p.safe)) hR hm1 hk1 hw1 ⟨hI.lfile, fun e he => (hfn e he).1, rfl, hbig⟩
    exact ⟨rfl, u, hS, hK⟩
  have hdl : Hid (((p.chg.take n).foldl pdo p.safe).length ≤ 1000) := by
    have h1 := length_fold (p.chg.take n) p.safe
    have h2 : (p.chg.take n).length ≤ p.chg.length := by simp; omega
    have := hI.lsum
    show _ ≤ _
    omega
  have hq0 : Hid ((settle n p).chg = []) := rfl
  have HFN := hid hfn
  have HRS := hid hrs
  have HV := hid hv
  have HQ := hid hQ
  obtain ⟨av, cv, rfl, hv1, hv2, hv3, _⟩ := hv
  rw [HUP.out] at HINV ⊢
  generalize hd : (p.chg.take n).foldl pdo p.safe = d at *
  generalize settle n p = q at *
  clear hn hfn hrs hd hI hR hvc HUP hQ
  generalize p.chg.length = M at *
  go_enter Tryz.func23, Tryz.ntmps23
  go_wp2_with fail
  refine (HST.out).mono ?_
  rintro e w1 ⟨rfl, hU⟩
  have HU := hid hU
  obtain ⟨u1, hR1, hK1⟩ := hU
  have c2 : w1.cell? ⟨s, 2, none⟩ = some (.map mo) := hR1.c 2
  have hsafe1 : MapV w1 (.map mo) d := by have := hR1.safe; rw [hR1.inv.2.2.1] at this; exact this
  have HN := hid (names_any w1 (.map mo) d hsafe1 (by have := hdl.out; omega))
  have hsz1 := hK1.size
  clear hR1 hK1 hsafe1 HST
  go_wp2_with fail
  refine (HN.out).mono ?_
  rintro e w2 ⟨un, rfl, ho, hnew, hk2⟩
  have HO := hid ho
  have HNEW := hid hnew
  have HU2 : Hid (UpAt P N w s q d cuts vs mo 0 w2) := by
    obtain ⟨u1, hR1, hK1⟩ := HU.out
    exact ⟨u1, hR1.kp hk2 (fun _ h => h.elim), hK1.andNone hk2⟩
  obtain ⟨an, cn, hun, hn1, hn2', hn3, hn4⟩ := ho.shape
  subst hun
  have hsz2 := hk2.size
  -- the names stay
  have HNM : Hid (∀ wr, Kp P w2 wr → ∀ i, (hi : i < d.length) → ∃ g, an = some ⟨g, 0, none⟩ ∧ wr.cell? ⟨g, i, none⟩ = some (.string (sOf (d[i]).1))) := fun wr kw i hi => by
    obtain ⟨g, hg⟩ : ∃ g, an = some ⟨g, 0, none⟩ := by
      rcases HO.out.2 with ⟨e1, e2⟩ | ⟨g, cap', cur, e1, _⟩
      · simp at e2; subst e2; simp at hi
      · cases e1; exact ⟨g, rfl⟩
    refine ⟨g, hg, ?_⟩
    subst hg
    have hgP : ¬ P g := fun hp => by
      obtain ⟨u1, hR1, hK1⟩ := HU.out
      have h1 := hR1.lt g hp
      have h2 := HNEW.out g rfl
      omega
    have h3 := HO.out.kp kw (fun x hx => by cases hx; exact hgP)
    have hr3 : Row wr 9 1 (.slice (some ⟨g, 0, none⟩) (d.map (·.1)).length cn) (d.map (·.1)).length ((d.map (·.1)).map encStr) := h3
    rw [hr3.cellAt i (by simp; exact hi)]
    simp [hi]
    rfl
  have HCUT : Hid (∀ wr, Kp P w wr → ∀ i, i < cuts.length → ∃ g o, av = some ⟨g, o, none⟩ ∧ wr.cell? ⟨g, o + i, none⟩ = some (.int .i64 (cuts.getD i 0))) := fun wr kw i hi => by
    obtain ⟨a', cap', e1, _, _, _, h5⟩ := HV.out
    cases e1
    obtain ⟨g, o, e, hq, hg, hc⟩ := h5 (by intro e; subst e; simp at hi)
    exact ⟨g, o, e, (kw.cell (p := ⟨g, o + i, none⟩) hg (fun hp => HQ.out g hq hp)).trans (hc i hi)⟩
  have hdm : (d.map (·.1)).length = d.length := by simp
  rw [hdm] at hn1 ⊢
  have hD := hdl.out
  obtain ⟨D, hDL⟩ : ∃ D, d.length = D := ⟨_, rfl⟩
  rw [hDL] at hn1 hD ⊢
  have HDL := hid hDL
  clear hDL hdm ho hnew hk2 hn3 hn4 HN c2 HU
  go_wp2_with fail
  go_loopw [28] (fun x wr => ∃ i : Nat, x = .int .i64 i ∧ i ≤ D ∧ Hid (UpAt P N w s q d cuts vs mo i wr ∧ Kp P w2 wr)) (fun x _ => D - (intOf x).toNat)
  case atStart => exact ⟨0, rfl, by omega, HU2.out, Kp.refl _ _⟩
  case round =>
    obtain ⟨i, rfl, hi, HI⟩ := hrel
    by_cases hlt : i < D
    · have hlt' : i < d.length := by rw [HDL.out]; exact hlt
      obtain ⟨g, hg, cn1⟩ := HNM.out wr HI.out.2 i hlt'
      subst hg
      obtain ⟨ui, hRi, hKi⟩ := HI.out.1
      have hsf : MapV wr (.map mo) d := by have := hRi.safe; rw [hRi.inv.2.2.1] at this; exact this
      have hfd : dfind d (d[i]).1 = some (d[i]).2 := dfind_of_mem hsf.ris.nodup (List.getElem_mem hlt')
      have hlk := hsf.lookS (sOf (d[i]).1) (by rw [sOf_size]; have := (HFN.out _ (List.getElem_mem hlt')).2; omega)
      rw [nm_sOf, hfd, show ptrV (some (d[i]).2) = .pointer (some ⟨(d[i]).2, 0, none⟩) from rfl] at hlk
      have c2 : wr.cell? ⟨s, 2, none⟩ = some (.map mo) := hRi.c 2
      obtain ⟨f, hf⟩ := Option.isSome_iff_exists.1 (hRi.inv.2.1 _ (List.getElem_mem hlt'))
      have hfl := hRi.inv.1 _ f hf
      have hfa : fileAt (loses (d.take i) 0 cuts q) (d[i]).2 = f := by simp [fileAt, hf]
      have htk : d.take (i + 1) = d.take i ++ [d[i]] := List.take_succ_eq_append_getElem hlt'
      have hst : loses (d.take (i + 1)) 0 cuts q = setF (d[i]).2 (lose (cuts.getD i 0) f) (loses (d.take i) 0 cuts q) := by
        rw [htk, loses_snoc, hfa]
        have : 0 + (d.take i).length = i := by simp; omega
        rw [this]
      have HL : Hid (Calls Tryz.prog 63 #[.pointer (some ⟨(d[i]).2, 0, none⟩), .int .i64 (cuts.getD i 0)] wr fun e w' => e = .returned (.tuple #[]) ∧ UpAt P N w s q d cuts vs mo (i + 1) w' ∧ Kp P w2 w') := by
        refine (lose_any (J := UpI N d) wr s (d[i]).2 _ vs (.map mo) _ ui f (cuts.getD i 0) hRi hf (by omega) (upI_step hRi.inv hf)).mono ?_
        rintro e w' ⟨rfl, u', r1, r2⟩
        refine ⟨rfl, ⟨u', ?_, hKi.trans r2 (fun x hx => .inl hx)⟩, HI.out.2.trans r2 (fun x hx => .inl hx)⟩
        rw [hst]
        exact r1
      generalize sOf (d[i]).1 = sn at *
      generalize (d[i]).2 = fb at *
      by_cases hc : i < cuts.length
      · obtain ⟨gc, oc, hgc, cc1⟩ := HCUT.out wr hKi i hc
        subst hgc
        clear hRi hKi hsf hfd hf hfl hfa htk hst HNM HCUT HFN HINV
        generalize cuts.getD i 0 = z at *
        go_wp2_with (go_at_call 63; refine (HL.out).mono ?_; rintro e w3 ⟨rfl, h3, h4⟩; have H3 := hid h3; have H4 := hid h4; clear h3 h4)
        go_roundw
        case rel => exact ⟨i + 1, by go_num, by omega, H3.out, H4.out⟩
        case measure => simp [intOf]; omega
      · have hz : cuts.getD i 0 = 0 := by rw [List.getD_eq_getElem?_getD, List.getElem?_eq_none (by omega)]; rfl
        rw [hz] at HL
        clear hRi hKi hsf hfd hf hfl hfa htk hst HNM HCUT HFN HINV
        go_wp2_with (go_at_call 63; refine (HL.out).mono ?_; rintro e w3 ⟨rfl, h3, h4⟩; have H3 := hid h3; have H4 := hid h4; clear h3 h4)
        go_roundw
        case rel => exact ⟨i + 1, by go_num, by omega, H3.out, H4.out⟩
        case measure => simp [intOf]; omega
    · have hiD : i = D := by omega
      subst hiD
      have htk : d.take i = d := List.take_of_length_le (by rw [HDL.out]; exact Nat.le_refl _)
      obtain ⟨ui, hRi, hKi⟩ := HI.out.1
      rw [htk] at hRi
      have hsd := hRi.inv.2.2.1
      have hRi' : Rp P (UpI N (loses d 0 cuts q).safe) wr s (loses d 0 cuts q) vs (.map mo) (.slice none 0 0) ui := by rw [hsd]; exact hRi
      have hq1 : (loses d 0 cuts q).chg = [] := (loses_same cuts d 0 q).2.2.1.trans hq0.out
      have c2 : wr.cell? ⟨s, 2, none⟩ = some (.map mo) := hRi.c 2
      have HCL : Hid (Calls Tryz.prog 64 #[.map mo] wr fun e w' => ∃ vs', e = .returned vs' ∧ ((mo = none ∧ vs' = .map none ∧ w' = wr) ∨ ∃ b, mo = some b ∧ vs' = .map (some wr.heap.size) ∧ MapAt w' wr.heap.size (loses d 0 cuts q).safe) ∧ Kp No wr w') := by
        refine (mclone_v wr (.map mo) (loses d 0 cuts q).safe hRi'.safe).mono ?_
        rintro e w' ⟨v', rfl, h1, h2⟩
        refine ⟨v', rfl, ?_, h2⟩
        rcases h1 with ⟨e1, e2, e3⟩ | ⟨b, e1, e2, e3⟩
        · have hmn : mo = none := by
            cases mo with
            | none => rfl
            | some _ => cases e1
          exact .inl ⟨hmn, e2, e3⟩
        · exact .inr ⟨b, by cases e1; rfl, e2, e3⟩
      have HE : Hid (∀ w3 vs', ((mo = none ∧ vs' = .map none ∧ w3 = wr) ∨ ∃ b, mo = some b ∧ vs' = .map (some wr.heap.size) ∧ MapAt w3 wr.heap.size (loses d 0 cuts q).safe) → Kp No wr w3 → Done P N w ((((w3.setCell ⟨s, 1, none⟩ vs').setCell ⟨s, 4, none⟩ (.bool false)).setCell ⟨s, 5, none⟩ (.bool false)).setCell ⟨s, 6, none⟩ (.int .i64 0)) s _) := fun w3 vs' h1 h2 => up_end hRi' hq1 h1 h2 hKi HINV.out
      have HCE : Hid (∀ w3, Kp No wr w3 → ∃ x1 x4 x5 x6, w3.cell? ⟨s, 1, none⟩ = some (.map x1) ∧ w3.cell? ⟨s, 4, none⟩ = some (.bool x4) ∧ w3.cell? ⟨s, 5, none⟩ = some (.bool x5) ∧ w3.cell? ⟨s, 6, none⟩ = some (.int .i64 x6) ∧ ∀ j, w3.frozen? ⟨s, j, none⟩ = false) := fun w3 kw => by
        have h3 := hRi.kp kw (fun _ h => h.elim)
        obtain ⟨ms, hms⟩ := h3.seen.shape
        exact ⟨ms, _, _, _, by rw [h3.c 1]; simp [fsCells, hms], h3.c 4, h3.c 5, h3.c 6, h3.blk.frozen⟩
      clear hRi hRi' hq1 hsd htk HI HINV HFN HNM HCUT
      go_wp2_with (go_at_call 64; refine (HCL.out).mono ?_; rintro e w3 ⟨vs', rfl, h3, h4⟩; have H3 := hid h3; have H4 := hid h4; obtain ⟨x1, x4, x5, x6, d1, d4, d5, d6, df⟩ := HCE.out w3 h4; have df1 := df 1; have df4 := df 4; have df5 := df 5; have df6 := df 6; obtain ⟨m3, hm3⟩ : ∃ m, vs' = .map m := (by rcases h3 with ⟨_, e, _⟩ | ⟨_, _, e, _⟩ <;> exact ⟨_, e⟩); subst hm3; clear h3 h4 df)
      go_ret
      exact ⟨rfl, HE.out w3 _ H3.out H4.out⟩

end Go.Proofs.YthmimipoooemjaaGreatDoor.Sim
end

section
/-
  A pack that is written, record by record, on a disk that may go down; the writer's other calls.
-/
namespace Go.Proofs.YthmimipoooemjaaGreatDoor
open Go.RowKit Go.Shelf
open Tlv (BySlS Agree)
open Sim (hid Kp No PS Done Blk nm finds pBytes pRemove OwnB Beg)
def goodB (y : El) : Bool := rightB y.1.1 y.1.2.2.length
theorem good_right {y : El} (h : goodB y = true) (ho : elOk y) (hb : ∀ x ∈ y.1.2.2, 0 ≤ x ∧ x ≤ 255) : Rt y.1 := by
  simp [goodB, rightB] at h
  exact ⟨by omega, by omega, by omega, ho.1, ho.2, hb⟩
theorem n3T : Sim.nameB (nm (nameT 3)) = true := by
  have e : nameT 3 = ⟨#[116, 109, 112, 46, 51]⟩ := by decide +kernel
  rw [e]; decide
/-- A pack that is being written: its records, on a disk that may be down; blocks of K are none of its. -/
structure PR (s b g x : Nat) (ar : Bool) (N : Nat) (K : Nat → Prop) (w wr : World) (rs : List Rec) : Prop where
  rt : ∀ r ∈ rs, Rt r
  size : (cat rs).length ≤ 12000
  wrt : WrAt wr g s b 3 ((cat rs).length : Nat) (rs.length : Nat) false
  tab : TabX wr b
  sys : ∃ P p d, Sim.Sys P N wr s p ∧ Beg (nm (nameT 3)) 99000 x ar d (nats (cat rs)) p ∧ ¬ P b ∧ ¬ P g ∧ (∀ y, P y → w.heap.size ≤ y) ∧ ∀ q, K q → ¬ P q
  keep : ∀ q, K q → q ≠ b ∧ q ≠ g ∧ q < wr.heap.size
  below : Below w.heap.size w wr
  gb : g ≠ b
  gB : w.heap.size ≤ g
  bB : w.heap.size ≤ b

section
variable {s b g x N : Nat} {ar : Bool} {K K' : Nat → Prop} {w wr V : World} {rs : List Rec}
theorem PR.kp {L : Nat → Prop} (h : PR s b g x ar N K w wr rs) (k : Kp L wr V) (hL : ∀ y, L y → K y ∧ w.heap.size ≤ y) : PR s b g x ar N K w V rs := by
  obtain ⟨P, p, d, h1, h2, h3, h4, h5, h6⟩ := h.sys
  have ng : ¬ L g := fun e => (h.keep g (hL g e).1).2.1 rfl
  have nb : ¬ L b := fun e => (h.keep b (hL b e).1).1 rfl
  exact ⟨h.rt, h.size, h.wrt.kp k ng, h.tab.kp k nb, ⟨P, p, d, h1.kp k (fun y hy => h6 y (hL y hy).1), h2, h3, h4, h5, h6⟩, fun q hq => ⟨(h.keep q hq).1, (h.keep q hq).2.1, Nat.lt_of_lt_of_le (h.keep q hq).2.2 k.size⟩,
    Kp.under h.below k (fun y hy => (hL y hy).2) h.below.size, h.gb, h.gB, h.bB⟩
theorem PR.on (h : PR s b g x ar N K w wr rs) (k : Below wr.heap.size wr V) : PR s b g x ar N K w V rs := h.kp (L := No) (Kp.below k) (fun _ hy => hy.elim)
/-- Other blocks are to be kept: those of before, or new ones. -/
theorem PR.re (h : PR s b g x ar N K w wr rs) (hK : ∀ q, K' q → (K q ∧ q < wr.heap.size) ∨ (∀ P p, Sim.Sys P N wr s p → ¬ P q) ∧ q ≠ b ∧ q ≠ g ∧ q < wr.heap.size) : PR s b g x ar N K' w wr rs := by
  obtain ⟨P, p, d, h1, h2, h3, h4, h5, h6⟩ := h.sys
  refine ⟨h.rt, h.size, h.wrt, h.tab, ⟨P, p, d, h1, h2, h3, h4, h5, fun q hq => ?_⟩, fun q hq => ?_, h.below, h.gb, h.gB, h.bB⟩
  · rcases hK q hq with e | e
    · exact h6 q e.1
    · exact e.1 P p h1
  · rcases hK q hq with e | e
    · exact h.keep q e.1
    · exact e.2
/-- A row of the caller's grows: its block stays, or is new. -/
theorem PR.grown {v v' : Value} (h : PR s b g x ar N (fun q => v.ownBlock = some q) w wr rs) (hg : wr.grownBy V v.ownBlock) (hv : v'.ownBlock = v.ownBlock ∨ v'.ownBlock = some wr.heap.size) (hs : ∀ q, v'.ownBlock = some q → q < V.heap.size) (hB : ∀ q, v.ownBlock = some q → w.heap.size ≤ q) :
    PR s b g x ar N (fun q => v'.ownBlock = some q) w V rs := by
  have hk : Kp (fun q => v.ownBlock = some q) wr V := Kp.ofGrown hg
  obtain ⟨P, p, d, h1, h2, h3, h4, h5, h6⟩ := h.sys
  have hw := h.wrt.lt
  have ht := h.tab.lt
  have h' := h.kp hk (fun y hy => ⟨hy, hB y hy⟩)
  refine ⟨h'.rt, h'.size, h'.wrt, h'.tab, ⟨P, p, d, h1.kp hk (fun y hy => h6 y hy), h2, h3, h4, h5, fun q hq => ?_⟩, fun q hq => ?_, h'.below, h.gb, h.gB, h.bB⟩
  · rcases hv with e | e
    · exact h6 q (by rw [← e]; exact hq)
    · intro hp
      have := h1.lt q hp
      have hq' : v'.ownBlock = some q := hq
      rw [e] at hq'
      have := Option.some.inj hq'
      omega
  · rcases hv with e | e
    · exact h'.keep q (by show v.ownBlock = some q; rw [← e]; exact hq)
    · have hq' : v'.ownBlock = some q := hq
      have hq2 := hq'
      rw [e] at hq2
      have e2 := Option.some.inj hq2
      exact ⟨by omega, by omega, hs q hq'⟩

theorem PR.add (h : PR s b g x ar N K w wr rs) (hN : N + 1 ≤ 1000) (hn : rs.length ≤ 1000) (y : El) (hy : elOk y) (hb : Tlv.BySl 0 w.heap.size w (elV y) y.1.2.2) (hV : Below wr.heap.size wr V) :
    Calls Tryz.prog 139 #[.pointer (some ⟨g, 0, none⟩), .agg (elC y).toArray] V fun e w' =>
      ((∃ f : Int, f ≠ 0 ∧ e = .returned (.tuple #[.int .i64 0, .int .i64 f]) ∧ PR s b g x ar (N + 1) K w w' rs) ∨
       (goodB y = true ∧ e = .returned (.tuple #[.int .i64 ((cat rs).length : Nat), .int .i64 0]) ∧ PR s b g x ar (N + 1) K w w' (rs ++ [y.1]))) ∧ Kp (fun q => ¬ K q) wr w' := by
  have h' := h.on hV
  obtain ⟨P, p, d, h1, h2, h3, h4, h5, h6⟩ := h'.sys
  have hbb : ∀ z ∈ y.1.2.2, 0 ≤ z ∧ z ≤ 255 := by obtain ⟨_, _, _, _, _, _, _, h, _⟩ := hb; exact h
  have hpx : (putX y.1.1 y.1.2.1 y.1.2.2).length ≤ 12000 := by
    unfold putX
    cases hr : rightB y.1.1 y.1.2.2.length with
    | false => simp
    | true =>
      have hR := good_right (y := y) hr hy hbb
      have e := frameR_length hR
      have := hR.2.2.1
      simp only [if_true]
      omega
  have hadd := addW_any (P := P) (N := N) V g s b 3 (cat rs).length rs.length p y.1.1 y.1.2.1 y.1.2.2 (elV y) (by omega) (by omega) h'.wrt h1 hN h'.tab h3 h4 h.gb
    (hb.agree (Agree.below h'.below) (Nat.le_refl _) h'.below.size) hy.1 hy.2 hpx h.size (by omega)
  refine hadd.mono ?_
  rintro e w' ⟨rfl, hW, hT, P', hS, hK, hP'⟩
  have hKV : Kp (fun q => ¬ K q) wr w' := (Kp.below hV).trans hK (fun z hz => by
    left
    intro hk
    rcases hz with hz | hz | hz
    · exact h6 z hk hz
    · exact (h.keep z hk).1 hz
    · exact (h.keep z hk).2.1 hz)
  have hbel : Below w.heap.size w w' := Kp.under h'.below hK (fun z hz => by
    rcases hz with hz | hz | hz
    · exact h5 z hz
    · rw [hz]; exact h.bB
    · rw [hz]; exact h.gB) h'.below.size
  have hng : ¬ P' g := fun e => by
    rcases hP' g e with e | e
    · exact h4 e
    · have := h'.wrt.lt; omega
  have hnb : ¬ P' b := fun e => by
    rcases hP' b e with e | e
    · exact h3 e
    · have := h'.tab.lt; omega
  have hlow : ∀ z, P' z → w.heap.size ≤ z := fun z hz => by
    rcases hP' z hz with e | e
    · exact h5 z e
    · have := h'.below.size; omega
  have hkk : ∀ q, K q → ¬ P' q := fun q hq e => by
    rcases hP' q e with e | e
    · exact h6 q hq e
    · have := (h'.keep q hq).2.2; omega
  have hkp : ∀ q, K q → q ≠ b ∧ q ≠ g ∧ q < w'.heap.size := fun q hq => ⟨(h.keep q hq).1, (h.keep q hq).2.1, Nat.lt_of_lt_of_le (h'.keep q hq).2.2 hK.size⟩
  rcases beg_add h2 n3T (cat rs).length rs.length (putX y.1.1 y.1.2.1 y.1.2.2) (rightB y.1.1 y.1.2.2.length) (nats_length _) (by omega) with ⟨f, d', q, hf, he, hq⟩ | ⟨hR, hl, q, he, hq⟩
  · rw [he] at hW hS ⊢
    exact ⟨.inl ⟨f, hf, rfl, h.rt, h.size, hW, hT, ⟨P', q, d', hS, hq, hnb, hng, hlow, hkk⟩, hkp, hbel, h.gb, h.gB, h.bB⟩, hKV⟩
  · rw [he] at hW hS ⊢
    have hRt := good_right (y := y) hR hy hbb
    have hpe : putX y.1.1 y.1.2.1 y.1.2.2 = frOf y.1 := by rw [putX, hR]; rfl
    rw [hpe] at hl hW hq
    refine ⟨.inr ⟨hR, rfl, fun r hr => ?_, ?_, ?_, hT, ⟨P', q, false, hS, ?_, hnb, hng, hlow, hkk⟩, hkp, hbel, h.gb, h.gB, h.bB⟩, hKV⟩
    · rcases List.mem_append.1 hr with hr | hr
      · exact h.rt r hr
      · rw [List.mem_singleton.1 hr]; exact hRt
    · rw [cat_snoc, List.length_append]; exact hl
    · rw [cat_snoc, List.length_append, List.length_append]; exact hW
    · rw [cat_snoc, nats_append]; exact hq
end
end Go.Proofs.YthmimipoooemjaaGreatDoor
end

section
/-
  The names of any id.
-/
namespace Go.Proofs.YthmimipoooemjaaGreatDoor
open Go.RowKit Go.Shelf
open Sim (hid)
end Go.Proofs.YthmimipoooemjaaGreatDoor
end

section
/-
  Digits, and what they tell.
-/
namespace Go.Proofs.YthmimipoooemjaaGreatDoor
open Go.RowKit Go.Shelf
open Sim (hid)
end Go.Proofs.YthmimipoooemjaaGreatDoor
end

section
/-
  The id of any name.
-/
namespace Go.Proofs.YthmimipoooemjaaGreatDoor
open Go.RowKit Go.Shelf
open Sim (hid)

/-- The variables of strconv that are read: a table, two errors. -/
structure Vars (w : World) : Prop where
  tab : Lib.TabIs Tryz.prog w "internal/strconv.uint64pow10" .u64 Lib.pow10Tab
  syn : ∃ tp p, w.var? Tryz.prog "strconv.ErrSyntax" = some #[.iface tp p]
  rng : ∃ tp p, w.var? Tryz.prog "strconv.ErrRange" = some #[.iface tp p]
theorem var_below {w w' : World} {n : String} {cs : Array Value} (k : Below w.heap.size w w') (h : w.var? Tryz.prog n = some cs) : w'.var? Tryz.prog n = some cs := by
  unfold World.var? at h ⊢
  cases hg : Tryz.prog.globalNamed n with
  | none => rw [hg] at h; cases h
  | some g =>
    rw [hg] at h
    simp only [Option.bind_some] at h ⊢
    have hlt : g < w.heap.size := by
      rcases Nat.lt_or_ge g w.heap.size with h' | h'
      · exact h'
      · rw [Array.getElem?_eq_none h'] at h; cases h
    rw [k.block g hlt]
    exact h
theorem Vars.below {w w' : World} (h : Vars w) (k : Below w.heap.size w w') : Vars w' := by
  obtain ⟨h1, ⟨t2, p2, h2⟩, ⟨t3, p3, h3⟩⟩ := h
  exact ⟨var_below k h1, ⟨t2, p2, var_below k h2⟩, ⟨t3, p3, var_below k h3⟩⟩

end Go.Proofs.YthmimipoooemjaaGreatDoor
end

section
/-
  What is picked of the names that are seen: temporary ones; and their cleaning.
-/
namespace Go.Proofs.YthmimipoooemjaaGreatDoor
open Go.RowKit Go.Shelf
open Sim (hid Kp No PS Done Blk nm finds pBytes pRemove pSyncDir pList Nm OwnN Row)

def tmpL : List UInt8 := [116, 109, 112, 46]
/-- Is it a temporary name? -/
def isTmp (n : Nm) : Bool := Lib.hasPrefix n tmpL

theorem own_any (n : Nm) (w : World) : Calls Tryz.prog 69 #[.string ⟨#[116, 109, 112, 46]⟩, .string ⟨n.toArray⟩] w fun e w' => ∃ t, e = .returned (.tuple #[.string t, .bool (isTmp n)]) ∧ (isTmp n = true → t = ⟨n.toArray⟩) ∧ w' = w := by
  have HP := hid (Any.strings_HasPrefix Sim.Tryz.hasP ⟨n.toArray⟩ ⟨#[116, 109, 112, 46]⟩ w)
  have e : Lib.hasPrefix (⟨n.toArray⟩ : ByteArray).data.toList (⟨#[116, 109, 112, 46]⟩ : ByteArray).data.toList = isTmp n := rfl
  rw [e] at HP
  clear e
  cases hb : isTmp n with
  | true =>
    rw [hb] at HP
    clear hb
    go_enter Tryz.func69, Tryz.ntmps69
    go_wp2_with (go_at_call 111; refine HP.out.mono ?_; rintro e w1 ⟨rfl, h⟩; subst w1)
    go_ret2
    exact ⟨_, rfl, fun _ => rfl, rfl⟩
  | false =>
    rw [hb] at HP
    clear hb
    go_enter Tryz.func69, Tryz.ntmps69
    go_wp2_with (go_at_call 111; refine HP.out.mono ?_; rintro e w1 ⟨rfl, h⟩; subst w1)
    go_ret2
    exact ⟨_, rfl, fun h => (by cases h), rfl⟩

theorem infoS : (Tryz.prog.info? 9).map (fun i => (i.zero, i.size, i.bytes)) = some (some (.string ⟨#[]⟩), 1, 16) := by kernel_rfl
theorem run_onestr (s : ByteArray) (w : World) : (Instr.buildSlice 70 1 #[(0, .string s)]).run Tryz.prog w = .ok (.slice (some ⟨w.heap.size, 0, none⟩) 1 1) (w.alloc (.cells #[.string s] 9)) := by kernel_rfl
theorem OwnN.cell {w : World} {g n cap : Nat} {ns : List Nm} (h : OwnN w (.slice (some ⟨g, 0, none⟩) n cap) ns) (hn : n = ns.length) (k : Nat) {x : Nm} (hk : ns[k]? = some x) : w.cell? ⟨g, k, none⟩ = some (.string ⟨x.toArray⟩) := by
  subst hn
  have hl := (List.getElem?_eq_some_iff.1 hk).1
  have h' : Row w 9 1 (.slice (some ⟨g, 0, none⟩) ns.length cap) ns.length (ns.map encStr) := h
  rw [h'.cellAt k (by omega), List.getElem?_map, hk]
  rfl
theorem OwnN.form {w : World} {v : Value} {ns : List Nm} (h : OwnN w v ns) : ∃ a c, v = .slice a ns.length c ∧ (ns ≠ [] → ∃ g, a = some ⟨g, 0, none⟩) := by
  have h' : Row w 9 1 v ns.length (ns.map encStr) := h
  obtain ⟨a, c, h1, _, _, h2, h3⟩ := h'.shape
  refine ⟨a, c, h1, fun hne => ?_⟩
  cases a with
  | none => exact absurd (List.length_eq_zero_iff.1 (h2 rfl).1) hne
  | some q =>
    obtain ⟨gq, oq, sq⟩ := q
    obtain ⟨h4, h5⟩ := h3 _ rfl
    simp only at h4 h5
    subst h4 h5
    exact ⟨gq, rfl⟩

set_option maxHeartbeats 2000000 in
set_option maxRecDepth 100000 in
theorem pickS_any {P : Nat → Prop} {N : Nat} (w : World) (s : Nat) (p : PS) (h : Sim.Sys P N w s p) :
    Calls Tryz.prog 68 #[.pointer (some ⟨s, 0, none⟩), .func (.func 69) #[.string ⟨#[116, 109, 112, 46]⟩] #[]] w fun e w' => ∃ u, e = .returned u ∧ OwnN w' u ((pList p).filter isTmp) ∧ (∀ x, u.ownBlock = some x → w.heap.size ≤ x) ∧ Kp No w w' := by
  have HL := hid (Sim.list_any w s p h)
  have hlen : (pList p).length ≤ 1000 := by
    have h1 := h.inv.lseen
    have h2 := h.inv.big
    unfold pList
    split
    · simp
    · rw [List.length_map]; omega
  obtain ⟨L, hL⟩ : ∃ L, pList p = L := ⟨_, rfl⟩
  rw [hL] at HL hlen ⊢
  clear hL h
  go_enter Tryz.func68, Tryz.ntmps68
  go_wp2_with fail
  refine HL.out.mono ?_
  rintro e w1 ⟨u, rfl, hu, hub, hk⟩
  obtain ⟨ua, uc, rfl, hform⟩ := OwnN.form hu
  have HU := hid (And.intro hu (And.intro hub (And.intro hk hform)))
  have HK1 := hid hk
  clear hu hub hk hform
  go_wp2_with fail
  go_loopw [5, 13] (fun v i wr => ∃ (k : Nat) (a : Option Addr) (m c : Nat), k ≤ L.length ∧ i = .int .i64 (k : Int) ∧ v = .slice a m c ∧ m ≤ k ∧ Hid (m = ((L.take k).filter isTmp).length ∧ OwnN wr (.slice a m c) ((L.take k).filter isTmp) ∧ (∀ x, (Value.slice a m c).ownBlock = some x → w1.heap.size ≤ x) ∧ Kp No w1 wr)) (fun _ i _ => L.length - (intOf i).toNat)
  case atStart => exact ⟨0, none, 0, 0, Nat.zero_le _, rfl, rfl, Nat.le_refl _, by simp, Row.nil _ _ _, (by intro x hx; cases hx), Kp.refl _ _⟩
  case round =>
    obtain ⟨k, a, m, c, hk, rfl, rfl, hmk, HS⟩ := hrel
    by_cases hlt : k < L.length
    · have hltI : (k : Int) < (L.length : Int) := by omega
      obtain ⟨n, hn⟩ : ∃ n, L[k]? = some n := ⟨_, List.getElem?_eq_getElem hlt⟩
      obtain ⟨hu, hub, hk1, hform⟩ := HU.out
      obtain ⟨gu, rfl⟩ := hform (by intro e; rw [e] at hlt; simp at hlt)
      obtain ⟨hm, hrow, hblk, hkr⟩ := HS.out
      have cu : wr.cell? ⟨gu, k, none⟩ = some (.string ⟨n.toArray⟩) := OwnN.cell (Row.kept hu hkr) rfl k hn
      have HOWN := hid (own_any n wr)
      have HN := hid hn
      have HX := hid (And.intro hm (And.intro hrow (And.intro hblk hkr)))
      clear hu hub hk1 hform hm hrow hblk hkr hn HS
      cases hb : isTmp n with
      | false =>
        rw [hb] at HOWN
        go_wp2_with fail
        refine HOWN.out.mono ?_
        rintro e w2 ⟨t, rfl, ht, hw2⟩
        rw [hw2]
        clear hw2 w2 ht HOWN
        have HF : Hid (m = ((L.take (k + 1)).filter isTmp).length ∧ OwnN wr (.slice a m c) ((L.take (k + 1)).filter isTmp) ∧ (∀ x, (Value.slice a m c).ownBlock = some x → w1.heap.size ≤ x) ∧ Kp No w1 wr) := by
          have e : (L.take (k + 1)).filter isTmp = (L.take k).filter isTmp := by rw [List.take_add_one, HN.out, List.filter_append]; simp [hb]
          rw [Hid, e]
          exact HX.out
        clear hb
        go_wp2_with fail
        go_round
        case rel => exact ⟨k + 1, a, m, c, by omega, by go_num, rfl, by omega, HF⟩
        case measure => simp [intOf]; omega
      | true =>
        rw [hb] at HOWN
        go_wp2_with fail
        refine HOWN.out.mono ?_
        rintro e w2 ⟨t, rfl, ht, hw2⟩
        rw [hw2, ht (by first | rfl | trivial)]
        clear hw2 w2 ht HOWN
        have hal : Kp No wr (wr.alloc (.cells #[.string ⟨n.toArray⟩] 9)) := (Kp.refl _ _).alloc _
        have HR5 : Hid (Row (wr.alloc (.cells #[.string ⟨n.toArray⟩] 9)) 9 1 (.slice a m c) m (((L.take k).filter isTmp).map encStr)) := by
          have h : Row wr 9 1 (.slice a m c) ((L.take k).filter isTmp).length (((L.take k).filter isTmp).map encStr) := HX.out.2.1
          rw [← HX.out.1] at h
          exact h.kept hal
        have HSRC : Hid (Sim.Src (wr.alloc (.cells #[.string ⟨n.toArray⟩] 9)) (.slice (some ⟨wr.heap.size, 0, none⟩) 1 1) 1 1 [.string ⟨n.toArray⟩]) := Sim.Src.one wr [.string ⟨n.toArray⟩] 1 9 rfl (by intro u hu; rw [List.mem_singleton.1 hu]; rfl)
        have HN1 := hid (fun V => run_onestr ⟨n.toArray⟩ V)
        have HAL := hid hal
        have HB := hid hb
        clear hal hb
        go_wp2_with (first
          | (refine wpList_val (by rfl) (exec_slice1 70 _ (by rfl) (.string ⟨n.toArray⟩) _ (by rfl) (HN1.out _)) ?_)
          | (refine Sim.app_row _ (by rfl) _ _ 70 9 (.string ⟨#[]⟩) 1 16 (by rfl) Tryz.underlying70 infoS rfl (by omega) (.slice a m c) (.slice (some ⟨wr.heap.size, 0, none⟩) 1 1) m 1 (((L.take k).filter isTmp).map encStr) [.string ⟨n.toArray⟩] (by rfl) (by rfl) HR5.out HSRC.out (by omega) (by omega) ?_; intro ad2 cap2 w6 hrow6 hgr6 hown6))
        have HF : Hid (m + 1 = ((L.take (k + 1)).filter isTmp).length ∧ OwnN w6 (.slice ad2 (m + 1) cap2) ((L.take (k + 1)).filter isTmp) ∧ (∀ x, (Value.slice ad2 (m + 1) cap2).ownBlock = some x → w1.heap.size ≤ x) ∧ Kp No w1 w6) := by
          obtain ⟨hm, hrow, hblk, hkr⟩ := HX.out
          have e : (L.take (k + 1)).filter isTmp = (L.take k).filter isTmp ++ [n] := by rw [List.take_add_one, HN.out, List.filter_append]; simp [HB.out]
          have hs := hkr.size
          rw [Hid, e, List.length_append, ← hm]
          refine ⟨rfl, ?_, fun x hx => ?_, ?_⟩
          · unfold OwnN
            rw [List.length_append, ← hm, List.map_append]
            exact hrow6
          · rcases hown6 with h | h
            · exact hblk x (by rw [← h]; exact hx)
            · rw [h] at hx
              have := Option.some.inj hx
              simp at this
              omega
          · exact (hkr.andNone HAL.out).grown hgr6 (fun x hx => .inr (hblk x hx))
        clear hrow6 hgr6 hown6 HX
        go_wp2_with fail
        go_round
        case rel => exact ⟨k + 1, _, m + 1, _, by omega, by go_num, rfl, by omega, HF⟩
        case measure => simp [intOf]; omega
    · have hltI : ¬ (k : Int) < (L.length : Int) := by omega
      have hkn : k = L.length := by omega
      subst hkn
      go_wp2_with fail
      go_ret
      obtain ⟨hm, hrow, hblk, hkr⟩ := HS.out
      rw [List.take_length] at hrow
      exact ⟨_, rfl, hrow, fun x hx => Nat.le_trans HK1.out.size (hblk x hx), HK1.out.andNone hkr⟩

theorem temps_any {P : Nat → Prop} {N : Nat} (w : World) (s : Nat) (p : PS) (h : Sim.Sys P N w s p) :
    Calls Tryz.prog 27 #[.pointer (some ⟨s, 0, none⟩)] w fun e w' => ∃ u, e = .returned u ∧ OwnN w' u ((pList p).filter isTmp) ∧ (∀ x, u.ownBlock = some x → w.heap.size ≤ x) ∧ Kp No w w' := by
  have HP := hid (pickS_any w s p h)
  clear h
  go_enter Tryz.func27, Tryz.ntmps27
  go_wp2_with (go_at_call 68; refine HP.out.mono ?_; rintro e w1 ⟨u, rfl, h1, h2, h3⟩; have H1 := hid (And.intro h1 (And.intro h2 h3)); clear h1 h2 h3)
  go_ret
  exact ⟨u, rfl, H1.out⟩

/-- What Clean does, name by name: how many are gone, the fault, the files. -/
def cleanF : List Nm → Nat → PS → Nat × Nat × PS
  | [], k, p => if k = 0 then (0, 0, p) else (k, (pSyncDir p).1, (pSyncDir p).2)
  | n :: r, k, p => if (pRemove n p).1 ≠ 0 then (k, (pRemove n p).1, (pRemove n p).2) else cleanF r (k + 1) (pRemove n p).2

set_option maxHeartbeats 2000000 in
set_option maxRecDepth 100000 in
theorem clean_any {P : Nat → Prop} {N : Nat} (w : World) (s : Nat) (p : PS) (h : Sim.Sys P N w s p) (hN : N + (pList p).length + 1 ≤ 1000) (hnl : ∀ n ∈ pList p, n.length ≤ 20000000) :
    Calls Tryz.prog 47 #[.pointer (some ⟨s, 0, none⟩)] w fun e w' => e = .returned (.tuple #[.int .i64 ((cleanF ((pList p).filter isTmp) 0 p).1 : Nat), .int .i64 ((cleanF ((pList p).filter isTmp) 0 p).2.1 : Nat)]) ∧ Done P (N + (pList p).length + 1) w w' s (cleanF ((pList p).filter isTmp) 0 p).2.2 := by
  have HT := hid (temps_any w s p h)
  obtain ⟨L, hL⟩ : ∃ L, (pList p).filter isTmp = L := ⟨_, rfl⟩
  have hLl : L.length ≤ (pList p).length := by rw [← hL]; exact List.length_filter_le _ _
  have hLn : ∀ n ∈ L, n.length ≤ 20000000 := fun n hn => hnl n (by rw [← hL] at hn; exact (List.mem_filter.1 hn).1)
  obtain ⟨M, hM⟩ : ∃ M, (pList p).length = M := ⟨_, rfl⟩
  rw [hL] at HT ⊢
  rw [hM] at hLl hN ⊢
  have HS := hid h
  have HLN := hid hLn
  clear hL hM h hnl hLn
  obtain ⟨R, hR⟩ : ∃ R, cleanF L 0 p = R := ⟨_, rfl⟩
  have HR := hid hR
  rw [hR]
  clear hR
  go_enter Tryz.func47, Tryz.ntmps47
  go_wp2_with fail
  refine HT.out.mono ?_
  rintro e w1 ⟨u, rfl, hu, hub, hk⟩
  obtain ⟨ua, uc, rfl, hform⟩ := OwnN.form hu
  have hlt := HS.out.lt
  have HU := hid (And.intro hu (And.intro hub hform))
  have HST : Hid (∃ P', Sim.Sys P' (N + 0) w1 s p ∧ Kp P w w1 ∧ (∀ x, P' x → P x ∨ w.heap.size ≤ x) ∧ OwnN w1 (.slice ua L.length uc) L ∧ ∀ x, (Value.slice ua L.length uc).ownBlock = some x → ¬ P' x ∧ w.heap.size ≤ x) :=
    ⟨P, HS.out.kept hk, hk.ofNo, fun x hx => .inl hx, hu, fun x hx => ⟨fun hp => by have := hlt x hp; have := hub x hx; omega, hub x hx⟩⟩
  clear hu hub hk hform hlt HT
  go_wp2_with fail
  go_loopw [4, 13] (fun v i wr => ∃ (k : Nat), k ≤ L.length ∧ i = .int .i64 (k : Int) ∧ v = .int .i64 (k : Int) ∧ Hid (∃ q P', R = cleanF (L.drop k) k q ∧ Sim.Sys P' (N + k) wr s q ∧ Kp P w wr ∧ (∀ x, P' x → P x ∨ w.heap.size ≤ x) ∧ OwnN wr (.slice ua L.length uc) L ∧ ∀ x, (Value.slice ua L.length uc).ownBlock = some x → ¬ P' x ∧ w.heap.size ≤ x)) (fun _ i _ => L.length - (intOf i).toNat)
  case atStart =>
    obtain ⟨P', h1, h2⟩ := HST.out
    exact ⟨0, Nat.zero_le _, rfl, rfl, p, P', HR.out.symm, h1, h2⟩
  case round =>
    obtain ⟨k, hk, rfl, rfl, HQ⟩ := hrel
    by_cases hlt : k < L.length
    · have hltI : (k : Int) < (L.length : Int) := by omega
      obtain ⟨n, hn⟩ : ∃ n, L[k]? = some n := ⟨_, List.getElem?_eq_getElem hlt⟩
      obtain ⟨gu, rfl⟩ := HU.out.2.2 (by intro e; rw [e] at hlt; simp at hlt)
      obtain ⟨q, P', hRq, hSq, hKq, hPq, hOq, hAq⟩ := HQ.out
      have cu : wr.cell? ⟨gu, k, none⟩ = some (.string ⟨n.toArray⟩) := OwnN.cell hOq rfl k hn
      have hdr : L.drop k = n :: L.drop (k + 1) := by
        rw [List.drop_eq_getElem_cons hlt]
        have := (List.getElem?_eq_some_iff.1 hn).2
        rw [this]
      rw [hdr, cleanF] at hRq
      have hsz : (⟨n.toArray⟩ : ByteArray).size ≤ 20000000 := by
        have := HLN.out n (List.mem_of_getElem? hn)
        have e : (⟨n.toArray⟩ : ByteArray).size = n.length := by rw [Lib.size_eq]
        omega
      have HRM := hid (Sim.remove_any wr s q ⟨n.toArray⟩ hsz hSq (by omega))
      have hnm : nm ⟨n.toArray⟩ = n := rfl
      rw [hnm] at HRM
      obtain ⟨A, hA⟩ : ∃ A, pRemove n q = A := ⟨_, rfl⟩
      rw [hA] at HRM hRq
      have HX := hid (And.intro hRq (And.intro hSq (And.intro hKq (And.intro hPq (And.intro hOq hAq)))))
      clear hRq hSq hKq hPq hOq hAq hA hsz hnm hdr hn HQ
      go_wp2_with fail
      refine HRM.out.mono ?_
      rintro e w2 ⟨rfl, P2, hS2, hK2, hP2⟩
      obtain ⟨hRq, hSq, hKq, hPq, hOq, hAq⟩ := HX.out
      have hKw : Kp P w w2 := hKq.trans hK2 (fun x hx => by
        rcases hPq x hx with e | e
        · exact .inl e
        · exact .inr e)
      have hPw : ∀ x, P2 x → P x ∨ w.heap.size ≤ x := fun x hx => by
        rcases hP2 x hx with e | e
        · exact hPq x e
        · right; have := hKq.size; omega
      have HX2 := hid (And.intro hS2 (And.intro hKw (And.intro hPw (And.intro (Row.kp hOq hK2 (fun x hx => (hAq x hx).1)) (fun x hx => (show ¬ P2 x ∧ w.heap.size ≤ x from ⟨fun hp => by
        rcases hP2 x hp with e | e
        · exact (hAq x hx).1 e
        · have := Row.lt hOq x hx; omega, (hAq x hx).2⟩))))))
      have HRQ := hid hRq
      clear hRq hSq hKq hPq hOq hAq hS2 hK2 hP2 hKw hPw HX HRM
      by_cases hA0 : A.1 = 0
      · have HA0 := hid hA0
        rw [hA0]
        have hwk : IntKind.i64.wrap ((k : Int) + 1) = ((k + 1 : Nat) : Int) := by rw [IntKind.wrap_i64]; omega
        clear hA0
        go_wp2_with fail
        go_round
        case rel =>
          obtain ⟨h1, h2, h3, h4, h5⟩ := HX2.out
          refine ⟨k + 1, by omega, by go_num, by go_num, A.2, P2, ?_, h1, h2, h3, h4, h5⟩
          rw [HRQ.out, if_neg (by rw [HA0.out]; simp)]
        case measure => simp [intOf]; omega
      · have hA1 : ¬ ((A.1 : Int) = 0) := by omega
        obtain ⟨f, hf⟩ : ∃ f, A.1 = f := ⟨_, rfl⟩
        have HF := hid hf
        rw [hf] at hA0 hA1 ⊢
        clear hf
        go_wp2_with fail
        go_ret2
        obtain ⟨h1, h2, h3, _, _⟩ := HX2.out
        have e : R = (k, A.1, A.2) := by rw [HRQ.out, if_pos (by rw [HF.out]; exact hA0)]
        rw [e]
        exact ⟨by rw [HF.out]; rfl, P2, h1.more (by omega) (by omega), h2, h3⟩
    · have hltI : ¬ (k : Int) < (L.length : Int) := by omega
      have hkn : k = L.length := by omega
      subst hkn
      obtain ⟨q, P', hRq, hSq, hKq, hPq, hOq, hAq⟩ := HQ.out
      rw [List.drop_length, cleanF] at hRq
      by_cases h0 : L.length = 0
      · rw [if_pos h0] at hRq
        have HX := hid (And.intro hRq (And.intro hSq (And.intro hKq hPq)))
        have h0I : ((L.length : Int) = 0) := by omega
        clear hRq hSq hKq hPq hOq hAq
        go_wp2_with fail
        go_ret2
        obtain ⟨e, h1, h2, h3⟩ := HX.out
        rw [e]
        exact ⟨rfl, P', h1.more (by omega) (by omega), h2, h3⟩
      · rw [if_neg h0] at hRq
        have h0I : ¬ ((L.length : Int) = 0) := by omega
        have HSY := hid (Sim.syncdir_any wr s q hSq (by omega))
        obtain ⟨A, hA⟩ : ∃ A, pSyncDir q = A := ⟨_, rfl⟩
        rw [hA] at HSY hRq
        have HX := hid (And.intro hRq (And.intro hKq hPq))
        clear hRq hSq hKq hPq hOq hAq hA
        go_wp2_with fail
        refine HSY.out.mono ?_
        rintro e w2 ⟨rfl, P2, hS2, hK2, hP2⟩
        have HD := hid (And.intro hS2 (And.intro hK2 hP2))
        clear hS2 hK2 hP2 HSY
        go_wp2_with fail
        go_ret2
        obtain ⟨e, h2, h3⟩ := HX.out
        obtain ⟨d1, d2, d3⟩ := HD.out
        rw [e]
        refine ⟨rfl, P2, d1.more (by omega) (by omega), h2.trans d2 (fun x hx => h3 x hx), fun x hx => ?_⟩
        rcases d3 x hx with e | e
        · exact h3 x e
        · right; have := h2.size; omega
end Go.Proofs.YthmimipoooemjaaGreatDoor
end

section
/-
  The shelf: what is said of what is not there.
-/
namespace Go.Proofs.YthmimipoooemjaaGreatDoor.Sh
open Go.RowKit
open Sim (hid Kp No)

theorem none_nil (w : World) : Calls Tryz.prog 48 #[.pointer none] w fun e w' => e = .returned (.bool true) ∧ w' = w := by
  go_enter Tryz.func48, Tryz.ntmps48
  go_wp2_with fail
  go_ret
  exact ⟨rfl, rfl⟩
end Go.Proofs.YthmimipoooemjaaGreatDoor.Sh
end
