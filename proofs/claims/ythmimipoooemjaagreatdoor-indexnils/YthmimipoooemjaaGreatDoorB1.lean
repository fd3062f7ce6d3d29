/- Of the proof: the texts SimPlain, IxPlain, SimMem, SimMap, SimName, SimRName, SimRep, SimLook, SimTell, SimUsed, SimDo, SimStep, SimChg, SimChange, SimCreate, SimFile, SimSettle, SimSync, PkName, TlvPlain, TlvBase, TlvSmall, TlvKids, TlvRefs, TlvRefSame, one behind the other. -/
import Derived.Sort.KeysCollected
import Derived.Maps.Ext
import Derived.Test.YthmimipoooemjaaGreatDoorRows
import Derived.WalkKit
import Derived.WalkSpells
import Derived.WalkLawsBesides
import Derived.Laws.AppendOwnNone
import Derived.Laws.NewBlocks
import Derived.Laws.LoneSync
import Derived.RegionCalls
import Derived.Deep.QuietTactic
import Derived.BigQuiet
import Derived.Maps.AppendAt
import Derived.Maps.OwnSet
import Derived.OneCell
import Derived.Lib.AppendZerosOnto
import Derived.ProofKit
import Derived.Test.YthmimipoooemjaaGreatDoorSimShelf
import Derived.Maps.RangeWalk
import Derived.Sort.OwnSorted
import Derived.Lib.OthersKept
import Derived.Deep.LoopGhost
import Derived.Lib.TrimU
import Derived.Deep.RegionHeld3
import Derived.Deep.RegionLaw
import Derived.Deep.DeepCutAuto
import Derived.Deep.CutRange
import Derived.Laws.BitsAll
import Derived.Lib.AtoiErrMem
import Derived.Lib.BitFns
import Derived.Deep.AppendLies
import Derived.Deep.DrawnRows
section
/-
  The files of the document as data: names, directories, changes, what each call makes of them.
-/
namespace Go.Proofs.YthmimipoooemjaaGreatDoor.Sim

abbrev Nm := List UInt8
/-- A file: its bytes, the first so many of which are safe. -/
structure Fl where
  b : List Nat
  safe : Nat
/-- A directory: names, each with a file (a block, or a number). -/
abbrev Dir := List (Nm × Nat)

def dfind (l : Dir) (n : Nm) : Option Nat := (l.find? (fun p => p.1 == n)).map (·.2)
def ddel (l : Dir) (n : Nm) : Dir := l.filter (fun p => !(p.1 == n))
def dins (x : Nm × Nat) : Dir → Dir
  | [] => [x]
  | y :: r => if bytesBefore x.1 y.1 then x :: y :: r else y :: dins x r
def dput (l : Dir) (n : Nm) (f : Nat) : Dir := dins (n, f) (ddel l n)

/-! ### A directory as a map that is read -/
abbrev DD := DataW Unit
def fileD (b : Nat) : DD := .lit (.int .i64 (b : Int))
def entD (p : Nm × Nat) : Lit × DD := (.string p.1, fileD p.2)
def dirD (l : Dir) : DD := .map (l.map entD)

theorem sameKey_str (a b : Nm) : (Lit.string a).sameKey (.string b) = (a == b) := rfl
theorem dirD_filter (l : Dir) (n : Nm) : (l.map entD).filter (fun p => !p.1.sameKey (.string n)) = (ddel l n).map entD := by
  unfold ddel
  rw [List.filter_map]
  rfl
theorem dirD_ins (x : Nm × Nat) : ∀ l : Dir, DataW.insert (entD x) (l.map entD) = (dins x l).map entD
  | [] => rfl
  | y :: r => by
    show (if bytesBefore x.1 y.1 then _ else _) = _
    unfold dins
    split
    · rfl
    · rw [List.map_cons, dirD_ins x r]
theorem dirD_put (l : Dir) (n : Nm) (f : Nat) : (dirD l).put (.string n) (fileD f) = dirD (dput l n f) := by
  show DataW.map (DataW.insert (entD (n, f)) ((l.map entD).filter fun p => !p.1.sameKey (.string n))) = _
  rw [dirD_filter, dirD_ins]
  rfl
theorem dirD_del (l : Dir) (n : Nm) : (dirD l).del (.string n) = dirD (ddel l n) := by
  show DataW.map ((l.map entD).filter fun p => !p.1.sameKey (.string n)) = _
  rw [dirD_filter]
  rfl
theorem find_map_entD (n : Nm) : ∀ l : Dir, (l.map entD).find? (fun p => p.1.sameKey (.string n)) = (l.find? (fun p => p.1 == n)).map entD
  | [] => rfl
  | y :: r => by
    have e : (entD y).1.sameKey (.string n) = (y.1 == n) := rfl
    rw [List.map_cons, List.find?_cons, List.find?_cons, e]
    split
    · rfl
    · exact find_map_entD n r
theorem dirD_at (l : Dir) (n : Nm) (z : DD) : (dirD l).atKey (.string n) z = match dfind l n with | some b => fileD b | none => z := by
  have h := find_map_entD n l
  unfold DataW.atKey dirD
  simp only [h, dfind]
  cases l.find? (fun p => p.1 == n) <;> rfl
theorem dirD_has (l : Dir) (n : Nm) : Maps.has (dirD l) (.string n) = (dfind l n).isSome := by
  show (l.map entD).any (fun p => p.1.sameKey (.string n)) = _
  rw [dfind, Option.isSome_map, List.isSome_find?, List.any_map]
  rfl
theorem dirD_size (l : Dir) : Maps.size (dirD l) = l.length := by
  show (l.map entD).length = _
  simp
theorem dirD_keys (l : Dir) : strKeys (dirD l) = l.map (·.1) := by
  show (l.map entD).map (fun p => strOf p.1) = _
  rw [List.map_map]
  rfl

/-! ### Rising names -/
def Ris (l : Dir) : Prop := l.Pairwise (fun p q => bytesBefore p.1 q.1 = true)
theorem ris_of_canon {l : Dir} (h : Maps.Canon (dirD l)) : Ris l := by
  obtain ⟨es, e, h1, _⟩ := h
  have e' : es = l.map entD := (DataW.map.inj e).symm
  subst e'
  exact (List.pairwise_map.1 h1)
theorem Ris.nodup {l : Dir} (h : Ris l) : (l.map (·.1)).Nodup := by
  unfold List.Nodup
  rw [List.pairwise_map]
  exact h.imp (fun {a b} hab e => by rw [e, WideAt.bytes_irrefl] at hab; cases hab)
theorem mem_dins (x p : Nm × Nat) : ∀ l : Dir, p ∈ dins x l ↔ p = x ∨ p ∈ l
  | [] => by simp [dins]
  | y :: r => by
    unfold dins
    split
    · simp
    · simp only [List.mem_cons, mem_dins x p r]
      constructor
      · rintro (h | h | h)
        · exact .inr (.inl h)
        · exact .inl h
        · exact .inr (.inr h)
      · rintro (h | h | h)
        · exact .inr (.inl h)
        · exact .inl h
        · exact .inr (.inr h)
theorem length_dins (x : Nm × Nat) : ∀ l : Dir, (dins x l).length = l.length + 1
  | [] => rfl
  | y :: r => by
    unfold dins
    split
    · rfl
    · simp [length_dins x r]
theorem mem_ddel {l : Dir} {n : Nm} {p : Nm × Nat} : p ∈ ddel l n ↔ p ∈ l ∧ p.1 ≠ n := by
  unfold ddel
  rw [List.mem_filter]
  simp
theorem mem_dput {l : Dir} {n : Nm} {f : Nat} {p : Nm × Nat} : p ∈ dput l n f ↔ p = (n, f) ∨ (p ∈ l ∧ p.1 ≠ n) := by
  unfold dput
  rw [mem_dins, mem_ddel]
theorem length_ddel (l : Dir) (n : Nm) : (ddel l n).length ≤ l.length := List.length_filter_le _ _
theorem length_dput (l : Dir) (n : Nm) (f : Nat) : (dput l n f).length ≤ l.length + 1 := by
  unfold dput
  rw [length_dins]
  have := length_ddel l n
  omega
theorem Ris.del {l : Dir} (h : Ris l) (n : Nm) : Ris (ddel l n) := h.filter _
theorem ris_ins {x : Nm × Nat} : ∀ {l : Dir}, Ris l → (∀ p ∈ l, p.1 ≠ x.1) → Ris (dins x l)
  | [], _, _ => by simp [dins, Ris]
  | y :: r, h, hn => by
    obtain ⟨h1, h2⟩ := List.pairwise_cons.1 h
    unfold dins
    split
    · rename_i hb
      refine List.pairwise_cons.2 ⟨fun p hp => ?_, h⟩
      rcases List.mem_cons.1 hp with rfl | hp
      · exact hb
      · exact WideShapes.bytes_trans _ _ _ hb (h1 p hp)
    · rename_i hb
      have hyx : bytesBefore y.1 x.1 = true := by
        rcases WideAt.bytes_total y.1 x.1 (hn y (by simp)) with h | h
        · exact h
        · exact absurd h hb
      refine List.pairwise_cons.2 ⟨fun p hp => ?_, ris_ins h2 (fun p hp => hn p (by simp [hp]))⟩
      rcases (mem_dins x p r).1 hp with rfl | hp
      · exact hyx
      · exact h1 p hp
theorem Ris.put {l : Dir} (h : Ris l) (n : Nm) (f : Nat) : Ris (dput l n f) := ris_ins (h.del n) (fun _ hp => (mem_ddel.1 hp).2)
theorem mem_of_dfind {l : Dir} {n : Nm} {b : Nat} (h : dfind l n = some b) : (n, b) ∈ l := by
  unfold dfind at h
  cases hf : l.find? (fun p => p.1 == n) with
  | none => rw [hf] at h; cases h
  | some p =>
    rw [hf] at h
    have h1 := List.mem_of_find?_eq_some hf
    have h2 := List.find?_some hf
    simp at h h2
    obtain ⟨x, y⟩ := p
    simp at h h2
    subst h h2
    exact h1
theorem dfind_none {l : Dir} {n : Nm} (h : dfind l n = none) : ∀ p ∈ l, p.1 ≠ n := by
  unfold dfind at h
  rw [Option.map_eq_none_iff, List.find?_eq_none] at h
  intro p hp
  simpa using h p hp
theorem dfind_of_mem {l : Dir} (hr : (l.map (·.1)).Nodup) {n : Nm} {b : Nat} (h : (n, b) ∈ l) : dfind l n = some b := by
  cases hf : dfind l n with
  | none => exact absurd rfl (dfind_none hf _ h)
  | some c =>
    have h2 := mem_of_dfind hf
    have : (n, b) = (n, c) := by
      refine Classical.byContradiction fun hne => ?_
      have hp := List.pairwise_map.1 hr
      rw [List.pairwise_iff_forall_sublist] at hp
      rcases List.mem_iff_append.1 h with ⟨s, t, rfl⟩
      rcases List.mem_append.1 h2 with h2 | h2
      · rw [List.map_append, List.nodup_append] at hr
        exact hr.2.2 n (List.mem_map.2 ⟨_, h2, rfl⟩) n (by simp) rfl
      · rcases List.mem_cons.1 h2 with e | h2
        · exact hne e.symm
        · rw [List.map_append, List.nodup_append] at hr
          have := hr.2.1
          rw [List.map_cons, List.nodup_cons] at this
          exact this.1 (List.mem_map.2 ⟨_, h2, rfl⟩)
    simp at this
    rw [this]

/-! ### Names -/
def sign (c : UInt8) : Bool := decide (33 ≤ c.toNat) && decide (c.toNat ≤ 126) && !(c.toNat == 47)
def nameB (n : Nm) : Bool := decide (1 ≤ n.length) && decide (n.length ≤ 40) && n.all sign

/-! ### Changes -/
/-- kind 0: made, with a file; 1: removed; 2: moved. -/
structure PC where
  kind : Nat
  nm : Nm
  to : Nm
  file : Nat
def pdo (d : Dir) (c : PC) : Dir :=
  if c.kind = 0 then dput d c.nm c.file else if c.kind = 1 then ddel d c.nm else dput (ddel d c.nm) c.to ((dfind d c.nm).getD 0)
def okc (d : Dir) (c : PC) : Prop := c.kind ≤ 2 ∧ (c.kind = 2 → (dfind d c.nm).isSome = true)
def okcs : Dir → List PC → Prop
  | _, [] => True
  | d, c :: r => okc d c ∧ okcs (pdo d c) r
theorem okcs_append (d : Dir) : ∀ (l m : List PC), okcs d (l ++ m) ↔ okcs d l ∧ okcs (l.foldl pdo d) m := by
  intro l
  induction l generalizing d with
  | nil => intro m; simp [okcs]
  | cons c r ih => intro m; simp only [List.cons_append, okcs, ih, List.foldl_cons, and_assoc]
theorem length_pdo (d : Dir) (c : PC) : (pdo d c).length ≤ d.length + 1 := by
  unfold pdo
  split
  · exact length_dput _ _ _
  · split
    · have := length_ddel d c.nm; omega
    · have := length_dput (ddel d c.nm) c.to ((dfind d c.nm).getD 0)
      have := length_ddel d c.nm
      omega
theorem Ris.pdo {d : Dir} (h : Ris d) (c : PC) : Ris (pdo d c) := by
  unfold YthmimipoooemjaaGreatDoor.Sim.pdo
  split
  · exact h.put _ _
  · split
    · exact h.del _
    · exact (h.del _).put _ _
/-! ### The program's state -/
structure PS where
  room : Nat
  made : Bool
  seen : Dir
  safe : Dir
  chg : List PC
  down : Bool
  armed : Bool
  left : Nat
  steps : Nat
  files : Nat → Option Fl

def dead (p : PS) : Bool := p.armed && p.left == 0
def fall (p : PS) : PS := { p with down := true }
def tick (p : PS) : PS := { p with left := if p.armed then p.left - 1 else p.left, steps := p.steps + 1 }
/-- A step: what is done, and the fault. -/
def stp (p : PS) (g : PS → PS) : Nat × PS := if dead p then (12, fall p) else (0, g (tick p))
def setF (b : Nat) (f : Fl) (p : PS) : PS := { p with files := fun x => if x = b then some f else p.files x }
def chgd (c : PC) (p : PS) : PS := { p with made := true, seen := pdo p.seen c, chg := p.chg ++ [c] }
def settle (k : Nat) (p : PS) : PS := { p with safe := (p.chg.take k).foldl pdo p.safe, chg := [] }
def fileAt (p : PS) (b : Nat) : Fl := (p.files b).getD ⟨[], 0⟩
def used (p : PS) : Nat := (p.seen.map fun e => (fileAt p e.2).b.length).sum
def wrongs (p : PS) (l : List Nm) : Nat := if p.down then 12 else if l.all nameB then 0 else 10

def pCreate (n : Nm) (b : Nat) (p : PS) : Nat × PS :=
  if wrongs p [n] ≠ 0 then (wrongs p [n], p) else if (dfind p.seen n).isSome then (6, p) else stp p (fun q => chgd ⟨0, n, [], b⟩ (setF b ⟨[], 0⟩ q))
/-- The fault of a name that must be there. -/
def finds (p : PS) (n : Nm) : Nat := if wrongs p [n] ≠ 0 then wrongs p [n] else if (dfind p.seen n).isSome then 0 else 5
def blockOf (p : PS) (n : Nm) : Nat := (dfind p.seen n).getD 0
def pAppend (n : Nm) (bs : List Nat) (p : PS) : Nat × PS :=
  if finds p n ≠ 0 then (finds p n, p) else if used p + bs.length > p.room then (11, p)
  else stp p (setF (blockOf p n) ⟨(fileAt p (blockOf p n)).b ++ bs, (fileAt p (blockOf p n)).safe⟩)
def pBytes (n : Nm) (p : PS) : List Nat := if finds p n ≠ 0 then [] else (fileAt p (blockOf p n)).b
def pRename (n t : Nm) (p : PS) : Nat × PS :=
  if wrongs p [n, t] ≠ 0 then (wrongs p [n, t], p) else if (dfind p.seen n).isSome then stp p (chgd ⟨2, n, t, 0⟩) else (5, p)
def pRemove (n : Nm) (p : PS) : Nat × PS := if finds p n ≠ 0 then (finds p n, p) else stp p (chgd ⟨1, n, [], 0⟩)
def pFsync (n : Nm) (p : PS) : Nat × PS :=
  if finds p n ≠ 0 then (finds p n, p) else stp p (setF (blockOf p n) ⟨(fileAt p (blockOf p n)).b, (fileAt p (blockOf p n)).b.length⟩)
def pSyncDir (p : PS) : Nat × PS := if wrongs p [] ≠ 0 then (wrongs p [], p) else stp p (settle p.chg.length)
/-- What a file keeps. -/
def lose (cut : Int) (f : Fl) : Fl :=
  let b := f.b.take (f.safe + min (max cut 0).toNat (f.b.length - f.safe))
  ⟨b, b.length⟩
def loses : Dir → Nat → List Int → PS → PS
  | [], _, _, p => p
  | e :: r, i, cuts, p => loses r (i + 1) cuts (setF e.2 (lose (cuts.getD i 0) (fileAt p e.2)) p)
def pUp (k : Int) (cuts : List Int) (p : PS) : PS :=
  let q := settle (min (max k 0).toNat p.chg.length) p
  let r := loses q.safe 0 cuts q
  { r with seen := r.safe, down := false, armed := false, left := 0 }
def pList (p : PS) : List Nm := if p.down then [] else p.seen.map (·.1)

end Go.Proofs.YthmimipoooemjaaGreatDoor.Sim
end

section
/-
  What a save of the index does to the files, step by step.
-/
namespace Go.Proofs.YthmimipoooemjaaGreatDoor.Ix
open Sim (PS Nm pRemove pCreate pAppend pFsync pRename pSyncDir)

/-- The list's name, and that of one that is not whole yet. -/
def nI : Nm := [105, 110, 100, 101, 120]
def nT : Nm := [116, 109, 112, 46, 105, 110, 100, 101, 120]
def sI : ByteArray := ⟨#[105, 110, 100, 101, 120]⟩
def sT : ByteArray := ⟨#[116, 109, 112, 46, 105, 110, 100, 101, 120]⟩
theorem nI_ok : Sim.nameB nI = true := by decide
theorem nT_ok : Sim.nameB nT = true := by decide

def pRm (p : PS) : Nat × PS := ((if (pRemove nT p).1 = 5 then 0 else (pRemove nT p).1), (pRemove nT p).2)

/-- Step j of a save. -/
def Stp (bs : List Nat) : Nat → PS → Nat × PS → Prop
  | 0, q, r => r = pRm q
  | 1, q, r => ∃ x, q.files x = none ∧ r = pCreate nT x q
  | 2, q, r => r = pAppend nT bs q
  | 3, q, r => r = pFsync nT q
  | 4, q, r => r = pRename nT nI q
  | _, q, r => r = pSyncDir q
/-- Behind j steps without a fault. -/
def Reach (bs : List Nat) (p : PS) : Nat → PS → Prop
  | 0, q => q = p
  | j + 1, q => ∃ q', Reach bs p j q' ∧ Stp bs j q' (0, q)
/-- What a save answers and leaves. -/
def Saved (bs : List Nat) (p : PS) (r : Nat × PS) : Prop :=
  (r.1 = 0 ∧ Reach bs p 6 r.2) ∨ (r.1 ≠ 0 ∧ ∃ j, j < 6 ∧ ∃ q', Reach bs p j q' ∧ Stp bs j q' r)

end Go.Proofs.YthmimipoooemjaaGreatDoor.Ix
end

section
/-
  What stays as it was; bytes, rows and structs in memory.
-/
namespace Go.Proofs.YthmimipoooemjaaGreatDoor.Sim
open Go.RowKit

theorem hid {p : Prop} (h : p) : Hid p := h
theorem addr_add (g o i : Nat) : (⟨g, o, none⟩ : Addr).add i = ⟨g, o + i, none⟩ := by unfold Addr.add; split <;> simp_all
theorem cell_other {w : World} {b i j : Nat} {x : Value} (h : j ≠ i) : (w.setCell ⟨b, i, none⟩ x).cell? ⟨b, j, none⟩ = w.cell? ⟨b, j, none⟩ := World.cell?_setCell_other _ _ _ _ (by simp only [ne_eq, Addr.mk.injEq, true_and, and_true]; omega)

/-! ### What stays as it was -/
/-- All blocks that are not in L hold what they held. -/
structure Kp (L : Nat → Prop) (w w' : World) : Prop where
  os : w'.os = w.os
  tape : w'.tape = w.tape
  output : w'.output = w.output
  size : w.heap.size ≤ w'.heap.size
  block : ∀ k, k < w.heap.size → ¬ L k → w'.heap[k]? = w.heap[k]?

def No : Nat → Prop := fun _ => False
theorem Kp.refl (L : Nat → Prop) (w : World) : Kp L w w := ⟨rfl, rfl, rfl, Nat.le_refl _, fun _ _ _ => rfl⟩
/-- One behind the other: what the second one writes is the first one's, or new. -/
theorem Kp.trans {L M : Nat → Prop} {u v w : World} (h : Kp L u v) (k : Kp M v w) (hm : ∀ x, M x → L x ∨ u.heap.size ≤ x) : Kp L u w :=
  ⟨k.os.trans h.os, k.tape.trans h.tape, k.output.trans h.output, Nat.le_trans h.size k.size, fun i h1 h2 => (k.block i (Nat.lt_of_lt_of_le h1 h.size) (fun hi => by
    rcases hm i hi with h | h
    · exact h2 h
    · omega)).trans (h.block i h1 h2)⟩
theorem Kp.mono {L M : Nat → Prop} {u w : World} (h : Kp L u w) (hs : ∀ x, L x → M x ∨ u.heap.size ≤ x) : Kp M u w := (Kp.refl M u).trans h hs
theorem Kp.ofNo {M : Nat → Prop} {u w : World} (h : Kp No u w) : Kp M u w := h.mono (fun _ hx => hx.elim)
theorem Kp.andNone {L : Nat → Prop} {u v w : World} (h : Kp L u v) (k : Kp No v w) : Kp L u w := h.trans k (fun _ hx => hx.elim)
theorem Kp.below {L : Nat → Prop} {u w : World} (h : Below u.heap.size u w) : Kp L u w := ⟨h.os, h.tape, h.output, h.size, fun k hk _ => h.block k hk⟩
theorem Kp.alloc {L : Nat → Prop} {u w : World} (h : Kp L u w) (o : Obj) : Kp L u (w.alloc o) := h.trans (M := No) (Kp.below ((Below.refl _ _).alloc (Nat.le_refl _) _)) (fun _ hx => hx.elim)
theorem Kp.setCell {L : Nat → Prop} {u w : World} (h : Kp L u w) {p : Addr} (hp : L p.block ∨ u.heap.size ≤ p.block) (x : Value) : Kp L u (w.setCell p x) :=
  ⟨h.os, h.tape, h.output, by simpa using h.size, fun k h1 h2 => (Below.heap_setCell _ _ _ _ (by
    intro e
    rcases hp with hp | hp
    · exact h2 (e ▸ hp)
    · omega)).trans (h.block k h1 h2)⟩
theorem Kp.drew {L : Nat → Prop} {u w : World} (h : Kp L u w) : Kp L u w.drew := ⟨h.os, h.tape, h.output, h.size, h.block⟩
theorem Kp.grown {L : Nat → Prop} {u w w' : World} {row : Option Nat} (h : Kp L u w) (hg : w.grownBy w' row) (hr : ∀ x, row = some x → L x ∨ u.heap.size ≤ x) : Kp L u w' :=
  ⟨hg.os.trans h.os, hg.tape.trans h.tape, hg.output.trans h.output, Nat.le_trans h.size hg.size, fun k h1 h2 => (hg.block k (Nat.lt_of_lt_of_le h1 h.size) (fun e => by
    rcases hr k e.symm with h | h
    · exact h2 h
    · omega)).trans (h.block k h1 h2)⟩
theorem Kp.ofGrown {w w' : World} {row : Option Nat} (hg : w.grownBy w' row) : Kp (fun x => row = some x) w w' := (Kp.refl _ _).grown hg (fun _ h => .inl h)
theorem Kp.cell {L : Nat → Prop} {w w' : World} (h : Kp L w w') {p : Addr} (h1 : p.block < w.heap.size) (h2 : ¬ L p.block) : w'.cell? p = w.cell? p := World.cell?_of_block (w := w) (h.block p.block h1 h2)
theorem Kp.frozen {L : Nat → Prop} {w w' : World} (h : Kp L w w') {p : Addr} (h1 : p.block < w.heap.size) (h2 : ¬ L p.block) : w'.frozen? p = w.frozen? p := World.frozen?_of_block (w := w) (h.block p.block h1 h2)
theorem Kp.toBelow {L : Nat → Prop} {u w : World} (k : Kp L u w) (hb : ∀ x, L x → u.heap.size ≤ x) : Below u.heap.size u w :=
  ⟨k.os, k.tape, k.output, k.size, fun i hi => k.block i hi (fun hm => by have := hb i hm; omega)⟩
theorem Kp.toBelow' {u w : World} (k : Kp No u w) : Below u.heap.size u w := k.toBelow (fun _ h => h.elim)
/-- .. of a world ahead. -/
theorem Kp.under {L : Nat → Prop} {B : Nat} {u v w : World} (h : Below B u v) (k : Kp L v w) (hb : ∀ x, L x → B ≤ x) (hB : B ≤ v.heap.size) : Below B u w :=
  h.trans ⟨k.os, k.tape, k.output, k.size, fun i hi => k.block i (by omega) (fun hm => by have := hb i hm; omega)⟩

/-! ### A block of cells, whole -/
def Blk (w : World) (b : Nat) (t : TypeId) (cs : List Value) : Prop := w.heap[b]? = some (.cells cs.toArray t (0, 0))
theorem Blk.lt {w : World} {b : Nat} {t : TypeId} {cs : List Value} (h : Blk w b t cs) : b < w.heap.size := (Array.getElem?_eq_some_iff.1 h).1
theorem Blk.kp {L : Nat → Prop} {w w' : World} {b : Nat} {t : TypeId} {cs : List Value} (h : Blk w b t cs) (k : Kp L w w') (hb : ¬ L b) : Blk w' b t cs := (k.block b h.lt hb).trans h
theorem Blk.ne {w : World} {b b' : Nat} {t t' : TypeId} {cs cs' : List Value} (h : Blk w b t cs) (h' : Blk w b' t' cs') (ht : t ≠ t') : b ≠ b' := by
  intro e
  subst e
  unfold Blk at h h'
  rw [h] at h'
  simp at h'
  exact ht h'.2
theorem Blk.cell {w : World} {b : Nat} {t : TypeId} {cs : List Value} (h : Blk w b t cs) (j : Nat) : w.cell? ⟨b, j, none⟩ = cs[j]? := by
  unfold Blk at h
  simp [World.cell?, h]
theorem Blk.frozen {w : World} {b : Nat} {t : TypeId} {cs : List Value} (h : Blk w b t cs) (j : Nat) : w.frozen? ⟨b, j, none⟩ = false := by
  unfold Blk at h
  simp [World.frozen?, h]
theorem Blk.new (w : World) (t : TypeId) (cs : List Value) : Blk (w.alloc (.cells cs.toArray t)) w.heap.size t cs := (MapKept.heap_alloc w _).1
theorem Blk.setCell {w : World} {b : Nat} {t : TypeId} {cs : List Value} (h : Blk w b t cs) (j : Nat) (x : Value) : Blk (w.setCell ⟨b, j, none⟩ x) b t (cs.set j x) := by
  unfold Blk at h ⊢
  simp [World.setCell, Array.getElem?_modify, h]

/-! ### Bytes that are read -/
/-- Bytes as cells. -/
def cl (xs : List Nat) : List Value := xs.map fun x : Nat => .int .u8 (x : Int)
theorem cl_length (xs : List Nat) : (cl xs).length = xs.length := by simp [cl]
theorem cl_append (xs ys : List Nat) : cl (xs ++ ys) = cl xs ++ cl ys := by simp [cl]
theorem cl_at (xs : List Nat) (i : Nat) (h : i < xs.length) : (cl xs)[i]? = some (.int .u8 (xs.getD i 0 : Nat)) := by simp [cl, List.getElem?_eq_getElem h]
theorem cl_one (xs : List Nat) : ∀ u ∈ cl xs, u.oneCell' = true := by intro u hu; obtain ⟨x, _, rfl⟩ := List.mem_map.1 hu; rfl

/-- v is a slice of the bytes bs, in a block of which P. -/
def ByP (P : Nat → Prop) (w : World) (v : Value) (bs : List Nat) : Prop :=
  ∃ a cap, v = .slice a bs.length cap ∧ bs.length ≤ cap ∧ cap ≤ maxLen ∧ (a = none → bs = [] ∧ cap = 0) ∧ bs.length ≤ 140737488355328 ∧ (∀ x ∈ bs, x < 256) ∧
    (bs ≠ [] → ∃ g o, a = some ⟨g, o, none⟩ ∧ P g ∧ g < w.heap.size ∧ ∀ i, i < bs.length → w.cell? ⟨g, o + i, none⟩ = some (.int .u8 (bs.getD i 0 : Nat)))

theorem ByP.nil (P : Nat → Prop) (w : World) : ByP P w (.slice none 0 0) [] := ⟨_, 0, rfl, Nat.le_refl _, Nat.zero_le _, fun _ => ⟨rfl, rfl⟩, by simp, by simp, fun h => absurd rfl h⟩
theorem ByP.mono {P Q : Nat → Prop} {w : World} {v : Value} {bs : List Nat} (h : ByP P w v bs) (hm : ∀ x, x < w.heap.size → P x → Q x) : ByP Q w v bs := by
  obtain ⟨a, cap, h1, h2, h3, h4, h5, h6, h7⟩ := h
  refine ⟨a, cap, h1, h2, h3, h4, h5, h6, fun hne => ?_⟩
  obtain ⟨g, o, e, hgb, hg, hc⟩ := h7 hne
  exact ⟨g, o, e, hm g hg hgb, hg, hc⟩
theorem ByP.kp {P L : Nat → Prop} {w w' : World} {v : Value} {bs : List Nat} (h : ByP P w v bs) (k : Kp L w w') (hm : ∀ x, L x → x < w.heap.size → ¬ P x) : ByP P w' v bs := by
  obtain ⟨a, cap, h1, h2, h3, h4, h5, h6, h7⟩ := h
  refine ⟨a, cap, h1, h2, h3, h4, h5, h6, fun hne => ?_⟩
  obtain ⟨g, o, e, hgb, hg, hc⟩ := h7 hne
  exact ⟨g, o, e, hgb, Nat.lt_of_lt_of_le hg k.size, fun i hi => (k.cell (p := ⟨g, o + i, none⟩) hg (fun hx => hm g hx hg hgb)).trans (hc i hi)⟩
theorem ByP.kept {P : Nat → Prop} {w w' : World} {v : Value} {bs : List Nat} (h : ByP P w v bs) (k : Kp No w w') : ByP P w' v bs := h.kp k (fun _ hx => hx.elim)
theorem ByP.front {P : Nat → Prop} {w : World} {a : Option Addr} {n0 cap : Nat} {bs : List Nat} (h : ByP P w (.slice a n0 cap) bs) (n : Nat) (hn : n ≤ bs.length) : ByP P w (.slice a n cap) (bs.take n) := by
  obtain ⟨a', cap', e, h2, h3, h4, h5, h6, h7⟩ := h
  cases e
  have hl : (bs.take n).length = n := List.length_take_of_le hn
  refine ⟨a, cap, by rw [hl], by omega, h3, fun e => ?_, by omega, fun x hx => h6 x (List.mem_of_mem_take hx), fun hne => ?_⟩
  · obtain ⟨rfl, rfl⟩ := h4 e
    exact ⟨by simp, rfl⟩
  · have hb : bs ≠ [] := fun e => hne (by rw [e]; simp)
    obtain ⟨g, o, e, hg, hg', hc⟩ := h7 hb
    refine ⟨g, o, e, hg, hg', fun i hi => ?_⟩
    rw [hc i (by omega)]
    have : (bs.take n).getD i 0 = bs.getD i 0 := by simp [show i < n by omega]
    rw [this]

/-! ### Rows of the call's own -/
/-- v is a row of the call's own, of n elements of the type e, each of sz cells. -/
def Row (w : World) (e : TypeId) (sz : Nat) (v : Value) (n : Nat) (xs : List Value) : Prop := w.ownsRow 0 e sz v n xs

theorem Row.nil (w : World) (e : TypeId) (sz : Nat) : Row w e sz (.slice none 0 0) 0 [] := World.ownsRow_nil _ _ _ _
theorem Row.kp {L : Nat → Prop} {w w' : World} {e : TypeId} {sz n : Nat} {v : Value} {xs : List Value} (h : Row w e sz v n xs) (k : Kp L w w') (hv : ∀ x, v.ownBlock = some x → ¬ L x) : Row w' e sz v n xs := by
  refine ⟨h.1, ?_⟩
  rcases h.2 with hn | ⟨g, cap, cur, rfl, hb, hgg, rest⟩
  · exact .inl hn
  · exact .inr ⟨g, cap, cur, rfl, hb, by rw [k.block g (Array.getElem?_eq_some_iff.1 hgg).1 (hv g rfl)]; exact hgg, rest⟩
theorem Row.kept {w w' : World} {e : TypeId} {sz n : Nat} {v : Value} {xs : List Value} (h : Row w e sz v n xs) (k : Kp No w w') : Row w' e sz v n xs := h.kp k (fun _ _ hx => hx.elim)
theorem Row.lt {w : World} {e : TypeId} {sz n : Nat} {v : Value} {xs : List Value} (h : Row w e sz v n xs) : ∀ x, v.ownBlock = some x → x < w.heap.size := fun x hx => (World.ownsRow.lt h x hx).2
/-- Blocks of other types are other blocks. -/
theorem Row.ne {w : World} {e : TypeId} {sz n : Nat} {v : Value} {xs : List Value} (h : Row w e sz v n xs) {b : Nat} {cs : List Value} {t : TypeId} (hb : Blk w b t cs) (ht : t ≠ e) : v.ownBlock ≠ some b := by
  rcases h.2 with ⟨rfl, _⟩ | ⟨g, cap, cur, rfl, _, hgg, _⟩
  · simp [Value.ownBlock]
  · intro hx
    simp [Value.ownBlock] at hx
    subst hx
    unfold Blk at hb
    rw [hgg] at hb
    simp at hb
    exact ht hb.2.symm
theorem Row.ne' {w : World} {e e' : TypeId} {sz n sz' n' : Nat} {v v' : Value} {xs xs' : List Value} (h : Row w e sz v n xs) (h' : Row w e' sz' v' n' xs') (ht : e ≠ e') : ∀ x, v.ownBlock = some x → v'.ownBlock ≠ some x := by
  intro x hx hx'
  rcases h.2 with ⟨rfl, _⟩ | ⟨g, cap, cur, rfl, _, hgg, _⟩
  · simp [Value.ownBlock] at hx
  · rcases h'.2 with ⟨rfl, _⟩ | ⟨g', cap', cur', rfl, _, hgg', _⟩
    · simp [Value.ownBlock] at hx'
    · simp [Value.ownBlock] at hx hx'
      subst hx hx'
      rw [hgg] at hgg'
      simp at hgg'
      exact ht hgg'.2
theorem Row.shape {w : World} {e : TypeId} {sz n : Nat} {v : Value} {xs : List Value} (h : Row w e sz v n xs) : ∃ a cap, v = .slice a n cap ∧ n ≤ cap ∧ cap ≤ maxLen ∧ (a = none → n = 0 ∧ cap = 0) ∧ ∀ x, a = some x → x.spot = none ∧ x.off = 0 := by
  rcases h.2 with ⟨rfl, h0⟩ | ⟨g, cap, cur, rfl, hg, hh, hn, hc, hs, ht⟩
  · subst h0
    exact ⟨none, 0, rfl, Nat.le_refl _, Nat.zero_le _, fun _ => ⟨rfl, rfl⟩, by simp⟩
  · exact ⟨_, cap, rfl, hn, hc, by simp, fun x hx => by cases hx; exact ⟨rfl, rfl⟩⟩
theorem Row.cellAt {w : World} {e : TypeId} {sz n g cap : Nat} {xs : List Value} (h : Row w e sz (.slice (some ⟨g, 0, none⟩) n cap) n xs) (i : Nat) (hi : i < n * sz) : w.cell? ⟨g, i, none⟩ = xs[i]? := by
  obtain ⟨hl, h2⟩ := h
  have hx : xs[i]? = some xs[i] := List.getElem?_eq_getElem (by omega)
  have h3 := World.ownsRow.cells (w := w) (base := 0) (e := e) (size := sz) (v := .slice (some ⟨g, 0, none⟩) n cap) (n := n) (xs := xs) ⟨hl, h2⟩ (g := g) rfl i xs[i] hx
  rw [addr_add, Nat.zero_add] at h3
  rw [h3, hx]

/-- The values of a slice that is read. -/
def Src (w : World) (v : Value) (m sz : Nat) (ys : List Value) : Prop :=
  (v = .slice none 0 0 ∧ m = 0 ∧ ys = []) ∨ ∃ ad c, v = .slice (some ad) m c ∧ ys.length = m * sz ∧ (∀ j u, ys[j]? = some u → w.cell? (ad.add j) = some u) ∧ ∀ u ∈ ys, u.oneCell' = true

/-- append(v, x...), v of the call's own. -/
theorem app_row {ops : Array Oper} {rest : List Oper} {o : Oper} {a : Act} {Q : Exit → Act → World → Prop} (w : World) (hgd : o.guard = none) (s x : Operand) (t e : TypeId) (z : Value) (sz by' : Nat)
    (ho : o.op = .call { callee := .builtin .append, args := #[s, x], argTypes := #[t, t] }) (ht : Tryz.prog.underlying t = some (.slice e)) (hin : (Tryz.prog.info? e).map (fun i => (i.zero, i.size, i.bytes)) = some (some z, sz, by'))
    (hz1 : z.cells.size = sz) (hsz : 0 < sz) (v vx : Value) (n m : Nat) (xs ys : List Value) (hs : a.eval s = v) (hx : a.eval x = vx)
    (hown : Row w e sz v n xs) (hy : Src w vx m sz ys) (hlen : n + m ≤ 20000000) (hby : by' ≤ 1000)
    (h : ∀ ad cap w', Row w' e sz (.slice ad (n + m) cap) (n + m) (xs ++ ys) → w.grownBy w' v.ownBlock → ((Value.slice ad (n + m) cap).ownBlock = v.ownBlock ∨ (Value.slice ad (n + m) cap).ownBlock = some w.heap.size) → wpList Tryz.prog ops Q rest (a.put o.dst (.slice ad (n + m) cap)) w') : wpList Tryz.prog ops Q (o :: rest) a w := by
  obtain ⟨i0, hi, hz0, hz1', hz2⟩ := info_parts hin
  rcases hy with ⟨rfl, rfl, rfl⟩ | ⟨ad, c, rfl, hl, hc, h1⟩
  · refine wpList_append_own_none hgd s x t ho 0 e i0 sz ht hi v n xs hs hown hx ?_
    obtain ⟨ad, cap, rfl, _⟩ := hown.shape
    exact h ad cap w (by rw [List.append_nil]; exact hown) ⟨rfl, rfl, rfl, Nat.le_refl _, fun _ _ _ => rfl⟩ (.inl rfl)
  · refine wpList_append_own_at (P := Tryz.prog) w hgd s x t ho 0 e i0 z sz by' ht hi hz0 hz1' hz2 hz1 hsz v n xs hs hown ad m c ys hx hl hc h1 (by unfold maxLen; omega) ?_ (Nat.zero_le _) ?_
    · have : (n + m) * by' ≤ 20000000 * 1000 := Nat.mul_le_mul hlen hby
      omega
    · intro v' w' h8 h9 _ h10
      have h8' : Row w' e sz v' (n + m) (xs ++ ys) := h8
      obtain ⟨ad', cap', rfl, _⟩ := h8'.shape
      exact h ad' cap' w' h8 h9 h10

/-- A literal of one element. -/
theorem Src.one (w : World) (us : List Value) (sz : Nat) (t : TypeId) (hl : us.length = sz) (h1 : ∀ u ∈ us, u.oneCell' = true) : Src (w.alloc (.cells us.toArray t)) (.slice (some ⟨w.heap.size, 0, none⟩) 1 1) 1 sz us :=
  .inr ⟨_, 1, rfl, by omega, fun j x hj => by
    rw [addr_add, World.cell?_alloc_at _ _ _ _ rfl]
    simpa using hj, h1⟩

/-! ### Bytes of the call's own -/
/-- v is a row of the call's own, of the bytes xs. -/
def OwnB (w : World) (v : Value) (xs : List Nat) : Prop := Row w 5 1 v xs.length (cl xs)
theorem OwnB.row {w : World} {v : Value} {xs : List Nat} (h : OwnB w v xs) : Row w 5 1 v xs.length (cl xs) := h
theorem OwnB.nil (w : World) : OwnB w (.slice none 0 0) [] := Row.nil _ _ _
theorem OwnB.shape {w : World} {v : Value} {xs : List Nat} (h : OwnB w v xs) : ∃ a cap, v = .slice a xs.length cap ∧ xs.length ≤ cap ∧ cap ≤ maxLen ∧ (a = none → xs = [] ∧ cap = 0) := by
  obtain ⟨a, cap, h1, h2, h3, h4, _⟩ := h.row.shape
  exact ⟨a, cap, h1, h2, h3, fun e => ⟨List.length_eq_zero_iff.1 (h4 e).1, (h4 e).2⟩⟩
theorem OwnB.byP {P : Nat → Prop} {w : World} {v : Value} {xs : List Nat} (h : OwnB w v xs) (hP : ∀ x, v.ownBlock = some x → P x) (hl : xs.length ≤ 20000000) (hx : ∀ x ∈ xs, x < 256) : ByP P w v xs := by
  rcases h.row.2 with ⟨rfl, h0⟩ | ⟨g, cap, cur, rfl, hg, hh, hn, hc, hs, ht⟩
  · have : xs = [] := List.length_eq_zero_iff.1 h0
    subst this
    exact ByP.nil _ _
  · refine ⟨_, cap, rfl, hn, hc, by simp, by omega, hx, fun _ => ⟨g, 0, rfl, hP g rfl, (Array.getElem?_eq_some_iff.1 hh).1, fun i hi => ?_⟩⟩
    rw [Nat.zero_add, h.row.cellAt i (by omega)]
    exact cl_at xs i hi
theorem ByP.src {P : Nat → Prop} {w : World} {v : Value} {ys : List Nat} (h : ByP P w v ys) : Src w v ys.length 1 (cl ys) := by
  obtain ⟨a, cap, rfl, h2, h3, h4, h5, h6, h7⟩ := h
  cases a with
  | none =>
    obtain ⟨rfl, rfl⟩ := h4 rfl
    exact .inl ⟨rfl, rfl, rfl⟩
  | some ad =>
    refine .inr ⟨ad, cap, rfl, by rw [cl_length, Nat.mul_one], fun j u hj => ?_, cl_one ys⟩
    have hjn : j < ys.length := by
      have := (List.getElem?_eq_some_iff.1 hj).1
      rwa [cl_length] at this
    obtain ⟨g, o, e, _, hb, hc⟩ := h7 (by intro e; subst e; simp at hjn)
    simp only [Option.some.injEq] at e
    subst e
    rw [addr_add, hc j hjn, ← cl_at ys j hjn]
    exact hj
theorem Tryz.info5 : (Tryz.prog.info? 5).map (fun i => (i.zero, i.size, i.bytes)) = some (some (.int .u8 0), 1, 1) := by kernel_rfl
/-- append of bytes. -/
theorem app_bytes {ops : Array Oper} {rest : List Oper} {o : Oper} {a : Act} {Q : Exit → Act → World → Prop} (w : World) (hgd : o.guard = none) (s x : Operand)
    (ho : o.op = .call { callee := .builtin .append, args := #[s, x], argTypes := #[54, 54] }) (v vx : Value) (xs ys : List Nat) (P : Nat → Prop) (hs : a.eval s = v) (hx : a.eval x = vx)
    (hown : OwnB w v xs) (hy : ByP P w vx ys) (hlen : xs.length + ys.length ≤ 20000000)
    (h : ∀ ad cap w', OwnB w' (.slice ad (xs.length + ys.length) cap) (xs ++ ys) → w.grownBy w' v.ownBlock → ((Value.slice ad (xs.length + ys.length) cap).ownBlock = v.ownBlock ∨ (Value.slice ad (xs.length + ys.length) cap).ownBlock = some w.heap.size) → wpList Tryz.prog ops Q rest (a.put o.dst (.slice ad (xs.length + ys.length) cap)) w') : wpList Tryz.prog ops Q (o :: rest) a w := by
  refine app_row w hgd s x 54 5 (.int .u8 0) 1 1 ho Tryz.underlying54 Tryz.info5 rfl (by decide) v vx xs.length ys.length (cl xs) (cl ys) hs hx hown.row hy.src hlen (by decide) ?_
  intro ad cap w' h1 h2 h3
  exact h ad cap w' (by unfold OwnB; rw [cl_append, List.length_append]; exact h1) h2 h3

theorem Tryz.nilEq (w : World) (a : Option Addr) (n c n' c' : Nat) : (binOp .eql 54 (.slice a n c) (.slice none n' c')).run Tryz.prog w = .ok (.bool a.isNone) w :=
  Lib.run_eql_slice_nil w _ _ a n c n' c' Tryz.underlying54
theorem own_empty (w : World) : OwnB (w.alloc (.cells #[] 5)) (.slice (some ⟨w.heap.size, 0, none⟩) 0 0) [] := World.ownsRow_made w #[] 0 (Nat.zero_le _) (Nat.zero_le _) rfl

set_option maxHeartbeats 1000000 in
/-- bytes.Clone. -/
theorem clone_any {P : Nat → Prop} (v : Value) (bs : List Nat) (w : World) (h : ByP P w v bs) (hl : bs.length ≤ 20000000) :
    Calls Tryz.prog 126 #[v] w fun e w' => ∃ ad cap, e = .returned (.slice ad bs.length cap) ∧ OwnB w' (.slice ad bs.length cap) bs ∧ (∀ x, (Value.slice ad bs.length cap).ownBlock = some x → w.heap.size ≤ x) ∧ Kp No w w' := by
  have q22 := Tryz.nilEq
  have H := hid h
  obtain ⟨a, cap, rfl, h2, h3, h4, h5, h6, h7⟩ := h
  clear h6 h7
  cases a with
  | none =>
    obtain ⟨rfl, rfl⟩ := h4 rfl
    go_enter Tryz.func126, Tryz.ntmps126
    go_wp2
    go_ret
    exact ⟨_, _, rfl, OwnB.nil _, by simp [Value.ownBlock], Kp.refl _ _⟩
  | some ad =>
    clear h4
    go_enter Tryz.func126, Tryz.ntmps126
    go_wp2_with (at_builtin; refine app_bytes _ rfl _ _ rfl (.slice (some ⟨w.heap.size, 0, none⟩) 0 0) _ [] bs P rfl rfl (own_empty w) (H.out.kept ((Kp.refl _ _).alloc _)) (by simpa using hl) ?_; intro ad' cap' w' hown hg hb)
    go_wp2
    go_ret
    rw [List.length_nil, Nat.zero_add] at hown hb
    refine ⟨ad', cap', rfl, by simpa using hown, fun x hx => ?_, ((Kp.refl _ w).alloc _).grown hg (fun x hx => .inr (by simp [Value.ownBlock] at hx; omega))⟩
    rcases hb with hb | hb
    · rw [hb] at hx
      simp [Value.ownBlock] at hx
      omega
    · rw [hb] at hx
      simp at hx
      omega

end Go.Proofs.YthmimipoooemjaaGreatDoor.Sim
end

section
/-
  A directory in memory: a map from names to files; looked at, written, copied, its names.
-/
namespace Go.Proofs.YthmimipoooemjaaGreatDoor.Sim
open Go.RowKit Go.Maps Go.Sort Go.Shelf

/-- How a pointer to a file reads: its block. -/
def ptrR (v : Value) : Option (DD × List MemPlace) :=
  match v with
  | .pointer (some a) => if a.off = 0 ∧ a.spot = none then some (fileD a.block, []) else none
  | .pointer none => some (.nil, [])
  | _ => none
def ptrV (b : Option Nat) : Value := .pointer (b.map fun x => ⟨x, 0, none⟩)
theorem ptrR_some (b : Nat) : ptrR (.pointer (some ⟨b, 0, none⟩)) = some (fileD b, []) := rfl
theorem ptrR_inv {v : Value} {y : DD × List MemPlace} (h : ptrR v = some y) : ∃ c, v = ptrV c ∧ y = (match c with | some b => fileD b | none => .nil, []) := by
  unfold ptrR at h
  split at h
  · rename_i a
    split at h
    · rename_i ha
      obtain ⟨bl, off, spot⟩ := a
      obtain ⟨h1, h2⟩ := ha
      simp at h1 h2
      subst h1 h2
      cases h
      exact ⟨some bl, rfl, rfl⟩
    · cases h
  · cases h
    exact ⟨none, rfl, rfl⟩
  · cases h
theorem fileD_inj {a b : Nat} (h : fileD a = fileD b) : a = b := by
  unfold fileD at h
  simp at h
  omega

theorem Tryz.keyed : Keyed Tryz.prog 9 := string_keyed Tryz.underlying9
theorem Tryz.key (n : Nm) (h : n.length ≤ 20000000) : keyOf Tryz.prog 9 (encStr n) = some (.string n) := by
  have h1 : (⟨n.toArray⟩ : ByteArray).size ≤ maxLen := by
    have : (⟨n.toArray⟩ : ByteArray).size = n.length := by simp [ByteArray.size]
    rw [this]; unfold maxLen; omega
  have := Go.WideMaps.keyOf_string_mk (P := Tryz.prog) (k := 9) Tryz.underlying9 h1
  simpa using this
theorem Tryz.zeroP (w : World) : (zeroValue 131).run Tryz.prog w = .ok (.pointer none) w := by kernel_rfl

/-- Block b is a map that is the directory l. -/
def MapAt (w : World) (b : Nat) (l : Dir) : Prop := w.ownsMap Tryz.prog 9 ptrR b l.length (dirD l)
theorem MapAt.of {w : World} {b n : Nat} {l : Dir} (h : w.ownsMap Tryz.prog 9 ptrR b n (dirD l)) : MapAt w b l := by
  obtain ⟨es, clock, hb, F, hs, hD⟩ := h
  refine ⟨es, clock, hb, F, ?_, hD⟩
  have h1 : Maps.size (dirD l) = es.size := by rw [hD]; simp [Maps.size, length_sorted]
  rw [dirD_size] at h1
  omega
theorem MapAt.lt {w : World} {b : Nat} {l : Dir} (h : MapAt w b l) : b < w.heap.size := World.ownsMap.lt h
theorem MapAt.kp {L : Nat → Prop} {w w' : World} {b : Nat} {l : Dir} (h : MapAt w b l) (k : Kp L w w') (hb : ¬ L b) : MapAt w' b l := by
  have hlt := h.lt
  obtain ⟨es, clock, h1, r⟩ := h
  exact ⟨es, clock, (k.block b hlt hb).trans h1, r⟩
theorem MapAt.ris {w : World} {b : Nat} {l : Dir} (h : MapAt w b l) : Ris l := ris_of_canon (World.ownsMap.canon h Tryz.keyed)
theorem MapAt.blk {w : World} {b b' : Nat} {l : Dir} {t : TypeId} {cs : List Value} (h : MapAt w b l) (h' : Blk w b' t cs) : b ≠ b' := by
  intro e
  subst e
  obtain ⟨es, clock, h1, _⟩ := h
  unfold Blk at h'
  rw [h1] at h'
  cases h'
theorem MapAt.row {w : World} {b : Nat} {l : Dir} {e : TypeId} {sz n : Nat} {v : Value} {xs : List Value} (h : MapAt w b l) (h' : Row w e sz v n xs) : v.ownBlock ≠ some b := by
  obtain ⟨es, clock, h1, _⟩ := h
  rcases h'.2 with ⟨rfl, _⟩ | ⟨g, cap, cur, rfl, _, hgg, _⟩
  · simp [Value.ownBlock]
  · intro hx
    simp [Value.ownBlock] at hx
    subst hx
    rw [h1] at hgg
    cases hgg
theorem MapAt.new (w : World) : MapAt (w.alloc (.map #[] 0)) w.heap.size [] := World.ownsMap_made _ _ _ _

theorem MapAt.look {w : World} {b : Nat} {l : Dir} (h : MapAt w b l) (n : Nm) (hn : n.length ≤ 20000000) : (Instr.lookup 101 (.map (some b)) (encStr n) false).run Tryz.prog w = .ok (ptrV (dfind l n)) w := by
  obtain ⟨v, ps, hrun, hv⟩ := World.ownsMap.lookup h Tryz.keyed Tryz.underlying101 (Tryz.zeroP w) (zd := .nil) (zp := []) rfl (Tryz.key n hn)
  rw [dirD_at] at hv
  obtain ⟨c, rfl, hc⟩ := ptrR_inv hv
  have e : c = dfind l n := by
    cases hd : dfind l n with
    | none =>
      rw [hd] at hc
      cases c with
      | none => rfl
      | some x => simp [fileD] at hc
    | some y =>
      rw [hd] at hc
      cases c with
      | none => simp [fileD] at hc
      | some x =>
        simp only [Prod.mk.injEq] at hc
        rw [fileD_inj hc.1]
  rw [hrun, e]
theorem look_nil (w : World) (n : Nm) (hn : n.length ≤ 20000000) : (Instr.lookup 101 (.map none) (encStr n) false).run Tryz.prog w = .ok (.pointer none) w := by
  have := Maps.look_nil (w := w) false Tryz.keyed Tryz.underlying101 (Tryz.zeroP w) (Tryz.key n hn)
  simpa using this

/-- A directory, made or not. -/
def MapV (w : World) (v : Value) (l : Dir) : Prop := (v = .map none ∧ l = []) ∨ ∃ b, v = .map (some b) ∧ MapAt w b l
theorem MapV.look {w : World} {v : Value} {l : Dir} (h : MapV w v l) (n : Nm) (hn : n.length ≤ 20000000) : (Instr.lookup 101 v (encStr n) false).run Tryz.prog w = .ok (ptrV (dfind l n)) w := by
  rcases h with ⟨rfl, rfl⟩ | ⟨b, rfl, h⟩
  · exact look_nil w n hn
  · exact h.look n hn

/-! ### Written -/
section
variable (w : World) {ops : Array Oper} {rest : List Oper} {o : Oper} {a : Act} {Q : Exit → Act → World → Prop}
theorem wp_store (hg : o.guard = none) (m x v : Operand) (hop : o.op = Op.mapUpdate 101 m x v) (b f : Nat) (l : Dir) (n : Nm) (hm : a.eval m = .map (some b)) (hx : a.eval x = encStr n) (hv : a.eval v = .pointer (some ⟨f, 0, none⟩))
    (h : MapAt w b l) (hn : n.length ≤ 20000000) (hl : l.length ≤ 20000000) (hK : ∀ w', MapAt w' b (dput l n f) → Kp (· = b) w w' → w'.heap.size = w.heap.size → wpList Tryz.prog ops Q rest (a.put o.dst undef) w') : wpList Tryz.prog ops Q (o :: rest) a w := by
  refine wpList_plain hg fun K' hK' => ?_
  obtain ⟨w', hrun, r1, r2⟩ := World.ownsMap.store h Tryz.keyed Tryz.underlying101 (by unfold maxLen; omega) (Tryz.key n hn) (ptrR_some f)
  unfold Oper.wp
  simp [execOp, hop, hm, hx, hv, hrun, Result.andThen]
  rw [dirD_put] at r1
  refine hK' _ _ (hK w' (MapAt.of r1) ((Kp.refl _ _).grown r2.grown (fun x hx => .inl (by simpa using hx.symm))) ?_)
  obtain ⟨es, clock, es', clock', _, rfl⟩ := r2
  simp [ChangeMaps.setBlock]
theorem wp_drop (hg : o.guard = none) (m x : Operand) (hop : o.op = Op.call { callee := Callee.builtin Builtin.delete, args := #[m, x], argTypes := #[101, 9] }) (b : Nat) (l : Dir) (n : Nm) (hm : a.eval m = .map (some b)) (hx : a.eval x = encStr n)
    (h : MapAt w b l) (hn : n.length ≤ 20000000) (hK : ∀ w', MapAt w' b (ddel l n) → Kp (· = b) w w' → w'.heap.size = w.heap.size → wpList Tryz.prog ops Q rest (a.put o.dst (.tuple #[])) w') : wpList Tryz.prog ops Q (o :: rest) a w := by
  refine wpList_plain hg fun K' hK' => ?_
  obtain ⟨w', hrun, r1, r2⟩ := World.ownsMap.drop h Tryz.keyed Tryz.underlying101 (Tryz.key n hn) o.type
  unfold Oper.wp
  simp [execOp, hop, resolve, invoke, builtin, hm, hx, hrun, Result.andThen]
  rw [dirD_del] at r1
  refine hK' _ _ (hK w' (MapAt.of r1) ((Kp.refl _ _).grown r2.grown (fun x hx => .inl (by simpa using hx.symm))) ?_)
  obtain ⟨es, clock, es', clock', _, rfl⟩ := r2
  simp [ChangeMaps.setBlock]
end
/-! ### Names, rising -/
theorem bb_lt : ∀ (a b : List UInt8), bytesBefore a b = true → a < b
  | [], [], h => by simp [bytesBefore] at h
  | [], _ :: _, _ => List.nil_lt_cons _ _
  | _ :: _, [], h => by simp [bytesBefore] at h
  | x :: r, y :: s, h => by
    rw [List.cons_lt_cons_iff]
    simp [bytesBefore] at h
    rcases h with h | ⟨h1, h2⟩
    · exact .inl h
    · exact .inr ⟨h1, bb_lt r s h2⟩
theorem sorted_names {l : Dir} (h : Ris l) : (l.map (·.1)).mergeSort leB = l.map (·.1) := by
  refine List.mergeSort_of_pairwise ?_
  rw [List.pairwise_map]
  refine List.Pairwise.imp ?_ h
  intro a b hab
  simp only [leB, decide_eq_true_eq]
  exact List.le_of_lt (bb_lt _ _ hab)

theorem Tryz.sorts (m : Nat) : AnyZ.SortsIn Tryz.prog Tryz.sorted_ren Fence.wide m :=
  ⟨fun blk off cap ss W hH hblk hsz => callsIn_wide.2 (AnyM.slices_Sort_string Tryz.sort blk off cap ss W hH hblk hsz),
   fun p cap W => callsIn_wide.2 (AnyM.slices_Sort_string_none Tryz.sort p cap W)⟩
theorem Tryz.maps_Keys (mb : Option Nat) (W : World) : CallsIn Fence.wide 5 Tryz.prog 104 #[.map mb] W fun e w' => e = .returned (.func (.func 153) #[] #[.pointer (some ⟨W.heap.size, 0, none⟩)]) ∧ w' = W.alloc (.cells #[.map mb] 101) :=
  AnyZ.keys_in Tryz.keys Fence.wide 5 trivial rfl mb W

set_option maxHeartbeats 1000000 in
theorem Tryz.sorted_keys (b nn : Nat) (D0 : DD) (R : Value → Option (DD × List MemPlace)) (w : World) (hown : w.ownsMap Tryz.prog 9 R b nn D0) (hmax : Maps.size D0 ≤ maxLen) (hbytes : Maps.size D0 * 16 ≤ 140737488355328) :
    CallsIn Fence.wide 5 Tryz.prog 103 #[.func (.func 153) #[] #[.pointer (some ⟨w.heap.size, 0, none⟩)]] (w.alloc (.cells #[.map (some b)] 101)) fun e w' => ∃ (v : Value) (ss : List (List UInt8)), e = .returned v ∧ ss.Perm (strKeys D0) ∧
      w'.ownsRow (w.alloc (.cells #[.map (some b)] 101)).heap.size 9 1 v ss.length ((ss.mergeSort (fun x y => decide (x ≤ y))).map encStr) ∧ (v = .slice none 0 0 ↔ ss = []) ∧ Below (w.alloc (.cells #[.map (some b)] 101)).heap.size (w.alloc (.cells #[.map (some b)] 101)) w' := by
  have hbl := hown.lt
  have hseq : SeqGives Fence.wide 2 Tryz.prog 153 #[.pointer (some ⟨w.heap.size, 0, none⟩)] encStr (fun ss => ss.Perm (strKeys D0)) (Maps.size D0) (w.alloc (.cells #[.map (some b)] 101)) :=
    AnyZ.keys_gives (ρ := Tryz.keys_ren) { Tryz.keys with } Fence.wide _ trivial rfl (by omega) w.heap.size b nn D0 _ (by simp) (by simp) (by
      obtain ⟨es, clock, hb, Ft, hs, hD⟩ := hown
      exact ⟨es, clock, (Below.heap_alloc _ _ b hbl).trans hb, Ft, hs, hD⟩)
  exact AnyZ.sorted_in Tryz.sorted Fence.wide 5 trivial trivial trivial trivial rfl (by omega) (Tryz.sorts _) (enters_of Tryz.func152 (by kernel_rfl) rfl) 153 #[.pointer (some ⟨w.heap.size, 0, none⟩)] trivial (enters_of Tryz.func153 (by kernel_rfl) rfl) _ _ hmax hbytes _ hseq

set_option maxHeartbeats 1000000 in
theorem Tryz.sorted_nil (w : World) :
    CallsIn Fence.wide 5 Tryz.prog 103 #[.func (.func 153) #[] #[.pointer (some ⟨w.heap.size, 0, none⟩)]] (w.alloc (.cells #[.map none] 101)) fun e w' => ∃ (v : Value) (ss : List (List UInt8)), e = .returned v ∧ ss = [] ∧
      w'.ownsRow (w.alloc (.cells #[.map none] 101)).heap.size 9 1 v ss.length ((ss.mergeSort (fun x y => decide (x ≤ y))).map encStr) ∧ (v = .slice none 0 0 ↔ ss = []) ∧ Below (w.alloc (.cells #[.map none] 101)).heap.size (w.alloc (.cells #[.map none] 101)) w' := by
  have hseq : SeqGives Fence.wide 2 Tryz.prog 153 #[.pointer (some ⟨w.heap.size, 0, none⟩)] encStr (fun ss : List (List UInt8) => ss = []) 0 (w.alloc (.cells #[.map none] 101)) :=
    AnyZ.keys_gives_nil (ρ := Tryz.keys_ren) { Tryz.keys with } Fence.wide _ trivial rfl w.heap.size _ (by simp) (by simp)
  exact AnyZ.sorted_in Tryz.sorted Fence.wide 5 trivial trivial trivial trivial rfl (by omega) (Tryz.sorts _) (enters_of Tryz.func152 (by kernel_rfl) rfl) 153 #[.pointer (some ⟨w.heap.size, 0, none⟩)] trivial (enters_of Tryz.func153 (by kernel_rfl) rfl) _ 0 (Nat.zero_le _) (by omega) _ hseq

/-- v is a row of the call's own, of the names ns, new. -/
def OwnN (w : World) (v : Value) (ns : List Nm) : Prop := Row w 9 1 v ns.length (ns.map encStr)

set_option maxHeartbeats 1000000 in
/-- (directory).names. -/
theorem names_any (w : World) (v : Value) (l : Dir) (h : MapV w v l) (hl : l.length ≤ 100000) :
    Calls Tryz.prog 62 #[v] w fun e w' => ∃ u, e = .returned u ∧ OwnN w' u (l.map (·.1)) ∧ (∀ x, u.ownBlock = some x → w.heap.size ≤ x) ∧ Kp No w w' := by
  rcases h with ⟨rfl, rfl⟩ | ⟨b, rfl, h⟩
  · refine (callsIn_wide (n := 6)).1 ?_
    have hfK : Fence.wide.fn 104 := trivial
    have hfS : Fence.wide.fn 103 := trivial
    refine callsIn_of_wp Tryz.func62 rfl trivial ?_ rfl
    simp only [Tryz.ntmps62]
    gi_wp2_with (first
      | (gi_at_call 104; refine (Tryz.maps_Keys none _).mono ?_; rintro e w' ⟨rfl, rfl⟩)
      | (gi_at_call 103; refine (Tryz.sorted_nil w).mono ?_; rintro e w' ⟨v, ss, rfl, rfl, hrow, hnil, hb⟩))
    go_ret
    refine ⟨v, rfl, ?_, ?_, ?_⟩
    · have := hnil.2 (by first | rfl | trivial)
      subst this
      exact Row.nil _ _ _
    · have := hnil.2 (by first | rfl | trivial)
      subst this
      simp [Value.ownBlock]
    · exact ((Kp.refl _ _).alloc _).andNone (Kp.below hb)
  · have hsz : Maps.size (dirD l) = l.length := dirD_size l
    refine (callsIn_wide (n := 6)).1 ?_
    have hfK : Fence.wide.fn 104 := trivial
    have hfS : Fence.wide.fn 103 := trivial
    have HM := hid h
    have HC := hid (Tryz.sorted_keys b l.length (dirD l) ptrR w h (by rw [hsz]; unfold maxLen; omega) (by rw [hsz]; omega))
    clear h hsz
    refine callsIn_of_wp Tryz.func62 rfl trivial ?_ rfl
    simp only [Tryz.ntmps62]
    gi_wp2_with (first
      | (gi_at_call 104; refine (Tryz.maps_Keys (some b) _).mono ?_; rintro e w' ⟨rfl, rfl⟩)
      | (gi_at_call 103; refine (HC.out).mono ?_; rintro e w' ⟨v, ss, rfl, hS, hrow, hnil, hb⟩))
    go_ret
    have e1 : ss.mergeSort leB = l.map (·.1) := by
      rw [dirD_keys] at hS
      rw [mergeSort_of_perm hS, sorted_names HM.out.ris]
    have e2 : ss.length = (l.map (·.1)).length := by rw [dirD_keys] at hS; exact hS.length_eq
    have hrow' : w'.ownsRow (w.alloc (.cells #[.map (some b)] 101)).heap.size 9 1 v ss.length ((ss.mergeSort leB).map encStr) := hrow
    rw [e1, e2] at hrow'
    refine ⟨v, rfl, ?_, fun x hx => ?_, ?_⟩
    · refine ⟨hrow'.1, ?_⟩
      rcases hrow'.2 with h | ⟨g, cap, cur, rfl, hb, r⟩
      · exact .inl h
      · exact .inr ⟨g, cap, cur, rfl, Nat.zero_le _, r⟩
    · have := (hrow'.lt x hx).1
      simp at this
      omega
    · exact ((Kp.refl _ _).alloc _).andNone (Kp.below hb)

end Go.Proofs.YthmimipoooemjaaGreatDoor.Sim
end

section
/-
  Which names are right: the program's Name, by runes, and the reference's, by bytes.
-/
namespace Go.Proofs.YthmimipoooemjaaGreatDoor.Sim
open Go.RowKit

/-- A rune that no name has. -/
def badR (x : Nat) : Bool := decide (x < 33) || decide (126 < x) || x == 47

theorem sign_bad (c : UInt8) : badR c.toNat = !sign c := by
  unfold badR sign
  by_cases h1 : c.toNat < 33 <;> by_cases h2 : 126 < c.toNat <;> by_cases h3 : c.toNat = 47 <;> simp [h1, h2, h3] <;> omega
theorem sign_high (c : UInt8) (h : 128 ≤ c.toNat) : sign c = false := by
  unfold sign
  have : decide (c.toNat ≤ 126) = false := by simp; omega
  simp [this]

theorem dec_high (s : ByteArray) (pos : Nat) (h : 128 ≤ (s.get! pos).toNat) : 128 ≤ (Utf8.decode s pos).1 := by
  unfold Utf8.decode
  simp only [Nat.add_zero]
  rw [if_neg (by omega)]
  split
  · split
    · omega
    · unfold Utf8.runeError; omega
  · split
    · split
      · rename_i h; simp only [Bool.and_eq_true, decide_eq_true_eq, ge_iff_le] at h; omega
      · unfold Utf8.runeError; omega
    · split
      · split
        · rename_i h; simp only [Bool.and_eq_true, decide_eq_true_eq, ge_iff_le] at h; omega
        · unfold Utf8.runeError; omega
      · unfold Utf8.runeError; omega
theorem dec_bad (s : ByteArray) (pos : Nat) (h : pos < s.size) : badR (Utf8.decode s pos).1 = !sign (s[pos]'h) ∧ (sign (s[pos]'h) = true → (Utf8.decode s pos).2 = 1) := by
  have e : s.get! pos = s[pos]'h := by simp [ByteArray.get!, ByteArray.getElem_eq_getElem_data, getElem!_pos, h]
  by_cases hc : (s[pos]'h).toNat < 128
  · rw [decode_ascii s pos h hc]
    exact ⟨sign_bad _, fun _ => rfl⟩
  · have h1 := sign_high _ (by omega : 128 ≤ (s[pos]'h).toNat)
    have h2 := dec_high s pos (by rw [e]; omega)
    refine ⟨?_, fun h => by rw [h1] at h; cases h⟩
    rw [h1]
    unfold badR
    have : decide (126 < (Utf8.decode s pos).1) = true := by simp; omega
    simp [this]

theorem pName1_any (x : Nat) (hx : x ≤ 1114111) (w : World) : Calls Tryz.prog 150 #[.int .i32 x] w fun e w' => e = .returned (.bool (badR x)) ∧ w' = w := by
  by_cases h1 : x < 33
  · have e : badR x = true := by simp [badR, h1]
    rw [e]
    have h1' : (x : Int) < 33 := by omega
    go_enter Tryz.func150, Tryz.ntmps150
    go_wp2
    go_ret
    exact ⟨rfl, rfl⟩
  · by_cases h2 : 126 < x
    · have e : badR x = true := by simp [badR, h2]
      rw [e]
      have h1' : ¬ (x : Int) < 33 := by omega
      have h2' : (126 : Int) < x := by omega
      go_enter Tryz.func150, Tryz.ntmps150
      go_wp2
      go_ret
      exact ⟨rfl, rfl⟩
    · have h1' : ¬ (x : Int) < 33 := by omega
      have h2' : ¬ (126 : Int) < x := by omega
      have e : badR x = (x == 47) := by simp [badR, h1, h2]
      rw [e]
      by_cases h3 : x = 47
      · subst h3
        go_enter Tryz.func150, Tryz.ntmps150
        go_wp2
        go_ret
        exact ⟨rfl, rfl⟩
      · have h3' : ((x : Int) == 47) = false := by simp; omega
        have h3'' : (x == 47) = false := by simp; omega
        rw [h3'']
        go_enter Tryz.func150, Tryz.ntmps150
        go_wp2
        go_ret
        exact ⟨rfl, rfl⟩

set_option maxHeartbeats 1000000 in
theorem indexFunc_any (s : ByteArray) (w : World) : Calls Tryz.prog 230 #[.string s, .func (.func 150) #[] #[], .bool true] w fun e w' => ∃ z : Int, e = .returned (.int .i64 z) ∧ decide (0 ≤ z) = !(s.data.toList.all sign) ∧ Below w.heap.size w w' := by
  go_enter Tryz.func230, Tryz.ntmps230
  go_wp2
  go_loopg [] s.size (fun gf wx => ∃ pos : Nat, Hid (wx.heap[w.heap.size]? = some (.stringIter s pos)) ∧ Hid (Below w.heap.size w wx) ∧ pos ≤ s.size ∧ Hid ((s.data.toList.take pos).all sign = true) ∧ s.size ≤ pos + gf)
  case atStart => exact ⟨0, World.iter_heap w s 0, (Below.refl _ w).alloc (Nat.le_refl _) _, Nat.zero_le _, by simp [Hid], by omega⟩
  case round =>
    obtain ⟨pos, hit, hbw, hps0, hall, hfu⟩ := hrel
    by_cases hps : pos < s.size
    · obtain ⟨g', rfl⟩ : ∃ g', gk = g' + 1 := ⟨gk - 1, by omega⟩
      have hnx : ∀ ty, (Instr.next (.pointer (some ⟨w.heap.size, 0, none⟩)) true ty).run Tryz.prog wr = _ := fun ty => Lib.run_next_any_at wr w.heap.size s pos ty hit hps
      obtain ⟨hb, hK1⟩ := dec_bad s pos hps
      have hle := Lib.rune_le s pos
      obtain ⟨R, hR⟩ : ∃ R, (Utf8.decode s pos).1 = R := ⟨_, rfl⟩
      obtain ⟨K, hK⟩ : ∃ K, (Utf8.decode s pos).2 = K := ⟨_, rfl⟩
      rw [hR, hK] at hnx
      rw [hR] at hb hle
      rw [hK] at hK1
      have hit2 := hid (Lib.iterAt_heap wr w.heap.size s pos (pos + K) hit)
      have hbw2 := hid (Lib.below_iterAt hbw (k := w.heap.size) (Nat.le_refl _) s (pos + K))
      have hc := hid (pName1_any R hle)
      obtain ⟨W, hWd⟩ : ∃ W, wr.iterAt w.heap.size s (pos + K) = W := ⟨_, rfl⟩
      rw [hWd] at hnx hit2 hbw2
      have hel : Hid (s.data.toList.take (pos + 1) = s.data.toList.take pos ++ [s[pos]'hps]) := by
        rw [Hid, List.take_succ_eq_append_getElem (by simpa using hps)]
        rfl
      clear hR hK hWd hit
      cases hsg : sign (s[pos]'hps) with
      | true =>
        have HK := hid (hK1 hsg)
        rw [hsg] at hb
        have HB := hid hb
        have HG := hid hsg
        clear hK1 hb hsg
        go_wp2_with (go_at_call 150; refine (hc.out _).mono ?_; rintro e w2 ⟨rfl, h2⟩; subst w2; rw [HB.out])
        go_roundg g'
        case measure => omega
        case rel =>
          have h1 := HK.out
          subst h1
          exact ⟨pos + 1, hit2, hbw2, by omega, by rw [Hid, hel.out, List.all_append, hall.out]; simp [HG.out], by omega⟩
      | false =>
        rw [hsg] at hb
        have HB := hid hb
        have HG := hid hsg
        clear hK1 hb hsg
        go_wp2_with (go_at_call 150; refine (hc.out _).mono ?_; rintro e w2 ⟨rfl, h2⟩; subst w2; rw [HB.out])
        go_ret
        refine ⟨pos, rfl, ?_, hbw2.out⟩
        have hfa : s.data.toList.all sign = false := by
          rw [List.all_eq_false]
          exact ⟨s[pos]'hps, by simp [ByteArray.getElem_eq_getElem_data], by simp [HG.out]⟩
        rw [hfa]
        simp
    · have hnx : ∀ ty, (Instr.next (.pointer (some ⟨w.heap.size, 0, none⟩)) true ty).run Tryz.prog wr = _ := fun ty => Lib.run_next_end_at wr w.heap.size s pos ty hit hps
      go_wp2
      go_ret
      refine ⟨-1, rfl, ?_, hbw.out⟩
      have := hall.out
      rw [List.take_of_length_le (by rw [Array.length_toList]; have : s.data.size = s.size := rfl; omega)] at this
      rw [this]
      rfl

theorem IndexFunc_any (s : ByteArray) (w : World) : Calls Tryz.prog 195 #[.string s, .func (.func 150) #[] #[]] w fun e w' => ∃ z : Int, e = .returned (.int .i64 z) ∧ decide (0 ≤ z) = !(s.data.toList.all sign) ∧ Below w.heap.size w w' := by
  have HI := hid (indexFunc_any s w)
  go_enter Tryz.func195, Tryz.ntmps195
  go_wp2_with (go_at_call 230; refine (HI.out).mono ?_; rintro e w1 ⟨z, rfl, hz, hb⟩; have HZ := hid hz; have HB := hid hb; clear hz hb)
  go_ret
  exact ⟨z, rfl, HZ.out, HB.out⟩

theorem containsFunc_any (s : ByteArray) (w : World) : Calls Tryz.prog 149 #[.string s, .func (.func 150) #[] #[]] w fun e w' => e = .returned (.bool (!(s.data.toList.all sign))) ∧ Below w.heap.size w w' := by
  have HI := hid (IndexFunc_any s w)
  go_enter Tryz.func149, Tryz.ntmps149
  go_wp2_with (go_at_call 195; refine (HI.out).mono ?_; rintro e w1 ⟨z, rfl, hz, hb⟩; have HZ := hid hz; have HB := hid hb; clear hz hb)
  go_ret
  refine ⟨?_, HB.out⟩
  rw [← HZ.out]
  rfl

/-- Name. -/
theorem pName_any (s : ByteArray) (hs : s.size ≤ 20000000) (w : World) : Calls Tryz.prog 101 #[.string s] w fun e w' => e = .returned (.bool (nameB s.data.toList)) ∧ Kp No w w' := by
  have hl : s.data.toList.length = s.size := by rw [Array.length_toList]; rfl
  by_cases h1 : s.size < 1
  · have e : nameB s.data.toList = false := by unfold nameB; rw [hl, decide_eq_false (by omega)]; rfl
    rw [e]
    have h1' : (s.size : Int) < 1 := by omega
    go_enter Tryz.func101, Tryz.ntmps101
    go_wp2
    go_ret
    exact ⟨rfl, Kp.refl _ _⟩
  · have h1' : ¬ (s.size : Int) < 1 := by omega
    by_cases h2 : 40 < s.size
    · have e : nameB s.data.toList = false := by unfold nameB; rw [hl, decide_eq_true (by omega), decide_eq_false (by omega)]; rfl
      rw [e]
      have h2' : (40 : Int) < (s.size : Int) := by omega
      go_enter Tryz.func101, Tryz.ntmps101
      go_wp2
      go_ret
      exact ⟨rfl, Kp.refl _ _⟩
    · have e : nameB s.data.toList = s.data.toList.all sign := by unfold nameB; rw [hl, decide_eq_true (by omega), decide_eq_true (by omega)]; rfl
      rw [e]
      have h2' : ¬ (40 : Int) < (s.size : Int) := by omega
      have HC := hid (containsFunc_any s w)
      generalize s.data.toList.all sign = ok at *
      clear e hl
      have hnot : ∀ (x : Bool) (w : World), (Op.unary .not (.bool x)).run Tryz.prog w = .ok (.bool (!x)) w := fun _ _ => rfl
      go_enter Tryz.func101, Tryz.ntmps101
      go_wp2_with (go_at_call 149; refine (HC.out).mono ?_; rintro e w1 ⟨rfl, hb⟩; have HB := hid hb; clear hb)
      go_ret
      exact ⟨rfl, Kp.below HB.out⟩

end Go.Proofs.YthmimipoooemjaaGreatDoor.Sim
end

section
/-
  The reference's Name and Less, by bytes.
-/
namespace Go.Proofs.YthmimipoooemjaaGreatDoor.Sim
open Go.RowKit

/-- A text's byte. -/
def byt (s : ByteArray) (i : Nat) : Nat := (s.data.toList.getD i 0).toNat
theorem byt_lt (s : ByteArray) (i : Nat) : byt s i < 256 := UInt8.toNat_lt _
theorem len_data (s : ByteArray) : s.data.toList.length = s.size := by rw [Array.length_toList]; rfl
end Go.Proofs.YthmimipoooemjaaGreatDoor.Sim
end

section
/-
  The system in memory: its struct, its two maps, its changes, its files.
-/
namespace Go.Proofs.YthmimipoooemjaaGreatDoor.Sim
open Go.RowKit

/-- A name as a text, and a text as a name. -/
def sOf (n : Nm) : ByteArray := ⟨n.toArray⟩
def nm (s : ByteArray) : Nm := s.data.toList
theorem nm_sOf (n : Nm) : nm (sOf n) = n := rfl
theorem sOf_nm (s : ByteArray) : sOf (nm s) = s := by unfold sOf nm; simp
theorem enc_nm (s : ByteArray) : encStr (nm s) = .string s := by show Value.string (sOf (nm s)) = _; rw [sOf_nm]
theorem nm_len (s : ByteArray) : (nm s).length = s.size := len_data s
theorem sOf_size (n : Nm) : (sOf n).size = n.length := by rw [← nm_len, nm_sOf]
theorem MapV.lookS {w : World} {v : Value} {l : Dir} (h : MapV w v l) (s : ByteArray) (hn : s.size ≤ 20000000) : (Instr.lookup 101 v (.string s) false).run Tryz.prog w = .ok (ptrV (dfind l (nm s))) w := by
  rw [← enc_nm]
  exact h.look (nm s) (by rw [nm_len]; exact hn)

/-! ### The struct -/
def fsCells (p : PS) (vs vf vc : Value) : List Value := [.int .i64 (p.room : Int), vs, vf, vc, .bool p.down, .bool p.armed, .int .i64 (p.left : Int), .int .i64 (p.steps : Int)]
/-- A change's cells. -/
def pcV (c : PC) : Option Nat := if c.kind = 0 then some c.file else none
def chgCells (c : PC) : List Value := [.int .i64 (c.kind : Int), .string (sOf c.nm), .string (sOf c.to), ptrV (pcV c)]
def chgs (l : List PC) : List Value := l.flatMap chgCells
theorem chgs_append (l m : List PC) : chgs (l ++ m) = chgs l ++ chgs m := by simp [chgs]
theorem chgs_one (c : PC) : chgs [c] = chgCells c := by simp [chgs]
theorem chgs_at (l : List PC) (i : Nat) (c : PC) (h : l[i]? = some c) (j : Nat) (hj : j < 4) : (chgs l)[i * 4 + j]? = (chgCells c)[j]? := by
  induction l generalizing i with
  | nil => simp at h
  | cons d r ih =>
    have e : chgs (d :: r) = chgCells d ++ chgs r := by simp [chgs]
    rw [e]
    cases i with
    | zero =>
      simp at h
      subst h
      rw [List.getElem?_append_left (by simp [chgCells]; omega)]
      simp
    | succ i =>
      rw [List.getElem?_append_right (by simp [chgCells]; omega)]
      have : (i + 1) * 4 + j - (chgCells d).length = i * 4 + j := by simp [chgCells]; omega
      rw [this]
      exact ih i (by simpa using h)
theorem chgCells_one (c : PC) : ∀ u ∈ chgCells c, u.oneCell' = true := by
  intro u hu
  simp [chgCells] at hu
  rcases hu with rfl | rfl | rfl | rfl <;> rfl

/-- A file in memory: its struct in block b, its bytes in v. -/
structure FileAt (w : World) (b : Nat) (v : Value) (f : Fl) : Prop where
  blk : Blk w b 135 [v, .int .i64 (f.safe : Int)]
  own : OwnB w v f.b
  byt : ∀ x ∈ f.b, x < 256
  le : f.safe ≤ f.b.length
theorem FileAt.kp {L : Nat → Prop} {w w' : World} {b : Nat} {v : Value} {f : Fl} (h : FileAt w b v f) (k : Kp L w w') (hb : ¬ L b) (hv : ∀ x, v.ownBlock = some x → ¬ L x) : FileAt w' b v f :=
  ⟨h.blk.kp k hb, h.own.row.kp k hv, h.byt, h.le⟩

/-- What holds of the state alone. N: a bound that grows with each call. -/
structure PInv (N : Nat) (p : PS) : Prop where
  seen_eq : p.seen = p.chg.foldl pdo p.safe
  okc : okcs p.safe p.chg
  has : ∀ e ∈ p.safe, (p.files e.2).isSome = true
  hasC : ∀ c ∈ p.chg, c.kind = 0 → (p.files c.file).isSome = true
  nodup : (p.safe.map (·.2) ++ (p.chg.filter (fun c => c.kind == 0)).map (·.file)).Nodup
  nmS : ∀ e ∈ p.safe, e.1.length ≤ 40
  nmC : ∀ c ∈ p.chg, c.nm.length ≤ 40 ∧ c.to.length ≤ 40
  nmade : p.made = false → p.chg = [] ∧ p.safe = []
  room : p.room ≤ 99000
  left : p.left ≤ 9223372036854775807
  steps : p.steps ≤ N
  lsum : p.safe.length + p.chg.length ≤ N
  lfile : ∀ b f, p.files b = some f → f.b.length ≤ 12000 * N
  big : N ≤ 1000

theorem length_fold : ∀ (l : List PC) (d : Dir), (l.foldl pdo d).length ≤ d.length + l.length
  | [], _ => Nat.le_refl _
  | c :: r, d => by
    have h1 := length_fold r (pdo d c)
    have h2 := length_pdo d c
    simp only [List.foldl_cons, List.length_cons]
    omega
theorem PInv.lsafe {N : Nat} {p : PS} (h : PInv N p) : p.safe.length ≤ N := by have := h.lsum; omega
theorem PInv.lchg {N : Nat} {p : PS} (h : PInv N p) : p.chg.length ≤ N := by have := h.lsum; omega
theorem PInv.lseen {N : Nat} {p : PS} (h : PInv N p) : p.seen.length ≤ N := by
  have h1 := length_fold p.chg p.safe
  rw [← h.seen_eq] at h1
  have := h.lsum
  omega

structure Rp (P : Nat → Prop) (I : PS → Prop) (w : World) (s : Nat) (p : PS) (vs vf vc : Value) (u : Nat → Value) : Prop where
  lt : ∀ x, P x → x < w.heap.size
  ps : P s
  blk : Blk w s 109 (fsCells p vs vf vc)
  seen : MapV w vs p.seen
  safe : MapV w vf p.safe
  unmade : p.made = false → vs = .map none ∧ vf = .map none
  mades : p.made = true → ∃ a b, vs = .map (some a) ∧ vf = .map (some b) ∧ a ≠ b ∧ P a ∧ P b
  chg : Row w 173 4 vc p.chg.length (chgs p.chg)
  pc : ∀ x, vc.ownBlock = some x → P x
  file : ∀ b f, p.files b = some f → P b ∧ FileAt w b (u b) f ∧ ∀ x, (u b).ownBlock = some x → P x
  sep : ∀ b b' f f', p.files b = some f → p.files b' = some f' → b ≠ b' → ∀ x, (u b).ownBlock = some x → (u b').ownBlock ≠ some x
  inv : I p

/-- The system of the state p lies at s, in blocks of which P. -/
def Sys (P : Nat → Prop) (N : Nat) (w : World) (s : Nat) (p : PS) : Prop := ∃ vs vf vc u, Rp P (PInv N) w s p vs vf vc u

theorem MapV.kp {L : Nat → Prop} {w w' : World} {v : Value} {l : Dir} (h : MapV w v l) (k : Kp L w w') (hP : ∀ b, v = .map (some b) → ¬ L b) : MapV w' v l := by
  rcases h with h | ⟨b, rfl, h⟩
  · exact .inl h
  · exact .inr ⟨b, rfl, h.kp k (hP b rfl)⟩
theorem Rp.mapS {P : Nat → Prop} {I : PS → Prop} {w : World} {s : Nat} {p : PS} {vs vf vc : Value} {u : Nat → Value} (h : Rp P I w s p vs vf vc u) : (∀ b, vs = .map (some b) → P b) ∧ ∀ b, vf = .map (some b) → P b := by
  cases hm : p.made with
  | false =>
    obtain ⟨rfl, rfl⟩ := h.unmade hm
    exact ⟨fun b hb => (by cases hb), fun b hb => (by cases hb)⟩
  | true =>
    obtain ⟨a, b, rfl, rfl, _, ha, hb⟩ := h.mades hm
    exact ⟨fun x hx => (by cases hx; exact ha), fun x hx => (by cases hx; exact hb)⟩
/-- What is done elsewhere leaves it as it is. -/
theorem Rp.kp {P L : Nat → Prop} {I : PS → Prop} {w w' : World} {s : Nat} {p : PS} {vs vf vc : Value} {u : Nat → Value} (h : Rp P I w s p vs vf vc u) (k : Kp L w w') (hL : ∀ x, L x → ¬ P x) : Rp P I w' s p vs vf vc u where
  lt x hx := Nat.lt_of_lt_of_le (h.lt x hx) k.size
  ps := h.ps
  blk := h.blk.kp k (fun hl => hL _ hl h.ps)
  seen := h.seen.kp k (fun b hb hl => hL _ hl (h.mapS.1 b hb))
  safe := h.safe.kp k (fun b hb hl => hL _ hl (h.mapS.2 b hb))
  unmade := h.unmade
  mades := h.mades
  chg := h.chg.kp k (fun x hx hl => hL _ hl (h.pc x hx))
  pc := h.pc
  file b f hf := by
    obtain ⟨h1, h2, h3⟩ := h.file b f hf
    exact ⟨h1, h2.kp k (fun hl => hL _ hl h1) (fun x hx hl => hL _ hl (h3 x hx)), h3⟩
  sep := h.sep
  inv := h.inv
theorem Sys.kp {P L : Nat → Prop} {N : Nat} {w w' : World} {s : Nat} {p : PS} (h : Sys P N w s p) (k : Kp L w w') (hL : ∀ x, L x → ¬ P x) : Sys P N w' s p := by
  obtain ⟨vs, vf, vc, u, h⟩ := h
  exact ⟨vs, vf, vc, u, h.kp k hL⟩
theorem Sys.kept {P : Nat → Prop} {N : Nat} {w w' : World} {s : Nat} {p : PS} (h : Sys P N w s p) (k : Kp No w w') : Sys P N w' s p := h.kp k (fun _ hx => hx.elim)
theorem PInv.mono {N M : Nat} {p : PS} (h : PInv N p) (hm : N ≤ M) (hb : M ≤ 1000) : PInv M p :=
  { h with steps := Nat.le_trans h.steps hm, lsum := Nat.le_trans h.lsum hm, lfile := fun b f hf => Nat.le_trans (h.lfile b f hf) (Nat.mul_le_mul_left _ hm), big := hb }
theorem Sys.more {P : Nat → Prop} {N M : Nat} {w : World} {s : Nat} {p : PS} (h : Sys P N w s p) (hm : N ≤ M) (hb : M ≤ 1000) : Sys P M w s p := by
  obtain ⟨vs, vf, vc, u, h⟩ := h
  exact ⟨vs, vf, vc, u, { h with inv := h.inv.mono hm hb }⟩
theorem Sys.lt {P : Nat → Prop} {N : Nat} {w : World} {s : Nat} {p : PS} (h : Sys P N w s p) : ∀ x, P x → x < w.heap.size := by
  obtain ⟨vs, vf, vc, u, h⟩ := h
  exact h.lt
theorem Sys.inv {P : Nat → Prop} {N : Nat} {w : World} {s : Nat} {p : PS} (h : Sys P N w s p) : PInv N p := by
  obtain ⟨vs, vf, vc, u, h⟩ := h
  exact h.inv

/-! ### The files that names lead to are there -/
theorem mem_pdo {d : Dir} {c : PC} {e : Nm × Nat} (hok : okc d c) (h : e ∈ pdo d c) : e ∈ d ∨ (c.kind = 0 ∧ e = (c.nm, c.file)) ∨ (c.kind = 2 ∧ ∃ b, dfind d c.nm = some b ∧ e = (c.to, b)) := by
  unfold pdo at h
  split at h
  · rename_i hk
    rcases mem_dput.1 h with rfl | h
    · exact .inr (.inl ⟨hk, rfl⟩)
    · exact .inl h.1
  · split at h
    · exact .inl (mem_ddel.1 h).1
    · have hk : c.kind = 2 := by have := hok.1; omega
      rcases mem_dput.1 h with rfl | h
      · obtain ⟨b, hb⟩ := Option.isSome_iff_exists.1 (hok.2 hk)
        exact .inr (.inr ⟨hk, b, hb, by rw [hb]; rfl⟩)
      · exact .inl (mem_ddel.1 h.1).1
theorem fold_has {F : Nat → Prop} {M : Nm → Prop} : ∀ (l : List PC) (d : Dir), okcs d l → (∀ e ∈ d, F e.2 ∧ M e.1) → (∀ c ∈ l, (c.kind = 0 → F c.file) ∧ M c.nm ∧ M c.to) → ∀ e ∈ l.foldl pdo d, F e.2 ∧ M e.1
  | [], _, _, hd, _ => hd
  | c :: r, d, hok, hd, hc => by
    refine fold_has r (pdo d c) hok.2 (fun e he => ?_) (fun c' hc' => hc c' (by simp [hc']))
    obtain ⟨c1, c2, c3⟩ := hc c (by simp)
    rcases mem_pdo hok.1 he with h | ⟨hk, rfl⟩ | ⟨_, b, hb, rfl⟩
    · exact hd e h
    · exact ⟨c1 hk, c2⟩
    · exact ⟨(hd _ (mem_of_dfind hb)).1, c3⟩
theorem PInv.hasSeen {N : Nat} {p : PS} (h : PInv N p) : ∀ e ∈ p.seen, (p.files e.2).isSome = true ∧ e.1.length ≤ 40 := by
  rw [h.seen_eq]
  exact fold_has (F := fun b => (p.files b).isSome = true) (M := fun n => n.length ≤ 40) p.chg p.safe h.okc (fun e he => ⟨h.has e he, h.nmS e he⟩) (fun c hc => ⟨h.hasC c hc, (h.nmC c hc).1, (h.nmC c hc).2⟩)
theorem PInv.hasFound {N : Nat} {p : PS} (h : PInv N p) {n : Nm} {b : Nat} (hb : dfind p.seen n = some b) : p.files b = some (fileAt p b) := by
  obtain ⟨f, hf⟩ := Option.isSome_iff_exists.1 ((h.hasSeen _ (mem_of_dfind hb)).1)
  simp only at hf
  rw [fileAt, hf]
  rfl

end Go.Proofs.YthmimipoooemjaaGreatDoor.Sim
end

section
/-
  What tells alone: wrong, find, Read, Size, Down, Steps.
-/
namespace Go.Proofs.YthmimipoooemjaaGreatDoor.Sim
open Go.RowKit

theorem pNameS_any (s : ByteArray) (hs : s.size ≤ 20000000) (w : World) : Calls Tryz.prog 101 #[.string s] w fun e w' => e = .returned (.bool (nameB (nm s))) ∧ Kp No w w' := pName_any s hs w

/-- A slice of names, as it is handed to wrong. -/
def NsAt (w : World) (v : Value) (ns : List Nm) : Prop :=
  ∃ a cap, v = .slice a ns.length cap ∧ ns.length ≤ 100 ∧ (∀ n ∈ ns, n.length ≤ 20000000) ∧ (ns ≠ [] → ∃ g, a = some ⟨g, 0, none⟩ ∧ g < w.heap.size ∧ ∀ i, i < ns.length → w.cell? ⟨g, i, none⟩ = some (.string (sOf (ns.getD i []))))

theorem wrong_nil (v : Value) (w : World) : Calls Tryz.prog 60 #[.pointer none, v] w fun e w' => e = .returned (.int .i64 18) ∧ w' = w := by
  go_enter Tryz.func60, Tryz.ntmps60
  go_wp2
  go_ret
  exact ⟨rfl, rfl⟩

set_option maxHeartbeats 1000000 in
theorem wrong_any (sb : Nat) (v : Value) (ns : List Nm) (d : Bool) (w : World) (hd : w.cell? ⟨sb, 4, none⟩ = some (.bool d)) (h : NsAt w v ns) :
    Calls Tryz.prog 60 #[.pointer (some ⟨sb, 0, none⟩), v] w fun e w' => e = .returned (.int .i64 ((if d then 12 else if ns.all nameB then 0 else 10 : Nat) : Int)) ∧ Kp No w w' := by
  obtain ⟨a, cap, rfl, hl, hn, hc⟩ := h
  have HN := hid hn
  have HC := hid hc
  clear hn hc
  cases d with
  | true =>
    go_enter Tryz.func60, Tryz.ntmps60
    go_wp2
    go_ret
    exact ⟨rfl, Kp.refl _ _⟩
  | false =>
    simp only [Bool.false_eq_true, if_false]
    obtain ⟨r, hr⟩ : ∃ r : Nat, (if ns.all nameB = true then 0 else 10) = r := ⟨_, rfl⟩
    have HR := hid hr
    rw [hr]
    clear hr
    have hnot : ∀ (x : Bool) (w : World), (Op.unary .not (.bool x)).run Tryz.prog w = .ok (.bool (!x)) w := fun _ _ => rfl
    go_enter Tryz.func60, Tryz.ntmps60
    go_wp2
    go_loopw [15] (fun x wr => ∃ i : Nat, x = .int .i64 i ∧ i ≤ ns.length ∧ Hid ((ns.take i).all nameB = true) ∧ Hid (Kp No w wr)) (fun x _ => ns.length - (intOf x).toNat)
    case atStart => exact ⟨0, rfl, by omega, by simp [Hid], Kp.refl _ _⟩
    case round =>
      obtain ⟨i, rfl, hi, HI, HK⟩ := hrel
      by_cases hlt : i < ns.length
      · obtain ⟨g, rfl, hg, hcell⟩ := HC.out (by intro e; subst e; simp at hlt)
        have c1 := (HK.out.cell (p := ⟨g, i, none⟩) hg (fun h => h.elim)).trans (hcell i hlt)
        have hmem : ns.getD i [] ∈ ns := by rw [List.getD_eq_getElem?_getD, List.getElem?_eq_getElem hlt, Option.getD_some]; exact List.getElem_mem hlt
        have HT : Hid (ns.take (i + 1) = ns.take i ++ [ns.getD i []]) := by rw [Hid, List.take_succ_eq_append_getElem hlt, List.getD_eq_getElem?_getD, List.getElem?_eq_getElem hlt, Option.getD_some]
        have HM := hid hmem
        have hsz : Hid ((sOf (ns.getD i [])).size ≤ 20000000) := by rw [Hid, sOf_size]; exact HN.out _ hmem
        have hnm : Hid (nm (sOf (ns.getD i [])) = ns.getD i []) := nm_sOf _
        generalize sOf (ns.getD i []) = s at *
        generalize ns.getD i [] = n at *
        clear hcell hmem HC
        cases hok : nameB n with
        | true =>
          have HO := hid hok
          clear hok
          go_wp2_with (go_at_call 101; refine (pNameS_any s hsz.out _).mono ?_; rintro e w2 ⟨rfl, hk⟩; rw [hnm.out, HO.out]; have HK2 := hid hk; clear hk)
          go_roundw
          case rel => exact ⟨i + 1, by go_num, by omega, by rw [Hid, HT.out, List.all_append, HI.out]; simp [HO.out], HK.out.andNone HK2.out⟩
          case measure => simp [intOf]; omega
        | false =>
          have HO := hid hok
          clear hok
          go_wp2_with (go_at_call 101; refine (pNameS_any s hsz.out _).mono ?_; rintro e w2 ⟨rfl, hk⟩; rw [hnm.out, HO.out]; have HK2 := hid hk; clear hk)
          go_ret
          refine ⟨?_, HK.out.andNone HK2.out⟩
          rw [← HR.out, List.all_eq_false.2 ⟨n, HM.out, by simp [HO.out]⟩]
          rfl
      · go_wp2
        go_ret
        refine ⟨?_, HK.out⟩
        have := HI.out
        rw [List.take_of_length_le (by omega)] at this
        rw [← HR.out, this]
        rfl

theorem NsAt.one (w : World) (s : ByteArray) (hs : s.size ≤ 20000000) : NsAt (w.alloc (.cells #[.string s] 9)) (.slice (some ⟨w.heap.size, 0, none⟩) 1 1) [nm s] := by
  refine ⟨_, 1, rfl, by simp, by simp [nm_len, hs], fun _ => ⟨_, rfl, by simp, fun i hi => ?_⟩⟩
  have : i = 0 := by simpa using hi
  subst this
  rw [World.cell?_alloc_at _ _ _ _ rfl]
  simp [sOf_nm]
theorem NsAt.two (w : World) (s t : ByteArray) (hs : s.size ≤ 20000000) (ht : t.size ≤ 20000000) : NsAt (w.alloc (.cells #[.string s, .string t] 9)) (.slice (some ⟨w.heap.size, 0, none⟩) 2 2) [nm s, nm t] := by
  refine ⟨_, 2, rfl, by simp, by simp [nm_len, hs, ht], fun _ => ⟨_, rfl, by simp, fun i hi => ?_⟩⟩
  rw [World.cell?_alloc_at _ _ _ _ rfl]
  have : i = 0 ∨ i = 1 := by simp at hi; omega
  rcases this with rfl | rfl
  · simp [sOf_nm]
  · simp [sOf_nm]
theorem NsAt.none (w : World) : NsAt w (.slice none 0 0) [] := ⟨_, 0, rfl, by decide, by simp, fun h => absurd rfl h⟩

/-- The cells of a system's struct. -/
theorem Rp.c {P : Nat → Prop} {I : PS → Prop} {w : World} {s : Nat} {p : PS} {vs vf vc : Value} {u : Nat → Value} (h : Rp P I w s p vs vf vc u) (j : Nat) : w.cell? ⟨s, j, none⟩ = (fsCells p vs vf vc)[j]? := h.blk.cell j

theorem find_nil (t : ByteArray) (w : World) : Calls Tryz.prog 54 #[.pointer none, .string t] w fun e w' => e = .returned (.tuple #[.pointer none, .int .i64 18]) ∧ Kp No w w' := by
  go_enter Tryz.func54, Tryz.ntmps54
  go_wp2_with (go_at_call 60; refine (wrong_nil _ _).mono ?_; rintro e w1 ⟨rfl, h1⟩; subst w1)
  go_ret2
  exact ⟨rfl, (Kp.refl _ _).alloc _⟩

/-- Where a name leads, if nothing is wrong. -/
def foundP (p : PS) (n : Nm) : Option Nat := if finds p n = 0 then dfind p.seen n else none

set_option maxHeartbeats 1000000 in
theorem find_any {P : Nat → Prop} {N : Nat} (w : World) (s : Nat) (p : PS) (t : ByteArray) (ht : t.size ≤ 20000000) (h : Sys P N w s p) :
    Calls Tryz.prog 54 #[.pointer (some ⟨s, 0, none⟩), .string t] w fun e w' => e = .returned (.tuple #[ptrV (foundP p (nm t)), .int .i64 (finds p (nm t) : Nat)]) ∧ Kp No w w' := by
  obtain ⟨vs, vf, vc, u, h⟩ := h
  have H := hid h
  have hsl := h.lt s h.ps
  have q4 : w.cell? ⟨s, 4, none⟩ = some (.bool p.down) := h.c 4
  have q1 : w.cell? ⟨s, 1, none⟩ = some vs := h.c 1
  have hW : Hid (∀ W, Kp No w W → W.cell? ⟨s, 1, none⟩ = some vs ∧ (Instr.lookup 101 vs (.string t) false).run Tryz.prog W = .ok (ptrV (dfind p.seen (nm t))) W) := fun W k =>
    ⟨(k.cell (p := ⟨s, 1, none⟩) hsl (fun h => h.elim)).trans q1, (H.out.seen.kp k (fun _ _ h => h.elim)).lookS t ht⟩
  have HC : Hid (Calls Tryz.prog 60 #[.pointer (some ⟨s, 0, none⟩), .slice (some ⟨w.heap.size, 0, none⟩) 1 1] (w.alloc (.cells #[.string t] 9)) fun e w' => e = .returned (.int .i64 (wrongs p [nm t] : Nat)) ∧ Kp No w w') := by
    refine (wrong_any s _ [nm t] p.down _ ?_ (NsAt.one w t ht)).mono ?_
    · exact (((Kp.refl No w).alloc _).cell (p := ⟨s, 4, none⟩) hsl (fun h => h.elim)).trans q4
    · rintro e w' ⟨rfl, hk⟩
      exact ⟨rfl, ((Kp.refl No w).alloc _).andNone hk⟩
  clear h q1 q4
  by_cases hw : wrongs p [nm t] = 0
  · rw [hw] at HC
    cases hd : dfind p.seen (nm t) with
    | none =>
      have e1 : finds p (nm t) = 5 := by simp [finds, hw, hd]
      have e2 : foundP p (nm t) = none := by simp [foundP, e1]
      rw [e1, e2]
      rw [hd] at hW
      clear e1 e2 hd hw
      go_enter Tryz.func54, Tryz.ntmps54
      go_wp2_with (go_at_call 60; refine (HC.out).mono ?_; rintro e w1 ⟨rfl, hk⟩; have HK := hid hk; obtain ⟨r1, r2⟩ := hW.out _ hk; have e0 : ptrV none = .pointer none := rfl; rw [e0] at r2; clear hk e0)
      go_ret2
      exact ⟨rfl, HK.out⟩
    | some b =>
      have e1 : finds p (nm t) = 0 := by simp [finds, hw, hd]
      have e2 : foundP p (nm t) = some b := by simp [foundP, e1, hd]
      rw [e1, e2]
      rw [hd] at hW
      clear e1 e2 hd hw
      go_enter Tryz.func54, Tryz.ntmps54
      go_wp2_with (go_at_call 60; refine (HC.out).mono ?_; rintro e w1 ⟨rfl, hk⟩; have HK := hid hk; obtain ⟨r1, r2⟩ := hW.out _ hk; have e0 : ptrV (some b) = .pointer (some ⟨b, 0, none⟩) := rfl; rw [e0] at r2; clear hk e0)
      go_ret2
      exact ⟨rfl, HK.out⟩
  · have e1 : finds p (nm t) = wrongs p [nm t] := by simp [finds, hw]
    have e2 : foundP p (nm t) = none := by simp [foundP, e1, hw]
    rw [e1, e2]
    generalize wrongs p [nm t] = x at *
    have hne : ((x : Int) != 0) = true := by simp; omega
    clear e1 e2 hw
    go_enter Tryz.func54, Tryz.ntmps54
    go_wp2_with (go_at_call 60; refine (HC.out).mono ?_; rintro e w1 ⟨rfl, hk⟩; have HK := hid hk; clear hk)
    go_ret2
    exact ⟨rfl, HK.out⟩

end Go.Proofs.YthmimipoooemjaaGreatDoor.Sim
end

section
/-
  What tells alone: Read, Size, Down, Steps, List.
-/
namespace Go.Proofs.YthmimipoooemjaaGreatDoor.Sim
open Go.RowKit

theorem OwnB.kept {w w' : World} {v : Value} {xs : List Nat} (h : OwnB w v xs) (k : Kp No w w') : OwnB w' v xs := h.row.kept k
theorem pBytes_of {p : PS} {n : Nm} {b : Nat} (h : foundP p n = some b) : finds p n = 0 ∧ dfind p.seen n = some b ∧ pBytes n p = (fileAt p b).b := by
  unfold foundP at h
  split at h
  · rename_i h0
    refine ⟨h0, h, ?_⟩
    simp [pBytes, h0, blockOf, h]
  · cases h
theorem found_zero {N : Nat} {p : PS} {n : Nm} (_hi : PInv N p) (h : finds p n = 0) : ∃ b, foundP p n = some b := by
  unfold finds at h
  split at h
  · omega
  · split at h
    · rename_i h1 h2
      obtain ⟨b, hb⟩ := Option.isSome_iff_exists.1 h2
      refine ⟨b, ?_⟩
      unfold foundP finds
      rw [if_neg h1, if_pos h2, if_pos rfl, hb]
    · cases h

set_option maxHeartbeats 1000000 in
theorem read_any {P : Nat → Prop} {N : Nat} (w : World) (s : Nat) (p : PS) (t : ByteArray) (ht : t.size ≤ 20000000) (h : Sys P N w s p) :
    Calls Tryz.prog 76 #[.pointer (some ⟨s, 0, none⟩), .string t] w fun e w' => ∃ ad cap, e = .returned (.tuple #[.slice ad (pBytes (nm t) p).length cap, .int .i64 (finds p (nm t) : Nat)]) ∧
      OwnB w' (.slice ad (pBytes (nm t) p).length cap) (pBytes (nm t) p) ∧ (∀ x, (Value.slice ad (pBytes (nm t) p).length cap).ownBlock = some x → w.heap.size ≤ x) ∧ Kp No w w' := by
  have HC := hid (find_any w s p t ht h)
  have hI := h.inv
  by_cases h0 : finds p (nm t) = 0
  · obtain ⟨b, hb⟩ := found_zero hI h0
    obtain ⟨_, hd, hy⟩ := pBytes_of hb
    have hf := hI.hasFound hd
    have hlen := hI.lfile b _ hf
    have hbig := hI.big
    obtain ⟨vs, vf, vc, u, hR⟩ := h
    obtain ⟨hPb, hF, hPu⟩ := hR.file b _ hf
    have hbl := hR.lt b hPb
    have hul : ∀ x, (u b).ownBlock = some x → x < w.heap.size := fun x hx => hR.lt x (hPu x hx)
    have HF := hid hF
    rw [hy, h0]
    rw [h0, hb] at HC
    have e0 : ptrV (some b) = .pointer (some ⟨b, 0, none⟩) := rfl
    rw [e0] at HC
    generalize (fileAt p b) = f at *
    clear hy hd hf hR hF e0
    obtain ⟨a, cap, hv, _⟩ := HF.out.own.shape
    generalize u b = v at *
    subst hv
    go_enter Tryz.func76, Tryz.ntmps76
    go_wp2_with (go_at_call 54; refine (HC.out).mono ?_; rintro e w1 ⟨rfl, h1⟩; have H1 := hid h1; have c0 : w1.cell? ⟨b, 0, none⟩ = some (.slice a f.b.length cap) := (h1.cell (p := ⟨b, 0, none⟩) hbl (fun h => h.elim)).trans (HF.out.blk.cell 0); clear h1)
    refine (clone_any (P := fun _ => True) _ f.b w1 ((HF.out.own.kept H1.out).byP (fun _ _ => trivial) (by omega) HF.out.byt) (by omega)).mono ?_
    rintro e w2 ⟨ad, cap2, rfl, ho, hn, hk⟩
    have HO := hid ho
    have HN := hid hn
    have HK := hid hk
    clear ho hn hk
    go_wp2
    go_ret2
    exact ⟨ad, cap2, rfl, HO.out, fun x hx => Nat.le_trans H1.out.size (HN.out x hx), H1.out.andNone HK.out⟩
  · have hy : pBytes (nm t) p = [] := by simp [pBytes, h0]
    have hn : foundP p (nm t) = none := by simp [foundP, h0]
    rw [hy]
    rw [hn] at HC
    have e0 : ptrV none = .pointer none := rfl
    rw [e0] at HC
    generalize finds p (nm t) = x at *
    have hne : ((x : Int) != 0) = true := by simp; omega
    clear hy hn h0 h hI e0
    go_enter Tryz.func76, Tryz.ntmps76
    go_wp2_with (go_at_call 54; refine (HC.out).mono ?_; rintro e w1 ⟨rfl, h1⟩; have H1 := hid h1; clear h1)
    go_ret2
    exact ⟨none, 0, rfl, OwnB.nil _, by simp [Value.ownBlock], H1.out⟩

set_option maxHeartbeats 1000000 in
theorem size_any {P : Nat → Prop} {N : Nat} (w : World) (s : Nat) (p : PS) (t : ByteArray) (ht : t.size ≤ 20000000) (h : Sys P N w s p) :
    Calls Tryz.prog 72 #[.pointer (some ⟨s, 0, none⟩), .string t] w fun e w' => e = .returned (.tuple #[.int .i64 ((pBytes (nm t) p).length : Nat), .int .i64 (finds p (nm t) : Nat)]) ∧ Kp No w w' := by
  have HC := hid (find_any w s p t ht h)
  have hI := h.inv
  by_cases h0 : finds p (nm t) = 0
  · obtain ⟨b, hb⟩ := found_zero hI h0
    obtain ⟨_, hd, hy⟩ := pBytes_of hb
    have hf := hI.hasFound hd
    have hlen := hI.lfile b _ hf
    have hbig := hI.big
    obtain ⟨vs, vf, vc, u, hR⟩ := h
    obtain ⟨hPb, hF, hPu⟩ := hR.file b _ hf
    have hbl := hR.lt b hPb
    have HF := hid hF
    rw [hy, h0]
    rw [h0, hb] at HC
    have e0 : ptrV (some b) = .pointer (some ⟨b, 0, none⟩) := rfl
    rw [e0] at HC
    generalize (fileAt p b) = f at *
    clear hy hd hf hR hF e0
    obtain ⟨a, cap, hv, _⟩ := HF.out.own.shape
    generalize u b = v at *
    subst hv
    go_enter Tryz.func72, Tryz.ntmps72
    go_wp2_with (go_at_call 54; refine (HC.out).mono ?_; rintro e w1 ⟨rfl, h1⟩; have H1 := hid h1; have c0 : w1.cell? ⟨b, 0, none⟩ = some (.slice a f.b.length cap) := (h1.cell (p := ⟨b, 0, none⟩) hbl (fun h => h.elim)).trans (HF.out.blk.cell 0); clear h1)
    go_ret2
    exact ⟨rfl, H1.out⟩
  · have hy : pBytes (nm t) p = [] := by simp [pBytes, h0]
    have hn : foundP p (nm t) = none := by simp [foundP, h0]
    rw [hy]
    rw [hn] at HC
    have e0 : ptrV none = .pointer none := rfl
    rw [e0] at HC
    generalize finds p (nm t) = x at *
    have hne : ((x : Int) != 0) = true := by simp; omega
    clear hy hn h0 h hI e0
    go_enter Tryz.func72, Tryz.ntmps72
    go_wp2_with (go_at_call 54; refine (HC.out).mono ?_; rintro e w1 ⟨rfl, h1⟩; have H1 := hid h1; clear h1)
    go_ret2
    exact ⟨rfl, H1.out⟩

/-! ### List -/
theorem list_nil (w : World) : Calls Tryz.prog 110 #[.pointer none] w fun e w' => e = .returned (.slice none 0 0) ∧ w' = w := by
  go_enter Tryz.func110, Tryz.ntmps110
  go_wp2
  go_ret
  exact ⟨rfl, rfl⟩
theorem list_any {P : Nat → Prop} {N : Nat} (w : World) (s : Nat) (p : PS) (h : Sys P N w s p) :
    Calls Tryz.prog 110 #[.pointer (some ⟨s, 0, none⟩)] w fun e w' => ∃ u, e = .returned u ∧ OwnN w' u (pList p) ∧ (∀ x, u.ownBlock = some x → w.heap.size ≤ x) ∧ Kp No w w' := by
  obtain ⟨vs, vf, vc, u, h⟩ := h
  have q4 : w.cell? ⟨s, 4, none⟩ = some (.bool p.down) := h.c 4
  have q1 : w.cell? ⟨s, 1, none⟩ = some vs := h.c 1
  have HN := hid (names_any w vs p.seen h.seen (by have := h.inv.lseen; have := h.inv.big; omega))
  clear h
  unfold pList
  cases hd : p.down with
  | true =>
    rw [hd] at q4
    clear hd
    go_enter Tryz.func110, Tryz.ntmps110
    go_wp2
    go_ret
    exact ⟨_, rfl, Row.nil _ _ _, by simp [Value.ownBlock], Kp.refl _ _⟩
  | false =>
    rw [hd] at q4
    clear hd
    simp only [Bool.false_eq_true, if_false]
    go_enter Tryz.func110, Tryz.ntmps110
    go_wp2_with (go_at_call 62; refine (HN.out).mono ?_; rintro e w1 ⟨u1, rfl, h1, h2, h3⟩; have H1 := hid h1; have H2 := hid h2; have H3 := hid h3; clear h1 h2 h3)
    go_ret
    exact ⟨u1, rfl, H1.out, H2.out, H3.out⟩

end Go.Proofs.YthmimipoooemjaaGreatDoor.Sim
end

section
/-
  Used: the bytes of all files that are seen, in whatever order.
-/
namespace Go.Proofs.YthmimipoooemjaaGreatDoor.Sim
open Go.RowKit Go.Maps

/-- The files of those names that are no longer to come. -/
def sumBy (g : Nat → Nat) (l : Dir) (left : Lit → Bool) : Nat := (l.map fun e => if left (.string e.1) then 0 else g e.2).sum
theorem sumBy_start (g : Nat → Nat) (l : Dir) : sumBy g l (Maps.has (dirD l)) = 0 := by
  unfold sumBy
  have : ∀ e ∈ l, Maps.has (dirD l) (.string e.1) = true := by
    intro e he
    rw [dirD_has]
    cases hd : dfind l e.1 with
    | none => exact absurd rfl (dfind_none hd e he)
    | some b => rfl
  generalize Maps.has (dirD l) = h at this
  induction l with
  | nil => rfl
  | cons x r ih =>
    rw [List.map_cons, List.sum_cons, this x (by simp), ih (fun e he => this e (by simp [he]))]
    simp
theorem sumBy_end (g : Nat → Nat) (l : Dir) (left : Lit → Bool) (h : ∀ k, left k = false) : sumBy g l left = (l.map fun e => g e.2).sum := by
  unfold sumBy
  congr 1
  apply List.map_congr_left
  intro e _
  rw [h]
  rfl
theorem sumBy_step (g : Nat → Nat) (left : Lit → Bool) (n : Nm) (b : Nat) : ∀ (l : Dir), (l.map (·.1)).Nodup → (n, b) ∈ l → left (.string n) = true → sumBy g l (fun z => left z && !z.sameKey (.string n)) = sumBy g l left + g b
  | [], _, h, _ => by simp at h
  | x :: r, hn, h, hl => by
    rw [List.map_cons, List.nodup_cons] at hn
    unfold sumBy
    rw [List.map_cons, List.map_cons, List.sum_cons, List.sum_cons]
    rcases List.mem_cons.1 h with e | h
    · have hr : (r.map fun e => if (left (.string e.1) && !(Lit.string e.1).sameKey (.string n)) = true then 0 else g e.2) = r.map fun e => if left (.string e.1) = true then 0 else g e.2 := by
        apply List.map_congr_left
        intro e' he'
        have : (Lit.string e'.1).sameKey (.string n) = false := by
          rw [sameKey_str]
          simp
          intro e2
          exact hn.1 (List.mem_map.2 ⟨e', he', by rw [e2, ← e]⟩)
        rw [this]
        simp
      rw [hr, ← e]
      simp [hl, sameKey_str]
      omega
    · have ih := sumBy_step g left n b r hn.2 h hl
      unfold sumBy at ih
      rw [ih]
      have : (Lit.string x.1).sameKey (.string n) = false := by
        rw [sameKey_str]
        simp
        intro e2
        exact hn.1 (List.mem_map.2 ⟨(n, b), h, by simp [e2]⟩)
      simp only [this, Bool.not_false, Bool.and_true]
      omega
theorem sumBy_le (g : Nat → Nat) (B : Nat) (left : Lit → Bool) : ∀ (l : Dir), (∀ e ∈ l, g e.2 ≤ B) → sumBy g l left ≤ l.length * B
  | [], _ => by simp [sumBy]
  | x :: r, h => by
    have ih := sumBy_le g B left r (fun e he => h e (by simp [he]))
    unfold sumBy at ih ⊢
    rw [List.map_cons, List.sum_cons, List.length_cons, Nat.add_mul]
    have := h x (by simp)
    split <;> omega

set_option maxHeartbeats 1000000 in
theorem used_any {P : Nat → Prop} {N : Nat} (w : World) (s : Nat) (p : PS) (h : Sys P N w s p) : Calls Tryz.prog 166 #[.pointer (some ⟨s, 0, none⟩)] w fun e w' => e = .returned (.int .i64 (used p : Nat)) ∧ Kp No w w' := by
  have hI := h.inv
  have hB : Hid (∀ left, sumBy (fun b => (fileAt p b).b.length) p.seen left ≤ 1000 * 12000000) := fun left => by
    refine Nat.le_trans (sumBy_le _ 12000000 left p.seen (fun e he => ?_)) (Nat.mul_le_mul_right _ (Nat.le_trans hI.lseen hI.big))
    obtain ⟨f, hf⟩ := Option.isSome_iff_exists.1 (hI.hasSeen e he).1
    have := hI.lfile _ f hf
    have := hI.big
    simp only [fileAt, hf, Option.getD_some]
    omega
  obtain ⟨vs, vf, vc, u, h⟩ := h
  have q1 : w.cell? ⟨s, 1, none⟩ = some vs := h.c 1
  have hsl := h.lt s h.ps
  have HF : Hid (∀ e ∈ p.seen, ∃ a cap, w.cell? ⟨e.2, 0, none⟩ = some (.slice a (fileAt p e.2).b.length cap) ∧ e.2 < w.heap.size) := fun e he => by
    obtain ⟨f, hf⟩ := Option.isSome_iff_exists.1 (hI.hasSeen e he).1
    obtain ⟨h1, h2, _⟩ := h.file _ f hf
    obtain ⟨a, cap, hv, _⟩ := h2.own.shape
    have : fileAt p e.2 = f := by simp [fileAt, hf]
    rw [this]
    exact ⟨a, cap, by rw [← hv]; exact h2.blk.cell 0, h.lt _ h1⟩
  rcases h.seen with ⟨rfl, hs⟩ | ⟨b, rfl, hM⟩
  · have hu : used p = 0 := by simp [used, hs]
    rw [hu]
    clear HF hB h hs hu
    have hrn := run_range_nilMap (P := Tryz.prog) w 101 9 131 Tryz.underlying101
    have hnx : ∀ ty, (Instr.next (.pointer (some ⟨w.heap.size, 0, none⟩)) false ty).run Tryz.prog (w.alloc (.mapIter none 0 #[] 0)) = _ := fun ty => run_next_nilMap w ty 0 0 #[]
    go_enter Tryz.func166, Tryz.ntmps166
    go_wp2
    refine wp_loop_rounds 1 ?_
    rw [rounds_succ]
    go_wp2
    go_ret
    exact ⟨rfl, (Kp.refl _ _).alloc _⟩
  · have HM := hid hM
    have hnd := hid hM.ris.nodup
    have hbl := hM.lt
    clear hM h
    go_enter Tryz.func166, Tryz.ntmps166
    go_wp2_with (first | (at_range; refine wpList_range_own _ rfl _ 101 rfl 9 131 Tryz.keyed Tryz.underlying101 ptrR b p.seen.length (dirD p.seen) rfl HM.out ?_; intro w0 hrg0 hg0 hs0) | go_in)
    go_frame
    have hrg := hid hrg0
    have hg := hid hg0
    clear hrg0 hg0 hs0
    go_loopw [3, 5] (fun x _ wr => ∃ left cnt, x = .int .i64 (sumBy (fun b => (fileAt p b).b.length) p.seen left : Nat) ∧ Hid (wr.ranges Tryz.prog 9 ptrR b w.heap.size p.seen.length (dirD p.seen) left cnt) ∧ Hid (Kp No w wr)) (fun _ _ wr => wr.rangeLeft b w.heap.size)
    case atStart => exact ⟨Maps.has (dirD p.seen), Maps.size (dirD p.seen), by rw [sumBy_start]; rfl, hrg.out, (Kp.refl _ _).grown hg.out (by simp)⟩
    case round =>
      obtain ⟨left, cnt, rfl, HR, HK⟩ := hrel
      go_wp2_with (first | (at_next; refine wpList_next_ranges _ rfl _ rfl 9 Tryz.keyed ptrR encStr ptrV (fun key kl hk => by obtain ⟨x, hx, _⟩ := Maps.keyOf_str Tryz.underlying9 hk; exact ⟨x, hx⟩) (fun v y hv => by obtain ⟨c, rfl, _⟩ := ptrR_inv hv; exact ⟨c, rfl⟩) b w.heap.size p.seen.length (dirD p.seen) left cnt rfl HR.out ?_ ?_) | go_in)
      · intro _ hl0
        have HL := hid hl0
        clear hl0
        go_wp2
        go_ret
        refine ⟨?_, HK.out⟩
        rw [used, ← sumBy_end (fun b => (fileAt p b).b.length) p.seen left HL.out]
        rfl
      · intro x c kl yd yp w2 cnt2 hkey hlk hv hat hrg2 hlt hg2 hs2 hen
        obtain ⟨x', ex, rfl, _⟩ := Maps.keyOf_str Tryz.underlying9 hkey
        obtain rfl : x = x' := encStr_inj ex
        obtain ⟨c', hc1, hc2⟩ := ptrR_inv hv
        have hdx : ∃ f, dfind p.seen x = some f := by
          have := has_true_of_atKey hat
          rw [dirD_has] at this
          exact Option.isSome_iff_exists.1 this
        obtain ⟨f, hf⟩ := hdx
        have hcf : c = some f := by
          have h1 := hat .nil
          rw [dirD_at, hf] at h1
          have hcc : c = c' := by
            unfold ptrV at hc1
            cases c <;> cases c' <;> simp at hc1 <;> simp [hc1]
          subst hcc
          cases c with
          | none => simp at hc2; rw [← h1] at hc2; simp [fileD] at hc2
          | some y =>
            simp at hc2
            rw [← h1] at hc2
            rw [fileD_inj hc2.1]
        subst hcf
        have hmem := mem_of_dfind hf
        obtain ⟨a, cap, hcell, hfl⟩ := HF.out _ hmem
        have HK2 : Hid (Kp No w w2) := HK.out.grown hg2 (fun y hy => .inr (by simp at hy; omega))
        have c0 := (HK2.out.cell (p := ⟨f, 0, none⟩) hfl (fun h => h.elim)).trans hcell
        have HS := hid (sumBy_step (fun b => (fileAt p b).b.length) left x f p.seen hnd.out hmem hlk)
        have hb2 := hB.out left
        have hb3 := hB.out (fun z => left z && !z.sameKey (.string x))
        rw [HS.out] at hb3
        have HR2 := hid hrg2
        have HE : (Instr.entry (.pointer (some ⟨w.heap.size, 0, none⟩))).run Tryz.prog w2 = .ok (.tuple #[encStr x, .pointer (some ⟨f, 0, none⟩)]) w2 := hen
        have e0 : ptrV (some f) = .pointer (some ⟨f, 0, none⟩) := rfl
        rw [e0]
        simp only at hcell c0 hb3 HS
        generalize sumBy (fun b => (fileAt p b).b.length) p.seen left = S at *
        obtain ⟨L, hL⟩ : ∃ L, (fileAt p f).b.length = L := ⟨_, rfl⟩
        rw [hL] at c0 hb3 HS
        clear hs2 hen hv hat hkey hlk hc1 hc2 hrg2 hg2 hf hmem hcell e0 hL
        go_wp2
        go_roundw
        case rel => exact ⟨_, cnt2, by rw [HS.out]; go_num, HR2, HK2⟩
        case measure => rw [HR2.out.left_eq, HR.out.left_eq]; exact hlt

end Go.Proofs.YthmimipoooemjaaGreatDoor.Sim
end

section
/-
  (directory).do: changes, done one behind the other to a map.
-/
namespace Go.Proofs.YthmimipoooemjaaGreatDoor.Sim
open Go.RowKit Go.Maps

/-- A slice of changes that is read. -/
def ChAt (w : World) (v : Value) (cs : List PC) : Prop :=
  ∃ a cap, v = .slice a cs.length cap ∧ cs.length ≤ cap ∧ cap ≤ maxLen ∧ cs.length ≤ 100000 ∧ (cs ≠ [] → ∃ g, a = some ⟨g, 0, none⟩ ∧ g < w.heap.size ∧ ∀ i c, cs[i]? = some c → ∀ j, j < 4 → w.cell? ⟨g, i * 4 + j, none⟩ = (chgCells c)[j]?)
theorem Row.chAt {w : World} {v : Value} {cs : List PC} (h : Row w 173 4 v cs.length (chgs cs)) (hl : cs.length ≤ 100000) : ChAt w v cs := by
  rcases h.2 with ⟨rfl, h0⟩ | ⟨g, cap, cur, rfl, hg, hh, hn, hc, hs, ht⟩
  · have : cs = [] := List.length_eq_zero_iff.1 h0
    subst this
    exact ⟨none, 0, rfl, Nat.le_refl _, Nat.zero_le _, by simp, fun h => absurd rfl h⟩
  · refine ⟨_, cap, rfl, hn, hc, hl, fun _ => ⟨g, rfl, (Array.getElem?_eq_some_iff.1 hh).1, fun i c hi j hj => ?_⟩⟩
    have hil : i < cs.length := (List.getElem?_eq_some_iff.1 hi).1
    rw [h.cellAt (i * 4 + j) (by omega)]
    exact chgs_at cs i c hi j hj
theorem ChAt.front {w : World} {a : Option Addr} {n cap : Nat} {cs : List PC} (h : ChAt w (.slice a n cap) cs) (k : Nat) (hk : k ≤ cs.length) : ChAt w (.slice a k cap) (cs.take k) := by
  obtain ⟨a', cap', e, h1, h2, h3, h4⟩ := h
  cases e
  have hl : (cs.take k).length = k := List.length_take_of_le hk
  refine ⟨a, cap, by rw [hl], by omega, h2, by omega, fun hne => ?_⟩
  obtain ⟨g, hg, hgl, hc⟩ := h4 (fun e => hne (by rw [e]; simp))
  refine ⟨g, hg, hgl, fun i c hi j hj => hc i c ?_ j hj⟩
  have hik : i < k := by have := (List.getElem?_eq_some_iff.1 hi).1; omega
  rw [List.getElem?_take_of_lt hik] at hi
  exact hi
theorem ChAt.one (w : World) (c : PC) : ChAt (w.alloc (.cells (chgCells c).toArray 173)) (.slice (some ⟨w.heap.size, 0, none⟩) 1 1) [c] := by
  refine ⟨_, 1, rfl, by simp, by decide, by simp, fun _ => ⟨_, rfl, by simp, fun i d hi j hj => ?_⟩⟩
  have hi0 : i = 0 := by have := (List.getElem?_eq_some_iff.1 hi).1; simpa using this
  subst hi0
  simp at hi
  subst hi
  rw [World.cell?_alloc_at _ _ _ _ rfl]
  simp
theorem MapAt.noCell {w : World} {b : Nat} {l : Dir} (h : MapAt w b l) (j : Nat) : w.cell? ⟨b, j, none⟩ = none := by
  obtain ⟨es, clock, hb, _⟩ := h
  simp [World.cell?, hb]

theorem wp_look (w : World) {ops : Array Oper} {rest : List Oper} {o : Oper} {a : Act} {Q : Exit → Act → World → Prop} (hg : o.guard = none) (m x : Operand) (hop : o.op = Op.lookup 101 m x false) (b : Nat) (l : Dir) (n : Nm) (f : Nat) (hm : a.eval m = .map (some b)) (hx : a.eval x = encStr n)
    (h : MapAt w b l) (hn : n.length ≤ 20000000) (hf : dfind l n = some f) (hK : wpList Tryz.prog ops Q rest (a.put o.dst (.pointer (some ⟨f, 0, none⟩))) w) : wpList Tryz.prog ops Q (o :: rest) a w := by
  refine wpList_plain hg fun K' hK' => ?_
  have hrun := h.look n hn
  rw [hf, show ptrV (some f) = .pointer (some ⟨f, 0, none⟩) from rfl] at hrun
  unfold Oper.wp
  simp [execOp, hop, hm, hx, hrun, Result.andThen]
  exact hK' _ _ hK

/-- No change, whatever the map. -/
theorem do_none (mv : Value) (w : World) (v : Value) (h : ChAt w v []) : Calls Tryz.prog 102 #[mv, v] w fun e w' => e = .returned (.tuple #[]) ∧ w' = w := by
  obtain ⟨a, cap, rfl, _⟩ := h
  go_enter Tryz.func102, Tryz.ntmps102
  go_wp2
  refine wp_loop_rounds 1 ?_
  rw [rounds_succ]
  go_wp2
  go_end0
  exact ⟨rfl, rfl⟩

set_option maxHeartbeats 2000000 in
theorem do_any (w : World) (mb : Nat) (l : Dir) (v : Value) (cs : List PC) (hm : MapAt w mb l) (h : ChAt w v cs) (hok : okcs l cs) (hn : ∀ c ∈ cs, c.nm.length ≤ 20000000 ∧ c.to.length ≤ 20000000) (hl : l.length + cs.length ≤ 100000) :
    Calls Tryz.prog 102 #[.map (some mb), v] w fun e w' => e = .returned (.tuple #[]) ∧ MapAt w' mb (cs.foldl pdo l) ∧ Kp (· = mb) w w' := by
  obtain ⟨a, cap, rfl, h1, h2, h3, h4⟩ := h
  have HM := hid hm
  have HC := hid h4
  have HOK := hid hok
  have HN := hid hn
  have hmb := hm.lt
  clear hm h4 hok hn
  go_enter Tryz.func102, Tryz.ntmps102
  go_wp2
  go_loopw [9] (fun x wr => ∃ i : Nat, x = .int .i64 i ∧ i ≤ cs.length ∧ Hid (MapAt wr mb ((cs.take i).foldl pdo l)) ∧ Hid (((cs.take i).foldl pdo l).length ≤ l.length + i) ∧ Hid (Kp (· = mb) w wr)) (fun x _ => cs.length - (intOf x).toNat)
  case atStart => exact ⟨0, rfl, by omega, by simpa using HM, by simp [Hid], Kp.refl _ _⟩
  case round =>
    obtain ⟨i, rfl, hi, HI, HL, HK⟩ := hrel
    by_cases hlt : i < cs.length
    · obtain ⟨g, rfl, hg, hcell⟩ := HC.out (by intro e; subst e; simp at hlt)
      obtain ⟨c, hc⟩ : ∃ c, cs[i]? = some c := ⟨_, List.getElem?_eq_getElem hlt⟩
      have hgm : g ≠ mb := by
        intro e
        subst e
        have h0 := hcell i c hc 0 (by omega)
        rw [HM.out.noCell] at h0
        simp [chgCells] at h0
      have hcc : ∀ j, j < 4 → wr.cell? ⟨g, i * 4 + j, none⟩ = (chgCells c)[j]? := fun j hj => (HK.out.cell (p := ⟨g, i * 4 + j, none⟩) hg hgm).trans (hcell i c hc j hj)
      have HT : Hid (cs.take (i + 1) = cs.take i ++ [c]) := by rw [Hid, List.take_add_one, hc]; rfl
      have hok : okc ((cs.take i).foldl pdo l) c := by
        have h5 := HOK.out
        rw [← List.take_append_drop i cs, okcs_append] at h5
        have h6 := h5.2
        have h7 : cs.drop i = c :: cs.drop (i + 1) := by rw [List.drop_eq_getElem_cons hlt]; congr 1; rw [List.getElem?_eq_getElem hlt] at hc; simpa using hc
        rw [h7] at h6
        exact h6.1
      have HCN := hid (HN.out c (List.mem_of_getElem? hc))
      have HTF : Hid ((cs.take (i + 1)).foldl pdo l = pdo ((cs.take i).foldl pdo l) c) := by rw [Hid, HT.out, List.foldl_append]; rfl
      have HLN : Hid ((pdo ((cs.take i).foldl pdo l) c).length ≤ l.length + (i + 1)) := by
        have h8 := length_pdo ((cs.take i).foldl pdo l) c
        have h9 := HL.out
        rw [Hid]
        omega
      have hdl : Hid (((cs.take i).foldl pdo l).length ≤ 20000000) := by have := HL.out; rw [Hid]; omega
      generalize (cs.take i).foldl pdo l = d at *
      have e0 : wr.cell? ⟨g, i * 4, none⟩ = some (.int .i64 (c.kind : Int)) := hcc 0 (by omega)
      have e1 : wr.cell? ⟨g, i * 4 + 1, none⟩ = some (.string (sOf c.nm)) := hcc 1 (by omega)
      have e2 : wr.cell? ⟨g, i * 4 + 2, none⟩ = some (.string (sOf c.to)) := hcc 2 (by omega)
      have e3 : wr.cell? ⟨g, i * 4 + 3, none⟩ = some (ptrV (pcV c)) := hcc 3 (by omega)
      have HX : Hid (ptrV (pcV c) = ptrV (pcV c)) := rfl
      obtain ⟨hk2, hk3⟩ := hok
      have HEN : Hid (encStr c.nm = .string (sOf c.nm) ∧ encStr c.to = .string (sOf c.to)) := ⟨rfl, rfl⟩
      clear hcc hcell hc HT
      have hkk : c.kind = 0 ∨ c.kind = 1 ∨ c.kind = 2 := by omega
      rcases hkk with hk | hk | hk
      · have HP : Hid (pdo d c = dput d c.nm c.file) := by rw [Hid, pdo, if_pos hk]
        rw [show pcV c = some c.file by simp [pcV, hk]] at e3
        rw [show ptrV (some c.file) = .pointer (some ⟨c.file, 0, none⟩) from rfl] at e3
        rw [hk] at e0
        clear hk hk2 hk3 HX
        generalize sOf c.nm = sn at *
        generalize sOf c.to = st at *
        go_wp2_with (first | (at_mapUpdate; refine wp_store _ rfl _ _ _ rfl mb c.file d c.nm rfl ?hx rfl ?hm HCN.out.1 hdl.out ?_; (case hx => exact HEN.out.1.symm); (case hm => exact HI.out.kp (L := No) ((Kp.refl _ _).alloc _) (fun h => h)); intro w2 hm2 hk2 hs2; have HM2 := hid hm2; have HK2 := hid hk2; clear hm2 hk2 hs2) | go_in)
        go_roundw
        case rel => exact ⟨i + 1, by go_num, by omega, by rw [HTF.out, HP.out]; exact HM2, by rw [HTF.out]; exact HLN, ((HK.out.alloc _).trans HK2.out (fun x hx => .inl hx))⟩
        case measure => simp [intOf]; omega
      · have HP : Hid (pdo d c = ddel d c.nm) := by rw [Hid, pdo, if_neg (by omega), if_pos hk]
        rw [hk] at e0
        have HI2 : Hid (∀ o, MapAt (wr.alloc o) mb d) := fun o => HI.out.kp (L := No) ((Kp.refl _ _).alloc _) (fun h => h)
        clear hk hk2 hk3 HX
        rw [show ptrV (pcV c) = .pointer ((pcV c).map fun x => ⟨x, 0, none⟩) from rfl] at e3
        generalize ((pcV c).map fun x => (⟨x, 0, none⟩ : Addr)) = pv at e3
        generalize sOf c.nm = sn at *
        generalize sOf c.to = st at *
        go_wp2_with (first | (at_delete; refine wp_drop _ rfl _ _ rfl mb d c.nm rfl ?hx ?hm HCN.out.1 ?_; (case hx => exact HEN.out.1.symm); (case hm => exact HI2.out _); intro w2 hm2 hk2 hs2; have HM2 := hid hm2; have HK2 := hid hk2; clear hm2 hk2 hs2) | go_in)
        go_roundw
        case rel => exact ⟨i + 1, by go_num, by omega, by rw [HTF.out, HP.out]; exact HM2, by rw [HTF.out]; exact HLN, ((HK.out.alloc _).trans HK2.out (fun x hx => .inl hx))⟩
        case measure => simp [intOf]; omega
      · obtain ⟨f, hf⟩ := Option.isSome_iff_exists.1 (hk3 hk)
        have HP : Hid (pdo d c = dput (ddel d c.nm) c.to f) := by rw [Hid, pdo, if_neg (by omega), if_neg (by omega), hf]; rfl
        rw [hk] at e0
        have HI2 : Hid (∀ o, MapAt (wr.alloc o) mb d) := fun o => HI.out.kp (L := No) ((Kp.refl _ _).alloc _) (fun h => h)
        have HF := hid hf
        have hdl2 : Hid ((ddel d c.nm).length ≤ 20000000) := Nat.le_trans (length_ddel _ _) hdl.out
        have hwz : wr.heap.size ≠ mb := by have := HI.out.lt; omega
        have tok1 : True := trivial
        clear hk hk2 hk3 HX hf
        rw [show ptrV (pcV c) = .pointer ((pcV c).map fun x => ⟨x, 0, none⟩) from rfl] at e3
        generalize ((pcV c).map fun x => (⟨x, 0, none⟩ : Addr)) = pv at e3
        generalize sOf c.nm = sn at *
        generalize sOf c.to = st at *
        go_wp2_with (first | (at_lookup; refine wp_look _ rfl _ _ rfl mb d c.nm f rfl ?hx ?hm HCN.out.1 HF.out ?_; (case hx => exact HEN.out.1.symm); (case hm => exact HI2.out _)) | (at_delete; refine wp_drop _ rfl _ _ rfl mb d c.nm rfl ?hx ?hm HCN.out.1 ?_; (case hx => exact HEN.out.1.symm); (case hm => exact HI2.out _); intro w2 hm2 hk2 hs2; have HM2 := hid hm2; have HK2 := hid hk2; have f1 : w2.cell? ⟨wr.heap.size, 1, none⟩ = some (.string sn) := (hk2.cell (p := ⟨wr.heap.size, 1, none⟩) (by simp) hwz).trans (World.cell?_alloc_at _ _ _ _ rfl); have f2 : w2.cell? ⟨wr.heap.size, 2, none⟩ = some (.string st) := (hk2.cell (p := ⟨wr.heap.size, 2, none⟩) (by simp) hwz).trans (World.cell?_alloc_at _ _ _ _ rfl); clear hm2 hk2 hs2) | (at_mapUpdate; refine wp_store _ rfl _ _ _ rfl mb f (ddel d c.nm) c.to rfl ?hx rfl ?hm HCN.out.2 hdl2.out ?_; (case hx => exact HEN.out.2.symm); (case hm => exact HM2.out); intro w3 hm3 hk3 hs3; have HM3 := hid hm3; have HK3 := hid hk3; clear hm3 hk3 hs3) | go_in)
        go_roundw
        case rel => exact ⟨i + 1, by go_num, by omega, by rw [HTF.out, HP.out]; exact HM3, by rw [HTF.out]; exact HLN, ((HK.out.alloc _).trans HK2.out (fun x hx => .inl hx)).trans HK3.out (fun x hx => .inl hx)⟩
        case measure => simp [intOf]; omega
    · go_wp2
      go_end0
      have ht : cs.take i = cs := List.take_of_length_le (by omega)
      rw [ht] at HI
      exact ⟨rfl, HI.out, HK.out⟩

end Go.Proofs.YthmimipoooemjaaGreatDoor.Sim
end

section
/-
  A step: whether it goes down here, or what is done.
-/
namespace Go.Proofs.YthmimipoooemjaaGreatDoor.Sim
open Go.RowKit Go.Maps

theorem Kp.set1 (w : World) (s j : Nat) (x : Value) : Kp (· = s) w (w.setCell ⟨s, j, none⟩ x) := (Kp.refl (· = s) w).setCell (p := ⟨s, j, none⟩) (.inl rfl) x
theorem PInv.tick {N : Nat} {p : PS} (h : PInv N p) (hb : N + 1 ≤ 1000) : PInv (N + 1) (tick p) :=
  { (h.mono (M := N + 1) (by omega) hb) with
    steps := by have := h.steps; show p.steps + 1 ≤ N + 1; omega
    left := by have := h.left; show (if p.armed then p.left - 1 else p.left) ≤ _; split <;> omega }
theorem PInv.fall {N : Nat} {p : PS} (h : PInv N p) : PInv N (fall p) := { h with }

/-- Other scalars in the struct. -/
theorem Rp.cells {P : Nat → Prop} {I J : PS → Prop} {w W : World} {s : Nat} {p q : PS} {vs vf vc : Value} {u : Nat → Value} (h : Rp P I w s p vs vf vc u) (k : Kp (· = s) w W) (hb : Blk W s 109 (fsCells q vs vf vc))
    (e1 : q.made = p.made) (e2 : q.seen = p.seen) (e3 : q.safe = p.safe) (e4 : q.chg = p.chg) (e5 : q.files = p.files) (hi : J q) : Rp P J W s q vs vf vc u where
  lt x hx := Nat.lt_of_lt_of_le (h.lt x hx) k.size
  ps := h.ps
  blk := hb
  seen := by
    rw [e2]
    rcases h.seen with ⟨h1, h2⟩ | ⟨b, h1, h2⟩
    · exact .inl ⟨h1, h2⟩
    · exact .inr ⟨b, h1, h2.kp k (h2.blk h.blk)⟩
  safe := by
    rw [e3]
    rcases h.safe with ⟨h1, h2⟩ | ⟨b, h1, h2⟩
    · exact .inl ⟨h1, h2⟩
    · exact .inr ⟨b, h1, h2.kp k (h2.blk h.blk)⟩
  unmade := by rw [e1]; exact h.unmade
  mades := by rw [e1]; exact h.mades
  chg := by rw [e4]; exact h.chg.kp k (fun x hx e => (h.chg.ne h.blk (by decide)) (by rw [hx, e]))
  pc := h.pc
  file b f hf := by
    rw [e5] at hf
    obtain ⟨h1, h2, h3⟩ := h.file b f hf
    exact ⟨h1, h2.kp k (fun e => (h2.blk.ne h.blk (by decide)) e) (fun x hx e => (h2.own.row.ne h.blk (by decide)) (by rw [hx, e])), h3⟩
  sep := by rw [e5]; exact h.sep
  inv := hi

theorem add_any (a : Addr) (n d : Int) (w : World) (hc : w.cell? a = some (.int .i64 n)) (hz : w.frozen? a = false) :
    Calls Tryz.prog 172 #[.pointer (some a), .int .i64 d] w fun e w' => e = .returned (.int .i64 (wrap64 (n + d))) ∧ w' = w.setCell a (.int .i64 (wrap64 (n + d))) := by
  have hadd := run_call_add (P := Tryz.prog) Tryz.func211 (by kernel_rfl) (by kernel_rfl) (by kernel_rfl) .i64 (by kernel_rfl) (y := d) (s := wrap64 (n + d)) hc hz (by simp [go_sem, wrap64, IntKind.wrap_i64])
  go_enter Tryz.func172, Tryz.ntmps172
  go_wp2
  go_ret
  exact ⟨rfl, rfl⟩
theorem wrap_small (n : Nat) (h : n ≤ 20000000) : wrap64 ((n : Int) + 1) = ((n + 1 : Nat) : Int) := by unfold wrap64; omega

set_option maxHeartbeats 1000000 in
theorem step_dead {P : Nat → Prop} {N : Nat} (w : World) (s : Nat) (p : PS) (h : Sys P N w s p) (hd : dead p = true) (fv : Value) :
    Calls Tryz.prog 130 #[.pointer (some ⟨s, 0, none⟩), fv] w fun e w' => e = .returned (.int .i64 12) ∧ Sys P N w' s (fall p) ∧ Kp (· = s) w w' := by
  obtain ⟨vs, vf, vc, u, h⟩ := h
  have h' : p.armed = true ∧ p.left = 0 := by simpa [dead] using hd
  have q4 : w.cell? ⟨s, 4, none⟩ = some (.bool p.down) := h.c 4
  have q5 : w.cell? ⟨s, 5, none⟩ = some (.bool p.armed) := h.c 5
  have q6 : w.cell? ⟨s, 6, none⟩ = some (.int .i64 (p.left : Int)) := h.c 6
  have f4 := h.blk.frozen 4
  rw [h'.1] at q5
  rw [h'.2] at q6
  have H := hid h
  clear h h' hd
  go_enter Tryz.func130, Tryz.ntmps130
  go_wp2
  go_ret
  have k : Kp (· = s) w (w.setCell ⟨s, 4, none⟩ (.bool true)) := Kp.set1 _ _ _ _
  exact ⟨rfl, ⟨vs, vf, vc, u, H.out.cells k (H.out.blk.setCell 4 (.bool true)) rfl rfl rfl rfl rfl H.out.inv.fall⟩, k⟩

set_option maxHeartbeats 2000000 in
theorem step_live {P : Nat → Prop} {N : Nat} (w : World) (s : Nat) (p : PS) (h : Sys P N w s p) (hd : dead p = false) (hN : N + 1 ≤ 1000) (f : FuncId) (caps : Array Value)
    (ent : ∀ args w, (callFunc f args).run Tryz.prog w = .ok (.enter f args) w) (T : World → Prop)
    (hc : ∀ W, Kp (· = s) w W → Sys P (N + 1) W s (tick p) → Calls Tryz.prog f caps W fun e w' => e = .returned (.tuple #[]) ∧ T w') :
    Calls Tryz.prog 130 #[.pointer (some ⟨s, 0, none⟩), .func (.func f) #[] caps] w fun e w' => e = .returned (.int .i64 0) ∧ T w' := by
  obtain ⟨vs, vf, vc, u, h⟩ := h
  have hst := Nat.le_trans h.inv.steps h.inv.big
  have hle := h.inv.left
  have q5 : w.cell? ⟨s, 5, none⟩ = some (.bool p.armed) := h.c 5
  have q6 : w.cell? ⟨s, 6, none⟩ = some (.int .i64 (p.left : Int)) := h.c 6
  have q7 : w.cell? ⟨s, 7, none⟩ = some (.int .i64 (p.steps : Int)) := h.c 7
  have f6 := h.blk.frozen 6
  have f7 := h.blk.frozen 7
  have H := hid h
  have HT := hid (h.inv.tick hN)
  have HC := hid hc
  clear h hc
  cases ha : p.armed with
  | true =>
    have hl : p.left ≠ 0 := by intro e; simp [dead, ha, e] at hd
    rw [ha] at q5
    have hne : ((p.left : Int) == 0) = false := by simp; omega
    have hl1 : (1 : Int) ≤ (p.left : Int) := by omega
    have k1 : Hid (Kp (· = s) w (w.setCell ⟨s, 6, none⟩ (.int .i64 ((p.left : Int) - 1)))) := Kp.set1 _ _ _ _
    have q7' : (w.setCell ⟨s, 6, none⟩ (.int .i64 ((p.left : Int) - 1))).cell? ⟨s, 7, none⟩ = some (.int .i64 (p.steps : Int)) := (cell_other (by decide)).trans q7
    have f7' : (w.setCell ⟨s, 6, none⟩ (.int .i64 ((p.left : Int) - 1))).frozen? ⟨s, 7, none⟩ = false := by simpa using f7
    have HA := add_any ⟨s, 7, none⟩ p.steps 1 _ q7' f7'
    rw [wrap_small _ (by omega)] at HA
    have HA := hid HA
    have k2 : Hid (Kp (· = s) w ((w.setCell ⟨s, 6, none⟩ (.int .i64 ((p.left : Int) - 1))).setCell ⟨s, 7, none⟩ (.int .i64 ((p.steps + 1 : Nat) : Int)))) := k1.out.trans (Kp.set1 _ _ _ _) (fun x hx => .inl hx)
    have hS : Hid (Sys P (N + 1) ((w.setCell ⟨s, 6, none⟩ (.int .i64 ((p.left : Int) - 1))).setCell ⟨s, 7, none⟩ (.int .i64 ((p.steps + 1 : Nat) : Int))) s (tick p)) := by
      refine ⟨vs, vf, vc, u, H.out.cells k2.out ?_ rfl rfl rfl rfl rfl HT.out⟩
      have := (H.out.blk.setCell 6 (.int .i64 ((p.left : Int) - 1))).setCell 7 (.int .i64 ((p.steps + 1 : Nat) : Int))
      have hcast : ((p.left - 1 : Nat) : Int) = (p.left : Int) - 1 := by omega
      simpa [fsCells, tick, ha, hcast] using this
    generalize (w.setCell ⟨s, 6, none⟩ (.int .i64 ((p.left : Int) - 1))).setCell ⟨s, 7, none⟩ (.int .i64 ((p.steps + 1 : Nat) : Int)) = W at *
    clear ha hd q7' f7' k1
    go_enter Tryz.func130, Tryz.ntmps130
    go_wp2_with (first | (go_at_call 172; refine (HA.out).mono ?_; rintro e w1 ⟨rfl, h1⟩; subst w1) | (go_at_fn f; refine (HC.out W k2.out hS.out).mono ?_; rintro e w2 ⟨rfl, ht⟩; have HT2 := hid ht; clear ht))
    go_ret
    exact ⟨rfl, HT2.out⟩
  | false =>
    rw [ha] at q5
    have HA := add_any ⟨s, 7, none⟩ p.steps 1 w q7 f7
    rw [wrap_small _ (by omega)] at HA
    have HA := hid HA
    have k1 : Hid (Kp (· = s) w (w.setCell ⟨s, 7, none⟩ (.int .i64 ((p.steps + 1 : Nat) : Int)))) := Kp.set1 _ _ _ _
    have hS : Hid (Sys P (N + 1) (w.setCell ⟨s, 7, none⟩ (.int .i64 ((p.steps + 1 : Nat) : Int))) s (tick p)) := by
      refine ⟨vs, vf, vc, u, H.out.cells k1.out ?_ rfl rfl rfl rfl rfl HT.out⟩
      have := H.out.blk.setCell 7 (.int .i64 ((p.steps + 1 : Nat) : Int))
      simpa [fsCells, tick, ha] using this
    generalize w.setCell ⟨s, 7, none⟩ (.int .i64 ((p.steps + 1 : Nat) : Int)) = W at *
    clear ha hd
    go_enter Tryz.func130, Tryz.ntmps130
    go_wp2_with (first | (go_at_call 172; refine (HA.out).mono ?_; rintro e w1 ⟨rfl, h1⟩; subst w1) | (go_at_fn f; refine (HC.out W k1.out hS.out).mono ?_; rintro e w2 ⟨rfl, ht⟩; have HT2 := hid ht; clear ht))
    go_ret
    exact ⟨rfl, HT2.out⟩

end Go.Proofs.YthmimipoooemjaaGreatDoor.Sim
end

section
/-
  A change: what change's closure does.
-/
namespace Go.Proofs.YthmimipoooemjaaGreatDoor.Sim
open Go.RowKit Go.Maps

theorem step_app {ops : Array Oper} {o : Oper} {a : Act} {K : Act → World → Prop} {Q : Exit → Act → World → Prop} {E : Prop} (w : World) (hgd : o.guard = none) (s x : Operand) (t e : TypeId) (z : Value) (sz by' : Nat)
    (ho : o.op = .call { callee := .builtin .append, args := #[s, x], argTypes := #[t, t] }) (ht : Tryz.prog.underlying t = some (.slice e)) (hin : (Tryz.prog.info? e).map (fun i => (i.zero, i.size, i.bytes)) = some (some z, sz, by'))
    (hz1 : z.cells.size = sz) (hsz : 0 < sz) (v vx : Value) (n m : Nat) (xs ys : List Value) (hs : a.eval s = v) (hx : a.eval x = vx)
    (hown : Row w e sz v n xs) (hy : Src w vx m sz ys) (hlen : n + m ≤ 20000000) (hby : by' ≤ 1000)
    (h : ∀ a' cap' w', Row w' e sz (.slice a' (n + m) cap') (n + m) (xs ++ ys) → w.grownBy w' v.ownBlock → ((Value.slice a' (n + m) cap').ownBlock = v.ownBlock ∨ (Value.slice a' (n + m) cap').ownBlock = some w.heap.size) → K (a.put o.dst (.slice a' (n + m) cap')) w') :
    if Region.wanted o (yielded ops a.tmps) = true then Oper.wp Tryz.prog o a w K Q else E := by
  have hw : Region.wanted o (yielded ops a.tmps) = true := by simp [Region.wanted, hgd]
  rw [if_pos hw]
  obtain ⟨i0, hi, hz0, hz1', hz2⟩ := info_parts hin
  have key : ∃ v' w', (Builtin.append_ #[t, t] o.type #[v, vx]).run Tryz.prog w = .ok v' w' ∧ Row w' e sz v' (n + m) (xs ++ ys) ∧ w.grownBy w' v.ownBlock ∧ (v'.ownBlock = v.ownBlock ∨ v'.ownBlock = some w.heap.size) := by
    rcases hy with ⟨rfl, rfl, rfl⟩ | ⟨ad, c, rfl, hl, hc, h1⟩
    · have hrun := run_append_owned_none (P := Tryz.prog) (w := w) 0 t o.type e i0 sz ht hi v n xs hown
      exact ⟨v, w, hrun, by rw [List.append_nil]; exact hown, ⟨rfl, rfl, rfl, Nat.le_refl _, fun _ _ _ => rfl⟩, .inl rfl⟩
    · have hb : (n + m) * by' ≤ 140737488355328 := by
        have : (n + m) * by' ≤ 20000000 * 1000 := Nat.mul_le_mul hlen hby
        omega
      obtain ⟨v', w', hr, h2, h3, _, h5⟩ := run_append_own_at (P := Tryz.prog) w 0 t o.type e i0 z sz by' ht hi hz0 hz1' hz2 hz1 hsz v n xs hown ad m c ys hl hc h1 (by unfold maxLen; omega) hb (Nat.zero_le _)
      exact ⟨v', w', hr, h2, h3, h5⟩
  obtain ⟨v', w', hr, h1, h2, h3⟩ := key
  obtain ⟨a', cap', rfl, _⟩ := h1.shape
  unfold Oper.wp execOp
  simp only [ho, resolve, invoke, builtin, Sem.run_bind, Sem.run_pure, Result.andThen_ok, List.map_toArray, List.map_cons, List.map_nil, hs, hx, hr]
  exact h a' cap' w' h1 h2 h3

theorem cell_far {w : World} {b b' i j : Nat} {x : Value} (h : b' ≠ b) : (w.setCell ⟨b, i, none⟩ x).cell? ⟨b', j, none⟩ = w.cell? ⟨b', j, none⟩ := World.cell?_setCell_other _ _ _ _ (fun e => h (congrArg Addr.block e).symm)
theorem Tryz.infoChg : (Tryz.prog.info? 173).map (fun i => (i.zero, i.size, i.bytes)) = some (some (.agg #[.int .i64 0, .string ⟨#[]⟩, .string ⟨#[]⟩, .pointer none]), 4, 48) := by kernel_rfl
theorem eql_map (w : World) (p : Option Nat) : (binOp .eql 101 (.map p) (.map none)).run Tryz.prog w = .ok (.bool p.isNone) w := run_eql_map_nil_sl w 101 9 131 p Tryz.underlying101

/-- What a change leaves, told at its end. -/
theorem chg1_end (W w1 w2 : World) (ma : Nat) (c : PC) (l : Dir) (vc : Value) (cs : List PC) (o : Obj) (a2 : Option Addr) (cap2 : Nat) (hm : MapAt W ma l) (hr : Row W 173 4 vc cs.length (chgs cs)) (hm1 : MapAt w1 ma (pdo l c)) (hk1 : Kp (· = ma) W w1)
    (hr2 : Row w2 173 4 (.slice a2 (cs.length + 1) cap2) (cs.length + 1) (chgs cs ++ chgCells c)) (hg2 : (w1.alloc o).drew.grownBy w2 vc.ownBlock) (hb2 : (Value.slice a2 (cs.length + 1) cap2).ownBlock = vc.ownBlock ∨ (Value.slice a2 (cs.length + 1) cap2).ownBlock = some (w1.alloc o).drew.heap.size) :
    MapAt w2 ma (pdo l c) ∧ Row w2 173 4 (.slice a2 (cs.length + 1) cap2) (cs.length + 1) (chgs (cs ++ [c])) ∧ Kp (fun k => k = ma ∨ vc.ownBlock = some k) W w2 ∧ ∀ k, (Value.slice a2 (cs.length + 1) cap2).ownBlock = some k → vc.ownBlock = some k ∨ W.heap.size ≤ k := by
  have hmv : vc.ownBlock ≠ some ma := hm.row hr
  have k2 : Kp (fun k => vc.ownBlock = some k) w1 w2 := (((Kp.refl _ w1).alloc o).drew).grown hg2 (fun x hx => .inl hx)
  refine ⟨hm1.kp k2 (fun e => hmv e), by rw [chgs_append, chgs_one]; exact hr2, (hk1.mono (fun x hx => .inl (.inl hx))).trans k2 (fun x hx => .inl (.inr hx)), fun k hk => ?_⟩
  rcases hb2 with h | h
  · rw [h] at hk
    exact .inl hk
  · rw [h] at hk
    have h3 : w1.heap.size + 1 = k := by simpa using hk
    have := hk1.size
    exact .inr (by omega)

/-- Where the changes begin: the two maps are there, or are made. -/
def Begun (W : World) (s : Nat) (r vc d ar lf st : Value) (vs : Value) (l : Dir) (wx : World) (ma : Nat) : Prop :=
  (wx = W ∧ vs = .map (some ma) ∧ MapAt W ma l) ∨
  (vs = .map none ∧ l = [] ∧ ∃ mf, Kp (· = s) W wx ∧ Blk wx s 109 [r, .map (some ma), .map (some mf), vc, d, ar, lf, st] ∧ MapAt wx ma [] ∧ MapAt wx mf [] ∧ ma ≠ mf ∧ W.heap.size ≤ ma ∧ W.heap.size ≤ mf)

theorem Begun.facts {W : World} {s : Nat} {r vf vc d ar lf st vs : Value} {l : Dir} {wx : World} {ma : Nat} (h : Begun W s r vc d ar lf st vs l wx ma) (hs : Blk W s 109 [r, vs, vf, vc, d, ar, lf, st]) :
    ∃ vf', Blk wx s 109 [r, .map (some ma), vf', vc, d, ar, lf, st] ∧ MapAt wx ma l ∧ Kp (· = s) W wx := by
  rcases h with ⟨rfl, rfl, hm⟩ | ⟨_, rfl, mf, hk, hb, h1, _⟩
  · exact ⟨vf, hs, hm, Kp.refl _ _⟩
  · exact ⟨_, hb, h1, hk⟩
theorem begun_mk (W : World) (s : Nat) (r vc vs vf : Value) {d ar lf st : Value} (A B : Nat) (hs : Blk W s 109 [r, vs, vf, vc, d, ar, lf, st]) :
    Kp (· = s) W (((((W.setCell ⟨s, 1, none⟩ (.map (some A))).setCell ⟨s, 2, none⟩ (.map (some B))).alloc (.map #[] 0)).alloc (.map #[] 0)).drew) ∧ Blk (((((W.setCell ⟨s, 1, none⟩ (.map (some A))).setCell ⟨s, 2, none⟩ (.map (some B))).alloc (.map #[] 0)).alloc (.map #[] 0)).drew) s 109 [r, .map (some A), .map (some B), vc, d, ar, lf, st] := by
  have k1 : Kp (· = s) W ((W.setCell ⟨s, 1, none⟩ (.map (some A))).setCell ⟨s, 2, none⟩ (.map (some B))) := (Kp.set1 _ _ _ _).trans (Kp.set1 _ _ _ _) (fun x hx => .inl hx)
  have b1 := (hs.setCell 1 (.map (some A))).setCell 2 (.map (some B))
  have k2 : Kp No ((W.setCell ⟨s, 1, none⟩ (.map (some A))).setCell ⟨s, 2, none⟩ (.map (some B))) (((((W.setCell ⟨s, 1, none⟩ (.map (some A))).setCell ⟨s, 2, none⟩ (.map (some B))).alloc (.map #[] 0)).alloc (.map #[] 0)).drew) := (((Kp.refl _ _).alloc _).alloc _).drew
  exact ⟨k1.andNone k2, b1.kp k2 (fun h => h)⟩
theorem begun_maps (W : World) (s A B : Nat) : MapAt (((((W.setCell ⟨s, 1, none⟩ (.map (some A))).setCell ⟨s, 2, none⟩ (.map (some B))).alloc (.map #[] 0)).alloc (.map #[] 0)).drew) W.heap.size [] ∧ MapAt (((((W.setCell ⟨s, 1, none⟩ (.map (some A))).setCell ⟨s, 2, none⟩ (.map (some B))).alloc (.map #[] 0)).alloc (.map #[] 0)).drew) (W.heap.size + 1) [] := by
  generalize hV : (W.setCell ⟨s, 1, none⟩ (.map (some A))).setCell ⟨s, 2, none⟩ (.map (some B)) = V
  have hz : V.heap.size = W.heap.size := by rw [← hV]; simp
  have h1 := MapAt.new V
  have h2 := MapAt.new (V.alloc (.map #[] 0))
  rw [hz] at h1
  have hz2 : (V.alloc (.map #[] 0)).heap.size = W.heap.size + 1 := by simp [hz]
  rw [hz2] at h2
  exact ⟨(h1.kp (L := No) (((Kp.refl _ _).alloc _).drew) (fun h => h)), h2.kp (L := No) ((Kp.refl _ _).drew) (fun h => h)⟩

set_option maxHeartbeats 4000000 in
theorem chg1_any (W : World) (s x y : Nat) (c : PC) (l : Dir) (r vs vf vc d ar lf st : Value) (cs : List PC) (hx : Blk W x 25 [.pointer (some ⟨s, 0, none⟩)]) (hy : Blk W y 173 (chgCells c)) (hs : Blk W s 109 [r, vs, vf, vc, d, ar, lf, st])
    (hm : (∃ ma, vs = .map (some ma) ∧ MapAt W ma l) ∨ (vs = .map none ∧ vf = .map none ∧ l = [])) (hr : Row W 173 4 vc cs.length (chgs cs))
    (hok : okc l c) (hn : c.nm.length ≤ 20000000 ∧ c.to.length ≤ 20000000) (hl : l.length ≤ 10000) (hcs : cs.length ≤ 10000) (hvy : vc.ownBlock ≠ some y) :
    Calls Tryz.prog 131 #[.pointer (some ⟨x, 0, none⟩), .pointer (some ⟨y, 0, none⟩)] W fun e w' => e = .returned (.tuple #[]) ∧ ∃ wx ma vc' W1, Begun W s r vc d ar lf st vs l wx ma ∧ MapAt W1 ma (pdo l c) ∧ Row W1 173 4 vc' (cs.length + 1) (chgs (cs ++ [c])) ∧ Kp (fun k => k = ma ∨ vc.ownBlock = some k) wx W1 ∧
      w' = W1.setCell ⟨s, 3, none⟩ vc' ∧ ∀ k, vc'.ownBlock = some k → vc.ownBlock = some k ∨ wx.heap.size ≤ k := by
  have hq := eql_map
  have b0 : W.cell? ⟨x, 0, none⟩ = some (.pointer (some ⟨s, 0, none⟩)) := hx.cell 0
  have c1 : W.cell? ⟨s, 1, none⟩ = some vs := hs.cell 1
  have hxl := hx.lt
  have hsl := hs.lt
  have hsx : s ≠ x := hs.ne hx (by decide)
  have HX := hid hx
  have HY := hid hy
  have HS := hid hs
  have HM := hid hm
  have HR := hid hr
  obtain ⟨a, cap, hv, h5, h6, h7, h8⟩ := hr.shape
  subst hv
  obtain ⟨mo, hmo⟩ : ∃ mo, vs = .map mo := by
    rcases hm with ⟨ma, h, _⟩ | ⟨h, _⟩
    · exact ⟨_, h⟩
    · exact ⟨_, h⟩
  subst hmo
  clear hx hy hs hm hr h7 h8
  go_enter Tryz.func131, Tryz.ntmps131
  go_upto_if 6 with fail
  go_cut [] from 7 to 14 (fun wx => ∃ ma, Hid (Begun W s r (.slice a cs.length cap) d ar lf st (.map mo) l wx ma))
  case first =>
    rcases HM.out with ⟨ma, hvs, hma⟩ | ⟨hvs, hvf, hl0⟩
    · cases hvs
      have HMA := hid hma
      clear hma HM
      go_wp2_with fail
      go_meet
      case rel => exact ⟨ma, .inl ⟨rfl, rfl, HMA.out⟩⟩
    · cases hvs
      subst hvf hl0
      clear HM
      have hmm := @run_makeMap Tryz.prog
      have c2 : W.cell? ⟨s, 2, none⟩ = some (.map none) := HS.out.cell 2
      have f1 := HS.out.frozen 1
      have f2 := HS.out.frozen 2
      have hxs : x ≠ s := Ne.symm hsx
      have hxs1 : ∀ (V : World) (i : Nat) (v : Value), (V.setCell ⟨s, i, none⟩ v).cell? ⟨x, 0, none⟩ = V.cell? ⟨x, 0, none⟩ := fun V i v => cell_far hxs
      have H1 : Hid (∀ A B, Kp (· = s) W (((((W.setCell ⟨s, 1, none⟩ (.map (some A))).setCell ⟨s, 2, none⟩ (.map (some B))).alloc (.map #[] 0)).alloc (.map #[] 0)).drew) ∧ Blk (((((W.setCell ⟨s, 1, none⟩ (.map (some A))).setCell ⟨s, 2, none⟩ (.map (some B))).alloc (.map #[] 0)).alloc (.map #[] 0)).drew) s 109 [r, .map (some A), .map (some B), .slice a cs.length cap, d, ar, lf, st]) := fun A B => begun_mk W s _ _ _ _ A B HS.out
      have H2 : Hid (∀ A B, MapAt (((((W.setCell ⟨s, 1, none⟩ (.map (some A))).setCell ⟨s, 2, none⟩ (.map (some B))).alloc (.map #[] 0)).alloc (.map #[] 0)).drew) W.heap.size [] ∧ MapAt (((((W.setCell ⟨s, 1, none⟩ (.map (some A))).setCell ⟨s, 2, none⟩ (.map (some B))).alloc (.map #[] 0)).alloc (.map #[] 0)).drew) (W.heap.size + 1) []) := fun A B => begun_maps W s A B
      go_wp2_with fail
      go_region
      all_goals
        go_wp2_with fail
        go_meet
        case rel =>
          first
            | exact ⟨W.heap.size, .inr ⟨rfl, rfl, W.heap.size + 1, (H1.out _ _).1, (H1.out _ _).2, (H2.out _ _).1, (H2.out _ _).2, by omega, by omega, by omega⟩⟩
            | exact ⟨W.heap.size + 1, .inr ⟨rfl, rfl, W.heap.size, (H1.out _ _).1, (H1.out _ _).2, (H2.out _ _).2, (H2.out _ _).1, by omega, by omega, by omega⟩⟩
  case rest =>
    obtain ⟨ma, HB⟩ := hcut
    obtain ⟨vf', hs', hm, hk⟩ := HB.out.facts HS.out
    have hx := HX.out.kp hk (Ne.symm hsx)
    have hy := HY.out.kp hk (fun e => HS.out.ne HY.out (by decide) e.symm)
    have hr := HR.out.kp hk (fun k hk' e => HR.out.ne HS.out (by decide) (by rw [hk', e]))
    replace hsl := hs'.lt
    replace c1 : wc.cell? ⟨s, 1, none⟩ = some (.map (some ma)) := hs'.cell 1
    have c3 : wc.cell? ⟨s, 3, none⟩ = some (.slice a cs.length cap) := hs'.cell 3
    have f3 := hs'.frozen 3
    have hsm : s ≠ ma := Ne.symm (hm.blk hs')
    have hsv : ∀ k, (Value.slice a cs.length cap).ownBlock = some k → k ≠ s ∧ k ≠ x ∧ k ≠ y := fun k hk' => ⟨fun e => hr.ne hs' (by decide) (by rw [hk', e]), fun e => hr.ne hx (by decide) (by rw [hk', e]), fun e => hvy (by rw [hk', e])⟩
    clear hs' hk HX HY HS HM HR
    replace b0 : wc.cell? ⟨x, 0, none⟩ = some (.pointer (some ⟨s, 0, none⟩)) := hx.cell 0
    replace hxl := hx.lt
    have hyl := hy.lt
    have hml := hm.lt
    have d0 : wc.cell? ⟨y, 0, none⟩ = some (.int .i64 (c.kind : Int)) := hy.cell 0
    have d1 : wc.cell? ⟨y, 1, none⟩ = some (.string (sOf c.nm)) := hy.cell 1
    have d2 : wc.cell? ⟨y, 2, none⟩ = some (.string (sOf c.to)) := hy.cell 2
    have d3 : wc.cell? ⟨y, 3, none⟩ = some (ptrV (pcV c)) := hy.cell 3
    have HO : Hid (chgCells c = [.int .i64 (c.kind : Int), .string (sOf c.nm), .string (sOf c.to), ptrV (pcV c)]) := rfl
    obtain ⟨pv, hpv⟩ : ∃ pv, ptrV (pcV c) = .pointer pv := ⟨_, rfl⟩
    rw [hpv] at d3 HO
    have hmx : Hid (x ≠ ma ∧ y ≠ ma) := by
      refine ⟨fun e => ?_, fun e => ?_⟩
      · rw [e, hm.noCell] at b0; cases b0
      · rw [e, hm.noCell] at d0; cases d0
    -- the changes are done
    have HD : Hid (∀ V, Kp No (wc.alloc (.cells #[.int .i64 (c.kind : Int), .string (sOf c.nm), .string (sOf c.to), .pointer pv] 173)) V → Calls Tryz.prog 102 #[.map (some ma), .slice (some ⟨wc.heap.size, 0, none⟩) 1 1] V fun e w' => e = .returned (.tuple #[]) ∧ MapAt w' ma (pdo l c) ∧ Kp (· = ma) wc w') := by
      intro V k
      have k0 : Kp No wc V := ((Kp.refl _ _).alloc _).andNone k
      have ho : ChAt V (.slice (some ⟨wc.heap.size, 0, none⟩) 1 1) [c] := by
        obtain ⟨a, cap, h1, h2, h3, h4, h5⟩ := ChAt.one wc c
        refine ⟨a, cap, h1, h2, h3, h4, fun hne => ?_⟩
        obtain ⟨g, hg, hgl, hcl⟩ := h5 hne
        rw [HO.out] at hgl hcl
        exact ⟨g, hg, Nat.lt_of_lt_of_le hgl k.size, fun i d hi j hj => (k.cell (p := ⟨g, i * 4 + j, none⟩) hgl (fun h => h)).trans (hcl i d hi j hj)⟩
      refine (do_any V ma l _ [c] (hm.kp k0 (fun h => h)) ho ⟨hok, trivial⟩ (by simpa using hn) (by simp; omega)).mono ?_
      rintro e w' ⟨rfl, h1, h2⟩
      exact ⟨rfl, h1, (k0.mono (fun _ h => h.elim)).trans h2 (fun x hx => .inl hx)⟩
    have HR := hid hr
    have HM := hid hm
    have HSV := hid hsv
    clear hx hy hr hm hok hn hsv hpv
    generalize sOf c.nm = sn at *
    generalize sOf c.to = st at *
    have hmx1 := hmx.out.1
    have hmx2 := hmx.out.2
    have r0 : ∀ V, Kp (· = ma) wc V → V.cell? ⟨x, 0, none⟩ = some (.pointer (some ⟨s, 0, none⟩)) := fun V k => (k.cell (p := ⟨x, 0, none⟩) hxl hmx1).trans b0
    have r1 : ∀ V, Kp (· = ma) wc V → V.cell? ⟨s, 1, none⟩ = some (.map (some ma)) := fun V k => (k.cell (p := ⟨s, 1, none⟩) hsl hsm).trans c1
    have r3 : ∀ V, Kp (· = ma) wc V → V.cell? ⟨s, 3, none⟩ = some (.slice a cs.length cap) := fun V k => (k.cell (p := ⟨s, 3, none⟩) hsl hsm).trans c3
    have g3 : ∀ V, Kp (· = ma) wc V → V.frozen? ⟨s, 3, none⟩ = false := fun V k => (k.frozen (p := ⟨s, 3, none⟩) hsl hsm).trans f3
    have t0 : ∀ V, Kp (· = ma) wc V → V.cell? ⟨y, 0, none⟩ = some (.int .i64 (c.kind : Int)) := fun V k => (k.cell (p := ⟨y, 0, none⟩) hyl hmx2).trans d0
    have t1 : ∀ V, Kp (· = ma) wc V → V.cell? ⟨y, 1, none⟩ = some (.string sn) := fun V k => (k.cell (p := ⟨y, 1, none⟩) hyl hmx2).trans d1
    have t2 : ∀ V, Kp (· = ma) wc V → V.cell? ⟨y, 2, none⟩ = some (.string st) := fun V k => (k.cell (p := ⟨y, 2, none⟩) hyl hmx2).trans d2
    have t3 : ∀ V, Kp (· = ma) wc V → V.cell? ⟨y, 3, none⟩ = some (.pointer pv) := fun V k => (k.cell (p := ⟨y, 3, none⟩) hyl hmx2).trans d3
    go_wp2_with fail
    go_region_held3 (fun V => Kp (· = ma) wc V) (first | (with_reducible exact Kp.refl _ _) | (with_reducible exact (Kp.refl _ _).drew) | (with_reducible exact ((Kp.refl _ _).alloc _).drew) | (with_reducible exact (Kp.refl _ _).drew.alloc _) | (with_reducible exact HK1.out)) (first | (go_at_call 102; refine (HD.out _ ?_).mono ?_; (with_reducible exact (Kp.refl _ _).drew); rintro e w1 ⟨rfl, hm1, hk1⟩; have HM1 := hid hm1; have HK1 := hid hk1; clear hm1 hk1))
    have k1 := HK1.out
    have u0 := r0 _ k1
    have u3 := r3 _ k1
    have z3 := g3 _ k1
    have v0 := t0 _ k1
    have v1 := t1 _ k1
    have v2 := t2 _ k1
    have v3 := t3 _ k1
    have hsl1 : s < w1.heap.size := Nat.lt_of_lt_of_le hsl k1.size
    have hxl1 : x < w1.heap.size := Nat.lt_of_lt_of_le hxl k1.size
    have hyl1 : y < w1.heap.size := Nat.lt_of_lt_of_le hyl k1.size
    have HROW : Hid (∀ o, Row (w1.alloc o) 173 4 (.slice a cs.length cap) cs.length (chgs cs)) := fun o => (HR.out.kp k1 (fun k hk e => HM.out.row HR.out (by rw [← e]; exact hk))).kept ((Kp.refl _ _).alloc _)
    have HSRC : Hid (Src (w1.alloc (.cells #[.int .i64 (c.kind : Int), .string sn, .string st, .pointer pv] 173)) (.slice (some ⟨w1.heap.size, 0, none⟩) 1 1) 1 4 (chgCells c)) := by
      have h := Src.one w1 (chgCells c) 4 173 rfl (chgCells_one c)
      rw [HO.out] at h ⊢
      exact h
    have HSZ := hid k1.size
    clear r0 r1 r3 g3 t0 t1 t2 t3 k1 HD
    go_wp2_with fail
    clear hq c1 c3 f3 b0 d0 d1 d2 d3 hmx hmx1 hmx2 hsl hxl hyl hml hsx

    go_region_law (refine step_app _ (by rfl) (.tmp 26) (.tmp 28) 102 173 _ 4 48 (by rfl) Tryz.underlying102 Tryz.infoChg rfl (by decide) (.slice a cs.length cap) (.slice (some ⟨w1.heap.size, 0, none⟩) 1 1) cs.length 1 (chgs cs) (chgCells c) (by simp [Act.eval]) (by simp [Act.eval]) (HROW.out _) HSRC.out (by omega) (by decide) ?_; intro a2 cap2 w2 hr2 hg2 hb2; have HR2 := hid hr2; have HG2 := hid hg2; have HB2 := hid hb2; have y3 : w2.cell? ⟨s, 3, none⟩ = some (.slice a cs.length cap) := hg2.cell ((World.cell?_alloc_past _ _ _ hsl1).trans u3) (fun e => (HSV.out s e.symm).1 rfl); have yz : w2.frozen? ⟨s, 3, none⟩ = false := ((Kp.ofGrown hg2).frozen (p := ⟨s, 3, none⟩) (by simp; omega) (fun e => (HSV.out s e).1 rfl)).trans ((World.frozen?_alloc_past _ _ _ hsl1).trans z3); have yx : w2.cell? ⟨x, 0, none⟩ = some (.pointer (some ⟨s, 0, none⟩)) := hg2.cell ((World.cell?_alloc_past _ _ _ hxl1).trans u0) (fun e => (HSV.out x e.symm).2.1 rfl); clear hr2 hg2 hb2)
    all_goals
      go_end0
      have hE := chg1_end wc w1 w2 ma c l _ cs _ a2 cap2 HM.out HR.out HM1.out HK1.out HR2.out HG2.out HB2.out
      exact ⟨rfl, wc, ma, _, w2, HB.out, hE.1, hE.2.1, hE.2.2.1, rfl, hE.2.2.2⟩

end Go.Proofs.YthmimipoooemjaaGreatDoor.Sim
end

section
/-
  A change of the system: the state behind it; change, Create, Remove, Rename.
-/
namespace Go.Proofs.YthmimipoooemjaaGreatDoor.Sim
open Go.RowKit Go.Maps

/-- P, and what is new. -/
def Ext (P : Nat → Prop) (w w' : World) : Nat → Prop := fun x => P x ∨ (w.heap.size ≤ x ∧ x < w'.heap.size)

/-- What a call leaves: the system of the state q, at s; what is not its own is as it was. -/
def Done (P : Nat → Prop) (N : Nat) (w w' : World) (s : Nat) (q : PS) : Prop := ∃ P', Sys P' N w' s q ∧ Kp P w w' ∧ ∀ x, P' x → P x ∨ w.heap.size ≤ x
theorem Done.of {P : Nat → Prop} {N : Nat} {w w' : World} {s : Nat} {q : PS} (h : Sys P N w' s q) (k : Kp P w w') : Done P N w w' s q := ⟨P, h, k, fun _ h => .inl h⟩
theorem Done.more {P : Nat → Prop} {N M : Nat} {w w' : World} {s : Nat} {q : PS} (h : Done P N w w' s q) (hm : N ≤ M) (hb : M ≤ 1000) : Done P M w w' s q := by
  obtain ⟨P', h1, h2, h3⟩ := h
  exact ⟨P', h1.more hm hb, h2, h3⟩
theorem Done.after {P : Nat → Prop} {N : Nat} {u w w' : World} {s : Nat} {q : PS} (h : Done P N w w' s q) (k : Kp No u w) : Done P N u w' s q := by
  obtain ⟨P', h1, h2, h3⟩ := h
  refine ⟨P', h1, (k.mono (fun _ h => h.elim)).trans h2 (fun x hx => .inl hx), fun x hx => ?_⟩
  rcases h3 x hx with h | h
  · exact .inl h
  · exact .inr (Nat.le_trans k.size h)
theorem Done.kept {P : Nat → Prop} {N : Nat} {u w w' : World} {s : Nat} {q : PS} (h : Done P N u w s q) (k : Kp No w w') : Done P N u w' s q := by
  obtain ⟨P', h1, h2, h3⟩ := h
  exact ⟨P', h1.kept k, h2.andNone k, h3⟩

theorem inv_chgd {M : Nat} {q : PS} {c : PC} (h : PInv M q) (hok : okc q.seen c) (hn : c.nm.length ≤ 40 ∧ c.to.length ≤ 40) (h1 : q.safe.length + q.chg.length + 1 ≤ M)
    (h0 : c.kind = 0 → (q.files c.file).isSome = true ∧ c.file ∉ q.safe.map (·.2) ++ (q.chg.filter (fun c => c.kind == 0)).map (·.file)) : PInv M (chgd c q) :=
  { h with
    seen_eq := by show pdo q.seen c = (q.chg ++ [c]).foldl pdo q.safe; rw [List.foldl_append, ← h.seen_eq]; rfl
    okc := by show okcs q.safe (q.chg ++ [c]); rw [okcs_append, ← h.seen_eq]; exact ⟨h.okc, hok, trivial⟩
    hasC := fun d hd hk => by
      rcases List.mem_append.1 hd with hd | hd
      · exact h.hasC d hd hk
      · simp at hd; subst hd; exact (h0 hk).1
    nodup := by
      show (q.safe.map (·.2) ++ ((q.chg ++ [c]).filter (fun c => c.kind == 0)).map (·.file)).Nodup
      rw [List.filter_append, List.map_append, ← List.append_assoc]
      by_cases hk : c.kind = 0
      · rw [List.nodup_append]
        refine ⟨h.nodup, by simp [hk], fun a ha b hb => ?_⟩
        simp [hk] at hb
        intro e
        subst e hb
        exact (h0 hk).2 ha
      · simp [hk]
        exact h.nodup
    nmC := fun d hd => by
      rcases List.mem_append.1 hd with hd | hd
      · exact h.nmC d hd
      · simp at hd; subst hd; exact hn
    nmade := fun e => by cases e
    lsum := by show q.safe.length + (q.chg ++ [c]).length ≤ M; simp; omega }

theorem rp_chgd {P : Nat → Prop} {N M : Nat} {W wx W1 w' : World} {s ma : Nat} {q : PS} {vs vf vc vc' : Value} {u : Nat → Value} {c : PC} (h : Rp P (PInv N) W s q vs vf vc u)
    (hB : Begun W s (.int .i64 (q.room : Int)) vc (.bool q.down) (.bool q.armed) (.int .i64 (q.left : Int)) (.int .i64 (q.steps : Int)) vs q.seen wx ma) (hm : MapAt W1 ma (pdo q.seen c)) (hr : Row W1 173 4 vc' (q.chg.length + 1) (chgs (q.chg ++ [c])))
    (hk : Kp (fun k => k = ma ∨ vc.ownBlock = some k) wx W1) (hw : w' = W1.setCell ⟨s, 3, none⟩ vc') (hv : ∀ k, vc'.ownBlock = some k → vc.ownBlock = some k ∨ wx.heap.size ≤ k) (hi : PInv M (chgd c q)) :
    Sys (Ext P W w') M w' s (chgd c q) ∧ Kp P W w' := by
  obtain ⟨vf0, hs0, hm0, hk0⟩ := hB.facts (vf := vf) h.blk
  have hma : (P ma ∨ W.heap.size ≤ ma) ∧ ∀ b t cs, Blk W b t cs → b ≠ ma := by
    rcases hB with ⟨rfl, rfl, hm1⟩ | ⟨_, _, mf, _, _, _, _, _, h1, _⟩
    · exact ⟨.inl (h.mapS.1 ma rfl), fun b t cs hb => Ne.symm (hm1.blk hb)⟩
    · exact ⟨.inr h1, fun b t cs hb => by have := hb.lt; omega⟩
  have hmr : ∀ {e : TypeId} {sz n : Nat} {v : Value} {xs : List Value}, Row W e sz v n xs → ∀ x, v.ownBlock = some x → x ≠ ma := by
    intro e sz n v xs hrow x hx
    rcases hB with ⟨rfl, rfl, hm1⟩ | ⟨_, _, mf, _, _, _, _, _, h1, _⟩
    · intro e; exact hm1.row hrow (by rw [hx, e])
    · have := hrow.lt x hx; omega
  -- all that changes
  have K1 : Kp (fun k => k = s ∨ k = ma ∨ vc.ownBlock = some k) W W1 := (hk0.mono (fun x hx => .inl (.inl hx))).trans hk (fun x hx => .inl (.inr hx))
  have K : Kp (fun k => k = s ∨ k = ma ∨ vc.ownBlock = some k) W w' := by
    rw [hw]
    exact K1.setCell (p := ⟨s, 3, none⟩) (.inl (.inl rfl)) _
  have hsm : s ≠ ma := hma.2 s _ _ h.blk
  have hsv : vc.ownBlock ≠ some s := h.chg.ne h.blk (by decide)
  have KP : Kp P W w' := K.mono (fun x hx => by
    rcases hx with rfl | rfl | hx
    · exact .inl h.ps
    · exact hma.1
    · exact .inl (h.pc x hx))
  have kset : Kp (· = s) W1 w' := by rw [hw]; exact Kp.set1 _ _ _ _
  have hs1 : Blk W1 s 109 _ := hs0.kp hk (fun e => by
    rcases e with e | e
    · exact hsm e
    · exact hsv e)
  have hsb : Blk w' s 109 (fsCells (chgd c q) (.map (some ma)) vf0 vc') := by rw [hw]; exact hs1.setCell 3 vc'
  have hmw : MapAt w' ma (pdo q.seen c) := hm.kp kset (hm.blk hs1)
  -- the safe directory
  have hsafe : ∃ mf, vf0 = .map (some mf) ∧ mf ≠ ma ∧ MapAt w' mf q.safe ∧ (P mf ∨ W.heap.size ≤ mf) := by
    rcases hB with ⟨hwx, hvs, hm1⟩ | ⟨hvs, hl, mf, h1, h2, h3, h4, h5, h6, h7⟩
    · subst hwx hvs
      have hmade : q.made = true := by
        cases hmd : q.made with
        | true => rfl
        | false => have := (h.unmade hmd).1; cases this
      obtain ⟨a, b, ha, hb, hab, pa, pb⟩ := h.mades hmade
      cases ha
      have hvf : vf0 = vf := by
        have e1 := hs0.cell 2
        have e2 := h.blk.cell 2
        rw [e2] at e1
        simpa [fsCells] using e1.symm
      subst hvf hb
      refine ⟨b, rfl, Ne.symm hab, ?_, .inl pb⟩
      rcases h.safe with ⟨e, _⟩ | ⟨b', e, hmb⟩
      · cases e
      · cases e
        exact hmb.kp K (fun e => by
          rcases e with e | e | e
          · exact hmb.blk h.blk e
          · exact hab e.symm
          · exact hmb.row h.chg e)
    · have hvf0 : vf0 = .map (some mf) := by
        have e1 := hs0.cell 2
        have e2 := h2.cell 2
        rw [e2] at e1
        simpa using e1.symm
      subst hvf0
      have hmd : q.made = false := by
        cases hmd : q.made with
        | false => rfl
        | true => obtain ⟨a, b, ha, _⟩ := h.mades hmd; rw [hvs] at ha; cases ha
      rw [(h.inv.nmade hmd).2]
      refine ⟨mf, rfl, Ne.symm h5, ?_, .inr h7⟩
      have h8 := h4.kp hk (fun e => by
        rcases e with e | e
        · exact h5 e.symm
        · have := h.chg.lt mf e; omega)
      exact h8.kp kset (fun e => by have := h.blk.lt; omega)
  obtain ⟨mf, hvf0, hne, hmf, hpf⟩ := hsafe
  subst hvf0
  have hrw : Row w' 173 4 vc' (q.chg.length + 1) (chgs (q.chg ++ [c])) := hr.kp kset (fun x hx e => hr.ne hs1 (by decide) (by rw [hx, e]))
  have hin : ∀ x, P x ∨ W.heap.size ≤ x → x < w'.heap.size → Ext P W w' x := fun x hx hl => by
    rcases hx with h | h
    · exact .inl h
    · exact .inr ⟨h, hl⟩
  refine ⟨⟨.map (some ma), .map (some mf), vc', u, ?_⟩, KP⟩
  exact {
    lt := fun x hx => by
      rcases hx with hx | hx
      · exact Nat.lt_of_lt_of_le (h.lt x hx) K.size
      · exact hx.2
    ps := .inl h.ps
    blk := hsb
    seen := .inr ⟨ma, rfl, hmw⟩
    safe := .inr ⟨mf, rfl, hmf⟩
    unmade := fun e => by cases e
    mades := fun _ => ⟨ma, mf, rfl, rfl, Ne.symm hne, hin ma hma.1 hmw.lt, hin mf hpf hmf.lt⟩
    chg := by
      show Row w' 173 4 vc' (q.chg ++ [c]).length _
      rw [List.length_append]
      exact hrw
    pc := fun x hx => hin x (by
      rcases hv x hx with h1 | h1
      · exact .inl (h.pc x h1)
      · exact .inr (Nat.le_trans hk0.size h1)) (hrw.lt x hx)
    file := fun b f hf => by
      obtain ⟨h1, h2, h3⟩ := h.file b f hf
      refine ⟨.inl h1, h2.kp K (fun e => ?_) (fun x hx e => ?_), fun x hx => .inl (h3 x hx)⟩
      · rcases e with e | e | e
        · exact h2.blk.ne h.blk (by decide) e
        · exact hma.2 b _ _ h2.blk e
        · exact h.chg.ne h2.blk (by decide) e
      · rcases e with e | e | e
        · exact h2.own.row.ne h.blk (by decide) (by rw [hx, e])
        · exact hmr h2.own.row x hx e
        · exact h2.own.row.ne' h.chg (by decide) x hx e
    sep := h.sep
    inv := hi }

theorem hmf (fn : Fn) (first cap : Array Value) (w : World) : (Instr.makeFunc fn first cap).run Tryz.prog w = .ok (.func fn first cap) w := rfl

set_option maxHeartbeats 2000000 in
/-- change: a step, and then the change. -/
theorem change_any {P P2 : Nat → Prop} {N : Nat} (w : World) (s : Nat) (p q : PS) (c : PC) (h : Sys P N w s p) (hN : N + 1 ≤ 1000) (hpre : ∀ W, Kp (· = s) w W → Sys P (N + 1) W s (tick p) → Sys P2 (N + 1) W s q) (hlt2 : ∀ x, P2 x → x < w.heap.size)
    (hok : okc q.seen c) (hn : c.nm.length ≤ 20000000 ∧ c.to.length ≤ 20000000) (hi : PInv (N + 1) (chgd c q)) :
    Calls Tryz.prog 82 #[.pointer (some ⟨s, 0, none⟩), .agg (chgCells c).toArray] w fun e w' =>
      (dead p = true ∧ e = .returned (.int .i64 12) ∧ Sys P N w' s (fall p) ∧ Kp (· = s) w w') ∨
      (dead p = false ∧ e = .returned (.int .i64 0) ∧ ∃ P', Sys P' (N + 1) w' s (chgd c q) ∧ Kp P2 w w' ∧ ∀ x, P' x → P2 x ∨ w.heap.size ≤ x) := by
  have hm := hmf
  have HO : Hid (chgCells c = [.int .i64 (c.kind : Int), .string (sOf c.nm), .string (sOf c.to), ptrV (pcV c)]) := rfl
  obtain ⟨pv, hpv⟩ : ∃ pv, ptrV (pcV c) = .pointer pv := ⟨_, rfl⟩
  rw [hpv] at HO
  have hsl := h.lt s (by obtain ⟨_, _, _, _, h⟩ := h; exact h.ps)
  have HH := hid h
  rw [HO.out]
  -- the two boxes
  have kw : Hid (Kp No w ((w.alloc (.cells #[.pointer (some ⟨s, 0, none⟩)] 25)).alloc (.cells #[.int .i64 (c.kind : Int), .string (sOf c.nm), .string (sOf c.to), .pointer pv] 173))) := ((Kp.refl _ _).alloc _).alloc _
  have hb1 : Hid (Blk ((w.alloc (.cells #[.pointer (some ⟨s, 0, none⟩)] 25)).alloc (.cells #[.int .i64 (c.kind : Int), .string (sOf c.nm), .string (sOf c.to), .pointer pv] 173)) w.heap.size 25 [.pointer (some ⟨s, 0, none⟩)]) := (Blk.new w 25 [.pointer (some ⟨s, 0, none⟩)]).kp (L := No) ((Kp.refl _ _).alloc _) (fun h => h)
  have hb2 : Hid (Blk ((w.alloc (.cells #[.pointer (some ⟨s, 0, none⟩)] 25)).alloc (.cells #[.int .i64 (c.kind : Int), .string (sOf c.nm), .string (sOf c.to), .pointer pv] 173)) (w.heap.size + 1) 173 (chgCells c)) := by
    have := Blk.new (w.alloc (.cells #[.pointer (some ⟨s, 0, none⟩)] 25)) 173 (chgCells c)
    unfold Hid
    rw [HO.out] at this ⊢
    simpa using this
  have hsz : Hid (((w.alloc (.cells #[.pointer (some ⟨s, 0, none⟩)] 25)).alloc (.cells #[.int .i64 (c.kind : Int), .string (sOf c.nm), .string (sOf c.to), .pointer pv] 173)).heap.size = w.heap.size + 2) := by simp [Hid]
  have q0 : ((w.alloc (.cells #[.pointer (some ⟨s, 0, none⟩)] 25)).alloc (.cells #[.int .i64 (c.kind : Int), .string (sOf c.nm), .string (sOf c.to), .pointer pv] 173)).cell? ⟨w.heap.size, 0, none⟩ = some (.pointer (some ⟨s, 0, none⟩)) := hb1.out.cell 0
  cases hd : dead p with
  | true =>
    have HC := hid (step_dead _ s p (h.kept kw.out) hd (.func (.func 131) #[] #[.pointer (some ⟨w.heap.size, 0, none⟩), .pointer (some ⟨w.heap.size + 1, 0, none⟩)]))
    generalize sOf c.nm = sn at *
    generalize sOf c.to = st at *
    clear hb1 hb2 hsz h hpv
    go_enter Tryz.func82, Tryz.ntmps82
    go_wp2_with (go_at_call 130; refine (HC.out).mono ?_; rintro e w1 ⟨rfl, h1, h2⟩; have H1 := hid h1; have H2 := hid h2; clear h1 h2)
    go_ret
    exact .inl ⟨by first | rfl | trivial, rfl, H1.out, (kw.out.mono (fun _ h => h.elim)).trans H2.out (fun x hx => .inl hx)⟩
  | false =>
    have HC : Hid (Calls Tryz.prog 130 #[.pointer (some ⟨s, 0, none⟩), .func (.func 131) #[] #[.pointer (some ⟨w.heap.size, 0, none⟩), .pointer (some ⟨w.heap.size + 1, 0, none⟩)]] ((w.alloc (.cells #[.pointer (some ⟨s, 0, none⟩)] 25)).alloc (.cells #[.int .i64 (c.kind : Int), .string (sOf c.nm), .string (sOf c.to), .pointer pv] 173)) fun e w' => e = .returned (.int .i64 0) ∧
        ∃ P', Sys P' (N + 1) w' s (chgd c q) ∧ Kp P2 w w' ∧ ∀ x, P' x → P2 x ∨ w.heap.size ≤ x) := by
      refine step_live _ s p (h.kept kw.out) hd hN 131 _ (enters_of Tryz.func131 (by kernel_rfl) rfl) _ ?_
      intro W hkW hsW
      have kW : Kp (· = s) w W := (kw.out.mono (fun _ h => h.elim)).trans hkW (fun x hx => .inl hx)
      obtain ⟨vs, vf, vc, u, hR⟩ := hpre W kW hsW
      have hxW := hb1.out.kp hkW (fun e => by omega)
      have hyW := hb2.out.kp hkW (fun e => by omega)
      have hI := hR.inv
      have hb := hI.big
      have hse : (∃ ma, vs = .map (some ma) ∧ MapAt W ma q.seen) ∨ (vs = .map none ∧ vf = .map none ∧ q.seen = []) := by
        rcases hR.seen with ⟨e1, e2⟩ | ⟨b, e1, e2⟩
        · refine .inr ⟨e1, ?_, e2⟩
          cases hmd : q.made with
          | false => exact (hR.unmade hmd).2
          | true => obtain ⟨a, b, ha, _⟩ := hR.mades hmd; rw [e1] at ha; cases ha
        · exact .inl ⟨b, e1, e2⟩
      refine (chg1_any W s w.heap.size (w.heap.size + 1) c q.seen _ vs vf vc _ _ _ _ q.chg hxW hyW hR.blk hse hR.chg hok hn (by have := hI.lseen; omega) (by have := hI.lchg; omega) (fun e => by have := hlt2 _ (hR.pc _ e); omega)).mono ?_
      rintro e w' ⟨rfl, wx, ma, vc', W1, hB, hm1, hr1, hk1, hw1, hv1⟩
      obtain ⟨hS, hK⟩ := rp_chgd hR hB hm1 hr1 hk1 hw1 hv1 hi
      refine ⟨rfl, _, hS, (kW.mono (fun x hx => .inl (by subst hx; exact hR.ps))).trans hK (fun x hx => .inl hx), fun x hx => ?_⟩
      rcases hx with hx | hx
      · exact .inl hx
      · exact .inr (Nat.le_trans kW.size hx.1)
    generalize sOf c.nm = sn at *
    generalize sOf c.to = st at *
    clear hb1 hb2 hsz h hpv
    go_enter Tryz.func82, Tryz.ntmps82
    go_wp2_with (go_at_call 130; refine (HC.out).mono ?_; rintro e w1 ⟨rfl, h1⟩; have H1 := hid h1; clear h1)
    go_ret
    exact .inr ⟨by first | rfl | trivial, rfl, H1.out⟩

end Go.Proofs.YthmimipoooemjaaGreatDoor.Sim
end

section
/-
  Create, Remove, Rename.
-/
namespace Go.Proofs.YthmimipoooemjaaGreatDoor.Sim
open Go.RowKit Go.Maps

theorem inv_setF {M : Nat} {q : PS} {b : Nat} {f : Fl} (h : PInv M q) (hl : f.b.length ≤ 12000 * M) : PInv M (setF b f q) :=
  { h with
    has := fun e he => by show (if e.2 = b then some f else q.files e.2).isSome = true; split; rfl; exact h.has e he
    hasC := fun c hc hk => by show (if c.file = b then some f else q.files c.file).isSome = true; split; rfl; exact h.hasC c hc hk
    lfile := fun x g hg => by
      have hg' : (if x = b then some f else q.files x) = some g := hg
      split at hg'
      · cases hg'; exact hl
      · exact h.lfile x g hg' }
/-- A file more. -/
theorem sys_add {P : Nat → Prop} {M : Nat} {W : World} {s b : Nat} {q : PS} (h : Sys P M W s q) (hb : Blk W b 135 [.slice none 0 0, .int .i64 0]) (hn : ¬ P b) : Sys (fun x => P x ∨ x = b) M W s (setF b ⟨[], 0⟩ q) := by
  obtain ⟨vs, vf, vc, u, h⟩ := h
  refine ⟨vs, vf, vc, fun x => if x = b then .slice none 0 0 else u x, ?_⟩
  have hold : ∀ x g, q.files x = some g → x ≠ b := fun x g hg e => hn (e ▸ (h.file x g hg).1)
  exact {
    lt := fun x hx => by
      rcases hx with hx | rfl
      · exact h.lt x hx
      · exact hb.lt
    ps := .inl h.ps
    blk := h.blk
    seen := h.seen
    safe := h.safe
    unmade := h.unmade
    mades := fun e => by obtain ⟨a, c, h1, h2, h3, h4, h5⟩ := h.mades e; exact ⟨a, c, h1, h2, h3, .inl h4, .inl h5⟩
    chg := h.chg
    pc := fun x hx => .inl (h.pc x hx)
    file := fun x g hg => by
      have hg' : (if x = b then some ⟨[], 0⟩ else q.files x) = some g := hg
      split at hg'
      · rename_i e
        subst e
        cases hg'
        exact ⟨.inr rfl, by simp only [if_true]; exact ⟨hb, OwnB.nil _, by simp, Nat.le_refl _⟩, by simp [Value.ownBlock]⟩
      · rename_i e
        obtain ⟨h1, h2, h3⟩ := h.file x g hg'
        rw [if_neg e]
        exact ⟨.inl h1, h2, fun y hy => .inl (h3 y hy)⟩
    sep := fun x y f g hf hg hne z hz => by
      have hf' : (if x = b then some ⟨[], 0⟩ else q.files x) = some f := hf
      have hg' : (if y = b then some ⟨[], 0⟩ else q.files y) = some g := hg
      by_cases ex : x = b
      · rw [if_pos ex] at hz
        simp [Value.ownBlock] at hz
      · rw [if_neg ex] at hz hf'
        by_cases ey : y = b
        · rw [if_pos ey]
          simp [Value.ownBlock]
        · rw [if_neg ey] at hg' ⊢
          exact h.sep x y f g hf' hg' hne z hz
    inv := inv_setF h.inv (by simp) }

theorem Sys.c {P : Nat → Prop} {N : Nat} {w : World} {s : Nat} {p : PS} (h : Sys P N w s p) : P s ∧ s < w.heap.size ∧ w.cell? ⟨s, 4, none⟩ = some (.bool p.down) ∧ ∃ vs, w.cell? ⟨s, 1, none⟩ = some vs ∧ MapV w vs p.seen := by
  obtain ⟨vs, vf, vc, u, h⟩ := h
  exact ⟨h.ps, h.lt s h.ps, h.c 4, vs, h.c 1, h.seen⟩

theorem wrongs_one {p : PS} {n : Nm} (h : wrongs p [n] = 0) : p.down = false ∧ nameB n = true := by
  unfold wrongs at h
  split at h
  · cases h
  · rename_i h1
    split at h
    · rename_i h2
      exact ⟨by simpa using h1, by simpa using h2⟩
    · cases h
theorem nameB_len {n : Nm} (h : nameB n = true) : n.length ≤ 40 := by
  unfold nameB at h
  simp only [Bool.and_eq_true, decide_eq_true_eq] at h
  exact h.1.2

/-- What change_any gives, as data. -/
theorem Done.ofChange {P P2 : Nat → Prop} {N : Nat} {w0 w w' : World} {s : Nat} {p q : PS} {c : PC} {e : Ending} (k0 : Kp No w0 w) (hP2 : ∀ x, P2 x → P x ∨ w0.heap.size ≤ x) (hN : N + 1 ≤ 1000) (hps : P s) (g : PS → PS) (hq : q = g (tick p))
    (h : (dead p = true ∧ e = .returned (.int .i64 12) ∧ Sys P N w' s (fall p) ∧ Kp (· = s) w w') ∨
      (dead p = false ∧ e = .returned (.int .i64 0) ∧ ∃ P', Sys P' (N + 1) w' s (chgd c q) ∧ Kp P2 w w' ∧ ∀ x, P' x → P2 x ∨ w.heap.size ≤ x)) :
    e = .returned (.int .i64 ((stp p (fun r => chgd c (g r))).1 : Nat)) ∧ Done P (N + 1) w0 w' s (stp p (fun r => chgd c (g r))).2 := by
  rcases h with ⟨hd, rfl, hS, hk⟩ | ⟨hd, rfl, P', hS, hk, hP'⟩
  · have e1 : stp p (fun r => chgd c (g r)) = (12, fall p) := by simp [stp, hd]
    rw [e1]
    exact ⟨rfl, P, hS.more (by omega) hN, (k0.mono (fun _ h => h.elim)).trans hk (fun x hx => .inl (by subst hx; exact hps)), fun _ h => .inl h⟩
  · have e1 : stp p (fun r => chgd c (g r)) = (0, chgd c q) := by simp [stp, hd, hq]
    rw [e1]
    refine ⟨rfl, P', hS, ?_, fun x hx => ?_⟩
    · refine ((k0.mono (fun _ h => h.elim)).trans hk hP2)
    · rcases hP' x hx with h | h
      · exact hP2 x h
      · exact .inr (Nat.le_trans k0.size h)

set_option maxHeartbeats 2000000 in
theorem create_any {P : Nat → Prop} {N : Nat} (w : World) (s : Nat) (p : PS) (t : ByteArray) (ht : t.size ≤ 20000000) (h : Sys P N w s p) (hN : N + 1 ≤ 1000) :
    Calls Tryz.prog 119 #[.pointer (some ⟨s, 0, none⟩), .string t] w fun e w' => ∃ b, p.files b = none ∧ e = .returned (.int .i64 ((pCreate (nm t) b p).1 : Nat)) ∧ Done P (N + 1) w w' s (pCreate (nm t) b p).2 := by
  obtain ⟨hps, hsl, q4, vs, q1, hV⟩ := h.c
  have hI := h.inv
  have HF : Hid (∀ b, w.heap.size ≤ b → p.files b = none) := fun b hb => by
    cases hf : p.files b with
    | none => rfl
    | some f =>
      obtain ⟨_, _, _, _, hR⟩ := h
      have := hR.lt b (hR.file b f hf).1
      omega
  have HC : Hid (Calls Tryz.prog 60 #[.pointer (some ⟨s, 0, none⟩), .slice (some ⟨w.heap.size, 0, none⟩) 1 1] (w.alloc (.cells #[.string t] 9)) fun e w' => e = .returned (.int .i64 (wrongs p [nm t] : Nat)) ∧ Kp No w w') := by
    refine (wrong_any s _ [nm t] p.down _ ?_ (NsAt.one w t ht)).mono ?_
    · exact (((Kp.refl No w).alloc _).cell (p := ⟨s, 4, none⟩) hsl (fun h => h.elim)).trans q4
    · rintro e w' ⟨rfl, hk⟩
      exact ⟨rfl, ((Kp.refl No w).alloc _).andNone hk⟩
  have hW : Hid (∀ W, Kp No w W → W.cell? ⟨s, 1, none⟩ = some vs ∧ (Instr.lookup 101 vs (.string t) false).run Tryz.prog W = .ok (ptrV (dfind p.seen (nm t))) W) := fun W k =>
    ⟨(k.cell (p := ⟨s, 1, none⟩) hsl (fun h => h.elim)).trans q1, (hV.kp k (fun _ _ h => h.elim)).lookS t ht⟩
  have H := hid h
  have HI := hid hI
  clear h q4 q1 hV hI
  by_cases hw : wrongs p [nm t] = 0
  · rw [hw] at HC
    obtain ⟨hdn, hnb⟩ := wrongs_one hw
    have hnl := nameB_len hnb
    cases hd : dfind p.seen (nm t) with
    | some b =>
      have e1 : ∀ b, pCreate (nm t) b p = (6, p) := fun b => by simp [pCreate, hw, hd]
      have HE := hid e1
      rw [hd] at hW
      clear e1 hd hw hdn hnb
      go_enter Tryz.func119, Tryz.ntmps119
      go_wp2_with (go_at_call 60; refine (HC.out).mono ?_; rintro e w1 ⟨rfl, hk⟩; have HK := hid hk; obtain ⟨r1, r2⟩ := hW.out _ hk; have e0 : ptrV (some b) = .pointer (some ⟨b, 0, none⟩) := rfl; rw [e0] at r2; clear hk e0)
      go_ret
      refine ⟨w.heap.size, HF.out _ (Nat.le_refl _), ?_, ?_⟩
      · rw [HE.out]; rfl
      · rw [HE.out]
        exact (Done.of (H.out.more (by omega) hN) (Kp.refl _ _)).kept HK.out
    | none =>
      have e1 : ∀ b, pCreate (nm t) b p = stp p (fun q => chgd ⟨0, nm t, [], b⟩ (setF b ⟨[], 0⟩ q)) := fun b => by simp [pCreate, hw, hd]
      have HE := hid e1
      have HD := hid hd
      rw [hd] at hW
      have HCH : Hid (∀ w1, Kp No w w1 → Calls Tryz.prog 82 #[.pointer (some ⟨s, 0, none⟩), .agg #[.int .i64 0, .string t, .string ⟨#[]⟩, .pointer (some ⟨w1.heap.size, 0, none⟩)]] (w1.alloc (.cells #[.slice none 0 0, .int .i64 0] 135)) fun e w' =>
          e = .returned (.int .i64 ((stp p (fun q => chgd ⟨0, nm t, [], w1.heap.size⟩ (setF w1.heap.size ⟨[], 0⟩ q))).1 : Nat)) ∧ Done P (N + 1) w w' s (stp p (fun q => chgd ⟨0, nm t, [], w1.heap.size⟩ (setF w1.heap.size ⟨[], 0⟩ q))).2) := by
        intro w1 hk
        have hk2 : Kp No w (w1.alloc (.cells #[.slice none 0 0, .int .i64 0] 135)) := hk.alloc _
        have hcc : (chgCells ⟨0, nm t, [], w1.heap.size⟩).toArray = #[.int .i64 0, .string t, .string ⟨#[]⟩, .pointer (some ⟨w1.heap.size, 0, none⟩)] := by
          simp only [chgCells, sOf_nm]
          rfl
        have hnew : w.heap.size ≤ w1.heap.size := hk.size
        have hnP : ¬ P w1.heap.size := fun hp => by have := H.out.lt _ hp; omega
        have hfz := HF.out _ hnew
        have hc := change_any (P := P) (P2 := fun x => P x ∨ x = w1.heap.size) (w1.alloc (.cells #[.slice none 0 0, .int .i64 0] 135)) s p (setF w1.heap.size ⟨[], 0⟩ (tick p)) ⟨0, nm t, [], w1.heap.size⟩ (H.out.kept hk2) hN
          (fun W kW hsW => sys_add hsW ((Blk.new w1 135 [.slice none 0 0, .int .i64 0]).kp kW (fun e => by omega)) hnP) (fun x hx => by
            rcases hx with hx | rfl
            · have := H.out.lt x hx; simp; omega
            · simp) ⟨Nat.zero_le _, fun e => by cases e⟩ ⟨by rw [nm_len]; exact ht, by simp⟩ ?_
        · rw [hcc] at hc
          refine hc.mono ?_
          intro e w' h'
          exact Done.ofChange (g := setF w1.heap.size ⟨[], 0⟩) hk2 (fun x hx => by
            rcases hx with hx | rfl
            · exact .inl hx
            · exact .inr hnew) hN hps rfl h'
        · have hT := inv_setF (b := w1.heap.size) (f := ⟨[], 0⟩) (HI.out.tick hN) (by simp)
          refine inv_chgd hT ⟨Nat.zero_le _, fun e => by cases e⟩ ⟨hnl, by simp⟩ (by have := HI.out.lsum; show p.safe.length + p.chg.length + 1 ≤ N + 1; omega) (fun _ => ⟨by simp [setF], fun hm => ?_⟩)
          rcases List.mem_append.1 hm with hm | hm
          · obtain ⟨x, hx, hx2⟩ := List.mem_map.1 hm
            have := HI.out.has x hx
            rw [hx2, hfz] at this
            cases this
          · obtain ⟨x, hx, hx2⟩ := List.mem_map.1 hm
            obtain ⟨hx3, hx4⟩ := List.mem_filter.1 hx
            have := HI.out.hasC x hx3 (by simpa using hx4)
            have hx2' : x.file = w1.heap.size := hx2
            rw [hx2', hfz] at this
            cases this
      clear e1 hd hw hdn hnb
      go_enter Tryz.func119, Tryz.ntmps119
      go_wp2_with (first | (go_at_call 60; refine (HC.out).mono ?_; rintro e w1 ⟨rfl, hk⟩; have HK := hid hk; obtain ⟨r1, r2⟩ := hW.out _ hk; have e0 : ptrV none = .pointer none := rfl; rw [e0] at r2; clear hk e0) | (go_at_call 82; refine (HCH.out w1 HK.out).mono ?_; rintro e w2 ⟨rfl, h2⟩; have H2 := hid h2; clear h2))
      go_ret
      refine ⟨w1.heap.size, HF.out _ HK.out.size, ?_, ?_⟩
      · rw [HE.out]; rfl
      · rw [HE.out]; exact H2.out
  · have e1 : ∀ b, pCreate (nm t) b p = (wrongs p [nm t], p) := fun b => by simp [pCreate, hw]
    have HE := hid e1
    generalize wrongs p [nm t] = x at *
    have hne : ((x : Int) != 0) = true := by simp; omega
    clear e1 hw
    go_enter Tryz.func119, Tryz.ntmps119
    go_wp2_with (go_at_call 60; refine (HC.out).mono ?_; rintro e w1 ⟨rfl, hk⟩; have HK := hid hk; clear hk)
    go_ret
    refine ⟨w.heap.size, HF.out _ (Nat.le_refl _), ?_, ?_⟩
    · rw [HE.out]; rfl
    · rw [HE.out]
      exact (Done.of (H.out.more (by omega) hN) (Kp.refl _ _)).kept HK.out

/-- A change of a name that is there. -/
theorem HCH_of {P : Nat → Prop} {N : Nat} (w : World) (s : Nat) (p : PS) (c : PC) (t t' : ByteArray) (h : Sys P N w s p) (hN : N + 1 ≤ 1000) (hk0 : c.kind = 1 ∨ c.kind = 2) (hf : (dfind p.seen c.nm).isSome = true) (hn : c.nm.length ≤ 40 ∧ c.to.length ≤ 40) (e1 : sOf c.nm = t) (e2 : sOf c.to = t') (w1 : World) (hk : Kp No w w1) :
    Calls Tryz.prog 82 #[.pointer (some ⟨s, 0, none⟩), .agg #[.int .i64 (c.kind : Int), .string t, .string t', .pointer none]] w1 fun e w' =>
      e = .returned (.int .i64 ((stp p (chgd c)).1 : Nat)) ∧ Done P (N + 1) w w' s (stp p (chgd c)).2 := by
  have hI := h.inv
  have hcc : (chgCells c).toArray = #[.int .i64 (c.kind : Int), .string t, .string t', .pointer none] := by
    have : pcV c = none := by unfold pcV; rw [if_neg (by omega)]
    simp only [chgCells, e1, e2, this]
    rfl
  have hok : okc p.seen c := ⟨by omega, fun _ => hf⟩
  have hc := change_any (P := P) (P2 := P) w1 s p (tick p) c (h.kept hk) hN (fun W _ hsW => hsW) (fun x hx => Nat.lt_of_lt_of_le (h.lt x hx) hk.size) hok ⟨by omega, by omega⟩
    (inv_chgd (hI.tick hN) hok hn (by have := hI.lsum; show p.safe.length + p.chg.length + 1 ≤ N + 1; omega) (fun e => by omega))
  rw [hcc] at hc
  refine hc.mono ?_
  intro e w' h'
  exact Done.ofChange (g := fun r => r) hk (fun x hx => .inl hx) hN h.c.1 rfl h'

set_option maxHeartbeats 2000000 in
theorem remove_any {P : Nat → Prop} {N : Nat} (w : World) (s : Nat) (p : PS) (t : ByteArray) (ht : t.size ≤ 20000000) (h : Sys P N w s p) (hN : N + 1 ≤ 1000) :
    Calls Tryz.prog 41 #[.pointer (some ⟨s, 0, none⟩), .string t] w fun e w' => e = .returned (.int .i64 ((pRemove (nm t) p).1 : Nat)) ∧ Done P (N + 1) w w' s (pRemove (nm t) p).2 := by
  have HC := hid (find_any w s p t ht h)
  have hI := h.inv
  have H := hid h
  by_cases h0 : finds p (nm t) = 0
  · obtain ⟨b, hb⟩ := found_zero hI h0
    obtain ⟨_, hd, _⟩ := pBytes_of hb
    have e1 : pRemove (nm t) p = stp p (chgd ⟨1, nm t, [], 0⟩) := by simp [pRemove, h0]
    have hnl : (nm t).length ≤ 40 := (hI.hasSeen _ (mem_of_dfind hd)).2
    have HCH := hid (HCH_of w s p ⟨1, nm t, [], 0⟩ t ⟨#[]⟩ h hN (.inl rfl) (by rw [hd]; rfl) ⟨hnl, by simp⟩ (sOf_nm t) rfl)
    rw [e1]
    rw [h0, hb] at HC
    have e0 : ptrV (some b) = .pointer (some ⟨b, 0, none⟩) := rfl
    rw [e0] at HC
    generalize stp p (chgd ⟨1, nm t, [], 0⟩) = R at *
    clear e1 e0 hd hb h0 hI h
    go_enter Tryz.func41, Tryz.ntmps41
    go_wp2_with (first | (go_at_call 54; refine (HC.out).mono ?_; rintro e w1 ⟨rfl, h1⟩; have H1 := hid h1; clear h1) | (go_at_call 82; refine (HCH.out w1 H1.out).mono ?_; rintro e w2 ⟨rfl, h2⟩; have H2 := hid h2; clear h2))
    go_ret
    exact ⟨rfl, H2.out⟩
  · have e1 : pRemove (nm t) p = (finds p (nm t), p) := by simp [pRemove, h0]
    have hn : foundP p (nm t) = none := by simp [foundP, h0]
    rw [e1]
    rw [hn] at HC
    have e0 : ptrV none = .pointer none := rfl
    rw [e0] at HC
    generalize finds p (nm t) = x at *
    have hne : ((x : Int) != 0) = true := by simp; omega
    clear e1 e0 hn h0 hI h
    go_enter Tryz.func41, Tryz.ntmps41
    go_wp2_with (go_at_call 54; refine (HC.out).mono ?_; rintro e w1 ⟨rfl, h1⟩; have H1 := hid h1; clear h1)
    go_ret
    exact ⟨rfl, (Done.of (H.out.more (by omega) hN) (Kp.refl _ _)).kept H1.out⟩

theorem wrongs_two {p : PS} {n m : Nm} (h : wrongs p [n, m] = 0) : p.down = false ∧ nameB n = true ∧ nameB m = true := by
  unfold wrongs at h
  split at h
  · cases h
  · rename_i h1
    split at h
    · rename_i h2
      exact ⟨by simpa using h1, by simpa using h2⟩
    · cases h

set_option maxHeartbeats 2000000 in
theorem rename_any {P : Nat → Prop} {N : Nat} (w : World) (s : Nat) (p : PS) (t t' : ByteArray) (ht : t.size ≤ 20000000) (ht' : t'.size ≤ 20000000) (h : Sys P N w s p) (hN : N + 1 ≤ 1000) :
    Calls Tryz.prog 125 #[.pointer (some ⟨s, 0, none⟩), .string t, .string t'] w fun e w' => e = .returned (.int .i64 ((pRename (nm t) (nm t') p).1 : Nat)) ∧ Done P (N + 1) w w' s (pRename (nm t) (nm t') p).2 := by
  obtain ⟨hps, hsl, q4, vs, q1, hV⟩ := h.c
  have HC : Hid (Calls Tryz.prog 60 #[.pointer (some ⟨s, 0, none⟩), .slice (some ⟨w.heap.size, 0, none⟩) 2 2] (w.alloc (.cells #[.string t, .string t'] 9)) fun e w' => e = .returned (.int .i64 (wrongs p [nm t, nm t'] : Nat)) ∧ Kp No w w') := by
    refine (wrong_any s _ [nm t, nm t'] p.down _ ?_ (NsAt.two w t t' ht ht')).mono ?_
    · exact (((Kp.refl No w).alloc _).cell (p := ⟨s, 4, none⟩) hsl (fun h => h.elim)).trans q4
    · rintro e w' ⟨rfl, hk⟩
      exact ⟨rfl, ((Kp.refl No w).alloc _).andNone hk⟩
  have hW : Hid (∀ W, Kp No w W → W.cell? ⟨s, 1, none⟩ = some vs ∧ (Instr.lookup 101 vs (.string t) false).run Tryz.prog W = .ok (ptrV (dfind p.seen (nm t))) W) := fun W k =>
    ⟨(k.cell (p := ⟨s, 1, none⟩) hsl (fun h => h.elim)).trans q1, (hV.kp k (fun _ _ h => h.elim)).lookS t ht⟩
  have H := hid h
  clear q4 q1 hV
  by_cases hw : wrongs p [nm t, nm t'] = 0
  · rw [hw] at HC
    obtain ⟨hdn, hn1, hn2⟩ := wrongs_two hw
    cases hd : dfind p.seen (nm t) with
    | none =>
      have e1 : pRename (nm t) (nm t') p = (5, p) := by simp [pRename, hw, hd]
      rw [e1]
      rw [hd] at hW
      clear e1 hd hw hdn h hn1 hn2
      go_enter Tryz.func125, Tryz.ntmps125
      go_wp2_with (go_at_call 60; refine (HC.out).mono ?_; rintro e w1 ⟨rfl, hk⟩; have HK := hid hk; obtain ⟨r1, r2⟩ := hW.out _ hk; have e0 : ptrV none = .pointer none := rfl; rw [e0] at r2; clear hk e0)
      go_ret
      exact ⟨rfl, (Done.of (H.out.more (by omega) hN) (Kp.refl _ _)).kept HK.out⟩
    | some b =>
      have e1 : pRename (nm t) (nm t') p = stp p (chgd ⟨2, nm t, nm t', 0⟩) := by simp [pRename, hw, hd]
      have HCH := hid (HCH_of w s p ⟨2, nm t, nm t', 0⟩ t t' h hN (.inr rfl) (by rw [hd]; rfl) ⟨nameB_len hn1, nameB_len hn2⟩ (sOf_nm t) (sOf_nm t'))
      rw [e1]
      rw [hd] at hW
      generalize stp p (chgd ⟨2, nm t, nm t', 0⟩) = R at *
      clear e1 hd hw hdn h hn1 hn2
      go_enter Tryz.func125, Tryz.ntmps125
      go_wp2_with (first | (go_at_call 60; refine (HC.out).mono ?_; rintro e w1 ⟨rfl, hk⟩; have HK := hid hk; obtain ⟨r1, r2⟩ := hW.out _ hk; have e0 : ptrV (some b) = .pointer (some ⟨b, 0, none⟩) := rfl; rw [e0] at r2; clear hk e0) | (go_at_call 82; refine (HCH.out w1 HK.out).mono ?_; rintro e w2 ⟨rfl, h2⟩; have H2 := hid h2; clear h2))
      go_ret
      exact ⟨rfl, H2.out⟩
  · have e1 : pRename (nm t) (nm t') p = (wrongs p [nm t, nm t'], p) := by simp [pRename, hw]
    rw [e1]
    generalize wrongs p [nm t, nm t'] = x at *
    have hne : ((x : Int) != 0) = true := by simp; omega
    clear e1 hw h
    go_enter Tryz.func125, Tryz.ntmps125
    go_wp2_with (go_at_call 60; refine (HC.out).mono ?_; rintro e w1 ⟨rfl, hk⟩; have HK := hid hk; clear hk)
    go_ret
    exact ⟨rfl, (Done.of (H.out.more (by omega) hN) (Kp.refl _ _)).kept HK.out⟩

end Go.Proofs.YthmimipoooemjaaGreatDoor.Sim
end

section
/-
  A file is written: Append, Fsync, Flip.
-/
namespace Go.Proofs.YthmimipoooemjaaGreatDoor.Sim
open Go.RowKit Go.Maps

/-- A file's block, or its bytes', are written. -/
theorem rq_setF {P P' : Nat → Prop} {I J : PS → Prop} {W W' : World} {s b : Nat} {q : PS} {vs vf vc v' : Value} {u : Nat → Value} {f f' : Fl} (h : Rp P I W s q vs vf vc u) (hb : q.files b = some f)
    (K : Kp (fun k => k = b ∨ (u b).ownBlock = some k) W W') (hF : FileAt W' b v' f') (hv : ∀ k, v'.ownBlock = some k → (u b).ownBlock = some k ∨ W.heap.size ≤ k) (hPP : ∀ x, P x → P' x) (hlt : ∀ x, P' x → x < W'.heap.size) (hvP : ∀ k, v'.ownBlock = some k → P' k) (hi : J (setF b f' q)) :
    Rp P' J W' s (setF b f' q) vs vf vc (fun x => if x = b then v' else u x) ∧ Kp P W W' := by
  obtain ⟨hPb, hFb, hPu⟩ := h.file b f hb
  have nb : ∀ x t cs, Blk W x t cs → x ≠ b → t ≠ 5 → ¬ (x = b ∨ (u b).ownBlock = some x) := fun x t cs hx hne ht e => by
    rcases e with e | e
    · exact hne e
    · exact hFb.own.row.ne hx ht e
  have nm' : ∀ m l, MapAt W m l → ¬ (m = b ∨ (u b).ownBlock = some m) := fun m l hm e => by
    rcases e with e | e
    · exact hm.blk hFb.blk e
    · exact hm.row hFb.own.row e
  have KP : Kp P W W' := K.mono (fun x hx => by
    rcases hx with rfl | hx
    · exact .inl hPb
    · exact .inl (hPu x hx))
  refine ⟨?_, KP⟩
  exact {
    lt := hlt
    ps := hPP _ h.ps
    blk := h.blk.kp K (nb s _ _ h.blk (h.blk.ne hFb.blk (by decide)) (by decide))
    seen := by
      rcases h.seen with ⟨h1, h2⟩ | ⟨m, h1, h2⟩
      · exact .inl ⟨h1, h2⟩
      · exact .inr ⟨m, h1, h2.kp K (nm' m _ h2)⟩
    safe := by
      rcases h.safe with ⟨h1, h2⟩ | ⟨m, h1, h2⟩
      · exact .inl ⟨h1, h2⟩
      · exact .inr ⟨m, h1, h2.kp K (nm' m _ h2)⟩
    unmade := h.unmade
    mades := fun e => by obtain ⟨a, c, h1, h2, h3, h4, h5⟩ := h.mades e; exact ⟨a, c, h1, h2, h3, hPP _ h4, hPP _ h5⟩
    chg := h.chg.kp K (fun x hx e => by
      rcases e with e | e
      · exact h.chg.ne hFb.blk (by decide) (by rw [hx, e])
      · exact hFb.own.row.ne' h.chg (by decide) x e hx)
    pc := fun x hx => hPP _ (h.pc x hx)
    file := fun x g hg => by
      have hg' : (if x = b then some f' else q.files x) = some g := hg
      by_cases e : x = b
      · subst e
        rw [if_pos rfl] at hg' ⊢
        cases hg'
        exact ⟨hPP _ hPb, hF, hvP⟩
      · rw [if_neg e] at hg' ⊢
        obtain ⟨h1, h2, h3⟩ := h.file x g hg'
        exact ⟨hPP _ h1, h2.kp K (nb x _ _ h2.blk e (by decide)) (fun k hk e' => by
          rcases e' with e' | e'
          · exact h2.own.row.ne hFb.blk (by decide) (by rw [hk, e'])
          · exact h.sep b x f g hb hg' (Ne.symm e) k e' hk), fun k hk => hPP _ (h3 k hk)⟩
    sep := fun x y g g' hx hy hne k hk => by
      have hx' : (if x = b then some f' else q.files x) = some g := hx
      have hy' : (if y = b then some f' else q.files y) = some g' := hy
      by_cases ex : x = b
      · subst ex
        have ey : y ≠ x := Ne.symm hne
        rw [if_pos rfl] at hk
        rw [if_neg ey] at hy' ⊢
        rcases hv k hk with h1 | h1
        · exact h.sep x y f g' hb hy' hne k h1
        · intro e
          have := h.lt k ((h.file y g' hy').2.2 k e)
          omega
      · rw [if_neg ex] at hx' hk
        by_cases ey : y = b
        · subst ey
          rw [if_pos rfl]
          intro e
          rcases hv k e with h1 | h1
          · exact h.sep x y g f hx' hb hne k hk h1
          · have := h.lt k ((h.file x g hx').2.2 k hk)
            omega
        · rw [if_neg ey] at hy' ⊢
          exact h.sep x y g g' hx' hy' hne k hk
    inv := hi }

theorem rp_setF {P : Nat → Prop} {I : PS → Prop} {M : Nat} {W W' : World} {s b : Nat} {q : PS} {vs vf vc v' : Value} {u : Nat → Value} {f f' : Fl} (h : Rp P I W s q vs vf vc u) (hb : q.files b = some f)
    (K : Kp (fun k => k = b ∨ (u b).ownBlock = some k) W W') (hF : FileAt W' b v' f') (hv : ∀ k, v'.ownBlock = some k → (u b).ownBlock = some k ∨ W.heap.size ≤ k) (hi : PInv M (setF b f' q)) :
    Sys (Ext P W W') M W' s (setF b f' q) ∧ Kp P W W' := by
  obtain ⟨h1, h2⟩ := rq_setF (P' := Ext P W W') (J := PInv M) h hb K hF hv (fun x hx => .inl hx) (fun x hx => by
    rcases hx with hx | hx
    · exact Nat.lt_of_lt_of_le (h.lt x hx) K.size
    · exact hx.2) (fun k hk => by
    rcases hv k hk with h1 | h1
    · exact .inl ((h.file b f hb).2.2 k h1)
    · exact .inr ⟨h1, hF.own.row.lt k hk⟩) hi
  exact ⟨⟨vs, vf, vc, _, h1⟩, h2⟩

set_option maxHeartbeats 1000000 in
theorem fsync1_any (W : World) (x b : Nat) (a : Option Addr) (n cap m : Nat) (hx : W.cell? ⟨x, 0, none⟩ = some (.pointer (some ⟨b, 0, none⟩))) (hb : Blk W b 135 [.slice a n cap, .int .i64 (m : Int)]) :
    Calls Tryz.prog 168 #[.pointer (some ⟨x, 0, none⟩)] W fun e w' => e = .returned (.tuple #[]) ∧ ∃ W1, Kp No W W1 ∧ w' = W1.setCell ⟨b, 1, none⟩ (.int .i64 (n : Int)) := by
  have c0 : W.cell? ⟨b, 0, none⟩ = some (.slice a n cap) := hb.cell 0
  have c1 : W.cell? ⟨b, 1, none⟩ = some (.int .i64 (m : Int)) := hb.cell 1
  have f1 := hb.frozen 1
  clear hb
  go_enter Tryz.func168, Tryz.ntmps168
  go_wp2_with fail
  go_region
  all_goals
    go_wp2_with fail
    go_end0
    exact ⟨rfl, W.drew, (Kp.refl _ _).drew, rfl⟩

/-- A step that writes a file. -/
theorem step_file {P : Nat → Prop} {N : Nat} (w0 w : World) (s : Nat) (p : PS) (b : Nat) (f' : Fl) (hk0 : Kp No w0 w) (h : Sys P N w0 s p) (hN : N + 1 ≤ 1000) (fn : FuncId) (caps : Array Value) (ent : ∀ args w, (callFunc fn args).run Tryz.prog w = .ok (.enter fn args) w)
    (hc : ∀ W vs vf vc u, Kp (· = s) w W → Rp P (PInv (N + 1)) W s (tick p) vs vf vc u → Calls Tryz.prog fn caps W fun e w' => e = .returned (.tuple #[]) ∧ Sys (Ext P W w') (N + 1) w' s (setF b f' (tick p)) ∧ Kp P W w') :
    Calls Tryz.prog 130 #[.pointer (some ⟨s, 0, none⟩), .func (.func fn) #[] caps] w fun e w' => e = .returned (.int .i64 ((stp p (setF b f')).1 : Nat)) ∧ Done P (N + 1) w0 w' s (stp p (setF b f')).2 := by
  have hps := h.c.1
  cases hd : dead p with
  | true =>
    have e1 : stp p (setF b f') = (12, fall p) := by simp [stp, hd]
    rw [e1]
    refine (step_dead w s p (h.kept hk0) hd _).mono ?_
    rintro e w' ⟨rfl, hS, hk⟩
    exact ⟨rfl, P, hS.more (by omega) hN, (hk0.mono (fun _ h => h.elim)).trans hk (fun x hx => .inl (by subst hx; exact hps)), fun _ h => .inl h⟩
  | false =>
    have e1 : stp p (setF b f') = (0, setF b f' (tick p)) := by simp [stp, hd]
    rw [e1]
    refine step_live w s p (h.kept hk0) hd hN fn caps ent _ ?_
    rintro W kW ⟨vs, vf, vc, u, hR⟩
    refine (hc W vs vf vc u kW hR).mono ?_
    rintro e w' ⟨rfl, hS, hk⟩
    have kw : Kp P w0 W := (hk0.mono (fun _ h => h.elim)).trans kW (fun x hx => .inl (by subst hx; exact hps))
    refine ⟨rfl, _, hS, kw.trans hk (fun x hx => .inl hx), fun x hx => ?_⟩
    rcases hx with hx | hx
    · exact .inl hx
    · exact .inr (Nat.le_trans kw.size hx.1)

/-- The place of a box behind what a step has written. -/
theorem boxed {s : Nat} {w1 W : World} {v : Value} {t : TypeId} (hs : s < w1.heap.size) (k : Kp (· = s) (w1.alloc (.cells #[v] t)) W) : W.cell? ⟨w1.heap.size, 0, none⟩ = some v := by
  have := (Blk.new w1 t [v]).kp k (fun e => by omega)
  exact this.cell 0

set_option maxHeartbeats 1000000 in
theorem fsync_any {P : Nat → Prop} {N : Nat} (w : World) (s : Nat) (p : PS) (t : ByteArray) (ht : t.size ≤ 20000000) (h : Sys P N w s p) (hN : N + 1 ≤ 1000) :
    Calls Tryz.prog 123 #[.pointer (some ⟨s, 0, none⟩), .string t] w fun e w' => e = .returned (.int .i64 ((pFsync (nm t) p).1 : Nat)) ∧ Done P (N + 1) w w' s (pFsync (nm t) p).2 := by
  have HC := hid (find_any w s p t ht h)
  have hI := h.inv
  have H := hid h
  have hmk := hmf
  have hsl := h.c.2.1
  by_cases h0 : finds p (nm t) = 0
  · obtain ⟨b, hb⟩ := found_zero hI h0
    obtain ⟨_, hd, _⟩ := pBytes_of hb
    have hf := hI.hasFound hd
    have e1 : pFsync (nm t) p = stp p (setF b ⟨(fileAt p b).b, (fileAt p b).b.length⟩) := by simp [pFsync, h0, blockOf, hd]
    have HST : Hid (∀ w1, Kp No w w1 → Calls Tryz.prog 130 #[.pointer (some ⟨s, 0, none⟩), .func (.func 168) #[] #[.pointer (some ⟨w1.heap.size, 0, none⟩)]] (w1.alloc (.cells #[.pointer (some ⟨b, 0, none⟩)] 131)) fun e w' =>
        e = .returned (.int .i64 ((pFsync (nm t) p).1 : Nat)) ∧ Done P (N + 1) w w' s (pFsync (nm t) p).2) := by
      intro w1 hk
      rw [e1]
      refine step_file w _ s p b _ (hk.alloc _) h hN 168 _ (enters_of Tryz.func168 (by kernel_rfl) rfl) ?_
      intro W vs vf vc u kW hR
      obtain ⟨hPb, hFb, hPu⟩ := hR.file b _ hf
      obtain ⟨a, cap, hv, hle, _⟩ := hFb.own.shape
      have hblk := hFb.blk
      rw [hv] at hblk
      refine (fsync1_any W w1.heap.size b a _ cap _ (boxed (Nat.lt_of_lt_of_le hsl hk.size) kW) hblk).mono ?_
      rintro e w' ⟨rfl, W1, k1, rfl⟩
      have kK : Kp (fun k => k = b ∨ (u b).ownBlock = some k) W (W1.setCell ⟨b, 1, none⟩ (.int .i64 ((fileAt p b).b.length : Int))) := (k1.mono (fun _ h => h.elim)).setCell (p := ⟨b, 1, none⟩) (.inl (.inl rfl)) _
      have hS := rp_setF (f' := ⟨(fileAt p b).b, (fileAt p b).b.length⟩) (v' := u b) hR hf kK ?_ (fun k hk => .inl hk) (inv_setF hR.inv (show (fileAt p b).b.length ≤ 12000 * (N + 1) from hR.inv.lfile b (fileAt p b) hf))
      · exact ⟨rfl, hS.1, hS.2⟩
      · refine ⟨(hFb.blk.kp k1 (fun h => h)).setCell 1 _, ?_, hFb.byt, Nat.le_refl _⟩
        exact (hFb.own.kept k1).row.kp (Kp.set1 W1 b 1 _) (fun k hk e => hFb.own.row.ne hFb.blk (by decide) (by rw [hk, e]))
    rw [h0, hb] at HC
    have e0 : ptrV (some b) = .pointer (some ⟨b, 0, none⟩) := rfl
    rw [e0] at HC
    generalize pFsync (nm t) p = R at *
    clear e1 e0 hd hb h0 hI h hf
    go_enter Tryz.func123, Tryz.ntmps123
    go_wp2_with (first | (go_at_call 54; refine (HC.out).mono ?_; rintro e w1 ⟨rfl, h1⟩; have H1 := hid h1; clear h1) | (go_at_call 130; refine (HST.out w1 H1.out).mono ?_; rintro e w2 ⟨rfl, h2⟩; have H2 := hid h2; clear h2))
    go_ret
    exact ⟨rfl, H2.out⟩
  · have e1 : pFsync (nm t) p = (finds p (nm t), p) := by simp [pFsync, h0]
    have hn : foundP p (nm t) = none := by simp [foundP, h0]
    rw [e1]
    rw [hn] at HC
    have e0 : ptrV none = .pointer none := rfl
    rw [e0] at HC
    generalize finds p (nm t) = x at *
    have hne : ((x : Int) != 0) = true := by simp; omega
    clear e1 e0 hn h0 hI h
    go_enter Tryz.func123, Tryz.ntmps123
    go_wp2_with (go_at_call 54; refine (HC.out).mono ?_; rintro e w1 ⟨rfl, h1⟩; have H1 := hid h1; clear h1)
    go_ret
    exact ⟨rfl, (Done.of (H.out.more (by omega) hN) (Kp.refl _ _)).kept (H1.out.alloc _)⟩

/-! ### Append -/
set_option maxHeartbeats 4000000 in
theorem append1_any {Q : Nat → Prop} (W : World) (x y b : Nat) (v vb : Value) (bs ys : List Nat) (m : Nat) (hx : Blk W x 131 [.pointer (some ⟨b, 0, none⟩)]) (hy : Blk W y 54 [vb]) (hb : Blk W b 135 [v, .int .i64 (m : Int)]) (hv : OwnB W v bs) (hvb : ByP Q W vb ys) (hl : bs.length + ys.length ≤ 20000000) :
    Calls Tryz.prog 167 #[.pointer (some ⟨x, 0, none⟩), .pointer (some ⟨y, 0, none⟩)] W fun e w' => e = .returned (.tuple #[]) ∧ ∃ a' cap' W1, OwnB W1 (.slice a' (bs.length + ys.length) cap') (bs ++ ys) ∧ Kp (fun k => v.ownBlock = some k) W W1 ∧ ((Value.slice a' (bs.length + ys.length) cap').ownBlock = v.ownBlock ∨ (Value.slice a' (bs.length + ys.length) cap').ownBlock = some W.heap.size) ∧
      w' = W1.setCell ⟨b, 0, none⟩ (.slice a' (bs.length + ys.length) cap') := by
  have b0 : W.cell? ⟨x, 0, none⟩ = some (.pointer (some ⟨b, 0, none⟩)) := hx.cell 0
  have y0 : W.cell? ⟨y, 0, none⟩ = some vb := hy.cell 0
  have c0 : W.cell? ⟨b, 0, none⟩ = some v := hb.cell 0
  have f0 := hb.frozen 0
  have hxl := hx.lt
  have hyl := hy.lt
  have hbl := hb.lt
  have HOV := hid hv
  have HSR := hid hvb.src
  have hvx : Hid (v.ownBlock ≠ some x ∧ v.ownBlock ≠ some b) := ⟨hv.row.ne hx (by decide), hv.row.ne hb (by decide)⟩
  obtain ⟨a, cap, rfl, _⟩ := hv.shape
  obtain ⟨a1, cap1, rfl, _⟩ := hvb
  clear hx hy hb
  go_enter Tryz.func167, Tryz.ntmps167
  go_wp2_with fail
  go_region_law (refine step_app _ (by rfl) (.tmp 6) (.tmp 7) 54 5 (.int .u8 0) 1 1 (by rfl) Tryz.underlying54 Tryz.info5 rfl (by decide) (.slice a bs.length cap) (.slice a1 ys.length cap1) bs.length ys.length (cl bs) (cl ys) (by simp [Act.eval]) (by simp [Act.eval]) HOV.out.row HSR.out (by omega) (by decide) ?_; intro a2 cap2 w2 hr2 hg2 hb2; have HR2 := hid hr2; have HG2 := hid hg2; have HB2 := hid hb2; have z0 : w2.cell? ⟨b, 0, none⟩ = some (.slice a bs.length cap) := hg2.cell c0 (fun e => hvx.out.2 e.symm); have zf : w2.frozen? ⟨b, 0, none⟩ = false := ((Kp.ofGrown hg2).frozen (p := ⟨b, 0, none⟩) hbl (fun e => hvx.out.2 e)).trans f0; have zx : w2.cell? ⟨x, 0, none⟩ = some (.pointer (some ⟨b, 0, none⟩)) := hg2.cell b0 (fun e => hvx.out.1 e.symm); clear hr2 hg2 hb2)
  all_goals
    go_end0
    refine ⟨rfl, a2, cap2, w2, ?_, (Kp.refl _ _).drew.grown HG2.out (fun x hx => .inl hx), HB2.out, rfl⟩
    unfold OwnB
    rw [cl_append, List.length_append]
    exact HR2.out

theorem append_nil (t : ByteArray) (a : Option Addr) (n cap : Nat) (w : World) : Calls Tryz.prog 121 #[.pointer none, .string t, .slice a n cap] w fun e w' => e = .returned (.int .i64 18) ∧ Kp No w w' := by
  go_enter Tryz.func121, Tryz.ntmps121
  go_wp2_with (go_at_call 54; refine (find_nil t _).mono ?_; rintro e w1 ⟨rfl, h1⟩; have H1 : Hid (Kp No w w1) := ((Kp.refl _ _).alloc _).andNone h1; clear h1)
  go_ret
  exact ⟨rfl, H1.out.alloc _⟩

theorem used_le {N : Nat} {p : PS} (hI : PInv N p) : used p ≤ 1000 * 12000000 := by
  have h := sumBy_le (fun b => (fileAt p b).b.length) 12000000 (fun _ => false) p.seen (fun e he => by
    obtain ⟨f, hf⟩ := Option.isSome_iff_exists.1 (hI.hasSeen e he).1
    have := hI.lfile _ f hf
    have := hI.big
    simp only [fileAt, hf, Option.getD_some]
    omega)
  rw [sumBy_end _ _ _ (fun _ => rfl)] at h
  exact Nat.le_trans h (Nat.mul_le_mul_right _ (Nat.le_trans hI.lseen hI.big))

set_option maxHeartbeats 2000000 in
theorem append_any {P Q : Nat → Prop} {N : Nat} (w : World) (s : Nat) (p : PS) (t : ByteArray) (vb : Value) (ys : List Nat) (ht : t.size ≤ 20000000) (h : Sys P N w s p) (hN : N + 1 ≤ 1000) (hy : ByP Q w vb ys) (hQ : ∀ x, Q x → ¬ P x) (hl : ys.length ≤ 12000) :
    Calls Tryz.prog 121 #[.pointer (some ⟨s, 0, none⟩), .string t, vb] w fun e w' => e = .returned (.int .i64 ((pAppend (nm t) ys p).1 : Nat)) ∧ Done P (N + 1) w w' s (pAppend (nm t) ys p).2 := by
  have hI := h.inv
  have H := hid h
  have hmk := hmf
  have hsl := h.c.2.1
  have hps := h.c.1
  have hul := used_le hI
  have hrl := hI.room
  have HY := hid hy
  have HQ := hid hQ
  obtain ⟨a, cap, rfl, hy1, hy2, _⟩ := hy
  have hc0 : Hid (∀ V, Kp No w V → V.cell? ⟨s, 0, none⟩ = some (.int .i64 (p.room : Int))) := fun V k => by
    obtain ⟨vs, vf, vc, u, hR⟩ := h
    exact (k.cell (p := ⟨s, 0, none⟩) hsl (fun h => h)).trans (hR.c 0)
  have HC : Hid (Calls Tryz.prog 54 #[.pointer (some ⟨s, 0, none⟩), .string t] (w.alloc (.cells #[.slice a ys.length cap] 54)) fun e w' => e = .returned (.tuple #[ptrV (foundP p (nm t)), .int .i64 (finds p (nm t) : Nat)]) ∧ Kp No (w.alloc (.cells #[.slice a ys.length cap] 54)) w') := find_any _ s p t ht (h.kept ((Kp.refl _ _).alloc _))
  have HU : Hid (∀ V, Kp No w V → Calls Tryz.prog 166 #[.pointer (some ⟨s, 0, none⟩)] V fun e w' => e = .returned (.int .i64 (used p : Nat)) ∧ Kp No V w') := fun V k => used_any V s p (h.kept k)
  by_cases h0 : finds p (nm t) = 0
  · obtain ⟨b, hb⟩ := found_zero hI h0
    obtain ⟨_, hd, _⟩ := pBytes_of hb
    have hf := hI.hasFound hd
    rw [h0, hb] at HC
    have e0 : ptrV (some b) = .pointer (some ⟨b, 0, none⟩) := rfl
    rw [e0] at HC
    have HST : Hid (used p + ys.length ≤ p.room → ∀ w1, Kp No (w.alloc (.cells #[.slice a ys.length cap] 54)) w1 → ∀ W0, Kp No (w1.alloc (.cells #[.pointer (some ⟨b, 0, none⟩)] 131)) W0 → Calls Tryz.prog 130 #[.pointer (some ⟨s, 0, none⟩), .func (.func 167) #[] #[.pointer (some ⟨w1.heap.size, 0, none⟩), .pointer (some ⟨w.heap.size, 0, none⟩)]] W0 fun e w' =>
        e = .returned (.int .i64 ((pAppend (nm t) ys p).1 : Nat)) ∧ Done P (N + 1) w w' s (pAppend (nm t) ys p).2) := by
      intro hroom w1 hk1 W0 hk0
      have e1 : pAppend (nm t) ys p = stp p (setF b ⟨(fileAt p b).b ++ ys, (fileAt p b).safe⟩) := by
        have : ¬ (used p + ys.length > p.room) := by omega
        simp [pAppend, h0, blockOf, hd, this]
      rw [e1]
      have kA : Kp No w w1 := ((Kp.refl _ _).alloc _).andNone hk1
      have kB : Kp No w W0 := (kA.alloc _).andNone hk0
      have hz : w.heap.size < w1.heap.size := by have := hk1.size; simp at this; omega
      refine step_file w W0 s p b _ kB h hN 167 _ (enters_of Tryz.func167 (by kernel_rfl) rfl) ?_
      intro W vs vf vc u kW hR
      obtain ⟨hPb, hFb, hPu⟩ := hR.file b _ hf
      have hx : Blk W w1.heap.size 131 [.pointer (some ⟨b, 0, none⟩)] := ((Blk.new w1 131 [.pointer (some ⟨b, 0, none⟩)]).kp hk0 (fun h => h)).kp kW (fun e => by omega)
      have hyb : Blk W w.heap.size 54 [.slice a ys.length cap] := ((((Blk.new w 54 [.slice a ys.length cap]).kp hk1 (fun h => h)).kp (L := No) ((Kp.refl _ _).alloc _) (fun h => h)).kp hk0 (fun h => h)).kp kW (fun e => by omega)
      have hby : ByP Q W (.slice a ys.length cap) ys := (HY.out.kept kB).kp kW (fun x hx _ hq => HQ.out x hq (by subst hx; exact hps))
      have hfl : (fileAt p b).b.length ≤ 12000 * N := hI.lfile b _ hf
      have hbig := hI.big
      refine (append1_any W w1.heap.size w.heap.size b (u b) _ (fileAt p b).b ys _ hx hyb hFb.blk hFb.own hby (by omega)).mono ?_
      rintro e w' ⟨rfl, a', cap', W1, ho, k1, hbl, rfl⟩
      have kK : Kp (fun k => k = b ∨ (u b).ownBlock = some k) W (W1.setCell ⟨b, 0, none⟩ (.slice a' ((fileAt p b).b.length + ys.length) cap')) := (k1.mono (fun x hx => .inl (.inr hx))).setCell (p := ⟨b, 0, none⟩) (.inl (.inl rfl)) _
      have hbn : (u b).ownBlock ≠ some b := hFb.own.row.ne hFb.blk (by decide)
      have hB1 := hFb.blk.kp k1 (fun e => hbn e)
      have hS := rp_setF (f' := ⟨(fileAt p b).b ++ ys, (fileAt p b).safe⟩) (v' := .slice a' ((fileAt p b).b.length + ys.length) cap') hR hf kK ?_ (fun k hk => ?_) (inv_setF hR.inv (by simp; omega))
      · exact ⟨rfl, hS.1, hS.2⟩
      · refine ⟨hB1.setCell 0 _, ?_, fun x hx => ?_, by have := hFb.le; simp; omega⟩
        · exact ho.row.kp (Kp.set1 W1 b 0 _) (fun k hk e => ho.row.ne hB1 (by decide) (by rw [hk, e]))
        · rcases List.mem_append.1 hx with hx | hx
          · exact hFb.byt x hx
          · obtain ⟨_, _, _, _, _, _, _, h6, _⟩ := hby
            exact h6 x hx
      · rcases hbl with h1 | h1
        · rw [h1] at hk; exact .inl hk
        · rw [h1] at hk; simp at hk; exact .inr (by omega)
    have hbx : Hid (∀ V, Kp No (w.alloc (.cells #[.slice a ys.length cap] 54)) V → V.cell? ⟨w.heap.size, 0, none⟩ = some (.slice a ys.length cap)) := fun V k => ((Blk.new w 54 [.slice a ys.length cap]).kp k (fun h => h)).cell 0
    have hS0 : Hid (Kp No w (w.alloc (.cells #[.slice a ys.length cap] 54))) := (Kp.refl _ _).alloc _
    have e1 : used p + ys.length > p.room → pAppend (nm t) ys p = (11, p) := fun hr => by simp [pAppend, h0, hr]
    have HE := hid e1
    generalize pAppend (nm t) ys p = R at *
    clear e1 e0 hd hb h0 hI h hf
    generalize used p = U at *
    go_enter Tryz.func121, Tryz.ntmps121
    go_wp2_with (go_at_call 54; refine (HC.out).mono ?_; rintro e w1 ⟨rfl, h1⟩; have H1 := hid h1; clear h1)
    have kW : Hid (Kp No (w.alloc (.cells #[.slice a ys.length cap] 54)) (w1.alloc (.cells #[.pointer (some ⟨b, 0, none⟩)] 131))) := H1.out.alloc _
    have kWw : Hid (Kp No w (w1.alloc (.cells #[.pointer (some ⟨b, 0, none⟩)] 131))) := hS0.out.andNone kW.out
    have HST1 : Hid (U + ys.length ≤ p.room → ∀ W0, Kp No (w1.alloc (.cells #[.pointer (some ⟨b, 0, none⟩)] 131)) W0 → Calls Tryz.prog 130 #[.pointer (some ⟨s, 0, none⟩), .func (.func 167) #[] #[.pointer (some ⟨w1.heap.size, 0, none⟩), .pointer (some ⟨w.heap.size, 0, none⟩)]] W0 fun e w' =>
        e = .returned (.int .i64 (R.1 : Nat)) ∧ Done P (N + 1) w w' s R.2) := fun hr => HST.out hr w1 H1.out
    generalize hWx : w1.alloc (.cells #[.pointer (some ⟨b, 0, none⟩)] 131) = Wx at *
    clear hWx
    have r0 : ∀ V, Kp No Wx V → V.cell? ⟨w.heap.size, 0, none⟩ = some (.slice a ys.length cap) := fun V k => hbx.out V (kW.out.andNone k)
    have r1 : ∀ V, Kp No Wx V → V.cell? ⟨s, 0, none⟩ = some (.int .i64 (p.room : Int)) := fun V k => hc0.out V (kWw.out.andNone k)
    have hwr : IntKind.i64.wrap ((p.room : Int) - (U : Int)) = (p.room : Int) - (U : Int) := by rw [IntKind.wrap_i64]; omega
    by_cases hroom : U + ys.length ≤ p.room
    · have hle : ¬ ((p.room : Int) - (U : Int) < (ys.length : Int)) := by omega
      go_region_held3 (fun V => Kp No Wx V) (first | (with_reducible exact Kp.refl _ _) | (with_reducible exact (Kp.refl _ _).drew) | (with_reducible exact HK1.out)) (first | (go_at_call 166; refine (HU.out _ ?_).mono ?_; (with_reducible exact kWw.out.drew); rintro e w2 ⟨rfl, hk1⟩; have HK1 : Hid (Kp No Wx w2) := (Kp.refl _ _).drew.andNone hk1; clear hk1))
      go_wp2_with (go_at_call 130; refine (HST1.out hroom w2 HK1.out).mono ?_; rintro e w3 ⟨rfl, h3⟩; have H3 := hid h3; clear h3)
      go_ret
      exact ⟨rfl, H3.out⟩
    · have hgt : (p.room : Int) - (U : Int) < (ys.length : Int) := by omega
      have hR := HE.out (by omega)
      subst hR
      go_region_held3 (fun V => Kp No Wx V) (first | (with_reducible exact Kp.refl _ _) | (with_reducible exact (Kp.refl _ _).drew) | (with_reducible exact HK1.out)) (first | (go_at_call 166; refine (HU.out _ ?_).mono ?_; (with_reducible exact kWw.out.drew); rintro e w2 ⟨rfl, hk1⟩; have HK1 : Hid (Kp No Wx w2) := (Kp.refl _ _).drew.andNone hk1; clear hk1))
      go_wp2
      go_ret
      exact ⟨rfl, (Done.of (H.out.more (by omega) hN) (Kp.refl _ _)).kept (kWw.out.andNone HK1.out)⟩
  · have e1 : pAppend (nm t) ys p = (finds p (nm t), p) := by simp [pAppend, h0]
    have hn : foundP p (nm t) = none := by simp [foundP, h0]
    rw [e1]
    rw [hn] at HC
    have e0 : ptrV none = .pointer none := rfl
    rw [e0] at HC
    generalize finds p (nm t) = x at *
    have hne : ((x : Int) != 0) = true := by simp; omega
    clear e1 e0 hn h0 hI h
    go_enter Tryz.func121, Tryz.ntmps121
    go_wp2_with (go_at_call 54; refine (HC.out).mono ?_; rintro e w1 ⟨rfl, h1⟩; have H1 : Hid (Kp No w w1) := ((Kp.refl _ _).alloc _).andNone h1; clear h1)
    go_ret
    exact ⟨rfl, (Done.of (H.out.more (by omega) hN) (Kp.refl _ _)).kept (H1.out.alloc _)⟩

end Go.Proofs.YthmimipoooemjaaGreatDoor.Sim
end

section
/-
  Flip; settle, SyncDir, Arm, New.
-/
namespace Go.Proofs.YthmimipoooemjaaGreatDoor.Sim
open Go.RowKit Go.Maps
theorem OwnB.set {w : World} {g n cap : Nat} {xs : List Nat} (h : OwnB w (.slice (some ⟨g, 0, none⟩) n cap) xs) (k y : Nat) : OwnB (w.setCell ⟨g, k, none⟩ (.int .u8 (y : Int))) (.slice (some ⟨g, 0, none⟩) n cap) (xs.set k y) := by
  have hcl : cl (xs.set k y) = (cl xs).set k (.int .u8 (y : Int)) := by simp [cl, List.map_set]
  rcases h.row.2 with ⟨e, _⟩ | ⟨g', cap', cur, e, hb, hh, h1, h2, h3, h4⟩
  · cases e
  · cases e
    refine ⟨by simp [cl], .inr ⟨g, cap, cur.setIfInBounds k (.int .u8 (y : Int)), by simp, hb, ?_, by simpa using h1, h2, by simpa using h3, ?_⟩⟩
    · simp [World.setCell, Array.getElem?_modify, hh]
    · rw [hcl, Array.toList_setIfInBounds, List.length_set]
      rw [← h4, ← List.take_set]

/-! ### settle -/
set_option maxHeartbeats 2000000 in
/-- settle, told by what it does to the blocks. -/
theorem settle_raw {P : Nat → Prop} {I : PS → Prop} (W : World) (s : Nat) (q : PS) (vs vc : Value) (mo : Option Nat) (u : Nat → Value) (n : Nat) (h : Rp P I W s q vs (.map mo) vc u) (hn : n ≤ q.chg.length) (hok : okcs q.safe q.chg) (hnm : ∀ c ∈ q.chg, c.nm.length ≤ 40 ∧ c.to.length ≤ 40) (hl : q.safe.length ≤ 1000) (hc : q.chg.length ≤ 1000) (hnm2 : q.made = false → q.chg = [] ∧ q.safe = []) :
    Calls Tryz.prog 61 #[.pointer (some ⟨s, 0, none⟩), .int .i64 (n : Int)] W fun e w' => e = .returned (.tuple #[]) ∧ ∃ W1, MapV W1 (.map mo) ((q.chg.take n).foldl pdo q.safe) ∧ Kp (fun k => mo = some k) W W1 ∧ w' = W1.setCell ⟨s, 3, none⟩ (.slice none 0 0) := by
  have hsl := h.lt s h.ps
  have c2 : W.cell? ⟨s, 2, none⟩ = some (.map mo) := h.c 2
  have c3 : W.cell? ⟨s, 3, none⟩ = some vc := h.c 3
  have f3 := h.blk.frozen 3
  obtain ⟨a, cap, hv, hle, hcap, hnil, hsp⟩ := h.chg.shape
  have hch : ChAt W (.slice a n cap) (q.chg.take n) := by
    have := h.chg.chAt (by omega)
    rw [hv] at this
    exact this.front n hn
  subst hv
  have hsm : ∀ k, mo = some k → s ≠ k := fun k e => by
    rcases h.safe with ⟨h1, _⟩ | ⟨b, h1, h2⟩
    · rw [e] at h1; cases h1
    · rw [e] at h1; cases h1; exact Ne.symm (h2.blk h.blk)
  have HD : Hid (Calls Tryz.prog 102 #[.map mo, .slice a n cap] W.drew fun e w' => e = .returned (.tuple #[]) ∧ MapV w' (.map mo) ((q.chg.take n).foldl pdo q.safe) ∧ Kp (fun k => mo = some k) W w') := by
    rcases h.safe with ⟨h1, h2⟩ | ⟨b, h1, h2⟩
    · have hq : q.chg = [] := by
        cases hm : q.made with
        | false => exact (hnm2 hm).1
        | true => obtain ⟨a, b, _, hb, _⟩ := h.mades hm; rw [h1] at hb; cases hb
      rw [hq] at hch ⊢
      refine (do_none (.map mo) W.drew _ (show ChAt W _ [] by simpa using hch)).mono ?_
      rintro e w' ⟨rfl, rfl⟩
      exact ⟨rfl, .inl ⟨h1, by simpa using h2⟩, (Kp.refl _ _).drew⟩
    · cases h1
      have hok' : okcs q.safe (q.chg.take n) := by
        have := hok
        rw [← List.take_append_drop n q.chg, okcs_append] at this
        exact this.1
      refine (do_any W.drew b q.safe _ (q.chg.take n) (h2.kp (L := No) (Kp.refl _ _).drew (fun h => h)) (by
        obtain ⟨a', cap', e, r1, r2, r3, r4⟩ := hch
        exact ⟨a', cap', e, r1, r2, r3, r4⟩) hok' (fun c hc' => by have := hnm c (List.mem_of_mem_take hc'); omega) (by have := List.length_take_le n q.chg; omega)).mono ?_
      rintro e w' ⟨rfl, r1, r2⟩
      exact ⟨rfl, .inr ⟨b, rfl, r1⟩, ((Kp.refl _ _).drew).trans r2 (fun x hx => .inl (by rw [hx]))⟩
  have HSM := hid hsm
  have hnc : (n : Int) ≤ (cap : Int) := by omega
  clear h hok hnm hnm2 hch hsm hsp hnil
  have hnq : n ≤ cap := by omega
  go_enter Tryz.func61, Tryz.ntmps61
  go_wp2_with fail
  have r2 : ∀ V, Kp (fun k => mo = some k) W V → V.cell? ⟨s, 2, none⟩ = some (.map mo) := fun V k => (k.cell (p := ⟨s, 2, none⟩) hsl (fun e => HSM.out s e rfl)).trans c2
  have r3 : ∀ V, Kp (fun k => mo = some k) W V → V.cell? ⟨s, 3, none⟩ = some (.slice a q.chg.length cap) := fun V k => (k.cell (p := ⟨s, 3, none⟩) hsl (fun e => HSM.out s e rfl)).trans c3
  have g3 : ∀ V, Kp (fun k => mo = some k) W V → V.frozen? ⟨s, 3, none⟩ = false := fun V k => (k.frozen (p := ⟨s, 3, none⟩) hsl (fun e => HSM.out s e rfl)).trans f3
  go_region_held3 (fun V => Kp (fun k => mo = some k) W V) (first | (with_reducible exact Kp.refl _ _) | (with_reducible exact (Kp.refl _ _).drew) | (with_reducible exact HK1.out)) (first | (go_at_call 102; refine (HD.out).mono ?_; rintro e w1 ⟨rfl, hm1, hk1⟩; have HM1 := hid hm1; have HK1 := hid hk1; clear hm1 hk1))
  have z3 := r3 _ HK1.out
  have y3 := g3 _ HK1.out
  clear r2 r3 g3
  go_wp2
  go_end0
  exact ⟨rfl, w1, HM1.out, HK1.out, rfl⟩

end Go.Proofs.YthmimipoooemjaaGreatDoor.Sim
end

section
/-
  SyncDir, Arm, New.
-/
namespace Go.Proofs.YthmimipoooemjaaGreatDoor.Sim
open Go.RowKit Go.Maps

theorem rq_settle {P : Nat → Prop} {I J : PS → Prop} {W W1 w' : World} {s : Nat} {q : PS} {vs vc : Value} {mo : Option Nat} {u : Nat → Value} {d : Dir} (h : Rp P I W s q vs (.map mo) vc u) (hm : MapV W1 (.map mo) d) (hk : Kp (fun k => mo = some k) W W1)
    (hw : w' = W1.setCell ⟨s, 3, none⟩ (.slice none 0 0)) (hi : J { q with safe := d, chg := [] }) : Rp P J w' s { q with safe := d, chg := [] } vs (.map mo) (.slice none 0 0) u ∧ Kp P W w' := by
  have hmP : ∀ k, mo = some k → P k := fun k e => h.mapS.2 k (by rw [e])
  have hmA : ∀ k, mo = some k → MapAt W k q.safe := fun k e => by
    rcases h.safe with ⟨h1, _⟩ | ⟨b, h1, h2⟩
    · rw [e] at h1; cases h1
    · rw [e] at h1; cases h1; exact h2
  have nb : ∀ x t cs, Blk W x t cs → ¬ (mo = some x) := fun x t cs hx e => (hmA x e).blk hx rfl
  have nr : ∀ {e : TypeId} {sz n : Nat} {v : Value} {xs : List Value}, Row W e sz v n xs → ∀ x, v.ownBlock = some x → ¬ (mo = some x) := fun hrow x hx e => (hmA x e).row hrow hx
  have hs1 := h.blk.kp hk (nb s _ _ h.blk)
  have kset : Kp (· = s) W1 w' := by rw [hw]; exact Kp.set1 _ _ _ _
  have K : Kp (fun k => k = s ∨ mo = some k) W w' := (hk.mono (fun x hx => .inl (.inr hx))).trans kset (fun x hx => .inl (.inl hx))
  refine ⟨?_, K.mono (fun x hx => by
    rcases hx with rfl | hx
    · exact .inl h.ps
    · exact .inl (hmP x hx))⟩
  exact {
    lt := fun x hx => Nat.lt_of_lt_of_le (h.lt x hx) K.size
    ps := h.ps
    blk := by rw [hw]; exact hs1.setCell 3 (.slice none 0 0)
    seen := by
      rcases h.seen with ⟨h1, h2⟩ | ⟨b, h1, h2⟩
      · exact .inl ⟨h1, h2⟩
      · refine .inr ⟨b, h1, h2.kp K (fun e => ?_)⟩
        rcases e with e | e
        · exact h2.blk h.blk e
        · have hmade : q.made = true := by
            cases hmd : q.made with
            | true => rfl
            | false => have := (h.unmade hmd).1; rw [h1] at this; cases this
          obtain ⟨a, c, ha, hc, hac, _⟩ := h.mades hmade
          rw [h1] at ha
          cases ha
          rw [e] at hc
          cases hc
          exact hac rfl
    safe := by
      rcases hm with ⟨h1, h2⟩ | ⟨b, h1, h2⟩
      · exact .inl ⟨h1, h2⟩
      · exact .inr ⟨b, h1, h2.kp kset (h2.blk hs1)⟩
    unmade := h.unmade
    mades := h.mades
    chg := Row.nil _ _ _
    pc := by simp [Value.ownBlock]
    file := fun b f hf => by
      obtain ⟨h1, h2, h3⟩ := h.file b f hf
      refine ⟨h1, h2.kp K (fun e => ?_) (fun x hx e => ?_), h3⟩
      · rcases e with e | e
        · exact h2.blk.ne h.blk (by decide) e
        · exact nb b _ _ h2.blk e
      · rcases e with e | e
        · exact h2.own.row.ne h.blk (by decide) (by rw [hx, e])
        · exact nr h2.own.row x hx e
    sep := h.sep
    inv := hi }

/-! ### No file stands twice -/
def vals (d : Dir) : List Nat := d.map (·.2)
def mades (l : List PC) : List Nat := (l.filter (fun c => c.kind == 0)).map (·.file)
theorem perm_dins (x : Nm × Nat) : ∀ l : Dir, (dins x l).Perm (x :: l)
  | [] => List.Perm.refl _
  | y :: r => by
    unfold dins
    split
    · exact List.Perm.refl _
    · exact ((perm_dins x r).cons y).trans (List.Perm.swap x y r)
theorem nodup_del {d : Dir} {n : Nm} {l : List Nat} (h : (vals d ++ l).Nodup) : (vals (ddel d n) ++ l).Nodup := by
  refine h.sublist (List.Sublist.append ?_ (List.Sublist.refl _))
  exact List.Sublist.map _ List.filter_sublist
theorem nodup_put {d : Dir} {n : Nm} {f : Nat} {l : List Nat} (h : (vals d ++ (f :: l)).Nodup) : (vals (dput d n f) ++ l).Nodup := by
  have h1 := nodup_del (n := n) h
  have h2 : (vals (dput d n f)).Perm (f :: vals (ddel d n)) := (perm_dins (n, f) (ddel d n)).map _
  refine ((h2.append_right l).nodup_iff).2 ?_
  have h3 : (vals (ddel d n) ++ (f :: l)).Perm (f :: vals (ddel d n) ++ l) := List.perm_middle
  exact h3.nodup_iff.1 h1
theorem vals_moved {d : Dir} (hk : (d.map (·.1)).Nodup) {n : Nm} {b : Nat} (h : dfind d n = some b) : (vals d).Perm (b :: vals (ddel d n)) := by
  have hm := mem_of_dfind h
  have : d.Perm ((n, b) :: ddel d n) := by
    induction d with
    | nil => simp at hm
    | cons x r ih =>
      rw [List.map_cons, List.nodup_cons] at hk
      by_cases e : x.1 = n
      · have hx : x = (n, b) := by
          rcases List.mem_cons.1 hm with h1 | h1
          · exact h1.symm
          · exact absurd (List.mem_map.2 ⟨_, h1, e.symm⟩) hk.1
        have hr : ddel r n = r := by
          unfold ddel
          rw [List.filter_eq_self]
          intro y hy
          have : y.1 ≠ n := fun e' => hk.1 (List.mem_map.2 ⟨y, hy, by rw [e', e]⟩)
          simpa using this
        have hd : ddel (x :: r) n = ddel r n := by unfold ddel; rw [List.filter_cons]; simp [e]
        rw [hd, hr, hx]
      · have hd : ddel (x :: r) n = x :: ddel r n := by unfold ddel; rw [List.filter_cons]; simp [e]
        rw [hd]
        have hm' : (n, b) ∈ r := by
          rcases List.mem_cons.1 hm with h1 | h1
          · exact absurd (by rw [← h1]) e
          · exact h1
        have hf : dfind r n = some b := dfind_of_mem hk.2 hm'
        exact ((ih hk.2 hf hm').cons x).trans (List.Perm.swap (n, b) x _)
  exact this.map _
theorem nodup_pdo {d : Dir} {c : PC} {l : List PC} (hr : Ris d) (hok : okc d c) (h : (vals d ++ mades (c :: l)).Nodup) : (vals (pdo d c) ++ mades l).Nodup := by
  unfold pdo
  split
  · rename_i hk
    have e : mades (c :: l) = c.file :: mades l := by simp [mades, hk]
    rw [e] at h
    exact nodup_put h
  · rename_i hk0
    have e : mades (c :: l) = mades l := by simp [mades, hk0]
    rw [e] at h
    split
    · exact nodup_del h
    · rename_i hk1
      have hk : c.kind = 2 := by have := hok.1; omega
      obtain ⟨b, hb⟩ := Option.isSome_iff_exists.1 (hok.2 hk)
      rw [hb]
      have hp := vals_moved hr.nodup hb
      refine nodup_put ?_
      have h3 : (vals (ddel d c.nm) ++ (b :: mades l)).Perm (vals d ++ mades l) := List.perm_middle.trans (hp.symm.append_right _)
      exact h3.nodup_iff.2 h
theorem nodup_fold : ∀ (l m : List PC) (d : Dir), Ris d → okcs d l → (vals d ++ mades (l ++ m)).Nodup → (vals (l.foldl pdo d) ++ mades m).Nodup
  | [], _, _, _, _, h => h
  | c :: r, m, d, hr, hok, h => nodup_fold r m (pdo d c) (hr.pdo c) hok.2 (nodup_pdo hr hok.1 h)
/-- All changes are settled. -/
theorem inv_settle {N : Nat} {p : PS} (h : PInv N p) (hr : Ris p.safe) : PInv N { p with safe := p.chg.foldl pdo p.safe, chg := [] } :=
  { h with
    seen_eq := h.seen_eq
    okc := trivial
    has := fun e he => ((h.seen_eq ▸ h.hasSeen) e he).1
    hasC := fun c hc => by simp at hc
    nodup := by
      have := nodup_fold p.chg [] p.safe hr h.okc (by simpa [vals, mades] using h.nodup)
      simpa [vals, mades] using this
    nmS := fun e he => ((h.seen_eq ▸ h.hasSeen) e he).2
    nmC := fun c hc => by simp at hc
    nmade := fun e => by obtain ⟨h1, h2⟩ := h.nmade e; exact ⟨rfl, by rw [h1, h2]; rfl⟩
    lsum := by have := h.lsum; have := length_fold p.chg p.safe; show (p.chg.foldl pdo p.safe).length + 0 ≤ N; omega }
theorem MapV.ris {w : World} {v : Value} {l : Dir} (h : MapV w v l) : Ris l := by
  rcases h with ⟨_, rfl⟩ | ⟨b, _, h⟩
  · exact List.Pairwise.nil
  · exact h.ris
theorem MapV.shape {w : World} {v : Value} {l : Dir} (h : MapV w v l) : ∃ mo, v = .map mo := by
  rcases h with ⟨h1, _⟩ | ⟨b, h1, _⟩
  · exact ⟨_, h1⟩
  · exact ⟨_, h1⟩

set_option maxHeartbeats 1000000 in
theorem syncdir1_any (W : World) (x s n : Nat) (vc : Value) (hx : W.cell? ⟨x, 0, none⟩ = some (.pointer (some ⟨s, 0, none⟩))) (h3 : W.cell? ⟨s, 3, none⟩ = some vc) (hv : ∃ a cap, vc = .slice a n cap) (T : World → Prop)
    (hC : ∀ V, Kp No W V → Calls Tryz.prog 61 #[.pointer (some ⟨s, 0, none⟩), .int .i64 (n : Int)] V fun e w' => e = .returned (.tuple #[]) ∧ T w') :
    Calls Tryz.prog 138 #[.pointer (some ⟨x, 0, none⟩)] W fun e w' => e = .returned (.tuple #[]) ∧ T w' := by
  obtain ⟨a, cap, rfl⟩ := hv
  have HC : Hid (Calls Tryz.prog 61 #[.pointer (some ⟨s, 0, none⟩), .int .i64 (n : Int)] W.drew fun e w' => e = .returned (.tuple #[]) ∧ T w') := hC _ (Kp.refl _ _).drew
  clear hC
  go_enter Tryz.func138, Tryz.ntmps138
  go_wp2_with fail
  go_region_with (go_at_call 61; refine (HC.out).mono ?_; rintro e w1 ⟨rfl, h1⟩; have H1 := hid h1; clear h1)
  all_goals
    go_wp2
    go_end0
    exact ⟨rfl, H1.out⟩

set_option maxHeartbeats 1000000 in
theorem syncdir_any {P : Nat → Prop} {N : Nat} (w : World) (s : Nat) (p : PS) (h : Sys P N w s p) (hN : N + 1 ≤ 1000) :
    Calls Tryz.prog 86 #[.pointer (some ⟨s, 0, none⟩)] w fun e w' => e = .returned (.int .i64 ((pSyncDir p).1 : Nat)) ∧ Done P (N + 1) w w' s (pSyncDir p).2 := by
  obtain ⟨hps, hsl, q4, _⟩ := h.c
  have hI := h.inv
  have H := hid h
  have hmk := hmf
  have HC : Hid (Calls Tryz.prog 60 #[.pointer (some ⟨s, 0, none⟩), .slice none 0 0] (w.alloc (.cells #[.pointer (some ⟨s, 0, none⟩)] 25)) fun e w' => e = .returned (.int .i64 (wrongs p [] : Nat)) ∧ Kp No (w.alloc (.cells #[.pointer (some ⟨s, 0, none⟩)] 25)) w') := by
    refine (wrong_any s _ [] p.down _ ?_ (NsAt.none _)).mono ?_
    · exact (((Kp.refl No w).alloc _).cell (p := ⟨s, 4, none⟩) hsl (fun h => h.elim)).trans q4
    · rintro e w' ⟨rfl, hk⟩
      exact ⟨rfl, hk⟩
  have hbx : Hid (∀ V, Kp No (w.alloc (.cells #[.pointer (some ⟨s, 0, none⟩)] 25)) V → V.cell? ⟨w.heap.size, 0, none⟩ = some (.pointer (some ⟨s, 0, none⟩))) := fun V k => ((Blk.new w 25 [.pointer (some ⟨s, 0, none⟩)]).kp k (fun h => h)).cell 0
  have q0 := hbx.out _ (Kp.refl _ _)
  have ka : Hid (Kp No w (w.alloc (.cells #[.pointer (some ⟨s, 0, none⟩)] 25))) := (Kp.refl _ _).alloc _
  by_cases hw : wrongs p [] = 0
  · have e1 : pSyncDir p = stp p (settle p.chg.length) := by simp [pSyncDir, hw]
    have HST : Hid (∀ w1, Kp No (w.alloc (.cells #[.pointer (some ⟨s, 0, none⟩)] 25)) w1 → Calls Tryz.prog 130 #[.pointer (some ⟨s, 0, none⟩), .func (.func 138) #[] #[.pointer (some ⟨w.heap.size, 0, none⟩)]] w1 fun e w' =>
        e = .returned (.int .i64 ((pSyncDir p).1 : Nat)) ∧ Done P (N + 1) w w' s (pSyncDir p).2) := by
      intro w1 hk
      have k0 := ka.out.andNone hk
      rw [e1]
      cases hd : dead p with
      | true =>
        have e2 : stp p (settle p.chg.length) = (12, fall p) := by simp [stp, hd]
        rw [e2]
        refine (step_dead w1 s p (h.kept k0) hd _).mono ?_
        rintro e w' ⟨rfl, hS, hk2⟩
        exact ⟨rfl, P, hS.more (by omega) hN, (k0.mono (fun _ h => h.elim)).trans hk2 (fun x hx => .inl (by subst hx; exact hps)), fun _ h => .inl h⟩
      | false =>
        have e2 : stp p (settle p.chg.length) = (0, settle p.chg.length (tick p)) := by simp [stp, hd]
        rw [e2]
        refine step_live w1 s p (h.kept k0) hd hN 138 _ (enters_of Tryz.func138 (by kernel_rfl) rfl) _ ?_
        rintro W kW ⟨vs, vf, vc, u, hR⟩
        obtain ⟨mo, rfl⟩ := hR.safe.shape
        obtain ⟨a, cap, hv, _⟩ := hR.chg.shape
        have hxW : W.cell? ⟨w.heap.size, 0, none⟩ = some (.pointer (some ⟨s, 0, none⟩)) := (kW.cell (p := ⟨w.heap.size, 0, none⟩) (by show w.heap.size < w1.heap.size; have := hk.size; simp at this; omega) (by show ¬ (w.heap.size = s); omega)).trans (hbx.out w1 hk)
        have kw : Kp P w W := (k0.mono (fun _ h => h.elim)).trans kW (fun x hx => .inl (by subst hx; exact hps))
        refine syncdir1_any W w.heap.size s p.chg.length vc hxW (hR.c 3) ⟨a, cap, hv⟩ _ ?_
        intro V kV
        have hRV := hR.kp kV (fun _ h => h.elim)
        have hIT := hRV.inv
        have hbig := hIT.big
        refine (settle_raw V s (tick p) vs vc mo u p.chg.length hRV (Nat.le_refl _) hIT.okc hIT.nmC (by have := hIT.lsafe; omega) (by have := hIT.lchg; omega) hIT.nmade).mono ?_
        rintro e w' ⟨rfl, W1, hm1, hk1, hw1⟩
        have htk : (tick p).chg.take p.chg.length = p.chg := List.take_of_length_le (Nat.le_refl _)
        rw [htk] at hm1
        obtain ⟨hS, hK⟩ := rq_settle (J := PInv (N + 1)) hRV hm1 hk1 hw1 (inv_settle hIT hRV.safe.ris)
        have hst : settle p.chg.length (tick p) = { (tick p) with safe := p.chg.foldl pdo p.safe, chg := [] } := by
          show ({ (tick p) with safe := (p.chg.take p.chg.length).foldl pdo p.safe, chg := [] } : PS) = _
          rw [List.take_of_length_le (Nat.le_refl _)]
        rw [hst]
        exact ⟨rfl, P, ⟨vs, _, _, u, hS⟩, (kw.andNone kV).trans hK (fun x hx => .inl hx), fun _ h => .inl h⟩
    rw [hw] at HC
    generalize pSyncDir p = R at *
    clear e1 hw hI h q4
    go_enter Tryz.func86, Tryz.ntmps86
    go_wp2_with (first | (go_at_call 60; refine (HC.out).mono ?_; rintro e w1 ⟨rfl, h1⟩; have H1 := hid h1; have q1 := hbx.out w1 h1; clear h1) | (go_at_call 130; refine (HST.out w1 H1.out).mono ?_; rintro e w2 ⟨rfl, h2⟩; have H2 := hid h2; clear h2))
    go_ret
    exact ⟨rfl, H2.out⟩
  · have e1 : pSyncDir p = (wrongs p [], p) := by simp [pSyncDir, hw]
    rw [e1]
    generalize wrongs p [] = x at *
    have hne : ((x : Int) != 0) = true := by simp; omega
    clear e1 hw hI h q4
    go_enter Tryz.func86, Tryz.ntmps86
    go_wp2_with (go_at_call 60; refine (HC.out).mono ?_; rintro e w1 ⟨rfl, h1⟩; have H1 := hid h1; clear h1)
    go_ret
    exact ⟨rfl, (Done.of (H.out.more (by omega) hN) (Kp.refl _ _)).kept (ka.out.andNone H1.out)⟩

/-! ### New -/
def newPS (room : Nat) : PS := ⟨room, false, [], [], [], false, false, 0, 0, fun _ => none⟩
theorem inv_new (room : Nat) (h : room ≤ 99000) : PInv 0 (newPS room) where
  seen_eq := rfl
  okc := trivial
  has := fun e he => by simp [newPS] at he
  hasC := fun c hc => by simp [newPS] at hc
  nodup := by simp [newPS]
  nmS := fun e he => by simp [newPS] at he
  nmC := fun c hc => by simp [newPS] at hc
  nmade := fun _ => ⟨rfl, rfl⟩
  room := h
  left := Nat.zero_le _
  steps := Nat.le_refl _
  lsum := Nat.le_refl _
  lfile := fun b f hf => by cases hf
  big := by decide
theorem new_yes (n : Nat) (h : n ≤ 99000) (w : World) : Calls Tryz.prog 10 #[.int .i64 (n : Int)] w fun e w' => e = .returned (.tuple #[.pointer (some ⟨w.heap.size, 0, none⟩), .int .i64 0]) ∧ Sys (· = w.heap.size) 0 w' w.heap.size (newPS n) ∧ Kp No w w' := by
  have h1 : ¬ (n : Int) < 0 := by omega
  have h2 : ¬ (99000 : Int) < n := by omega
  go_enter Tryz.func10, Tryz.ntmps10
  go_wp2
  go_ret2
  refine ⟨rfl, ⟨.map none, .map none, .slice none 0 0, fun _ => .slice none 0 0, ?_⟩, (Kp.refl _ _).alloc _⟩
  exact {
    lt := fun x hx => by subst hx; simp
    ps := rfl
    blk := Blk.new w 109 [.int .i64 (n : Int), .map none, .map none, .slice none 0 0, .bool false, .bool false, .int .i64 0, .int .i64 0]
    seen := .inl ⟨rfl, rfl⟩
    safe := .inl ⟨rfl, rfl⟩
    unmade := fun _ => ⟨rfl, rfl⟩
    mades := fun e => by cases e
    chg := Row.nil _ _ _
    pc := by simp [Value.ownBlock]
    file := fun b f hf => by cases hf
    sep := fun b b' f f' hf => by cases hf
    inv := inv_new n h }

end Go.Proofs.YthmimipoooemjaaGreatDoor.Sim
end

section
/-
  A pack's names.
-/
namespace Go.Proofs.YthmimipoooemjaaGreatDoor
open Go.RowKit Go.Shelf
open Sim (hid)

def idB (z : Int) : Bool := decide (1 ≤ z) && decide (z ≤ 999999)
/-- Is it an id? -/
theorem isID_any (z : Int) (w : World) : Calls Tryz.prog 93 #[.int .i64 z] w fun e w' => e = .returned (.bool (idB z)) ∧ w' = w := by
  by_cases h1 : 1 ≤ z
  · by_cases h2 : z ≤ 999999
    · go_enter Tryz.func93, Tryz.ntmps93
      go_wp2
      go_ret
      exact ⟨by simp [idB, h1, h2], rfl⟩
    · have h2' : 999999 < z := by omega
      go_enter Tryz.func93, Tryz.ntmps93
      go_wp2
      go_ret
      exact ⟨by simp [idB, h1, h2], rfl⟩
  · have h1' : z < 1 := by omega
    go_enter Tryz.func93, Tryz.ntmps93
    go_wp2
    go_ret
    exact ⟨by rw [idB, decide_eq_false (show ¬ 1 ≤ z by omega), Bool.false_and]; rfl, rfl⟩

/-- A name of that sort. -/
def sortB (p : ByteArray) (i : Nat) : ByteArray := p ++ ⟨(Lib.decDigits i).toArray⟩

theorem dec_small (i : Nat) (h : i < 100) : (Lib.decDigits i).length ≤ 2 := by
  by_cases h1 : i < 10
  · rw [Lib.decDigits_one h1]; simp
  · rw [Lib.decDigits_two h1 h]; simp
theorem name_small (p : ByteArray) (hp : p.size ≤ 100) (i : Nat) (h1 : 1 ≤ i) (h2 : i < 100) (w : World) :
    Calls Tryz.prog 55 #[.string p, .int .i64 (i : Int)] w fun e w' => e = .returned (.string (sortB p i)) ∧ w' = w := by
  have hid1 : idB (i : Int) = true := by simp [idB]; omega
  have hd := dec_small i h2
  have hsz : ¬ 9223372036854775807 < p.size + (Lib.decDigits i).length := by omega
  go_enter Tryz.func55, Tryz.ntmps55
  go_wp2_with (first
    | (go_at_call 93; refine (isID_any _ _).mono ?_; rintro e w1 ⟨rfl, h⟩; subst w1; rw [hid1])
    | (go_at_call 94; refine (Any.strconv_Itoa_small Sim.Tryz.itoaS i h2 _).mono ?_; rintro e w1 ⟨rfl, h⟩; subst w1))
  go_ret
  exact ⟨rfl, rfl⟩

def nameP (i : Nat) : ByteArray := sortB ⟨#[112, 97, 99, 107, 46]⟩ i
def nameT (i : Nat) : ByteArray := sortB ⟨#[116, 109, 112, 46]⟩ i

theorem ptemp_small (i : Nat) (h1 : 1 ≤ i) (h2 : i < 100) (w : World) : Calls Tryz.prog 92 #[.int .i64 (i : Int)] w fun e w' => e = .returned (.string (nameT i)) ∧ w' = w := by
  go_enter Tryz.func92, Tryz.ntmps92
  go_wp2_with (go_at_call 55; refine (name_small _ (by decide) i h1 h2 _).mono ?_; rintro e w1 ⟨rfl, h⟩; subst w1)
  go_ret
  exact ⟨rfl, rfl⟩

end Go.Proofs.YthmimipoooemjaaGreatDoor
end

section
/-
  Plain mathematics of the tlv statements: trees of values by their depth, what their form takes, and their form; no program is named here.
-/
namespace Go.Proofs.YthmimipoooemjaaGreatDoor.Tlv

/-- A value nested at most n deep: its tag, its number, its bytes; the values in it. -/
def Tr : Nat → Type
  | 0 => Empty
  | n + 1 => (Int × Int × List Int) × List (Tr n)

def Tr.hd : {n : Nat} → Tr n → Int × Int × List Int
  | 0, t => by cases t
  | _ + 1, t => t.1

def Tr.kd {n : Nat} (t : Tr (n + 1)) : List (Tr n) := t.2

def Tr.mk {n : Nat} (tag num : Int) (bs : List Int) (ks : List (Tr n)) : Tr (n + 1) := ((tag, num, bs), ks)

/-- How many bytes a number takes. -/
def nsz (x : Int) : Int := ((Lib.bitLen x.toNat : Int) + 7) / 8

theorem bitLen_le64 (x : Nat) : Lib.bitLen x ≤ 64 := by
  have h : ∀ f x, Lib.bitLenAux f x ≤ f := by
    intro f
    induction f with
    | zero => intro x; simp [Lib.bitLenAux]
    | succ f ih => intro x; simp only [Lib.bitLenAux]; split; omega; have := ih (x / 2); omega
  exact h 64 x

theorem nsz_bd (x : Int) : 0 ≤ nsz x ∧ nsz x ≤ 8 := by
  have := bitLen_le64 x.toNat
  unfold nsz
  omega

/-- The other fields are empty. -/
def oeB (tag num : Int) (lb lk : Nat) : Bool := (tag == 1 || num == 0) && (tag == 2 || (lb : Int) == 0) && (tag == 3 || (lk : Int) == 0)

/-- The room that a list's values take, behind one another, 'acc' of it taken already. -/
def lszGo {α : Type} (f : α → Int → Int → Int × Bool) (room deep : Int) : Int → List α → Int × Bool
  | acc, [] => (acc, true)
  | acc, k :: ks => if (f k (room - acc - 3) (deep - 1)).2 then lszGo f room deep (acc + (3 + (f k (room - acc - 3) (deep - 1)).1)) ks else (0, false)

def lsz {α : Type} (f : α → Int → Int → Int × Bool) (ks : List α) (room deep : Int) : Int × Bool :=
  if deep = 0 then (0, false) else lszGo f room deep 0 ks

/-- What is behind the first three bytes of a form: how many bytes, and whether the value is right. -/
def bsz : (n : Nat) → Tr n → Int → Int → Int × Bool
  | 0, t, _, _ => by cases t
  | n + 1, t, room, deep =>
    if room < 0 ∨ oeB t.hd.1 t.hd.2.1 t.hd.2.2.length t.kd.length = false then (0, false)
    else if t.hd.1 = 1 then (nsz t.hd.2.1, decide (nsz t.hd.2.1 ≤ room))
    else if t.hd.1 = 2 then ((t.hd.2.2.length : Int), decide ((t.hd.2.2.length : Int) ≤ room))
    else if t.hd.1 = 3 then lsz (bsz n) t.kd room deep
    else (0, false)

/-- 'f' tells a room only where there is one. -/
def Fits {α : Type} (f : α → Int → Int → Int × Bool) : Prop := ∀ t room deep, (f t room deep).2 = true → 0 ≤ (f t room deep).1 ∧ (f t room deep).1 ≤ room

theorem lszGo_bd {α : Type} {f : α → Int → Int → Int × Bool} (hf : Fits f) (room deep : Int) (ks : List α) : ∀ acc, 0 ≤ acc → acc ≤ room →
    (lszGo f room deep acc ks).2 = true → acc ≤ (lszGo f room deep acc ks).1 ∧ (lszGo f room deep acc ks).1 ≤ room := by
  induction ks with
  | nil => intro acc h0 h1 _; simp [lszGo]; omega
  | cons k ks ih =>
    intro acc h0 h1 h2
    simp only [lszGo] at h2 ⊢
    split at h2
    · rename_i hk
      rw [if_pos hk]
      have b := hf k _ _ hk
      have := ih _ (by omega) (by omega) h2
      omega
    · simp at h2

theorem bsz_fits : ∀ n, Fits (bsz n)
  | 0, t, _, _, _ => by cases t
  | n + 1, t, room, deep, h => by
    simp only [bsz] at h ⊢
    split at h
    · simp at h
    · rename_i h0
      rw [if_neg h0]
      split at h
      · rename_i h1; rw [if_pos h1]; have := nsz_bd t.hd.2.1; simp at h ⊢; omega
      · rename_i h1
        rw [if_neg h1]
        split at h
        · rename_i h2; rw [if_pos h2]; simp at h ⊢; omega
        · rename_i h2
          rw [if_neg h2]
          split at h
          · rename_i h3
            rw [if_pos h3]
            unfold lsz at h ⊢
            split at h
            · simp at h
            · rename_i h4
              rw [if_neg h4]
              exact lszGo_bd (bsz_fits n) room deep _ 0 (by omega) (by have := not_or.1 h0; omega) h
          · simp at h

end Go.Proofs.YthmimipoooemjaaGreatDoor.Tlv
end

section
/-
  How values of tlv lie in memory, and what the small functions of the program do: math/bits.Len64, numberSize, othersEmpty, bytes.Clone, Number, Bytes, the reference's Bytes.
-/
namespace Go.Proofs.YthmimipoooemjaaGreatDoor.Tlv
open Go.RowKit

theorem Tryz.info5 : (Tryz.prog.info? 5).map (fun i => (i.zero, i.size, i.bytes)) = some (some (.int .u8 0), 1, 1) := by kernel_rfl
theorem Tryz.info203 : (Tryz.prog.info? 203).map (fun i => (i.zero, i.size, i.bytes)) = some (some (.agg #[.int .i64 0, .int .u64 0, .slice none 0 0, .slice none 0 0]), 4, 64) := by kernel_rfl

theorem hid {p : Prop} (h : p) : Hid p := h

/-- Of the blocks from L on, below B, w' holds what w held. -/
def Agree (L B : Nat) (w w' : World) : Prop := ∀ k, L ≤ k → k < B → w'.heap[k]? = w.heap[k]?

theorem Agree.refl (L B : Nat) (w : World) : Agree L B w w := fun _ _ _ => rfl
theorem Agree.trans {L B : Nat} {a b c : World} (h : Agree L B a b) (k : Agree L B b c) : Agree L B a c := fun i h1 h2 => (k i h1 h2).trans (h i h1 h2)
theorem Agree.mono {L L' B B' : Nat} {w w' : World} (h : Agree L B w w') (hL : L ≤ L') (hB : B' ≤ B) : Agree L' B' w w' := fun k h1 h2 => h k (by omega) (by omega)
theorem Agree.below {L B : Nat} {w w' : World} (h : Below B w w') : Agree L B w w' := fun k _ h2 => h.block k h2
theorem Agree.alloc {L B : Nat} {a w : World} (h : Agree L B a w) (hB : B ≤ w.heap.size) (o : Obj) : Agree L B a (w.alloc o) := h.trans fun k _ h2 => Below.heap_alloc _ _ _ (by omega)
theorem Agree.setCell {L B : Nat} {a w : World} (h : Agree L B a w) {p : Addr} (hp : p.block < L ∨ B ≤ p.block) (u : Value) : Agree L B a (w.setCell p u) := h.trans fun k h1 h2 => Below.heap_setCell _ _ _ _ (by omega)
theorem Agree.drew {L B : Nat} {a w : World} (h : Agree L B a w) : Agree L B a w.drew := h
theorem Agree.cell {L B : Nat} {w w' : World} (h : Agree L B w w') {p : Addr} (h1 : L ≤ p.block) (h2 : p.block < B) : w'.cell? p = w.cell? p := World.cell?_of_block (w := w) (h p.block h1 h2)

/-- v is a slice of the bytes bs, in blocks from L on, below B. -/
def BySl (L B : Nat) (w : World) (v : Value) (bs : List Int) : Prop :=
  ∃ a cap, v = .slice a bs.length cap ∧ bs.length ≤ cap ∧ cap ≤ maxLen ∧ (a = none → bs = [] ∧ cap = 0) ∧ bs.length ≤ 140737488355328 ∧ (∀ x ∈ bs, 0 ≤ x ∧ x ≤ 255) ∧
    (bs ≠ [] → ∃ b o, a = some ⟨b, o, none⟩ ∧ L ≤ b ∧ b < B ∧ ∀ i, i < bs.length → w.cell? ⟨b, o + i, none⟩ = some (.int .u8 (bs.getD i 0)))

/-- v is a slice of the values ks, each as R says, in blocks from L on, below B. -/
def KSl {n : Nat} (L B : Nat) (w : World) (R : Tr n → Value → Value → Prop) (v : Value) (ks : List (Tr n)) : Prop :=
  ∃ a cap, v = .slice a ks.length cap ∧ ks.length ≤ cap ∧ cap ≤ maxLen ∧ (a = none → ks = [] ∧ cap = 0) ∧ ks.length ≤ 2199023255552 ∧
    (ks ≠ [] → ∃ b o, a = some ⟨b, o, none⟩ ∧ L ≤ b ∧ b < B ∧ ∀ j t, ks[j]? = some t → ∃ sb sk, w.cell? ⟨b, o + j * 4, none⟩ = some (.int .i64 t.hd.1) ∧ w.cell? ⟨b, o + j * 4 + 1, none⟩ = some (.int .u64 t.hd.2.1) ∧
      w.cell? ⟨b, o + j * 4 + 2, none⟩ = some sb ∧ w.cell? ⟨b, o + j * 4 + 3, none⟩ = some sk ∧ R t sb sk)

/-- The tree t lies in w, in blocks from L on, below B, its bytes behind sb, its values behind sk. -/
def Rep (L B : Nat) (w : World) : (n : Nat) → Tr n → Value → Value → Prop
  | 0, t, _, _ => by cases t
  | n + 1, t, sb, sk => 0 ≤ t.hd.2.1 ∧ t.hd.2.1 ≤ 18446744073709551615 ∧ BySl L B w sb t.hd.2.2 ∧ KSl L B w (Rep L B w n) sk t.kd

theorem BySl.agree {L B L' B' : Nat} {w w' : World} {v : Value} {bs : List Int} (h : BySl L B w v bs) (hb : Agree L B w w') (hL : L' ≤ L) (hB : B ≤ B') : BySl L' B' w' v bs := by
  obtain ⟨a, cap, h1, h2, h3, h4, h5, h6, h7⟩ := h
  refine ⟨a, cap, h1, h2, h3, h4, h5, h6, fun hne => ?_⟩
  obtain ⟨b, o, e, hL', hbB, hc⟩ := h7 hne
  exact ⟨b, o, e, by omega, by omega, fun i hi => (hb.cell (p := ⟨b, o + i, none⟩) hL' hbB).trans (hc i hi)⟩

theorem KSl.agree {n L B L' B' : Nat} {w w' : World} {R R' : Tr n → Value → Value → Prop} {v : Value} {ks : List (Tr n)} (h : KSl L B w R v ks) (hR : ∀ t sb sk, R t sb sk → R' t sb sk) (hb : Agree L B w w') (hL : L' ≤ L) (hB : B ≤ B') : KSl L' B' w' R' v ks := by
  obtain ⟨a, cap, h1, h2, h3, h4, h5, h7⟩ := h
  refine ⟨a, cap, h1, h2, h3, h4, h5, fun hne => ?_⟩
  obtain ⟨b, o, e, hLb, hbB, hc⟩ := h7 hne
  refine ⟨b, o, e, by omega, by omega, fun j t hj => ?_⟩
  obtain ⟨sb, sk, c0, c1, c2, c3, r⟩ := hc j t hj
  exact ⟨sb, sk, (hb.cell (p := ⟨b, _, none⟩) hLb hbB).trans c0, (hb.cell (p := ⟨b, _, none⟩) hLb hbB).trans c1, (hb.cell (p := ⟨b, _, none⟩) hLb hbB).trans c2, (hb.cell (p := ⟨b, _, none⟩) hLb hbB).trans c3, hR _ _ _ r⟩

theorem Rep.agree {L B L' B' : Nat} {w w' : World} (hb : Agree L B w w') (hL : L' ≤ L) (hB : B ≤ B') : ∀ {n : Nat} {t : Tr n} {sb sk : Value}, Rep L B w n t sb sk → Rep L' B' w' n t sb sk
  | 0, t, _, _, _ => by cases t
  | _ + 1, _, _, _, h => ⟨h.1, h.2.1, h.2.2.1.agree hb hL hB, h.2.2.2.agree (fun _ _ _ r => Rep.agree hb hL hB r) hb hL hB⟩

theorem Rep.sl {L B : Nat} {w : World} : ∀ {n : Nat} {t : Tr n} {sb sk : Value}, Rep L B w n t sb sk → ∃ a l c a' l' c', sb = .slice a l c ∧ sk = .slice a' l' c'
  | 0, t, _, _, _ => by cases t
  | _ + 1, _, _, _, h => by
    obtain ⟨_, _, ⟨_, _, rfl, _⟩, ⟨_, _, rfl, _⟩⟩ := h
    exact ⟨_, _, _, _, _, _, rfl, rfl⟩

/-- Out of a row of the call's own. -/
theorem BySl.own {base : Nat} {w : World} {v : Value} {bs : List Int} (h : w.ownsRow base 5 1 v bs.length (bs.map (Value.int .u8))) (hl : bs.length ≤ 140737488355328) (hx : ∀ x ∈ bs, 0 ≤ x ∧ x ≤ 255) : BySl base w.heap.size w v bs := by
  rcases h.2 with ⟨rfl, h0⟩ | ⟨g, cap, cur, rfl, hb, hg, hn, hc, hs, ht⟩
  · have : bs = [] := List.length_eq_zero_iff.1 h0
    subst this
    exact ⟨none, 0, rfl, Nat.le_refl _, Nat.zero_le _, fun _ => ⟨rfl, rfl⟩, by simp, by simp, fun h => absurd rfl h⟩
  · refine ⟨_, cap, rfl, hn, hc, by simp, hl, hx, fun _ => ⟨g, 0, rfl, hb, (Array.getElem?_eq_some_iff.1 hg).1, fun i hi => ?_⟩⟩
    rw [Nat.zero_add, h.cellAt i (by omega)]
    simp [List.getElem?_eq_getElem hi]

theorem BySl.none (L B : Nat) (w : World) : BySl L B w (.slice none 0 0) [] := ⟨_, 0, rfl, Nat.le_refl _, Nat.zero_le _, fun _ => ⟨rfl, rfl⟩, by simp, by simp, fun h => absurd rfl h⟩

theorem KSl.none {n : Nat} (L B : Nat) (w : World) (R : Tr n → Value → Value → Prop) : KSl L B w R (.slice none 0 0) [] := ⟨_, 0, rfl, Nat.le_refl _, Nat.zero_le _, fun _ => ⟨rfl, rfl⟩, by simp, fun h => absurd rfl h⟩

theorem bcell {W w1 : World} (hb : Below W.heap.size W w1) : (∀ b o, b < W.heap.size → w1.cell? ⟨b, o, none⟩ = W.cell? ⟨b, o, none⟩) ∧ (∀ b o, b < W.heap.size → w1.frozen? ⟨b, o, none⟩ = W.frozen? ⟨b, o, none⟩) :=
  ⟨fun b o h => hb.cell (p := ⟨b, o, none⟩) h, fun b o h => hb.frozen (p := ⟨b, o, none⟩) h⟩

theorem tab_size : Lib.len8tab.size = 256 := by decide +kernel
theorem tab_all : ∀ n : Fin 256, (Lib.len8tab[n.val]'(by rw [tab_size]; exact n.2)).toNat = Lib.bitLen n.val := by decide +kernel
theorem tab_at (n : Nat) (h : n < Lib.len8tab.size) : Lib.len8tab[n].toNat = Lib.bitLen n := tab_all ⟨n, by rw [tab_size] at h; exact h⟩
theorem tab_le (n : Nat) (h : n < 256) : Lib.bitLen n ≤ 8 := Lib.bitLen_le8 ⟨n, h⟩

/-- The last row of Len64: what the table holds, and the bits cut off ahead of it. -/
theorem len_close (x k i : Nat) (hk : 2 ^ k ≤ x ∨ k = 0) (hx : x < 2 ^ 64) (hi : i = x / 2 ^ k) (hl : i < 256) (h : i < Lib.len8tab.size) (hk2 : k ≤ 56) :
    wrap64 (k + wrap64 (Lib.len8tab[i].toNat : Nat)) = (Lib.bitLen x : Int) := by
  have l := tab_le i hl
  rw [tab_at i h]
  have e : Lib.bitLen x = k + Lib.bitLen i := by
    subst hi
    rcases hk with hk | rfl
    · exact Lib.bitLen_shift k x hk hx
    · simp
  rw [show wrap64 ((Lib.bitLen i : Nat) : Int) = (Lib.bitLen i : Int) from IntWalk.wrap64_in _ ⟨by omega, by omega⟩, IntWalk.wrap64_in _ ⟨by omega, by omega⟩, e]
  omega

set_option maxHeartbeats 4000000 in
set_option maxRecDepth 100000 in
theorem len64_any (x : Int) (w : World) (h0 : 0 ≤ x) (h1 : x ≤ 18446744073709551615) :
    Calls Tryz.prog 193 #[.int .u64 x] w fun e w' => e = .returned (.int .i64 (Lib.bitLen x.toNat)) ∧ w' = w := by
  have hts : (Lib.len8tab.size : Int) = 256 := by rw [tab_size]; rfl
  go_enter Tryz.func193, Tryz.ntmps193
  go_wp2
  all_goals (go_ret; refine ⟨congrArg Ending.returned (congrArg (Value.int IntKind.i64) ?_), rfl⟩)
  · exact len_close x.toNat 56 _ (.inl (by simp only [Nat.reducePow]; omega)) (by simp only [Nat.reducePow]; omega) (by simp only [Nat.reducePow]; omega) (by omega) _ (by omega)
  · exact len_close x.toNat 48 _ (.inl (by simp only [Nat.reducePow]; omega)) (by simp only [Nat.reducePow]; omega) (by simp only [Nat.reducePow]; omega) (by omega) _ (by omega)
  · exact len_close x.toNat 40 _ (.inl (by simp only [Nat.reducePow]; omega)) (by simp only [Nat.reducePow]; omega) (by simp only [Nat.reducePow]; omega) (by omega) _ (by omega)
  · exact len_close x.toNat 32 _ (.inl (by simp only [Nat.reducePow]; omega)) (by simp only [Nat.reducePow]; omega) (by simp only [Nat.reducePow]; omega) (by omega) _ (by omega)
  · exact len_close x.toNat 24 _ (.inl (by simp only [Nat.reducePow]; omega)) (by simp only [Nat.reducePow]; omega) (by simp only [Nat.reducePow]; omega) (by omega) _ (by omega)
  · exact len_close x.toNat 16 _ (.inl (by simp only [Nat.reducePow]; omega)) (by simp only [Nat.reducePow]; omega) (by simp only [Nat.reducePow]; omega) (by omega) _ (by omega)
  · exact len_close x.toNat 8 _ (.inl (by simp only [Nat.reducePow]; omega)) (by simp only [Nat.reducePow]; omega) (by simp only [Nat.reducePow]; omega) (by omega) _ (by omega)
  · have h := len_close x.toNat 0 x.toNat (.inr rfl) (by simp only [Nat.reducePow]; omega) (by simp) (by omega) (by rw [tab_size]; omega) (by omega)
    simpa using h

set_option maxHeartbeats 400000 in
theorem numberSize_any (x : Int) (w : World) (h0 : 0 ≤ x) (h1 : x ≤ 18446744073709551615) :
    Calls Tryz.prog 201 #[.int .u64 x] w fun e w' => e = .returned (.int .i64 (nsz x)) ∧ w' = w := by
  have hb := bitLen_le64 x.toNat
  go_enter Tryz.func201, Tryz.ntmps201
  go_wp2_with (go_at_call 193; refine (len64_any _ _ h0 h1).mono ?_; rintro e w' ⟨rfl, rfl⟩)
  go_ret
  exact ⟨rfl, rfl⟩

set_option maxHeartbeats 1000000 in
theorem othersEmpty_any (tag num : Int) (a a' : Option Addr) (lb cb lk ck : Nat) (w : World) :
    Calls Tryz.prog 200 #[.agg #[.int .i64 tag, .int .u64 num, .slice a lb cb, .slice a' lk ck]] w fun e w' => e = .returned (.bool (oeB tag num lb lk)) ∧ Below w.heap.size w w' := by
  go_enter Tryz.func200, Tryz.ntmps200
  go_wp2
  all_goals (go_ret; refine ⟨?_, (Below.refl _ _).alloc (Nat.le_refl _) _⟩; simp [oeB, *])

theorem Tryz.nilEq (w : World) (a : Option Addr) (n c n' c' : Nat) : (binOp .eql 54 (.slice a n c) (.slice none n' c')).run Tryz.prog w = .ok (.bool a.isNone) w :=
  Lib.run_eql_slice_nil w _ _ a n c n' c' Tryz.underlying54

set_option maxHeartbeats 1000000 in
theorem clone_bytes (v : Value) (bs : List Int) (w : World) (h : BySl 0 w.heap.size w v bs) :
    Calls Tryz.prog 126 #[v] w fun e w' => ∃ v', e = .returned v' ∧ BySl w.heap.size w'.heap.size w' v' bs ∧ Below w.heap.size w w' := by
  have q22 := Tryz.nilEq
  obtain ⟨a, cap, rfl, h2, h3, h4, h5, h6, h7⟩ := h
  cases a with
  | none =>
    obtain ⟨rfl, rfl⟩ := h4 rfl
    clear h7
    go_enter Tryz.func126, Tryz.ntmps126
    go_wp2
    go_ret
    exact ⟨_, rfl, BySl.none _ _ _, Below.refl _ _⟩
  | some ad =>
    obtain ⟨i0, hi, hz0, hz1, hz2⟩ := info_parts Tryz.info5
    have A : Hid (bs ≠ [] → ∃ b o, some ad = some ⟨b, o, none⟩ ∧ 0 ≤ b ∧ b < w.heap.size ∧ ∀ i, i < bs.length → w.cell? ⟨b, o + i, none⟩ = some (.int .u8 (bs.getD i 0))) := h7
    have A6 : Hid (∀ x ∈ bs, 0 ≤ x ∧ x ≤ 255) := h6
    clear h7 h6 h4
    go_enter Tryz.func126, Tryz.ntmps126
    go_wp2_with (at_builtin; refine wpList_append_own _ rfl _ _ 54 rfl w.heap.size 5 i0 (.int .u8 0) 1 1 Tryz.underlying54 hi hz0 hz1 hz2 rfl (by decide) _ _ _ rfl (World.ownsRow_made w #[] 0 (Nat.le_refl _) (Nat.zero_le _) rfl) ad bs.length cap (bs.map (Value.int .u8)) rfl ?qc1 ?qc2 ?qc3 ?qc4 ?qc5 ?qc6 ?_)
    case qc1 => simp
    case qc2 =>
      intro j u hj
      have hjn : j < bs.length := by
        have := (List.getElem?_eq_some_iff.1 hj).1
        simpa using this
      obtain ⟨b, o, e, _, hb, hc⟩ := A.out (by intro e; subst e; simp at hjn)
      simp only [Option.some.injEq] at e
      subst e
      have e2 : (⟨b, o, none⟩ : Addr).add j = ⟨b, o + j, none⟩ := by unfold Addr.add; split <;> simp_all
      rw [e2, World.cell?_alloc_lt _ _ _ hb, hc j hjn]
      simp only [List.getElem?_map, List.getElem?_eq_getElem hjn, Option.map_some, Option.some.injEq] at hj
      simp [List.getElem?_eq_getElem hjn, hj]
    case qc3 => intro u hu; obtain ⟨x, _, rfl⟩ := List.mem_map.1 hu; rfl
    case qc4 => unfold maxLen; omega
    case qc5 => omega
    case qc6 => simp
    intro v' w1 hown hgrow hnil
    go_wp2
    go_ret
    refine ⟨v', rfl, BySl.own (by simpa using hown) h5 A6.out, ?_⟩
    exact ((Below.refl _ w).alloc (Nat.le_refl _) _).grown hgrow (by simp) (by intro k hk; simp [Value.ownBlock] at hk; omega)

set_option maxHeartbeats 400000 in
theorem number_any (n : Int) (w : World) :
    Calls Tryz.prog 157 #[.int .u64 n] w fun e w' => e = .returned (.agg #[.int .i64 1, .int .u64 n, .slice none 0 0, .slice none 0 0]) ∧ Below w.heap.size w w' := by
  go_enter Tryz.func157, Tryz.ntmps157
  go_wp2
  exact bodyPost_ret (v := .agg #[.int .i64 1, .int .u64 n, .slice none 0 0, .slice none 0 0]) (by simp [results, Tryz.results157, go_sem]) rfl ⟨rfl, (Below.refl _ _).alloc (Nat.le_refl _) _⟩

end Go.Proofs.YthmimipoooemjaaGreatDoor.Tlv
end

section
/-
  What the small functions of tlv that make values do, and the reference's Bytes.
-/
namespace Go.Proofs.YthmimipoooemjaaGreatDoor.Tlv
open Go.RowKit

theorem Agree.set4 {L B b : Nat} (w : World) (hp : b < L ∨ B ≤ b) (u0 u1 u2 u3 : Value) {o0 o1 o2 o3 : Nat} : Agree L B w ((((w.setCell ⟨b, o0, none⟩ u0).setCell ⟨b, o1, none⟩ u1).setCell ⟨b, o2, none⟩ u2).setCell ⟨b, o3, none⟩ u3) :=
  ((((Agree.refl L B w).setCell hp _).setCell hp _).setCell hp _).setCell hp _

theorem bset4 {B b : Nat} {w : World} (hp : B ≤ b) (u0 u1 u2 u3 : Value) {o0 o1 o2 o3 : Nat} : Below B w ((((w.setCell ⟨b, o0, none⟩ u0).setCell ⟨b, o1, none⟩ u1).setCell ⟨b, o2, none⟩ u2).setCell ⟨b, o3, none⟩ u3) :=
  ((((Below.refl B w).setCell hp _).setCell hp _).setCell hp _).setCell hp _

set_option maxHeartbeats 400000 in
theorem bytes_any (v : Value) (bs : List Int) (w : World) (h : BySl 0 w.heap.size w v bs) :
    Calls Tryz.prog 158 #[v] w fun e w' => ∃ v', e = .returned (.agg #[.int .i64 2, .int .u64 0, v', .slice none 0 0]) ∧ BySl w.heap.size w'.heap.size w' v' bs ∧ Below w.heap.size w w' := by
  obtain ⟨a, cap, rfl, hr⟩ := id h
  clear hr
  have H : Hid (BySl 0 w.heap.size w (.slice a bs.length cap) bs) := h
  clear h
  go_enter Tryz.func158, Tryz.ntmps158
  go_wp2_with fail
  refine (clone_bytes _ bs _ (H.out.agree ((Agree.refl _ _ _).alloc (Nat.le_refl _) _) (Nat.le_refl _) (by simp))).mono ?_
  rintro e w1 ⟨v', rfl, hv, hb⟩
  obtain ⟨a', cap', rfl, hr'⟩ := id hv
  clear hr'
  have hz : w.heap.size < w1.heap.size := by have := hb.size; simp at this; omega
  have Hv := hid hv
  have Hb := hid hb
  obtain ⟨hc, hf⟩ := bcell hb
  clear hv hb
  go_wp2_with fail
  refine bodyPost_ret (v := .agg #[.int .i64 2, .int .u64 0, .slice a' bs.length cap', .slice none 0 0]) (by simp [results, Tryz.results158, go_sem, hc]) rfl ⟨_, rfl, ?_, ?_⟩
  · exact Hv.out.agree (Agree.set4 _ (.inl (by simp)) _ _ _ _) (by simp) (by simp)
  · exact (((Below.refl _ w).alloc (Nat.le_refl _) _).trans (Hb.out.mono (by simp))).trans (bset4 (Nat.le_refl _) _ _ _ _)

end Go.Proofs.YthmimipoooemjaaGreatDoor.Tlv
end

section
/-
  A slice of values that a call builds by append, one behind the other: how it lies in memory.
-/
namespace Go.Proofs.YthmimipoooemjaaGreatDoor.Tlv
open Go.RowKit

def cell4 {n : Nat} (t : Tr n) (p : Value × Value) : List Value := [.int .i64 t.hd.1, .int .u64 t.hd.2.1, p.1, p.2]

def cellsK {n : Nat} : List (Tr n) → List (Value × Value) → List Value
  | t :: ts, p :: ps => cell4 t p ++ cellsK ts ps
  | _, _ => []

theorem cellsK_snoc {n : Nat} (t : Tr n) (p : Value × Value) : ∀ (ts : List (Tr n)) (ps : List (Value × Value)), ps.length = ts.length → cellsK (ts ++ [t]) (ps ++ [p]) = cellsK ts ps ++ cell4 t p
  | [], [], _ => by simp [cellsK]
  | [], _ :: _, h => by simp at h
  | _ :: _, [], h => by simp at h
  | t' :: ts, p' :: ps, h => by
    simp only [List.cons_append, cellsK, List.append_assoc]
    rw [cellsK_snoc t p ts ps (by simpa using h)]

theorem cellsK_at {n : Nat} : ∀ (ts : List (Tr n)) (ps : List (Value × Value)) (j : Nat) (t : Tr n) (p : Value × Value) (r : Nat), ts[j]? = some t → ps[j]? = some p → r < 4 → (cellsK ts ps)[j * 4 + r]? = (cell4 t p)[r]?
  | [], _, _, _, _, _, h, _, _ => by simp at h
  | _ :: _, [], _, _, _, _, _, h, _ => by simp at h
  | t' :: ts, p' :: ps, 0, t, p, r, h1, h2, h3 => by
    simp only [List.getElem?_cons_zero, Option.some.injEq] at h1 h2
    subst h1 h2
    simp only [cellsK, Nat.zero_mul, Nat.zero_add]
    rw [List.getElem?_append_left (by simpa [cell4] using h3)]
  | t' :: ts, p' :: ps, j + 1, t, p, r, h1, h2, h3 => by
    simp only [List.getElem?_cons_succ] at h1 h2
    simp only [cellsK]
    rw [List.getElem?_append_right (by simp [cell4]; omega), ← cellsK_at ts ps j t p r h1 h2 h3]
    congr 1
    simp [cell4]
    omega

/-- v is a slice of the values ts that the call itself has built, in blocks from base on: its row, and where each value lies, which is none of the row. -/
def CInv {n : Nat} (base : Nat) (ts : List (Tr n)) (v : Value) (w : World) : Prop :=
  ∃ ps : List (Value × Value), ps.length = ts.length ∧ w.ownsRow base 203 4 v ts.length (cellsK ts ps) ∧
    ∀ (j : Nat) (t : Tr n) (p : Value × Value), ts[j]? = some t → ps[j]? = some p → ∃ L B, Rep L B w n t p.1 p.2 ∧ base ≤ L ∧ B ≤ w.heap.size ∧ (∀ r, v.ownBlock = some r → r < L ∨ B ≤ r)

theorem CInv.nil {n : Nat} (base : Nat) (w : World) : CInv base ([] : List (Tr n)) (.slice none 0 0) w := ⟨[], rfl, World.ownsRow_nil _ _ _ _, by simp⟩

theorem ownsRow_agree {w w' : World} {base e size n : Nat} {v : Value} {xs : List Value} (h : w.ownsRow base e size v n xs) (hA : Agree base w.heap.size w w') : w'.ownsRow base e size v n xs := by
  obtain ⟨h1, h2⟩ := h
  refine ⟨h1, ?_⟩
  rcases h2 with h2 | ⟨g, cap, cur, hv, hg, hh, r⟩
  · exact Or.inl h2
  · exact Or.inr ⟨g, cap, cur, hv, hg, by rw [hA g hg (Array.getElem?_eq_some_iff.1 hh).1]; exact hh, r⟩

theorem CInv.agree {n base : Nat} {ts : List (Tr n)} {v : Value} {w w' : World} (h : CInv base ts v w) (hA : Agree base w.heap.size w w') (hs : w.heap.size ≤ w'.heap.size) : CInv base ts v w' := by
  obtain ⟨ps, hl, hown, hk⟩ := h
  refine ⟨ps, hl, ownsRow_agree hown hA, fun j t p hj hp => ?_⟩
  obtain ⟨L, B, hr, hL, hB, hd⟩ := hk j t p hj hp
  exact ⟨L, B, hr.agree (hA.mono hL hB) (Nat.le_refl _) (Nat.le_refl _), hL, by omega, hd⟩

theorem CInv.lt {n base : Nat} {ts : List (Tr n)} {v : Value} {w : World} (h : CInv base ts v w) : ∀ r, v.ownBlock = some r → base ≤ r ∧ r < w.heap.size := by
  obtain ⟨ps, hl, hown, _⟩ := h
  exact hown.lt

theorem CInv.form {n base : Nat} {ts : List (Tr n)} {v : Value} {w : World} (h : CInv base ts v w) : ∃ a c, v = .slice a ts.length c := by
  obtain ⟨ps, hl, hown, _⟩ := h
  rcases hown.2 with ⟨rfl, h0⟩ | ⟨g, cap, cur, rfl, _⟩
  · exact ⟨_, _, by rw [h0]⟩
  · exact ⟨_, _, rfl⟩

/-- One value more, behind the append that lays it. -/
theorem CInv.push {n base g cap L B : Nat} {ts : List (Tr n)} {t : Tr n} {v sb sk : Value} {ps : List (Value × Value)} {w w' : World} (hl : ps.length = ts.length)
    (hk : ∀ (j : Nat) (t : Tr n) (p : Value × Value), ts[j]? = some t → ps[j]? = some p → ∃ L B, Rep L B w n t p.1 p.2 ∧ base ≤ L ∧ B ≤ w.heap.size ∧ (∀ r, v.ownBlock = some r → r < L ∨ B ≤ r))
    (hr : Rep L B w n t sb sk) (hL : base ≤ L) (hB : B ≤ w.heap.size) (hd : ∀ r, v.ownBlock = some r → r < L ∨ B ≤ r)
    (hown : w'.ownsRow base 203 4 (.slice (some ⟨g, 0, none⟩) (ts.length + 1) cap) (ts.length + 1) (cellsK ts ps ++ cell4 t (sb, sk))) (hgrow : w.grownBy w' v.ownBlock) (hat : v.ownBlock = some g ∨ g = w.heap.size) :
    CInv base (ts ++ [t]) (.slice (some ⟨g, 0, none⟩) (ts.length + 1) cap) w' := by
  have old : ∀ {L B : Nat} {t : Tr n} {sb sk : Value}, Rep L B w n t sb sk → base ≤ L → B ≤ w.heap.size → (∀ r, v.ownBlock = some r → r < L ∨ B ≤ r) →
      Rep L B w' n t sb sk ∧ base ≤ L ∧ B ≤ w'.heap.size ∧ (∀ r, (Value.slice (some ⟨g, 0, none⟩) (ts.length + 1) cap).ownBlock = some r → r < L ∨ B ≤ r) := by
    intro L B t sb sk hr hL hB hd
    refine ⟨hr.agree (fun k h1 h2 => hgrow.block k (by omega) (fun e => by have := hd k e.symm; omega)) (Nat.le_refl _) (Nat.le_refl _), hL, by have := hgrow.size; omega, ?_⟩
    intro r e
    simp only [Value.ownBlock, Option.some.injEq] at e
    subst e
    rcases hat with hat | hat
    · exact hd _ hat
    · omega
  refine ⟨ps ++ [(sb, sk)], by simp [hl], ?_, ?_⟩
  · rw [cellsK_snoc _ _ _ _ hl]
    simpa using hown
  · intro j t' p hj hp
    by_cases hlt : j < ts.length
    · rw [List.getElem?_append_left hlt] at hj
      rw [List.getElem?_append_left (by omega)] at hp
      obtain ⟨L', B', q⟩ := hk j t' p hj hp
      exact ⟨L', B', old q.1 q.2.1 q.2.2.1 q.2.2.2⟩
    · have : j = ts.length := by
        have := (List.getElem?_eq_some_iff.1 hj).1
        simp at this
        omega
      subst this
      rw [List.getElem?_append_right (Nat.le_refl _)] at hj
      rw [List.getElem?_append_right (by omega)] at hp
      simp [hl] at hj hp
      subst hj hp
      exact ⟨L, B, old hr hL hB hd⟩

theorem CInv.done {n base : Nat} {ts : List (Tr n)} {v : Value} {w : World} (h : CInv base ts v w) (hlen : ts.length ≤ 2199023255552) : KSl base w.heap.size w (Rep base w.heap.size w n) v ts := by
  obtain ⟨ps, hl, hown, hk⟩ := h
  rcases hown.2 with ⟨rfl, h0⟩ | ⟨g, cap, cur, rfl, hb, hg, hn, hc, hs, ht⟩
  · have : ts = [] := List.length_eq_zero_iff.1 h0
    subst this
    exact KSl.none _ _ _ _
  · refine ⟨_, cap, rfl, hn, hc, by simp, hlen, fun _ => ⟨g, 0, rfl, hb, (Array.getElem?_eq_some_iff.1 hg).1, fun j t hj => ?_⟩⟩
    have hjl := (List.getElem?_eq_some_iff.1 hj).1
    obtain ⟨p, hp⟩ : ∃ p, ps[j]? = some p := ⟨ps[j]'(by omega), List.getElem?_eq_getElem (by omega)⟩
    obtain ⟨L, B, hr, hL, hB, _⟩ := hk j t p hj hp
    have cc : ∀ r, r < 4 → w.cell? ⟨g, 0 + j * 4 + r, none⟩ = (cell4 t p)[r]? := fun r hr4 => by
      rw [Nat.zero_add, hown.cellAt (j * 4 + r) (by omega), cellsK_at ts ps j t p r hj hp hr4]
    exact ⟨p.1, p.2, cc 0 (by omega), cc 1 (by omega), cc 2 (by omega), cc 3 (by omega), hr.agree (Agree.refl _ _ _) hL hB⟩

end Go.Proofs.YthmimipoooemjaaGreatDoor.Tlv
end

section
/-
  How values lie in memory, told by whichever blocks they lie in: for values that share memory with others.
-/
namespace Go.Proofs.YthmimipoooemjaaGreatDoor.Tlv
open Go.RowKit

def BySlS (S : Nat → Prop) (w : World) (v : Value) (bs : List Int) : Prop :=
  ∃ a cap, v = .slice a bs.length cap ∧ bs.length ≤ cap ∧ cap ≤ maxLen ∧ (a = none → bs = [] ∧ cap = 0) ∧ bs.length ≤ 140737488355328 ∧ (∀ x ∈ bs, 0 ≤ x ∧ x ≤ 255) ∧
    (bs ≠ [] → ∃ b o, a = some ⟨b, o, none⟩ ∧ S b ∧ ∀ i, i < bs.length → w.cell? ⟨b, o + i, none⟩ = some (.int .u8 (bs.getD i 0)))

def KSlS {n : Nat} (S : Nat → Prop) (w : World) (R : Tr n → Value → Value → Prop) (v : Value) (ks : List (Tr n)) : Prop :=
  ∃ a cap, v = .slice a ks.length cap ∧ ks.length ≤ cap ∧ cap ≤ maxLen ∧ (a = none → ks = [] ∧ cap = 0) ∧ ks.length ≤ 2199023255552 ∧
    (ks ≠ [] → ∃ b o, a = some ⟨b, o, none⟩ ∧ S b ∧ ∀ j t, ks[j]? = some t → ∃ sb sk, w.cell? ⟨b, o + j * 4, none⟩ = some (.int .i64 t.hd.1) ∧ w.cell? ⟨b, o + j * 4 + 1, none⟩ = some (.int .u64 t.hd.2.1) ∧
      w.cell? ⟨b, o + j * 4 + 2, none⟩ = some sb ∧ w.cell? ⟨b, o + j * 4 + 3, none⟩ = some sk ∧ R t sb sk)

def RepS (S : Nat → Prop) (w : World) : (n : Nat) → Tr n → Value → Value → Prop
  | 0, t, _, _ => by cases t
  | n + 1, t, sb, sk => 0 ≤ t.hd.2.1 ∧ t.hd.2.1 ≤ 18446744073709551615 ∧ BySlS S w sb t.hd.2.2 ∧ KSlS S w (RepS S w n) sk t.kd

/-- Of the blocks of S, w' holds what w held. -/
def AgreeS (S : Nat → Prop) (w w' : World) : Prop := ∀ b, S b → w'.heap[b]? = w.heap[b]?

theorem AgreeS.cell {S : Nat → Prop} {w w' : World} (h : AgreeS S w w') {b o : Nat} (hb : S b) : w'.cell? ⟨b, o, none⟩ = w.cell? ⟨b, o, none⟩ := World.cell?_of_block (w := w) (h b hb)

theorem BySlS.agree {S S' : Nat → Prop} {w w' : World} {v : Value} {bs : List Int} (h : BySlS S w v bs) (hw : AgreeS S w w') (hS : ∀ b, S b → S' b) : BySlS S' w' v bs := by
  obtain ⟨a, cap, h1, h2, h3, h4, h5, h6, h7⟩ := h
  refine ⟨a, cap, h1, h2, h3, h4, h5, h6, fun hne => ?_⟩
  obtain ⟨b, o, e, hb, hc⟩ := h7 hne
  exact ⟨b, o, e, hS b hb, fun i hi => (hw.cell hb).trans (hc i hi)⟩

theorem KSlS.agree {n : Nat} {S S' : Nat → Prop} {w w' : World} {R R' : Tr n → Value → Value → Prop} {v : Value} {ks : List (Tr n)} (h : KSlS S w R v ks) (hR : ∀ t sb sk, R t sb sk → R' t sb sk) (hw : AgreeS S w w') (hS : ∀ b, S b → S' b) : KSlS S' w' R' v ks := by
  obtain ⟨a, cap, h1, h2, h3, h4, h5, h7⟩ := h
  refine ⟨a, cap, h1, h2, h3, h4, h5, fun hne => ?_⟩
  obtain ⟨b, o, e, hb, hc⟩ := h7 hne
  refine ⟨b, o, e, hS b hb, fun j t hj => ?_⟩
  obtain ⟨sb, sk, c0, c1, c2, c3, r⟩ := hc j t hj
  exact ⟨sb, sk, (hw.cell hb).trans c0, (hw.cell hb).trans c1, (hw.cell hb).trans c2, (hw.cell hb).trans c3, hR _ _ _ r⟩

theorem RepS.agree {S S' : Nat → Prop} {w w' : World} (hw : AgreeS S w w') (hS : ∀ b, S b → S' b) : ∀ {n : Nat} {t : Tr n} {sb sk : Value}, RepS S w n t sb sk → RepS S' w' n t sb sk
  | 0, t, _, _, _ => by cases t
  | _ + 1, _, _, _, h => ⟨h.1, h.2.1, h.2.2.1.agree hw hS, h.2.2.2.agree (fun _ _ _ r => RepS.agree hw hS r) hw hS⟩

theorem RepS.sl {S : Nat → Prop} {w : World} : ∀ {n : Nat} {t : Tr n} {sb sk : Value}, RepS S w n t sb sk → ∃ a l c a' l' c', sb = .slice a l c ∧ sk = .slice a' l' c'
  | 0, t, _, _, _ => by cases t
  | _ + 1, _, _, _, h => by
    obtain ⟨_, _, ⟨_, _, rfl, _⟩, ⟨_, _, rfl, _⟩⟩ := h
    exact ⟨_, _, _, _, _, _, rfl, rfl⟩

theorem BySl.toS {L B : Nat} {w : World} {v : Value} {bs : List Int} (h : BySl L B w v bs) : BySlS (fun b => L ≤ b ∧ b < B) w v bs := by
  obtain ⟨a, cap, h1, h2, h3, h4, h5, h6, h7⟩ := h
  refine ⟨a, cap, h1, h2, h3, h4, h5, h6, fun hne => ?_⟩
  obtain ⟨b, o, e, hL, hB, hc⟩ := h7 hne
  exact ⟨b, o, e, ⟨hL, hB⟩, hc⟩

theorem BySlS.to {S : Nat → Prop} {B : Nat} {w : World} {v : Value} {bs : List Int} (h : BySlS S w v bs) (hS : ∀ b, S b → b < B) : BySl 0 B w v bs := by
  obtain ⟨a, cap, h1, h2, h3, h4, h5, h6, h7⟩ := h
  refine ⟨a, cap, h1, h2, h3, h4, h5, h6, fun hne => ?_⟩
  obtain ⟨b, o, e, hb, hc⟩ := h7 hne
  exact ⟨b, o, e, Nat.zero_le _, hS b hb, hc⟩

theorem Rep.toS {L B : Nat} {w : World} : ∀ {n : Nat} {t : Tr n} {sb sk : Value}, Rep L B w n t sb sk → RepS (fun b => L ≤ b ∧ b < B) w n t sb sk
  | 0, t, _, _, _ => by cases t
  | n + 1, t, sb, sk, h => by
    obtain ⟨h0, h1, h2, a, cap, e1, e2, e3, e4, e5, e7⟩ := h
    refine ⟨h0, h1, h2.toS, a, cap, e1, e2, e3, e4, e5, fun hne => ?_⟩
    obtain ⟨b, o, e, hL, hB, hc⟩ := e7 hne
    refine ⟨b, o, e, ⟨hL, hB⟩, fun j t hj => ?_⟩
    obtain ⟨sb, sk, c0, c1, c2, c3, r⟩ := hc j t hj
    exact ⟨sb, sk, c0, c1, c2, c3, Rep.toS r⟩

theorem BySlS.none (S : Nat → Prop) (w : World) : BySlS S w (.slice none 0 0) [] := ⟨_, 0, rfl, Nat.le_refl _, Nat.zero_le _, fun _ => ⟨rfl, rfl⟩, by simp, by simp, fun h => absurd rfl h⟩

theorem KSlS.none {n : Nat} (S : Nat → Prop) (w : World) (R : Tr n → Value → Value → Prop) : KSlS S w R (.slice none 0 0) [] := ⟨_, 0, rfl, Nat.le_refl _, Nat.zero_le _, fun _ => ⟨rfl, rfl⟩, by simp, fun h => absurd rfl h⟩

end Go.Proofs.YthmimipoooemjaaGreatDoor.Tlv
end

section
/-
  Memory that a call leaves alone, told by blocks.
-/
namespace Go.Proofs.YthmimipoooemjaaGreatDoor.Tlv
open Go.RowKit
attribute [local go_sem ↓] Go.wp_at_zero Go.wp_at_succ

theorem AgreeS.below {S : Nat → Prop} {B : Nat} {w w' : World} (h : Below B w w') (hS : ∀ b, S b → b < B) : AgreeS S w w' := fun b hb => h.block b (hS b hb)

end Go.Proofs.YthmimipoooemjaaGreatDoor.Tlv
end
