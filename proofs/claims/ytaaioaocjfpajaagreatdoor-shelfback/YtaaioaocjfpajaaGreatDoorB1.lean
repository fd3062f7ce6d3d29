/- Of the proof: the texts SimPlain, SimMem, SimMap, SimName, SimRName, SimRep, SimLook, SimTell, one behind the other. -/
import Derived.Sort.KeysCollected
import Derived.Maps.Ext
import Derived.Test.YtaaioaocjfpajaaGreatDoorRows
import Derived.WalkKit
import Derived.WalkSpells
import Derived.WalkLawsBesides
import Derived.Laws.AppendOwnNone
import Derived.Laws.NewBlocks
import Derived.Laws.LoneSync
import Derived.RegionCalls
import Derived.Deep.QuietTactic
import Derived.BigQuiet
import Derived.Maps.AppendAt
import Derived.Maps.OwnSet
import Derived.OneCell
import Derived.Lib.AppendZerosOnto
import Derived.ProofKit
import Derived.Test.YtaaioaocjfpajaaGreatDoorSimShelf
import Derived.Maps.RangeWalk
import Derived.Sort.OwnSorted
import Derived.Lib.OthersKept
import Derived.Deep.LoopGhost
import Derived.Lib.TrimU
section
/-
  The files of the document as data: names, directories, changes, what each call makes of them.
-/
namespace Go.Proofs.YtaaioaocjfpajaaGreatDoor.Sim

abbrev Nm := List UInt8
/-- A file: its bytes, the first so many of which are safe. -/
structure Fl where
  b : List Nat
  safe : Nat
/-- A directory: names, each with a file (a block, or a number). -/
abbrev Dir := List (Nm × Nat)

def dfind (l : Dir) (n : Nm) : Option Nat := (l.find? (fun p => p.1 == n)).map (·.2)
def ddel (l : Dir) (n : Nm) : Dir := l.filter (fun p => !(p.1 == n))
def dins (x : Nm × Nat) : Dir → Dir
  | [] => [x]
  | y :: r => if bytesBefore x.1 y.1 then x :: y :: r else y :: dins x r
def dput (l : Dir) (n : Nm) (f : Nat) : Dir := dins (n, f) (ddel l n)

/-! ### A directory as a map that is read -/
abbrev DD := DataW Unit
def fileD (b : Nat) : DD := .lit (.int .i64 (b : Int))
def entD (p : Nm × Nat) : Lit × DD := (.string p.1, fileD p.2)
def dirD (l : Dir) : DD := .map (l.map entD)

theorem sameKey_str (a b : Nm) : (Lit.string a).sameKey (.string b) = (a == b) := rfl
theorem dirD_filter (l : Dir) (n : Nm) : (l.map entD).filter (fun p => !p.1.sameKey (.string n)) = (ddel l n).map entD := by
  unfold ddel
  rw [List.filter_map]
  rfl
theorem dirD_ins (x : Nm × Nat) : ∀ l : Dir, DataW.insert (entD x) (l.map entD) = (dins x l).map entD
  | [] => rfl
  | y :: r => by
    show (if bytesBefore x.1 y.1 then _ else _) = _
    unfold dins
    split
    · rfl
    · rw [List.map_cons, dirD_ins x r]
theorem dirD_put (l : Dir) (n : Nm) (f : Nat) : (dirD l).put (.string n) (fileD f) = dirD (dput l n f) := by
  show DataW.map (DataW.insert (entD (n, f)) ((l.map entD).filter fun p => !p.1.sameKey (.string n))) = _
  rw [dirD_filter, dirD_ins]
  rfl
theorem dirD_del (l : Dir) (n : Nm) : (dirD l).del (.string n) = dirD (ddel l n) := by
  show DataW.map ((l.map entD).filter fun p => !p.1.sameKey (.string n)) = _
  rw [dirD_filter]
  rfl
theorem find_map_entD (n : Nm) : ∀ l : Dir, (l.map entD).find? (fun p => p.1.sameKey (.string n)) = (l.find? (fun p => p.1 == n)).map entD
  | [] => rfl
  | y :: r => by
    have e : (entD y).1.sameKey (.string n) = (y.1 == n) := rfl
    rw [List.map_cons, List.find?_cons, List.find?_cons, e]
    split
    · rfl
    · exact find_map_entD n r
theorem dirD_at (l : Dir) (n : Nm) (z : DD) : (dirD l).atKey (.string n) z = match dfind l n with | some b => fileD b | none => z := by
  have h := find_map_entD n l
  unfold DataW.atKey dirD
  simp only [h, dfind]
  cases l.find? (fun p => p.1 == n) <;> rfl
theorem dirD_has (l : Dir) (n : Nm) : Maps.has (dirD l) (.string n) = (dfind l n).isSome := by
  show (l.map entD).any (fun p => p.1.sameKey (.string n)) = _
  rw [dfind, Option.isSome_map, List.isSome_find?, List.any_map]
  rfl
theorem dirD_size (l : Dir) : Maps.size (dirD l) = l.length := by
  show (l.map entD).length = _
  simp
theorem dirD_keys (l : Dir) : strKeys (dirD l) = l.map (·.1) := by
  show (l.map entD).map (fun p => strOf p.1) = _
  rw [List.map_map]
  rfl

/-! ### Rising names -/
def Ris (l : Dir) : Prop := l.Pairwise (fun p q => bytesBefore p.1 q.1 = true)
theorem ris_of_canon {l : Dir} (h : Maps.Canon (dirD l)) : Ris l := by
  obtain ⟨es, e, h1, _⟩ := h
  have e' : es = l.map entD := (DataW.map.inj e).symm
  subst e'
  exact (List.pairwise_map.1 h1)
theorem Ris.nodup {l : Dir} (h : Ris l) : (l.map (·.1)).Nodup := by
  unfold List.Nodup
  rw [List.pairwise_map]
  exact h.imp (fun {a b} hab e => by rw [e, WideAt.bytes_irrefl] at hab; cases hab)
theorem mem_dins (x p : Nm × Nat) : ∀ l : Dir, p ∈ dins x l ↔ p = x ∨ p ∈ l
  | [] => by simp [dins]
  | y :: r => by
    unfold dins
    split
    · simp
    · simp only [List.mem_cons, mem_dins x p r]
      constructor
      · rintro (h | h | h)
        · exact .inr (.inl h)
        · exact .inl h
        · exact .inr (.inr h)
      · rintro (h | h | h)
        · exact .inr (.inl h)
        · exact .inl h
        · exact .inr (.inr h)
theorem length_dins (x : Nm × Nat) : ∀ l : Dir, (dins x l).length = l.length + 1
  | [] => rfl
  | y :: r => by
    unfold dins
    split
    · rfl
    · simp [length_dins x r]
theorem mem_ddel {l : Dir} {n : Nm} {p : Nm × Nat} : p ∈ ddel l n ↔ p ∈ l ∧ p.1 ≠ n := by
  unfold ddel
  rw [List.mem_filter]
  simp
theorem mem_dput {l : Dir} {n : Nm} {f : Nat} {p : Nm × Nat} : p ∈ dput l n f ↔ p = (n, f) ∨ (p ∈ l ∧ p.1 ≠ n) := by
  unfold dput
  rw [mem_dins, mem_ddel]
theorem length_ddel (l : Dir) (n : Nm) : (ddel l n).length ≤ l.length := List.length_filter_le _ _
theorem length_dput (l : Dir) (n : Nm) (f : Nat) : (dput l n f).length ≤ l.length + 1 := by
  unfold dput
  rw [length_dins]
  have := length_ddel l n
  omega
theorem Ris.del {l : Dir} (h : Ris l) (n : Nm) : Ris (ddel l n) := h.filter _
theorem ris_ins {x : Nm × Nat} : ∀ {l : Dir}, Ris l → (∀ p ∈ l, p.1 ≠ x.1) → Ris (dins x l)
  | [], _, _ => by simp [dins, Ris]
  | y :: r, h, hn => by
    obtain ⟨h1, h2⟩ := List.pairwise_cons.1 h
    unfold dins
    split
    · rename_i hb
      refine List.pairwise_cons.2 ⟨fun p hp => ?_, h⟩
      rcases List.mem_cons.1 hp with rfl | hp
      · exact hb
      · exact WideShapes.bytes_trans _ _ _ hb (h1 p hp)
    · rename_i hb
      have hyx : bytesBefore y.1 x.1 = true := by
        rcases WideAt.bytes_total y.1 x.1 (hn y (by simp)) with h | h
        · exact h
        · exact absurd h hb
      refine List.pairwise_cons.2 ⟨fun p hp => ?_, ris_ins h2 (fun p hp => hn p (by simp [hp]))⟩
      rcases (mem_dins x p r).1 hp with rfl | hp
      · exact hyx
      · exact h1 p hp
theorem Ris.put {l : Dir} (h : Ris l) (n : Nm) (f : Nat) : Ris (dput l n f) := ris_ins (h.del n) (fun _ hp => (mem_ddel.1 hp).2)
theorem mem_of_dfind {l : Dir} {n : Nm} {b : Nat} (h : dfind l n = some b) : (n, b) ∈ l := by
  unfold dfind at h
  cases hf : l.find? (fun p => p.1 == n) with
  | none => rw [hf] at h; cases h
  | some p =>
    rw [hf] at h
    have h1 := List.mem_of_find?_eq_some hf
    have h2 := List.find?_some hf
    simp at h h2
    obtain ⟨x, y⟩ := p
    simp at h h2
    subst h h2
    exact h1
theorem dfind_none {l : Dir} {n : Nm} (h : dfind l n = none) : ∀ p ∈ l, p.1 ≠ n := by
  unfold dfind at h
  rw [Option.map_eq_none_iff, List.find?_eq_none] at h
  intro p hp
  simpa using h p hp
theorem dfind_of_mem {l : Dir} (hr : (l.map (·.1)).Nodup) {n : Nm} {b : Nat} (h : (n, b) ∈ l) : dfind l n = some b := by
  cases hf : dfind l n with
  | none => exact absurd rfl (dfind_none hf _ h)
  | some c =>
    have h2 := mem_of_dfind hf
    have : (n, b) = (n, c) := by
      refine Classical.byContradiction fun hne => ?_
      have hp := List.pairwise_map.1 hr
      rw [List.pairwise_iff_forall_sublist] at hp
      rcases List.mem_iff_append.1 h with ⟨s, t, rfl⟩
      rcases List.mem_append.1 h2 with h2 | h2
      · rw [List.map_append, List.nodup_append] at hr
        exact hr.2.2 n (List.mem_map.2 ⟨_, h2, rfl⟩) n (by simp) rfl
      · rcases List.mem_cons.1 h2 with e | h2
        · exact hne e.symm
        · rw [List.map_append, List.nodup_append] at hr
          have := hr.2.1
          rw [List.map_cons, List.nodup_cons] at this
          exact this.1 (List.mem_map.2 ⟨_, h2, rfl⟩)
    simp at this
    rw [this]

/-! ### Names -/
def sign (c : UInt8) : Bool := decide (33 ≤ c.toNat) && decide (c.toNat ≤ 126) && !(c.toNat == 47)
def nameB (n : Nm) : Bool := decide (1 ≤ n.length) && decide (n.length ≤ 40) && n.all sign

/-! ### Changes -/
/-- kind 0: made, with a file; 1: removed; 2: moved. -/
structure PC where
  kind : Nat
  nm : Nm
  to : Nm
  file : Nat
def pdo (d : Dir) (c : PC) : Dir :=
  if c.kind = 0 then dput d c.nm c.file else if c.kind = 1 then ddel d c.nm else dput (ddel d c.nm) c.to ((dfind d c.nm).getD 0)
def okc (d : Dir) (c : PC) : Prop := c.kind ≤ 2 ∧ (c.kind = 2 → (dfind d c.nm).isSome = true)
def okcs : Dir → List PC → Prop
  | _, [] => True
  | d, c :: r => okc d c ∧ okcs (pdo d c) r
theorem okcs_append (d : Dir) : ∀ (l m : List PC), okcs d (l ++ m) ↔ okcs d l ∧ okcs (l.foldl pdo d) m := by
  intro l
  induction l generalizing d with
  | nil => intro m; simp [okcs]
  | cons c r ih => intro m; simp only [List.cons_append, okcs, ih, List.foldl_cons, and_assoc]
theorem length_pdo (d : Dir) (c : PC) : (pdo d c).length ≤ d.length + 1 := by
  unfold pdo
  split
  · exact length_dput _ _ _
  · split
    · have := length_ddel d c.nm; omega
    · have := length_dput (ddel d c.nm) c.to ((dfind d c.nm).getD 0)
      have := length_ddel d c.nm
      omega
theorem Ris.pdo {d : Dir} (h : Ris d) (c : PC) : Ris (pdo d c) := by
  unfold YtaaioaocjfpajaaGreatDoor.Sim.pdo
  split
  · exact h.put _ _
  · split
    · exact h.del _
    · exact (h.del _).put _ _
theorem Ris.fold {d : Dir} (h : Ris d) : ∀ (l : List PC), Ris (l.foldl YtaaioaocjfpajaaGreatDoor.Sim.pdo d) := by
  intro l
  induction l generalizing d with
  | nil => exact h
  | cons c r ih => exact ih (h.pdo c)

/-! ### The program's state -/
structure PS where
  room : Nat
  made : Bool
  seen : Dir
  safe : Dir
  chg : List PC
  down : Bool
  armed : Bool
  left : Nat
  steps : Nat
  files : Nat → Option Fl

def dead (p : PS) : Bool := p.armed && p.left == 0
def fall (p : PS) : PS := { p with down := true }
def tick (p : PS) : PS := { p with left := if p.armed then p.left - 1 else p.left, steps := p.steps + 1 }
/-- A step: what is done, and the fault. -/
def stp (p : PS) (g : PS → PS) : Nat × PS := if dead p then (12, fall p) else (0, g (tick p))
def setF (b : Nat) (f : Fl) (p : PS) : PS := { p with files := fun x => if x = b then some f else p.files x }
def chgd (c : PC) (p : PS) : PS := { p with made := true, seen := pdo p.seen c, chg := p.chg ++ [c] }
def settle (k : Nat) (p : PS) : PS := { p with safe := (p.chg.take k).foldl pdo p.safe, chg := [] }
def fileAt (p : PS) (b : Nat) : Fl := (p.files b).getD ⟨[], 0⟩
def used (p : PS) : Nat := (p.seen.map fun e => (fileAt p e.2).b.length).sum
def wrongs (p : PS) (l : List Nm) : Nat := if p.down then 12 else if l.all nameB then 0 else 10

def pCreate (n : Nm) (b : Nat) (p : PS) : Nat × PS :=
  if wrongs p [n] ≠ 0 then (wrongs p [n], p) else if (dfind p.seen n).isSome then (6, p) else stp p (fun q => chgd ⟨0, n, [], b⟩ (setF b ⟨[], 0⟩ q))
/-- The fault of a name that must be there. -/
def finds (p : PS) (n : Nm) : Nat := if wrongs p [n] ≠ 0 then wrongs p [n] else if (dfind p.seen n).isSome then 0 else 5
def blockOf (p : PS) (n : Nm) : Nat := (dfind p.seen n).getD 0
def pAppend (n : Nm) (bs : List Nat) (p : PS) : Nat × PS :=
  if finds p n ≠ 0 then (finds p n, p) else if used p + bs.length > p.room then (11, p)
  else stp p (setF (blockOf p n) ⟨(fileAt p (blockOf p n)).b ++ bs, (fileAt p (blockOf p n)).safe⟩)
def pBytes (n : Nm) (p : PS) : List Nat := if finds p n ≠ 0 then [] else (fileAt p (blockOf p n)).b
def pRename (n t : Nm) (p : PS) : Nat × PS :=
  if wrongs p [n, t] ≠ 0 then (wrongs p [n, t], p) else if (dfind p.seen n).isSome then stp p (chgd ⟨2, n, t, 0⟩) else (5, p)
def pRemove (n : Nm) (p : PS) : Nat × PS := if finds p n ≠ 0 then (finds p n, p) else stp p (chgd ⟨1, n, [], 0⟩)
def pFsync (n : Nm) (p : PS) : Nat × PS :=
  if finds p n ≠ 0 then (finds p n, p) else stp p (setF (blockOf p n) ⟨(fileAt p (blockOf p n)).b, (fileAt p (blockOf p n)).b.length⟩)
def pSyncDir (p : PS) : Nat × PS := if wrongs p [] ≠ 0 then (wrongs p [], p) else stp p (settle p.chg.length)
def pArm (k : Int) (p : PS) : Nat × PS := if wrongs p [] ≠ 0 then (wrongs p [], p) else if k < 0 then (1, p) else (0, { p with armed := true, left := k.toNat })
/-- What a file keeps. -/
def lose (cut : Int) (f : Fl) : Fl :=
  let b := f.b.take (f.safe + min (max cut 0).toNat (f.b.length - f.safe))
  ⟨b, b.length⟩
def loses : Dir → Nat → List Int → PS → PS
  | [], _, _, p => p
  | e :: r, i, cuts, p => loses r (i + 1) cuts (setF e.2 (lose (cuts.getD i 0) (fileAt p e.2)) p)
def pUp (k : Int) (cuts : List Int) (p : PS) : PS :=
  let q := settle (min (max k 0).toNat p.chg.length) p
  let r := loses q.safe 0 cuts q
  { r with seen := r.safe, down := false, armed := false, left := 0 }
def pFlip (n : Nm) (at' : Int) (by' : Nat) (p : PS) : Nat × PS :=
  if finds p n ≠ 0 then (finds p n, p) else if at' < 0 ∨ (fileAt p (blockOf p n)).b.length ≤ at' then (1, p)
  else (0, setF (blockOf p n) ⟨(fileAt p (blockOf p n)).b.set at'.toNat ((fileAt p (blockOf p n)).b.getD at'.toNat 0 ^^^ by'), (fileAt p (blockOf p n)).safe⟩ p)
def pList (p : PS) : List Nm := if p.down then [] else p.seen.map (·.1)

end Go.Proofs.YtaaioaocjfpajaaGreatDoor.Sim
end

section
/-
  What stays as it was; bytes, rows and structs in memory.
-/
namespace Go.Proofs.YtaaioaocjfpajaaGreatDoor.Sim
open Go.RowKit

theorem hid {p : Prop} (h : p) : Hid p := h
theorem addr_add (g o i : Nat) : (⟨g, o, none⟩ : Addr).add i = ⟨g, o + i, none⟩ := by unfold Addr.add; split <;> simp_all
theorem cell_other {w : World} {b i j : Nat} {x : Value} (h : j ≠ i) : (w.setCell ⟨b, i, none⟩ x).cell? ⟨b, j, none⟩ = w.cell? ⟨b, j, none⟩ := World.cell?_setCell_other _ _ _ _ (by simp only [ne_eq, Addr.mk.injEq, true_and, and_true]; omega)

/-! ### What stays as it was -/
/-- All blocks that are not in L hold what they held. -/
structure Kp (L : Nat → Prop) (w w' : World) : Prop where
  os : w'.os = w.os
  tape : w'.tape = w.tape
  output : w'.output = w.output
  size : w.heap.size ≤ w'.heap.size
  block : ∀ k, k < w.heap.size → ¬ L k → w'.heap[k]? = w.heap[k]?

def No : Nat → Prop := fun _ => False
theorem Kp.refl (L : Nat → Prop) (w : World) : Kp L w w := ⟨rfl, rfl, rfl, Nat.le_refl _, fun _ _ _ => rfl⟩
/-- One behind the other: what the second one writes is the first one's, or new. -/
theorem Kp.trans {L M : Nat → Prop} {u v w : World} (h : Kp L u v) (k : Kp M v w) (hm : ∀ x, M x → L x ∨ u.heap.size ≤ x) : Kp L u w :=
  ⟨k.os.trans h.os, k.tape.trans h.tape, k.output.trans h.output, Nat.le_trans h.size k.size, fun i h1 h2 => (k.block i (Nat.lt_of_lt_of_le h1 h.size) (fun hi => by
    rcases hm i hi with h | h
    · exact h2 h
    · omega)).trans (h.block i h1 h2)⟩
theorem Kp.mono {L M : Nat → Prop} {u w : World} (h : Kp L u w) (hs : ∀ x, L x → M x ∨ u.heap.size ≤ x) : Kp M u w := (Kp.refl M u).trans h hs
theorem Kp.ofNo {M : Nat → Prop} {u w : World} (h : Kp No u w) : Kp M u w := h.mono (fun _ hx => hx.elim)
theorem Kp.andNone {L : Nat → Prop} {u v w : World} (h : Kp L u v) (k : Kp No v w) : Kp L u w := h.trans k (fun _ hx => hx.elim)
theorem Kp.below {L : Nat → Prop} {u w : World} (h : Below u.heap.size u w) : Kp L u w := ⟨h.os, h.tape, h.output, h.size, fun k hk _ => h.block k hk⟩
theorem Kp.alloc {L : Nat → Prop} {u w : World} (h : Kp L u w) (o : Obj) : Kp L u (w.alloc o) := h.trans (M := No) (Kp.below ((Below.refl _ _).alloc (Nat.le_refl _) _)) (fun _ hx => hx.elim)
theorem Kp.setCell {L : Nat → Prop} {u w : World} (h : Kp L u w) {p : Addr} (hp : L p.block ∨ u.heap.size ≤ p.block) (x : Value) : Kp L u (w.setCell p x) :=
  ⟨h.os, h.tape, h.output, by simpa using h.size, fun k h1 h2 => (Below.heap_setCell _ _ _ _ (by
    intro e
    rcases hp with hp | hp
    · exact h2 (e ▸ hp)
    · omega)).trans (h.block k h1 h2)⟩
theorem Kp.drew {L : Nat → Prop} {u w : World} (h : Kp L u w) : Kp L u w.drew := ⟨h.os, h.tape, h.output, h.size, h.block⟩
theorem Kp.grown {L : Nat → Prop} {u w w' : World} {row : Option Nat} (h : Kp L u w) (hg : w.grownBy w' row) (hr : ∀ x, row = some x → L x ∨ u.heap.size ≤ x) : Kp L u w' :=
  ⟨hg.os.trans h.os, hg.tape.trans h.tape, hg.output.trans h.output, Nat.le_trans h.size hg.size, fun k h1 h2 => (hg.block k (Nat.lt_of_lt_of_le h1 h.size) (fun e => by
    rcases hr k e.symm with h | h
    · exact h2 h
    · omega)).trans (h.block k h1 h2)⟩
theorem Kp.ofGrown {w w' : World} {row : Option Nat} (hg : w.grownBy w' row) : Kp (fun x => row = some x) w w' := (Kp.refl _ _).grown hg (fun _ h => .inl h)
theorem Kp.cell {L : Nat → Prop} {w w' : World} (h : Kp L w w') {p : Addr} (h1 : p.block < w.heap.size) (h2 : ¬ L p.block) : w'.cell? p = w.cell? p := World.cell?_of_block (w := w) (h.block p.block h1 h2)
theorem Kp.frozen {L : Nat → Prop} {w w' : World} (h : Kp L w w') {p : Addr} (h1 : p.block < w.heap.size) (h2 : ¬ L p.block) : w'.frozen? p = w.frozen? p := World.frozen?_of_block (w := w) (h.block p.block h1 h2)
theorem Kp.toBelow {L : Nat → Prop} {u w : World} (k : Kp L u w) (hb : ∀ x, L x → u.heap.size ≤ x) : Below u.heap.size u w :=
  ⟨k.os, k.tape, k.output, k.size, fun i hi => k.block i hi (fun hm => by have := hb i hm; omega)⟩
theorem Kp.toBelow' {u w : World} (k : Kp No u w) : Below u.heap.size u w := k.toBelow (fun _ h => h.elim)
/-! ### A block of cells, whole -/
def Blk (w : World) (b : Nat) (t : TypeId) (cs : List Value) : Prop := w.heap[b]? = some (.cells cs.toArray t (0, 0))
theorem Blk.lt {w : World} {b : Nat} {t : TypeId} {cs : List Value} (h : Blk w b t cs) : b < w.heap.size := (Array.getElem?_eq_some_iff.1 h).1
theorem Blk.kp {L : Nat → Prop} {w w' : World} {b : Nat} {t : TypeId} {cs : List Value} (h : Blk w b t cs) (k : Kp L w w') (hb : ¬ L b) : Blk w' b t cs := (k.block b h.lt hb).trans h
theorem Blk.ne {w : World} {b b' : Nat} {t t' : TypeId} {cs cs' : List Value} (h : Blk w b t cs) (h' : Blk w b' t' cs') (ht : t ≠ t') : b ≠ b' := by
  intro e
  subst e
  unfold Blk at h h'
  rw [h] at h'
  simp at h'
  exact ht h'.2
theorem Blk.cell {w : World} {b : Nat} {t : TypeId} {cs : List Value} (h : Blk w b t cs) (j : Nat) : w.cell? ⟨b, j, none⟩ = cs[j]? := by
  unfold Blk at h
  simp [World.cell?, h]
theorem Blk.frozen {w : World} {b : Nat} {t : TypeId} {cs : List Value} (h : Blk w b t cs) (j : Nat) : w.frozen? ⟨b, j, none⟩ = false := by
  unfold Blk at h
  simp [World.frozen?, h]
theorem Blk.new (w : World) (t : TypeId) (cs : List Value) : Blk (w.alloc (.cells cs.toArray t)) w.heap.size t cs := (MapKept.heap_alloc w _).1
theorem Blk.setCell {w : World} {b : Nat} {t : TypeId} {cs : List Value} (h : Blk w b t cs) (j : Nat) (x : Value) : Blk (w.setCell ⟨b, j, none⟩ x) b t (cs.set j x) := by
  unfold Blk at h ⊢
  simp [World.setCell, Array.getElem?_modify, h]

/-! ### Bytes that are read -/
/-- Bytes as cells. -/
def cl (xs : List Nat) : List Value := xs.map fun x : Nat => .int .u8 (x : Int)
theorem cl_length (xs : List Nat) : (cl xs).length = xs.length := by simp [cl]
theorem cl_append (xs ys : List Nat) : cl (xs ++ ys) = cl xs ++ cl ys := by simp [cl]
theorem cl_at (xs : List Nat) (i : Nat) (h : i < xs.length) : (cl xs)[i]? = some (.int .u8 (xs.getD i 0 : Nat)) := by simp [cl, List.getElem?_eq_getElem h]
theorem cl_one (xs : List Nat) : ∀ u ∈ cl xs, u.oneCell' = true := by intro u hu; obtain ⟨x, _, rfl⟩ := List.mem_map.1 hu; rfl

/-- v is a slice of the bytes bs, in a block of which P. -/
def ByP (P : Nat → Prop) (w : World) (v : Value) (bs : List Nat) : Prop :=
  ∃ a cap, v = .slice a bs.length cap ∧ bs.length ≤ cap ∧ cap ≤ maxLen ∧ (a = none → bs = [] ∧ cap = 0) ∧ bs.length ≤ 140737488355328 ∧ (∀ x ∈ bs, x < 256) ∧
    (bs ≠ [] → ∃ g o, a = some ⟨g, o, none⟩ ∧ P g ∧ g < w.heap.size ∧ ∀ i, i < bs.length → w.cell? ⟨g, o + i, none⟩ = some (.int .u8 (bs.getD i 0 : Nat)))

theorem ByP.nil (P : Nat → Prop) (w : World) : ByP P w (.slice none 0 0) [] := ⟨_, 0, rfl, Nat.le_refl _, Nat.zero_le _, fun _ => ⟨rfl, rfl⟩, by simp, by simp, fun h => absurd rfl h⟩
theorem ByP.kp {P L : Nat → Prop} {w w' : World} {v : Value} {bs : List Nat} (h : ByP P w v bs) (k : Kp L w w') (hm : ∀ x, L x → x < w.heap.size → ¬ P x) : ByP P w' v bs := by
  obtain ⟨a, cap, h1, h2, h3, h4, h5, h6, h7⟩ := h
  refine ⟨a, cap, h1, h2, h3, h4, h5, h6, fun hne => ?_⟩
  obtain ⟨g, o, e, hgb, hg, hc⟩ := h7 hne
  exact ⟨g, o, e, hgb, Nat.lt_of_lt_of_le hg k.size, fun i hi => (k.cell (p := ⟨g, o + i, none⟩) hg (fun hx => hm g hx hg hgb)).trans (hc i hi)⟩
theorem ByP.kept {P : Nat → Prop} {w w' : World} {v : Value} {bs : List Nat} (h : ByP P w v bs) (k : Kp No w w') : ByP P w' v bs := h.kp k (fun _ hx => hx.elim)
/-! ### Rows of the call's own -/
/-- v is a row of the call's own, of n elements of the type e, each of sz cells. -/
def Row (w : World) (e : TypeId) (sz : Nat) (v : Value) (n : Nat) (xs : List Value) : Prop := w.ownsRow 0 e sz v n xs

theorem Row.nil (w : World) (e : TypeId) (sz : Nat) : Row w e sz (.slice none 0 0) 0 [] := World.ownsRow_nil _ _ _ _
theorem Row.kp {L : Nat → Prop} {w w' : World} {e : TypeId} {sz n : Nat} {v : Value} {xs : List Value} (h : Row w e sz v n xs) (k : Kp L w w') (hv : ∀ x, v.ownBlock = some x → ¬ L x) : Row w' e sz v n xs := by
  refine ⟨h.1, ?_⟩
  rcases h.2 with hn | ⟨g, cap, cur, rfl, hb, hgg, rest⟩
  · exact .inl hn
  · exact .inr ⟨g, cap, cur, rfl, hb, by rw [k.block g (Array.getElem?_eq_some_iff.1 hgg).1 (hv g rfl)]; exact hgg, rest⟩
theorem Row.kept {w w' : World} {e : TypeId} {sz n : Nat} {v : Value} {xs : List Value} (h : Row w e sz v n xs) (k : Kp No w w') : Row w' e sz v n xs := h.kp k (fun _ _ hx => hx.elim)
theorem Row.lt {w : World} {e : TypeId} {sz n : Nat} {v : Value} {xs : List Value} (h : Row w e sz v n xs) : ∀ x, v.ownBlock = some x → x < w.heap.size := fun x hx => (World.ownsRow.lt h x hx).2
/-- Blocks of other types are other blocks. -/
theorem Row.ne {w : World} {e : TypeId} {sz n : Nat} {v : Value} {xs : List Value} (h : Row w e sz v n xs) {b : Nat} {cs : List Value} {t : TypeId} (hb : Blk w b t cs) (ht : t ≠ e) : v.ownBlock ≠ some b := by
  rcases h.2 with ⟨rfl, _⟩ | ⟨g, cap, cur, rfl, _, hgg, _⟩
  · simp [Value.ownBlock]
  · intro hx
    simp [Value.ownBlock] at hx
    subst hx
    unfold Blk at hb
    rw [hgg] at hb
    simp at hb
    exact ht hb.2.symm
theorem Row.ne' {w : World} {e e' : TypeId} {sz n sz' n' : Nat} {v v' : Value} {xs xs' : List Value} (h : Row w e sz v n xs) (h' : Row w e' sz' v' n' xs') (ht : e ≠ e') : ∀ x, v.ownBlock = some x → v'.ownBlock ≠ some x := by
  intro x hx hx'
  rcases h.2 with ⟨rfl, _⟩ | ⟨g, cap, cur, rfl, _, hgg, _⟩
  · simp [Value.ownBlock] at hx
  · rcases h'.2 with ⟨rfl, _⟩ | ⟨g', cap', cur', rfl, _, hgg', _⟩
    · simp [Value.ownBlock] at hx'
    · simp [Value.ownBlock] at hx hx'
      subst hx hx'
      rw [hgg] at hgg'
      simp at hgg'
      exact ht hgg'.2
theorem Row.shape {w : World} {e : TypeId} {sz n : Nat} {v : Value} {xs : List Value} (h : Row w e sz v n xs) : ∃ a cap, v = .slice a n cap ∧ n ≤ cap ∧ cap ≤ maxLen ∧ (a = none → n = 0 ∧ cap = 0) ∧ ∀ x, a = some x → x.spot = none ∧ x.off = 0 := by
  rcases h.2 with ⟨rfl, h0⟩ | ⟨g, cap, cur, rfl, hg, hh, hn, hc, hs, ht⟩
  · subst h0
    exact ⟨none, 0, rfl, Nat.le_refl _, Nat.zero_le _, fun _ => ⟨rfl, rfl⟩, by simp⟩
  · exact ⟨_, cap, rfl, hn, hc, by simp, fun x hx => by cases hx; exact ⟨rfl, rfl⟩⟩
theorem Row.cellAt {w : World} {e : TypeId} {sz n g cap : Nat} {xs : List Value} (h : Row w e sz (.slice (some ⟨g, 0, none⟩) n cap) n xs) (i : Nat) (hi : i < n * sz) : w.cell? ⟨g, i, none⟩ = xs[i]? := by
  obtain ⟨hl, h2⟩ := h
  have hx : xs[i]? = some xs[i] := List.getElem?_eq_getElem (by omega)
  have h3 := World.ownsRow.cells (w := w) (base := 0) (e := e) (size := sz) (v := .slice (some ⟨g, 0, none⟩) n cap) (n := n) (xs := xs) ⟨hl, h2⟩ (g := g) rfl i xs[i] hx
  rw [addr_add, Nat.zero_add] at h3
  rw [h3, hx]

/-- The values of a slice that is read. -/
def Src (w : World) (v : Value) (m sz : Nat) (ys : List Value) : Prop :=
  (v = .slice none 0 0 ∧ m = 0 ∧ ys = []) ∨ ∃ ad c, v = .slice (some ad) m c ∧ ys.length = m * sz ∧ (∀ j u, ys[j]? = some u → w.cell? (ad.add j) = some u) ∧ ∀ u ∈ ys, u.oneCell' = true

/-- append(v, x...), v of the call's own. -/
theorem app_row {ops : Array Oper} {rest : List Oper} {o : Oper} {a : Act} {Q : Exit → Act → World → Prop} (w : World) (hgd : o.guard = none) (s x : Operand) (t e : TypeId) (z : Value) (sz by' : Nat)
    (ho : o.op = .call { callee := .builtin .append, args := #[s, x], argTypes := #[t, t] }) (ht : Tryz.prog.underlying t = some (.slice e)) (hin : (Tryz.prog.info? e).map (fun i => (i.zero, i.size, i.bytes)) = some (some z, sz, by'))
    (hz1 : z.cells.size = sz) (hsz : 0 < sz) (v vx : Value) (n m : Nat) (xs ys : List Value) (hs : a.eval s = v) (hx : a.eval x = vx)
    (hown : Row w e sz v n xs) (hy : Src w vx m sz ys) (hlen : n + m ≤ 20000000) (hby : by' ≤ 1000)
    (h : ∀ ad cap w', Row w' e sz (.slice ad (n + m) cap) (n + m) (xs ++ ys) → w.grownBy w' v.ownBlock → ((Value.slice ad (n + m) cap).ownBlock = v.ownBlock ∨ (Value.slice ad (n + m) cap).ownBlock = some w.heap.size) → wpList Tryz.prog ops Q rest (a.put o.dst (.slice ad (n + m) cap)) w') : wpList Tryz.prog ops Q (o :: rest) a w := by
  obtain ⟨i0, hi, hz0, hz1', hz2⟩ := info_parts hin
  rcases hy with ⟨rfl, rfl, rfl⟩ | ⟨ad, c, rfl, hl, hc, h1⟩
  · refine wpList_append_own_none hgd s x t ho 0 e i0 sz ht hi v n xs hs hown hx ?_
    obtain ⟨ad, cap, rfl, _⟩ := hown.shape
    exact h ad cap w (by rw [List.append_nil]; exact hown) ⟨rfl, rfl, rfl, Nat.le_refl _, fun _ _ _ => rfl⟩ (.inl rfl)
  · refine wpList_append_own_at (P := Tryz.prog) w hgd s x t ho 0 e i0 z sz by' ht hi hz0 hz1' hz2 hz1 hsz v n xs hs hown ad m c ys hx hl hc h1 (by unfold maxLen; omega) ?_ (Nat.zero_le _) ?_
    · have : (n + m) * by' ≤ 20000000 * 1000 := Nat.mul_le_mul hlen hby
      omega
    · intro v' w' h8 h9 _ h10
      have h8' : Row w' e sz v' (n + m) (xs ++ ys) := h8
      obtain ⟨ad', cap', rfl, _⟩ := h8'.shape
      exact h ad' cap' w' h8 h9 h10

/-- A literal of one element. -/
theorem Src.one (w : World) (us : List Value) (sz : Nat) (t : TypeId) (hl : us.length = sz) (h1 : ∀ u ∈ us, u.oneCell' = true) : Src (w.alloc (.cells us.toArray t)) (.slice (some ⟨w.heap.size, 0, none⟩) 1 1) 1 sz us :=
  .inr ⟨_, 1, rfl, by omega, fun j x hj => by
    rw [addr_add, World.cell?_alloc_at _ _ _ _ rfl]
    simpa using hj, h1⟩

/-! ### Bytes of the call's own -/
/-- v is a row of the call's own, of the bytes xs. -/
def OwnB (w : World) (v : Value) (xs : List Nat) : Prop := Row w 5 1 v xs.length (cl xs)
theorem OwnB.row {w : World} {v : Value} {xs : List Nat} (h : OwnB w v xs) : Row w 5 1 v xs.length (cl xs) := h
theorem OwnB.nil (w : World) : OwnB w (.slice none 0 0) [] := Row.nil _ _ _
theorem OwnB.shape {w : World} {v : Value} {xs : List Nat} (h : OwnB w v xs) : ∃ a cap, v = .slice a xs.length cap ∧ xs.length ≤ cap ∧ cap ≤ maxLen ∧ (a = none → xs = [] ∧ cap = 0) := by
  obtain ⟨a, cap, h1, h2, h3, h4, _⟩ := h.row.shape
  exact ⟨a, cap, h1, h2, h3, fun e => ⟨List.length_eq_zero_iff.1 (h4 e).1, (h4 e).2⟩⟩
theorem OwnB.byP {P : Nat → Prop} {w : World} {v : Value} {xs : List Nat} (h : OwnB w v xs) (hP : ∀ x, v.ownBlock = some x → P x) (hl : xs.length ≤ 20000000) (hx : ∀ x ∈ xs, x < 256) : ByP P w v xs := by
  rcases h.row.2 with ⟨rfl, h0⟩ | ⟨g, cap, cur, rfl, hg, hh, hn, hc, hs, ht⟩
  · have : xs = [] := List.length_eq_zero_iff.1 h0
    subst this
    exact ByP.nil _ _
  · refine ⟨_, cap, rfl, hn, hc, by simp, by omega, hx, fun _ => ⟨g, 0, rfl, hP g rfl, (Array.getElem?_eq_some_iff.1 hh).1, fun i hi => ?_⟩⟩
    rw [Nat.zero_add, h.row.cellAt i (by omega)]
    exact cl_at xs i hi
theorem ByP.src {P : Nat → Prop} {w : World} {v : Value} {ys : List Nat} (h : ByP P w v ys) : Src w v ys.length 1 (cl ys) := by
  obtain ⟨a, cap, rfl, h2, h3, h4, h5, h6, h7⟩ := h
  cases a with
  | none =>
    obtain ⟨rfl, rfl⟩ := h4 rfl
    exact .inl ⟨rfl, rfl, rfl⟩
  | some ad =>
    refine .inr ⟨ad, cap, rfl, by rw [cl_length, Nat.mul_one], fun j u hj => ?_, cl_one ys⟩
    have hjn : j < ys.length := by
      have := (List.getElem?_eq_some_iff.1 hj).1
      rwa [cl_length] at this
    obtain ⟨g, o, e, _, hb, hc⟩ := h7 (by intro e; subst e; simp at hjn)
    simp only [Option.some.injEq] at e
    subst e
    rw [addr_add, hc j hjn, ← cl_at ys j hjn]
    exact hj
theorem Tryz.info5 : (Tryz.prog.info? 5).map (fun i => (i.zero, i.size, i.bytes)) = some (some (.int .u8 0), 1, 1) := by kernel_rfl
/-- append of bytes. -/
theorem app_bytes {ops : Array Oper} {rest : List Oper} {o : Oper} {a : Act} {Q : Exit → Act → World → Prop} (w : World) (hgd : o.guard = none) (s x : Operand)
    (ho : o.op = .call { callee := .builtin .append, args := #[s, x], argTypes := #[54, 54] }) (v vx : Value) (xs ys : List Nat) (P : Nat → Prop) (hs : a.eval s = v) (hx : a.eval x = vx)
    (hown : OwnB w v xs) (hy : ByP P w vx ys) (hlen : xs.length + ys.length ≤ 20000000)
    (h : ∀ ad cap w', OwnB w' (.slice ad (xs.length + ys.length) cap) (xs ++ ys) → w.grownBy w' v.ownBlock → ((Value.slice ad (xs.length + ys.length) cap).ownBlock = v.ownBlock ∨ (Value.slice ad (xs.length + ys.length) cap).ownBlock = some w.heap.size) → wpList Tryz.prog ops Q rest (a.put o.dst (.slice ad (xs.length + ys.length) cap)) w') : wpList Tryz.prog ops Q (o :: rest) a w := by
  refine app_row w hgd s x 54 5 (.int .u8 0) 1 1 ho Tryz.underlying54 Tryz.info5 rfl (by decide) v vx xs.length ys.length (cl xs) (cl ys) hs hx hown.row hy.src hlen (by decide) ?_
  intro ad cap w' h1 h2 h3
  exact h ad cap w' (by unfold OwnB; rw [cl_append, List.length_append]; exact h1) h2 h3

theorem Tryz.nilEq (w : World) (a : Option Addr) (n c n' c' : Nat) : (binOp .eql 54 (.slice a n c) (.slice none n' c')).run Tryz.prog w = .ok (.bool a.isNone) w :=
  Lib.run_eql_slice_nil w _ _ a n c n' c' Tryz.underlying54
theorem own_empty (w : World) : OwnB (w.alloc (.cells #[] 5)) (.slice (some ⟨w.heap.size, 0, none⟩) 0 0) [] := World.ownsRow_made w #[] 0 (Nat.zero_le _) (Nat.zero_le _) rfl

set_option maxHeartbeats 1000000 in
/-- bytes.Clone. -/
theorem clone_any {P : Nat → Prop} (v : Value) (bs : List Nat) (w : World) (h : ByP P w v bs) (hl : bs.length ≤ 20000000) :
    Calls Tryz.prog 126 #[v] w fun e w' => ∃ ad cap, e = .returned (.slice ad bs.length cap) ∧ OwnB w' (.slice ad bs.length cap) bs ∧ (∀ x, (Value.slice ad bs.length cap).ownBlock = some x → w.heap.size ≤ x) ∧ Kp No w w' := by
  have q22 := Tryz.nilEq
  have H := hid h
  obtain ⟨a, cap, rfl, h2, h3, h4, h5, h6, h7⟩ := h
  clear h6 h7
  cases a with
  | none =>
    obtain ⟨rfl, rfl⟩ := h4 rfl
    go_enter Tryz.func126, Tryz.ntmps126
    go_wp2
    go_ret
    exact ⟨_, _, rfl, OwnB.nil _, by simp [Value.ownBlock], Kp.refl _ _⟩
  | some ad =>
    clear h4
    go_enter Tryz.func126, Tryz.ntmps126
    go_wp2_with (at_builtin; refine app_bytes _ rfl _ _ rfl (.slice (some ⟨w.heap.size, 0, none⟩) 0 0) _ [] bs P rfl rfl (own_empty w) (H.out.kept ((Kp.refl _ _).alloc _)) (by simpa using hl) ?_; intro ad' cap' w' hown hg hb)
    go_wp2
    go_ret
    rw [List.length_nil, Nat.zero_add] at hown hb
    refine ⟨ad', cap', rfl, by simpa using hown, fun x hx => ?_, ((Kp.refl _ w).alloc _).grown hg (fun x hx => .inr (by simp [Value.ownBlock] at hx; omega))⟩
    rcases hb with hb | hb
    · rw [hb] at hx
      simp [Value.ownBlock] at hx
      omega
    · rw [hb] at hx
      simp at hx
      omega

end Go.Proofs.YtaaioaocjfpajaaGreatDoor.Sim
end

section
/-
  A directory in memory: a map from names to files; looked at, written, copied, its names.
-/
namespace Go.Proofs.YtaaioaocjfpajaaGreatDoor.Sim
open Go.RowKit Go.Maps Go.Sort Go.Shelf

/-- How a pointer to a file reads: its block. -/
def ptrR (v : Value) : Option (DD × List MemPlace) :=
  match v with
  | .pointer (some a) => if a.off = 0 ∧ a.spot = none then some (fileD a.block, []) else none
  | .pointer none => some (.nil, [])
  | _ => none
def ptrV (b : Option Nat) : Value := .pointer (b.map fun x => ⟨x, 0, none⟩)
theorem ptrR_some (b : Nat) : ptrR (.pointer (some ⟨b, 0, none⟩)) = some (fileD b, []) := rfl
theorem ptrR_inv {v : Value} {y : DD × List MemPlace} (h : ptrR v = some y) : ∃ c, v = ptrV c ∧ y = (match c with | some b => fileD b | none => .nil, []) := by
  unfold ptrR at h
  split at h
  · rename_i a
    split at h
    · rename_i ha
      obtain ⟨bl, off, spot⟩ := a
      obtain ⟨h1, h2⟩ := ha
      simp at h1 h2
      subst h1 h2
      cases h
      exact ⟨some bl, rfl, rfl⟩
    · cases h
  · cases h
    exact ⟨none, rfl, rfl⟩
  · cases h
theorem fileD_inj {a b : Nat} (h : fileD a = fileD b) : a = b := by
  unfold fileD at h
  simp at h
  omega

theorem Tryz.keyed : Keyed Tryz.prog 9 := string_keyed Tryz.underlying9
theorem Tryz.key (n : Nm) (h : n.length ≤ 20000000) : keyOf Tryz.prog 9 (encStr n) = some (.string n) := by
  have h1 : (⟨n.toArray⟩ : ByteArray).size ≤ maxLen := by
    have : (⟨n.toArray⟩ : ByteArray).size = n.length := by simp [ByteArray.size]
    rw [this]; unfold maxLen; omega
  have := Go.WideMaps.keyOf_string_mk (P := Tryz.prog) (k := 9) Tryz.underlying9 h1
  simpa using this
theorem Tryz.zeroP (w : World) : (zeroValue 106).run Tryz.prog w = .ok (.pointer none) w := by kernel_rfl

/-- Block b is a map that is the directory l. -/
def MapAt (w : World) (b : Nat) (l : Dir) : Prop := w.ownsMap Tryz.prog 9 ptrR b l.length (dirD l)
theorem MapAt.of {w : World} {b n : Nat} {l : Dir} (h : w.ownsMap Tryz.prog 9 ptrR b n (dirD l)) : MapAt w b l := by
  obtain ⟨es, clock, hb, F, hs, hD⟩ := h
  refine ⟨es, clock, hb, F, ?_, hD⟩
  have h1 : Maps.size (dirD l) = es.size := by rw [hD]; simp [Maps.size, length_sorted]
  rw [dirD_size] at h1
  omega
theorem MapAt.lt {w : World} {b : Nat} {l : Dir} (h : MapAt w b l) : b < w.heap.size := World.ownsMap.lt h
theorem MapAt.kp {L : Nat → Prop} {w w' : World} {b : Nat} {l : Dir} (h : MapAt w b l) (k : Kp L w w') (hb : ¬ L b) : MapAt w' b l := by
  have hlt := h.lt
  obtain ⟨es, clock, h1, r⟩ := h
  exact ⟨es, clock, (k.block b hlt hb).trans h1, r⟩
theorem MapAt.ris {w : World} {b : Nat} {l : Dir} (h : MapAt w b l) : Ris l := ris_of_canon (World.ownsMap.canon h Tryz.keyed)
theorem MapAt.blk {w : World} {b b' : Nat} {l : Dir} {t : TypeId} {cs : List Value} (h : MapAt w b l) (h' : Blk w b' t cs) : b ≠ b' := by
  intro e
  subst e
  obtain ⟨es, clock, h1, _⟩ := h
  unfold Blk at h'
  rw [h1] at h'
  cases h'
theorem MapAt.row {w : World} {b : Nat} {l : Dir} {e : TypeId} {sz n : Nat} {v : Value} {xs : List Value} (h : MapAt w b l) (h' : Row w e sz v n xs) : v.ownBlock ≠ some b := by
  obtain ⟨es, clock, h1, _⟩ := h
  rcases h'.2 with ⟨rfl, _⟩ | ⟨g, cap, cur, rfl, _, hgg, _⟩
  · simp [Value.ownBlock]
  · intro hx
    simp [Value.ownBlock] at hx
    subst hx
    rw [h1] at hgg
    cases hgg
theorem MapAt.new (w : World) : MapAt (w.alloc (.map #[] 0)) w.heap.size [] := World.ownsMap_made _ _ _ _

theorem MapAt.look {w : World} {b : Nat} {l : Dir} (h : MapAt w b l) (n : Nm) (hn : n.length ≤ 20000000) : (Instr.lookup 75 (.map (some b)) (encStr n) false).run Tryz.prog w = .ok (ptrV (dfind l n)) w := by
  obtain ⟨v, ps, hrun, hv⟩ := World.ownsMap.lookup h Tryz.keyed Tryz.underlying75 (Tryz.zeroP w) (zd := .nil) (zp := []) rfl (Tryz.key n hn)
  rw [dirD_at] at hv
  obtain ⟨c, rfl, hc⟩ := ptrR_inv hv
  have e : c = dfind l n := by
    cases hd : dfind l n with
    | none =>
      rw [hd] at hc
      cases c with
      | none => rfl
      | some x => simp [fileD] at hc
    | some y =>
      rw [hd] at hc
      cases c with
      | none => simp [fileD] at hc
      | some x =>
        simp only [Prod.mk.injEq] at hc
        rw [fileD_inj hc.1]
  rw [hrun, e]
theorem look_nil (w : World) (n : Nm) (hn : n.length ≤ 20000000) : (Instr.lookup 75 (.map none) (encStr n) false).run Tryz.prog w = .ok (.pointer none) w := by
  have := Maps.look_nil (w := w) false Tryz.keyed Tryz.underlying75 (Tryz.zeroP w) (Tryz.key n hn)
  simpa using this

/-- A directory, made or not. -/
def MapV (w : World) (v : Value) (l : Dir) : Prop := (v = .map none ∧ l = []) ∨ ∃ b, v = .map (some b) ∧ MapAt w b l
theorem MapV.look {w : World} {v : Value} {l : Dir} (h : MapV w v l) (n : Nm) (hn : n.length ≤ 20000000) : (Instr.lookup 75 v (encStr n) false).run Tryz.prog w = .ok (ptrV (dfind l n)) w := by
  rcases h with ⟨rfl, rfl⟩ | ⟨b, rfl, h⟩
  · exact look_nil w n hn
  · exact h.look n hn

/-! ### Written -/
section
variable (w : World) {ops : Array Oper} {rest : List Oper} {o : Oper} {a : Act} {Q : Exit → Act → World → Prop}
theorem wp_store (hg : o.guard = none) (m x v : Operand) (hop : o.op = Op.mapUpdate 75 m x v) (b f : Nat) (l : Dir) (n : Nm) (hm : a.eval m = .map (some b)) (hx : a.eval x = encStr n) (hv : a.eval v = .pointer (some ⟨f, 0, none⟩))
    (h : MapAt w b l) (hn : n.length ≤ 20000000) (hl : l.length ≤ 20000000) (hK : ∀ w', MapAt w' b (dput l n f) → Kp (· = b) w w' → w'.heap.size = w.heap.size → wpList Tryz.prog ops Q rest (a.put o.dst undef) w') : wpList Tryz.prog ops Q (o :: rest) a w := by
  refine wpList_plain hg fun K' hK' => ?_
  obtain ⟨w', hrun, r1, r2⟩ := World.ownsMap.store h Tryz.keyed Tryz.underlying75 (by unfold maxLen; omega) (Tryz.key n hn) (ptrR_some f)
  unfold Oper.wp
  simp [execOp, hop, hm, hx, hv, hrun, Result.andThen]
  rw [dirD_put] at r1
  refine hK' _ _ (hK w' (MapAt.of r1) ((Kp.refl _ _).grown r2.grown (fun x hx => .inl (by simpa using hx.symm))) ?_)
  obtain ⟨es, clock, es', clock', _, rfl⟩ := r2
  simp [ChangeMaps.setBlock]
theorem wp_drop (hg : o.guard = none) (m x : Operand) (hop : o.op = Op.call { callee := Callee.builtin Builtin.delete, args := #[m, x], argTypes := #[75, 9] }) (b : Nat) (l : Dir) (n : Nm) (hm : a.eval m = .map (some b)) (hx : a.eval x = encStr n)
    (h : MapAt w b l) (hn : n.length ≤ 20000000) (hK : ∀ w', MapAt w' b (ddel l n) → Kp (· = b) w w' → w'.heap.size = w.heap.size → wpList Tryz.prog ops Q rest (a.put o.dst (.tuple #[])) w') : wpList Tryz.prog ops Q (o :: rest) a w := by
  refine wpList_plain hg fun K' hK' => ?_
  obtain ⟨w', hrun, r1, r2⟩ := World.ownsMap.drop h Tryz.keyed Tryz.underlying75 (Tryz.key n hn) o.type
  unfold Oper.wp
  simp [execOp, hop, resolve, invoke, builtin, hm, hx, hrun, Result.andThen]
  rw [dirD_del] at r1
  refine hK' _ _ (hK w' (MapAt.of r1) ((Kp.refl _ _).grown r2.grown (fun x hx => .inl (by simpa using hx.symm))) ?_)
  obtain ⟨es, clock, es', clock', _, rfl⟩ := r2
  simp [ChangeMaps.setBlock]
end

/-! ### maps.Clone -/
theorem mclone_any (w : World) (b : Nat) (l : Dir) (h : MapAt w b l) : Calls Tryz.prog 42 #[.map (some b)] w fun e w' => e = .returned (.map (some w.heap.size)) ∧ MapAt w' w.heap.size l ∧ MapAt w' b l ∧ Kp No w w' ∧ w'.heap.size = w.heap.size + 1 := by
  obtain ⟨es, clock, hb, F, hs, hD⟩ := h
  have hlt : b < w.heap.size := (Array.getElem?_eq_some_iff.1 hb).1
  have hcon := AnyW.maps_Clone Tryz.cloneM b es clock w hb
  refine hcon.mono ?_
  rintro e w' ⟨rfl, rfl⟩
  exact ⟨rfl, ⟨es, clock, (MapKept.heap_alloc w _).1, F, hs, hD⟩, ⟨es, clock, (Below.heap_alloc _ _ b hlt).trans hb, F, hs, hD⟩, (Kp.refl _ _).alloc _, by simp⟩
theorem mclone_nil (w : World) : Calls Tryz.prog 42 #[.map none] w fun e w' => e = .returned (.map none) ∧ w' = w := AnyW.maps_Clone_nil Tryz.cloneM w
theorem mclone_v (w : World) (v : Value) (l : Dir) (h : MapV w v l) : Calls Tryz.prog 42 #[v] w fun e w' => ∃ v', e = .returned v' ∧ ((v = .map none ∧ v' = .map none ∧ w' = w) ∨ ∃ b, v = .map (some b) ∧ v' = .map (some w.heap.size) ∧ MapAt w' w.heap.size l) ∧ Kp No w w' := by
  rcases h with ⟨rfl, rfl⟩ | ⟨b, rfl, h⟩
  · refine (mclone_nil w).mono ?_
    rintro e w' ⟨rfl, rfl⟩
    exact ⟨_, rfl, .inl ⟨rfl, rfl, rfl⟩, Kp.refl _ _⟩
  · refine (mclone_any w b l h).mono ?_
    rintro e w' ⟨rfl, h1, _, h3, _⟩
    exact ⟨_, rfl, .inr ⟨b, rfl, rfl, h1⟩, h3⟩

/-! ### Names, rising -/
theorem bb_lt : ∀ (a b : List UInt8), bytesBefore a b = true → a < b
  | [], [], h => by simp [bytesBefore] at h
  | [], _ :: _, _ => List.nil_lt_cons _ _
  | _ :: _, [], h => by simp [bytesBefore] at h
  | x :: r, y :: s, h => by
    rw [List.cons_lt_cons_iff]
    simp [bytesBefore] at h
    rcases h with h | ⟨h1, h2⟩
    · exact .inl h
    · exact .inr ⟨h1, bb_lt r s h2⟩
theorem sorted_names {l : Dir} (h : Ris l) : (l.map (·.1)).mergeSort leB = l.map (·.1) := by
  refine List.mergeSort_of_pairwise ?_
  rw [List.pairwise_map]
  refine List.Pairwise.imp ?_ h
  intro a b hab
  simp only [leB, decide_eq_true_eq]
  exact List.le_of_lt (bb_lt _ _ hab)

theorem Tryz.sorts (m : Nat) : AnyZ.SortsIn Tryz.prog Tryz.sorted_ren Fence.wide m :=
  ⟨fun blk off cap ss W hH hblk hsz => callsIn_wide.2 (AnyM.slices_Sort_string Tryz.sort blk off cap ss W hH hblk hsz),
   fun p cap W => callsIn_wide.2 (AnyM.slices_Sort_string_none Tryz.sort p cap W)⟩
theorem Tryz.maps_Keys (mb : Option Nat) (W : World) : CallsIn Fence.wide 5 Tryz.prog 68 #[.map mb] W fun e w' => e = .returned (.func (.func 96) #[] #[.pointer (some ⟨W.heap.size, 0, none⟩)]) ∧ w' = W.alloc (.cells #[.map mb] 75) :=
  AnyZ.keys_in Tryz.keys Fence.wide 5 trivial rfl mb W

set_option maxHeartbeats 1000000 in
theorem Tryz.sorted_keys (b nn : Nat) (D0 : DD) (R : Value → Option (DD × List MemPlace)) (w : World) (hown : w.ownsMap Tryz.prog 9 R b nn D0) (hmax : Maps.size D0 ≤ maxLen) (hbytes : Maps.size D0 * 16 ≤ 140737488355328) :
    CallsIn Fence.wide 5 Tryz.prog 67 #[.func (.func 96) #[] #[.pointer (some ⟨w.heap.size, 0, none⟩)]] (w.alloc (.cells #[.map (some b)] 75)) fun e w' => ∃ (v : Value) (ss : List (List UInt8)), e = .returned v ∧ ss.Perm (strKeys D0) ∧
      w'.ownsRow (w.alloc (.cells #[.map (some b)] 75)).heap.size 9 1 v ss.length ((ss.mergeSort (fun x y => decide (x ≤ y))).map encStr) ∧ (v = .slice none 0 0 ↔ ss = []) ∧ Below (w.alloc (.cells #[.map (some b)] 75)).heap.size (w.alloc (.cells #[.map (some b)] 75)) w' := by
  have hbl := hown.lt
  have hseq : SeqGives Fence.wide 2 Tryz.prog 96 #[.pointer (some ⟨w.heap.size, 0, none⟩)] encStr (fun ss => ss.Perm (strKeys D0)) (Maps.size D0) (w.alloc (.cells #[.map (some b)] 75)) :=
    AnyZ.keys_gives (ρ := Tryz.keys_ren) { Tryz.keys with } Fence.wide _ trivial rfl (by omega) w.heap.size b nn D0 _ (by simp) (by simp) (by
      obtain ⟨es, clock, hb, Ft, hs, hD⟩ := hown
      exact ⟨es, clock, (Below.heap_alloc _ _ b hbl).trans hb, Ft, hs, hD⟩)
  exact AnyZ.sorted_in Tryz.sorted Fence.wide 5 trivial trivial trivial trivial rfl (by omega) (Tryz.sorts _) (enters_of Tryz.func95 (by kernel_rfl) rfl) 96 #[.pointer (some ⟨w.heap.size, 0, none⟩)] trivial (enters_of Tryz.func96 (by kernel_rfl) rfl) _ _ hmax hbytes _ hseq

set_option maxHeartbeats 1000000 in
theorem Tryz.sorted_nil (w : World) :
    CallsIn Fence.wide 5 Tryz.prog 67 #[.func (.func 96) #[] #[.pointer (some ⟨w.heap.size, 0, none⟩)]] (w.alloc (.cells #[.map none] 75)) fun e w' => ∃ (v : Value) (ss : List (List UInt8)), e = .returned v ∧ ss = [] ∧
      w'.ownsRow (w.alloc (.cells #[.map none] 75)).heap.size 9 1 v ss.length ((ss.mergeSort (fun x y => decide (x ≤ y))).map encStr) ∧ (v = .slice none 0 0 ↔ ss = []) ∧ Below (w.alloc (.cells #[.map none] 75)).heap.size (w.alloc (.cells #[.map none] 75)) w' := by
  have hseq : SeqGives Fence.wide 2 Tryz.prog 96 #[.pointer (some ⟨w.heap.size, 0, none⟩)] encStr (fun ss : List (List UInt8) => ss = []) 0 (w.alloc (.cells #[.map none] 75)) :=
    AnyZ.keys_gives_nil (ρ := Tryz.keys_ren) { Tryz.keys with } Fence.wide _ trivial rfl w.heap.size _ (by simp) (by simp)
  exact AnyZ.sorted_in Tryz.sorted Fence.wide 5 trivial trivial trivial trivial rfl (by omega) (Tryz.sorts _) (enters_of Tryz.func95 (by kernel_rfl) rfl) 96 #[.pointer (some ⟨w.heap.size, 0, none⟩)] trivial (enters_of Tryz.func96 (by kernel_rfl) rfl) _ 0 (Nat.zero_le _) (by omega) _ hseq

/-- v is a row of the call's own, of the names ns, new. -/
def OwnN (w : World) (v : Value) (ns : List Nm) : Prop := Row w 9 1 v ns.length (ns.map encStr)

set_option maxHeartbeats 1000000 in
/-- (directory).names. -/
theorem names_any (w : World) (v : Value) (l : Dir) (h : MapV w v l) (hl : l.length ≤ 100000) :
    Calls Tryz.prog 40 #[v] w fun e w' => ∃ u, e = .returned u ∧ OwnN w' u (l.map (·.1)) ∧ (∀ x, u.ownBlock = some x → w.heap.size ≤ x) ∧ Kp No w w' := by
  rcases h with ⟨rfl, rfl⟩ | ⟨b, rfl, h⟩
  · refine (callsIn_wide (n := 6)).1 ?_
    have hfK : Fence.wide.fn 68 := trivial
    have hfS : Fence.wide.fn 67 := trivial
    refine callsIn_of_wp Tryz.func40 rfl trivial ?_ rfl
    simp only [Tryz.ntmps40]
    gi_wp2_with (first
      | (gi_at_call 68; refine (Tryz.maps_Keys none _).mono ?_; rintro e w' ⟨rfl, rfl⟩)
      | (gi_at_call 67; refine (Tryz.sorted_nil w).mono ?_; rintro e w' ⟨v, ss, rfl, rfl, hrow, hnil, hb⟩))
    go_ret
    refine ⟨v, rfl, ?_, ?_, ?_⟩
    · have := hnil.2 (by first | rfl | trivial)
      subst this
      exact Row.nil _ _ _
    · have := hnil.2 (by first | rfl | trivial)
      subst this
      simp [Value.ownBlock]
    · exact ((Kp.refl _ _).alloc _).andNone (Kp.below hb)
  · have hsz : Maps.size (dirD l) = l.length := dirD_size l
    refine (callsIn_wide (n := 6)).1 ?_
    have hfK : Fence.wide.fn 68 := trivial
    have hfS : Fence.wide.fn 67 := trivial
    have HM := hid h
    have HC := hid (Tryz.sorted_keys b l.length (dirD l) ptrR w h (by rw [hsz]; unfold maxLen; omega) (by rw [hsz]; omega))
    clear h hsz
    refine callsIn_of_wp Tryz.func40 rfl trivial ?_ rfl
    simp only [Tryz.ntmps40]
    gi_wp2_with (first
      | (gi_at_call 68; refine (Tryz.maps_Keys (some b) _).mono ?_; rintro e w' ⟨rfl, rfl⟩)
      | (gi_at_call 67; refine (HC.out).mono ?_; rintro e w' ⟨v, ss, rfl, hS, hrow, hnil, hb⟩))
    go_ret
    have e1 : ss.mergeSort leB = l.map (·.1) := by
      rw [dirD_keys] at hS
      rw [mergeSort_of_perm hS, sorted_names HM.out.ris]
    have e2 : ss.length = (l.map (·.1)).length := by rw [dirD_keys] at hS; exact hS.length_eq
    have hrow' : w'.ownsRow (w.alloc (.cells #[.map (some b)] 75)).heap.size 9 1 v ss.length ((ss.mergeSort leB).map encStr) := hrow
    rw [e1, e2] at hrow'
    refine ⟨v, rfl, ?_, fun x hx => ?_, ?_⟩
    · refine ⟨hrow'.1, ?_⟩
      rcases hrow'.2 with h | ⟨g, cap, cur, rfl, hb, r⟩
      · exact .inl h
      · exact .inr ⟨g, cap, cur, rfl, Nat.zero_le _, r⟩
    · have := (hrow'.lt x hx).1
      simp at this
      omega
    · exact ((Kp.refl _ _).alloc _).andNone (Kp.below hb)

end Go.Proofs.YtaaioaocjfpajaaGreatDoor.Sim
end

section
/-
  Which names are right: the program's Name, by runes, and the reference's, by bytes.
-/
namespace Go.Proofs.YtaaioaocjfpajaaGreatDoor.Sim
open Go.RowKit

/-- A rune that no name has. -/
def badR (x : Nat) : Bool := decide (x < 33) || decide (126 < x) || x == 47

theorem sign_bad (c : UInt8) : badR c.toNat = !sign c := by
  unfold badR sign
  by_cases h1 : c.toNat < 33 <;> by_cases h2 : 126 < c.toNat <;> by_cases h3 : c.toNat = 47 <;> simp [h1, h2, h3] <;> omega
theorem sign_high (c : UInt8) (h : 128 ≤ c.toNat) : sign c = false := by
  unfold sign
  have : decide (c.toNat ≤ 126) = false := by simp; omega
  simp [this]

theorem dec_high (s : ByteArray) (pos : Nat) (h : 128 ≤ (s.get! pos).toNat) : 128 ≤ (Utf8.decode s pos).1 := by
  unfold Utf8.decode
  simp only [Nat.add_zero]
  rw [if_neg (by omega)]
  split
  · split
    · omega
    · unfold Utf8.runeError; omega
  · split
    · split
      · rename_i h; simp only [Bool.and_eq_true, decide_eq_true_eq, ge_iff_le] at h; omega
      · unfold Utf8.runeError; omega
    · split
      · split
        · rename_i h; simp only [Bool.and_eq_true, decide_eq_true_eq, ge_iff_le] at h; omega
        · unfold Utf8.runeError; omega
      · unfold Utf8.runeError; omega
theorem dec_bad (s : ByteArray) (pos : Nat) (h : pos < s.size) : badR (Utf8.decode s pos).1 = !sign (s[pos]'h) ∧ (sign (s[pos]'h) = true → (Utf8.decode s pos).2 = 1) := by
  have e : s.get! pos = s[pos]'h := by simp [ByteArray.get!, ByteArray.getElem_eq_getElem_data, getElem!_pos, h]
  by_cases hc : (s[pos]'h).toNat < 128
  · rw [decode_ascii s pos h hc]
    exact ⟨sign_bad _, fun _ => rfl⟩
  · have h1 := sign_high _ (by omega : 128 ≤ (s[pos]'h).toNat)
    have h2 := dec_high s pos (by rw [e]; omega)
    refine ⟨?_, fun h => by rw [h1] at h; cases h⟩
    rw [h1]
    unfold badR
    have : decide (126 < (Utf8.decode s pos).1) = true := by simp; omega
    simp [this]

theorem pName1_any (x : Nat) (hx : x ≤ 1114111) (w : World) : Calls Tryz.prog 93 #[.int .i32 x] w fun e w' => e = .returned (.bool (badR x)) ∧ w' = w := by
  by_cases h1 : x < 33
  · have e : badR x = true := by simp [badR, h1]
    rw [e]
    have h1' : (x : Int) < 33 := by omega
    go_enter Tryz.func93, Tryz.ntmps93
    go_wp2
    go_ret
    exact ⟨rfl, rfl⟩
  · by_cases h2 : 126 < x
    · have e : badR x = true := by simp [badR, h2]
      rw [e]
      have h1' : ¬ (x : Int) < 33 := by omega
      have h2' : (126 : Int) < x := by omega
      go_enter Tryz.func93, Tryz.ntmps93
      go_wp2
      go_ret
      exact ⟨rfl, rfl⟩
    · have h1' : ¬ (x : Int) < 33 := by omega
      have h2' : ¬ (126 : Int) < x := by omega
      have e : badR x = (x == 47) := by simp [badR, h1, h2]
      rw [e]
      by_cases h3 : x = 47
      · subst h3
        go_enter Tryz.func93, Tryz.ntmps93
        go_wp2
        go_ret
        exact ⟨rfl, rfl⟩
      · have h3' : ((x : Int) == 47) = false := by simp; omega
        have h3'' : (x == 47) = false := by simp; omega
        rw [h3'']
        go_enter Tryz.func93, Tryz.ntmps93
        go_wp2
        go_ret
        exact ⟨rfl, rfl⟩

set_option maxHeartbeats 1000000 in
theorem indexFunc_any (s : ByteArray) (w : World) : Calls Tryz.prog 159 #[.string s, .func (.func 93) #[] #[], .bool true] w fun e w' => ∃ z : Int, e = .returned (.int .i64 z) ∧ decide (0 ≤ z) = !(s.data.toList.all sign) ∧ Below w.heap.size w w' := by
  go_enter Tryz.func159, Tryz.ntmps159
  go_wp2
  go_loopg [] s.size (fun gf wx => ∃ pos : Nat, Hid (wx.heap[w.heap.size]? = some (.stringIter s pos)) ∧ Hid (Below w.heap.size w wx) ∧ pos ≤ s.size ∧ Hid ((s.data.toList.take pos).all sign = true) ∧ s.size ≤ pos + gf)
  case atStart => exact ⟨0, World.iter_heap w s 0, (Below.refl _ w).alloc (Nat.le_refl _) _, Nat.zero_le _, by simp [Hid], by omega⟩
  case round =>
    obtain ⟨pos, hit, hbw, hps0, hall, hfu⟩ := hrel
    by_cases hps : pos < s.size
    · obtain ⟨g', rfl⟩ : ∃ g', gk = g' + 1 := ⟨gk - 1, by omega⟩
      have hnx : ∀ ty, (Instr.next (.pointer (some ⟨w.heap.size, 0, none⟩)) true ty).run Tryz.prog wr = _ := fun ty => Lib.run_next_any_at wr w.heap.size s pos ty hit hps
      obtain ⟨hb, hK1⟩ := dec_bad s pos hps
      have hle := Lib.rune_le s pos
      obtain ⟨R, hR⟩ : ∃ R, (Utf8.decode s pos).1 = R := ⟨_, rfl⟩
      obtain ⟨K, hK⟩ : ∃ K, (Utf8.decode s pos).2 = K := ⟨_, rfl⟩
      rw [hR, hK] at hnx
      rw [hR] at hb hle
      rw [hK] at hK1
      have hit2 := hid (Lib.iterAt_heap wr w.heap.size s pos (pos + K) hit)
      have hbw2 := hid (Lib.below_iterAt hbw (k := w.heap.size) (Nat.le_refl _) s (pos + K))
      have hc := hid (pName1_any R hle)
      obtain ⟨W, hWd⟩ : ∃ W, wr.iterAt w.heap.size s (pos + K) = W := ⟨_, rfl⟩
      rw [hWd] at hnx hit2 hbw2
      have hel : Hid (s.data.toList.take (pos + 1) = s.data.toList.take pos ++ [s[pos]'hps]) := by
        rw [Hid, List.take_succ_eq_append_getElem (by simpa using hps)]
        rfl
      clear hR hK hWd hit
      cases hsg : sign (s[pos]'hps) with
      | true =>
        have HK := hid (hK1 hsg)
        rw [hsg] at hb
        have HB := hid hb
        have HG := hid hsg
        clear hK1 hb hsg
        go_wp2_with (go_at_call 93; refine (hc.out _).mono ?_; rintro e w2 ⟨rfl, h2⟩; subst w2; rw [HB.out])
        go_roundg g'
        case measure => omega
        case rel =>
          have h1 := HK.out
          subst h1
          exact ⟨pos + 1, hit2, hbw2, by omega, by rw [Hid, hel.out, List.all_append, hall.out]; simp [HG.out], by omega⟩
      | false =>
        rw [hsg] at hb
        have HB := hid hb
        have HG := hid hsg
        clear hK1 hb hsg
        go_wp2_with (go_at_call 93; refine (hc.out _).mono ?_; rintro e w2 ⟨rfl, h2⟩; subst w2; rw [HB.out])
        go_ret
        refine ⟨pos, rfl, ?_, hbw2.out⟩
        have hfa : s.data.toList.all sign = false := by
          rw [List.all_eq_false]
          exact ⟨s[pos]'hps, by simp [ByteArray.getElem_eq_getElem_data], by simp [HG.out]⟩
        rw [hfa]
        simp
    · have hnx : ∀ ty, (Instr.next (.pointer (some ⟨w.heap.size, 0, none⟩)) true ty).run Tryz.prog wr = _ := fun ty => Lib.run_next_end_at wr w.heap.size s pos ty hit hps
      go_wp2
      go_ret
      refine ⟨-1, rfl, ?_, hbw.out⟩
      have := hall.out
      rw [List.take_of_length_le (by rw [Array.length_toList]; have : s.data.size = s.size := rfl; omega)] at this
      rw [this]
      rfl

theorem IndexFunc_any (s : ByteArray) (w : World) : Calls Tryz.prog 128 #[.string s, .func (.func 93) #[] #[]] w fun e w' => ∃ z : Int, e = .returned (.int .i64 z) ∧ decide (0 ≤ z) = !(s.data.toList.all sign) ∧ Below w.heap.size w w' := by
  have HI := hid (indexFunc_any s w)
  go_enter Tryz.func128, Tryz.ntmps128
  go_wp2_with (go_at_call 159; refine (HI.out).mono ?_; rintro e w1 ⟨z, rfl, hz, hb⟩; have HZ := hid hz; have HB := hid hb; clear hz hb)
  go_ret
  exact ⟨z, rfl, HZ.out, HB.out⟩

theorem containsFunc_any (s : ByteArray) (w : World) : Calls Tryz.prog 92 #[.string s, .func (.func 93) #[] #[]] w fun e w' => e = .returned (.bool (!(s.data.toList.all sign))) ∧ Below w.heap.size w w' := by
  have HI := hid (IndexFunc_any s w)
  go_enter Tryz.func92, Tryz.ntmps92
  go_wp2_with (go_at_call 128; refine (HI.out).mono ?_; rintro e w1 ⟨z, rfl, hz, hb⟩; have HZ := hid hz; have HB := hid hb; clear hz hb)
  go_ret
  refine ⟨?_, HB.out⟩
  rw [← HZ.out]
  rfl

/-- Name. -/
theorem pName_any (s : ByteArray) (hs : s.size ≤ 20000000) (w : World) : Calls Tryz.prog 65 #[.string s] w fun e w' => e = .returned (.bool (nameB s.data.toList)) ∧ Kp No w w' := by
  have hl : s.data.toList.length = s.size := by rw [Array.length_toList]; rfl
  by_cases h1 : s.size < 1
  · have e : nameB s.data.toList = false := by unfold nameB; rw [hl, decide_eq_false (by omega)]; rfl
    rw [e]
    have h1' : (s.size : Int) < 1 := by omega
    go_enter Tryz.func65, Tryz.ntmps65
    go_wp2
    go_ret
    exact ⟨rfl, Kp.refl _ _⟩
  · have h1' : ¬ (s.size : Int) < 1 := by omega
    by_cases h2 : 40 < s.size
    · have e : nameB s.data.toList = false := by unfold nameB; rw [hl, decide_eq_true (by omega), decide_eq_false (by omega)]; rfl
      rw [e]
      have h2' : (40 : Int) < (s.size : Int) := by omega
      go_enter Tryz.func65, Tryz.ntmps65
      go_wp2
      go_ret
      exact ⟨rfl, Kp.refl _ _⟩
    · have e : nameB s.data.toList = s.data.toList.all sign := by unfold nameB; rw [hl, decide_eq_true (by omega), decide_eq_true (by omega)]; rfl
      rw [e]
      have h2' : ¬ (40 : Int) < (s.size : Int) := by omega
      have HC := hid (containsFunc_any s w)
      generalize s.data.toList.all sign = ok at *
      clear e hl
      have hnot : ∀ (x : Bool) (w : World), (Op.unary .not (.bool x)).run Tryz.prog w = .ok (.bool (!x)) w := fun _ _ => rfl
      go_enter Tryz.func65, Tryz.ntmps65
      go_wp2_with (go_at_call 92; refine (HC.out).mono ?_; rintro e w1 ⟨rfl, hb⟩; have HB := hid hb; clear hb)
      go_ret
      exact ⟨rfl, Kp.below HB.out⟩

end Go.Proofs.YtaaioaocjfpajaaGreatDoor.Sim
end

section
/-
  The reference's Name and Less, by bytes.
-/
namespace Go.Proofs.YtaaioaocjfpajaaGreatDoor.Sim
open Go.RowKit
theorem len_data (s : ByteArray) : s.data.toList.length = s.size := by rw [Array.length_toList]; rfl
end Go.Proofs.YtaaioaocjfpajaaGreatDoor.Sim
end

section
/-
  The system in memory: its struct, its two maps, its changes, its files.
-/
namespace Go.Proofs.YtaaioaocjfpajaaGreatDoor.Sim
open Go.RowKit

/-- A name as a text, and a text as a name. -/
def sOf (n : Nm) : ByteArray := ⟨n.toArray⟩
def nm (s : ByteArray) : Nm := s.data.toList
theorem nm_sOf (n : Nm) : nm (sOf n) = n := rfl
theorem sOf_nm (s : ByteArray) : sOf (nm s) = s := by unfold sOf nm; simp
theorem enc_nm (s : ByteArray) : encStr (nm s) = .string s := by show Value.string (sOf (nm s)) = _; rw [sOf_nm]
theorem nm_len (s : ByteArray) : (nm s).length = s.size := len_data s
theorem sOf_size (n : Nm) : (sOf n).size = n.length := by rw [← nm_len, nm_sOf]
theorem MapV.lookS {w : World} {v : Value} {l : Dir} (h : MapV w v l) (s : ByteArray) (hn : s.size ≤ 20000000) : (Instr.lookup 75 v (.string s) false).run Tryz.prog w = .ok (ptrV (dfind l (nm s))) w := by
  rw [← enc_nm]
  exact h.look (nm s) (by rw [nm_len]; exact hn)

/-! ### The struct -/
def fsCells (p : PS) (vs vf vc : Value) : List Value := [.int .i64 (p.room : Int), vs, vf, vc, .bool p.down, .bool p.armed, .int .i64 (p.left : Int), .int .i64 (p.steps : Int)]
/-- A change's cells. -/
def pcV (c : PC) : Option Nat := if c.kind = 0 then some c.file else none
def chgCells (c : PC) : List Value := [.int .i64 (c.kind : Int), .string (sOf c.nm), .string (sOf c.to), ptrV (pcV c)]
def chgs (l : List PC) : List Value := l.flatMap chgCells
theorem chgs_append (l m : List PC) : chgs (l ++ m) = chgs l ++ chgs m := by simp [chgs]
theorem chgs_one (c : PC) : chgs [c] = chgCells c := by simp [chgs]
theorem chgs_at (l : List PC) (i : Nat) (c : PC) (h : l[i]? = some c) (j : Nat) (hj : j < 4) : (chgs l)[i * 4 + j]? = (chgCells c)[j]? := by
  induction l generalizing i with
  | nil => simp at h
  | cons d r ih =>
    have e : chgs (d :: r) = chgCells d ++ chgs r := by simp [chgs]
    rw [e]
    cases i with
    | zero =>
      simp at h
      subst h
      rw [List.getElem?_append_left (by simp [chgCells]; omega)]
      simp
    | succ i =>
      rw [List.getElem?_append_right (by simp [chgCells]; omega)]
      have : (i + 1) * 4 + j - (chgCells d).length = i * 4 + j := by simp [chgCells]; omega
      rw [this]
      exact ih i (by simpa using h)
theorem chgCells_one (c : PC) : ∀ u ∈ chgCells c, u.oneCell' = true := by
  intro u hu
  simp [chgCells] at hu
  rcases hu with rfl | rfl | rfl | rfl <;> rfl

/-- A file in memory: its struct in block b, its bytes in v. -/
structure FileAt (w : World) (b : Nat) (v : Value) (f : Fl) : Prop where
  blk : Blk w b 110 [v, .int .i64 (f.safe : Int)]
  own : OwnB w v f.b
  byt : ∀ x ∈ f.b, x < 256
  le : f.safe ≤ f.b.length
theorem FileAt.kp {L : Nat → Prop} {w w' : World} {b : Nat} {v : Value} {f : Fl} (h : FileAt w b v f) (k : Kp L w w') (hb : ¬ L b) (hv : ∀ x, v.ownBlock = some x → ¬ L x) : FileAt w' b v f :=
  ⟨h.blk.kp k hb, h.own.row.kp k hv, h.byt, h.le⟩

/-- What holds of the state alone. N: a bound that grows with each call. -/
structure PInv (N : Nat) (p : PS) : Prop where
  seen_eq : p.seen = p.chg.foldl pdo p.safe
  okc : okcs p.safe p.chg
  has : ∀ e ∈ p.safe, (p.files e.2).isSome = true
  hasC : ∀ c ∈ p.chg, c.kind = 0 → (p.files c.file).isSome = true
  nodup : (p.safe.map (·.2) ++ (p.chg.filter (fun c => c.kind == 0)).map (·.file)).Nodup
  nmS : ∀ e ∈ p.safe, e.1.length ≤ 40
  nmC : ∀ c ∈ p.chg, c.nm.length ≤ 40 ∧ c.to.length ≤ 40
  nmade : p.made = false → p.chg = [] ∧ p.safe = []
  room : p.room ≤ 99000
  left : p.left ≤ 9223372036854775807
  steps : p.steps ≤ N
  lsum : p.safe.length + p.chg.length ≤ N
  lfile : ∀ b f, p.files b = some f → f.b.length ≤ 12000 * N
  big : N ≤ 1000

theorem length_fold : ∀ (l : List PC) (d : Dir), (l.foldl pdo d).length ≤ d.length + l.length
  | [], _ => Nat.le_refl _
  | c :: r, d => by
    have h1 := length_fold r (pdo d c)
    have h2 := length_pdo d c
    simp only [List.foldl_cons, List.length_cons]
    omega
theorem PInv.lsafe {N : Nat} {p : PS} (h : PInv N p) : p.safe.length ≤ N := by have := h.lsum; omega
theorem PInv.lchg {N : Nat} {p : PS} (h : PInv N p) : p.chg.length ≤ N := by have := h.lsum; omega
theorem PInv.lseen {N : Nat} {p : PS} (h : PInv N p) : p.seen.length ≤ N := by
  have h1 := length_fold p.chg p.safe
  rw [← h.seen_eq] at h1
  have := h.lsum
  omega

structure Rp (P : Nat → Prop) (I : PS → Prop) (w : World) (s : Nat) (p : PS) (vs vf vc : Value) (u : Nat → Value) : Prop where
  lt : ∀ x, P x → x < w.heap.size
  ps : P s
  blk : Blk w s 83 (fsCells p vs vf vc)
  seen : MapV w vs p.seen
  safe : MapV w vf p.safe
  unmade : p.made = false → vs = .map none ∧ vf = .map none
  mades : p.made = true → ∃ a b, vs = .map (some a) ∧ vf = .map (some b) ∧ a ≠ b ∧ P a ∧ P b
  chg : Row w 162 4 vc p.chg.length (chgs p.chg)
  pc : ∀ x, vc.ownBlock = some x → P x
  file : ∀ b f, p.files b = some f → P b ∧ FileAt w b (u b) f ∧ ∀ x, (u b).ownBlock = some x → P x
  sep : ∀ b b' f f', p.files b = some f → p.files b' = some f' → b ≠ b' → ∀ x, (u b).ownBlock = some x → (u b').ownBlock ≠ some x
  inv : I p

/-- The system of the state p lies at s, in blocks of which P. -/
def Sys (P : Nat → Prop) (N : Nat) (w : World) (s : Nat) (p : PS) : Prop := ∃ vs vf vc u, Rp P (PInv N) w s p vs vf vc u

theorem MapV.kp {L : Nat → Prop} {w w' : World} {v : Value} {l : Dir} (h : MapV w v l) (k : Kp L w w') (hP : ∀ b, v = .map (some b) → ¬ L b) : MapV w' v l := by
  rcases h with h | ⟨b, rfl, h⟩
  · exact .inl h
  · exact .inr ⟨b, rfl, h.kp k (hP b rfl)⟩
theorem Rp.mapS {P : Nat → Prop} {I : PS → Prop} {w : World} {s : Nat} {p : PS} {vs vf vc : Value} {u : Nat → Value} (h : Rp P I w s p vs vf vc u) : (∀ b, vs = .map (some b) → P b) ∧ ∀ b, vf = .map (some b) → P b := by
  cases hm : p.made with
  | false =>
    obtain ⟨rfl, rfl⟩ := h.unmade hm
    exact ⟨fun b hb => (by cases hb), fun b hb => (by cases hb)⟩
  | true =>
    obtain ⟨a, b, rfl, rfl, _, ha, hb⟩ := h.mades hm
    exact ⟨fun x hx => (by cases hx; exact ha), fun x hx => (by cases hx; exact hb)⟩
/-- What is done elsewhere leaves it as it is. -/
theorem Rp.kp {P L : Nat → Prop} {I : PS → Prop} {w w' : World} {s : Nat} {p : PS} {vs vf vc : Value} {u : Nat → Value} (h : Rp P I w s p vs vf vc u) (k : Kp L w w') (hL : ∀ x, L x → ¬ P x) : Rp P I w' s p vs vf vc u where
  lt x hx := Nat.lt_of_lt_of_le (h.lt x hx) k.size
  ps := h.ps
  blk := h.blk.kp k (fun hl => hL _ hl h.ps)
  seen := h.seen.kp k (fun b hb hl => hL _ hl (h.mapS.1 b hb))
  safe := h.safe.kp k (fun b hb hl => hL _ hl (h.mapS.2 b hb))
  unmade := h.unmade
  mades := h.mades
  chg := h.chg.kp k (fun x hx hl => hL _ hl (h.pc x hx))
  pc := h.pc
  file b f hf := by
    obtain ⟨h1, h2, h3⟩ := h.file b f hf
    exact ⟨h1, h2.kp k (fun hl => hL _ hl h1) (fun x hx hl => hL _ hl (h3 x hx)), h3⟩
  sep := h.sep
  inv := h.inv
theorem Sys.kp {P L : Nat → Prop} {N : Nat} {w w' : World} {s : Nat} {p : PS} (h : Sys P N w s p) (k : Kp L w w') (hL : ∀ x, L x → ¬ P x) : Sys P N w' s p := by
  obtain ⟨vs, vf, vc, u, h⟩ := h
  exact ⟨vs, vf, vc, u, h.kp k hL⟩
theorem Sys.kept {P : Nat → Prop} {N : Nat} {w w' : World} {s : Nat} {p : PS} (h : Sys P N w s p) (k : Kp No w w') : Sys P N w' s p := h.kp k (fun _ hx => hx.elim)
theorem PInv.mono {N M : Nat} {p : PS} (h : PInv N p) (hm : N ≤ M) (hb : M ≤ 1000) : PInv M p :=
  { h with steps := Nat.le_trans h.steps hm, lsum := Nat.le_trans h.lsum hm, lfile := fun b f hf => Nat.le_trans (h.lfile b f hf) (Nat.mul_le_mul_left _ hm), big := hb }
theorem Sys.more {P : Nat → Prop} {N M : Nat} {w : World} {s : Nat} {p : PS} (h : Sys P N w s p) (hm : N ≤ M) (hb : M ≤ 1000) : Sys P M w s p := by
  obtain ⟨vs, vf, vc, u, h⟩ := h
  exact ⟨vs, vf, vc, u, { h with inv := h.inv.mono hm hb }⟩
theorem Sys.lt {P : Nat → Prop} {N : Nat} {w : World} {s : Nat} {p : PS} (h : Sys P N w s p) : ∀ x, P x → x < w.heap.size := by
  obtain ⟨vs, vf, vc, u, h⟩ := h
  exact h.lt
theorem Sys.inv {P : Nat → Prop} {N : Nat} {w : World} {s : Nat} {p : PS} (h : Sys P N w s p) : PInv N p := by
  obtain ⟨vs, vf, vc, u, h⟩ := h
  exact h.inv

/-! ### The files that names lead to are there -/
theorem mem_pdo {d : Dir} {c : PC} {e : Nm × Nat} (hok : okc d c) (h : e ∈ pdo d c) : e ∈ d ∨ (c.kind = 0 ∧ e = (c.nm, c.file)) ∨ (c.kind = 2 ∧ ∃ b, dfind d c.nm = some b ∧ e = (c.to, b)) := by
  unfold pdo at h
  split at h
  · rename_i hk
    rcases mem_dput.1 h with rfl | h
    · exact .inr (.inl ⟨hk, rfl⟩)
    · exact .inl h.1
  · split at h
    · exact .inl (mem_ddel.1 h).1
    · have hk : c.kind = 2 := by have := hok.1; omega
      rcases mem_dput.1 h with rfl | h
      · obtain ⟨b, hb⟩ := Option.isSome_iff_exists.1 (hok.2 hk)
        exact .inr (.inr ⟨hk, b, hb, by rw [hb]; rfl⟩)
      · exact .inl (mem_ddel.1 h.1).1
theorem fold_has {F : Nat → Prop} {M : Nm → Prop} : ∀ (l : List PC) (d : Dir), okcs d l → (∀ e ∈ d, F e.2 ∧ M e.1) → (∀ c ∈ l, (c.kind = 0 → F c.file) ∧ M c.nm ∧ M c.to) → ∀ e ∈ l.foldl pdo d, F e.2 ∧ M e.1
  | [], _, _, hd, _ => hd
  | c :: r, d, hok, hd, hc => by
    refine fold_has r (pdo d c) hok.2 (fun e he => ?_) (fun c' hc' => hc c' (by simp [hc']))
    obtain ⟨c1, c2, c3⟩ := hc c (by simp)
    rcases mem_pdo hok.1 he with h | ⟨hk, rfl⟩ | ⟨_, b, hb, rfl⟩
    · exact hd e h
    · exact ⟨c1 hk, c2⟩
    · exact ⟨(hd _ (mem_of_dfind hb)).1, c3⟩
theorem PInv.hasSeen {N : Nat} {p : PS} (h : PInv N p) : ∀ e ∈ p.seen, (p.files e.2).isSome = true ∧ e.1.length ≤ 40 := by
  rw [h.seen_eq]
  exact fold_has (F := fun b => (p.files b).isSome = true) (M := fun n => n.length ≤ 40) p.chg p.safe h.okc (fun e he => ⟨h.has e he, h.nmS e he⟩) (fun c hc => ⟨h.hasC c hc, (h.nmC c hc).1, (h.nmC c hc).2⟩)
theorem PInv.hasFound {N : Nat} {p : PS} (h : PInv N p) {n : Nm} {b : Nat} (hb : dfind p.seen n = some b) : p.files b = some (fileAt p b) := by
  obtain ⟨f, hf⟩ := Option.isSome_iff_exists.1 ((h.hasSeen _ (mem_of_dfind hb)).1)
  simp only at hf
  rw [fileAt, hf]
  rfl

end Go.Proofs.YtaaioaocjfpajaaGreatDoor.Sim
end

section
/-
  What tells alone: wrong, find, Read, Size, Down, Steps.
-/
namespace Go.Proofs.YtaaioaocjfpajaaGreatDoor.Sim
open Go.RowKit

theorem pNameS_any (s : ByteArray) (hs : s.size ≤ 20000000) (w : World) : Calls Tryz.prog 65 #[.string s] w fun e w' => e = .returned (.bool (nameB (nm s))) ∧ Kp No w w' := pName_any s hs w

/-- A slice of names, as it is handed to wrong. -/
def NsAt (w : World) (v : Value) (ns : List Nm) : Prop :=
  ∃ a cap, v = .slice a ns.length cap ∧ ns.length ≤ 100 ∧ (∀ n ∈ ns, n.length ≤ 20000000) ∧ (ns ≠ [] → ∃ g, a = some ⟨g, 0, none⟩ ∧ g < w.heap.size ∧ ∀ i, i < ns.length → w.cell? ⟨g, i, none⟩ = some (.string (sOf (ns.getD i []))))

set_option maxHeartbeats 1000000 in
theorem wrong_any (sb : Nat) (v : Value) (ns : List Nm) (d : Bool) (w : World) (hd : w.cell? ⟨sb, 4, none⟩ = some (.bool d)) (h : NsAt w v ns) :
    Calls Tryz.prog 38 #[.pointer (some ⟨sb, 0, none⟩), v] w fun e w' => e = .returned (.int .i64 ((if d then 12 else if ns.all nameB then 0 else 10 : Nat) : Int)) ∧ Kp No w w' := by
  obtain ⟨a, cap, rfl, hl, hn, hc⟩ := h
  have HN := hid hn
  have HC := hid hc
  clear hn hc
  cases d with
  | true =>
    go_enter Tryz.func38, Tryz.ntmps38
    go_wp2
    go_ret
    exact ⟨rfl, Kp.refl _ _⟩
  | false =>
    simp only [Bool.false_eq_true, if_false]
    obtain ⟨r, hr⟩ : ∃ r : Nat, (if ns.all nameB = true then 0 else 10) = r := ⟨_, rfl⟩
    have HR := hid hr
    rw [hr]
    clear hr
    have hnot : ∀ (x : Bool) (w : World), (Op.unary .not (.bool x)).run Tryz.prog w = .ok (.bool (!x)) w := fun _ _ => rfl
    go_enter Tryz.func38, Tryz.ntmps38
    go_wp2
    go_loopw [15] (fun x wr => ∃ i : Nat, x = .int .i64 i ∧ i ≤ ns.length ∧ Hid ((ns.take i).all nameB = true) ∧ Hid (Kp No w wr)) (fun x _ => ns.length - (intOf x).toNat)
    case atStart => exact ⟨0, rfl, by omega, by simp [Hid], Kp.refl _ _⟩
    case round =>
      obtain ⟨i, rfl, hi, HI, HK⟩ := hrel
      by_cases hlt : i < ns.length
      · obtain ⟨g, rfl, hg, hcell⟩ := HC.out (by intro e; subst e; simp at hlt)
        have c1 := (HK.out.cell (p := ⟨g, i, none⟩) hg (fun h => h.elim)).trans (hcell i hlt)
        have hmem : ns.getD i [] ∈ ns := by rw [List.getD_eq_getElem?_getD, List.getElem?_eq_getElem hlt, Option.getD_some]; exact List.getElem_mem hlt
        have HT : Hid (ns.take (i + 1) = ns.take i ++ [ns.getD i []]) := by rw [Hid, List.take_succ_eq_append_getElem hlt, List.getD_eq_getElem?_getD, List.getElem?_eq_getElem hlt, Option.getD_some]
        have HM := hid hmem
        have hsz : Hid ((sOf (ns.getD i [])).size ≤ 20000000) := by rw [Hid, sOf_size]; exact HN.out _ hmem
        have hnm : Hid (nm (sOf (ns.getD i [])) = ns.getD i []) := nm_sOf _
        generalize sOf (ns.getD i []) = s at *
        generalize ns.getD i [] = n at *
        clear hcell hmem HC
        cases hok : nameB n with
        | true =>
          have HO := hid hok
          clear hok
          go_wp2_with (go_at_call 65; refine (pNameS_any s hsz.out _).mono ?_; rintro e w2 ⟨rfl, hk⟩; rw [hnm.out, HO.out]; have HK2 := hid hk; clear hk)
          go_roundw
          case rel => exact ⟨i + 1, by go_num, by omega, by rw [Hid, HT.out, List.all_append, HI.out]; simp [HO.out], HK.out.andNone HK2.out⟩
          case measure => simp [intOf]; omega
        | false =>
          have HO := hid hok
          clear hok
          go_wp2_with (go_at_call 65; refine (pNameS_any s hsz.out _).mono ?_; rintro e w2 ⟨rfl, hk⟩; rw [hnm.out, HO.out]; have HK2 := hid hk; clear hk)
          go_ret
          refine ⟨?_, HK.out.andNone HK2.out⟩
          rw [← HR.out, List.all_eq_false.2 ⟨n, HM.out, by simp [HO.out]⟩]
          rfl
      · go_wp2
        go_ret
        refine ⟨?_, HK.out⟩
        have := HI.out
        rw [List.take_of_length_le (by omega)] at this
        rw [← HR.out, this]
        rfl

theorem NsAt.one (w : World) (s : ByteArray) (hs : s.size ≤ 20000000) : NsAt (w.alloc (.cells #[.string s] 9)) (.slice (some ⟨w.heap.size, 0, none⟩) 1 1) [nm s] := by
  refine ⟨_, 1, rfl, by simp, by simp [nm_len, hs], fun _ => ⟨_, rfl, by simp, fun i hi => ?_⟩⟩
  have : i = 0 := by simpa using hi
  subst this
  rw [World.cell?_alloc_at _ _ _ _ rfl]
  simp [sOf_nm]
theorem NsAt.two (w : World) (s t : ByteArray) (hs : s.size ≤ 20000000) (ht : t.size ≤ 20000000) : NsAt (w.alloc (.cells #[.string s, .string t] 9)) (.slice (some ⟨w.heap.size, 0, none⟩) 2 2) [nm s, nm t] := by
  refine ⟨_, 2, rfl, by simp, by simp [nm_len, hs, ht], fun _ => ⟨_, rfl, by simp, fun i hi => ?_⟩⟩
  rw [World.cell?_alloc_at _ _ _ _ rfl]
  have : i = 0 ∨ i = 1 := by simp at hi; omega
  rcases this with rfl | rfl
  · simp [sOf_nm]
  · simp [sOf_nm]
theorem NsAt.none (w : World) : NsAt w (.slice none 0 0) [] := ⟨_, 0, rfl, by decide, by simp, fun h => absurd rfl h⟩

/-- The cells of a system's struct. -/
theorem Rp.c {P : Nat → Prop} {I : PS → Prop} {w : World} {s : Nat} {p : PS} {vs vf vc : Value} {u : Nat → Value} (h : Rp P I w s p vs vf vc u) (j : Nat) : w.cell? ⟨s, j, none⟩ = (fsCells p vs vf vc)[j]? := h.blk.cell j

/-- Where a name leads, if nothing is wrong. -/
def foundP (p : PS) (n : Nm) : Option Nat := if finds p n = 0 then dfind p.seen n else none

set_option maxHeartbeats 1000000 in
theorem find_any {P : Nat → Prop} {N : Nat} (w : World) (s : Nat) (p : PS) (t : ByteArray) (ht : t.size ≤ 20000000) (h : Sys P N w s p) :
    Calls Tryz.prog 32 #[.pointer (some ⟨s, 0, none⟩), .string t] w fun e w' => e = .returned (.tuple #[ptrV (foundP p (nm t)), .int .i64 (finds p (nm t) : Nat)]) ∧ Kp No w w' := by
  obtain ⟨vs, vf, vc, u, h⟩ := h
  have H := hid h
  have hsl := h.lt s h.ps
  have q4 : w.cell? ⟨s, 4, none⟩ = some (.bool p.down) := h.c 4
  have q1 : w.cell? ⟨s, 1, none⟩ = some vs := h.c 1
  have hW : Hid (∀ W, Kp No w W → W.cell? ⟨s, 1, none⟩ = some vs ∧ (Instr.lookup 75 vs (.string t) false).run Tryz.prog W = .ok (ptrV (dfind p.seen (nm t))) W) := fun W k =>
    ⟨(k.cell (p := ⟨s, 1, none⟩) hsl (fun h => h.elim)).trans q1, (H.out.seen.kp k (fun _ _ h => h.elim)).lookS t ht⟩
  have HC : Hid (Calls Tryz.prog 38 #[.pointer (some ⟨s, 0, none⟩), .slice (some ⟨w.heap.size, 0, none⟩) 1 1] (w.alloc (.cells #[.string t] 9)) fun e w' => e = .returned (.int .i64 (wrongs p [nm t] : Nat)) ∧ Kp No w w') := by
    refine (wrong_any s _ [nm t] p.down _ ?_ (NsAt.one w t ht)).mono ?_
    · exact (((Kp.refl No w).alloc _).cell (p := ⟨s, 4, none⟩) hsl (fun h => h.elim)).trans q4
    · rintro e w' ⟨rfl, hk⟩
      exact ⟨rfl, ((Kp.refl No w).alloc _).andNone hk⟩
  clear h q1 q4
  by_cases hw : wrongs p [nm t] = 0
  · rw [hw] at HC
    cases hd : dfind p.seen (nm t) with
    | none =>
      have e1 : finds p (nm t) = 5 := by simp [finds, hw, hd]
      have e2 : foundP p (nm t) = none := by simp [foundP, e1]
      rw [e1, e2]
      rw [hd] at hW
      clear e1 e2 hd hw
      go_enter Tryz.func32, Tryz.ntmps32
      go_wp2_with (go_at_call 38; refine (HC.out).mono ?_; rintro e w1 ⟨rfl, hk⟩; have HK := hid hk; obtain ⟨r1, r2⟩ := hW.out _ hk; have e0 : ptrV none = .pointer none := rfl; rw [e0] at r2; clear hk e0)
      go_ret2
      exact ⟨rfl, HK.out⟩
    | some b =>
      have e1 : finds p (nm t) = 0 := by simp [finds, hw, hd]
      have e2 : foundP p (nm t) = some b := by simp [foundP, e1, hd]
      rw [e1, e2]
      rw [hd] at hW
      clear e1 e2 hd hw
      go_enter Tryz.func32, Tryz.ntmps32
      go_wp2_with (go_at_call 38; refine (HC.out).mono ?_; rintro e w1 ⟨rfl, hk⟩; have HK := hid hk; obtain ⟨r1, r2⟩ := hW.out _ hk; have e0 : ptrV (some b) = .pointer (some ⟨b, 0, none⟩) := rfl; rw [e0] at r2; clear hk e0)
      go_ret2
      exact ⟨rfl, HK.out⟩
  · have e1 : finds p (nm t) = wrongs p [nm t] := by simp [finds, hw]
    have e2 : foundP p (nm t) = none := by simp [foundP, e1, hw]
    rw [e1, e2]
    generalize wrongs p [nm t] = x at *
    have hne : ((x : Int) != 0) = true := by simp; omega
    clear e1 e2 hw
    go_enter Tryz.func32, Tryz.ntmps32
    go_wp2_with (go_at_call 38; refine (HC.out).mono ?_; rintro e w1 ⟨rfl, hk⟩; have HK := hid hk; clear hk)
    go_ret2
    exact ⟨rfl, HK.out⟩

end Go.Proofs.YtaaioaocjfpajaaGreatDoor.Sim
end

section
/-
  What tells alone: Read, Size, Down, Steps, List.
-/
namespace Go.Proofs.YtaaioaocjfpajaaGreatDoor.Sim
open Go.RowKit

theorem OwnB.kept {w w' : World} {v : Value} {xs : List Nat} (h : OwnB w v xs) (k : Kp No w w') : OwnB w' v xs := h.row.kept k
theorem pBytes_of {p : PS} {n : Nm} {b : Nat} (h : foundP p n = some b) : finds p n = 0 ∧ dfind p.seen n = some b ∧ pBytes n p = (fileAt p b).b := by
  unfold foundP at h
  split at h
  · rename_i h0
    refine ⟨h0, h, ?_⟩
    simp [pBytes, h0, blockOf, h]
  · cases h
theorem found_zero {N : Nat} {p : PS} {n : Nm} (_hi : PInv N p) (h : finds p n = 0) : ∃ b, foundP p n = some b := by
  unfold finds at h
  split at h
  · omega
  · split at h
    · rename_i h1 h2
      obtain ⟨b, hb⟩ := Option.isSome_iff_exists.1 h2
      refine ⟨b, ?_⟩
      unfold foundP finds
      rw [if_neg h1, if_pos h2, if_pos rfl, hb]
    · cases h

set_option maxHeartbeats 1000000 in
theorem read_any {P : Nat → Prop} {N : Nat} (w : World) (s : Nat) (p : PS) (t : ByteArray) (ht : t.size ≤ 20000000) (h : Sys P N w s p) :
    Calls Tryz.prog 90 #[.pointer (some ⟨s, 0, none⟩), .string t] w fun e w' => ∃ ad cap, e = .returned (.tuple #[.slice ad (pBytes (nm t) p).length cap, .int .i64 (finds p (nm t) : Nat)]) ∧
      OwnB w' (.slice ad (pBytes (nm t) p).length cap) (pBytes (nm t) p) ∧ (∀ x, (Value.slice ad (pBytes (nm t) p).length cap).ownBlock = some x → w.heap.size ≤ x) ∧ Kp No w w' := by
  have HC := hid (find_any w s p t ht h)
  have hI := h.inv
  by_cases h0 : finds p (nm t) = 0
  · obtain ⟨b, hb⟩ := found_zero hI h0
    obtain ⟨_, hd, hy⟩ := pBytes_of hb
    have hf := hI.hasFound hd
    have hlen := hI.lfile b _ hf
    have hbig := hI.big
    obtain ⟨vs, vf, vc, u, hR⟩ := h
    obtain ⟨hPb, hF, hPu⟩ := hR.file b _ hf
    have hbl := hR.lt b hPb
    have hul : ∀ x, (u b).ownBlock = some x → x < w.heap.size := fun x hx => hR.lt x (hPu x hx)
    have HF := hid hF
    rw [hy, h0]
    rw [h0, hb] at HC
    have e0 : ptrV (some b) = .pointer (some ⟨b, 0, none⟩) := rfl
    rw [e0] at HC
    generalize (fileAt p b) = f at *
    clear hy hd hf hR hF e0
    obtain ⟨a, cap, hv, _⟩ := HF.out.own.shape
    generalize u b = v at *
    subst hv
    go_enter Tryz.func90, Tryz.ntmps90
    go_wp2_with (go_at_call 32; refine (HC.out).mono ?_; rintro e w1 ⟨rfl, h1⟩; have H1 := hid h1; have c0 : w1.cell? ⟨b, 0, none⟩ = some (.slice a f.b.length cap) := (h1.cell (p := ⟨b, 0, none⟩) hbl (fun h => h.elim)).trans (HF.out.blk.cell 0); clear h1)
    refine (clone_any (P := fun _ => True) _ f.b w1 ((HF.out.own.kept H1.out).byP (fun _ _ => trivial) (by omega) HF.out.byt) (by omega)).mono ?_
    rintro e w2 ⟨ad, cap2, rfl, ho, hn, hk⟩
    have HO := hid ho
    have HN := hid hn
    have HK := hid hk
    clear ho hn hk
    go_wp2
    go_ret2
    exact ⟨ad, cap2, rfl, HO.out, fun x hx => Nat.le_trans H1.out.size (HN.out x hx), H1.out.andNone HK.out⟩
  · have hy : pBytes (nm t) p = [] := by simp [pBytes, h0]
    have hn : foundP p (nm t) = none := by simp [foundP, h0]
    rw [hy]
    rw [hn] at HC
    have e0 : ptrV none = .pointer none := rfl
    rw [e0] at HC
    generalize finds p (nm t) = x at *
    have hne : ((x : Int) != 0) = true := by simp; omega
    clear hy hn h0 h hI e0
    go_enter Tryz.func90, Tryz.ntmps90
    go_wp2_with (go_at_call 32; refine (HC.out).mono ?_; rintro e w1 ⟨rfl, h1⟩; have H1 := hid h1; clear h1)
    go_ret2
    exact ⟨none, 0, rfl, OwnB.nil _, by simp [Value.ownBlock], H1.out⟩

set_option maxHeartbeats 1000000 in
theorem size_any {P : Nat → Prop} {N : Nat} (w : World) (s : Nat) (p : PS) (t : ByteArray) (ht : t.size ≤ 20000000) (h : Sys P N w s p) :
    Calls Tryz.prog 79 #[.pointer (some ⟨s, 0, none⟩), .string t] w fun e w' => e = .returned (.tuple #[.int .i64 ((pBytes (nm t) p).length : Nat), .int .i64 (finds p (nm t) : Nat)]) ∧ Kp No w w' := by
  have HC := hid (find_any w s p t ht h)
  have hI := h.inv
  by_cases h0 : finds p (nm t) = 0
  · obtain ⟨b, hb⟩ := found_zero hI h0
    obtain ⟨_, hd, hy⟩ := pBytes_of hb
    have hf := hI.hasFound hd
    have hlen := hI.lfile b _ hf
    have hbig := hI.big
    obtain ⟨vs, vf, vc, u, hR⟩ := h
    obtain ⟨hPb, hF, hPu⟩ := hR.file b _ hf
    have hbl := hR.lt b hPb
    have HF := hid hF
    rw [hy, h0]
    rw [h0, hb] at HC
    have e0 : ptrV (some b) = .pointer (some ⟨b, 0, none⟩) := rfl
    rw [e0] at HC
    generalize (fileAt p b) = f at *
    clear hy hd hf hR hF e0
    obtain ⟨a, cap, hv, _⟩ := HF.out.own.shape
    generalize u b = v at *
    subst hv
    go_enter Tryz.func79, Tryz.ntmps79
    go_wp2_with (go_at_call 32; refine (HC.out).mono ?_; rintro e w1 ⟨rfl, h1⟩; have H1 := hid h1; have c0 : w1.cell? ⟨b, 0, none⟩ = some (.slice a f.b.length cap) := (h1.cell (p := ⟨b, 0, none⟩) hbl (fun h => h.elim)).trans (HF.out.blk.cell 0); clear h1)
    go_ret2
    exact ⟨rfl, H1.out⟩
  · have hy : pBytes (nm t) p = [] := by simp [pBytes, h0]
    have hn : foundP p (nm t) = none := by simp [foundP, h0]
    rw [hy]
    rw [hn] at HC
    have e0 : ptrV none = .pointer none := rfl
    rw [e0] at HC
    generalize finds p (nm t) = x at *
    have hne : ((x : Int) != 0) = true := by simp; omega
    clear hy hn h0 h hI e0
    go_enter Tryz.func79, Tryz.ntmps79
    go_wp2_with (go_at_call 32; refine (HC.out).mono ?_; rintro e w1 ⟨rfl, h1⟩; have H1 := hid h1; clear h1)
    go_ret2
    exact ⟨rfl, H1.out⟩

theorem list_any {P : Nat → Prop} {N : Nat} (w : World) (s : Nat) (p : PS) (h : Sys P N w s p) :
    Calls Tryz.prog 74 #[.pointer (some ⟨s, 0, none⟩)] w fun e w' => ∃ u, e = .returned u ∧ OwnN w' u (pList p) ∧ (∀ x, u.ownBlock = some x → w.heap.size ≤ x) ∧ Kp No w w' := by
  obtain ⟨vs, vf, vc, u, h⟩ := h
  have q4 : w.cell? ⟨s, 4, none⟩ = some (.bool p.down) := h.c 4
  have q1 : w.cell? ⟨s, 1, none⟩ = some vs := h.c 1
  have HN := hid (names_any w vs p.seen h.seen (by have := h.inv.lseen; have := h.inv.big; omega))
  clear h
  unfold pList
  cases hd : p.down with
  | true =>
    rw [hd] at q4
    clear hd
    go_enter Tryz.func74, Tryz.ntmps74
    go_wp2
    go_ret
    exact ⟨_, rfl, Row.nil _ _ _, by simp [Value.ownBlock], Kp.refl _ _⟩
  | false =>
    rw [hd] at q4
    clear hd
    simp only [Bool.false_eq_true, if_false]
    go_enter Tryz.func74, Tryz.ntmps74
    go_wp2_with (go_at_call 40; refine (HN.out).mono ?_; rintro e w1 ⟨u1, rfl, h1, h2, h3⟩; have H1 := hid h1; have H2 := hid h2; have H3 := hid h3; clear h1 h2 h3)
    go_ret
    exact ⟨u1, rfl, H1.out, H2.out, H3.out⟩

end Go.Proofs.YtaaioaocjfpajaaGreatDoor.Sim
end
