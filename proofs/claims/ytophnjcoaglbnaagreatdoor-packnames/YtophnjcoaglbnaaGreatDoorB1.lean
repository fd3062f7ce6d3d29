/- Of the proof: the texts SimPlain, SimMem, PkName, PkNames, PkIdM, PkId, PkDec, SimName, SimRName, one behind the other. -/
import Derived.Sort.KeysCollected
import Derived.Maps.Ext
import Derived.Test.YtophnjcoaglbnaaGreatDoorRows
import Derived.WalkKit
import Derived.WalkSpells
import Derived.WalkLawsBesides
import Derived.Laws.AppendOwnNone
import Derived.Laws.NewBlocks
import Derived.Laws.LoneSync
import Derived.RegionCalls
import Derived.Deep.QuietTactic
import Derived.BigQuiet
import Derived.Maps.AppendAt
import Derived.Maps.OwnSet
import Derived.OneCell
import Derived.Lib.AppendZerosOnto
import Derived.ProofKit
import Derived.Test.YtophnjcoaglbnaaGreatDoorSimShelf
import Derived.Lib.AtoiErrMem
import Derived.Lib.ItoaLen
import Derived.Lib.AppendIntMem
import Derived.Lib.AtoiAll
import Derived.Laws.BytesArg
import Derived.Deep.RegionHeld3
import Derived.Lib.OthersKept
import Derived.Deep.LoopGhost
import Derived.Lib.TrimU
section
/-
  The files of the document as data: names, directories, changes, what each call makes of them.
-/
namespace Go.Proofs.YtophnjcoaglbnaaGreatDoor.Sim

abbrev Nm := List UInt8
/-- A file: its bytes, the first so many of which are safe. -/
structure Fl where
  b : List Nat
  safe : Nat
/-- A directory: names, each with a file (a block, or a number). -/
abbrev Dir := List (Nm × Nat)

def dfind (l : Dir) (n : Nm) : Option Nat := (l.find? (fun p => p.1 == n)).map (·.2)
def ddel (l : Dir) (n : Nm) : Dir := l.filter (fun p => !(p.1 == n))
def dins (x : Nm × Nat) : Dir → Dir
  | [] => [x]
  | y :: r => if bytesBefore x.1 y.1 then x :: y :: r else y :: dins x r
def dput (l : Dir) (n : Nm) (f : Nat) : Dir := dins (n, f) (ddel l n)

/-! ### A directory as a map that is read -/
abbrev DD := DataW Unit
def fileD (b : Nat) : DD := .lit (.int .i64 (b : Int))
def entD (p : Nm × Nat) : Lit × DD := (.string p.1, fileD p.2)
def dirD (l : Dir) : DD := .map (l.map entD)

theorem sameKey_str (a b : Nm) : (Lit.string a).sameKey (.string b) = (a == b) := rfl
theorem dirD_filter (l : Dir) (n : Nm) : (l.map entD).filter (fun p => !p.1.sameKey (.string n)) = (ddel l n).map entD := by
  unfold ddel
  rw [List.filter_map]
  rfl
theorem dirD_ins (x : Nm × Nat) : ∀ l : Dir, DataW.insert (entD x) (l.map entD) = (dins x l).map entD
  | [] => rfl
  | y :: r => by
    show (if bytesBefore x.1 y.1 then _ else _) = _
    unfold dins
    split
    · rfl
    · rw [List.map_cons, dirD_ins x r]
theorem dirD_put (l : Dir) (n : Nm) (f : Nat) : (dirD l).put (.string n) (fileD f) = dirD (dput l n f) := by
  show DataW.map (DataW.insert (entD (n, f)) ((l.map entD).filter fun p => !p.1.sameKey (.string n))) = _
  rw [dirD_filter, dirD_ins]
  rfl
theorem dirD_del (l : Dir) (n : Nm) : (dirD l).del (.string n) = dirD (ddel l n) := by
  show DataW.map ((l.map entD).filter fun p => !p.1.sameKey (.string n)) = _
  rw [dirD_filter]
  rfl
theorem find_map_entD (n : Nm) : ∀ l : Dir, (l.map entD).find? (fun p => p.1.sameKey (.string n)) = (l.find? (fun p => p.1 == n)).map entD
  | [] => rfl
  | y :: r => by
    have e : (entD y).1.sameKey (.string n) = (y.1 == n) := rfl
    rw [List.map_cons, List.find?_cons, List.find?_cons, e]
    split
    · rfl
    · exact find_map_entD n r
theorem dirD_at (l : Dir) (n : Nm) (z : DD) : (dirD l).atKey (.string n) z = match dfind l n with | some b => fileD b | none => z := by
  have h := find_map_entD n l
  unfold DataW.atKey dirD
  simp only [h, dfind]
  cases l.find? (fun p => p.1 == n) <;> rfl
theorem dirD_has (l : Dir) (n : Nm) : Maps.has (dirD l) (.string n) = (dfind l n).isSome := by
  show (l.map entD).any (fun p => p.1.sameKey (.string n)) = _
  rw [dfind, Option.isSome_map, List.isSome_find?, List.any_map]
  rfl
theorem dirD_size (l : Dir) : Maps.size (dirD l) = l.length := by
  show (l.map entD).length = _
  simp
theorem dirD_keys (l : Dir) : strKeys (dirD l) = l.map (·.1) := by
  show (l.map entD).map (fun p => strOf p.1) = _
  rw [List.map_map]
  rfl

/-! ### Rising names -/
def Ris (l : Dir) : Prop := l.Pairwise (fun p q => bytesBefore p.1 q.1 = true)
theorem ris_of_canon {l : Dir} (h : Maps.Canon (dirD l)) : Ris l := by
  obtain ⟨es, e, h1, _⟩ := h
  have e' : es = l.map entD := (DataW.map.inj e).symm
  subst e'
  exact (List.pairwise_map.1 h1)
theorem Ris.nodup {l : Dir} (h : Ris l) : (l.map (·.1)).Nodup := by
  unfold List.Nodup
  rw [List.pairwise_map]
  exact h.imp (fun {a b} hab e => by rw [e, WideAt.bytes_irrefl] at hab; cases hab)
theorem mem_dins (x p : Nm × Nat) : ∀ l : Dir, p ∈ dins x l ↔ p = x ∨ p ∈ l
  | [] => by simp [dins]
  | y :: r => by
    unfold dins
    split
    · simp
    · simp only [List.mem_cons, mem_dins x p r]
      constructor
      · rintro (h | h | h)
        · exact .inr (.inl h)
        · exact .inl h
        · exact .inr (.inr h)
      · rintro (h | h | h)
        · exact .inr (.inl h)
        · exact .inl h
        · exact .inr (.inr h)
theorem length_dins (x : Nm × Nat) : ∀ l : Dir, (dins x l).length = l.length + 1
  | [] => rfl
  | y :: r => by
    unfold dins
    split
    · rfl
    · simp [length_dins x r]
theorem mem_ddel {l : Dir} {n : Nm} {p : Nm × Nat} : p ∈ ddel l n ↔ p ∈ l ∧ p.1 ≠ n := by
  unfold ddel
  rw [List.mem_filter]
  simp
theorem mem_dput {l : Dir} {n : Nm} {f : Nat} {p : Nm × Nat} : p ∈ dput l n f ↔ p = (n, f) ∨ (p ∈ l ∧ p.1 ≠ n) := by
  unfold dput
  rw [mem_dins, mem_ddel]
theorem length_ddel (l : Dir) (n : Nm) : (ddel l n).length ≤ l.length := List.length_filter_le _ _
theorem length_dput (l : Dir) (n : Nm) (f : Nat) : (dput l n f).length ≤ l.length + 1 := by
  unfold dput
  rw [length_dins]
  have := length_ddel l n
  omega
theorem Ris.del {l : Dir} (h : Ris l) (n : Nm) : Ris (ddel l n) := h.filter _
theorem ris_ins {x : Nm × Nat} : ∀ {l : Dir}, Ris l → (∀ p ∈ l, p.1 ≠ x.1) → Ris (dins x l)
  | [], _, _ => by simp [dins, Ris]
  | y :: r, h, hn => by
    obtain ⟨h1, h2⟩ := List.pairwise_cons.1 h
    unfold dins
    split
    · rename_i hb
      refine List.pairwise_cons.2 ⟨fun p hp => ?_, h⟩
      rcases List.mem_cons.1 hp with rfl | hp
      · exact hb
      · exact WideShapes.bytes_trans _ _ _ hb (h1 p hp)
    · rename_i hb
      have hyx : bytesBefore y.1 x.1 = true := by
        rcases WideAt.bytes_total y.1 x.1 (hn y (by simp)) with h | h
        · exact h
        · exact absurd h hb
      refine List.pairwise_cons.2 ⟨fun p hp => ?_, ris_ins h2 (fun p hp => hn p (by simp [hp]))⟩
      rcases (mem_dins x p r).1 hp with rfl | hp
      · exact hyx
      · exact h1 p hp
theorem Ris.put {l : Dir} (h : Ris l) (n : Nm) (f : Nat) : Ris (dput l n f) := ris_ins (h.del n) (fun _ hp => (mem_ddel.1 hp).2)
theorem mem_of_dfind {l : Dir} {n : Nm} {b : Nat} (h : dfind l n = some b) : (n, b) ∈ l := by
  unfold dfind at h
  cases hf : l.find? (fun p => p.1 == n) with
  | none => rw [hf] at h; cases h
  | some p =>
    rw [hf] at h
    have h1 := List.mem_of_find?_eq_some hf
    have h2 := List.find?_some hf
    simp at h h2
    obtain ⟨x, y⟩ := p
    simp at h h2
    subst h h2
    exact h1
theorem dfind_none {l : Dir} {n : Nm} (h : dfind l n = none) : ∀ p ∈ l, p.1 ≠ n := by
  unfold dfind at h
  rw [Option.map_eq_none_iff, List.find?_eq_none] at h
  intro p hp
  simpa using h p hp
theorem dfind_of_mem {l : Dir} (hr : (l.map (·.1)).Nodup) {n : Nm} {b : Nat} (h : (n, b) ∈ l) : dfind l n = some b := by
  cases hf : dfind l n with
  | none => exact absurd rfl (dfind_none hf _ h)
  | some c =>
    have h2 := mem_of_dfind hf
    have : (n, b) = (n, c) := by
      refine Classical.byContradiction fun hne => ?_
      have hp := List.pairwise_map.1 hr
      rw [List.pairwise_iff_forall_sublist] at hp
      rcases List.mem_iff_append.1 h with ⟨s, t, rfl⟩
      rcases List.mem_append.1 h2 with h2 | h2
      · rw [List.map_append, List.nodup_append] at hr
        exact hr.2.2 n (List.mem_map.2 ⟨_, h2, rfl⟩) n (by simp) rfl
      · rcases List.mem_cons.1 h2 with e | h2
        · exact hne e.symm
        · rw [List.map_append, List.nodup_append] at hr
          have := hr.2.1
          rw [List.map_cons, List.nodup_cons] at this
          exact this.1 (List.mem_map.2 ⟨_, h2, rfl⟩)
    simp at this
    rw [this]

/-! ### Names -/
def sign (c : UInt8) : Bool := decide (33 ≤ c.toNat) && decide (c.toNat ≤ 126) && !(c.toNat == 47)
def nameB (n : Nm) : Bool := decide (1 ≤ n.length) && decide (n.length ≤ 40) && n.all sign

/-! ### Changes -/
/-- kind 0: made, with a file; 1: removed; 2: moved. -/
structure PC where
  kind : Nat
  nm : Nm
  to : Nm
  file : Nat
def pdo (d : Dir) (c : PC) : Dir :=
  if c.kind = 0 then dput d c.nm c.file else if c.kind = 1 then ddel d c.nm else dput (ddel d c.nm) c.to ((dfind d c.nm).getD 0)
def okc (d : Dir) (c : PC) : Prop := c.kind ≤ 2 ∧ (c.kind = 2 → (dfind d c.nm).isSome = true)
def okcs : Dir → List PC → Prop
  | _, [] => True
  | d, c :: r => okc d c ∧ okcs (pdo d c) r
theorem okcs_append (d : Dir) : ∀ (l m : List PC), okcs d (l ++ m) ↔ okcs d l ∧ okcs (l.foldl pdo d) m := by
  intro l
  induction l generalizing d with
  | nil => intro m; simp [okcs]
  | cons c r ih => intro m; simp only [List.cons_append, okcs, ih, List.foldl_cons, and_assoc]
theorem length_pdo (d : Dir) (c : PC) : (pdo d c).length ≤ d.length + 1 := by
  unfold pdo
  split
  · exact length_dput _ _ _
  · split
    · have := length_ddel d c.nm; omega
    · have := length_dput (ddel d c.nm) c.to ((dfind d c.nm).getD 0)
      have := length_ddel d c.nm
      omega
theorem Ris.pdo {d : Dir} (h : Ris d) (c : PC) : Ris (pdo d c) := by
  unfold YtophnjcoaglbnaaGreatDoor.Sim.pdo
  split
  · exact h.put _ _
  · split
    · exact h.del _
    · exact (h.del _).put _ _
theorem Ris.fold {d : Dir} (h : Ris d) : ∀ (l : List PC), Ris (l.foldl YtophnjcoaglbnaaGreatDoor.Sim.pdo d) := by
  intro l
  induction l generalizing d with
  | nil => exact h
  | cons c r ih => exact ih (h.pdo c)

/-! ### The program's state -/
structure PS where
  room : Nat
  made : Bool
  seen : Dir
  safe : Dir
  chg : List PC
  down : Bool
  armed : Bool
  left : Nat
  steps : Nat
  files : Nat → Option Fl

def dead (p : PS) : Bool := p.armed && p.left == 0
def fall (p : PS) : PS := { p with down := true }
def tick (p : PS) : PS := { p with left := if p.armed then p.left - 1 else p.left, steps := p.steps + 1 }
/-- A step: what is done, and the fault. -/
def stp (p : PS) (g : PS → PS) : Nat × PS := if dead p then (12, fall p) else (0, g (tick p))
def setF (b : Nat) (f : Fl) (p : PS) : PS := { p with files := fun x => if x = b then some f else p.files x }
def chgd (c : PC) (p : PS) : PS := { p with made := true, seen := pdo p.seen c, chg := p.chg ++ [c] }
def settle (k : Nat) (p : PS) : PS := { p with safe := (p.chg.take k).foldl pdo p.safe, chg := [] }
def fileAt (p : PS) (b : Nat) : Fl := (p.files b).getD ⟨[], 0⟩
def used (p : PS) : Nat := (p.seen.map fun e => (fileAt p e.2).b.length).sum
def wrongs (p : PS) (l : List Nm) : Nat := if p.down then 12 else if l.all nameB then 0 else 10

def pCreate (n : Nm) (b : Nat) (p : PS) : Nat × PS :=
  if wrongs p [n] ≠ 0 then (wrongs p [n], p) else if (dfind p.seen n).isSome then (6, p) else stp p (fun q => chgd ⟨0, n, [], b⟩ (setF b ⟨[], 0⟩ q))
/-- The fault of a name that must be there. -/
def finds (p : PS) (n : Nm) : Nat := if wrongs p [n] ≠ 0 then wrongs p [n] else if (dfind p.seen n).isSome then 0 else 5
def blockOf (p : PS) (n : Nm) : Nat := (dfind p.seen n).getD 0
def pAppend (n : Nm) (bs : List Nat) (p : PS) : Nat × PS :=
  if finds p n ≠ 0 then (finds p n, p) else if used p + bs.length > p.room then (11, p)
  else stp p (setF (blockOf p n) ⟨(fileAt p (blockOf p n)).b ++ bs, (fileAt p (blockOf p n)).safe⟩)
def pBytes (n : Nm) (p : PS) : List Nat := if finds p n ≠ 0 then [] else (fileAt p (blockOf p n)).b
def pRename (n t : Nm) (p : PS) : Nat × PS :=
  if wrongs p [n, t] ≠ 0 then (wrongs p [n, t], p) else if (dfind p.seen n).isSome then stp p (chgd ⟨2, n, t, 0⟩) else (5, p)
def pRemove (n : Nm) (p : PS) : Nat × PS := if finds p n ≠ 0 then (finds p n, p) else stp p (chgd ⟨1, n, [], 0⟩)
def pFsync (n : Nm) (p : PS) : Nat × PS :=
  if finds p n ≠ 0 then (finds p n, p) else stp p (setF (blockOf p n) ⟨(fileAt p (blockOf p n)).b, (fileAt p (blockOf p n)).b.length⟩)
def pSyncDir (p : PS) : Nat × PS := if wrongs p [] ≠ 0 then (wrongs p [], p) else stp p (settle p.chg.length)
def pArm (k : Int) (p : PS) : Nat × PS := if wrongs p [] ≠ 0 then (wrongs p [], p) else if k < 0 then (1, p) else (0, { p with armed := true, left := k.toNat })
/-- What a file keeps. -/
def lose (cut : Int) (f : Fl) : Fl :=
  let b := f.b.take (f.safe + min (max cut 0).toNat (f.b.length - f.safe))
  ⟨b, b.length⟩
def loses : Dir → Nat → List Int → PS → PS
  | [], _, _, p => p
  | e :: r, i, cuts, p => loses r (i + 1) cuts (setF e.2 (lose (cuts.getD i 0) (fileAt p e.2)) p)
def pUp (k : Int) (cuts : List Int) (p : PS) : PS :=
  let q := settle (min (max k 0).toNat p.chg.length) p
  let r := loses q.safe 0 cuts q
  { r with seen := r.safe, down := false, armed := false, left := 0 }
def pFlip (n : Nm) (at' : Int) (by' : Nat) (p : PS) : Nat × PS :=
  if finds p n ≠ 0 then (finds p n, p) else if at' < 0 ∨ (fileAt p (blockOf p n)).b.length ≤ at' then (1, p)
  else (0, setF (blockOf p n) ⟨(fileAt p (blockOf p n)).b.set at'.toNat ((fileAt p (blockOf p n)).b.getD at'.toNat 0 ^^^ by'), (fileAt p (blockOf p n)).safe⟩ p)
def pList (p : PS) : List Nm := if p.down then [] else p.seen.map (·.1)

end Go.Proofs.YtophnjcoaglbnaaGreatDoor.Sim
end

section
/-
  What stays as it was; bytes, rows and structs in memory.
-/
namespace Go.Proofs.YtophnjcoaglbnaaGreatDoor.Sim
open Go.RowKit

theorem hid {p : Prop} (h : p) : Hid p := h
theorem getD_at {bs : List Nat} {k : Nat} (hk : k < bs.length) : bs.getD k 0 = bs[k] := by rw [List.getD_eq_getElem?_getD, List.getElem?_eq_getElem hk, Option.getD_some]
theorem addr_add (g o i : Nat) : (⟨g, o, none⟩ : Addr).add i = ⟨g, o + i, none⟩ := by unfold Addr.add; split <;> simp_all
theorem cell_other {w : World} {b i j : Nat} {x : Value} (h : j ≠ i) : (w.setCell ⟨b, i, none⟩ x).cell? ⟨b, j, none⟩ = w.cell? ⟨b, j, none⟩ := World.cell?_setCell_other _ _ _ _ (by simp only [ne_eq, Addr.mk.injEq, true_and, and_true]; omega)

/-! ### What stays as it was -/
/-- All blocks that are not in L hold what they held. -/
structure Kp (L : Nat → Prop) (w w' : World) : Prop where
  os : w'.os = w.os
  tape : w'.tape = w.tape
  output : w'.output = w.output
  size : w.heap.size ≤ w'.heap.size
  block : ∀ k, k < w.heap.size → ¬ L k → w'.heap[k]? = w.heap[k]?

def No : Nat → Prop := fun _ => False
theorem Kp.refl (L : Nat → Prop) (w : World) : Kp L w w := ⟨rfl, rfl, rfl, Nat.le_refl _, fun _ _ _ => rfl⟩
/-- One behind the other: what the second one writes is the first one's, or new. -/
theorem Kp.trans {L M : Nat → Prop} {u v w : World} (h : Kp L u v) (k : Kp M v w) (hm : ∀ x, M x → L x ∨ u.heap.size ≤ x) : Kp L u w :=
  ⟨k.os.trans h.os, k.tape.trans h.tape, k.output.trans h.output, Nat.le_trans h.size k.size, fun i h1 h2 => (k.block i (Nat.lt_of_lt_of_le h1 h.size) (fun hi => by
    rcases hm i hi with h | h
    · exact h2 h
    · omega)).trans (h.block i h1 h2)⟩
theorem Kp.mono {L M : Nat → Prop} {u w : World} (h : Kp L u w) (hs : ∀ x, L x → M x ∨ u.heap.size ≤ x) : Kp M u w := (Kp.refl M u).trans h hs
theorem Kp.ofNo {M : Nat → Prop} {u w : World} (h : Kp No u w) : Kp M u w := h.mono (fun _ hx => hx.elim)
theorem Kp.andNone {L : Nat → Prop} {u v w : World} (h : Kp L u v) (k : Kp No v w) : Kp L u w := h.trans k (fun _ hx => hx.elim)
theorem Kp.below {L : Nat → Prop} {u w : World} (h : Below u.heap.size u w) : Kp L u w := ⟨h.os, h.tape, h.output, h.size, fun k hk _ => h.block k hk⟩
theorem Kp.alloc {L : Nat → Prop} {u w : World} (h : Kp L u w) (o : Obj) : Kp L u (w.alloc o) := h.trans (M := No) (Kp.below ((Below.refl _ _).alloc (Nat.le_refl _) _)) (fun _ hx => hx.elim)
theorem Kp.setCell {L : Nat → Prop} {u w : World} (h : Kp L u w) {p : Addr} (hp : L p.block ∨ u.heap.size ≤ p.block) (x : Value) : Kp L u (w.setCell p x) :=
  ⟨h.os, h.tape, h.output, by simpa using h.size, fun k h1 h2 => (Below.heap_setCell _ _ _ _ (by
    intro e
    rcases hp with hp | hp
    · exact h2 (e ▸ hp)
    · omega)).trans (h.block k h1 h2)⟩
theorem Kp.drew {L : Nat → Prop} {u w : World} (h : Kp L u w) : Kp L u w.drew := ⟨h.os, h.tape, h.output, h.size, h.block⟩
theorem Kp.drewN {L : Nat → Prop} {u w : World} (h : Kp L u w) (q : Nat) : Kp L u (w.drewN q) := h.trans (M := No) (Kp.below (below_drewN (Below.refl _ _) q)) (fun _ hx => hx.elim)
theorem Kp.grown {L : Nat → Prop} {u w w' : World} {row : Option Nat} (h : Kp L u w) (hg : w.grownBy w' row) (hr : ∀ x, row = some x → L x ∨ u.heap.size ≤ x) : Kp L u w' :=
  ⟨hg.os.trans h.os, hg.tape.trans h.tape, hg.output.trans h.output, Nat.le_trans h.size hg.size, fun k h1 h2 => (hg.block k (Nat.lt_of_lt_of_le h1 h.size) (fun e => by
    rcases hr k e.symm with h | h
    · exact h2 h
    · omega)).trans (h.block k h1 h2)⟩
theorem Kp.ofGrown {w w' : World} {row : Option Nat} (hg : w.grownBy w' row) : Kp (fun x => row = some x) w w' := (Kp.refl _ _).grown hg (fun _ h => .inl h)
theorem Kp.cell {L : Nat → Prop} {w w' : World} (h : Kp L w w') {p : Addr} (h1 : p.block < w.heap.size) (h2 : ¬ L p.block) : w'.cell? p = w.cell? p := World.cell?_of_block (w := w) (h.block p.block h1 h2)
theorem Kp.frozen {L : Nat → Prop} {w w' : World} (h : Kp L w w') {p : Addr} (h1 : p.block < w.heap.size) (h2 : ¬ L p.block) : w'.frozen? p = w.frozen? p := World.frozen?_of_block (w := w) (h.block p.block h1 h2)
theorem Kp.toBelow {L : Nat → Prop} {u w : World} (k : Kp L u w) (hb : ∀ x, L x → u.heap.size ≤ x) : Below u.heap.size u w :=
  ⟨k.os, k.tape, k.output, k.size, fun i hi => k.block i hi (fun hm => by have := hb i hm; omega)⟩
theorem Kp.toBelow' {u w : World} (k : Kp No u w) : Below u.heap.size u w := k.toBelow (fun _ h => h.elim)
/-- .. of a world ahead. -/
theorem Kp.under {L : Nat → Prop} {B : Nat} {u v w : World} (h : Below B u v) (k : Kp L v w) (hb : ∀ x, L x → B ≤ x) (hB : B ≤ v.heap.size) : Below B u w :=
  h.trans ⟨k.os, k.tape, k.output, k.size, fun i hi => k.block i (by omega) (fun hm => by have := hb i hm; omega)⟩

/-! ### A block of cells, whole -/
def Blk (w : World) (b : Nat) (t : TypeId) (cs : List Value) : Prop := w.heap[b]? = some (.cells cs.toArray t (0, 0))
theorem Blk.lt {w : World} {b : Nat} {t : TypeId} {cs : List Value} (h : Blk w b t cs) : b < w.heap.size := (Array.getElem?_eq_some_iff.1 h).1
theorem Blk.kp {L : Nat → Prop} {w w' : World} {b : Nat} {t : TypeId} {cs : List Value} (h : Blk w b t cs) (k : Kp L w w') (hb : ¬ L b) : Blk w' b t cs := (k.block b h.lt hb).trans h
theorem Blk.ne {w : World} {b b' : Nat} {t t' : TypeId} {cs cs' : List Value} (h : Blk w b t cs) (h' : Blk w b' t' cs') (ht : t ≠ t') : b ≠ b' := by
  intro e
  subst e
  unfold Blk at h h'
  rw [h] at h'
  simp at h'
  exact ht h'.2
theorem Blk.cell {w : World} {b : Nat} {t : TypeId} {cs : List Value} (h : Blk w b t cs) (j : Nat) : w.cell? ⟨b, j, none⟩ = cs[j]? := by
  unfold Blk at h
  simp [World.cell?, h]
theorem Blk.frozen {w : World} {b : Nat} {t : TypeId} {cs : List Value} (h : Blk w b t cs) (j : Nat) : w.frozen? ⟨b, j, none⟩ = false := by
  unfold Blk at h
  simp [World.frozen?, h]
theorem Blk.new (w : World) (t : TypeId) (cs : List Value) : Blk (w.alloc (.cells cs.toArray t)) w.heap.size t cs := (MapKept.heap_alloc w _).1
theorem Blk.setCell {w : World} {b : Nat} {t : TypeId} {cs : List Value} (h : Blk w b t cs) (j : Nat) (x : Value) : Blk (w.setCell ⟨b, j, none⟩ x) b t (cs.set j x) := by
  unfold Blk at h ⊢
  simp [World.setCell, Array.getElem?_modify, h]

/-! ### Bytes that are read -/
/-- Bytes as cells. -/
def cl (xs : List Nat) : List Value := xs.map fun x : Nat => .int .u8 (x : Int)
theorem cl_length (xs : List Nat) : (cl xs).length = xs.length := by simp [cl]
theorem cl_append (xs ys : List Nat) : cl (xs ++ ys) = cl xs ++ cl ys := by simp [cl]
theorem cl_at (xs : List Nat) (i : Nat) (h : i < xs.length) : (cl xs)[i]? = some (.int .u8 (xs.getD i 0 : Nat)) := by simp [cl, List.getElem?_eq_getElem h]
theorem cl_one (xs : List Nat) : ∀ u ∈ cl xs, u.oneCell' = true := by intro u hu; obtain ⟨x, _, rfl⟩ := List.mem_map.1 hu; rfl

/-- v is a slice of the bytes bs, in a block of which P. -/
def ByP (P : Nat → Prop) (w : World) (v : Value) (bs : List Nat) : Prop :=
  ∃ a cap, v = .slice a bs.length cap ∧ bs.length ≤ cap ∧ cap ≤ maxLen ∧ (a = none → bs = [] ∧ cap = 0) ∧ bs.length ≤ 140737488355328 ∧ (∀ x ∈ bs, x < 256) ∧
    (bs ≠ [] → ∃ g o, a = some ⟨g, o, none⟩ ∧ P g ∧ g < w.heap.size ∧ ∀ i, i < bs.length → w.cell? ⟨g, o + i, none⟩ = some (.int .u8 (bs.getD i 0 : Nat)))

theorem ByP.nil (P : Nat → Prop) (w : World) : ByP P w (.slice none 0 0) [] := ⟨_, 0, rfl, Nat.le_refl _, Nat.zero_le _, fun _ => ⟨rfl, rfl⟩, by simp, by simp, fun h => absurd rfl h⟩
theorem ByP.mono {P Q : Nat → Prop} {w : World} {v : Value} {bs : List Nat} (h : ByP P w v bs) (hm : ∀ x, x < w.heap.size → P x → Q x) : ByP Q w v bs := by
  obtain ⟨a, cap, h1, h2, h3, h4, h5, h6, h7⟩ := h
  refine ⟨a, cap, h1, h2, h3, h4, h5, h6, fun hne => ?_⟩
  obtain ⟨g, o, e, hgb, hg, hc⟩ := h7 hne
  exact ⟨g, o, e, hm g hg hgb, hg, hc⟩
theorem ByP.kp {P L : Nat → Prop} {w w' : World} {v : Value} {bs : List Nat} (h : ByP P w v bs) (k : Kp L w w') (hm : ∀ x, L x → x < w.heap.size → ¬ P x) : ByP P w' v bs := by
  obtain ⟨a, cap, h1, h2, h3, h4, h5, h6, h7⟩ := h
  refine ⟨a, cap, h1, h2, h3, h4, h5, h6, fun hne => ?_⟩
  obtain ⟨g, o, e, hgb, hg, hc⟩ := h7 hne
  exact ⟨g, o, e, hgb, Nat.lt_of_lt_of_le hg k.size, fun i hi => (k.cell (p := ⟨g, o + i, none⟩) hg (fun hx => hm g hx hg hgb)).trans (hc i hi)⟩
theorem ByP.kept {P : Nat → Prop} {w w' : World} {v : Value} {bs : List Nat} (h : ByP P w v bs) (k : Kp No w w') : ByP P w' v bs := h.kp k (fun _ hx => hx.elim)
theorem ByP.front {P : Nat → Prop} {w : World} {a : Option Addr} {n0 cap : Nat} {bs : List Nat} (h : ByP P w (.slice a n0 cap) bs) (n : Nat) (hn : n ≤ bs.length) : ByP P w (.slice a n cap) (bs.take n) := by
  obtain ⟨a', cap', e, h2, h3, h4, h5, h6, h7⟩ := h
  cases e
  have hl : (bs.take n).length = n := List.length_take_of_le hn
  refine ⟨a, cap, by rw [hl], by omega, h3, fun e => ?_, by omega, fun x hx => h6 x (List.mem_of_mem_take hx), fun hne => ?_⟩
  · obtain ⟨rfl, rfl⟩ := h4 e
    exact ⟨by simp, rfl⟩
  · have hb : bs ≠ [] := fun e => hne (by rw [e]; simp)
    obtain ⟨g, o, e, hg, hg', hc⟩ := h7 hb
    refine ⟨g, o, e, hg, hg', fun i hi => ?_⟩
    rw [hc i (by omega)]
    have : (bs.take n).getD i 0 = bs.getD i 0 := by simp [show i < n by omega]
    rw [this]

/-! ### Rows of the call's own -/
/-- v is a row of the call's own, of n elements of the type e, each of sz cells. -/
def Row (w : World) (e : TypeId) (sz : Nat) (v : Value) (n : Nat) (xs : List Value) : Prop := w.ownsRow 0 e sz v n xs

theorem Row.nil (w : World) (e : TypeId) (sz : Nat) : Row w e sz (.slice none 0 0) 0 [] := World.ownsRow_nil _ _ _ _
theorem Row.kp {L : Nat → Prop} {w w' : World} {e : TypeId} {sz n : Nat} {v : Value} {xs : List Value} (h : Row w e sz v n xs) (k : Kp L w w') (hv : ∀ x, v.ownBlock = some x → ¬ L x) : Row w' e sz v n xs := by
  refine ⟨h.1, ?_⟩
  rcases h.2 with hn | ⟨g, cap, cur, rfl, hb, hgg, rest⟩
  · exact .inl hn
  · exact .inr ⟨g, cap, cur, rfl, hb, by rw [k.block g (Array.getElem?_eq_some_iff.1 hgg).1 (hv g rfl)]; exact hgg, rest⟩
theorem Row.kept {w w' : World} {e : TypeId} {sz n : Nat} {v : Value} {xs : List Value} (h : Row w e sz v n xs) (k : Kp No w w') : Row w' e sz v n xs := h.kp k (fun _ _ hx => hx.elim)
theorem Row.lt {w : World} {e : TypeId} {sz n : Nat} {v : Value} {xs : List Value} (h : Row w e sz v n xs) : ∀ x, v.ownBlock = some x → x < w.heap.size := fun x hx => (World.ownsRow.lt h x hx).2
/-- Blocks of other types are other blocks. -/
theorem Row.ne {w : World} {e : TypeId} {sz n : Nat} {v : Value} {xs : List Value} (h : Row w e sz v n xs) {b : Nat} {cs : List Value} {t : TypeId} (hb : Blk w b t cs) (ht : t ≠ e) : v.ownBlock ≠ some b := by
  rcases h.2 with ⟨rfl, _⟩ | ⟨g, cap, cur, rfl, _, hgg, _⟩
  · simp [Value.ownBlock]
  · intro hx
    simp [Value.ownBlock] at hx
    subst hx
    unfold Blk at hb
    rw [hgg] at hb
    simp at hb
    exact ht hb.2.symm
theorem Row.ne' {w : World} {e e' : TypeId} {sz n sz' n' : Nat} {v v' : Value} {xs xs' : List Value} (h : Row w e sz v n xs) (h' : Row w e' sz' v' n' xs') (ht : e ≠ e') : ∀ x, v.ownBlock = some x → v'.ownBlock ≠ some x := by
  intro x hx hx'
  rcases h.2 with ⟨rfl, _⟩ | ⟨g, cap, cur, rfl, _, hgg, _⟩
  · simp [Value.ownBlock] at hx
  · rcases h'.2 with ⟨rfl, _⟩ | ⟨g', cap', cur', rfl, _, hgg', _⟩
    · simp [Value.ownBlock] at hx'
    · simp [Value.ownBlock] at hx hx'
      subst hx hx'
      rw [hgg] at hgg'
      simp at hgg'
      exact ht hgg'.2
theorem Row.shape {w : World} {e : TypeId} {sz n : Nat} {v : Value} {xs : List Value} (h : Row w e sz v n xs) : ∃ a cap, v = .slice a n cap ∧ n ≤ cap ∧ cap ≤ maxLen ∧ (a = none → n = 0 ∧ cap = 0) ∧ ∀ x, a = some x → x.spot = none ∧ x.off = 0 := by
  rcases h.2 with ⟨rfl, h0⟩ | ⟨g, cap, cur, rfl, hg, hh, hn, hc, hs, ht⟩
  · subst h0
    exact ⟨none, 0, rfl, Nat.le_refl _, Nat.zero_le _, fun _ => ⟨rfl, rfl⟩, by simp⟩
  · exact ⟨_, cap, rfl, hn, hc, by simp, fun x hx => by cases hx; exact ⟨rfl, rfl⟩⟩
theorem Row.cellAt {w : World} {e : TypeId} {sz n g cap : Nat} {xs : List Value} (h : Row w e sz (.slice (some ⟨g, 0, none⟩) n cap) n xs) (i : Nat) (hi : i < n * sz) : w.cell? ⟨g, i, none⟩ = xs[i]? := by
  obtain ⟨hl, h2⟩ := h
  have hx : xs[i]? = some xs[i] := List.getElem?_eq_getElem (by omega)
  have h3 := World.ownsRow.cells (w := w) (base := 0) (e := e) (size := sz) (v := .slice (some ⟨g, 0, none⟩) n cap) (n := n) (xs := xs) ⟨hl, h2⟩ (g := g) rfl i xs[i] hx
  rw [addr_add, Nat.zero_add] at h3
  rw [h3, hx]

/-- The values of a slice that is read. -/
def Src (w : World) (v : Value) (m sz : Nat) (ys : List Value) : Prop :=
  (v = .slice none 0 0 ∧ m = 0 ∧ ys = []) ∨ ∃ ad c, v = .slice (some ad) m c ∧ ys.length = m * sz ∧ (∀ j u, ys[j]? = some u → w.cell? (ad.add j) = some u) ∧ ∀ u ∈ ys, u.oneCell' = true

/-- append(v, x...), v of the call's own. -/
theorem app_row {ops : Array Oper} {rest : List Oper} {o : Oper} {a : Act} {Q : Exit → Act → World → Prop} (w : World) (hgd : o.guard = none) (s x : Operand) (t e : TypeId) (z : Value) (sz by' : Nat)
    (ho : o.op = .call { callee := .builtin .append, args := #[s, x], argTypes := #[t, t] }) (ht : Tryz.prog.underlying t = some (.slice e)) (hin : (Tryz.prog.info? e).map (fun i => (i.zero, i.size, i.bytes)) = some (some z, sz, by'))
    (hz1 : z.cells.size = sz) (hsz : 0 < sz) (v vx : Value) (n m : Nat) (xs ys : List Value) (hs : a.eval s = v) (hx : a.eval x = vx)
    (hown : Row w e sz v n xs) (hy : Src w vx m sz ys) (hlen : n + m ≤ 1000000) (hby : by' ≤ 1000)
    (h : ∀ ad cap w', Row w' e sz (.slice ad (n + m) cap) (n + m) (xs ++ ys) → w.grownBy w' v.ownBlock → ((Value.slice ad (n + m) cap).ownBlock = v.ownBlock ∨ (Value.slice ad (n + m) cap).ownBlock = some w.heap.size) → wpList Tryz.prog ops Q rest (a.put o.dst (.slice ad (n + m) cap)) w') : wpList Tryz.prog ops Q (o :: rest) a w := by
  obtain ⟨i0, hi, hz0, hz1', hz2⟩ := info_parts hin
  rcases hy with ⟨rfl, rfl, rfl⟩ | ⟨ad, c, rfl, hl, hc, h1⟩
  · refine wpList_append_own_none hgd s x t ho 0 e i0 sz ht hi v n xs hs hown hx ?_
    obtain ⟨ad, cap, rfl, _⟩ := hown.shape
    exact h ad cap w (by rw [List.append_nil]; exact hown) ⟨rfl, rfl, rfl, Nat.le_refl _, fun _ _ _ => rfl⟩ (.inl rfl)
  · refine wpList_append_own_at (P := Tryz.prog) w hgd s x t ho 0 e i0 z sz by' ht hi hz0 hz1' hz2 hz1 hsz v n xs hs hown ad m c ys hx hl hc h1 (by unfold maxLen; omega) ?_ (Nat.zero_le _) ?_
    · have : (n + m) * by' ≤ 1000000 * 1000 := Nat.mul_le_mul hlen hby
      omega
    · intro v' w' h8 h9 _ h10
      have h8' : Row w' e sz v' (n + m) (xs ++ ys) := h8
      obtain ⟨ad', cap', rfl, _⟩ := h8'.shape
      exact h ad' cap' w' h8 h9 h10

/-- A literal of one element. -/
theorem Src.one (w : World) (us : List Value) (sz : Nat) (t : TypeId) (hl : us.length = sz) (h1 : ∀ u ∈ us, u.oneCell' = true) : Src (w.alloc (.cells us.toArray t)) (.slice (some ⟨w.heap.size, 0, none⟩) 1 1) 1 sz us :=
  .inr ⟨_, 1, rfl, by omega, fun j x hj => by
    rw [addr_add, World.cell?_alloc_at _ _ _ _ rfl]
    simpa using hj, h1⟩

/-! ### Bytes of the call's own -/
/-- v is a row of the call's own, of the bytes xs. -/
def OwnB (w : World) (v : Value) (xs : List Nat) : Prop := Row w 5 1 v xs.length (cl xs)
theorem OwnB.row {w : World} {v : Value} {xs : List Nat} (h : OwnB w v xs) : Row w 5 1 v xs.length (cl xs) := h
theorem OwnB.nil (w : World) : OwnB w (.slice none 0 0) [] := Row.nil _ _ _
theorem OwnB.shape {w : World} {v : Value} {xs : List Nat} (h : OwnB w v xs) : ∃ a cap, v = .slice a xs.length cap ∧ xs.length ≤ cap ∧ cap ≤ maxLen ∧ (a = none → xs = [] ∧ cap = 0) := by
  obtain ⟨a, cap, h1, h2, h3, h4, _⟩ := h.row.shape
  exact ⟨a, cap, h1, h2, h3, fun e => ⟨List.length_eq_zero_iff.1 (h4 e).1, (h4 e).2⟩⟩
theorem OwnB.byP {P : Nat → Prop} {w : World} {v : Value} {xs : List Nat} (h : OwnB w v xs) (hP : ∀ x, v.ownBlock = some x → P x) (hl : xs.length ≤ 1000000) (hx : ∀ x ∈ xs, x < 256) : ByP P w v xs := by
  rcases h.row.2 with ⟨rfl, h0⟩ | ⟨g, cap, cur, rfl, hg, hh, hn, hc, hs, ht⟩
  · have : xs = [] := List.length_eq_zero_iff.1 h0
    subst this
    exact ByP.nil _ _
  · refine ⟨_, cap, rfl, hn, hc, by simp, by omega, hx, fun _ => ⟨g, 0, rfl, hP g rfl, (Array.getElem?_eq_some_iff.1 hh).1, fun i hi => ?_⟩⟩
    rw [Nat.zero_add, h.row.cellAt i (by omega)]
    exact cl_at xs i hi
theorem ByP.src {P : Nat → Prop} {w : World} {v : Value} {ys : List Nat} (h : ByP P w v ys) : Src w v ys.length 1 (cl ys) := by
  obtain ⟨a, cap, rfl, h2, h3, h4, h5, h6, h7⟩ := h
  cases a with
  | none =>
    obtain ⟨rfl, rfl⟩ := h4 rfl
    exact .inl ⟨rfl, rfl, rfl⟩
  | some ad =>
    refine .inr ⟨ad, cap, rfl, by rw [cl_length, Nat.mul_one], fun j u hj => ?_, cl_one ys⟩
    have hjn : j < ys.length := by
      have := (List.getElem?_eq_some_iff.1 hj).1
      rwa [cl_length] at this
    obtain ⟨g, o, e, _, hb, hc⟩ := h7 (by intro e; subst e; simp at hjn)
    simp only [Option.some.injEq] at e
    subst e
    rw [addr_add, hc j hjn, ← cl_at ys j hjn]
    exact hj
theorem Tryz.info5 : (Tryz.prog.info? 5).map (fun i => (i.zero, i.size, i.bytes)) = some (some (.int .u8 0), 1, 1) := by kernel_rfl
/-- append of bytes. -/
theorem app_bytes {ops : Array Oper} {rest : List Oper} {o : Oper} {a : Act} {Q : Exit → Act → World → Prop} (w : World) (hgd : o.guard = none) (s x : Operand)
    (ho : o.op = .call { callee := .builtin .append, args := #[s, x], argTypes := #[45, 45] }) (v vx : Value) (xs ys : List Nat) (P : Nat → Prop) (hs : a.eval s = v) (hx : a.eval x = vx)
    (hown : OwnB w v xs) (hy : ByP P w vx ys) (hlen : xs.length + ys.length ≤ 1000000)
    (h : ∀ ad cap w', OwnB w' (.slice ad (xs.length + ys.length) cap) (xs ++ ys) → w.grownBy w' v.ownBlock → ((Value.slice ad (xs.length + ys.length) cap).ownBlock = v.ownBlock ∨ (Value.slice ad (xs.length + ys.length) cap).ownBlock = some w.heap.size) → wpList Tryz.prog ops Q rest (a.put o.dst (.slice ad (xs.length + ys.length) cap)) w') : wpList Tryz.prog ops Q (o :: rest) a w := by
  refine app_row w hgd s x 45 5 (.int .u8 0) 1 1 ho Tryz.underlying45 Tryz.info5 rfl (by decide) v vx xs.length ys.length (cl xs) (cl ys) hs hx hown.row hy.src hlen (by decide) ?_
  intro ad cap w' h1 h2 h3
  exact h ad cap w' (by unfold OwnB; rw [cl_append, List.length_append]; exact h1) h2 h3

theorem Tryz.nilEq (w : World) (a : Option Addr) (n c n' c' : Nat) : (binOp .eql 45 (.slice a n c) (.slice none n' c')).run Tryz.prog w = .ok (.bool a.isNone) w :=
  Lib.run_eql_slice_nil w _ _ a n c n' c' Tryz.underlying45
theorem own_empty (w : World) : OwnB (w.alloc (.cells #[] 5)) (.slice (some ⟨w.heap.size, 0, none⟩) 0 0) [] := World.ownsRow_made w #[] 0 (Nat.zero_le _) (Nat.zero_le _) rfl

set_option maxHeartbeats 1000000 in
/-- bytes.Clone. -/
theorem clone_any {P : Nat → Prop} (v : Value) (bs : List Nat) (w : World) (h : ByP P w v bs) (hl : bs.length ≤ 1000000) :
    Calls Tryz.prog 137 #[v] w fun e w' => ∃ ad cap, e = .returned (.slice ad bs.length cap) ∧ OwnB w' (.slice ad bs.length cap) bs ∧ (∀ x, (Value.slice ad bs.length cap).ownBlock = some x → w.heap.size ≤ x) ∧ Kp No w w' := by
  have q22 := Tryz.nilEq
  have H := hid h
  obtain ⟨a, cap, rfl, h2, h3, h4, h5, h6, h7⟩ := h
  clear h6 h7
  cases a with
  | none =>
    obtain ⟨rfl, rfl⟩ := h4 rfl
    go_enter Tryz.func137, Tryz.ntmps137
    go_wp2
    go_ret
    exact ⟨_, _, rfl, OwnB.nil _, by simp [Value.ownBlock], Kp.refl _ _⟩
  | some ad =>
    clear h4
    go_enter Tryz.func137, Tryz.ntmps137
    go_wp2_with (at_builtin; refine app_bytes _ rfl _ _ rfl (.slice (some ⟨w.heap.size, 0, none⟩) 0 0) _ [] bs P rfl rfl (own_empty w) (H.out.kept ((Kp.refl _ _).alloc _)) (by simpa using hl) ?_; intro ad' cap' w' hown hg hb)
    go_wp2
    go_ret
    rw [List.length_nil, Nat.zero_add] at hown hb
    refine ⟨ad', cap', rfl, by simpa using hown, fun x hx => ?_, ((Kp.refl _ w).alloc _).grown hg (fun x hx => .inr (by simp [Value.ownBlock] at hx; omega))⟩
    rcases hb with hb | hb
    · rw [hb] at hx
      simp [Value.ownBlock] at hx
      omega
    · rw [hb] at hx
      simp at hx
      omega

end Go.Proofs.YtophnjcoaglbnaaGreatDoor.Sim
end

section
/-
  A pack's names.
-/
namespace Go.Proofs.YtophnjcoaglbnaaGreatDoor
open Go.RowKit Go.Shelf
open Sim (hid)

def idB (z : Int) : Bool := decide (1 ≤ z) && decide (z ≤ 999999)
/-- Is it an id? -/
theorem isID_any (z : Int) (w : World) : Calls Tryz.prog 52 #[.int .i64 z] w fun e w' => e = .returned (.bool (idB z)) ∧ w' = w := by
  by_cases h1 : 1 ≤ z
  · by_cases h2 : z ≤ 999999
    · go_enter Tryz.func52, Tryz.ntmps52
      go_wp2
      go_ret
      exact ⟨by simp [idB, h1, h2], rfl⟩
    · have h2' : 999999 < z := by omega
      go_enter Tryz.func52, Tryz.ntmps52
      go_wp2
      go_ret
      exact ⟨by simp [idB, h1, h2], rfl⟩
  · have h1' : z < 1 := by omega
    go_enter Tryz.func52, Tryz.ntmps52
    go_wp2
    go_ret
    exact ⟨by rw [idB, decide_eq_false (show ¬ 1 ≤ z by omega), Bool.false_and]; rfl, rfl⟩

/-- A name of that sort. -/
def sortB (p : ByteArray) (i : Nat) : ByteArray := p ++ ⟨(Lib.decDigits i).toArray⟩

theorem dec_small (i : Nat) (h : i < 100) : (Lib.decDigits i).length ≤ 2 := by
  by_cases h1 : i < 10
  · rw [Lib.decDigits_one h1]; simp
  · rw [Lib.decDigits_two h1 h]; simp
theorem name_small (p : ByteArray) (hp : p.size ≤ 100) (i : Nat) (h1 : 1 ≤ i) (h2 : i < 100) (w : World) :
    Calls Tryz.prog 49 #[.string p, .int .i64 (i : Int)] w fun e w' => e = .returned (.string (sortB p i)) ∧ w' = w := by
  have hid1 : idB (i : Int) = true := by simp [idB]; omega
  have hd := dec_small i h2
  have hsz : ¬ 9223372036854775807 < p.size + (Lib.decDigits i).length := by omega
  go_enter Tryz.func49, Tryz.ntmps49
  go_wp2_with (first
    | (go_at_call 52; refine (isID_any _ _).mono ?_; rintro e w1 ⟨rfl, h⟩; subst w1; rw [hid1])
    | (go_at_call 86; refine (Any.strconv_Itoa_small Sim.Tryz.itoaS i h2 _).mono ?_; rintro e w1 ⟨rfl, h⟩; subst w1))
  go_ret
  exact ⟨rfl, rfl⟩

def nameP (i : Nat) : ByteArray := sortB ⟨#[112, 97, 99, 107, 46]⟩ i
def nameT (i : Nat) : ByteArray := sortB ⟨#[116, 109, 112, 46]⟩ i

theorem pname_small (i : Nat) (h1 : 1 ≤ i) (h2 : i < 100) (w : World) : Calls Tryz.prog 12 #[.int .i64 (i : Int)] w fun e w' => e = .returned (.string (nameP i)) ∧ w' = w := by
  go_enter Tryz.func12, Tryz.ntmps12
  go_wp2_with (go_at_call 49; refine (name_small _ (by decide) i h1 h2 _).mono ?_; rintro e w1 ⟨rfl, h⟩; subst w1)
  go_ret
  exact ⟨rfl, rfl⟩
theorem ptemp_small (i : Nat) (h1 : 1 ≤ i) (h2 : i < 100) (w : World) : Calls Tryz.prog 14 #[.int .i64 (i : Int)] w fun e w' => e = .returned (.string (nameT i)) ∧ w' = w := by
  go_enter Tryz.func14, Tryz.ntmps14
  go_wp2_with (go_at_call 49; refine (name_small _ (by decide) i h1 h2 _).mono ?_; rintro e w1 ⟨rfl, h⟩; subst w1)
  go_ret
  exact ⟨rfl, rfl⟩

theorem nameP_7 : nameP 7 = ⟨#[112, 97, 99, 107, 46, 55]⟩ := by
  rw [nameP, sortB, Lib.decDigits_one (by omega)]
  rfl
theorem nameT_7 : nameT 7 = ⟨#[116, 109, 112, 46, 55]⟩ := by
  rw [nameT, sortB, Lib.decDigits_one (by omega)]
  rfl

set_option maxHeartbeats 1000000 in
/-- The name pack.07 is no pack's. -/
theorem id_07 (w : World) : Calls Tryz.prog 10 #[.string ⟨#[112, 97, 99, 107, 46, 48, 55]⟩] w fun e w' => e = .returned (.tuple #[.int .i64 0, .bool false]) ∧ Below w.heap.size w w' := by
  have hA : ∀ w, Calls Tryz.prog 48 #[.string ⟨#[112, 97, 99, 107, 46]⟩, .string ⟨#[112, 97, 99, 107, 46, 48, 55]⟩] w fun e w' => e = .returned (.tuple #[.int .i64 0, .bool false]) ∧ Below w.heap.size w w' := by
    intro w
    have hat : Hid (∀ V, Calls Tryz.prog 85 #[.string ⟨#[48, 55]⟩] V fun e w' => e = .returned (.tuple #[.int .i64 7, .nilIface]) ∧ Below V.heap.size V w') := fun V => by
      refine (Any.strconv_Atoi Sim.Tryz.atoiS ⟨#[48, 55]⟩ 7 (by decide) (by decide) V).mono ?_
      rintro e w' ⟨rfl, t, rfl⟩
      exact ⟨rfl, Lib.bytesWorld_below _ _ _⟩
    have hcut : Hid (∀ V, Calls Tryz.prog 84 #[.string ⟨#[112, 97, 99, 107, 46, 48, 55]⟩, .string ⟨#[112, 97, 99, 107, 46]⟩] V fun e w' => e = .returned (.tuple #[.string ⟨#[48, 55]⟩, .bool true]) ∧ w' = V) := fun V => by
      refine (Any.strings_CutPrefix Sim.Tryz.cut ⟨#[112, 97, 99, 107, 46, 48, 55]⟩ ⟨#[112, 97, 99, 107, 46]⟩ V).mono ?_
      rintro e w' ⟨rfl, rfl⟩
      have e1 : Lib.trimPrefix (⟨#[112, 97, 99, 107, 46, 48, 55]⟩ : ByteArray).data.toList (⟨#[112, 97, 99, 107, 46]⟩ : ByteArray).data.toList = [48, 55] := by decide
      have e2 : Lib.hasPrefix (⟨#[112, 97, 99, 107, 46, 48, 55]⟩ : ByteArray).data.toList (⟨#[112, 97, 99, 107, 46]⟩ : ByteArray).data.toList = true := by decide
      rw [e1, e2]
      exact ⟨rfl, rfl⟩
    have hnm : Hid (∀ V, Calls Tryz.prog 49 #[.string ⟨#[112, 97, 99, 107, 46]⟩, .int .i64 7] V fun e w' => e = .returned (.string ⟨#[112, 97, 99, 107, 46, 55]⟩) ∧ w' = V) := fun V => by
      have h := name_small ⟨#[112, 97, 99, 107, 46]⟩ (by decide) 7 (by omega) (by omega) V
      rw [show sortB ⟨#[112, 97, 99, 107, 46]⟩ 7 = ⟨#[112, 97, 99, 107, 46, 55]⟩ from nameP_7] at h
      exact h
    go_enter Tryz.func48, Tryz.ntmps48
    go_wp2_with (first
      | (go_at_call 84; refine (hcut.out _).mono ?_; rintro e w1 ⟨rfl, h⟩; subst w1)
      | (go_at_call 85; refine (hat.out _).mono ?_; rintro e w1 ⟨rfl, h⟩; have HB := hid h; clear h)
      | (go_at_call 49; refine (hnm.out _).mono ?_; rintro e w2 ⟨rfl, h⟩; subst w2))
    go_ret2
    exact ⟨rfl, HB.out⟩
  have HA := hid hA
  clear hA
  go_enter Tryz.func10, Tryz.ntmps10
  go_wp2_with (go_at_call 48; refine (HA.out _).mono ?_; rintro e w1 ⟨rfl, h⟩; have HB := hid h; clear h)
  go_ret2
  exact ⟨rfl, HB.out⟩
end Go.Proofs.YtophnjcoaglbnaaGreatDoor
end

section
/-
  The names of any id.
-/
namespace Go.Proofs.YtophnjcoaglbnaaGreatDoor
open Go.RowKit Go.Shelf
open Sim (hid)

/-- A name of that sort, of any id. -/
def nameZ (p : ByteArray) (z : Int) : ByteArray := if idB z then p ++ ⟨(Lib.itoa z).toArray⟩ else ⟨#[]⟩

set_option maxHeartbeats 1000000 in
theorem name_any (p : ByteArray) (hp : p.size ≤ 100) (z : Int) (w : World) (htab : Lib.TabIs Tryz.prog w "internal/strconv.uint64pow10" .u64 Lib.pow10Tab) :
    Calls Tryz.prog 49 #[.string p, .int .i64 z] w fun e w' => e = .returned (.string (nameZ p z)) ∧ Below w.heap.size w w' := by
  cases hid1 : idB z with
  | false =>
    go_enter Tryz.func49, Tryz.ntmps49
    go_wp2_with (go_at_call 52; refine (isID_any _ _).mono ?_; rintro e w1 ⟨rfl, h⟩; subst w1; rw [hid1])
    go_ret
    exact ⟨by rw [nameZ, hid1]; rfl, Below.refl _ _⟩
  | true =>
    have hz : 1 ≤ z ∧ z ≤ 999999 := by simpa [idB] using hid1
    have HI : Hid (Calls Tryz.prog 86 #[.int .i64 z] w fun e w' => e = .returned (.string ⟨(Lib.itoa z).toArray⟩) ∧ Below w.heap.size w w') := by
      refine (Any.strconv_Itoa Sim.Tryz.itoa z (by omega) (by omega) w htab).mono ?_
      rintro e w' ⟨rfl, k, os, rfl⟩
      exact ⟨rfl, Lib.below_grow _ _ (Nat.le_refl _) _ _⟩
    have hl := Lib.itoa_length_le z (by omega) (by omega)
    have hsz : ¬ 9223372036854775807 < p.size + (Lib.itoa z).length := by omega
    go_enter Tryz.func49, Tryz.ntmps49
    go_wp2_with (first
      | (go_at_call 52; refine (isID_any _ _).mono ?_; rintro e w1 ⟨rfl, h⟩; subst w1; rw [hid1])
      | (go_at_call 86; refine HI.out.mono ?_; rintro e w2 ⟨rfl, h⟩; have HG := Sim.hid h; clear h))
    go_ret
    exact ⟨by rw [nameZ, hid1]; rfl, HG.out⟩

theorem pname_any (z : Int) (w : World) (htab : Lib.TabIs Tryz.prog w "internal/strconv.uint64pow10" .u64 Lib.pow10Tab) : Calls Tryz.prog 12 #[.int .i64 z] w fun e w' => e = .returned (.string (nameZ ⟨#[112, 97, 99, 107, 46]⟩ z)) ∧ Below w.heap.size w w' := by
  have HN := hid (name_any ⟨#[112, 97, 99, 107, 46]⟩ (by decide) z w htab)
  go_enter Tryz.func12, Tryz.ntmps12
  go_wp2_with (go_at_call 49; refine HN.out.mono ?_; rintro e w1 ⟨rfl, h⟩; have HB := hid h; clear h)
  go_ret
  exact ⟨rfl, HB.out⟩
theorem ptemp_any (z : Int) (w : World) (htab : Lib.TabIs Tryz.prog w "internal/strconv.uint64pow10" .u64 Lib.pow10Tab) : Calls Tryz.prog 14 #[.int .i64 z] w fun e w' => e = .returned (.string (nameZ ⟨#[116, 109, 112, 46]⟩ z)) ∧ Below w.heap.size w w' := by
  have HN := hid (name_any ⟨#[116, 109, 112, 46]⟩ (by decide) z w htab)
  go_enter Tryz.func14, Tryz.ntmps14
  go_wp2_with (go_at_call 49; refine HN.out.mono ?_; rintro e w1 ⟨rfl, h⟩; have HB := hid h; clear h)
  go_ret
  exact ⟨rfl, HB.out⟩
end Go.Proofs.YtophnjcoaglbnaaGreatDoor
end

section
/-
  Digits, and what they tell.
-/
namespace Go.Proofs.YtophnjcoaglbnaaGreatDoor
open Go.RowKit Go.Shelf
open Sim (hid)

def digB (c : UInt8) : Bool := decide (48 ≤ c.toNat) && decide (c.toNat ≤ 57)
/-- What digits tell, behind a number. -/
def valD (a : Nat) (l : List UInt8) : Nat := l.foldl (fun a c => a * 10 + (c.toNat - 48)) a
theorem valD_append (a : Nat) (l m : List UInt8) : valD a (l ++ m) = valD (valD a l) m := by unfold valD; rw [List.foldl_append]
theorem dig_of {i : Nat} (h : i < 10) : (UInt8.ofNat (48 + i)).toNat = 48 + i := by
  rw [UInt8.toNat_ofNat']
  omega
theorem dec_step {u : Nat} (h : ¬ u < 10) : Lib.decDigits u = Lib.decDigits (u / 10) ++ [UInt8.ofNat (48 + u % 10)] := by
  rw [Lib.decDigits, dif_neg h]
theorem dec_digs (u : Nat) : ∀ c ∈ Lib.decDigits u, digB c = true := by
  induction u using Nat.strongRecOn with
  | _ u ih =>
    by_cases h : u < 10
    · rw [Lib.decDigits_one h]
      intro c hc
      rw [List.mem_singleton] at hc
      subst hc
      unfold digB
      rw [dig_of h]
      simp
      omega
    · rw [dec_step h]
      intro c hc
      rcases List.mem_append.1 hc with hc | hc
      · exact ih (u / 10) (by omega) c hc
      · rw [List.mem_singleton] at hc
        subst hc
        have : u % 10 < 10 := by omega
        unfold digB
        rw [dig_of this]
        simp
        omega
theorem dec_val (u : Nat) : valD 0 (Lib.decDigits u) = u := by
  induction u using Nat.strongRecOn with
  | _ u ih =>
    by_cases h : u < 10
    · rw [Lib.decDigits_one h]
      show 0 * 10 + ((UInt8.ofNat (48 + u)).toNat - 48) = u
      rw [dig_of h]
      omega
    · rw [dec_step h, valD_append, ih (u / 10) (by omega)]
      have : u % 10 < 10 := by omega
      show u / 10 * 10 + ((UInt8.ofNat (48 + u % 10)).toNat - 48) = u
      rw [dig_of this]
      omega
theorem dec_pos (u : Nat) : 1 ≤ (Lib.decDigits u).length := by
  by_cases h : u < 10
  · rw [Lib.decDigits_one h]; simp
  · rw [dec_step h]; simp
theorem dec_len : ∀ (k u : Nat), u < 10 ^ (k + 1) → (Lib.decDigits u).length ≤ k + 1
  | 0, u, h => by rw [Lib.decDigits_one (by simpa using h)]; simp
  | k + 1, u, h => by
    by_cases h1 : u < 10
    · rw [Lib.decDigits_one h1]; simp
    · rw [dec_step h1, List.length_append, List.length_singleton]
      have := dec_len k (u / 10) (by rw [Nat.pow_succ] at h; omega)
      omega
theorem dec_six {u : Nat} (h : u ≤ 999999) : (Lib.decDigits u).length ≤ 6 := dec_len 5 u (by have : (10 : Nat) ^ 6 = 1000000 := by decide
                                                                                             omega)
theorem valD_le : ∀ (l : List UInt8) (a : Nat), l.all digB = true → valD a l < (a + 1) * 10 ^ l.length
  | [], a, _ => by simp [valD]
  | c :: r, a, h => by
    simp only [List.all_cons, Bool.and_eq_true] at h
    have hc : c.toNat ≤ 57 ∧ 48 ≤ c.toNat := by have := h.1; simp [digB] at this; omega
    have := valD_le r (a * 10 + (c.toNat - 48)) h.2
    have e : valD a (c :: r) = valD (a * 10 + (c.toNat - 48)) r := rfl
    rw [e, List.length_cons, Nat.pow_succ]
    refine Nat.lt_of_lt_of_le this ?_
    have h10 : a * 10 + (c.toNat - 48) + 1 ≤ (a + 1) * 10 := by omega
    have := Nat.mul_le_mul_right (10 ^ r.length) h10
    rw [Nat.mul_assoc, Nat.mul_comm 10] at this
    exact this
theorem parse_digs : ∀ (l : List UInt8) (a : Nat), l.all digB = true → (a + 1) * 10 ^ l.length ≤ 1000000000000 → Lib.parseUint10 a l = .ok (valD a l)
  | [], a, _, _ => rfl
  | c :: r, a, h, hb => by
    simp only [List.all_cons, Bool.and_eq_true] at h
    have hc : 48 ≤ c.toNat ∧ c.toNat ≤ 57 := by have := h.1; simp [digB] at this; exact this
    rw [List.length_cons, Nat.pow_succ] at hb
    have hp : 1 ≤ 10 ^ r.length := Nat.one_le_pow _ _ (by omega)
    have h10 : a * 10 + (c.toNat - 48) + 1 ≤ (a + 1) * 10 := by omega
    have hb' : (a * 10 + (c.toNat - 48) + 1) * 10 ^ r.length ≤ 1000000000000 := by
      refine Nat.le_trans (Nat.mul_le_mul_right _ h10) ?_
      rw [Nat.mul_assoc, Nat.mul_comm 10]
      exact hb
    have ha : a * 10 + (c.toNat - 48) + 1 ≤ 1000000000000 := Nat.le_trans (Nat.le_mul_of_pos_right _ hp) hb'
    unfold Lib.parseUint10
    rw [if_pos hc, if_neg (by omega), if_neg (by omega), parse_digs r _ h.2 hb']
    rfl

/-! ### The id of a name -/
/-- Those of that sort. -/
theorem nameZ_of {p : ByteArray} {u : Nat} (h1 : 1 ≤ u) (h2 : u ≤ 999999) : nameZ p (u : Int) = p ++ ⟨(Lib.decDigits u).toArray⟩ := by
  have : idB (u : Int) = true := by simp [idB]; omega
  rw [nameZ, this, if_pos rfl, Lib.itoa_nonneg]
/-- What a number tells, or none. -/
def idAt (p s : ByteArray) : Lib.NumEnd Int → Int × Bool
  | .ok v => if nameZ p v = s then (v, true) else (0, false)
  | _ => (0, false)
/-- What ID tells: by the rest behind the prefix. -/
def idOf (p s : ByteArray) : Int × Bool :=
  if Lib.hasPrefix s.data.toList p.data.toList = true then idAt p s (Lib.atoiAll (Lib.trimPrefix s.data.toList p.data.toList)) else (0, false)
theorem atoi_dec {u : Nat} (h : u ≤ 999999) : Lib.atoiAll (Lib.decDigits u) = .ok (u : Int) := by
  have hd := dec_digs u
  have hl := dec_six h
  have hp := dec_pos u
  have hv := dec_val u
  generalize Lib.decDigits u = l at *
  cases l with
  | nil => simp at hp
  | cons c r =>
    have hc : 48 ≤ c.toNat ∧ c.toNat ≤ 57 := by have := hd c (by simp); simp [digB] at this; exact this
    have hall : (c :: r).all digB = true := List.all_eq_true.2 hd
    have hlen : (0 + 1) * 10 ^ (c :: r).length ≤ 1000000000000 := by
      have : 10 ^ (c :: r).length ≤ 10 ^ 6 := Nat.pow_le_pow_right (by omega) hl
      have e : (10 : Nat) ^ 6 = 1000000 := by decide
      omega
    unfold Lib.atoiAll
    simp only
    rw [if_neg (by omega)]
    unfold Lib.parseMag
    rw [if_neg (by simp), parse_digs _ _ hall hlen, hv]
    simp only
    rw [if_neg (by omega), if_neg (by omega), if_neg (by omega)]
theorem bytes_inj {a b : ByteArray} (h : a.data.toList = b.data.toList) : a = b := by
  cases a; cases b; simp at h; rw [h]
theorem app_data (p : ByteArray) (l : List UInt8) : (p ++ ⟨l.toArray⟩ : ByteArray).data.toList = p.data.toList ++ l := by
  simp [ByteArray.data_append]
theorem pre_app (p l : List UInt8) : Lib.hasPrefix (p ++ l) p = true := by
  unfold Lib.hasPrefix
  exact List.isPrefixOf_iff_prefix.2 (List.prefix_append p l)
theorem trim_app (p l : List UInt8) : Lib.trimPrefix (p ++ l) p = l := by
  unfold Lib.trimPrefix
  rw [if_pos (pre_app p l), List.drop_left]
/-- A pack's name has its id. -/
theorem idOf_name {p : ByteArray} {u : Nat} (h1 : 1 ≤ u) (h2 : u ≤ 999999) : idOf p (nameZ p (u : Int)) = ((u : Int), true) := by
  have e := nameZ_of (p := p) h1 h2
  have hd : (nameZ p (u : Int)).data.toList = p.data.toList ++ Lib.decDigits u := by rw [e, app_data]
  unfold idOf
  rw [hd, if_pos (pre_app _ _), trim_app, atoi_dec h2]
  show (if nameZ p (u : Int) = nameZ p (u : Int) then ((u : Int), true) else (0, false)) = _
  rw [if_pos rfl]
/-- What is told is a name's id. -/
theorem idOf_yes {p s : ByteArray} {v : Int} (hp : 1 ≤ p.size) (h : idOf p s = (v, true)) : 1 ≤ v ∧ v ≤ 999999 ∧ nameZ p v = s := by
  unfold idOf at h
  split at h
  · rename_i hh
    unfold idAt at h
    split at h
    · rename_i v' _
      split at h
      · rename_i hn
        simp only [Prod.mk.injEq, and_true] at h
        subst h
        have hid1 : idB v' = true := by
          cases hi : idB v' with
          | true => rfl
          | false =>
            rw [nameZ, hi, if_neg (by simp)] at hn
            rw [← hn] at hh
            have hl := (List.isPrefixOf_iff_prefix.1 hh).length_le
            rw [← Lib.size_eq] at hl
            have : (⟨#[]⟩ : ByteArray).data.toList.length = 0 := rfl
            omega
        have : 1 ≤ v' ∧ v' ≤ 999999 := by simpa [idB] using hid1
        exact ⟨this.1, this.2, hn⟩
      · simp at h
    · simp at h
  · simp at h
theorem idOf_no {p s : ByteArray} (h : (idOf p s).2 = false) : idOf p s = (0, false) := by
  unfold idOf at h ⊢
  split
  · rename_i hh
    rw [if_pos hh] at h
    generalize Lib.atoiAll (Lib.trimPrefix s.data.toList p.data.toList) = e at *
    cases e with
    | ok v =>
      unfold idAt at h ⊢
      simp only at h ⊢
      split
      · rename_i hn; rw [if_pos hn] at h; simp at h
      · rfl
    | «syntax» => rfl
    | range => rfl
  · rfl
/-- Told apart: the one id whose name it is. -/
theorem idOf_eq {p s : ByteArray} (hp : 1 ≤ p.size) (a : Int × Bool) (h1 : a.2 = true → 1 ≤ a.1 ∧ a.1 ≤ 999999 ∧ nameZ p a.1 = s) (h2 : a.2 = false → a.1 = 0 ∧ ∀ u : Nat, 1 ≤ u → u ≤ 999999 → nameZ p (u : Int) ≠ s) : idOf p s = a := by
  obtain ⟨v, b⟩ := a
  cases b with
  | true =>
    obtain ⟨g1, g2, g3⟩ := h1 rfl
    simp only at g1 g2 g3
    obtain ⟨u, rfl⟩ : ∃ u : Nat, v = u := ⟨v.toNat, by omega⟩
    rw [← g3]
    exact idOf_name (by omega) (by omega)
  | false =>
    obtain ⟨g1, g2⟩ := h2 rfl
    simp only at g1
    subst g1
    refine idOf_no ?_
    cases hb : (idOf p s).2 with
    | false => rfl
    | true =>
      have e : idOf p s = ((idOf p s).1, true) := by rw [← hb]
      obtain ⟨h3, h4, h5⟩ := idOf_yes hp e
      obtain ⟨u, hu⟩ : ∃ u : Nat, (idOf p s).1 = u := ⟨(idOf p s).1.toNat, by omega⟩
      rw [hu] at h3 h4 h5
      exact absurd h5 (g2 u (by omega) (by omega))

end Go.Proofs.YtophnjcoaglbnaaGreatDoor
end

section
/-
  The id of any name.
-/
namespace Go.Proofs.YtophnjcoaglbnaaGreatDoor
open Go.RowKit Go.Shelf
open Sim (hid)

/-- The variables of strconv that are read: a table, two errors. -/
structure Vars (w : World) : Prop where
  tab : Lib.TabIs Tryz.prog w "internal/strconv.uint64pow10" .u64 Lib.pow10Tab
  syn : ∃ tp p, w.var? Tryz.prog "strconv.ErrSyntax" = some #[.iface tp p]
  rng : ∃ tp p, w.var? Tryz.prog "strconv.ErrRange" = some #[.iface tp p]
theorem var_below {w w' : World} {n : String} {cs : Array Value} (k : Below w.heap.size w w') (h : w.var? Tryz.prog n = some cs) : w'.var? Tryz.prog n = some cs := by
  unfold World.var? at h ⊢
  cases hg : Tryz.prog.globalNamed n with
  | none => rw [hg] at h; cases h
  | some g =>
    rw [hg] at h
    simp only [Option.bind_some] at h ⊢
    have hlt : g < w.heap.size := by
      rcases Nat.lt_or_ge g w.heap.size with h' | h'
      · exact h'
      · rw [Array.getElem?_eq_none h'] at h; cases h
    rw [k.block g hlt]
    exact h
theorem Vars.below {w w' : World} (h : Vars w) (k : Below w.heap.size w w') : Vars w' := by
  obtain ⟨h1, ⟨t2, p2, h2⟩, ⟨t3, p3, h3⟩⟩ := h
  exact ⟨var_below k h1, ⟨t2, p2, var_below k h2⟩, ⟨t3, p3, var_below k h3⟩⟩

/-- Atoi of any text: a number, or an error that is not nil. -/
theorem atoi_any (s : ByteArray) (hs : s.size ≤ 1000000) (w : World) (hv : Vars w) : Calls Tryz.prog 85 #[.string s] w fun e w' => (∃ (z : Int) (er : Value), e = .returned (.tuple #[.int .i64 z, er]) ∧ ((er = .nilIface ∧ Lib.atoiAll s.data.toList = .ok z) ∨ ((∃ t a, er = .iface t (.pointer (some a))) ∧ ∀ v, Lib.atoiAll s.data.toList ≠ .ok v))) ∧ Below w.heap.size w w' := by
  cases h : Lib.atoiAll s.data.toList with
  | ok v =>
    refine (Any.strconv_Atoi_ok Sim.Tryz.atoi s (by omega) v h w).mono ?_
    rintro e w' ⟨rfl, hw⟩
    refine ⟨⟨v, .nilIface, rfl, .inl ⟨rfl, rfl⟩⟩, ?_⟩
    rcases hw with rfl | ⟨t, rfl⟩
    · exact Below.refl _ _
    · exact Lib.bytesWorld_below _ _ _
  | «syntax» =>
    obtain ⟨tp, p, hp⟩ := hv.syn
    refine (Any.strconv_Atoi_syntax_var Sim.Tryz.atoi s (by omega) h tp p w hp).mono ?_
    rintro e w' ⟨N, rfl, _, _, hb⟩
    exact ⟨⟨0, _, rfl, .inr ⟨⟨_, _, rfl⟩, fun v hv => by cases hv⟩⟩, hb⟩
  | range =>
    obtain ⟨tp, p, hp⟩ := hv.rng
    refine (Any.strconv_Atoi_range_var Sim.Tryz.atoi s (by omega) h tp p w hp).mono ?_
    rintro e w' ⟨N, rfl, _, _, hb⟩
    exact ⟨⟨_, _, rfl, .inr ⟨⟨_, _, rfl⟩, fun v hv => by cases hv⟩⟩, hb⟩

set_option maxHeartbeats 4000000 in
theorem pid_any (p : ByteArray) (hp : p.size ≤ 100) (s : ByteArray) (hs : s.size ≤ 1000000) (w : World) (hv : Vars w) :
    Calls Tryz.prog 48 #[.string p, .string s] w fun e w' => e = .returned (.tuple #[.int .i64 (idOf p s).1, .bool (idOf p s).2]) ∧ Below w.heap.size w w' := by
  have HCUT := hid (Any.strings_CutPrefix Sim.Tryz.cut s p w)
  cases hh : Lib.hasPrefix s.data.toList p.data.toList with
  | false =>
    have e : idOf p s = (0, false) := by unfold idOf; rw [hh]; rfl
    rw [e]
    rw [hh] at HCUT
    clear hh e
    go_enter Tryz.func48, Tryz.ntmps48
    go_wp2_with (go_at_call 84; refine HCUT.out.mono ?_; rintro e w1 ⟨rfl, h⟩; subst w1)
    go_ret2
    exact ⟨rfl, Below.refl _ _⟩
  | true =>
    rw [hh] at HCUT
    have hr : (⟨(Lib.trimPrefix s.data.toList p.data.toList).toArray⟩ : ByteArray).size ≤ 1000000 := by
      have h1 : (Lib.trimPrefix s.data.toList p.data.toList).length ≤ s.size := by
        unfold Lib.trimPrefix
        rw [Lib.size_eq, if_pos hh, List.length_drop]
        omega
      have h2 : (⟨(Lib.trimPrefix s.data.toList p.data.toList).toArray⟩ : ByteArray).size = (Lib.trimPrefix s.data.toList p.data.toList).length := by rw [Lib.size_eq]
      omega
    have HAT := hid (atoi_any ⟨(Lib.trimPrefix s.data.toList p.data.toList).toArray⟩ hr w hv)
    have HV := hid hv
    have HI : Hid (idOf p s = idAt p s (Lib.atoiAll (Lib.trimPrefix s.data.toList p.data.toList))) := by unfold Hid idOf; rw [if_pos hh]
    have hd : (⟨(Lib.trimPrefix s.data.toList p.data.toList).toArray⟩ : ByteArray).data.toList = Lib.trimPrefix s.data.toList p.data.toList := rfl
    rw [hd] at HAT
    generalize Lib.trimPrefix s.data.toList p.data.toList = l at *
    obtain ⟨x, hx⟩ : ∃ x, idOf p s = x := ⟨_, rfl⟩
    rw [hx] at HI ⊢
    clear hh hr hd hx hv
    go_enter Tryz.func48, Tryz.ntmps48
    go_wp2_with fail
    refine HCUT.out.mono ?_
    rintro e w1 ⟨rfl, h⟩
    subst w1
    go_wp2_with fail
    refine HAT.out.mono ?_
    rintro e w2 ⟨⟨z, er, rfl, hz⟩, hb⟩
    have HB := hid hb
    have HV2 := hid (HV.out.below hb)
    clear hb
    rcases hz with ⟨rfl, hz⟩ | ⟨⟨t, a, rfl⟩, hz⟩
    · rw [hz, show idAt p s (.ok z) = if nameZ p z = s then (z, true) else (0, false) from rfl] at HI
      have HN := hid (name_any p hp z w2 HV2.out.tab)
      by_cases hq : nameZ p z = s
      · rw [if_pos hq] at HI
        rw [hq] at HN
        have heq : (s.toList == s.toList) = true := by simp
        clear hq hz
        go_wp2_with (go_at_call 49; refine HN.out.mono ?_; rintro e w3 ⟨rfl, h⟩; have HB3 := hid h; clear h)
        go_ret2
        exact ⟨by rw [HI.out]; rfl, HB.out.trans (HB3.out.mono HB.out.size)⟩
      · rw [if_neg hq] at HI
        have heq : ((nameZ p z).toList == s.toList) = false := by
          rw [beq_eq_false_iff_ne, ByteArray.toList_eq, ByteArray.toList_eq]
          exact fun e => hq (bytes_inj e)
        generalize nameZ p z = nz at *
        clear hq hz
        go_wp2_with (go_at_call 49; refine HN.out.mono ?_; rintro e w3 ⟨rfl, h⟩; have HB3 := hid h; clear h)
        go_ret2
        exact ⟨by rw [HI.out]; rfl, HB.out.trans (HB3.out.mono HB.out.size)⟩
    · have HX : Hid (x = (0, false)) := by
        rw [Hid, HI.out]
        cases hl : Lib.atoiAll l with
        | ok v => exact absurd hl (hz v)
        | «syntax» => rfl
        | range => rfl
      clear hz HI
      go_wp2
      go_ret2
      exact ⟨by rw [HX.out]; rfl, HB.out⟩

theorem ID_any (s : ByteArray) (hs : s.size ≤ 1000000) (w : World) (hv : Vars w) : Calls Tryz.prog 10 #[.string s] w fun e w' => e = .returned (.tuple #[.int .i64 (idOf ⟨#[112, 97, 99, 107, 46]⟩ s).1, .bool (idOf ⟨#[112, 97, 99, 107, 46]⟩ s).2]) ∧ Below w.heap.size w w' := by
  have HA := hid (pid_any ⟨#[112, 97, 99, 107, 46]⟩ (by decide) s hs w hv)
  generalize idOf ⟨#[112, 97, 99, 107, 46]⟩ s = x at *
  go_enter Tryz.func10, Tryz.ntmps10
  go_wp2_with (go_at_call 48; refine HA.out.mono ?_; rintro e w1 ⟨rfl, h⟩; have HB := hid h; clear h)
  go_ret2
  exact ⟨rfl, HB.out⟩

end Go.Proofs.YtophnjcoaglbnaaGreatDoor
end

section
/-
  The document's digits, and its names.
-/
namespace Go.Proofs.YtophnjcoaglbnaaGreatDoor
open Go.RowKit Go.Shelf
open Sim (hid)

/-- One byte as a text. -/
theorem one_text (w : World) (g : Nat) (i : Nat) (d : UInt8) (hd : UInt8.ofNat (48 + i) = d) (h : w.cell? ⟨g, 0, none⟩ = some (.int .u8 (48 + (i : Int)))) :
    (convert 45 9 (.slice (some ⟨g, 0, none⟩) 1 1)).run Tryz.prog w = .ok (.string ⟨#[d]⟩) w := by
  rw [run_convert_bytes_arg w 45 5 Tryz.underlying45 Tryz.underlying5 g 0 1 1 [48 + (i : Int)] rfl (fun j hj => by
    obtain rfl : j = 0 := by omega
    exact h) 9 Tryz.underlying9]
  subst hd
  have e : (48 + (i : Int)).toNat = 48 + i := by omega
  simp only [strOfNums, List.map_cons, List.map_nil, e]

theorem dec_a {w w2 : World} (h : Below w.drew.heap.size w.drew w2) (o : Obj) : Below w.heap.size w (w2.alloc o) := Below.alloc (((Below.refl w.heap.size w).drew).trans h) h.size _
theorem dec_b {w w2 : World} {o : Obj} (h : Below (w.alloc o).drew.heap.size (w.alloc o).drew w2) : Below w.heap.size w w2 :=
  (((Below.refl w.heap.size w).alloc (Nat.le_refl _) o).drew).trans (h.mono (by show w.heap.size ≤ (w.alloc o).heap.size; simp))
theorem str_snoc (l : List UInt8) (d : UInt8) : (⟨l.toArray⟩ ++ ⟨#[d]⟩ : ByteArray) = ⟨(l ++ [d]).toArray⟩ := bytes_inj (by
  have := app_data ⟨l.toArray⟩ [d]
  rw [this])

set_option maxHeartbeats 4000000 in
set_option maxRecDepth 100000 in
theorem decimal_any (u : Nat) : u ≤ 999999 → ∀ w, Calls Tryz.prog 50 #[.int .i64 (u : Int)] w fun e w' => e = .returned (.string ⟨(Lib.decDigits u).toArray⟩) ∧ Below w.heap.size w w' := by
  induction u using Nat.strongRecOn with
  | _ u ih =>
    intro hu w
    by_cases h : u < 10
    · have hi : (u : Int) < 10 := by omega
      have hw : IntKind.i64.wrap (48 + (u : Int)) = 48 + (u : Int) := by rw [IntKind.wrap_i64]; omega
      have hw8 : IntKind.u8.wrap (48 + (u : Int)) = 48 + (u : Int) := by rw [IntKind.wrap_u8]; omega
      obtain ⟨W, hW⟩ : ∃ W, w.alloc (.cells #[.int .u8 (48 + (u : Int))] 5) = W := ⟨_, rfl⟩
      have hc : W.cell? ⟨w.heap.size, 0, none⟩ = some (.int .u8 (48 + (u : Int))) := by rw [← hW]; exact (Sim.Blk.new w 5 [.int .u8 (48 + (u : Int))]).cell 0
      have HD := hid (Lib.decDigits_one h)
      obtain ⟨d, hd⟩ : ∃ d, UInt8.ofNat (48 + u) = d := ⟨_, rfl⟩
      have hcv := one_text W w.heap.size u d hd hc
      rw [hd] at HD
      have HB : Hid (Below w.heap.size w W) := by rw [← hW]; exact (Below.refl _ _).alloc (Nat.le_refl _) _
      clear ih hc hd
      go_enter Tryz.func50, Tryz.ntmps50
      go_wp2
      go_ret
      exact ⟨by rw [HD.out]; rfl, HB.out⟩
    · have hi : ¬ (u : Int) < 10 := by omega
      have hq : (u : Int).tdiv 10 = ((u / 10 : Nat) : Int) := by have := Int.ofNat_tdiv u 10; exact this.symm
      have hr : (u : Int).tmod 10 = ((u % 10 : Nat) : Int) := by have := Int.ofNat_tmod u 10; exact this.symm
      have hm : u % 10 < 10 := by omega
      have hw : IntKind.i64.wrap (48 + ((u % 10 : Nat) : Int)) = 48 + ((u % 10 : Nat) : Int) := by rw [IntKind.wrap_i64]; omega
      have hw8 : IntKind.u8.wrap (48 + ((u % 10 : Nat) : Int)) = 48 + ((u % 10 : Nat) : Int) := by rw [IntKind.wrap_u8]; omega
      have HIH := hid (ih (u / 10) (by omega) (by omega))
      have HD := hid (dec_step h)
      have hql : u / 10 ≤ 999999 := by omega
      have HL := hid (dec_six hql)
      clear ih
      generalize u % 10 = r at *
      generalize u / 10 = q at *
      obtain ⟨d, hd⟩ : ∃ d, UInt8.ofNat (48 + r) = d := ⟨_, rfl⟩
      have HC : Hid (∀ V g, V.cell? ⟨g, 0, none⟩ = some (.int .u8 (48 + (r : Int))) → (convert 45 9 (.slice (some ⟨g, 0, none⟩) 1 1)).run Tryz.prog V = .ok (.string ⟨#[d]⟩) V) := fun V g hc => one_text V g r d hd hc
      rw [hd] at HD
      have hwq : IntKind.i64.wrap (q : Int) = (q : Int) := by rw [IntKind.wrap_i64]; omega
      have hsz : ¬ 9223372036854775807 < (Lib.decDigits q).length + 1 := by have := HL.out; omega
      clear hd HL
      go_enter Tryz.func50, Tryz.ntmps50
      go_wp2_with fail
      refine wp_region_held_drew (S := fun _ => True) (by kernel_rfl) trivial (fun hHeld => ?_)
      refine wpAnyH_take (i := 0) (oi := { dst := some 10, op := Op.move (Operand.tmp 0), type := 3, pos := "ref.go:17", after := #[], guard := none }) (v := .int .i64 (u : Int)) rfl (by kernel_rfl) (by kernel_rfl) (by kernel_rfl) (fun _ _ _ h => h) (Or.inl ⟨by rfl, fun w' hw' => by (clear hw'; go_simp)⟩) hHeld ?_
      simp only [Act.put, List.setIfInBounds_toArray, List.set_cons_zero, List.set_cons_succ]
      refine wpAnyH_take (i := 1) (oi := { dst := some 11, op := Op.binOp BinOp.quo 3 (Operand.tmp 10) (Operand.const (Value.int IntKind.i64 10)) 3, type := 3, pos := "ref.go:17", after := #[{ on := 0, ground := Ground.data }], guard := none }) (v := .int .i64 (q : Int)) rfl (by kernel_rfl) (by kernel_rfl) (by kernel_rfl) (fun _ _ _ h => h) (Or.inl ⟨by rfl, fun w' hw' => by (clear hw'; go_simp)⟩) hHeld ?_
      simp only [Act.put, List.setIfInBounds_toArray, List.set_cons_zero, List.set_cons_succ]
      refine wpAnyH_take (i := 3) (oi := { dst := some 13, op := Op.move (Operand.tmp 0), type := 3, pos := "ref.go:17", after := #[], guard := none }) (v := .int .i64 (u : Int)) rfl (by kernel_rfl) (by kernel_rfl) (by kernel_rfl) (fun _ _ _ h => h) (Or.inl ⟨by rfl, fun w' hw' => by (clear hw'; go_simp)⟩) hHeld ?_
      simp only [Act.put, List.setIfInBounds_toArray, List.set_cons_zero, List.set_cons_succ]
      refine wpAnyH_take (i := 4) (oi := { dst := some 14, op := Op.binOp BinOp.rem 3 (Operand.tmp 13) (Operand.const (Value.int IntKind.i64 10)) 3, type := 3, pos := "ref.go:17", after := #[{ on := 3, ground := Ground.data }], guard := none }) (v := .int .i64 (r : Int)) rfl (by kernel_rfl) (by kernel_rfl) (by kernel_rfl) (fun _ _ _ h => h) (Or.inl ⟨by rfl, fun w' hw' => by (clear hw'; go_simp)⟩) hHeld ?_
      simp only [Act.put, List.setIfInBounds_toArray, List.set_cons_zero, List.set_cons_succ]
      refine wpAnyH_take (i := 5) (oi := { dst := some 15, op := Op.binOp BinOp.add 3 (Operand.const (Value.int IntKind.i64 48)) (Operand.tmp 14) 3, type := 3, pos := "ref.go:17", after := #[{ on := 4, ground := Ground.data }], guard := none }) (v := .int .i64 (48 + (r : Int))) rfl (by kernel_rfl) (by kernel_rfl) (by kernel_rfl) (fun _ _ _ h => h) (Or.inl ⟨by rfl, fun w' hw' => by (clear hw'; go_simp)⟩) hHeld ?_
      simp only [Act.put, List.setIfInBounds_toArray, List.set_cons_zero, List.set_cons_succ]
      refine wpAnyH_take (i := 6) (oi := { dst := some 16, op := Op.convert 3 5 (Operand.tmp 15), type := 5, pos := "ref.go:17", after := #[{ on := 5, ground := Ground.data }], guard := none }) (v := .int .u8 (48 + (r : Int))) rfl (by kernel_rfl) (by kernel_rfl) (by kernel_rfl) (fun _ _ _ h => h) (Or.inl ⟨by rfl, fun w' hw' => by (clear hw'; go_simp)⟩) hHeld ?_
      simp only [Act.put, List.setIfInBounds_toArray, List.set_cons_zero, List.set_cons_succ]
      refine wpAnyH_ready (rs := [2, 7]) (by kernel_rfl) (by simp) ?_
      refine (AllReadyH.cons (o := { dst := some 12, op := Op.call { callee := Callee.value (Operand.func 50), args := #[Operand.tmp 11], argTypes := #[3] }, type := 9, pos := "ref.go:17", after := #[{ on := 1, ground := Ground.data }], guard := none }) rfl (fun K hK => ?_) (AllReadyH.cons (o := { dst := some 17, op := Op.buildSlice 45 1 #[(0, Operand.tmp 16)], type := 45, pos := "ref.go:17", after := #[{ on := 6, ground := Ground.data }], guard := none }) rfl (fun K hK => ?_) AllReadyH.nil))
      · go_simp
        refine (HIH.out _).mono ?_
        rintro e w2 ⟨rfl, hb2⟩
        have HB2 := hid hb2
        clear hb2
        go_wp2_with fail
        refine hK.out _ _ trivial (fun hh => ?_)
        clear hK K hHeld
        have hHeld := hh
        clear hh
        try simp only [Act.put, List.setIfInBounds_toArray, List.set_cons_zero, List.set_cons_succ]
        refine wpAnyH_ready (rs := [7]) (by kernel_rfl) (by simp) ?_
        refine (AllReadyH.cons (o := { dst := some 17, op := Op.buildSlice 45 1 #[(0, Operand.tmp 16)], type := 45, pos := "ref.go:17", after := #[{ on := 6, ground := Ground.data }], guard := none }) rfl (fun K hK => ?_) AllReadyH.nil)
        go_simp
        refine hK.out _ _ trivial (fun hh => ?_)
        clear hK K hHeld
        have hHeld := hh
        clear hh
        try simp only [Act.put, List.setIfInBounds_toArray, List.set_cons_zero, List.set_cons_succ]
        refine wpAnyH_ready (rs := [8]) (by kernel_rfl) (by simp) ?_
        refine (AllReadyH.cons (o := { dst := some 18, op := Op.convert 45 9 (Operand.tmp 17), type := 9, pos := "ref.go:17", after := #[{ on := 7, ground := Ground.data }], guard := none }) rfl (fun K hK => ?_) AllReadyH.nil)
        have hc : (w2.alloc (.cells #[.int .u8 (48 + (r : Int))] 5)).cell? ⟨w2.heap.size, 0, none⟩ = some (.int .u8 (48 + (r : Int))) := (Sim.Blk.new w2 5 [.int .u8 (48 + (r : Int))]).cell 0
        have hcv := HC.out _ _ hc
        clear hc
        go_simp
        refine hK.out _ _ trivial (fun hh => ?_)
        clear hK K hHeld
        have hHeld := hh
        clear hh
        try simp only [Act.put, List.setIfInBounds_toArray, List.set_cons_zero, List.set_cons_succ]
        refine wpAnyH_take (i := 9) (oi := { dst := some 19, op := Op.binOp BinOp.add 9 (Operand.tmp 12) (Operand.tmp 18) 9, type := 9, pos := "ref.go:17", after := #[{ on := 2, ground := Ground.data }, { on := 8, ground := Ground.data }], guard := none }) (v := .string (⟨(Lib.decDigits q).toArray⟩ ++ ⟨#[d]⟩)) rfl (by kernel_rfl) (by kernel_rfl) (by kernel_rfl) (fun _ _ _ h => h) (Or.inl ⟨by rfl, fun w' hw' => by (clear hw'; go_simp)⟩) hHeld ?_
        simp only [Act.put, List.setIfInBounds_toArray, List.set_cons_zero, List.set_cons_succ]
        refine wpAnyH_take (i := 10) (oi := { dst := some 2, op := Op.assign (Operand.tmp 19), type := 9, pos := "ref.go:17", after := #[{ on := 9, ground := Ground.data }, { on := 2, ground := Ground.chain }, { on := 0, ground := Ground.phase }, { on := 1, ground := Ground.phase }, { on := 2, ground := Ground.phase }, { on := 3, ground := Ground.phase }, { on := 4, ground := Ground.phase }, { on := 5, ground := Ground.phase }, { on := 6, ground := Ground.phase }, { on := 7, ground := Ground.phase }, { on := 8, ground := Ground.phase }, { on := 9, ground := Ground.phase }], guard := none }) (v := .string (⟨(Lib.decDigits q).toArray⟩ ++ ⟨#[d]⟩)) rfl (by kernel_rfl) (by kernel_rfl) (by kernel_rfl) (fun _ _ _ h => h) (Or.inl ⟨by rfl, fun w' hw' => by (clear hw'; go_simp)⟩) hHeld ?_
        simp only [Act.put, List.setIfInBounds_toArray, List.set_cons_zero, List.set_cons_succ]
        refine wpAnyH_done (by kernel_rfl) ?_ _
        go_wp2_with fail
        go_ret
        exact ⟨by rw [HD.out, ← str_snoc]; rfl, dec_a HB2.out _⟩
      · go_simp
        refine hK.out _ _ trivial (fun hh => ?_)
        clear hK K hHeld
        have hHeld := hh
        clear hh
        try simp only [Act.put, List.setIfInBounds_toArray, List.set_cons_zero, List.set_cons_succ]
        have hc : ((w.alloc (.cells #[.int .u8 (48 + (r : Int))] 5)).drew).cell? ⟨w.heap.size, 0, none⟩ = some (.int .u8 (48 + (r : Int))) := (Sim.Blk.new w 5 [.int .u8 (48 + (r : Int))]).cell 0
        refine wpAnyH_ready (rs := [2, 8]) (by kernel_rfl) (by simp) ?_
        refine (AllReadyH.cons (o := { dst := some 12, op := Op.call { callee := Callee.value (Operand.func 50), args := #[Operand.tmp 11], argTypes := #[3] }, type := 9, pos := "ref.go:17", after := #[{ on := 1, ground := Ground.data }], guard := none }) rfl (fun K hK => ?_) (AllReadyH.cons (o := { dst := some 18, op := Op.convert 45 9 (Operand.tmp 17), type := 9, pos := "ref.go:17", after := #[{ on := 7, ground := Ground.data }], guard := none }) rfl (fun K hK => ?_) AllReadyH.nil))
        · go_simp
          refine (HIH.out _).mono ?_
          rintro e w2 ⟨rfl, hb2⟩
          have HB2 := hid hb2
          clear hb2
          go_wp2_with fail
          refine hK.out _ _ trivial (fun hh => ?_)
          clear hK K hHeld
          have hHeld := hh
          clear hh
          try simp only [Act.put, List.setIfInBounds_toArray, List.set_cons_zero, List.set_cons_succ]
          have hc2 := (HB2.out.cell (p := ⟨w.heap.size, 0, none⟩) (by simp)).trans hc
          have hcv := HC.out _ _ hc2
          clear hc hc2
          refine wpAnyH_ready (rs := [8]) (by kernel_rfl) (by simp) ?_
          refine (AllReadyH.cons (o := { dst := some 18, op := Op.convert 45 9 (Operand.tmp 17), type := 9, pos := "ref.go:17", after := #[{ on := 7, ground := Ground.data }], guard := none }) rfl (fun K hK => ?_) AllReadyH.nil)
          go_simp
          refine hK.out _ _ trivial (fun hh => ?_)
          clear hK K hHeld
          have hHeld := hh
          clear hh
          try simp only [Act.put, List.setIfInBounds_toArray, List.set_cons_zero, List.set_cons_succ]
          refine wpAnyH_take (i := 9) (oi := { dst := some 19, op := Op.binOp BinOp.add 9 (Operand.tmp 12) (Operand.tmp 18) 9, type := 9, pos := "ref.go:17", after := #[{ on := 2, ground := Ground.data }, { on := 8, ground := Ground.data }], guard := none }) (v := .string (⟨(Lib.decDigits q).toArray⟩ ++ ⟨#[d]⟩)) rfl (by kernel_rfl) (by kernel_rfl) (by kernel_rfl) (fun _ _ _ h => h) (Or.inl ⟨by rfl, fun w' hw' => by (clear hw'; go_simp)⟩) hHeld ?_
          simp only [Act.put, List.setIfInBounds_toArray, List.set_cons_zero, List.set_cons_succ]
          refine wpAnyH_take (i := 10) (oi := { dst := some 2, op := Op.assign (Operand.tmp 19), type := 9, pos := "ref.go:17", after := #[{ on := 9, ground := Ground.data }, { on := 2, ground := Ground.chain }, { on := 0, ground := Ground.phase }, { on := 1, ground := Ground.phase }, { on := 2, ground := Ground.phase }, { on := 3, ground := Ground.phase }, { on := 4, ground := Ground.phase }, { on := 5, ground := Ground.phase }, { on := 6, ground := Ground.phase }, { on := 7, ground := Ground.phase }, { on := 8, ground := Ground.phase }, { on := 9, ground := Ground.phase }], guard := none }) (v := .string (⟨(Lib.decDigits q).toArray⟩ ++ ⟨#[d]⟩)) rfl (by kernel_rfl) (by kernel_rfl) (by kernel_rfl) (fun _ _ _ h => h) (Or.inl ⟨by rfl, fun w' hw' => by (clear hw'; go_simp)⟩) hHeld ?_
          simp only [Act.put, List.setIfInBounds_toArray, List.set_cons_zero, List.set_cons_succ]
          refine wpAnyH_done (by kernel_rfl) ?_ _
          go_wp2_with fail
          go_ret
          exact ⟨by rw [HD.out, ← str_snoc]; rfl, dec_b HB2.out⟩
        · have hcv := HC.out _ _ hc
          clear hc
          go_simp
          refine hK.out _ _ trivial (fun hh => ?_)
          clear hK K hHeld
          have hHeld := hh
          clear hh
          try simp only [Act.put, List.setIfInBounds_toArray, List.set_cons_zero, List.set_cons_succ]
          refine wpAnyH_ready (rs := [2]) (by kernel_rfl) (by simp) ?_
          refine (AllReadyH.cons (o := { dst := some 12, op := Op.call { callee := Callee.value (Operand.func 50), args := #[Operand.tmp 11], argTypes := #[3] }, type := 9, pos := "ref.go:17", after := #[{ on := 1, ground := Ground.data }], guard := none }) rfl (fun K hK => ?_) AllReadyH.nil)
          go_simp
          refine (HIH.out _).mono ?_
          rintro e w2 ⟨rfl, hb2⟩
          have HB2 := hid hb2
          clear hb2
          go_wp2_with fail
          refine hK.out _ _ trivial (fun hh => ?_)
          clear hK K hHeld
          have hHeld := hh
          clear hh
          try simp only [Act.put, List.setIfInBounds_toArray, List.set_cons_zero, List.set_cons_succ]
          refine wpAnyH_take (i := 9) (oi := { dst := some 19, op := Op.binOp BinOp.add 9 (Operand.tmp 12) (Operand.tmp 18) 9, type := 9, pos := "ref.go:17", after := #[{ on := 2, ground := Ground.data }, { on := 8, ground := Ground.data }], guard := none }) (v := .string (⟨(Lib.decDigits q).toArray⟩ ++ ⟨#[d]⟩)) rfl (by kernel_rfl) (by kernel_rfl) (by kernel_rfl) (fun _ _ _ h => h) (Or.inl ⟨by rfl, fun w' hw' => by (clear hw'; go_simp)⟩) hHeld ?_
          simp only [Act.put, List.setIfInBounds_toArray, List.set_cons_zero, List.set_cons_succ]
          refine wpAnyH_take (i := 10) (oi := { dst := some 2, op := Op.assign (Operand.tmp 19), type := 9, pos := "ref.go:17", after := #[{ on := 9, ground := Ground.data }, { on := 2, ground := Ground.chain }, { on := 0, ground := Ground.phase }, { on := 1, ground := Ground.phase }, { on := 2, ground := Ground.phase }, { on := 3, ground := Ground.phase }, { on := 4, ground := Ground.phase }, { on := 5, ground := Ground.phase }, { on := 6, ground := Ground.phase }, { on := 7, ground := Ground.phase }, { on := 8, ground := Ground.phase }, { on := 9, ground := Ground.phase }], guard := none }) (v := .string (⟨(Lib.decDigits q).toArray⟩ ++ ⟨#[d]⟩)) rfl (by kernel_rfl) (by kernel_rfl) (by kernel_rfl) (fun _ _ _ h => h) (Or.inl ⟨by rfl, fun w' hw' => by (clear hw'; go_simp)⟩) hHeld ?_
          simp only [Act.put, List.setIfInBounds_toArray, List.set_cons_zero, List.set_cons_succ]
          refine wpAnyH_done (by kernel_rfl) ?_ _
          go_wp2_with fail
          go_ret
          exact ⟨by rw [HD.out, ← str_snoc]; rfl, dec_b HB2.out⟩

end Go.Proofs.YtophnjcoaglbnaaGreatDoor
end

section
/-
  Which names are right: the program's Name, by runes, and the reference's, by bytes.
-/
namespace Go.Proofs.YtophnjcoaglbnaaGreatDoor.Sim
open Go.RowKit

/-- A rune that no name has. -/
def badR (x : Nat) : Bool := decide (x < 33) || decide (126 < x) || x == 47

theorem sign_bad (c : UInt8) : badR c.toNat = !sign c := by
  unfold badR sign
  by_cases h1 : c.toNat < 33 <;> by_cases h2 : 126 < c.toNat <;> by_cases h3 : c.toNat = 47 <;> simp [h1, h2, h3] <;> omega
theorem sign_high (c : UInt8) (h : 128 ≤ c.toNat) : sign c = false := by
  unfold sign
  have : decide (c.toNat ≤ 126) = false := by simp; omega
  simp [this]

theorem dec_high (s : ByteArray) (pos : Nat) (h : 128 ≤ (s.get! pos).toNat) : 128 ≤ (Utf8.decode s pos).1 := by
  unfold Utf8.decode
  simp only [Nat.add_zero]
  rw [if_neg (by omega)]
  split
  · split
    · omega
    · unfold Utf8.runeError; omega
  · split
    · split
      · rename_i h; simp only [Bool.and_eq_true, decide_eq_true_eq, ge_iff_le] at h; omega
      · unfold Utf8.runeError; omega
    · split
      · split
        · rename_i h; simp only [Bool.and_eq_true, decide_eq_true_eq, ge_iff_le] at h; omega
        · unfold Utf8.runeError; omega
      · unfold Utf8.runeError; omega
theorem dec_bad (s : ByteArray) (pos : Nat) (h : pos < s.size) : badR (Utf8.decode s pos).1 = !sign (s[pos]'h) ∧ (sign (s[pos]'h) = true → (Utf8.decode s pos).2 = 1) := by
  have e : s.get! pos = s[pos]'h := by simp [ByteArray.get!, ByteArray.getElem_eq_getElem_data, getElem!_pos, h]
  by_cases hc : (s[pos]'h).toNat < 128
  · rw [decode_ascii s pos h hc]
    exact ⟨sign_bad _, fun _ => rfl⟩
  · have h1 := sign_high _ (by omega : 128 ≤ (s[pos]'h).toNat)
    have h2 := dec_high s pos (by rw [e]; omega)
    refine ⟨?_, fun h => by rw [h1] at h; cases h⟩
    rw [h1]
    unfold badR
    have : decide (126 < (Utf8.decode s pos).1) = true := by simp; omega
    simp [this]

theorem pName1_any (x : Nat) (hx : x ≤ 1114111) (w : World) : Calls Tryz.prog 122 #[.int .i32 x] w fun e w' => e = .returned (.bool (badR x)) ∧ w' = w := by
  by_cases h1 : x < 33
  · have e : badR x = true := by simp [badR, h1]
    rw [e]
    have h1' : (x : Int) < 33 := by omega
    go_enter Tryz.func122, Tryz.ntmps122
    go_wp2
    go_ret
    exact ⟨rfl, rfl⟩
  · by_cases h2 : 126 < x
    · have e : badR x = true := by simp [badR, h2]
      rw [e]
      have h1' : ¬ (x : Int) < 33 := by omega
      have h2' : (126 : Int) < x := by omega
      go_enter Tryz.func122, Tryz.ntmps122
      go_wp2
      go_ret
      exact ⟨rfl, rfl⟩
    · have h1' : ¬ (x : Int) < 33 := by omega
      have h2' : ¬ (126 : Int) < x := by omega
      have e : badR x = (x == 47) := by simp [badR, h1, h2]
      rw [e]
      by_cases h3 : x = 47
      · subst h3
        go_enter Tryz.func122, Tryz.ntmps122
        go_wp2
        go_ret
        exact ⟨rfl, rfl⟩
      · have h3' : ((x : Int) == 47) = false := by simp; omega
        have h3'' : (x == 47) = false := by simp; omega
        rw [h3'']
        go_enter Tryz.func122, Tryz.ntmps122
        go_wp2
        go_ret
        exact ⟨rfl, rfl⟩

set_option maxHeartbeats 1000000 in
theorem indexFunc_any (s : ByteArray) (w : World) : Calls Tryz.prog 187 #[.string s, .func (.func 122) #[] #[], .bool true] w fun e w' => ∃ z : Int, e = .returned (.int .i64 z) ∧ decide (0 ≤ z) = !(s.data.toList.all sign) ∧ Below w.heap.size w w' := by
  go_enter Tryz.func187, Tryz.ntmps187
  go_wp2
  go_loopg [] s.size (fun gf wx => ∃ pos : Nat, Hid (wx.heap[w.heap.size]? = some (.stringIter s pos)) ∧ Hid (Below w.heap.size w wx) ∧ pos ≤ s.size ∧ Hid ((s.data.toList.take pos).all sign = true) ∧ s.size ≤ pos + gf)
  case atStart => exact ⟨0, World.iter_heap w s 0, (Below.refl _ w).alloc (Nat.le_refl _) _, Nat.zero_le _, by simp [Hid], by omega⟩
  case round =>
    obtain ⟨pos, hit, hbw, hps0, hall, hfu⟩ := hrel
    by_cases hps : pos < s.size
    · obtain ⟨g', rfl⟩ : ∃ g', gk = g' + 1 := ⟨gk - 1, by omega⟩
      have hnx : ∀ ty, (Instr.next (.pointer (some ⟨w.heap.size, 0, none⟩)) true ty).run Tryz.prog wr = _ := fun ty => Lib.run_next_any_at wr w.heap.size s pos ty hit hps
      obtain ⟨hb, hK1⟩ := dec_bad s pos hps
      have hle := Lib.rune_le s pos
      obtain ⟨R, hR⟩ : ∃ R, (Utf8.decode s pos).1 = R := ⟨_, rfl⟩
      obtain ⟨K, hK⟩ : ∃ K, (Utf8.decode s pos).2 = K := ⟨_, rfl⟩
      rw [hR, hK] at hnx
      rw [hR] at hb hle
      rw [hK] at hK1
      have hit2 := hid (Lib.iterAt_heap wr w.heap.size s pos (pos + K) hit)
      have hbw2 := hid (Lib.below_iterAt hbw (k := w.heap.size) (Nat.le_refl _) s (pos + K))
      have hc := hid (pName1_any R hle)
      obtain ⟨W, hWd⟩ : ∃ W, wr.iterAt w.heap.size s (pos + K) = W := ⟨_, rfl⟩
      rw [hWd] at hnx hit2 hbw2
      have hel : Hid (s.data.toList.take (pos + 1) = s.data.toList.take pos ++ [s[pos]'hps]) := by
        rw [Hid, List.take_succ_eq_append_getElem (by simpa using hps)]
        rfl
      clear hR hK hWd hit
      cases hsg : sign (s[pos]'hps) with
      | true =>
        have HK := hid (hK1 hsg)
        rw [hsg] at hb
        have HB := hid hb
        have HG := hid hsg
        clear hK1 hb hsg
        go_wp2_with (go_at_call 122; refine (hc.out _).mono ?_; rintro e w2 ⟨rfl, h2⟩; subst w2; rw [HB.out])
        go_roundg g'
        case measure => omega
        case rel =>
          have h1 := HK.out
          subst h1
          exact ⟨pos + 1, hit2, hbw2, by omega, by rw [Hid, hel.out, List.all_append, hall.out]; simp [HG.out], by omega⟩
      | false =>
        rw [hsg] at hb
        have HB := hid hb
        have HG := hid hsg
        clear hK1 hb hsg
        go_wp2_with (go_at_call 122; refine (hc.out _).mono ?_; rintro e w2 ⟨rfl, h2⟩; subst w2; rw [HB.out])
        go_ret
        refine ⟨pos, rfl, ?_, hbw2.out⟩
        have hfa : s.data.toList.all sign = false := by
          rw [List.all_eq_false]
          exact ⟨s[pos]'hps, by simp [ByteArray.getElem_eq_getElem_data], by simp [HG.out]⟩
        rw [hfa]
        simp
    · have hnx : ∀ ty, (Instr.next (.pointer (some ⟨w.heap.size, 0, none⟩)) true ty).run Tryz.prog wr = _ := fun ty => Lib.run_next_end_at wr w.heap.size s pos ty hit hps
      go_wp2
      go_ret
      refine ⟨-1, rfl, ?_, hbw.out⟩
      have := hall.out
      rw [List.take_of_length_le (by rw [Array.length_toList]; have : s.data.size = s.size := rfl; omega)] at this
      rw [this]
      rfl

theorem IndexFunc_any (s : ByteArray) (w : World) : Calls Tryz.prog 160 #[.string s, .func (.func 122) #[] #[]] w fun e w' => ∃ z : Int, e = .returned (.int .i64 z) ∧ decide (0 ≤ z) = !(s.data.toList.all sign) ∧ Below w.heap.size w w' := by
  have HI := hid (indexFunc_any s w)
  go_enter Tryz.func160, Tryz.ntmps160
  go_wp2_with (go_at_call 187; refine (HI.out).mono ?_; rintro e w1 ⟨z, rfl, hz, hb⟩; have HZ := hid hz; have HB := hid hb; clear hz hb)
  go_ret
  exact ⟨z, rfl, HZ.out, HB.out⟩

theorem containsFunc_any (s : ByteArray) (w : World) : Calls Tryz.prog 121 #[.string s, .func (.func 122) #[] #[]] w fun e w' => e = .returned (.bool (!(s.data.toList.all sign))) ∧ Below w.heap.size w w' := by
  have HI := hid (IndexFunc_any s w)
  go_enter Tryz.func121, Tryz.ntmps121
  go_wp2_with (go_at_call 160; refine (HI.out).mono ?_; rintro e w1 ⟨z, rfl, hz, hb⟩; have HZ := hid hz; have HB := hid hb; clear hz hb)
  go_ret
  refine ⟨?_, HB.out⟩
  rw [← HZ.out]
  rfl

/-- Name. -/
theorem pName_any (s : ByteArray) (hs : s.size ≤ 1000000) (w : World) : Calls Tryz.prog 87 #[.string s] w fun e w' => e = .returned (.bool (nameB s.data.toList)) ∧ Kp No w w' := by
  have hl : s.data.toList.length = s.size := by rw [Array.length_toList]; rfl
  by_cases h1 : s.size < 1
  · have e : nameB s.data.toList = false := by unfold nameB; rw [hl, decide_eq_false (by omega)]; rfl
    rw [e]
    have h1' : (s.size : Int) < 1 := by omega
    go_enter Tryz.func87, Tryz.ntmps87
    go_wp2
    go_ret
    exact ⟨rfl, Kp.refl _ _⟩
  · have h1' : ¬ (s.size : Int) < 1 := by omega
    by_cases h2 : 40 < s.size
    · have e : nameB s.data.toList = false := by unfold nameB; rw [hl, decide_eq_true (by omega), decide_eq_false (by omega)]; rfl
      rw [e]
      have h2' : (40 : Int) < (s.size : Int) := by omega
      go_enter Tryz.func87, Tryz.ntmps87
      go_wp2
      go_ret
      exact ⟨rfl, Kp.refl _ _⟩
    · have e : nameB s.data.toList = s.data.toList.all sign := by unfold nameB; rw [hl, decide_eq_true (by omega), decide_eq_true (by omega)]; rfl
      rw [e]
      have h2' : ¬ (40 : Int) < (s.size : Int) := by omega
      have HC := hid (containsFunc_any s w)
      generalize s.data.toList.all sign = ok at *
      clear e hl
      have hnot : ∀ (x : Bool) (w : World), (Op.unary .not (.bool x)).run Tryz.prog w = .ok (.bool (!x)) w := fun _ _ => rfl
      go_enter Tryz.func87, Tryz.ntmps87
      go_wp2_with (go_at_call 121; refine (HC.out).mono ?_; rintro e w1 ⟨rfl, hb⟩; have HB := hid hb; clear hb)
      go_ret
      exact ⟨rfl, Kp.below HB.out⟩

end Go.Proofs.YtophnjcoaglbnaaGreatDoor.Sim
end

section
/-
  The reference's Name and Less, by bytes.
-/
namespace Go.Proofs.YtophnjcoaglbnaaGreatDoor.Sim
open Go.RowKit

/-- A text's byte. -/
def byt (s : ByteArray) (i : Nat) : Nat := (s.data.toList.getD i 0).toNat
theorem byt_lt (s : ByteArray) (i : Nat) : byt s i < 256 := UInt8.toNat_lt _
theorem len_data (s : ByteArray) : s.data.toList.length = s.size := by rw [Array.length_toList]; rfl
theorem sidx (s : ByteArray) (i : Nat) (h : i < s.size) (w : World) : (Instr.index 9 (.string s) (.int .i64 (i : Int))).run Tryz.prog w = .ok (.int .u8 (byt s i : Nat)) w := by
  simp [Instr.index, asIntOf, run_underlying Tryz.underlying9]
  have e : s[i]? = some s[i] := getElem?_pos s i h
  have e2 : byt s i = (s[i]).toNat := by
    have h' : i < s.data.toList.length := by simpa using h
    simp [byt, List.getElem?_eq_getElem h', ByteArray.getElem_eq_getElem_data]
  rw [e, e2]
  rfl
theorem take_byt (s : ByteArray) (i : Nat) (h : i < s.size) : s.data.toList.take (i + 1) = s.data.toList.take i ++ [s.data.toList.getD i 0] := by
  have h' : i < s.data.toList.length := by rw [len_data]; exact h
  rw [List.take_succ_eq_append_getElem h', List.getD_eq_getElem?_getD, List.getElem?_eq_getElem h', Option.getD_some]
theorem mem_byt (s : ByteArray) (i : Nat) (h : i < s.size) : s.data.toList.getD i 0 ∈ s.data.toList := by
  have h' : i < s.data.toList.length := by rw [len_data]; exact h
  rw [List.getD_eq_getElem?_getD, List.getElem?_eq_getElem h', Option.getD_some]
  exact List.getElem_mem h'


theorem bb_step (a b : List UInt8) (i : Nat) (ha : i < a.length) (hb : i < b.length) : bytesBefore (a.drop i) (b.drop i) = if (a.getD i 0).toNat = (b.getD i 0).toNat then bytesBefore (a.drop (i + 1)) (b.drop (i + 1)) else decide ((a.getD i 0).toNat < (b.getD i 0).toNat) := by
  rw [List.drop_eq_getElem_cons ha, List.drop_eq_getElem_cons hb, List.getD_eq_getElem?_getD, List.getElem?_eq_getElem ha, List.getD_eq_getElem?_getD, List.getElem?_eq_getElem hb, Option.getD_some, Option.getD_some]
  rw [bytesBefore]
  by_cases h : a[i] = b[i]
  · simp [h]
  · have h' : ¬ a[i].toNat = b[i].toNat := fun e => h (UInt8.toNat_inj.1 e)
    have h'' : (a[i] == b[i]) = false := by simp [h]
    rw [if_neg h', h'']
    simp [UInt8.lt_iff_toNat_lt]
theorem bb_end (a b : List UInt8) (i : Nat) (h : a.length ≤ i ∨ b.length ≤ i) (ha : i ≤ a.length) (hb : i ≤ b.length) : bytesBefore (a.drop i) (b.drop i) = decide (a.length < b.length) := by
  by_cases h1 : a.length ≤ i
  · rw [List.drop_of_length_le h1]
    by_cases h2 : b.length ≤ i
    · rw [List.drop_of_length_le h2, decide_eq_false (by omega)]
      rfl
    · rw [List.drop_eq_getElem_cons (by omega : i < b.length), decide_eq_true (by omega)]
      rfl
  · have h2 : b.length ≤ i := by omega
    rw [List.drop_of_length_le h2, List.drop_eq_getElem_cons (by omega : i < a.length), decide_eq_false (by omega)]
    rfl


end Go.Proofs.YtophnjcoaglbnaaGreatDoor.Sim
end
