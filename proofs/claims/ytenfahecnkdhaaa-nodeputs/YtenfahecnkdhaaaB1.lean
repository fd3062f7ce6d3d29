/- Of the proof: the texts SimPlain, SimMem, SgStabM, NdRow, NdSwap, NdRot, one behind the other. -/
import Derived.Sort.KeysCollected
import Derived.Maps.Ext
import Derived.Test.YtenfahecnkdhaaaRows
import Derived.WalkKit
import Derived.WalkSpells
import Derived.WalkLawsBesides
import Derived.Laws.AppendOwnNone
import Derived.Laws.NewBlocks
import Derived.Laws.LoneSync
import Derived.RegionCalls
import Derived.Deep.QuietTactic
import Derived.BigQuiet
import Derived.Maps.AppendAt
import Derived.Maps.OwnSet
import Derived.OneCell
import Derived.Lib.AppendZerosOnto
import Derived.ProofKit
import Derived.Deep.MidRow
import Derived.Lib.BytesEntry
import Derived.Deep.RegionHeld3
section
/-
  The files of the document as data: names, directories, changes, what each call makes of them.
-/
namespace Go.Proofs.Ytenfahecnkdhaaa.Sim

abbrev Nm := List UInt8
/-- A file: its bytes, the first so many of which are safe. -/
structure Fl where
  b : List Nat
  safe : Nat
/-- A directory: names, each with a file (a block, or a number). -/
abbrev Dir := List (Nm × Nat)

def dfind (l : Dir) (n : Nm) : Option Nat := (l.find? (fun p => p.1 == n)).map (·.2)
def ddel (l : Dir) (n : Nm) : Dir := l.filter (fun p => !(p.1 == n))
def dins (x : Nm × Nat) : Dir → Dir
  | [] => [x]
  | y :: r => if bytesBefore x.1 y.1 then x :: y :: r else y :: dins x r
def dput (l : Dir) (n : Nm) (f : Nat) : Dir := dins (n, f) (ddel l n)

/-! ### A directory as a map that is read -/
abbrev DD := DataW Unit
def fileD (b : Nat) : DD := .lit (.int .i64 (b : Int))
def entD (p : Nm × Nat) : Lit × DD := (.string p.1, fileD p.2)
def dirD (l : Dir) : DD := .map (l.map entD)

theorem sameKey_str (a b : Nm) : (Lit.string a).sameKey (.string b) = (a == b) := rfl
theorem dirD_filter (l : Dir) (n : Nm) : (l.map entD).filter (fun p => !p.1.sameKey (.string n)) = (ddel l n).map entD := by
  unfold ddel
  rw [List.filter_map]
  rfl
theorem dirD_ins (x : Nm × Nat) : ∀ l : Dir, DataW.insert (entD x) (l.map entD) = (dins x l).map entD
  | [] => rfl
  | y :: r => by
    show (if bytesBefore x.1 y.1 then _ else _) = _
    unfold dins
    split
    · rfl
    · rw [List.map_cons, dirD_ins x r]
theorem dirD_put (l : Dir) (n : Nm) (f : Nat) : (dirD l).put (.string n) (fileD f) = dirD (dput l n f) := by
  show DataW.map (DataW.insert (entD (n, f)) ((l.map entD).filter fun p => !p.1.sameKey (.string n))) = _
  rw [dirD_filter, dirD_ins]
  rfl
theorem dirD_del (l : Dir) (n : Nm) : (dirD l).del (.string n) = dirD (ddel l n) := by
  show DataW.map ((l.map entD).filter fun p => !p.1.sameKey (.string n)) = _
  rw [dirD_filter]
  rfl
theorem find_map_entD (n : Nm) : ∀ l : Dir, (l.map entD).find? (fun p => p.1.sameKey (.string n)) = (l.find? (fun p => p.1 == n)).map entD
  | [] => rfl
  | y :: r => by
    have e : (entD y).1.sameKey (.string n) = (y.1 == n) := rfl
    rw [List.map_cons, List.find?_cons, List.find?_cons, e]
    split
    · rfl
    · exact find_map_entD n r
theorem dirD_at (l : Dir) (n : Nm) (z : DD) : (dirD l).atKey (.string n) z = match dfind l n with | some b => fileD b | none => z := by
  have h := find_map_entD n l
  unfold DataW.atKey dirD
  simp only [h, dfind]
  cases l.find? (fun p => p.1 == n) <;> rfl
theorem dirD_has (l : Dir) (n : Nm) : Maps.has (dirD l) (.string n) = (dfind l n).isSome := by
  show (l.map entD).any (fun p => p.1.sameKey (.string n)) = _
  rw [dfind, Option.isSome_map, List.isSome_find?, List.any_map]
  rfl
theorem dirD_size (l : Dir) : Maps.size (dirD l) = l.length := by
  show (l.map entD).length = _
  simp
theorem dirD_keys (l : Dir) : strKeys (dirD l) = l.map (·.1) := by
  show (l.map entD).map (fun p => strOf p.1) = _
  rw [List.map_map]
  rfl

/-! ### Rising names -/
def Ris (l : Dir) : Prop := l.Pairwise (fun p q => bytesBefore p.1 q.1 = true)
theorem ris_of_canon {l : Dir} (h : Maps.Canon (dirD l)) : Ris l := by
  obtain ⟨es, e, h1, _⟩ := h
  have e' : es = l.map entD := (DataW.map.inj e).symm
  subst e'
  exact (List.pairwise_map.1 h1)
theorem Ris.nodup {l : Dir} (h : Ris l) : (l.map (·.1)).Nodup := by
  unfold List.Nodup
  rw [List.pairwise_map]
  exact h.imp (fun {a b} hab e => by rw [e, WideAt.bytes_irrefl] at hab; cases hab)
theorem mem_dins (x p : Nm × Nat) : ∀ l : Dir, p ∈ dins x l ↔ p = x ∨ p ∈ l
  | [] => by simp [dins]
  | y :: r => by
    unfold dins
    split
    · simp
    · simp only [List.mem_cons, mem_dins x p r]
      constructor
      · rintro (h | h | h)
        · exact .inr (.inl h)
        · exact .inl h
        · exact .inr (.inr h)
      · rintro (h | h | h)
        · exact .inr (.inl h)
        · exact .inl h
        · exact .inr (.inr h)
theorem length_dins (x : Nm × Nat) : ∀ l : Dir, (dins x l).length = l.length + 1
  | [] => rfl
  | y :: r => by
    unfold dins
    split
    · rfl
    · simp [length_dins x r]
theorem mem_ddel {l : Dir} {n : Nm} {p : Nm × Nat} : p ∈ ddel l n ↔ p ∈ l ∧ p.1 ≠ n := by
  unfold ddel
  rw [List.mem_filter]
  simp
theorem mem_dput {l : Dir} {n : Nm} {f : Nat} {p : Nm × Nat} : p ∈ dput l n f ↔ p = (n, f) ∨ (p ∈ l ∧ p.1 ≠ n) := by
  unfold dput
  rw [mem_dins, mem_ddel]
theorem length_ddel (l : Dir) (n : Nm) : (ddel l n).length ≤ l.length := List.length_filter_le _ _
theorem length_dput (l : Dir) (n : Nm) (f : Nat) : (dput l n f).length ≤ l.length + 1 := by
  unfold dput
  rw [length_dins]
  have := length_ddel l n
  omega
theorem Ris.del {l : Dir} (h : Ris l) (n : Nm) : Ris (ddel l n) := h.filter _
theorem ris_ins {x : Nm × Nat} : ∀ {l : Dir}, Ris l → (∀ p ∈ l, p.1 ≠ x.1) → Ris (dins x l)
  | [], _, _ => by simp [dins, Ris]
  | y :: r, h, hn => by
    obtain ⟨h1, h2⟩ := List.pairwise_cons.1 h
    unfold dins
    split
    · rename_i hb
      refine List.pairwise_cons.2 ⟨fun p hp => ?_, h⟩
      rcases List.mem_cons.1 hp with rfl | hp
      · exact hb
      · exact WideShapes.bytes_trans _ _ _ hb (h1 p hp)
    · rename_i hb
      have hyx : bytesBefore y.1 x.1 = true := by
        rcases WideAt.bytes_total y.1 x.1 (hn y (by simp)) with h | h
        · exact h
        · exact absurd h hb
      refine List.pairwise_cons.2 ⟨fun p hp => ?_, ris_ins h2 (fun p hp => hn p (by simp [hp]))⟩
      rcases (mem_dins x p r).1 hp with rfl | hp
      · exact hyx
      · exact h1 p hp
theorem Ris.put {l : Dir} (h : Ris l) (n : Nm) (f : Nat) : Ris (dput l n f) := ris_ins (h.del n) (fun _ hp => (mem_ddel.1 hp).2)
theorem mem_of_dfind {l : Dir} {n : Nm} {b : Nat} (h : dfind l n = some b) : (n, b) ∈ l := by
  unfold dfind at h
  cases hf : l.find? (fun p => p.1 == n) with
  | none => rw [hf] at h; cases h
  | some p =>
    rw [hf] at h
    have h1 := List.mem_of_find?_eq_some hf
    have h2 := List.find?_some hf
    simp at h h2
    obtain ⟨x, y⟩ := p
    simp at h h2
    subst h h2
    exact h1
theorem dfind_none {l : Dir} {n : Nm} (h : dfind l n = none) : ∀ p ∈ l, p.1 ≠ n := by
  unfold dfind at h
  rw [Option.map_eq_none_iff, List.find?_eq_none] at h
  intro p hp
  simpa using h p hp
theorem dfind_of_mem {l : Dir} (hr : (l.map (·.1)).Nodup) {n : Nm} {b : Nat} (h : (n, b) ∈ l) : dfind l n = some b := by
  cases hf : dfind l n with
  | none => exact absurd rfl (dfind_none hf _ h)
  | some c =>
    have h2 := mem_of_dfind hf
    have : (n, b) = (n, c) := by
      refine Classical.byContradiction fun hne => ?_
      have hp := List.pairwise_map.1 hr
      rw [List.pairwise_iff_forall_sublist] at hp
      rcases List.mem_iff_append.1 h with ⟨s, t, rfl⟩
      rcases List.mem_append.1 h2 with h2 | h2
      · rw [List.map_append, List.nodup_append] at hr
        exact hr.2.2 n (List.mem_map.2 ⟨_, h2, rfl⟩) n (by simp) rfl
      · rcases List.mem_cons.1 h2 with e | h2
        · exact hne e.symm
        · rw [List.map_append, List.nodup_append] at hr
          have := hr.2.1
          rw [List.map_cons, List.nodup_cons] at this
          exact this.1 (List.mem_map.2 ⟨_, h2, rfl⟩)
    simp at this
    rw [this]

/-! ### Names -/
def sign (c : UInt8) : Bool := decide (33 ≤ c.toNat) && decide (c.toNat ≤ 126) && !(c.toNat == 47)
def nameB (n : Nm) : Bool := decide (1 ≤ n.length) && decide (n.length ≤ 40) && n.all sign

/-! ### Changes -/
/-- kind 0: made, with a file; 1: removed; 2: moved. -/
structure PC where
  kind : Nat
  nm : Nm
  to : Nm
  file : Nat
def pdo (d : Dir) (c : PC) : Dir :=
  if c.kind = 0 then dput d c.nm c.file else if c.kind = 1 then ddel d c.nm else dput (ddel d c.nm) c.to ((dfind d c.nm).getD 0)
def okc (d : Dir) (c : PC) : Prop := c.kind ≤ 2 ∧ (c.kind = 2 → (dfind d c.nm).isSome = true)
def okcs : Dir → List PC → Prop
  | _, [] => True
  | d, c :: r => okc d c ∧ okcs (pdo d c) r
theorem okcs_append (d : Dir) : ∀ (l m : List PC), okcs d (l ++ m) ↔ okcs d l ∧ okcs (l.foldl pdo d) m := by
  intro l
  induction l generalizing d with
  | nil => intro m; simp [okcs]
  | cons c r ih => intro m; simp only [List.cons_append, okcs, ih, List.foldl_cons, and_assoc]
theorem length_pdo (d : Dir) (c : PC) : (pdo d c).length ≤ d.length + 1 := by
  unfold pdo
  split
  · exact length_dput _ _ _
  · split
    · have := length_ddel d c.nm; omega
    · have := length_dput (ddel d c.nm) c.to ((dfind d c.nm).getD 0)
      have := length_ddel d c.nm
      omega
theorem Ris.pdo {d : Dir} (h : Ris d) (c : PC) : Ris (pdo d c) := by
  unfold Ytenfahecnkdhaaa.Sim.pdo
  split
  · exact h.put _ _
  · split
    · exact h.del _
    · exact (h.del _).put _ _
theorem Ris.fold {d : Dir} (h : Ris d) : ∀ (l : List PC), Ris (l.foldl Ytenfahecnkdhaaa.Sim.pdo d) := by
  intro l
  induction l generalizing d with
  | nil => exact h
  | cons c r ih => exact ih (h.pdo c)

/-! ### The program's state -/
structure PS where
  room : Nat
  made : Bool
  seen : Dir
  safe : Dir
  chg : List PC
  down : Bool
  armed : Bool
  left : Nat
  steps : Nat
  files : Nat → Option Fl

def dead (p : PS) : Bool := p.armed && p.left == 0
def fall (p : PS) : PS := { p with down := true }
def tick (p : PS) : PS := { p with left := if p.armed then p.left - 1 else p.left, steps := p.steps + 1 }
/-- A step: what is done, and the fault. -/
def stp (p : PS) (g : PS → PS) : Nat × PS := if dead p then (12, fall p) else (0, g (tick p))
def setF (b : Nat) (f : Fl) (p : PS) : PS := { p with files := fun x => if x = b then some f else p.files x }
def chgd (c : PC) (p : PS) : PS := { p with made := true, seen := pdo p.seen c, chg := p.chg ++ [c] }
def settle (k : Nat) (p : PS) : PS := { p with safe := (p.chg.take k).foldl pdo p.safe, chg := [] }
def fileAt (p : PS) (b : Nat) : Fl := (p.files b).getD ⟨[], 0⟩
def used (p : PS) : Nat := (p.seen.map fun e => (fileAt p e.2).b.length).sum
def wrongs (p : PS) (l : List Nm) : Nat := if p.down then 12 else if l.all nameB then 0 else 10

def pCreate (n : Nm) (b : Nat) (p : PS) : Nat × PS :=
  if wrongs p [n] ≠ 0 then (wrongs p [n], p) else if (dfind p.seen n).isSome then (6, p) else stp p (fun q => chgd ⟨0, n, [], b⟩ (setF b ⟨[], 0⟩ q))
/-- The fault of a name that must be there. -/
def finds (p : PS) (n : Nm) : Nat := if wrongs p [n] ≠ 0 then wrongs p [n] else if (dfind p.seen n).isSome then 0 else 5
def blockOf (p : PS) (n : Nm) : Nat := (dfind p.seen n).getD 0
def pAppend (n : Nm) (bs : List Nat) (p : PS) : Nat × PS :=
  if finds p n ≠ 0 then (finds p n, p) else if used p + bs.length > p.room then (11, p)
  else stp p (setF (blockOf p n) ⟨(fileAt p (blockOf p n)).b ++ bs, (fileAt p (blockOf p n)).safe⟩)
def pBytes (n : Nm) (p : PS) : List Nat := if finds p n ≠ 0 then [] else (fileAt p (blockOf p n)).b
def pRename (n t : Nm) (p : PS) : Nat × PS :=
  if wrongs p [n, t] ≠ 0 then (wrongs p [n, t], p) else if (dfind p.seen n).isSome then stp p (chgd ⟨2, n, t, 0⟩) else (5, p)
def pRemove (n : Nm) (p : PS) : Nat × PS := if finds p n ≠ 0 then (finds p n, p) else stp p (chgd ⟨1, n, [], 0⟩)
def pFsync (n : Nm) (p : PS) : Nat × PS :=
  if finds p n ≠ 0 then (finds p n, p) else stp p (setF (blockOf p n) ⟨(fileAt p (blockOf p n)).b, (fileAt p (blockOf p n)).b.length⟩)
def pSyncDir (p : PS) : Nat × PS := if wrongs p [] ≠ 0 then (wrongs p [], p) else stp p (settle p.chg.length)
def pArm (k : Int) (p : PS) : Nat × PS := if wrongs p [] ≠ 0 then (wrongs p [], p) else if k < 0 then (1, p) else (0, { p with armed := true, left := k.toNat })
/-- What a file keeps. -/
def lose (cut : Int) (f : Fl) : Fl :=
  let b := f.b.take (f.safe + min (max cut 0).toNat (f.b.length - f.safe))
  ⟨b, b.length⟩
def loses : Dir → Nat → List Int → PS → PS
  | [], _, _, p => p
  | e :: r, i, cuts, p => loses r (i + 1) cuts (setF e.2 (lose (cuts.getD i 0) (fileAt p e.2)) p)
def pUp (k : Int) (cuts : List Int) (p : PS) : PS :=
  let q := settle (min (max k 0).toNat p.chg.length) p
  let r := loses q.safe 0 cuts q
  { r with seen := r.safe, down := false, armed := false, left := 0 }
def pFlip (n : Nm) (at' : Int) (by' : Nat) (p : PS) : Nat × PS :=
  if finds p n ≠ 0 then (finds p n, p) else if at' < 0 ∨ (fileAt p (blockOf p n)).b.length ≤ at' then (1, p)
  else (0, setF (blockOf p n) ⟨(fileAt p (blockOf p n)).b.set at'.toNat ((fileAt p (blockOf p n)).b.getD at'.toNat 0 ^^^ by'), (fileAt p (blockOf p n)).safe⟩ p)
def pList (p : PS) : List Nm := if p.down then [] else p.seen.map (·.1)

end Go.Proofs.Ytenfahecnkdhaaa.Sim
end

section
/-
  What stays as it was; bytes, rows and structs in memory.
-/
namespace Go.Proofs.Ytenfahecnkdhaaa.Sim
open Go.RowKit

theorem hid {p : Prop} (h : p) : Hid p := h
theorem getD_at {bs : List Nat} {k : Nat} (hk : k < bs.length) : bs.getD k 0 = bs[k] := by rw [List.getD_eq_getElem?_getD, List.getElem?_eq_getElem hk, Option.getD_some]
theorem addr_add (g o i : Nat) : (⟨g, o, none⟩ : Addr).add i = ⟨g, o + i, none⟩ := by unfold Addr.add; split <;> simp_all
theorem cell_other {w : World} {b i j : Nat} {x : Value} (h : j ≠ i) : (w.setCell ⟨b, i, none⟩ x).cell? ⟨b, j, none⟩ = w.cell? ⟨b, j, none⟩ := World.cell?_setCell_other _ _ _ _ (by simp only [ne_eq, Addr.mk.injEq, true_and, and_true]; omega)

/-! ### What stays as it was -/
/-- All blocks that are not in L hold what they held. -/
structure Kp (L : Nat → Prop) (w w' : World) : Prop where
  os : w'.os = w.os
  tape : w'.tape = w.tape
  output : w'.output = w.output
  size : w.heap.size ≤ w'.heap.size
  block : ∀ k, k < w.heap.size → ¬ L k → w'.heap[k]? = w.heap[k]?

def No : Nat → Prop := fun _ => False
theorem Kp.refl (L : Nat → Prop) (w : World) : Kp L w w := ⟨rfl, rfl, rfl, Nat.le_refl _, fun _ _ _ => rfl⟩
/-- One behind the other: what the second one writes is the first one's, or new. -/
theorem Kp.trans {L M : Nat → Prop} {u v w : World} (h : Kp L u v) (k : Kp M v w) (hm : ∀ x, M x → L x ∨ u.heap.size ≤ x) : Kp L u w :=
  ⟨k.os.trans h.os, k.tape.trans h.tape, k.output.trans h.output, Nat.le_trans h.size k.size, fun i h1 h2 => (k.block i (Nat.lt_of_lt_of_le h1 h.size) (fun hi => by
    rcases hm i hi with h | h
    · exact h2 h
    · omega)).trans (h.block i h1 h2)⟩
theorem Kp.mono {L M : Nat → Prop} {u w : World} (h : Kp L u w) (hs : ∀ x, L x → M x ∨ u.heap.size ≤ x) : Kp M u w := (Kp.refl M u).trans h hs
theorem Kp.ofNo {M : Nat → Prop} {u w : World} (h : Kp No u w) : Kp M u w := h.mono (fun _ hx => hx.elim)
theorem Kp.andNone {L : Nat → Prop} {u v w : World} (h : Kp L u v) (k : Kp No v w) : Kp L u w := h.trans k (fun _ hx => hx.elim)
theorem Kp.below {L : Nat → Prop} {u w : World} (h : Below u.heap.size u w) : Kp L u w := ⟨h.os, h.tape, h.output, h.size, fun k hk _ => h.block k hk⟩
theorem Kp.alloc {L : Nat → Prop} {u w : World} (h : Kp L u w) (o : Obj) : Kp L u (w.alloc o) := h.trans (M := No) (Kp.below ((Below.refl _ _).alloc (Nat.le_refl _) _)) (fun _ hx => hx.elim)
theorem Kp.setCell {L : Nat → Prop} {u w : World} (h : Kp L u w) {p : Addr} (hp : L p.block ∨ u.heap.size ≤ p.block) (x : Value) : Kp L u (w.setCell p x) :=
  ⟨h.os, h.tape, h.output, by simpa using h.size, fun k h1 h2 => (Below.heap_setCell _ _ _ _ (by
    intro e
    rcases hp with hp | hp
    · exact h2 (e ▸ hp)
    · omega)).trans (h.block k h1 h2)⟩
theorem Kp.drew {L : Nat → Prop} {u w : World} (h : Kp L u w) : Kp L u w.drew := ⟨h.os, h.tape, h.output, h.size, h.block⟩
theorem Kp.drewN {L : Nat → Prop} {u w : World} (h : Kp L u w) (q : Nat) : Kp L u (w.drewN q) := h.trans (M := No) (Kp.below (below_drewN (Below.refl _ _) q)) (fun _ hx => hx.elim)
theorem Kp.grown {L : Nat → Prop} {u w w' : World} {row : Option Nat} (h : Kp L u w) (hg : w.grownBy w' row) (hr : ∀ x, row = some x → L x ∨ u.heap.size ≤ x) : Kp L u w' :=
  ⟨hg.os.trans h.os, hg.tape.trans h.tape, hg.output.trans h.output, Nat.le_trans h.size hg.size, fun k h1 h2 => (hg.block k (Nat.lt_of_lt_of_le h1 h.size) (fun e => by
    rcases hr k e.symm with h | h
    · exact h2 h
    · omega)).trans (h.block k h1 h2)⟩
theorem Kp.ofGrown {w w' : World} {row : Option Nat} (hg : w.grownBy w' row) : Kp (fun x => row = some x) w w' := (Kp.refl _ _).grown hg (fun _ h => .inl h)
theorem Kp.cell {L : Nat → Prop} {w w' : World} (h : Kp L w w') {p : Addr} (h1 : p.block < w.heap.size) (h2 : ¬ L p.block) : w'.cell? p = w.cell? p := World.cell?_of_block (w := w) (h.block p.block h1 h2)
theorem Kp.frozen {L : Nat → Prop} {w w' : World} (h : Kp L w w') {p : Addr} (h1 : p.block < w.heap.size) (h2 : ¬ L p.block) : w'.frozen? p = w.frozen? p := World.frozen?_of_block (w := w) (h.block p.block h1 h2)
theorem Kp.toBelow {L : Nat → Prop} {u w : World} (k : Kp L u w) (hb : ∀ x, L x → u.heap.size ≤ x) : Below u.heap.size u w :=
  ⟨k.os, k.tape, k.output, k.size, fun i hi => k.block i hi (fun hm => by have := hb i hm; omega)⟩
theorem Kp.toBelow' {u w : World} (k : Kp No u w) : Below u.heap.size u w := k.toBelow (fun _ h => h.elim)
/-- .. of a world ahead. -/
theorem Kp.under {L : Nat → Prop} {B : Nat} {u v w : World} (h : Below B u v) (k : Kp L v w) (hb : ∀ x, L x → B ≤ x) (hB : B ≤ v.heap.size) : Below B u w :=
  h.trans ⟨k.os, k.tape, k.output, k.size, fun i hi => k.block i (by omega) (fun hm => by have := hb i hm; omega)⟩

/-! ### A block of cells, whole -/
def Blk (w : World) (b : Nat) (t : TypeId) (cs : List Value) : Prop := w.heap[b]? = some (.cells cs.toArray t (0, 0))
theorem Blk.lt {w : World} {b : Nat} {t : TypeId} {cs : List Value} (h : Blk w b t cs) : b < w.heap.size := (Array.getElem?_eq_some_iff.1 h).1
theorem Blk.kp {L : Nat → Prop} {w w' : World} {b : Nat} {t : TypeId} {cs : List Value} (h : Blk w b t cs) (k : Kp L w w') (hb : ¬ L b) : Blk w' b t cs := (k.block b h.lt hb).trans h
theorem Blk.ne {w : World} {b b' : Nat} {t t' : TypeId} {cs cs' : List Value} (h : Blk w b t cs) (h' : Blk w b' t' cs') (ht : t ≠ t') : b ≠ b' := by
  intro e
  subst e
  unfold Blk at h h'
  rw [h] at h'
  simp at h'
  exact ht h'.2
theorem Blk.cell {w : World} {b : Nat} {t : TypeId} {cs : List Value} (h : Blk w b t cs) (j : Nat) : w.cell? ⟨b, j, none⟩ = cs[j]? := by
  unfold Blk at h
  simp [World.cell?, h]
theorem Blk.frozen {w : World} {b : Nat} {t : TypeId} {cs : List Value} (h : Blk w b t cs) (j : Nat) : w.frozen? ⟨b, j, none⟩ = false := by
  unfold Blk at h
  simp [World.frozen?, h]
theorem Blk.new (w : World) (t : TypeId) (cs : List Value) : Blk (w.alloc (.cells cs.toArray t)) w.heap.size t cs := (MapKept.heap_alloc w _).1
theorem Blk.setCell {w : World} {b : Nat} {t : TypeId} {cs : List Value} (h : Blk w b t cs) (j : Nat) (x : Value) : Blk (w.setCell ⟨b, j, none⟩ x) b t (cs.set j x) := by
  unfold Blk at h ⊢
  simp [World.setCell, Array.getElem?_modify, h]

/-! ### Bytes that are read -/
/-- Bytes as cells. -/
def cl (xs : List Nat) : List Value := xs.map fun x : Nat => .int .u8 (x : Int)
theorem cl_length (xs : List Nat) : (cl xs).length = xs.length := by simp [cl]
theorem cl_append (xs ys : List Nat) : cl (xs ++ ys) = cl xs ++ cl ys := by simp [cl]
theorem cl_at (xs : List Nat) (i : Nat) (h : i < xs.length) : (cl xs)[i]? = some (.int .u8 (xs.getD i 0 : Nat)) := by simp [cl, List.getElem?_eq_getElem h]
theorem cl_one (xs : List Nat) : ∀ u ∈ cl xs, u.oneCell' = true := by intro u hu; obtain ⟨x, _, rfl⟩ := List.mem_map.1 hu; rfl

/-- v is a slice of the bytes bs, in a block of which P. -/
def ByP (P : Nat → Prop) (w : World) (v : Value) (bs : List Nat) : Prop :=
  ∃ a cap, v = .slice a bs.length cap ∧ bs.length ≤ cap ∧ cap ≤ maxLen ∧ (a = none → bs = [] ∧ cap = 0) ∧ bs.length ≤ 140737488355328 ∧ (∀ x ∈ bs, x < 256) ∧
    (bs ≠ [] → ∃ g o, a = some ⟨g, o, none⟩ ∧ P g ∧ g < w.heap.size ∧ ∀ i, i < bs.length → w.cell? ⟨g, o + i, none⟩ = some (.int .u8 (bs.getD i 0 : Nat)))

theorem ByP.nil (P : Nat → Prop) (w : World) : ByP P w (.slice none 0 0) [] := ⟨_, 0, rfl, Nat.le_refl _, Nat.zero_le _, fun _ => ⟨rfl, rfl⟩, by simp, by simp, fun h => absurd rfl h⟩
theorem ByP.mono {P Q : Nat → Prop} {w : World} {v : Value} {bs : List Nat} (h : ByP P w v bs) (hm : ∀ x, x < w.heap.size → P x → Q x) : ByP Q w v bs := by
  obtain ⟨a, cap, h1, h2, h3, h4, h5, h6, h7⟩ := h
  refine ⟨a, cap, h1, h2, h3, h4, h5, h6, fun hne => ?_⟩
  obtain ⟨g, o, e, hgb, hg, hc⟩ := h7 hne
  exact ⟨g, o, e, hm g hg hgb, hg, hc⟩
theorem ByP.kp {P L : Nat → Prop} {w w' : World} {v : Value} {bs : List Nat} (h : ByP P w v bs) (k : Kp L w w') (hm : ∀ x, L x → x < w.heap.size → ¬ P x) : ByP P w' v bs := by
  obtain ⟨a, cap, h1, h2, h3, h4, h5, h6, h7⟩ := h
  refine ⟨a, cap, h1, h2, h3, h4, h5, h6, fun hne => ?_⟩
  obtain ⟨g, o, e, hgb, hg, hc⟩ := h7 hne
  exact ⟨g, o, e, hgb, Nat.lt_of_lt_of_le hg k.size, fun i hi => (k.cell (p := ⟨g, o + i, none⟩) hg (fun hx => hm g hx hg hgb)).trans (hc i hi)⟩
theorem ByP.kept {P : Nat → Prop} {w w' : World} {v : Value} {bs : List Nat} (h : ByP P w v bs) (k : Kp No w w') : ByP P w' v bs := h.kp k (fun _ hx => hx.elim)
theorem ByP.front {P : Nat → Prop} {w : World} {a : Option Addr} {n0 cap : Nat} {bs : List Nat} (h : ByP P w (.slice a n0 cap) bs) (n : Nat) (hn : n ≤ bs.length) : ByP P w (.slice a n cap) (bs.take n) := by
  obtain ⟨a', cap', e, h2, h3, h4, h5, h6, h7⟩ := h
  cases e
  have hl : (bs.take n).length = n := List.length_take_of_le hn
  refine ⟨a, cap, by rw [hl], by omega, h3, fun e => ?_, by omega, fun x hx => h6 x (List.mem_of_mem_take hx), fun hne => ?_⟩
  · obtain ⟨rfl, rfl⟩ := h4 e
    exact ⟨by simp, rfl⟩
  · have hb : bs ≠ [] := fun e => hne (by rw [e]; simp)
    obtain ⟨g, o, e, hg, hg', hc⟩ := h7 hb
    refine ⟨g, o, e, hg, hg', fun i hi => ?_⟩
    rw [hc i (by omega)]
    have : (bs.take n).getD i 0 = bs.getD i 0 := by simp [show i < n by omega]
    rw [this]

/-! ### Rows of the call's own -/
/-- v is a row of the call's own, of n elements of the type e, each of sz cells. -/
def Row (w : World) (e : TypeId) (sz : Nat) (v : Value) (n : Nat) (xs : List Value) : Prop := w.ownsRow 0 e sz v n xs

theorem Row.nil (w : World) (e : TypeId) (sz : Nat) : Row w e sz (.slice none 0 0) 0 [] := World.ownsRow_nil _ _ _ _
theorem Row.kp {L : Nat → Prop} {w w' : World} {e : TypeId} {sz n : Nat} {v : Value} {xs : List Value} (h : Row w e sz v n xs) (k : Kp L w w') (hv : ∀ x, v.ownBlock = some x → ¬ L x) : Row w' e sz v n xs := by
  refine ⟨h.1, ?_⟩
  rcases h.2 with hn | ⟨g, cap, cur, rfl, hb, hgg, rest⟩
  · exact .inl hn
  · exact .inr ⟨g, cap, cur, rfl, hb, by rw [k.block g (Array.getElem?_eq_some_iff.1 hgg).1 (hv g rfl)]; exact hgg, rest⟩
theorem Row.kept {w w' : World} {e : TypeId} {sz n : Nat} {v : Value} {xs : List Value} (h : Row w e sz v n xs) (k : Kp No w w') : Row w' e sz v n xs := h.kp k (fun _ _ hx => hx.elim)
theorem Row.lt {w : World} {e : TypeId} {sz n : Nat} {v : Value} {xs : List Value} (h : Row w e sz v n xs) : ∀ x, v.ownBlock = some x → x < w.heap.size := fun x hx => (World.ownsRow.lt h x hx).2
/-- Blocks of other types are other blocks. -/
theorem Row.ne {w : World} {e : TypeId} {sz n : Nat} {v : Value} {xs : List Value} (h : Row w e sz v n xs) {b : Nat} {cs : List Value} {t : TypeId} (hb : Blk w b t cs) (ht : t ≠ e) : v.ownBlock ≠ some b := by
  rcases h.2 with ⟨rfl, _⟩ | ⟨g, cap, cur, rfl, _, hgg, _⟩
  · simp [Value.ownBlock]
  · intro hx
    simp [Value.ownBlock] at hx
    subst hx
    unfold Blk at hb
    rw [hgg] at hb
    simp at hb
    exact ht hb.2.symm
theorem Row.ne' {w : World} {e e' : TypeId} {sz n sz' n' : Nat} {v v' : Value} {xs xs' : List Value} (h : Row w e sz v n xs) (h' : Row w e' sz' v' n' xs') (ht : e ≠ e') : ∀ x, v.ownBlock = some x → v'.ownBlock ≠ some x := by
  intro x hx hx'
  rcases h.2 with ⟨rfl, _⟩ | ⟨g, cap, cur, rfl, _, hgg, _⟩
  · simp [Value.ownBlock] at hx
  · rcases h'.2 with ⟨rfl, _⟩ | ⟨g', cap', cur', rfl, _, hgg', _⟩
    · simp [Value.ownBlock] at hx'
    · simp [Value.ownBlock] at hx hx'
      subst hx hx'
      rw [hgg] at hgg'
      simp at hgg'
      exact ht hgg'.2
theorem Row.shape {w : World} {e : TypeId} {sz n : Nat} {v : Value} {xs : List Value} (h : Row w e sz v n xs) : ∃ a cap, v = .slice a n cap ∧ n ≤ cap ∧ cap ≤ maxLen ∧ (a = none → n = 0 ∧ cap = 0) ∧ ∀ x, a = some x → x.spot = none ∧ x.off = 0 := by
  rcases h.2 with ⟨rfl, h0⟩ | ⟨g, cap, cur, rfl, hg, hh, hn, hc, hs, ht⟩
  · subst h0
    exact ⟨none, 0, rfl, Nat.le_refl _, Nat.zero_le _, fun _ => ⟨rfl, rfl⟩, by simp⟩
  · exact ⟨_, cap, rfl, hn, hc, by simp, fun x hx => by cases hx; exact ⟨rfl, rfl⟩⟩
theorem Row.cellAt {w : World} {e : TypeId} {sz n g cap : Nat} {xs : List Value} (h : Row w e sz (.slice (some ⟨g, 0, none⟩) n cap) n xs) (i : Nat) (hi : i < n * sz) : w.cell? ⟨g, i, none⟩ = xs[i]? := by
  obtain ⟨hl, h2⟩ := h
  have hx : xs[i]? = some xs[i] := List.getElem?_eq_getElem (by omega)
  have h3 := World.ownsRow.cells (w := w) (base := 0) (e := e) (size := sz) (v := .slice (some ⟨g, 0, none⟩) n cap) (n := n) (xs := xs) ⟨hl, h2⟩ (g := g) rfl i xs[i] hx
  rw [addr_add, Nat.zero_add] at h3
  rw [h3, hx]

/-- The values of a slice that is read. -/
def Src (w : World) (v : Value) (m sz : Nat) (ys : List Value) : Prop :=
  (v = .slice none 0 0 ∧ m = 0 ∧ ys = []) ∨ ∃ ad c, v = .slice (some ad) m c ∧ ys.length = m * sz ∧ (∀ j u, ys[j]? = some u → w.cell? (ad.add j) = some u) ∧ ∀ u ∈ ys, u.oneCell' = true

/-- append(v, x...), v of the call's own. -/
theorem app_row {ops : Array Oper} {rest : List Oper} {o : Oper} {a : Act} {Q : Exit → Act → World → Prop} (w : World) (hgd : o.guard = none) (s x : Operand) (t e : TypeId) (z : Value) (sz by' : Nat)
    (ho : o.op = .call { callee := .builtin .append, args := #[s, x], argTypes := #[t, t] }) (ht : Try.prog.underlying t = some (.slice e)) (hin : (Try.prog.info? e).map (fun i => (i.zero, i.size, i.bytes)) = some (some z, sz, by'))
    (hz1 : z.cells.size = sz) (hsz : 0 < sz) (v vx : Value) (n m : Nat) (xs ys : List Value) (hs : a.eval s = v) (hx : a.eval x = vx)
    (hown : Row w e sz v n xs) (hy : Src w vx m sz ys) (hlen : n + m ≤ 20000000) (hby : by' ≤ 1000)
    (h : ∀ ad cap w', Row w' e sz (.slice ad (n + m) cap) (n + m) (xs ++ ys) → w.grownBy w' v.ownBlock → ((Value.slice ad (n + m) cap).ownBlock = v.ownBlock ∨ (Value.slice ad (n + m) cap).ownBlock = some w.heap.size) → wpList Try.prog ops Q rest (a.put o.dst (.slice ad (n + m) cap)) w') : wpList Try.prog ops Q (o :: rest) a w := by
  obtain ⟨i0, hi, hz0, hz1', hz2⟩ := info_parts hin
  rcases hy with ⟨rfl, rfl, rfl⟩ | ⟨ad, c, rfl, hl, hc, h1⟩
  · refine wpList_append_own_none hgd s x t ho 0 e i0 sz ht hi v n xs hs hown hx ?_
    obtain ⟨ad, cap, rfl, _⟩ := hown.shape
    exact h ad cap w (by rw [List.append_nil]; exact hown) ⟨rfl, rfl, rfl, Nat.le_refl _, fun _ _ _ => rfl⟩ (.inl rfl)
  · refine wpList_append_own_at (P := Try.prog) w hgd s x t ho 0 e i0 z sz by' ht hi hz0 hz1' hz2 hz1 hsz v n xs hs hown ad m c ys hx hl hc h1 (by unfold maxLen; omega) ?_ (Nat.zero_le _) ?_
    · have : (n + m) * by' ≤ 20000000 * 1000 := Nat.mul_le_mul hlen hby
      omega
    · intro v' w' h8 h9 _ h10
      have h8' : Row w' e sz v' (n + m) (xs ++ ys) := h8
      obtain ⟨ad', cap', rfl, _⟩ := h8'.shape
      exact h ad' cap' w' h8 h9 h10

/-- A literal of one element. -/
theorem Src.one (w : World) (us : List Value) (sz : Nat) (t : TypeId) (hl : us.length = sz) (h1 : ∀ u ∈ us, u.oneCell' = true) : Src (w.alloc (.cells us.toArray t)) (.slice (some ⟨w.heap.size, 0, none⟩) 1 1) 1 sz us :=
  .inr ⟨_, 1, rfl, by omega, fun j x hj => by
    rw [addr_add, World.cell?_alloc_at _ _ _ _ rfl]
    simpa using hj, h1⟩

/-! ### Bytes of the call's own -/
/-- v is a row of the call's own, of the bytes xs. -/
def OwnB (w : World) (v : Value) (xs : List Nat) : Prop := Row w 5 1 v xs.length (cl xs)
theorem OwnB.row {w : World} {v : Value} {xs : List Nat} (h : OwnB w v xs) : Row w 5 1 v xs.length (cl xs) := h
theorem OwnB.nil (w : World) : OwnB w (.slice none 0 0) [] := Row.nil _ _ _
theorem OwnB.shape {w : World} {v : Value} {xs : List Nat} (h : OwnB w v xs) : ∃ a cap, v = .slice a xs.length cap ∧ xs.length ≤ cap ∧ cap ≤ maxLen ∧ (a = none → xs = [] ∧ cap = 0) := by
  obtain ⟨a, cap, h1, h2, h3, h4, _⟩ := h.row.shape
  exact ⟨a, cap, h1, h2, h3, fun e => ⟨List.length_eq_zero_iff.1 (h4 e).1, (h4 e).2⟩⟩
theorem OwnB.byP {P : Nat → Prop} {w : World} {v : Value} {xs : List Nat} (h : OwnB w v xs) (hP : ∀ x, v.ownBlock = some x → P x) (hl : xs.length ≤ 20000000) (hx : ∀ x ∈ xs, x < 256) : ByP P w v xs := by
  rcases h.row.2 with ⟨rfl, h0⟩ | ⟨g, cap, cur, rfl, hg, hh, hn, hc, hs, ht⟩
  · have : xs = [] := List.length_eq_zero_iff.1 h0
    subst this
    exact ByP.nil _ _
  · refine ⟨_, cap, rfl, hn, hc, by simp, by omega, hx, fun _ => ⟨g, 0, rfl, hP g rfl, (Array.getElem?_eq_some_iff.1 hh).1, fun i hi => ?_⟩⟩
    rw [Nat.zero_add, h.row.cellAt i (by omega)]
    exact cl_at xs i hi
theorem ByP.src {P : Nat → Prop} {w : World} {v : Value} {ys : List Nat} (h : ByP P w v ys) : Src w v ys.length 1 (cl ys) := by
  obtain ⟨a, cap, rfl, h2, h3, h4, h5, h6, h7⟩ := h
  cases a with
  | none =>
    obtain ⟨rfl, rfl⟩ := h4 rfl
    exact .inl ⟨rfl, rfl, rfl⟩
  | some ad =>
    refine .inr ⟨ad, cap, rfl, by rw [cl_length, Nat.mul_one], fun j u hj => ?_, cl_one ys⟩
    have hjn : j < ys.length := by
      have := (List.getElem?_eq_some_iff.1 hj).1
      rwa [cl_length] at this
    obtain ⟨g, o, e, _, hb, hc⟩ := h7 (by intro e; subst e; simp at hjn)
    simp only [Option.some.injEq] at e
    subst e
    rw [addr_add, hc j hjn, ← cl_at ys j hjn]
    exact hj
theorem Try.info5 : (Try.prog.info? 5).map (fun i => (i.zero, i.size, i.bytes)) = some (some (.int .u8 0), 1, 1) := by kernel_rfl
/-- append of bytes. -/
theorem app_bytes {ops : Array Oper} {rest : List Oper} {o : Oper} {a : Act} {Q : Exit → Act → World → Prop} (w : World) (hgd : o.guard = none) (s x : Operand)
    (ho : o.op = .call { callee := .builtin .append, args := #[s, x], argTypes := #[26, 26] }) (v vx : Value) (xs ys : List Nat) (P : Nat → Prop) (hs : a.eval s = v) (hx : a.eval x = vx)
    (hown : OwnB w v xs) (hy : ByP P w vx ys) (hlen : xs.length + ys.length ≤ 20000000)
    (h : ∀ ad cap w', OwnB w' (.slice ad (xs.length + ys.length) cap) (xs ++ ys) → w.grownBy w' v.ownBlock → ((Value.slice ad (xs.length + ys.length) cap).ownBlock = v.ownBlock ∨ (Value.slice ad (xs.length + ys.length) cap).ownBlock = some w.heap.size) → wpList Try.prog ops Q rest (a.put o.dst (.slice ad (xs.length + ys.length) cap)) w') : wpList Try.prog ops Q (o :: rest) a w := by
  refine app_row w hgd s x 26 5 (.int .u8 0) 1 1 ho Try.underlying26 Try.info5 rfl (by decide) v vx xs.length ys.length (cl xs) (cl ys) hs hx hown.row hy.src hlen (by decide) ?_
  intro ad cap w' h1 h2 h3
  exact h ad cap w' (by unfold OwnB; rw [cl_append, List.length_append]; exact h1) h2 h3

theorem Try.nilEq (w : World) (a : Option Addr) (n c n' c' : Nat) : (binOp .eql 26 (.slice a n c) (.slice none n' c')).run Try.prog w = .ok (.bool a.isNone) w :=
  Lib.run_eql_slice_nil w _ _ a n c n' c' Try.underlying26
theorem own_empty (w : World) : OwnB (w.alloc (.cells #[] 5)) (.slice (some ⟨w.heap.size, 0, none⟩) 0 0) [] := World.ownsRow_made w #[] 0 (Nat.zero_le _) (Nat.zero_le _) rfl

set_option maxHeartbeats 1000000 in
/-- bytes.Clone. -/
theorem clone_any {P : Nat → Prop} (v : Value) (bs : List Nat) (w : World) (h : ByP P w v bs) (hl : bs.length ≤ 20000000) :
    Calls Try.prog 47 #[v] w fun e w' => ∃ ad cap, e = .returned (.slice ad bs.length cap) ∧ OwnB w' (.slice ad bs.length cap) bs ∧ (∀ x, (Value.slice ad bs.length cap).ownBlock = some x → w.heap.size ≤ x) ∧ Kp No w w' := by
  have q22 := Try.nilEq
  have H := hid h
  obtain ⟨a, cap, rfl, h2, h3, h4, h5, h6, h7⟩ := h
  clear h6 h7
  cases a with
  | none =>
    obtain ⟨rfl, rfl⟩ := h4 rfl
    go_enter Try.func47, Try.ntmps47
    go_wp2
    go_ret
    exact ⟨_, _, rfl, OwnB.nil _, by simp [Value.ownBlock], Kp.refl _ _⟩
  | some ad =>
    clear h4
    go_enter Try.func47, Try.ntmps47
    go_wp2_with (at_builtin; refine app_bytes _ rfl _ _ rfl (.slice (some ⟨w.heap.size, 0, none⟩) 0 0) _ [] bs P rfl rfl (own_empty w) (H.out.kept ((Kp.refl _ _).alloc _)) (by simpa using hl) ?_; intro ad' cap' w' hown hg hb)
    go_wp2
    go_ret
    rw [List.length_nil, Nat.zero_add] at hown hb
    refine ⟨ad', cap', rfl, by simpa using hown, fun x hx => ?_, ((Kp.refl _ w).alloc _).grown hg (fun x hx => .inr (by simp [Value.ownBlock] at hx; omega))⟩
    rcases hb with hb | hb
    · rw [hb] at hx
      simp [Value.ownBlock] at hx
      omega
    · rw [hb] at hx
      simp at hx
      omega

end Go.Proofs.Ytenfahecnkdhaaa.Sim
end

section
/-
  Plain mathematics of a stable sort: rows of things with keys; inserting, rotating and merging in place keep, of each key, the order.
-/
namespace Go.Proofs.Ytenfahecnkdhaaa.Stb

/-- Keys: bytes. -/
abbrev κ : Type := List Int
section
variable {α : Type} (key : α → κ) (lt : κ → κ → Bool)

/-- A strict order of all keys. -/
structure Ord : Prop where
  irr : ∀ x, lt x x = false
  trans : ∀ x y z, lt x y = true → lt y z = true → lt x z = true
  tot : ∀ x y, x ≠ y → lt x y = true ∨ lt y x = true

/-- Of each key the same, in the same order. -/
def Stab (l m : List α) : Prop := ∀ k, m.filter (fun x => decide (key x = k)) = l.filter (fun x => decide (key x = k))
/-- None stands behind a greater one. -/
def Srt (l : List α) : Prop := l.Pairwise (fun x y => lt (key y) (key x) = false)
/-- All of the first stand ahead of all of the second. -/
def Lts (l m : List α) : Prop := ∀ x ∈ l, ∀ y ∈ m, lt (key x) (key y) = true
/-- None of the second stands ahead of one of the first. -/
def Les (l m : List α) : Prop := ∀ x ∈ l, ∀ y ∈ m, lt (key y) (key x) = false
end

section
variable {α : Type} {key : α → κ} {lt : κ → κ → Bool}

theorem Ord.asym (h : Ord lt) {x y : κ} (hx : lt x y = true) : lt y x = false := by
  cases hy : lt y x with
  | false => rfl
  | true => have := h.trans _ _ _ hx hy; rw [h.irr] at this; cases this
/-- x ≤ y < z. -/
theorem Ord.le_lt (h : Ord lt) {x y z : κ} (h1 : lt y x = false) (h2 : lt y z = true) : lt x z = true := by
  by_cases e : x = y
  · rw [e]; exact h2
  · rcases h.tot x y e with h3 | h3
    · exact h.trans _ _ _ h3 h2
    · rw [h1] at h3; cases h3
theorem Ord.lt_le (h : Ord lt) {x y z : κ} (h1 : lt x y = true) (h2 : lt z y = false) : lt x z = true := by
  by_cases e : y = z
  · rw [← e]; exact h1
  · rcases h.tot y z e with h3 | h3
    · exact h.trans _ _ _ h1 h3
    · rw [h2] at h3; cases h3
theorem Ord.le_le (h : Ord lt) {x y z : κ} (h1 : lt y x = false) (h2 : lt z y = false) : lt z x = false := by
  cases hz : lt z x with
  | false => rfl
  | true => have := h.lt_le hz h1; rw [h2] at this; cases this

theorem Stab.refl (l : List α) : Stab key l l := fun _ => rfl
theorem Stab.trans {a b c : List α} (h : Stab key a b) (h2 : Stab key b c) : Stab key a c := fun k => (h2 k).trans (h k)
theorem Stab.append {a b c d : List α} (h : Stab key a b) (h2 : Stab key c d) : Stab key (a ++ c) (b ++ d) := fun k => by rw [List.filter_append, List.filter_append, h k, h2 k]
theorem Stab.mem {a b : List α} (h : Stab key a b) (x : α) : x ∈ b ↔ x ∈ a := by
  have h1 := h (key x)
  have e : ∀ l : List α, x ∈ l ↔ x ∈ l.filter (fun y => decide (key y = key x)) := fun l => by rw [List.mem_filter]; simp
  rw [e b, e a, h1]
theorem Stab.length {a b : List α} (h : Stab key a b) : b.length = a.length := by
  induction a generalizing b with
  | nil =>
    cases b with
    | nil => rfl
    | cons x b =>
      have := (h.mem x).1 List.mem_cons_self
      simp at this
  | cons x a ih =>
    have hx : x ∈ b := (h.mem x).2 List.mem_cons_self
    obtain ⟨s, t, e, hns⟩ : ∃ s t, b = s ++ x :: t ∧ ∀ y ∈ s, key y ≠ key x := by
      have hk := h (key x)
      rw [List.filter_cons, if_pos (by simp)] at hk
      have : ∀ (b : List α) (r : List α), b.filter (fun y => decide (key y = key x)) = x :: r → ∃ s t, b = s ++ x :: t ∧ ∀ y ∈ s, key y ≠ key x := by
        intro b
        induction b with
        | nil => intro r hr; simp at hr
        | cons y b ihb =>
          intro r hr
          rw [List.filter_cons] at hr
          by_cases hy : key y = key x
          · rw [if_pos (by simp [hy])] at hr
            simp only [List.cons.injEq] at hr
            exact ⟨[], b, by rw [hr.1]; rfl, fun _ h => by cases h⟩
          · rw [if_neg (by simp [hy])] at hr
            obtain ⟨s, t, e1, e2⟩ := ihb r hr
            refine ⟨y :: s, t, by rw [e1]; rfl, fun z hz => ?_⟩
            rcases List.mem_cons.1 hz with rfl | hz
            · exact hy
            · exact e2 z hz
      exact this b _ hk
    subst e
    have h2 : Stab key a (s ++ t) := fun k => by
      have hk := h k
      rw [List.filter_append, List.filter_cons, List.filter_cons] at hk
      rw [List.filter_append]
      by_cases hxk : key x = k
      · have hs : s.filter (fun y => decide (key y = k)) = [] := List.filter_eq_nil_iff.2 (fun y hy => by simp; rw [← hxk]; exact hns y hy)
        rw [if_pos (by simp [hxk]), if_pos (by simp [hxk]), hs, List.nil_append] at hk
        rw [hs, List.nil_append]
        exact (List.cons.inj hk).2
      · rw [if_neg (by simp [hxk]), if_neg (by simp [hxk])] at hk
        exact hk
    have := ih h2
    simp only [List.length_append, List.length_cons] at this ⊢
    omega
/-- Two that stand side by side, each thing of the second ahead of each of the first, are turned about. -/
theorem Stab.swap {a b : List α} (h : Ord lt) (hl : Lts key lt b a) : Stab key (a ++ b) (b ++ a) := fun k => by
  rw [List.filter_append, List.filter_append]
  by_cases ha : a.filter (fun y => decide (key y = k)) = []
  · rw [ha]; simp
  · have hb : b.filter (fun y => decide (key y = k)) = [] := by
      rw [List.filter_eq_nil_iff]
      intro y hy
      obtain ⟨x, hx1⟩ := List.exists_mem_of_ne_nil _ ha
      obtain ⟨hx, hxk⟩ := List.mem_filter.1 hx1
      simp only [decide_eq_true_eq] at hxk
      intro hyk
      have h1 := hl y hy x hx
      simp only [decide_eq_true_eq] at hyk
      rw [hyk, hxk, h.irr] at h1
      cases h1
    rw [hb]; simp

theorem Srt.append {a b : List α} : Srt key lt (a ++ b) ↔ Srt key lt a ∧ Srt key lt b ∧ Les key lt a b := by
  unfold Srt Les
  rw [List.pairwise_append]
theorem Les.of_stab {a a' b b' : List α} (h : Les key lt a b) (ha : Stab key a a') (hb : Stab key b b') : Les key lt a' b' := fun x hx y hy => h x ((ha.mem x).1 hx) y ((hb.mem y).1 hy)
theorem Lts.les (h : Ord lt) {a b : List α} (hl : Lts key lt a b) : Les key lt a b := fun x hx y hy => h.asym (hl x hx y hy)

/-- Sorted and stable: there is one such row alone. -/
theorem srt_unique (h : Ord lt) : ∀ {a b c : List α}, Stab key a b → Stab key a c → Srt key lt b → Srt key lt c → b = c := by
  intro a b
  induction b generalizing a with
  | nil =>
    intro c h1 h2 _ _
    have e1 := h1.length
    have e2 := h2.length
    cases c with
    | nil => rfl
    | cons x c => simp at e1 e2; omega
  | cons x b ih =>
    intro c h1 h2 s1 s2
    cases c with
    | nil =>
      have e1 := h1.length
      have e2 := h2.length
      simp at e1 e2; omega
    | cons y c =>
      have bc : Stab key (x :: b) (y :: c) := fun k => (h2 k).trans (h1 k).symm
      have hxc : x ∈ y :: c := (bc.mem x).2 List.mem_cons_self
      have hyb : y ∈ x :: b := (bc.mem y).1 List.mem_cons_self
      have k1 : lt (key x) (key y) = false := by
        rcases List.mem_cons.1 hxc with e | e
        · rw [e]; exact h.irr _
        · exact (List.pairwise_cons.1 s2).1 x e
      have k2 : lt (key y) (key x) = false := by
        rcases List.mem_cons.1 hyb with e | e
        · rw [e]; exact h.irr _
        · exact (List.pairwise_cons.1 s1).1 y e
      have hk : key x = key y := by
        refine Classical.byContradiction fun hn => ?_
        rcases h.tot _ _ hn with e | e
        · rw [k1] at e; cases e
        · rw [k2] at e; cases e
      have hf := bc (key x)
      rw [List.filter_cons, List.filter_cons, if_pos (by simp [hk]), if_pos (by simp)] at hf
      obtain ⟨e, _⟩ := List.cons.inj hf
      subst e
      have hb : Stab key b c := fun k => by
        have hf := bc k
        rw [List.filter_cons, List.filter_cons] at hf
        split at hf
        · exact (List.cons.inj hf).2
        · exact hf
      rw [ih (Stab.refl b) hb (List.pairwise_cons.1 s1).2 (List.pairwise_cons.1 s2).2]

/-! ### A merge in place -/
/-- What a merge of two sorted rows makes. -/
def Mrg (key : α → κ) (lt : κ → κ → Bool) (a b m : List α) : Prop := Stab key (a ++ b) m ∧ Srt key lt m
/-- Cut both so that the first parts stand ahead of the second ones, turn the middle about, and merge each half. -/
theorem Mrg.halves (h : Ord lt) {a1 a2 b1 b2 m1 m2 : List α} (hl : Lts key lt b1 a2) (hg : Les key lt a1 b2) (sa : Srt key lt (a1 ++ a2)) (sb : Srt key lt (b1 ++ b2)) (h1 : Mrg key lt a1 b1 m1) (h2 : Mrg key lt a2 b2 m2) : Mrg key lt (a1 ++ a2) (b1 ++ b2) (m1 ++ m2) := by
  obtain ⟨t1, s1⟩ := h1
  obtain ⟨t2, s2⟩ := h2
  refine ⟨?_, Srt.append.2 ⟨s1, s2, ?_⟩⟩
  · have e1 : Stab key ((a1 ++ a2) ++ (b1 ++ b2)) ((a1 ++ b1) ++ (a2 ++ b2)) := by
      have := ((Stab.refl (key := key) a1).append (Stab.swap h hl)).append (Stab.refl (key := key) b2)
      simpa [List.append_assoc] using this
    exact e1.trans (t1.append t2)
  · have k1 := (Srt.append.1 sa).2.2
    have k2 := (Srt.append.1 sb).2.2
    refine Les.of_stab (a := a1 ++ b1) (b := a2 ++ b2) ?_ t1 t2
    intro x hx y hy
    rcases List.mem_append.1 hx with hx | hx <;> rcases List.mem_append.1 hy with hy | hy
    · exact k1 x hx y hy
    · exact hg x hx y hy
    · exact h.asym (hl x hx y hy)
    · exact k2 x hx y hy
/-- One, put into the others: behind all that stand ahead of it. -/
theorem Mrg.one_first (h : Ord lt) {x : α} {b1 b2 : List α} (hl : ∀ y ∈ b1, lt (key y) (key x) = true) (hg : ∀ y ∈ b2, lt (key y) (key x) = false) (sb : Srt key lt (b1 ++ b2)) : Mrg key lt [x] (b1 ++ b2) (b1 ++ x :: b2) := by
  obtain ⟨s1, s2, s3⟩ := Srt.append.1 sb
  refine ⟨?_, Srt.append.2 ⟨s1, List.pairwise_cons.2 ⟨hg, s2⟩, ?_⟩⟩
  · have := (Stab.swap (key := key) (a := [x]) (b := b1) h (fun y hy z hz => by rw [List.mem_singleton.1 hz]; exact hl y hy)).append (Stab.refl (key := key) b2)
    simpa using this
  · intro y hy z hz
    rcases List.mem_cons.1 hz with rfl | hz
    · exact h.asym (hl y hy)
    · exact s3 y hy z hz
theorem Mrg.one_last (h : Ord lt) {x : α} {a1 a2 : List α} (hl : ∀ y ∈ a1, lt (key x) (key y) = false) (hg : ∀ y ∈ a2, lt (key x) (key y) = true) (sa : Srt key lt (a1 ++ a2)) : Mrg key lt (a1 ++ a2) [x] (a1 ++ x :: a2) := by
  obtain ⟨s1, s2, s3⟩ := Srt.append.1 sa
  refine ⟨?_, Srt.append.2 ⟨s1, List.pairwise_cons.2 ⟨fun y hy => h.asym (hg y hy), s2⟩, ?_⟩⟩
  · have := (Stab.refl (key := key) a1).append (Stab.swap (key := key) (a := a2) (b := [x]) h (fun y hy z hz => by rw [List.mem_singleton.1 hy]; exact hg z hz))
    simpa [List.append_assoc] using this
  · intro y hy z hz
    rcases List.mem_cons.1 hz with rfl | hz
    · exact hl y hy
    · exact s3 y hy z hz
end
end Go.Proofs.Ytenfahecnkdhaaa.Stb
end

section
/-
  Entries of directories in memory: 34 cells each, one behind the other in a block.
-/
namespace Go.Proofs.Ytenfahecnkdhaaa.Nd
open Go.RowKit
open Sim (hid Kp No)

/-- An entry: its name's bytes, whether it is a directory, its hash's bytes. -/
abbrev Ent : Type := List Int × Bool × List Int
def b8 (xs : List Int) : List Value := xs.map (Value.int .u8)
theorem b8_length (xs : List Int) : (b8 xs).length = xs.length := by simp [b8]
theorem b8_one (xs : List Int) : ∀ v ∈ b8 xs, v.oneCell' = true := by intro v hv; obtain ⟨x, _, rfl⟩ := List.mem_map.1 hv; rfl
/-- The text of these bytes. -/
def txt (xs : List Int) : ByteArray := ⟨(Lib.bytesOf xs).toArray⟩
def entC (e : Ent) : List Value := .string (txt e.1) :: .bool e.2.1 :: b8 e.2.2
def EOk (e : Ent) : Prop := (∀ x ∈ e.1, 0 ≤ x ∧ x ≤ 255) ∧ e.2.2.length = 32 ∧ ∀ x ∈ e.2.2, 0 ≤ x ∧ x ≤ 255
theorem entC_length {e : Ent} (h : EOk e) : (entC e).length = 34 := by simp [entC, b8_length, h.2.1]
theorem entC_one (e : Ent) : ∀ v ∈ entC e, v.oneCell' = true := by
  intro v hv
  rcases List.mem_cons.1 hv with rfl | hv
  · rfl
  · rcases List.mem_cons.1 hv with rfl | hv
    · rfl
    · exact b8_one _ _ hv
theorem info48 : (Try.prog.info? 70).map (·.size) = some 34 := by kernel_rfl
theorem inf {e : Ent} (h : EOk e) : (Try.prog.info? 70).map (·.size) = some (entC e).length := by rw [entC_length h]; exact info48
theorem infA {e : Ent} (h : EOk e) : (Try.prog.info? 70).map (·.size) = some (entC e).toArray.size := inf h

/-- Block g holds the entries d from o on, to be read. -/
def ERow (w : World) (g o : Nat) (d : List Ent) : Prop := g < w.heap.size ∧ ∀ i e, d[i]? = some e → EOk e ∧ w.rangeAt g (o + i * 34) (entC e)
/-- .. and to be written. -/
def EOwn (w : World) (g o : Nat) (d : List Ent) : Prop := ERow w g o d ∧ ∀ i, i < d.length → w.there g (o + i * 34) 34

theorem ERow.ok {w : World} {g o : Nat} {d : List Ent} (h : ERow w g o d) : ∀ e ∈ d, EOk e := fun e he => by
  obtain ⟨i, hi⟩ := List.mem_iff_getElem?.1 he
  exact (h.2 i e hi).1
theorem ERow.kp {L : Nat → Prop} {w w' : World} {g o : Nat} {d : List Ent} (h : ERow w g o d) (k : Kp L w w') (hg : ¬ L g) : ERow w' g o d :=
  ⟨Nat.lt_of_lt_of_le h.1 k.size, fun i e hi => ⟨(h.2 i e hi).1, fun j v hv => (k.cell (p := ⟨g, _, none⟩) h.1 hg).trans ((h.2 i e hi).2 j v hv)⟩⟩
theorem EOwn.kp {L : Nat → Prop} {w w' : World} {g o : Nat} {d : List Ent} (h : EOwn w g o d) (k : Kp L w w') (hg : ¬ L g) : EOwn w' g o d :=
  ⟨h.1.kp k hg, fun i hi j hj => by
    rw [k.cell (p := ⟨g, _, none⟩) h.1.1 hg, k.frozen (p := ⟨g, _, none⟩) h.1.1 hg]
    exact h.2 i hi j hj⟩
theorem EOwn.kept {w w' : World} {g o : Nat} {d : List Ent} (h : EOwn w g o d) (k : Kp No w w') : EOwn w' g o d := h.kp k (fun x => x)
theorem EOwn.there {w : World} {g o : Nat} {d : List Ent} (h : EOwn w g o d) {i : Nat} (hi : i < d.length) {e : Ent} (he : EOk e) : w.there g (o + i * 34) (entC e).toArray.size := by
  rw [List.size_toArray, entC_length he]
  exact h.2 i hi

theorem setCells_kp (w : World) (g o : Nat) (cs : List Value) : Kp (· = g) w (w.setCells g o cs) := by
  induction cs generalizing w o with
  | nil => exact Kp.refl _ _
  | cons c cs ih =>
    rw [World.setCells]
    exact (Kp.setCell (p := ⟨g, o, none⟩) (Kp.refl (· = g) w) (.inl rfl) c).trans (ih _ _) (fun x hx => .inl hx)
/-- One is written over. -/
theorem EOwn.set {w : World} {g o : Nat} {d : List Ent} (h : EOwn w g o d) {i : Nat} (hi : i < d.length) {e : Ent} (he : EOk e) : EOwn (w.setCells g (o + i * 34) (entC e)) g o (d.set i e) := by
  have hl := entC_length he
  refine ⟨⟨Nat.lt_of_lt_of_le h.1.1 (setCells_kp w g _ _).size, fun j x hx => ?_⟩, fun j hj => World.there_setCells (h.2 j (by simpa using hj)) _ _ _⟩
  by_cases hji : j = i
  · subst hji
    rw [List.getElem?_set_self hi] at hx
    simp only [Option.some.injEq] at hx
    subst hx
    exact ⟨he, World.rangeAt_setCells_same _ _ _ _ (by rw [hl]; exact h.2 j hi)⟩
  · rw [List.getElem?_set_ne (by omega)] at hx
    obtain ⟨h1, h2⟩ := h.1.2 j x hx
    refine ⟨h1, World.rangeAt_setCells_apart h2 _ _ _ (.inr ?_)⟩
    rw [entC_length h1, hl]
    omega
/-- In the midst of a call that writes block g alone: d is what stands there now. -/
def At (w : World) (g o : Nat) (d : List Ent) (wr : World) : Prop := Kp (· = g) w wr ∧ EOwn wr g o d
theorem At.start {w : World} {g o : Nat} {d : List Ent} (h : EOwn w g o d) : At w g o d w := ⟨Kp.refl _ _, h⟩
theorem At.kept {w wr w' : World} {g o : Nat} {d : List Ent} (h : At w g o d wr) (k : Kp No wr w') : At w g o d w' := ⟨h.1.andNone k, h.2.kept k⟩
theorem At.drew {w wr : World} {g o : Nat} {d : List Ent} (h : At w g o d wr) : At w g o d wr.drew := h.kept ((Kp.refl _ _).drew)
theorem At.next {w wr w' : World} {g o : Nat} {d d' : List Ent} (h : At w g o d wr) (k : At wr g o d' w') : At w g o d' w' := ⟨h.1.trans k.1 (fun _ hx => .inl hx), k.2⟩
theorem At.set {w wr : World} {g o : Nat} {d : List Ent} (h : At w g o d wr) {i : Nat} (hi : i < d.length) {e : Ent} (he : EOk e) : At w g o (d.set i e) (wr.setCells g (o + i * 34) (entC e)) :=
  ⟨h.1.trans (setCells_kp wr g _ _) (fun _ hx => .inl hx), h.2.set hi he⟩
theorem At.range {w wr : World} {g o : Nat} {d : List Ent} (h : At w g o d wr) {i : Nat} {e : Ent} (hi : d[i]? = some e) : EOk e ∧ wr.rangeAt g (o + i * 34) (entC e) := h.2.1.2 i e hi
end Go.Proofs.Ytenfahecnkdhaaa.Nd
end

section
/-
  Ranges of entries that are swapped, and turned about.
-/
namespace Go.Proofs.Ytenfahecnkdhaaa.Nd
open Go.RowKit
open Sim (hid Kp No)

def zEnt : Ent := ([], false, [])
def swap2 (d : List Ent) (i j : Nat) : List Ent := (d.set i (d.getD j zEnt)).set j (d.getD i zEnt)
def swapN (d : List Ent) (a b : Nat) : Nat → List Ent
  | 0 => d
  | n + 1 => swap2 (swapN d a b n) (a + n) (b + n)
theorem swap2_length (d : List Ent) (i j : Nat) : (swap2 d i j).length = d.length := by simp [swap2]
theorem swapN_length (d : List Ent) (a b : Nat) : ∀ n, (swapN d a b n).length = d.length
  | 0 => rfl
  | n + 1 => by rw [swapN, swap2_length, swapN_length d a b n]
theorem swapN_ok {d : List Ent} (h : ∀ e ∈ d, EOk e) (a b : Nat) : ∀ n, a + n ≤ d.length → b + n ≤ d.length → ∀ e ∈ swapN d a b n, EOk e
  | 0, _, _ => h
  | n + 1, h1, h2 => by
    have ih := swapN_ok h a b n (by omega) (by omega)
    intro e he
    rw [swapN, swap2] at he
    have key : ∀ i, i < d.length → EOk ((swapN d a b n).getD i zEnt) := fun i hi => by
      rw [List.getD_eq_getElem?_getD, List.getElem?_eq_getElem (by rw [swapN_length]; exact hi)]
      exact ih _ (List.getElem_mem _)
    rcases List.mem_or_eq_of_mem_set he with h3 | h3
    · rcases List.mem_or_eq_of_mem_set h3 with h4 | h4
      · exact ih e h4
      · rw [h4]; exact key _ (by omega)
    · rw [h3]; exact key _ (by omega)

/-- Two are swapped: what is read, what is written, what stands there then. -/
theorem swap2_at {w wr : World} {g o : Nat} {d : List Ent} {i j : Nat} {x y : Ent} (h : At w g o d wr) (hx : d[i]? = some x) (hy : d[j]? = some y) :
    EOk x ∧ EOk y ∧ (∀ V, Kp No wr V → V.rangeAt g (o + i * 34) (entC x)) ∧ (∀ V, Kp No wr V → V.rangeAt g (o + j * 34) (entC y)) ∧ wr.drew.there g (o + i * 34) (entC y).toArray.size ∧
      (wr.drew.setCells g (o + i * 34) (entC y)).there g (o + j * 34) (entC x).toArray.size ∧ At w g o (swap2 d i j) ((wr.drew.setCells g (o + i * 34) (entC y)).setCells g (o + j * 34) (entC x)) := by
  have hi : i < d.length := (List.getElem?_eq_some_iff.1 hx).1
  have hj : j < d.length := (List.getElem?_eq_some_iff.1 hy).1
  obtain ⟨ox, _⟩ := h.range hx
  obtain ⟨oy, _⟩ := h.range hy
  have hd := h.drew
  have h1 := hd.set hi oy
  have h2 := h1.set (i := j) (by simpa using hj) ox
  refine ⟨ox, oy, fun V hV => ((h.kept hV).range hx).2, fun V hV => ((h.kept hV).range hy).2, hd.2.there hi oy, h1.2.there (by simpa using hj) ox, ?_⟩
  have e : swap2 d i j = (d.set i y).set j x := by rw [swap2, List.getD_eq_getElem?_getD, hy, List.getD_eq_getElem?_getD, hx]; rfl
  rw [e]
  exact h2

set_option maxHeartbeats 2000000 in
set_option maxRecDepth 100000 in
theorem swapR_any (w : World) (g o : Nat) (d : List Ent) (cap a b n : Nat) (cv : Value) (h : EOwn w g o d) (ha : a + n ≤ d.length) (hb : b + n ≤ d.length) (hab : a + n ≤ b) (hl : d.length ≤ 1000000) :
    Calls Try.prog 99 #[.slice (some ⟨g, o, none⟩) d.length cap, .int .i64 (a : Int), .int .i64 (b : Int), .int .i64 (n : Int), cv] w fun e w' => e = .returned (.tuple #[]) ∧ At w g o (swapN d a b n) w' := by
  have H0 := hid (At.start h)
  have HOK := hid h.1.ok
  have HG := hid h.1.1
  clear h
  obtain ⟨N, hN⟩ : ∃ N, d.length = N := ⟨_, rfl⟩
  have HN := hid hN
  rw [hN] at ha hb hl ⊢
  clear hN
  go_enter Try.func99, Try.ntmps99
  go_wp2_with fail
  go_loopw [10] (fun i wr => ∃ k : Nat, i = .int .i64 (k : Int) ∧ k ≤ n ∧ Hid (At w g o (swapN d a b k) wr)) (fun i _ => n - (intOf i).toNat)
  case atStart => exact ⟨0, rfl, Nat.zero_le _, H0.out⟩
  case round =>
    obtain ⟨k, rfl, hk, HA⟩ := hrel
    by_cases hlt : k < n
    · have hltI : (k : Int) < (n : Int) := by omega
      obtain ⟨i, hi⟩ : ∃ i, a + k = i := ⟨_, rfl⟩
      obtain ⟨j, hj⟩ : ∃ j, b + k = j := ⟨_, rfl⟩
      have hwi : IntKind.i64.wrap ((a : Int) + (k : Int)) = (i : Int) := by rw [IntKind.wrap_i64]; omega
      have hwj : IntKind.i64.wrap ((b : Int) + (k : Int)) = (j : Int) := by rw [IntKind.wrap_i64]; omega
      have hiN : i < N := by omega
      have hjN : j < N := by omega
      have hij : i < j := by omega
      have hiI : (i : Int) < (N : Int) := by omega
      have hjI : (j : Int) < (N : Int) := by omega
      obtain ⟨D, hD⟩ : ∃ D, swapN d a b k = D := ⟨_, rfl⟩
      have hDl : D.length = N := by rw [← hD, swapN_length, HN.out]
      have HS : Hid (swapN d a b (k + 1) = swap2 D i j) := by rw [Hid, swapN, hD, hi, hj]
      rw [hD] at HA
      obtain ⟨ex, hx⟩ : ∃ ex, D[i]? = some ex := ⟨_, List.getElem?_eq_getElem (by omega)⟩
      obtain ⟨ey, hy⟩ : ∃ ey, D[j]? = some ey := ⟨_, List.getElem?_eq_getElem (by omega)⟩
      have HRW := hid (swap2_at HA.out hx hy)
      obtain ⟨hox, hoy, hrx, hry, ht1, ht2, hfin⟩ := HRW.out
      rw [← HS.out] at hfin
      have HFIN := hid hfin
      have HT1 := hid ht1
      have HT2 := hid ht2
      have HIx := hid (inf hox)
      have HIy := hid (inf hoy)
      have HAx := hid (infA hox)
      have HAy := hid (infA hoy)
      have HOx := hid (all_oneCell_toArray (entC_one ex))
      have HOy := hid (all_oneCell_toArray (entC_one ey))
      have Hx := hid hrx
      have Hy := hid hry
      generalize entC ex = x at *
      generalize entC ey = y at *
      clear hi hj hiN hjN hij hD hDl hx hy hox hoy hrx hry ht1 ht2 hfin HRW HS HA
      go_wp2_with fail
      refine wp_region_held_drew (S := fun _ => True) (by kernel_rfl) trivial (fun hHeld => ?_)
      refine wpAnyH_take (i := 0) (oi := { dst := some 16, op := Op.move (Operand.tmp 0), type := 40, pos := "zsortanyfunc.go:331", after := #[], guard := none }) (v := .slice (some ⟨g, o, none⟩) N cap) rfl (by kernel_rfl) (by kernel_rfl) (by kernel_rfl) (fun _ _ _ h => h) (Or.inl ⟨by rfl, fun w' hw' => by (clear hw'; go_simp)⟩) hHeld ?_
      simp only [Act.put, List.setIfInBounds_toArray, List.set_cons_zero, List.set_cons_succ]
      refine wpAnyH_take (i := 1) (oi := { dst := some 17, op := Op.move (Operand.tmp 1), type := 3, pos := "zsortanyfunc.go:331", after := #[], guard := none }) (v := .int .i64 (a : Int)) rfl (by kernel_rfl) (by kernel_rfl) (by kernel_rfl) (fun _ _ _ h => h) (Or.inl ⟨by rfl, fun w' hw' => by (clear hw'; go_simp)⟩) hHeld ?_
      simp only [Act.put, List.setIfInBounds_toArray, List.set_cons_zero, List.set_cons_succ]
      refine wpAnyH_take (i := 2) (oi := { dst := some 18, op := Op.move (Operand.tmp 10), type := 3, pos := "zsortanyfunc.go:331", after := #[], guard := none }) (v := .int .i64 (k : Int)) rfl (by kernel_rfl) (by kernel_rfl) (by kernel_rfl) (fun _ _ _ h => h) (Or.inl ⟨by rfl, fun w' hw' => by (clear hw'; go_simp)⟩) hHeld ?_
      simp only [Act.put, List.setIfInBounds_toArray, List.set_cons_zero, List.set_cons_succ]
      refine wpAnyH_take (i := 3) (oi := { dst := some 19, op := Op.binOp BinOp.add 3 (Operand.tmp 17) (Operand.tmp 18) 3, type := 3, pos := "zsortanyfunc.go:331", after := #[{ on := 1, ground := Ground.data }, { on := 2, ground := Ground.data }], guard := none }) (v := .int .i64 (i : Int)) rfl (by kernel_rfl) (by kernel_rfl) (by kernel_rfl) (fun _ _ _ h => h) (Or.inl ⟨by rfl, fun w' hw' => by (clear hw'; go_simp)⟩) hHeld ?_
      simp only [Act.put, List.setIfInBounds_toArray, List.set_cons_zero, List.set_cons_succ]
      refine wpAnyH_take (i := 4) (oi := { dst := some 20, op := Op.move (Operand.tmp 0), type := 40, pos := "zsortanyfunc.go:331", after := #[{ on := 21, ground := Ground.gcOnly Departure.lateStores }], guard := none }) (v := .slice (some ⟨g, o, none⟩) N cap) rfl (by kernel_rfl) (by kernel_rfl) (by kernel_rfl) (fun _ _ _ h => h) (Or.inl ⟨by rfl, fun w' hw' => by (clear hw'; go_simp)⟩) hHeld ?_
      simp only [Act.put, List.setIfInBounds_toArray, List.set_cons_zero, List.set_cons_succ]
      refine wpAnyH_take (i := 5) (oi := { dst := some 21, op := Op.move (Operand.tmp 2), type := 3, pos := "zsortanyfunc.go:331", after := #[{ on := 21, ground := Ground.gcOnly Departure.lateStores }], guard := none }) (v := .int .i64 (b : Int)) rfl (by kernel_rfl) (by kernel_rfl) (by kernel_rfl) (fun _ _ _ h => h) (Or.inl ⟨by rfl, fun w' hw' => by (clear hw'; go_simp)⟩) hHeld ?_
      simp only [Act.put, List.setIfInBounds_toArray, List.set_cons_zero, List.set_cons_succ]
      refine wpAnyH_take (i := 6) (oi := { dst := some 22, op := Op.move (Operand.tmp 10), type := 3, pos := "zsortanyfunc.go:331", after := #[{ on := 21, ground := Ground.gcOnly Departure.lateStores }], guard := none }) (v := .int .i64 (k : Int)) rfl (by kernel_rfl) (by kernel_rfl) (by kernel_rfl) (fun _ _ _ h => h) (Or.inl ⟨by rfl, fun w' hw' => by (clear hw'; go_simp)⟩) hHeld ?_
      simp only [Act.put, List.setIfInBounds_toArray, List.set_cons_zero, List.set_cons_succ]
      refine wpAnyH_take (i := 7) (oi := { dst := some 23, op := Op.binOp BinOp.add 3 (Operand.tmp 21) (Operand.tmp 22) 3, type := 3, pos := "zsortanyfunc.go:331", after := #[{ on := 5, ground := Ground.data }, { on := 6, ground := Ground.data }, { on := 21, ground := Ground.gcOnly Departure.lateStores }], guard := none }) (v := .int .i64 (j : Int)) rfl (by kernel_rfl) (by kernel_rfl) (by kernel_rfl) (fun _ _ _ h => h) (Or.inl ⟨by rfl, fun w' hw' => by (clear hw'; go_simp)⟩) hHeld ?_
      simp only [Act.put, List.setIfInBounds_toArray, List.set_cons_zero, List.set_cons_succ]
      refine wpAnyH_take (i := 8) (oi := { dst := some 24, op := Op.move (Operand.tmp 0), type := 40, pos := "zsortanyfunc.go:331", after := #[], guard := none }) (v := .slice (some ⟨g, o, none⟩) N cap) rfl (by kernel_rfl) (by kernel_rfl) (by kernel_rfl) (fun _ _ _ h => h) (Or.inl ⟨by rfl, fun w' hw' => by (clear hw'; go_simp)⟩) hHeld ?_
      simp only [Act.put, List.setIfInBounds_toArray, List.set_cons_zero, List.set_cons_succ]
      refine wpAnyH_take (i := 9) (oi := { dst := some 25, op := Op.move (Operand.tmp 2), type := 3, pos := "zsortanyfunc.go:331", after := #[], guard := none }) (v := .int .i64 (b : Int)) rfl (by kernel_rfl) (by kernel_rfl) (by kernel_rfl) (fun _ _ _ h => h) (Or.inl ⟨by rfl, fun w' hw' => by (clear hw'; go_simp)⟩) hHeld ?_
      simp only [Act.put, List.setIfInBounds_toArray, List.set_cons_zero, List.set_cons_succ]
      refine wpAnyH_take (i := 10) (oi := { dst := some 26, op := Op.move (Operand.tmp 10), type := 3, pos := "zsortanyfunc.go:331", after := #[], guard := none }) (v := .int .i64 (k : Int)) rfl (by kernel_rfl) (by kernel_rfl) (by kernel_rfl) (fun _ _ _ h => h) (Or.inl ⟨by rfl, fun w' hw' => by (clear hw'; go_simp)⟩) hHeld ?_
      simp only [Act.put, List.setIfInBounds_toArray, List.set_cons_zero, List.set_cons_succ]
      refine wpAnyH_take (i := 11) (oi := { dst := some 27, op := Op.binOp BinOp.add 3 (Operand.tmp 25) (Operand.tmp 26) 3, type := 3, pos := "zsortanyfunc.go:331", after := #[{ on := 9, ground := Ground.data }, { on := 10, ground := Ground.data }], guard := none }) (v := .int .i64 (j : Int)) rfl (by kernel_rfl) (by kernel_rfl) (by kernel_rfl) (fun _ _ _ h => h) (Or.inl ⟨by rfl, fun w' hw' => by (clear hw'; go_simp)⟩) hHeld ?_
      simp only [Act.put, List.setIfInBounds_toArray, List.set_cons_zero, List.set_cons_succ]
      refine wpAnyH_take (i := 12) (oi := { dst := some 28, op := Op.indexAddr 40 (Operand.tmp 24) (Operand.tmp 27), type := 0, pos := "zsortanyfunc.go:331", after := #[{ on := 8, ground := Ground.data }, { on := 11, ground := Ground.data }], guard := none }) (v := .pointer (some ⟨g, o + j * 34, none⟩)) rfl (by kernel_rfl) (by kernel_rfl) (by kernel_rfl) (fun _ _ _ h => h) (Or.inl ⟨by rfl, fun w' hw' => by (clear hw'; go_simp)⟩) hHeld ?_
      simp only [Act.put, List.setIfInBounds_toArray, List.set_cons_zero, List.set_cons_succ]
      refine wpAnyH_take (i := 14) (oi := { dst := some 30, op := Op.move (Operand.tmp 0), type := 40, pos := "zsortanyfunc.go:331", after := #[], guard := none }) (v := .slice (some ⟨g, o, none⟩) N cap) rfl (by kernel_rfl) (by kernel_rfl) (by kernel_rfl) (fun _ _ _ h => h) (Or.inl ⟨by rfl, fun w' hw' => by (clear hw'; go_simp)⟩) hHeld ?_
      simp only [Act.put, List.setIfInBounds_toArray, List.set_cons_zero, List.set_cons_succ]
      refine wpAnyH_take (i := 15) (oi := { dst := some 31, op := Op.move (Operand.tmp 1), type := 3, pos := "zsortanyfunc.go:331", after := #[], guard := none }) (v := .int .i64 (a : Int)) rfl (by kernel_rfl) (by kernel_rfl) (by kernel_rfl) (fun _ _ _ h => h) (Or.inl ⟨by rfl, fun w' hw' => by (clear hw'; go_simp)⟩) hHeld ?_
      simp only [Act.put, List.setIfInBounds_toArray, List.set_cons_zero, List.set_cons_succ]
      refine wpAnyH_take (i := 16) (oi := { dst := some 32, op := Op.move (Operand.tmp 10), type := 3, pos := "zsortanyfunc.go:331", after := #[], guard := none }) (v := .int .i64 (k : Int)) rfl (by kernel_rfl) (by kernel_rfl) (by kernel_rfl) (fun _ _ _ h => h) (Or.inl ⟨by rfl, fun w' hw' => by (clear hw'; go_simp)⟩) hHeld ?_
      simp only [Act.put, List.setIfInBounds_toArray, List.set_cons_zero, List.set_cons_succ]
      refine wpAnyH_take (i := 17) (oi := { dst := some 33, op := Op.binOp BinOp.add 3 (Operand.tmp 31) (Operand.tmp 32) 3, type := 3, pos := "zsortanyfunc.go:331", after := #[{ on := 15, ground := Ground.data }, { on := 16, ground := Ground.data }], guard := none }) (v := .int .i64 (i : Int)) rfl (by kernel_rfl) (by kernel_rfl) (by kernel_rfl) (fun _ _ _ h => h) (Or.inl ⟨by rfl, fun w' hw' => by (clear hw'; go_simp)⟩) hHeld ?_
      simp only [Act.put, List.setIfInBounds_toArray, List.set_cons_zero, List.set_cons_succ]
      refine wpAnyH_take (i := 18) (oi := { dst := some 34, op := Op.indexAddr 40 (Operand.tmp 30) (Operand.tmp 33), type := 0, pos := "zsortanyfunc.go:331", after := #[{ on := 14, ground := Ground.data }, { on := 17, ground := Ground.data }], guard := none }) (v := .pointer (some ⟨g, o + i * 34, none⟩)) rfl (by kernel_rfl) (by kernel_rfl) (by kernel_rfl) (fun _ _ _ h => h) (Or.inl ⟨by rfl, fun w' hw' => by (clear hw'; go_simp)⟩) hHeld ?_
      simp only [Act.put, List.setIfInBounds_toArray, List.set_cons_zero, List.set_cons_succ]
      refine wpAnyH_ready (rs := [13, 19]) (by kernel_rfl) (by simp) ?_
      refine AllReadyH.cons (o := { dst := some 29, op := Op.load 70 (Operand.tmp 28), type := 70, pos := "zsortanyfunc.go:331", after := #[{ on := 12, ground := Ground.data }], guard := none }) rfl (fun K hK => ?_) (AllReadyH.cons (o := { dst := some 35, op := Op.load 70 (Operand.tmp 34), type := 70, pos := "zsortanyfunc.go:331", after := #[{ on := 18, ground := Ground.data }], guard := none }) rfl (fun K hK => ?_) AllReadyH.nil)
      · rw [if_pos (by rfl)]
        refine wp_load_mid 70 _ (by rfl) g (o + j * 34) (by rfl) y _ (Hy.out _ ((Kp.refl No _).drew)) Try.underlying70 rfl HIy.out ?_
        refine hK.out _ _ trivial (fun hh => ?_)
        clear hK K hHeld
        have hHeld := hh
        clear hh
        try simp only [Act.put, List.setIfInBounds_toArray, List.set_cons_zero, List.set_cons_succ]
        refine wpAnyH_ready (rs := [19]) (by kernel_rfl) (by simp) ?_
        refine AllReadyH.cons (o := { dst := some 35, op := Op.load 70 (Operand.tmp 34), type := 70, pos := "zsortanyfunc.go:331", after := #[{ on := 18, ground := Ground.data }], guard := none }) rfl (fun K hK => ?_) AllReadyH.nil
        rw [if_pos (by rfl)]
        refine wp_load_mid 70 _ (by rfl) g (o + i * 34) (by rfl) x _ (Hx.out _ ((Kp.refl No _).drew)) Try.underlying70 rfl HIx.out ?_
        refine hK.out _ _ trivial (fun hh => ?_)
        clear hK K hHeld
        have hHeld := hh
        clear hh
        try simp only [Act.put, List.setIfInBounds_toArray, List.set_cons_zero, List.set_cons_succ]
        refine wpAnyH_take (i := 20) (oi := { dst := some 36, op := Op.indexAddr 40 (Operand.tmp 16) (Operand.tmp 19), type := 0, pos := "zsortanyfunc.go:331", after := #[{ on := 0, ground := Ground.data }, { on := 3, ground := Ground.data }, { on := 0, ground := Ground.phase }, { on := 1, ground := Ground.phase }, { on := 2, ground := Ground.phase }, { on := 3, ground := Ground.phase }, { on := 4, ground := Ground.textOnly Departure.lateStores }, { on := 5, ground := Ground.textOnly Departure.lateStores }, { on := 6, ground := Ground.textOnly Departure.lateStores }, { on := 7, ground := Ground.textOnly Departure.lateStores }, { on := 8, ground := Ground.phase }, { on := 9, ground := Ground.phase }, { on := 10, ground := Ground.phase }, { on := 11, ground := Ground.phase }, { on := 12, ground := Ground.phase }, { on := 13, ground := Ground.phase }, { on := 14, ground := Ground.textOnly Departure.lateStores }, { on := 15, ground := Ground.textOnly Departure.lateStores }, { on := 16, ground := Ground.textOnly Departure.lateStores }, { on := 17, ground := Ground.textOnly Departure.lateStores }, { on := 18, ground := Ground.textOnly Departure.lateStoresUnsure }, { on := 19, ground := Ground.phase }], guard := none }) (v := .pointer (some ⟨g, o + i * 34, none⟩)) rfl (by kernel_rfl) (by kernel_rfl) (by kernel_rfl) (fun _ _ _ h => h) (Or.inl ⟨by rfl, fun w' hw' => by (clear hw'; go_simp)⟩) hHeld ?_
        simp only [Act.put, List.setIfInBounds_toArray, List.set_cons_zero, List.set_cons_succ]
        refine wpAnyH_ready (rs := [21]) (by kernel_rfl) (by simp) ?_
        refine AllReadyH.cons (o := { dst := none, op := Op.store 70 (Operand.tmp 36) (Operand.tmp 29), type := 0, pos := "zsortanyfunc.go:331", after := #[{ on := 20, ground := Ground.data }, { on := 13, ground := Ground.data }, { on := 0, ground := Ground.phase }, { on := 1, ground := Ground.phase }, { on := 2, ground := Ground.phase }, { on := 3, ground := Ground.phase }, { on := 4, ground := Ground.textOnly Departure.lateStores }, { on := 5, ground := Ground.textOnly Departure.lateStores }, { on := 6, ground := Ground.textOnly Departure.lateStores }, { on := 7, ground := Ground.textOnly Departure.lateStores }, { on := 8, ground := Ground.phase }, { on := 9, ground := Ground.phase }, { on := 10, ground := Ground.phase }, { on := 11, ground := Ground.phase }, { on := 12, ground := Ground.phase }, { on := 13, ground := Ground.phase }, { on := 14, ground := Ground.textOnly Departure.lateStores }, { on := 15, ground := Ground.textOnly Departure.lateStores }, { on := 16, ground := Ground.textOnly Departure.lateStores }, { on := 17, ground := Ground.textOnly Departure.lateStores }, { on := 18, ground := Ground.textOnly Departure.lateStoresUnsure }, { on := 19, ground := Ground.phase }], guard := none }) rfl (fun K hK => ?_) AllReadyH.nil
        rw [if_pos (by rfl)]
        refine wp_store_mid 70 _ _ (by rfl) g (o + i * 34) y.toArray (by rfl) (by rfl) HT1.out HAy.out HOy.out ?_
        refine hK.out _ _ trivial (fun hh => ?_)
        clear hK K hHeld
        have hHeld := hh
        clear hh
        simp only [Act.put]
        refine wpAnyH_take (i := 22) (oi := { dst := some 37, op := Op.indexAddr 40 (Operand.tmp 20) (Operand.tmp 23), type := 0, pos := "zsortanyfunc.go:331", after := #[{ on := 4, ground := Ground.data }, { on := 7, ground := Ground.data }, { on := 0, ground := Ground.phase }, { on := 1, ground := Ground.phase }, { on := 2, ground := Ground.phase }, { on := 3, ground := Ground.phase }, { on := 4, ground := Ground.phase }, { on := 5, ground := Ground.phase }, { on := 6, ground := Ground.phase }, { on := 7, ground := Ground.phase }, { on := 8, ground := Ground.phase }, { on := 9, ground := Ground.phase }, { on := 10, ground := Ground.phase }, { on := 11, ground := Ground.phase }, { on := 12, ground := Ground.phase }, { on := 13, ground := Ground.phase }, { on := 14, ground := Ground.phase }, { on := 15, ground := Ground.phase }, { on := 16, ground := Ground.phase }, { on := 17, ground := Ground.phase }, { on := 18, ground := Ground.phase }, { on := 19, ground := Ground.phase }, { on := 20, ground := Ground.phase }, { on := 21, ground := Ground.phase }], guard := none }) (v := .pointer (some ⟨g, o + j * 34, none⟩)) rfl (by kernel_rfl) (by kernel_rfl) (by kernel_rfl) (fun _ _ _ h => h) (Or.inl ⟨by rfl, fun w' hw' => by (clear hw'; go_simp)⟩) hHeld ?_
        simp only [Act.put, List.setIfInBounds_toArray, List.set_cons_zero, List.set_cons_succ]
        refine wpAnyH_ready (rs := [23]) (by kernel_rfl) (by simp) ?_
        refine AllReadyH.cons (o := { dst := none, op := Op.store 70 (Operand.tmp 37) (Operand.tmp 35), type := 0, pos := "zsortanyfunc.go:331", after := #[{ on := 22, ground := Ground.data }, { on := 19, ground := Ground.data }, { on := 21, ground := Ground.chain }, { on := 0, ground := Ground.phase }, { on := 1, ground := Ground.phase }, { on := 2, ground := Ground.phase }, { on := 3, ground := Ground.phase }, { on := 4, ground := Ground.phase }, { on := 5, ground := Ground.phase }, { on := 6, ground := Ground.phase }, { on := 7, ground := Ground.phase }, { on := 8, ground := Ground.phase }, { on := 9, ground := Ground.phase }, { on := 10, ground := Ground.phase }, { on := 11, ground := Ground.phase }, { on := 12, ground := Ground.phase }, { on := 13, ground := Ground.phase }, { on := 14, ground := Ground.phase }, { on := 15, ground := Ground.phase }, { on := 16, ground := Ground.phase }, { on := 17, ground := Ground.phase }, { on := 18, ground := Ground.phase }, { on := 19, ground := Ground.phase }, { on := 20, ground := Ground.phase }, { on := 21, ground := Ground.phase }], guard := none }) rfl (fun K hK => ?_) AllReadyH.nil
        rw [if_pos (by rfl)]
        refine wp_store_mid 70 _ _ (by rfl) g (o + j * 34) x.toArray (by rfl) (by rfl) HT2.out HAx.out HOx.out ?_
        refine hK.out _ _ trivial (fun hh => ?_)
        clear hK K hHeld
        have hHeld := hh
        clear hh
        simp only [Act.put]
        refine wpAnyH_done (by kernel_rfl) ?_ _
        go_wp2_with fail
        go_round
        case rel => exact ⟨k + 1, by go_num, by omega, HFIN.out⟩
        case measure => simp [intOf]; omega
      · rw [if_pos (by rfl)]
        refine wp_load_mid 70 _ (by rfl) g (o + i * 34) (by rfl) x _ (Hx.out _ ((Kp.refl No _).drew)) Try.underlying70 rfl HIx.out ?_
        refine hK.out _ _ trivial (fun hh => ?_)
        clear hK K hHeld
        have hHeld := hh
        clear hh
        try simp only [Act.put, List.setIfInBounds_toArray, List.set_cons_zero, List.set_cons_succ]
        refine wpAnyH_ready (rs := [13]) (by kernel_rfl) (by simp) ?_
        refine AllReadyH.cons (o := { dst := some 29, op := Op.load 70 (Operand.tmp 28), type := 70, pos := "zsortanyfunc.go:331", after := #[{ on := 12, ground := Ground.data }], guard := none }) rfl (fun K hK => ?_) AllReadyH.nil
        rw [if_pos (by rfl)]
        refine wp_load_mid 70 _ (by rfl) g (o + j * 34) (by rfl) y _ (Hy.out _ ((Kp.refl No _).drew)) Try.underlying70 rfl HIy.out ?_
        refine hK.out _ _ trivial (fun hh => ?_)
        clear hK K hHeld
        have hHeld := hh
        clear hh
        try simp only [Act.put, List.setIfInBounds_toArray, List.set_cons_zero, List.set_cons_succ]
        refine wpAnyH_take (i := 20) (oi := { dst := some 36, op := Op.indexAddr 40 (Operand.tmp 16) (Operand.tmp 19), type := 0, pos := "zsortanyfunc.go:331", after := #[{ on := 0, ground := Ground.data }, { on := 3, ground := Ground.data }, { on := 0, ground := Ground.phase }, { on := 1, ground := Ground.phase }, { on := 2, ground := Ground.phase }, { on := 3, ground := Ground.phase }, { on := 4, ground := Ground.textOnly Departure.lateStores }, { on := 5, ground := Ground.textOnly Departure.lateStores }, { on := 6, ground := Ground.textOnly Departure.lateStores }, { on := 7, ground := Ground.textOnly Departure.lateStores }, { on := 8, ground := Ground.phase }, { on := 9, ground := Ground.phase }, { on := 10, ground := Ground.phase }, { on := 11, ground := Ground.phase }, { on := 12, ground := Ground.phase }, { on := 13, ground := Ground.phase }, { on := 14, ground := Ground.textOnly Departure.lateStores }, { on := 15, ground := Ground.textOnly Departure.lateStores }, { on := 16, ground := Ground.textOnly Departure.lateStores }, { on := 17, ground := Ground.textOnly Departure.lateStores }, { on := 18, ground := Ground.textOnly Departure.lateStoresUnsure }, { on := 19, ground := Ground.phase }], guard := none }) (v := .pointer (some ⟨g, o + i * 34, none⟩)) rfl (by kernel_rfl) (by kernel_rfl) (by kernel_rfl) (fun _ _ _ h => h) (Or.inl ⟨by rfl, fun w' hw' => by (clear hw'; go_simp)⟩) hHeld ?_
        simp only [Act.put, List.setIfInBounds_toArray, List.set_cons_zero, List.set_cons_succ]
        refine wpAnyH_ready (rs := [21]) (by kernel_rfl) (by simp) ?_
        refine AllReadyH.cons (o := { dst := none, op := Op.store 70 (Operand.tmp 36) (Operand.tmp 29), type := 0, pos := "zsortanyfunc.go:331", after := #[{ on := 20, ground := Ground.data }, { on := 13, ground := Ground.data }, { on := 0, ground := Ground.phase }, { on := 1, ground := Ground.phase }, { on := 2, ground := Ground.phase }, { on := 3, ground := Ground.phase }, { on := 4, ground := Ground.textOnly Departure.lateStores }, { on := 5, ground := Ground.textOnly Departure.lateStores }, { on := 6, ground := Ground.textOnly Departure.lateStores }, { on := 7, ground := Ground.textOnly Departure.lateStores }, { on := 8, ground := Ground.phase }, { on := 9, ground := Ground.phase }, { on := 10, ground := Ground.phase }, { on := 11, ground := Ground.phase }, { on := 12, ground := Ground.phase }, { on := 13, ground := Ground.phase }, { on := 14, ground := Ground.textOnly Departure.lateStores }, { on := 15, ground := Ground.textOnly Departure.lateStores }, { on := 16, ground := Ground.textOnly Departure.lateStores }, { on := 17, ground := Ground.textOnly Departure.lateStores }, { on := 18, ground := Ground.textOnly Departure.lateStoresUnsure }, { on := 19, ground := Ground.phase }], guard := none }) rfl (fun K hK => ?_) AllReadyH.nil
        rw [if_pos (by rfl)]
        refine wp_store_mid 70 _ _ (by rfl) g (o + i * 34) y.toArray (by rfl) (by rfl) HT1.out HAy.out HOy.out ?_
        refine hK.out _ _ trivial (fun hh => ?_)
        clear hK K hHeld
        have hHeld := hh
        clear hh
        simp only [Act.put]
        refine wpAnyH_take (i := 22) (oi := { dst := some 37, op := Op.indexAddr 40 (Operand.tmp 20) (Operand.tmp 23), type := 0, pos := "zsortanyfunc.go:331", after := #[{ on := 4, ground := Ground.data }, { on := 7, ground := Ground.data }, { on := 0, ground := Ground.phase }, { on := 1, ground := Ground.phase }, { on := 2, ground := Ground.phase }, { on := 3, ground := Ground.phase }, { on := 4, ground := Ground.phase }, { on := 5, ground := Ground.phase }, { on := 6, ground := Ground.phase }, { on := 7, ground := Ground.phase }, { on := 8, ground := Ground.phase }, { on := 9, ground := Ground.phase }, { on := 10, ground := Ground.phase }, { on := 11, ground := Ground.phase }, { on := 12, ground := Ground.phase }, { on := 13, ground := Ground.phase }, { on := 14, ground := Ground.phase }, { on := 15, ground := Ground.phase }, { on := 16, ground := Ground.phase }, { on := 17, ground := Ground.phase }, { on := 18, ground := Ground.phase }, { on := 19, ground := Ground.phase }, { on := 20, ground := Ground.phase }, { on := 21, ground := Ground.phase }], guard := none }) (v := .pointer (some ⟨g, o + j * 34, none⟩)) rfl (by kernel_rfl) (by kernel_rfl) (by kernel_rfl) (fun _ _ _ h => h) (Or.inl ⟨by rfl, fun w' hw' => by (clear hw'; go_simp)⟩) hHeld ?_
        simp only [Act.put, List.setIfInBounds_toArray, List.set_cons_zero, List.set_cons_succ]
        refine wpAnyH_ready (rs := [23]) (by kernel_rfl) (by simp) ?_
        refine AllReadyH.cons (o := { dst := none, op := Op.store 70 (Operand.tmp 37) (Operand.tmp 35), type := 0, pos := "zsortanyfunc.go:331", after := #[{ on := 22, ground := Ground.data }, { on := 19, ground := Ground.data }, { on := 21, ground := Ground.chain }, { on := 0, ground := Ground.phase }, { on := 1, ground := Ground.phase }, { on := 2, ground := Ground.phase }, { on := 3, ground := Ground.phase }, { on := 4, ground := Ground.phase }, { on := 5, ground := Ground.phase }, { on := 6, ground := Ground.phase }, { on := 7, ground := Ground.phase }, { on := 8, ground := Ground.phase }, { on := 9, ground := Ground.phase }, { on := 10, ground := Ground.phase }, { on := 11, ground := Ground.phase }, { on := 12, ground := Ground.phase }, { on := 13, ground := Ground.phase }, { on := 14, ground := Ground.phase }, { on := 15, ground := Ground.phase }, { on := 16, ground := Ground.phase }, { on := 17, ground := Ground.phase }, { on := 18, ground := Ground.phase }, { on := 19, ground := Ground.phase }, { on := 20, ground := Ground.phase }, { on := 21, ground := Ground.phase }], guard := none }) rfl (fun K hK => ?_) AllReadyH.nil
        rw [if_pos (by rfl)]
        refine wp_store_mid 70 _ _ (by rfl) g (o + j * 34) x.toArray (by rfl) (by rfl) HT2.out HAx.out HOx.out ?_
        refine hK.out _ _ trivial (fun hh => ?_)
        clear hK K hHeld
        have hHeld := hh
        clear hh
        simp only [Act.put]
        refine wpAnyH_done (by kernel_rfl) ?_ _
        go_wp2_with fail
        go_round
        case rel => exact ⟨k + 1, by go_num, by omega, HFIN.out⟩
        case measure => simp [intOf]; omega
    · have hltI : ¬ (k : Int) < (n : Int) := by omega
      have hkn : k = n := by omega
      subst hkn
      go_wp2_with fail
      go_end0
      exact ⟨rfl, HA.out⟩
end Go.Proofs.Ytenfahecnkdhaaa.Nd
end

section
/-
  Two ranges that stand side by side are turned about.
-/
namespace Go.Proofs.Ytenfahecnkdhaaa.Nd
open Go.RowKit
open Sim (hid Kp No)

theorem swap2_blocks (A B C : List Ent) (x y : Ent) : swap2 (A ++ x :: (B ++ y :: C)) A.length (A.length + 1 + B.length) = A ++ y :: (B ++ x :: C) := by
  have e1 : (A ++ x :: (B ++ y :: C)).getD A.length zEnt = x := by simp [List.getD_eq_getElem?_getD]
  have e2 : (A ++ x :: (B ++ y :: C)).getD (A.length + 1 + B.length) zEnt = y := by
    rw [List.getD_eq_getElem?_getD, List.getElem?_append_right (by omega), show A.length + 1 + B.length - A.length = B.length + 1 by omega]
    simp
  have e3 : (A ++ x :: (B ++ y :: C)).set A.length y = A ++ y :: (B ++ y :: C) := by simp [List.set_append_right]
  rw [swap2, e1, e2, e3, List.set_append_right _ _ (by omega), show A.length + 1 + B.length - A.length = B.length + 1 by omega, List.set_cons_succ, List.set_append_right _ _ (by omega), Nat.sub_self, List.set_cons_zero]
theorem swapN_blocks : ∀ (n : Nat) (L X M Y R : List Ent), X.length = n → Y.length = n → swapN (L ++ (X ++ (M ++ (Y ++ R)))) L.length (L.length + n + M.length) n = L ++ (Y ++ (M ++ (X ++ R)))
  | 0, L, X, M, Y, R, hx, hy => by
    rw [List.length_eq_zero_iff.1 hx, List.length_eq_zero_iff.1 hy]
    rfl
  | n + 1, L, X, M, Y, R, hx, hy => by
    have nx : X ≠ [] := by intro e; rw [e] at hx; simp at hx
    have ny : Y ≠ [] := by intro e; rw [e] at hy; simp at hy
    obtain ⟨X', x, rfl⟩ : ∃ X' x, X = X' ++ [x] := ⟨X.dropLast, X.getLast nx, (List.dropLast_concat_getLast nx).symm⟩
    obtain ⟨Y', y, rfl⟩ : ∃ Y' y, Y = Y' ++ [y] := ⟨Y.dropLast, Y.getLast ny, (List.dropLast_concat_getLast ny).symm⟩
    have hx' : X'.length = n := by simpa using hx
    have hy' : Y'.length = n := by simpa using hy
    have ih := swapN_blocks n L X' (x :: M) Y' (y :: R) hx' hy'
    have e1 : L ++ (X' ++ [x] ++ (M ++ (Y' ++ [y] ++ R))) = L ++ (X' ++ ((x :: M) ++ (Y' ++ y :: R))) := by simp
    have e2 : L.length + (n + 1) + M.length = L.length + n + (x :: M).length := by simp; omega
    rw [swapN, e1, e2, ih]
    have h2 := swap2_blocks (L ++ Y') (M ++ X') R x y
    have e3 : L ++ (Y' ++ ((x :: M) ++ (X' ++ y :: R))) = (L ++ Y') ++ x :: ((M ++ X') ++ y :: R) := by simp
    have e4 : L.length + n = (L ++ Y').length := by simp [hy']
    have e5 : L.length + n + (x :: M).length + n = (L ++ Y').length + 1 + (M ++ X').length := by simp [hx', hy']; omega
    rw [e5, e4, e3, h2]
    simp

/-- How far a turning has come: X and Y are left, and F is what comes out. -/
def RotSt (m i j : Nat) (F D : List Ent) : Prop := ∃ L X Y R : List Ent, X.length = i ∧ Y.length = j ∧ L.length + i = m ∧ D = L ++ (X ++ (Y ++ R)) ∧ F = L ++ (Y ++ (X ++ R))
theorem RotSt.gt {m i j : Nat} {F D : List Ent} (h : RotSt m i j F D) (hj : j < i) : RotSt m (i - j) j F (swapN D (m - i) m j) := by
  obtain ⟨L, X, Y, R, hx, hy, hm, rfl, rfl⟩ := h
  have e := swapN_blocks j L (X.take j) (X.drop j) Y R (by rw [List.length_take]; omega) hy
  have e1 : L ++ (X ++ (Y ++ R)) = L ++ (X.take j ++ (X.drop j ++ (Y ++ R))) := by rw [← List.append_assoc (X.take j), List.take_append_drop]
  have e2 : L.length + j + (X.drop j).length = m := by rw [List.length_drop]; omega
  rw [e2] at e
  refine ⟨L ++ Y, X.drop j, X.take j, R, by rw [List.length_drop]; omega, by rw [List.length_take]; omega, by rw [List.length_append]; omega, ?_, ?_⟩
  · rw [e1, show m - i = L.length by omega, e]; simp
  · have : X.take j ++ (X.drop j ++ R) = X ++ R := by rw [← List.append_assoc, List.take_append_drop]
    rw [this]; simp
theorem RotSt.lt {m i j : Nat} {F D : List Ent} (h : RotSt m i j F D) (hj : i < j) : RotSt m i (j - i) F (swapN D (m - i) (m + j - i) i) := by
  obtain ⟨L, X, Y, R, hx, hy, hm, rfl, rfl⟩ := h
  have e := swapN_blocks i L X (Y.take (j - i)) (Y.drop (j - i)) R hx (by rw [List.length_drop]; omega)
  have e1 : L ++ (X ++ (Y ++ R)) = L ++ (X ++ (Y.take (j - i) ++ (Y.drop (j - i) ++ R))) := by rw [← List.append_assoc (Y.take _), List.take_append_drop]
  have e2 : L.length + i + (Y.take (j - i)).length = m + j - i := by rw [List.length_take]; omega
  rw [e2] at e
  refine ⟨L, Y.drop (j - i), Y.take (j - i), X ++ R, by rw [List.length_drop]; omega, by rw [List.length_take]; omega, hm, ?_, ?_⟩
  · rw [e1, show m - i = L.length by omega, e]
  · have : Y.take (j - i) ++ (Y.drop (j - i) ++ (X ++ R)) = Y ++ (X ++ R) := by rw [← List.append_assoc, List.take_append_drop]
    rw [this]
theorem RotSt.eq {m i : Nat} {F D : List Ent} (h : RotSt m i i F D) : swapN D (m - i) m i = F := by
  obtain ⟨L, X, Y, R, hx, hy, hm, rfl, rfl⟩ := h
  have e := swapN_blocks i L X [] Y R hx hy
  simp only [List.nil_append, List.length_nil, Nat.add_zero] at e
  rw [hm] at e
  rw [show m - i = L.length by omega, e]
theorem RotSt.len {m i j : Nat} {F D : List Ent} (h : RotSt m i j F D) : i ≤ m ∧ m + j ≤ D.length ∧ D.length = F.length := by
  obtain ⟨L, X, Y, R, hx, hy, hm, rfl, rfl⟩ := h
  simp only [List.length_append]
  omega

set_option maxHeartbeats 2000000 in
set_option maxRecDepth 100000 in
theorem rot_any (w : World) (g o : Nat) (L X Y R : List Ent) (N cap : Nat) (cv : Value) (h : EOwn w g o (L ++ (X ++ (Y ++ R)))) (hN : (L ++ (X ++ (Y ++ R))).length = N) (hx : X ≠ []) (hy : Y ≠ []) (hl : N ≤ 1000000) :
    Calls Try.prog 92 #[.slice (some ⟨g, o, none⟩) N cap, .int .i64 (L.length : Int), .int .i64 ((L.length + X.length : Nat) : Int), .int .i64 ((L.length + X.length + Y.length : Nat) : Int), cv] w fun e w' => e = .returned (.tuple #[]) ∧ At w g o (L ++ (Y ++ (X ++ R))) w' := by
  have H0 := hid (At.start h)
  have hx1 := List.length_pos_iff.2 hx
  have hy1 := List.length_pos_iff.2 hy
  obtain ⟨F, hF⟩ : ∃ F, L ++ (Y ++ (X ++ R)) = F := ⟨_, rfl⟩
  obtain ⟨D, hD⟩ : ∃ D, L ++ (X ++ (Y ++ R)) = D := ⟨_, rfl⟩
  have HR0 : Hid (RotSt (L.length + X.length) X.length Y.length F D) := ⟨L, X, Y, R, rfl, rfl, rfl, hD.symm, hF.symm⟩
  rw [hF]
  rw [hD] at H0 hN
  clear hF hD h hx hy
  obtain ⟨a, ha⟩ : ∃ a, L.length = a := ⟨_, rfl⟩
  obtain ⟨m, hm⟩ : ∃ m, L.length + X.length = m := ⟨_, rfl⟩
  obtain ⟨b, hb⟩ : ∃ b, L.length + X.length + Y.length = b := ⟨_, rfl⟩
  obtain ⟨i0, hi0⟩ : ∃ i0, X.length = i0 := ⟨_, rfl⟩
  obtain ⟨j0, hj0⟩ : ∃ j0, Y.length = j0 := ⟨_, rfl⟩
  rw [hm, hi0, hj0] at HR0
  have h1 : m - a = i0 ∧ b - m = j0 ∧ 0 < i0 ∧ 0 < j0 ∧ a < m ∧ m < b := by omega
  have hFl : F.length = N := by rw [← HR0.out.len.2.2, hN]
  have hbN : b ≤ N := by have := HR0.out.len.2.1; omega
  rw [hb, hm, ha]
  clear ha hm hb hi0 hj0 hx1 hy1 hN
  obtain ⟨h1, h2, h3, h4, h5, h6⟩ := h1
  have hwi : IntKind.i64.wrap ((m : Int) - (a : Int)) = (i0 : Int) := by rw [IntKind.wrap_i64]; omega
  have hwj : IntKind.i64.wrap ((b : Int) - (m : Int)) = (j0 : Int) := by rw [IntKind.wrap_i64]; omega
  have HFl := hid hFl
  have HSW := hid (fun V (D : List Ent) (a b n : Nat) (h : EOwn V g o D) (hD : D.length = N) (ha : a + n ≤ b) (hb : b + n ≤ N) => by have := swapR_any V g o D cap a b n cv h (by omega) (by omega) ha (by omega); rw [hD] at this; exact this)
  clear hFl
  go_enter Try.func92, Try.ntmps92
  go_wp2_with fail
  go_loopw [10, 11] (fun x y wr => ∃ (i j : Nat) (D : List Ent), x = .int .i64 (i : Int) ∧ y = .int .i64 (j : Int) ∧ 0 < i ∧ 0 < j ∧ Hid (RotSt m i j F D ∧ At w g o D wr)) (fun x y _ => (intOf x).toNat + (intOf y).toNat)
  case atStart => exact ⟨i0, j0, D, rfl, rfl, h3, h4, HR0.out, H0.out⟩
  case round =>
    obtain ⟨i, j, D, rfl, rfl, hi, hj, HS⟩ := hrel
    obtain ⟨hR, hA⟩ := HS.out
    have hlen := hR.len
    have hFl := HFl.out
    have hwm : IntKind.i64.wrap ((m : Int) - (i : Int)) = ((m - i : Nat) : Int) := by rw [IntKind.wrap_i64]; omega
    by_cases hij : i = j
    · subst hij
      have HC := hid (HSW.out wr D (m - i) m i hA.2 (by omega) (by omega) (by omega))
      rw [hR.eq] at HC
      have HAA := hid hA
      clear hR hA hlen hFl HS
      go_wp2_with fail
      refine HC.out.mono ?_
      rintro e w2 ⟨rfl, h2⟩
      have H2 := hid (HAA.out.next h2)
      clear h2
      go_wp2_with fail
      go_end0
      exact ⟨rfl, H2.out⟩
    · have hne : ¬ ((i : Int) = (j : Int)) := by omega
      by_cases hg : j < i
      · have hgI : (j : Int) < (i : Int) := by omega
        have HC := hid (HSW.out wr D (m - i) m j hA.2 (by omega) (by omega) (by omega))
        have HAA := hid hA
        have HRR := hid (hR.gt hg)
        have hwd : IntKind.i64.wrap ((i : Int) - (j : Int)) = ((i - j : Nat) : Int) := by rw [IntKind.wrap_i64]; omega
        clear hR hA hlen hFl HS
        go_wp2_with fail
        refine HC.out.mono ?_
        rintro e w2 ⟨rfl, h2⟩
        have H2 := hid (HAA.out.next h2)
        clear h2
        go_wp2_with fail
        go_round
        case rel => exact ⟨i - j, j, _, rfl, rfl, by omega, by omega, HRR.out, H2.out⟩
        case measure => simp [intOf]; omega
      · have hgI : ¬ (j : Int) < (i : Int) := by omega
        have HC := hid (HSW.out wr D (m - i) (m + j - i) i hA.2 (by omega) (by omega) (by omega))
        have HAA := hid hA
        have HRR := hid (hR.lt (by omega))
        have hwd : IntKind.i64.wrap ((j : Int) - (i : Int)) = ((j - i : Nat) : Int) := by rw [IntKind.wrap_i64]; omega
        obtain ⟨q, hq⟩ : ∃ q, m + j = q := ⟨_, rfl⟩
        obtain ⟨t, ht⟩ : ∃ t, m + j - i = t := ⟨_, rfl⟩
        have hws : IntKind.i64.wrap ((m : Int) + (j : Int)) = (q : Int) := by rw [IntKind.wrap_i64]; omega
        have hwt : IntKind.i64.wrap ((q : Int) - (i : Int)) = (t : Int) := by rw [IntKind.wrap_i64]; omega
        rw [ht] at HC HRR
        clear hq ht
        clear hR hA hlen hFl HS
        go_wp2_with fail
        refine HC.out.mono ?_
        rintro e w2 ⟨rfl, h2⟩
        have H2 := hid (HAA.out.next h2)
        clear h2
        go_wp2_with fail
        go_round
        case rel => exact ⟨i, j - i, _, rfl, rfl, by omega, by omega, HRR.out, H2.out⟩
        case measure => simp [intOf]; omega
end Go.Proofs.Ytenfahecnkdhaaa.Nd
end
