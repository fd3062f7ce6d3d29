/-
  The files of the document as data: names, directories, changes, what each call makes of them.
-/
import Derived.Sort.KeysCollected
import Derived.Maps.Ext
namespace Go.Proofs.YtmiipifhbliamaaGreat.Sim

abbrev Nm := List UInt8
/-- A file: its bytes, the first so many of which are safe. -/
structure Fl where
  b : List Nat
  safe : Nat
/-- A directory: names, each with a file (a block, or a number). -/
abbrev Dir := List (Nm × Nat)

def dfind (l : Dir) (n : Nm) : Option Nat := (l.find? (fun p => p.1 == n)).map (·.2)
def ddel (l : Dir) (n : Nm) : Dir := l.filter (fun p => !(p.1 == n))
def dins (x : Nm × Nat) : Dir → Dir
  | [] => [x]
  | y :: r => if bytesBefore x.1 y.1 then x :: y :: r else y :: dins x r
def dput (l : Dir) (n : Nm) (f : Nat) : Dir := dins (n, f) (ddel l n)

/-! ### A directory as a map that is read -/
abbrev DD := DataW Unit
def fileD (b : Nat) : DD := .lit (.int .i64 (b : Int))
def entD (p : Nm × Nat) : Lit × DD := (.string p.1, fileD p.2)
def dirD (l : Dir) : DD := .map (l.map entD)

theorem sameKey_str (a b : Nm) : (Lit.string a).sameKey (.string b) = (a == b) := rfl
theorem dirD_filter (l : Dir) (n : Nm) : (l.map entD).filter (fun p => !p.1.sameKey (.string n)) = (ddel l n).map entD := by
  unfold ddel
  rw [List.filter_map]
  rfl
theorem dirD_ins (x : Nm × Nat) : ∀ l : Dir, DataW.insert (entD x) (l.map entD) = (dins x l).map entD
  | [] => rfl
  | y :: r => by
    show (if bytesBefore x.1 y.1 then _ else _) = _
    unfold dins
    split
    · rfl
    · rw [List.map_cons, dirD_ins x r]
theorem dirD_put (l : Dir) (n : Nm) (f : Nat) : (dirD l).put (.string n) (fileD f) = dirD (dput l n f) := by
  show DataW.map (DataW.insert (entD (n, f)) ((l.map entD).filter fun p => !p.1.sameKey (.string n))) = _
  rw [dirD_filter, dirD_ins]
  rfl
theorem dirD_del (l : Dir) (n : Nm) : (dirD l).del (.string n) = dirD (ddel l n) := by
  show DataW.map ((l.map entD).filter fun p => !p.1.sameKey (.string n)) = _
  rw [dirD_filter]
  rfl
theorem find_map_entD (n : Nm) : ∀ l : Dir, (l.map entD).find? (fun p => p.1.sameKey (.string n)) = (l.find? (fun p => p.1 == n)).map entD
  | [] => rfl
  | y :: r => by
    have e : (entD y).1.sameKey (.string n) = (y.1 == n) := rfl
    rw [List.map_cons, List.find?_cons, List.find?_cons, e]
    split
    · rfl
    · exact find_map_entD n r
theorem dirD_at (l : Dir) (n : Nm) (z : DD) : (dirD l).atKey (.string n) z = match dfind l n with | some b => fileD b | none => z := by
  have h := find_map_entD n l
  unfold DataW.atKey dirD
  simp only [h, dfind]
  cases l.find? (fun p => p.1 == n) <;> rfl
theorem dirD_has (l : Dir) (n : Nm) : Maps.has (dirD l) (.string n) = (dfind l n).isSome := by
  show (l.map entD).any (fun p => p.1.sameKey (.string n)) = _
  rw [dfind, Option.isSome_map, List.isSome_find?, List.any_map]
  rfl
theorem dirD_size (l : Dir) : Maps.size (dirD l) = l.length := by
  show (l.map entD).length = _
  simp
theorem dirD_keys (l : Dir) : strKeys (dirD l) = l.map (·.1) := by
  show (l.map entD).map (fun p => strOf p.1) = _
  rw [List.map_map]
  rfl

/-! ### Rising names -/
def Ris (l : Dir) : Prop := l.Pairwise (fun p q => bytesBefore p.1 q.1 = true)
theorem ris_of_canon {l : Dir} (h : Maps.Canon (dirD l)) : Ris l := by
  obtain ⟨es, e, h1, _⟩ := h
  have e' : es = l.map entD := (DataW.map.inj e).symm
  subst e'
  exact (List.pairwise_map.1 h1)
theorem Ris.nodup {l : Dir} (h : Ris l) : (l.map (·.1)).Nodup := by
  unfold List.Nodup
  rw [List.pairwise_map]
  exact h.imp (fun {a b} hab e => by rw [e, WideAt.bytes_irrefl] at hab; cases hab)
theorem mem_dins (x p : Nm × Nat) : ∀ l : Dir, p ∈ dins x l ↔ p = x ∨ p ∈ l
  | [] => by simp [dins]
  | y :: r => by
    unfold dins
    split
    · simp
    · simp only [List.mem_cons, mem_dins x p r]
      constructor
      · rintro (h | h | h)
        · exact .inr (.inl h)
        · exact .inl h
        · exact .inr (.inr h)
      · rintro (h | h | h)
        · exact .inr (.inl h)
        · exact .inl h
        · exact .inr (.inr h)
theorem length_dins (x : Nm × Nat) : ∀ l : Dir, (dins x l).length = l.length + 1
  | [] => rfl
  | y :: r => by
    unfold dins
    split
    · rfl
    · simp [length_dins x r]
theorem mem_ddel {l : Dir} {n : Nm} {p : Nm × Nat} : p ∈ ddel l n ↔ p ∈ l ∧ p.1 ≠ n := by
  unfold ddel
  rw [List.mem_filter]
  simp
theorem mem_dput {l : Dir} {n : Nm} {f : Nat} {p : Nm × Nat} : p ∈ dput l n f ↔ p = (n, f) ∨ (p ∈ l ∧ p.1 ≠ n) := by
  unfold dput
  rw [mem_dins, mem_ddel]
theorem length_ddel (l : Dir) (n : Nm) : (ddel l n).length ≤ l.length := List.length_filter_le _ _
theorem length_dput (l : Dir) (n : Nm) (f : Nat) : (dput l n f).length ≤ l.length + 1 := by
  unfold dput
  rw [length_dins]
  have := length_ddel l n
  omega
theorem Ris.del {l : Dir} (h : Ris l) (n : Nm) : Ris (ddel l n) := h.filter _
theorem ris_ins {x : Nm × Nat} : ∀ {l : Dir}, Ris l → (∀ p ∈ l, p.1 ≠ x.1) → Ris (dins x l)
  | [], _, _ => by simp [dins, Ris]
  | y :: r, h, hn => by
    obtain ⟨h1, h2⟩ := List.pairwise_cons.1 h
    unfold dins
    split
    · rename_i hb
      refine List.pairwise_cons.2 ⟨fun p hp => ?_, h⟩
      rcases List.mem_cons.1 hp with rfl | hp
      · exact hb
      · exact WideShapes.bytes_trans _ _ _ hb (h1 p hp)
    · rename_i hb
      have hyx : bytesBefore y.1 x.1 = true := by
        rcases WideAt.bytes_total y.1 x.1 (hn y (by simp)) with h | h
        · exact h
        · exact absurd h hb
      refine List.pairwise_cons.2 ⟨fun p hp => ?_, ris_ins h2 (fun p hp => hn p (by simp [hp]))⟩
      rcases (mem_dins x p r).1 hp with rfl | hp
      · exact hyx
      · exact h1 p hp
theorem Ris.put {l : Dir} (h : Ris l) (n : Nm) (f : Nat) : Ris (dput l n f) := ris_ins (h.del n) (fun _ hp => (mem_ddel.1 hp).2)
theorem mem_of_dfind {l : Dir} {n : Nm} {b : Nat} (h : dfind l n = some b) : (n, b) ∈ l := by
  unfold dfind at h
  cases hf : l.find? (fun p => p.1 == n) with
  | none => rw [hf] at h; cases h
  | some p =>
    rw [hf] at h
    have h1 := List.mem_of_find?_eq_some hf
    have h2 := List.find?_some hf
    simp at h h2
    obtain ⟨x, y⟩ := p
    simp at h h2
    subst h h2
    exact h1
theorem dfind_none {l : Dir} {n : Nm} (h : dfind l n = none) : ∀ p ∈ l, p.1 ≠ n := by
  unfold dfind at h
  rw [Option.map_eq_none_iff, List.find?_eq_none] at h
  intro p hp
  simpa using h p hp
theorem dfind_of_mem {l : Dir} (hr : (l.map (·.1)).Nodup) {n : Nm} {b : Nat} (h : (n, b) ∈ l) : dfind l n = some b := by
  cases hf : dfind l n with
  | none => exact absurd rfl (dfind_none hf _ h)
  | some c =>
    have h2 := mem_of_dfind hf
    have : (n, b) = (n, c) := by
      refine Classical.byContradiction fun hne => ?_
      have hp := List.pairwise_map.1 hr
      rw [List.pairwise_iff_forall_sublist] at hp
      rcases List.mem_iff_append.1 h with ⟨s, t, rfl⟩
      rcases List.mem_append.1 h2 with h2 | h2
      · rw [List.map_append, List.nodup_append] at hr
        exact hr.2.2 n (List.mem_map.2 ⟨_, h2, rfl⟩) n (by simp) rfl
      · rcases List.mem_cons.1 h2 with e | h2
        · exact hne e.symm
        · rw [List.map_append, List.nodup_append] at hr
          have := hr.2.1
          rw [List.map_cons, List.nodup_cons] at this
          exact this.1 (List.mem_map.2 ⟨_, h2, rfl⟩)
    simp at this
    rw [this]

/-! ### Names -/
def sign (c : UInt8) : Bool := decide (33 ≤ c.toNat) && decide (c.toNat ≤ 126) && !(c.toNat == 47)
def nameB (n : Nm) : Bool := decide (1 ≤ n.length) && decide (n.length ≤ 40) && n.all sign

/-! ### Changes -/
/-- kind 0: made, with a file; 1: removed; 2: moved. -/
structure PC where
  kind : Nat
  nm : Nm
  to : Nm
  file : Nat
def pdo (d : Dir) (c : PC) : Dir :=
  if c.kind = 0 then dput d c.nm c.file else if c.kind = 1 then ddel d c.nm else dput (ddel d c.nm) c.to ((dfind d c.nm).getD 0)
def okc (d : Dir) (c : PC) : Prop := c.kind ≤ 2 ∧ (c.kind = 2 → (dfind d c.nm).isSome = true)
def okcs : Dir → List PC → Prop
  | _, [] => True
  | d, c :: r => okc d c ∧ okcs (pdo d c) r
theorem okcs_append (d : Dir) : ∀ (l m : List PC), okcs d (l ++ m) ↔ okcs d l ∧ okcs (l.foldl pdo d) m := by
  intro l
  induction l generalizing d with
  | nil => intro m; simp [okcs]
  | cons c r ih => intro m; simp only [List.cons_append, okcs, ih, List.foldl_cons, and_assoc]
theorem length_pdo (d : Dir) (c : PC) : (pdo d c).length ≤ d.length + 1 := by
  unfold pdo
  split
  · exact length_dput _ _ _
  · split
    · have := length_ddel d c.nm; omega
    · have := length_dput (ddel d c.nm) c.to ((dfind d c.nm).getD 0)
      have := length_ddel d c.nm
      omega
theorem Ris.pdo {d : Dir} (h : Ris d) (c : PC) : Ris (pdo d c) := by
  unfold YtmiipifhbliamaaGreat.Sim.pdo
  split
  · exact h.put _ _
  · split
    · exact h.del _
    · exact (h.del _).put _ _
theorem Ris.fold {d : Dir} (h : Ris d) : ∀ (l : List PC), Ris (l.foldl YtmiipifhbliamaaGreat.Sim.pdo d) := by
  intro l
  induction l generalizing d with
  | nil => exact h
  | cons c r ih => exact ih (h.pdo c)

/-! ### The program's state -/
structure PS where
  room : Nat
  made : Bool
  seen : Dir
  safe : Dir
  chg : List PC
  down : Bool
  armed : Bool
  left : Nat
  steps : Nat
  files : Nat → Option Fl

def dead (p : PS) : Bool := p.armed && p.left == 0
def fall (p : PS) : PS := { p with down := true }
def tick (p : PS) : PS := { p with left := if p.armed then p.left - 1 else p.left, steps := p.steps + 1 }
/-- A step: what is done, and the fault. -/
def stp (p : PS) (g : PS → PS) : Nat × PS := if dead p then (12, fall p) else (0, g (tick p))
def setF (b : Nat) (f : Fl) (p : PS) : PS := { p with files := fun x => if x = b then some f else p.files x }
def chgd (c : PC) (p : PS) : PS := { p with made := true, seen := pdo p.seen c, chg := p.chg ++ [c] }
def settle (k : Nat) (p : PS) : PS := { p with safe := (p.chg.take k).foldl pdo p.safe, chg := [] }
def fileAt (p : PS) (b : Nat) : Fl := (p.files b).getD ⟨[], 0⟩
def used (p : PS) : Nat := (p.seen.map fun e => (fileAt p e.2).b.length).sum
def wrongs (p : PS) (l : List Nm) : Nat := if p.down then 12 else if l.all nameB then 0 else 10

def pCreate (n : Nm) (b : Nat) (p : PS) : Nat × PS :=
  if wrongs p [n] ≠ 0 then (wrongs p [n], p) else if (dfind p.seen n).isSome then (6, p) else stp p (fun q => chgd ⟨0, n, [], b⟩ (setF b ⟨[], 0⟩ q))
/-- The fault of a name that must be there. -/
def finds (p : PS) (n : Nm) : Nat := if wrongs p [n] ≠ 0 then wrongs p [n] else if (dfind p.seen n).isSome then 0 else 5
def blockOf (p : PS) (n : Nm) : Nat := (dfind p.seen n).getD 0
def pAppend (n : Nm) (bs : List Nat) (p : PS) : Nat × PS :=
  if finds p n ≠ 0 then (finds p n, p) else if used p + bs.length > p.room then (11, p)
  else stp p (setF (blockOf p n) ⟨(fileAt p (blockOf p n)).b ++ bs, (fileAt p (blockOf p n)).safe⟩)
def pBytes (n : Nm) (p : PS) : List Nat := if finds p n ≠ 0 then [] else (fileAt p (blockOf p n)).b
def pRename (n t : Nm) (p : PS) : Nat × PS :=
  if wrongs p [n, t] ≠ 0 then (wrongs p [n, t], p) else if (dfind p.seen n).isSome then stp p (chgd ⟨2, n, t, 0⟩) else (5, p)
def pRemove (n : Nm) (p : PS) : Nat × PS := if finds p n ≠ 0 then (finds p n, p) else stp p (chgd ⟨1, n, [], 0⟩)
def pFsync (n : Nm) (p : PS) : Nat × PS :=
  if finds p n ≠ 0 then (finds p n, p) else stp p (setF (blockOf p n) ⟨(fileAt p (blockOf p n)).b, (fileAt p (blockOf p n)).b.length⟩)
def pSyncDir (p : PS) : Nat × PS := if wrongs p [] ≠ 0 then (wrongs p [], p) else stp p (settle p.chg.length)
def pArm (k : Int) (p : PS) : Nat × PS := if wrongs p [] ≠ 0 then (wrongs p [], p) else if k < 0 then (1, p) else (0, { p with armed := true, left := k.toNat })
/-- What a file keeps. -/
def lose (cut : Int) (f : Fl) : Fl :=
  let b := f.b.take (f.safe + min (max cut 0).toNat (f.b.length - f.safe))
  ⟨b, b.length⟩
def loses : Dir → Nat → List Int → PS → PS
  | [], _, _, p => p
  | e :: r, i, cuts, p => loses r (i + 1) cuts (setF e.2 (lose (cuts.getD i 0) (fileAt p e.2)) p)
def pUp (k : Int) (cuts : List Int) (p : PS) : PS :=
  let q := settle (min (max k 0).toNat p.chg.length) p
  let r := loses q.safe 0 cuts q
  { r with seen := r.safe, down := false, armed := false, left := 0 }
def pFlip (n : Nm) (at' : Int) (by' : Nat) (p : PS) : Nat × PS :=
  if finds p n ≠ 0 then (finds p n, p) else if at' < 0 ∨ (fileAt p (blockOf p n)).b.length ≤ at' then (1, p)
  else (0, setF (blockOf p n) ⟨(fileAt p (blockOf p n)).b.set at'.toNat ((fileAt p (blockOf p n)).b.getD at'.toNat 0 ^^^ by'), (fileAt p (blockOf p n)).safe⟩ p)
def pList (p : PS) : List Nm := if p.down then [] else p.seen.map (·.1)

end Go.Proofs.YtmiipifhbliamaaGreat.Sim
