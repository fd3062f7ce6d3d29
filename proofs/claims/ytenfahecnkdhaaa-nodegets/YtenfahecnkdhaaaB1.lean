/- Of the proof: the texts SimPlain, SimMem, SgStabM, NdRow, NdSwap, NdRot, TrMem, TrPlain, TrText, TrRow, TrPath, TrSplit, TrLess, NdCmp, NdIns, one behind the other. -/
import Derived.Sort.KeysCollected
import Derived.Maps.Ext
import Derived.Test.YtenfahecnkdhaaaRows
import Derived.WalkKit
import Derived.WalkSpells
import Derived.WalkLawsBesides
import Derived.Laws.AppendOwnNone
import Derived.Laws.NewBlocks
import Derived.Laws.LoneSync
import Derived.RegionCalls
import Derived.Deep.QuietTactic
import Derived.BigQuiet
import Derived.Maps.AppendAt
import Derived.Maps.OwnSet
import Derived.OneCell
import Derived.Lib.AppendZerosOnto
import Derived.ProofKit
import Derived.Deep.MidRow
import Derived.Lib.BytesEntry
import Derived.Deep.RegionHeld3
import Derived.Lib.Split
import Derived.Lib.SplitLaws
import Derived.Lib.LastIndexByte
import Derived.Lib.IndexBytes
import Derived.Deep.LoopGhost
import Derived.Test.YtenfahecnkdhaaaTrShelf
import Derived.Deep.RegionWith
import Derived.BigRegion
section
/-
  The files of the document as data: names, directories, changes, what each call makes of them.
-/
namespace Go.Proofs.Ytenfahecnkdhaaa.Sim

abbrev Nm := List UInt8
/-- A directory: names, each with a file (a block, or a number). -/
abbrev Dir := List (Nm × Nat)

def ddel (l : Dir) (n : Nm) : Dir := l.filter (fun p => !(p.1 == n))
def dins (x : Nm × Nat) : Dir → Dir
  | [] => [x]
  | y :: r => if bytesBefore x.1 y.1 then x :: y :: r else y :: dins x r
def dput (l : Dir) (n : Nm) (f : Nat) : Dir := dins (n, f) (ddel l n)

/-! ### Rising names -/
def Ris (l : Dir) : Prop := l.Pairwise (fun p q => bytesBefore p.1 q.1 = true)
theorem mem_dins (x p : Nm × Nat) : ∀ l : Dir, p ∈ dins x l ↔ p = x ∨ p ∈ l
  | [] => by simp [dins]
  | y :: r => by
    unfold dins
    split
    · simp
    · simp only [List.mem_cons, mem_dins x p r]
      constructor
      · rintro (h | h | h)
        · exact .inr (.inl h)
        · exact .inl h
        · exact .inr (.inr h)
      · rintro (h | h | h)
        · exact .inr (.inl h)
        · exact .inl h
        · exact .inr (.inr h)
theorem mem_ddel {l : Dir} {n : Nm} {p : Nm × Nat} : p ∈ ddel l n ↔ p ∈ l ∧ p.1 ≠ n := by
  unfold ddel
  rw [List.mem_filter]
  simp
theorem Ris.del {l : Dir} (h : Ris l) (n : Nm) : Ris (ddel l n) := h.filter _
theorem ris_ins {x : Nm × Nat} : ∀ {l : Dir}, Ris l → (∀ p ∈ l, p.1 ≠ x.1) → Ris (dins x l)
  | [], _, _ => by simp [dins, Ris]
  | y :: r, h, hn => by
    obtain ⟨h1, h2⟩ := List.pairwise_cons.1 h
    unfold dins
    split
    · rename_i hb
      refine List.pairwise_cons.2 ⟨fun p hp => ?_, h⟩
      rcases List.mem_cons.1 hp with rfl | hp
      · exact hb
      · exact WideShapes.bytes_trans _ _ _ hb (h1 p hp)
    · rename_i hb
      have hyx : bytesBefore y.1 x.1 = true := by
        rcases WideAt.bytes_total y.1 x.1 (hn y (by simp)) with h | h
        · exact h
        · exact absurd h hb
      refine List.pairwise_cons.2 ⟨fun p hp => ?_, ris_ins h2 (fun p hp => hn p (by simp [hp]))⟩
      rcases (mem_dins x p r).1 hp with rfl | hp
      · exact hyx
      · exact h1 p hp
theorem Ris.put {l : Dir} (h : Ris l) (n : Nm) (f : Nat) : Ris (dput l n f) := ris_ins (h.del n) (fun _ hp => (mem_ddel.1 hp).2)
end Go.Proofs.Ytenfahecnkdhaaa.Sim
end

section
/-
  What stays as it was; bytes, rows and structs in memory.
-/
namespace Go.Proofs.Ytenfahecnkdhaaa.Sim
open Go.RowKit

theorem hid {p : Prop} (h : p) : Hid p := h
theorem addr_add (g o i : Nat) : (⟨g, o, none⟩ : Addr).add i = ⟨g, o + i, none⟩ := by unfold Addr.add; split <;> simp_all
theorem cell_other {w : World} {b i j : Nat} {x : Value} (h : j ≠ i) : (w.setCell ⟨b, i, none⟩ x).cell? ⟨b, j, none⟩ = w.cell? ⟨b, j, none⟩ := World.cell?_setCell_other _ _ _ _ (by simp only [ne_eq, Addr.mk.injEq, true_and, and_true]; omega)

/-! ### What stays as it was -/
/-- All blocks that are not in L hold what they held. -/
structure Kp (L : Nat → Prop) (w w' : World) : Prop where
  os : w'.os = w.os
  tape : w'.tape = w.tape
  output : w'.output = w.output
  size : w.heap.size ≤ w'.heap.size
  block : ∀ k, k < w.heap.size → ¬ L k → w'.heap[k]? = w.heap[k]?

def No : Nat → Prop := fun _ => False
theorem Kp.refl (L : Nat → Prop) (w : World) : Kp L w w := ⟨rfl, rfl, rfl, Nat.le_refl _, fun _ _ _ => rfl⟩
/-- One behind the other: what the second one writes is the first one's, or new. -/
theorem Kp.trans {L M : Nat → Prop} {u v w : World} (h : Kp L u v) (k : Kp M v w) (hm : ∀ x, M x → L x ∨ u.heap.size ≤ x) : Kp L u w :=
  ⟨k.os.trans h.os, k.tape.trans h.tape, k.output.trans h.output, Nat.le_trans h.size k.size, fun i h1 h2 => (k.block i (Nat.lt_of_lt_of_le h1 h.size) (fun hi => by
    rcases hm i hi with h | h
    · exact h2 h
    · omega)).trans (h.block i h1 h2)⟩
theorem Kp.mono {L M : Nat → Prop} {u w : World} (h : Kp L u w) (hs : ∀ x, L x → M x ∨ u.heap.size ≤ x) : Kp M u w := (Kp.refl M u).trans h hs
theorem Kp.ofNo {M : Nat → Prop} {u w : World} (h : Kp No u w) : Kp M u w := h.mono (fun _ hx => hx.elim)
theorem Kp.andNone {L : Nat → Prop} {u v w : World} (h : Kp L u v) (k : Kp No v w) : Kp L u w := h.trans k (fun _ hx => hx.elim)
theorem Kp.below {L : Nat → Prop} {u w : World} (h : Below u.heap.size u w) : Kp L u w := ⟨h.os, h.tape, h.output, h.size, fun k hk _ => h.block k hk⟩
theorem Kp.alloc {L : Nat → Prop} {u w : World} (h : Kp L u w) (o : Obj) : Kp L u (w.alloc o) := h.trans (M := No) (Kp.below ((Below.refl _ _).alloc (Nat.le_refl _) _)) (fun _ hx => hx.elim)
theorem Kp.setCell {L : Nat → Prop} {u w : World} (h : Kp L u w) {p : Addr} (hp : L p.block ∨ u.heap.size ≤ p.block) (x : Value) : Kp L u (w.setCell p x) :=
  ⟨h.os, h.tape, h.output, by simpa using h.size, fun k h1 h2 => (Below.heap_setCell _ _ _ _ (by
    intro e
    rcases hp with hp | hp
    · exact h2 (e ▸ hp)
    · omega)).trans (h.block k h1 h2)⟩
theorem Kp.drew {L : Nat → Prop} {u w : World} (h : Kp L u w) : Kp L u w.drew := ⟨h.os, h.tape, h.output, h.size, h.block⟩
theorem Kp.drewN {L : Nat → Prop} {u w : World} (h : Kp L u w) (q : Nat) : Kp L u (w.drewN q) := h.trans (M := No) (Kp.below (below_drewN (Below.refl _ _) q)) (fun _ hx => hx.elim)
theorem Kp.grown {L : Nat → Prop} {u w w' : World} {row : Option Nat} (h : Kp L u w) (hg : w.grownBy w' row) (hr : ∀ x, row = some x → L x ∨ u.heap.size ≤ x) : Kp L u w' :=
  ⟨hg.os.trans h.os, hg.tape.trans h.tape, hg.output.trans h.output, Nat.le_trans h.size hg.size, fun k h1 h2 => (hg.block k (Nat.lt_of_lt_of_le h1 h.size) (fun e => by
    rcases hr k e.symm with h | h
    · exact h2 h
    · omega)).trans (h.block k h1 h2)⟩
theorem Kp.cell {L : Nat → Prop} {w w' : World} (h : Kp L w w') {p : Addr} (h1 : p.block < w.heap.size) (h2 : ¬ L p.block) : w'.cell? p = w.cell? p := World.cell?_of_block (w := w) (h.block p.block h1 h2)
theorem Kp.frozen {L : Nat → Prop} {w w' : World} (h : Kp L w w') {p : Addr} (h1 : p.block < w.heap.size) (h2 : ¬ L p.block) : w'.frozen? p = w.frozen? p := World.frozen?_of_block (w := w) (h.block p.block h1 h2)
theorem Kp.toBelow {L : Nat → Prop} {u w : World} (k : Kp L u w) (hb : ∀ x, L x → u.heap.size ≤ x) : Below u.heap.size u w :=
  ⟨k.os, k.tape, k.output, k.size, fun i hi => k.block i hi (fun hm => by have := hb i hm; omega)⟩
theorem Kp.toBelow' {u w : World} (k : Kp No u w) : Below u.heap.size u w := k.toBelow (fun _ h => h.elim)
/-- .. of a world ahead. -/
theorem Kp.under {L : Nat → Prop} {B : Nat} {u v w : World} (h : Below B u v) (k : Kp L v w) (hb : ∀ x, L x → B ≤ x) (hB : B ≤ v.heap.size) : Below B u w :=
  h.trans ⟨k.os, k.tape, k.output, k.size, fun i hi => k.block i (by omega) (fun hm => by have := hb i hm; omega)⟩

/-! ### A block of cells, whole -/
def Blk (w : World) (b : Nat) (t : TypeId) (cs : List Value) : Prop := w.heap[b]? = some (.cells cs.toArray t (0, 0))
theorem Blk.lt {w : World} {b : Nat} {t : TypeId} {cs : List Value} (h : Blk w b t cs) : b < w.heap.size := (Array.getElem?_eq_some_iff.1 h).1
theorem Blk.kp {L : Nat → Prop} {w w' : World} {b : Nat} {t : TypeId} {cs : List Value} (h : Blk w b t cs) (k : Kp L w w') (hb : ¬ L b) : Blk w' b t cs := (k.block b h.lt hb).trans h
theorem Blk.cell {w : World} {b : Nat} {t : TypeId} {cs : List Value} (h : Blk w b t cs) (j : Nat) : w.cell? ⟨b, j, none⟩ = cs[j]? := by
  unfold Blk at h
  simp [World.cell?, h]
theorem Blk.frozen {w : World} {b : Nat} {t : TypeId} {cs : List Value} (h : Blk w b t cs) (j : Nat) : w.frozen? ⟨b, j, none⟩ = false := by
  unfold Blk at h
  simp [World.frozen?, h]
theorem Blk.setCell {w : World} {b : Nat} {t : TypeId} {cs : List Value} (h : Blk w b t cs) (j : Nat) (x : Value) : Blk (w.setCell ⟨b, j, none⟩ x) b t (cs.set j x) := by
  unfold Blk at h ⊢
  simp [World.setCell, Array.getElem?_modify, h]

/-! ### Bytes that are read -/
/-- Bytes as cells. -/
def cl (xs : List Nat) : List Value := xs.map fun x : Nat => .int .u8 (x : Int)
theorem cl_length (xs : List Nat) : (cl xs).length = xs.length := by simp [cl]
theorem cl_append (xs ys : List Nat) : cl (xs ++ ys) = cl xs ++ cl ys := by simp [cl]
theorem cl_at (xs : List Nat) (i : Nat) (h : i < xs.length) : (cl xs)[i]? = some (.int .u8 (xs.getD i 0 : Nat)) := by simp [cl, List.getElem?_eq_getElem h]
theorem cl_one (xs : List Nat) : ∀ u ∈ cl xs, u.oneCell' = true := by intro u hu; obtain ⟨x, _, rfl⟩ := List.mem_map.1 hu; rfl

/-- v is a slice of the bytes bs, in a block of which P. -/
def ByP (P : Nat → Prop) (w : World) (v : Value) (bs : List Nat) : Prop :=
  ∃ a cap, v = .slice a bs.length cap ∧ bs.length ≤ cap ∧ cap ≤ maxLen ∧ (a = none → bs = [] ∧ cap = 0) ∧ bs.length ≤ 140737488355328 ∧ (∀ x ∈ bs, x < 256) ∧
    (bs ≠ [] → ∃ g o, a = some ⟨g, o, none⟩ ∧ P g ∧ g < w.heap.size ∧ ∀ i, i < bs.length → w.cell? ⟨g, o + i, none⟩ = some (.int .u8 (bs.getD i 0 : Nat)))

theorem ByP.nil (P : Nat → Prop) (w : World) : ByP P w (.slice none 0 0) [] := ⟨_, 0, rfl, Nat.le_refl _, Nat.zero_le _, fun _ => ⟨rfl, rfl⟩, by simp, by simp, fun h => absurd rfl h⟩
theorem ByP.mono {P Q : Nat → Prop} {w : World} {v : Value} {bs : List Nat} (h : ByP P w v bs) (hm : ∀ x, x < w.heap.size → P x → Q x) : ByP Q w v bs := by
  obtain ⟨a, cap, h1, h2, h3, h4, h5, h6, h7⟩ := h
  refine ⟨a, cap, h1, h2, h3, h4, h5, h6, fun hne => ?_⟩
  obtain ⟨g, o, e, hgb, hg, hc⟩ := h7 hne
  exact ⟨g, o, e, hm g hg hgb, hg, hc⟩
theorem ByP.kp {P L : Nat → Prop} {w w' : World} {v : Value} {bs : List Nat} (h : ByP P w v bs) (k : Kp L w w') (hm : ∀ x, L x → x < w.heap.size → ¬ P x) : ByP P w' v bs := by
  obtain ⟨a, cap, h1, h2, h3, h4, h5, h6, h7⟩ := h
  refine ⟨a, cap, h1, h2, h3, h4, h5, h6, fun hne => ?_⟩
  obtain ⟨g, o, e, hgb, hg, hc⟩ := h7 hne
  exact ⟨g, o, e, hgb, Nat.lt_of_lt_of_le hg k.size, fun i hi => (k.cell (p := ⟨g, o + i, none⟩) hg (fun hx => hm g hx hg hgb)).trans (hc i hi)⟩
theorem ByP.kept {P : Nat → Prop} {w w' : World} {v : Value} {bs : List Nat} (h : ByP P w v bs) (k : Kp No w w') : ByP P w' v bs := h.kp k (fun _ hx => hx.elim)
/-! ### Rows of the call's own -/
/-- v is a row of the call's own, of n elements of the type e, each of sz cells. -/
def Row (w : World) (e : TypeId) (sz : Nat) (v : Value) (n : Nat) (xs : List Value) : Prop := w.ownsRow 0 e sz v n xs

theorem Row.nil (w : World) (e : TypeId) (sz : Nat) : Row w e sz (.slice none 0 0) 0 [] := World.ownsRow_nil _ _ _ _
theorem Row.kp {L : Nat → Prop} {w w' : World} {e : TypeId} {sz n : Nat} {v : Value} {xs : List Value} (h : Row w e sz v n xs) (k : Kp L w w') (hv : ∀ x, v.ownBlock = some x → ¬ L x) : Row w' e sz v n xs := by
  refine ⟨h.1, ?_⟩
  rcases h.2 with hn | ⟨g, cap, cur, rfl, hb, hgg, rest⟩
  · exact .inl hn
  · exact .inr ⟨g, cap, cur, rfl, hb, by rw [k.block g (Array.getElem?_eq_some_iff.1 hgg).1 (hv g rfl)]; exact hgg, rest⟩
theorem Row.kept {w w' : World} {e : TypeId} {sz n : Nat} {v : Value} {xs : List Value} (h : Row w e sz v n xs) (k : Kp No w w') : Row w' e sz v n xs := h.kp k (fun _ _ hx => hx.elim)
theorem Row.lt {w : World} {e : TypeId} {sz n : Nat} {v : Value} {xs : List Value} (h : Row w e sz v n xs) : ∀ x, v.ownBlock = some x → x < w.heap.size := fun x hx => (World.ownsRow.lt h x hx).2
theorem Row.shape {w : World} {e : TypeId} {sz n : Nat} {v : Value} {xs : List Value} (h : Row w e sz v n xs) : ∃ a cap, v = .slice a n cap ∧ n ≤ cap ∧ cap ≤ maxLen ∧ (a = none → n = 0 ∧ cap = 0) ∧ ∀ x, a = some x → x.spot = none ∧ x.off = 0 := by
  rcases h.2 with ⟨rfl, h0⟩ | ⟨g, cap, cur, rfl, hg, hh, hn, hc, hs, ht⟩
  · subst h0
    exact ⟨none, 0, rfl, Nat.le_refl _, Nat.zero_le _, fun _ => ⟨rfl, rfl⟩, by simp⟩
  · exact ⟨_, cap, rfl, hn, hc, by simp, fun x hx => by cases hx; exact ⟨rfl, rfl⟩⟩
theorem Row.cellAt {w : World} {e : TypeId} {sz n g cap : Nat} {xs : List Value} (h : Row w e sz (.slice (some ⟨g, 0, none⟩) n cap) n xs) (i : Nat) (hi : i < n * sz) : w.cell? ⟨g, i, none⟩ = xs[i]? := by
  obtain ⟨hl, h2⟩ := h
  have hx : xs[i]? = some xs[i] := List.getElem?_eq_getElem (by omega)
  have h3 := World.ownsRow.cells (w := w) (base := 0) (e := e) (size := sz) (v := .slice (some ⟨g, 0, none⟩) n cap) (n := n) (xs := xs) ⟨hl, h2⟩ (g := g) rfl i xs[i] hx
  rw [addr_add, Nat.zero_add] at h3
  rw [h3, hx]

/-- The values of a slice that is read. -/
def Src (w : World) (v : Value) (m sz : Nat) (ys : List Value) : Prop :=
  (v = .slice none 0 0 ∧ m = 0 ∧ ys = []) ∨ ∃ ad c, v = .slice (some ad) m c ∧ ys.length = m * sz ∧ (∀ j u, ys[j]? = some u → w.cell? (ad.add j) = some u) ∧ ∀ u ∈ ys, u.oneCell' = true

/-- append(v, x...), v of the call's own. -/
theorem app_row {ops : Array Oper} {rest : List Oper} {o : Oper} {a : Act} {Q : Exit → Act → World → Prop} (w : World) (hgd : o.guard = none) (s x : Operand) (t e : TypeId) (z : Value) (sz by' : Nat)
    (ho : o.op = .call { callee := .builtin .append, args := #[s, x], argTypes := #[t, t] }) (ht : Try.prog.underlying t = some (.slice e)) (hin : (Try.prog.info? e).map (fun i => (i.zero, i.size, i.bytes)) = some (some z, sz, by'))
    (hz1 : z.cells.size = sz) (hsz : 0 < sz) (v vx : Value) (n m : Nat) (xs ys : List Value) (hs : a.eval s = v) (hx : a.eval x = vx)
    (hown : Row w e sz v n xs) (hy : Src w vx m sz ys) (hlen : n + m ≤ 20000000) (hby : by' ≤ 1000)
    (h : ∀ ad cap w', Row w' e sz (.slice ad (n + m) cap) (n + m) (xs ++ ys) → w.grownBy w' v.ownBlock → ((Value.slice ad (n + m) cap).ownBlock = v.ownBlock ∨ (Value.slice ad (n + m) cap).ownBlock = some w.heap.size) → wpList Try.prog ops Q rest (a.put o.dst (.slice ad (n + m) cap)) w') : wpList Try.prog ops Q (o :: rest) a w := by
  obtain ⟨i0, hi, hz0, hz1', hz2⟩ := info_parts hin
  rcases hy with ⟨rfl, rfl, rfl⟩ | ⟨ad, c, rfl, hl, hc, h1⟩
  · refine wpList_append_own_none hgd s x t ho 0 e i0 sz ht hi v n xs hs hown hx ?_
    obtain ⟨ad, cap, rfl, _⟩ := hown.shape
    exact h ad cap w (by rw [List.append_nil]; exact hown) ⟨rfl, rfl, rfl, Nat.le_refl _, fun _ _ _ => rfl⟩ (.inl rfl)
  · refine wpList_append_own_at (P := Try.prog) w hgd s x t ho 0 e i0 z sz by' ht hi hz0 hz1' hz2 hz1 hsz v n xs hs hown ad m c ys hx hl hc h1 (by unfold maxLen; omega) ?_ (Nat.zero_le _) ?_
    · have : (n + m) * by' ≤ 20000000 * 1000 := Nat.mul_le_mul hlen hby
      omega
    · intro v' w' h8 h9 _ h10
      have h8' : Row w' e sz v' (n + m) (xs ++ ys) := h8
      obtain ⟨ad', cap', rfl, _⟩ := h8'.shape
      exact h ad' cap' w' h8 h9 h10

/-- A literal of one element. -/
theorem Src.one (w : World) (us : List Value) (sz : Nat) (t : TypeId) (hl : us.length = sz) (h1 : ∀ u ∈ us, u.oneCell' = true) : Src (w.alloc (.cells us.toArray t)) (.slice (some ⟨w.heap.size, 0, none⟩) 1 1) 1 sz us :=
  .inr ⟨_, 1, rfl, by omega, fun j x hj => by
    rw [addr_add, World.cell?_alloc_at _ _ _ _ rfl]
    simpa using hj, h1⟩

/-! ### Bytes of the call's own -/
/-- v is a row of the call's own, of the bytes xs. -/
def OwnB (w : World) (v : Value) (xs : List Nat) : Prop := Row w 5 1 v xs.length (cl xs)
theorem OwnB.row {w : World} {v : Value} {xs : List Nat} (h : OwnB w v xs) : Row w 5 1 v xs.length (cl xs) := h
theorem OwnB.nil (w : World) : OwnB w (.slice none 0 0) [] := Row.nil _ _ _
theorem OwnB.shape {w : World} {v : Value} {xs : List Nat} (h : OwnB w v xs) : ∃ a cap, v = .slice a xs.length cap ∧ xs.length ≤ cap ∧ cap ≤ maxLen ∧ (a = none → xs = [] ∧ cap = 0) := by
  obtain ⟨a, cap, h1, h2, h3, h4, _⟩ := h.row.shape
  exact ⟨a, cap, h1, h2, h3, fun e => ⟨List.length_eq_zero_iff.1 (h4 e).1, (h4 e).2⟩⟩
theorem ByP.src {P : Nat → Prop} {w : World} {v : Value} {ys : List Nat} (h : ByP P w v ys) : Src w v ys.length 1 (cl ys) := by
  obtain ⟨a, cap, rfl, h2, h3, h4, h5, h6, h7⟩ := h
  cases a with
  | none =>
    obtain ⟨rfl, rfl⟩ := h4 rfl
    exact .inl ⟨rfl, rfl, rfl⟩
  | some ad =>
    refine .inr ⟨ad, cap, rfl, by rw [cl_length, Nat.mul_one], fun j u hj => ?_, cl_one ys⟩
    have hjn : j < ys.length := by
      have := (List.getElem?_eq_some_iff.1 hj).1
      rwa [cl_length] at this
    obtain ⟨g, o, e, _, hb, hc⟩ := h7 (by intro e; subst e; simp at hjn)
    simp only [Option.some.injEq] at e
    subst e
    rw [addr_add, hc j hjn, ← cl_at ys j hjn]
    exact hj
theorem Try.info5 : (Try.prog.info? 5).map (fun i => (i.zero, i.size, i.bytes)) = some (some (.int .u8 0), 1, 1) := by kernel_rfl
/-- append of bytes. -/
theorem app_bytes {ops : Array Oper} {rest : List Oper} {o : Oper} {a : Act} {Q : Exit → Act → World → Prop} (w : World) (hgd : o.guard = none) (s x : Operand)
    (ho : o.op = .call { callee := .builtin .append, args := #[s, x], argTypes := #[26, 26] }) (v vx : Value) (xs ys : List Nat) (P : Nat → Prop) (hs : a.eval s = v) (hx : a.eval x = vx)
    (hown : OwnB w v xs) (hy : ByP P w vx ys) (hlen : xs.length + ys.length ≤ 20000000)
    (h : ∀ ad cap w', OwnB w' (.slice ad (xs.length + ys.length) cap) (xs ++ ys) → w.grownBy w' v.ownBlock → ((Value.slice ad (xs.length + ys.length) cap).ownBlock = v.ownBlock ∨ (Value.slice ad (xs.length + ys.length) cap).ownBlock = some w.heap.size) → wpList Try.prog ops Q rest (a.put o.dst (.slice ad (xs.length + ys.length) cap)) w') : wpList Try.prog ops Q (o :: rest) a w := by
  refine app_row w hgd s x 26 5 (.int .u8 0) 1 1 ho Try.underlying26 Try.info5 rfl (by decide) v vx xs.length ys.length (cl xs) (cl ys) hs hx hown.row hy.src hlen (by decide) ?_
  intro ad cap w' h1 h2 h3
  exact h ad cap w' (by unfold OwnB; rw [cl_append, List.length_append]; exact h1) h2 h3

theorem Try.nilEq (w : World) (a : Option Addr) (n c n' c' : Nat) : (binOp .eql 26 (.slice a n c) (.slice none n' c')).run Try.prog w = .ok (.bool a.isNone) w :=
  Lib.run_eql_slice_nil w _ _ a n c n' c' Try.underlying26
theorem own_empty (w : World) : OwnB (w.alloc (.cells #[] 5)) (.slice (some ⟨w.heap.size, 0, none⟩) 0 0) [] := World.ownsRow_made w #[] 0 (Nat.zero_le _) (Nat.zero_le _) rfl

set_option maxHeartbeats 1000000 in
/-- bytes.Clone. -/
theorem clone_any {P : Nat → Prop} (v : Value) (bs : List Nat) (w : World) (h : ByP P w v bs) (hl : bs.length ≤ 20000000) :
    Calls Try.prog 47 #[v] w fun e w' => ∃ ad cap, e = .returned (.slice ad bs.length cap) ∧ OwnB w' (.slice ad bs.length cap) bs ∧ (∀ x, (Value.slice ad bs.length cap).ownBlock = some x → w.heap.size ≤ x) ∧ Kp No w w' := by
  have q22 := Try.nilEq
  have H := hid h
  obtain ⟨a, cap, rfl, h2, h3, h4, h5, h6, h7⟩ := h
  clear h6 h7
  cases a with
  | none =>
    obtain ⟨rfl, rfl⟩ := h4 rfl
    go_enter Try.func47, Try.ntmps47
    go_wp2
    go_ret
    exact ⟨_, _, rfl, OwnB.nil _, by simp [Value.ownBlock], Kp.refl _ _⟩
  | some ad =>
    clear h4
    go_enter Try.func47, Try.ntmps47
    go_wp2_with (at_builtin; refine app_bytes _ rfl _ _ rfl (.slice (some ⟨w.heap.size, 0, none⟩) 0 0) _ [] bs P rfl rfl (own_empty w) (H.out.kept ((Kp.refl _ _).alloc _)) (by simpa using hl) ?_; intro ad' cap' w' hown hg hb)
    go_wp2
    go_ret
    rw [List.length_nil, Nat.zero_add] at hown hb
    refine ⟨ad', cap', rfl, by simpa using hown, fun x hx => ?_, ((Kp.refl _ w).alloc _).grown hg (fun x hx => .inr (by simp [Value.ownBlock] at hx; omega))⟩
    rcases hb with hb | hb
    · rw [hb] at hx
      simp [Value.ownBlock] at hx
      omega
    · rw [hb] at hx
      simp at hx
      omega

end Go.Proofs.Ytenfahecnkdhaaa.Sim
end

section
/-
  Plain mathematics of a stable sort: rows of things with keys; inserting, rotating and merging in place keep, of each key, the order.
-/
namespace Go.Proofs.Ytenfahecnkdhaaa.Stb

/-- Keys: bytes. -/
abbrev κ : Type := List Int
section
variable {α : Type} (key : α → κ) (lt : κ → κ → Bool)

/-- A strict order of all keys. -/
structure Ord : Prop where
  irr : ∀ x, lt x x = false
  trans : ∀ x y z, lt x y = true → lt y z = true → lt x z = true
  tot : ∀ x y, x ≠ y → lt x y = true ∨ lt y x = true

/-- Of each key the same, in the same order. -/
def Stab (l m : List α) : Prop := ∀ k, m.filter (fun x => decide (key x = k)) = l.filter (fun x => decide (key x = k))
/-- None stands behind a greater one. -/
def Srt (l : List α) : Prop := l.Pairwise (fun x y => lt (key y) (key x) = false)
/-- All of the first stand ahead of all of the second. -/
def Lts (l m : List α) : Prop := ∀ x ∈ l, ∀ y ∈ m, lt (key x) (key y) = true
/-- None of the second stands ahead of one of the first. -/
def Les (l m : List α) : Prop := ∀ x ∈ l, ∀ y ∈ m, lt (key y) (key x) = false
end

section
variable {α : Type} {key : α → κ} {lt : κ → κ → Bool}

theorem Ord.asym (h : Ord lt) {x y : κ} (hx : lt x y = true) : lt y x = false := by
  cases hy : lt y x with
  | false => rfl
  | true => have := h.trans _ _ _ hx hy; rw [h.irr] at this; cases this
theorem Ord.lt_le (h : Ord lt) {x y z : κ} (h1 : lt x y = true) (h2 : lt z y = false) : lt x z = true := by
  by_cases e : y = z
  · rw [← e]; exact h1
  · rcases h.tot y z e with h3 | h3
    · exact h.trans _ _ _ h1 h3
    · rw [h2] at h3; cases h3
theorem Ord.le_le (h : Ord lt) {x y z : κ} (h1 : lt y x = false) (h2 : lt z y = false) : lt z x = false := by
  cases hz : lt z x with
  | false => rfl
  | true => have := h.lt_le hz h1; rw [h2] at this; cases this

theorem Stab.refl (l : List α) : Stab key l l := fun _ => rfl
theorem Stab.trans {a b c : List α} (h : Stab key a b) (h2 : Stab key b c) : Stab key a c := fun k => (h2 k).trans (h k)
theorem Stab.append {a b c d : List α} (h : Stab key a b) (h2 : Stab key c d) : Stab key (a ++ c) (b ++ d) := fun k => by rw [List.filter_append, List.filter_append, h k, h2 k]
theorem Stab.mem {a b : List α} (h : Stab key a b) (x : α) : x ∈ b ↔ x ∈ a := by
  have h1 := h (key x)
  have e : ∀ l : List α, x ∈ l ↔ x ∈ l.filter (fun y => decide (key y = key x)) := fun l => by rw [List.mem_filter]; simp
  rw [e b, e a, h1]
theorem Stab.length {a b : List α} (h : Stab key a b) : b.length = a.length := by
  induction a generalizing b with
  | nil =>
    cases b with
    | nil => rfl
    | cons x b =>
      have := (h.mem x).1 List.mem_cons_self
      simp at this
  | cons x a ih =>
    have hx : x ∈ b := (h.mem x).2 List.mem_cons_self
    obtain ⟨s, t, e, hns⟩ : ∃ s t, b = s ++ x :: t ∧ ∀ y ∈ s, key y ≠ key x := by
      have hk := h (key x)
      rw [List.filter_cons, if_pos (by simp)] at hk
      have : ∀ (b : List α) (r : List α), b.filter (fun y => decide (key y = key x)) = x :: r → ∃ s t, b = s ++ x :: t ∧ ∀ y ∈ s, key y ≠ key x := by
        intro b
        induction b with
        | nil => intro r hr; simp at hr
        | cons y b ihb =>
          intro r hr
          rw [List.filter_cons] at hr
          by_cases hy : key y = key x
          · rw [if_pos (by simp [hy])] at hr
            simp only [List.cons.injEq] at hr
            exact ⟨[], b, by rw [hr.1]; rfl, fun _ h => by cases h⟩
          · rw [if_neg (by simp [hy])] at hr
            obtain ⟨s, t, e1, e2⟩ := ihb r hr
            refine ⟨y :: s, t, by rw [e1]; rfl, fun z hz => ?_⟩
            rcases List.mem_cons.1 hz with rfl | hz
            · exact hy
            · exact e2 z hz
      exact this b _ hk
    subst e
    have h2 : Stab key a (s ++ t) := fun k => by
      have hk := h k
      rw [List.filter_append, List.filter_cons, List.filter_cons] at hk
      rw [List.filter_append]
      by_cases hxk : key x = k
      · have hs : s.filter (fun y => decide (key y = k)) = [] := List.filter_eq_nil_iff.2 (fun y hy => by simp; rw [← hxk]; exact hns y hy)
        rw [if_pos (by simp [hxk]), if_pos (by simp [hxk]), hs, List.nil_append] at hk
        rw [hs, List.nil_append]
        exact (List.cons.inj hk).2
      · rw [if_neg (by simp [hxk]), if_neg (by simp [hxk])] at hk
        exact hk
    have := ih h2
    simp only [List.length_append, List.length_cons] at this ⊢
    omega
/-- Two that stand side by side, each thing of the second ahead of each of the first, are turned about. -/
theorem Stab.swap {a b : List α} (h : Ord lt) (hl : Lts key lt b a) : Stab key (a ++ b) (b ++ a) := fun k => by
  rw [List.filter_append, List.filter_append]
  by_cases ha : a.filter (fun y => decide (key y = k)) = []
  · rw [ha]; simp
  · have hb : b.filter (fun y => decide (key y = k)) = [] := by
      rw [List.filter_eq_nil_iff]
      intro y hy
      obtain ⟨x, hx1⟩ := List.exists_mem_of_ne_nil _ ha
      obtain ⟨hx, hxk⟩ := List.mem_filter.1 hx1
      simp only [decide_eq_true_eq] at hxk
      intro hyk
      have h1 := hl y hy x hx
      simp only [decide_eq_true_eq] at hyk
      rw [hyk, hxk, h.irr] at h1
      cases h1
    rw [hb]; simp

theorem Srt.append {a b : List α} : Srt key lt (a ++ b) ↔ Srt key lt a ∧ Srt key lt b ∧ Les key lt a b := by
  unfold Srt Les
  rw [List.pairwise_append]
/-- Sorted and stable: there is one such row alone. -/
theorem srt_unique (h : Ord lt) : ∀ {a b c : List α}, Stab key a b → Stab key a c → Srt key lt b → Srt key lt c → b = c := by
  intro a b
  induction b generalizing a with
  | nil =>
    intro c h1 h2 _ _
    have e1 := h1.length
    have e2 := h2.length
    cases c with
    | nil => rfl
    | cons x c => simp at e1 e2; omega
  | cons x b ih =>
    intro c h1 h2 s1 s2
    cases c with
    | nil =>
      have e1 := h1.length
      have e2 := h2.length
      simp at e1 e2; omega
    | cons y c =>
      have bc : Stab key (x :: b) (y :: c) := fun k => (h2 k).trans (h1 k).symm
      have hxc : x ∈ y :: c := (bc.mem x).2 List.mem_cons_self
      have hyb : y ∈ x :: b := (bc.mem y).1 List.mem_cons_self
      have k1 : lt (key x) (key y) = false := by
        rcases List.mem_cons.1 hxc with e | e
        · rw [e]; exact h.irr _
        · exact (List.pairwise_cons.1 s2).1 x e
      have k2 : lt (key y) (key x) = false := by
        rcases List.mem_cons.1 hyb with e | e
        · rw [e]; exact h.irr _
        · exact (List.pairwise_cons.1 s1).1 y e
      have hk : key x = key y := by
        refine Classical.byContradiction fun hn => ?_
        rcases h.tot _ _ hn with e | e
        · rw [k1] at e; cases e
        · rw [k2] at e; cases e
      have hf := bc (key x)
      rw [List.filter_cons, List.filter_cons, if_pos (by simp [hk]), if_pos (by simp)] at hf
      obtain ⟨e, _⟩ := List.cons.inj hf
      subst e
      have hb : Stab key b c := fun k => by
        have hf := bc k
        rw [List.filter_cons, List.filter_cons] at hf
        split at hf
        · exact (List.cons.inj hf).2
        · exact hf
      rw [ih (Stab.refl b) hb (List.pairwise_cons.1 s1).2 (List.pairwise_cons.1 s2).2]

/-! ### A merge in place -/
/-- What a merge of two sorted rows makes. -/
def Mrg (key : α → κ) (lt : κ → κ → Bool) (a b m : List α) : Prop := Stab key (a ++ b) m ∧ Srt key lt m
theorem Mrg.one_last (h : Ord lt) {x : α} {a1 a2 : List α} (hl : ∀ y ∈ a1, lt (key x) (key y) = false) (hg : ∀ y ∈ a2, lt (key x) (key y) = true) (sa : Srt key lt (a1 ++ a2)) : Mrg key lt (a1 ++ a2) [x] (a1 ++ x :: a2) := by
  obtain ⟨s1, s2, s3⟩ := Srt.append.1 sa
  refine ⟨?_, Srt.append.2 ⟨s1, List.pairwise_cons.2 ⟨fun y hy => h.asym (hg y hy), s2⟩, ?_⟩⟩
  · have := (Stab.refl (key := key) a1).append (Stab.swap (key := key) (a := a2) (b := [x]) h (fun y hy z hz => by rw [List.mem_singleton.1 hy]; exact hg z hz))
    simpa [List.append_assoc] using this
  · intro y hy z hz
    rcases List.mem_cons.1 hz with rfl | hz
    · exact hl y hy
    · exact s3 y hy z hz
end
end Go.Proofs.Ytenfahecnkdhaaa.Stb
end

section
/-
  Entries of directories in memory: 34 cells each, one behind the other in a block.
-/
namespace Go.Proofs.Ytenfahecnkdhaaa.Nd
open Go.RowKit
open Sim (hid Kp No)

/-- An entry: its name's bytes, whether it is a directory, its hash's bytes. -/
abbrev Ent : Type := List Int × Bool × List Int
def b8 (xs : List Int) : List Value := xs.map (Value.int .u8)
theorem b8_length (xs : List Int) : (b8 xs).length = xs.length := by simp [b8]
theorem b8_one (xs : List Int) : ∀ v ∈ b8 xs, v.oneCell' = true := by intro v hv; obtain ⟨x, _, rfl⟩ := List.mem_map.1 hv; rfl
/-- The text of these bytes. -/
def txt (xs : List Int) : ByteArray := ⟨(Lib.bytesOf xs).toArray⟩
def entC (e : Ent) : List Value := .string (txt e.1) :: .bool e.2.1 :: b8 e.2.2
def EOk (e : Ent) : Prop := (∀ x ∈ e.1, 0 ≤ x ∧ x ≤ 255) ∧ e.2.2.length = 32 ∧ ∀ x ∈ e.2.2, 0 ≤ x ∧ x ≤ 255
theorem entC_length {e : Ent} (h : EOk e) : (entC e).length = 34 := by simp [entC, b8_length, h.2.1]
theorem entC_one (e : Ent) : ∀ v ∈ entC e, v.oneCell' = true := by
  intro v hv
  rcases List.mem_cons.1 hv with rfl | hv
  · rfl
  · rcases List.mem_cons.1 hv with rfl | hv
    · rfl
    · exact b8_one _ _ hv
theorem info48 : (Try.prog.info? 70).map (·.size) = some 34 := by kernel_rfl
theorem inf {e : Ent} (h : EOk e) : (Try.prog.info? 70).map (·.size) = some (entC e).length := by rw [entC_length h]; exact info48
/-- Block g holds the entries d from o on, to be read. -/
def ERow (w : World) (g o : Nat) (d : List Ent) : Prop := g < w.heap.size ∧ ∀ i e, d[i]? = some e → EOk e ∧ w.rangeAt g (o + i * 34) (entC e)
/-- .. and to be written. -/
def EOwn (w : World) (g o : Nat) (d : List Ent) : Prop := ERow w g o d ∧ ∀ i, i < d.length → w.there g (o + i * 34) 34

theorem ERow.ok {w : World} {g o : Nat} {d : List Ent} (h : ERow w g o d) : ∀ e ∈ d, EOk e := fun e he => by
  obtain ⟨i, hi⟩ := List.mem_iff_getElem?.1 he
  exact (h.2 i e hi).1
theorem ERow.kp {L : Nat → Prop} {w w' : World} {g o : Nat} {d : List Ent} (h : ERow w g o d) (k : Kp L w w') (hg : ¬ L g) : ERow w' g o d :=
  ⟨Nat.lt_of_lt_of_le h.1 k.size, fun i e hi => ⟨(h.2 i e hi).1, fun j v hv => (k.cell (p := ⟨g, _, none⟩) h.1 hg).trans ((h.2 i e hi).2 j v hv)⟩⟩
theorem EOwn.kp {L : Nat → Prop} {w w' : World} {g o : Nat} {d : List Ent} (h : EOwn w g o d) (k : Kp L w w') (hg : ¬ L g) : EOwn w' g o d :=
  ⟨h.1.kp k hg, fun i hi j hj => by
    rw [k.cell (p := ⟨g, _, none⟩) h.1.1 hg, k.frozen (p := ⟨g, _, none⟩) h.1.1 hg]
    exact h.2 i hi j hj⟩
theorem EOwn.kept {w w' : World} {g o : Nat} {d : List Ent} (h : EOwn w g o d) (k : Kp No w w') : EOwn w' g o d := h.kp k (fun x => x)
theorem EOwn.there {w : World} {g o : Nat} {d : List Ent} (h : EOwn w g o d) {i : Nat} (hi : i < d.length) {e : Ent} (he : EOk e) : w.there g (o + i * 34) (entC e).toArray.size := by
  rw [List.size_toArray, entC_length he]
  exact h.2 i hi

theorem setCells_kp (w : World) (g o : Nat) (cs : List Value) : Kp (· = g) w (w.setCells g o cs) := by
  induction cs generalizing w o with
  | nil => exact Kp.refl _ _
  | cons c cs ih =>
    rw [World.setCells]
    exact (Kp.setCell (p := ⟨g, o, none⟩) (Kp.refl (· = g) w) (.inl rfl) c).trans (ih _ _) (fun x hx => .inl hx)
/-- One is written over. -/
theorem EOwn.set {w : World} {g o : Nat} {d : List Ent} (h : EOwn w g o d) {i : Nat} (hi : i < d.length) {e : Ent} (he : EOk e) : EOwn (w.setCells g (o + i * 34) (entC e)) g o (d.set i e) := by
  have hl := entC_length he
  refine ⟨⟨Nat.lt_of_lt_of_le h.1.1 (setCells_kp w g _ _).size, fun j x hx => ?_⟩, fun j hj => World.there_setCells (h.2 j (by simpa using hj)) _ _ _⟩
  by_cases hji : j = i
  · subst hji
    rw [List.getElem?_set_self hi] at hx
    simp only [Option.some.injEq] at hx
    subst hx
    exact ⟨he, World.rangeAt_setCells_same _ _ _ _ (by rw [hl]; exact h.2 j hi)⟩
  · rw [List.getElem?_set_ne (by omega)] at hx
    obtain ⟨h1, h2⟩ := h.1.2 j x hx
    refine ⟨h1, World.rangeAt_setCells_apart h2 _ _ _ (.inr ?_)⟩
    rw [entC_length h1, hl]
    omega
/-- In the midst of a call that writes block g alone: d is what stands there now. -/
def At (w : World) (g o : Nat) (d : List Ent) (wr : World) : Prop := Kp (· = g) w wr ∧ EOwn wr g o d
theorem At.start {w : World} {g o : Nat} {d : List Ent} (h : EOwn w g o d) : At w g o d w := ⟨Kp.refl _ _, h⟩
theorem At.kept {w wr w' : World} {g o : Nat} {d : List Ent} (h : At w g o d wr) (k : Kp No wr w') : At w g o d w' := ⟨h.1.andNone k, h.2.kept k⟩
theorem At.drew {w wr : World} {g o : Nat} {d : List Ent} (h : At w g o d wr) : At w g o d wr.drew := h.kept ((Kp.refl _ _).drew)
theorem At.next {w wr w' : World} {g o : Nat} {d d' : List Ent} (h : At w g o d wr) (k : At wr g o d' w') : At w g o d' w' := ⟨h.1.trans k.1 (fun _ hx => .inl hx), k.2⟩
theorem At.set {w wr : World} {g o : Nat} {d : List Ent} (h : At w g o d wr) {i : Nat} (hi : i < d.length) {e : Ent} (he : EOk e) : At w g o (d.set i e) (wr.setCells g (o + i * 34) (entC e)) :=
  ⟨h.1.trans (setCells_kp wr g _ _) (fun _ hx => .inl hx), h.2.set hi he⟩
end Go.Proofs.Ytenfahecnkdhaaa.Nd
end

section
/-
  Ranges of entries that are swapped, and turned about.
-/
namespace Go.Proofs.Ytenfahecnkdhaaa.Nd
open Go.RowKit
open Sim (hid Kp No)

def zEnt : Ent := ([], false, [])
def swap2 (d : List Ent) (i j : Nat) : List Ent := (d.set i (d.getD j zEnt)).set j (d.getD i zEnt)
def swapN (d : List Ent) (a b : Nat) : Nat → List Ent
  | 0 => d
  | n + 1 => swap2 (swapN d a b n) (a + n) (b + n)
end Go.Proofs.Ytenfahecnkdhaaa.Nd
end

section
/-
  Two ranges that stand side by side are turned about.
-/
namespace Go.Proofs.Ytenfahecnkdhaaa.Nd
open Go.RowKit
open Sim (hid Kp No)

theorem swap2_blocks (A B C : List Ent) (x y : Ent) : swap2 (A ++ x :: (B ++ y :: C)) A.length (A.length + 1 + B.length) = A ++ y :: (B ++ x :: C) := by
  have e1 : (A ++ x :: (B ++ y :: C)).getD A.length zEnt = x := by simp [List.getD_eq_getElem?_getD]
  have e2 : (A ++ x :: (B ++ y :: C)).getD (A.length + 1 + B.length) zEnt = y := by
    rw [List.getD_eq_getElem?_getD, List.getElem?_append_right (by omega), show A.length + 1 + B.length - A.length = B.length + 1 by omega]
    simp
  have e3 : (A ++ x :: (B ++ y :: C)).set A.length y = A ++ y :: (B ++ y :: C) := by simp [List.set_append_right]
  rw [swap2, e1, e2, e3, List.set_append_right _ _ (by omega), show A.length + 1 + B.length - A.length = B.length + 1 by omega, List.set_cons_succ, List.set_append_right _ _ (by omega), Nat.sub_self, List.set_cons_zero]
theorem swapN_blocks : ∀ (n : Nat) (L X M Y R : List Ent), X.length = n → Y.length = n → swapN (L ++ (X ++ (M ++ (Y ++ R)))) L.length (L.length + n + M.length) n = L ++ (Y ++ (M ++ (X ++ R)))
  | 0, L, X, M, Y, R, hx, hy => by
    rw [List.length_eq_zero_iff.1 hx, List.length_eq_zero_iff.1 hy]
    rfl
  | n + 1, L, X, M, Y, R, hx, hy => by
    have nx : X ≠ [] := by intro e; rw [e] at hx; simp at hx
    have ny : Y ≠ [] := by intro e; rw [e] at hy; simp at hy
    obtain ⟨X', x, rfl⟩ : ∃ X' x, X = X' ++ [x] := ⟨X.dropLast, X.getLast nx, (List.dropLast_concat_getLast nx).symm⟩
    obtain ⟨Y', y, rfl⟩ : ∃ Y' y, Y = Y' ++ [y] := ⟨Y.dropLast, Y.getLast ny, (List.dropLast_concat_getLast ny).symm⟩
    have hx' : X'.length = n := by simpa using hx
    have hy' : Y'.length = n := by simpa using hy
    have ih := swapN_blocks n L X' (x :: M) Y' (y :: R) hx' hy'
    have e1 : L ++ (X' ++ [x] ++ (M ++ (Y' ++ [y] ++ R))) = L ++ (X' ++ ((x :: M) ++ (Y' ++ y :: R))) := by simp
    have e2 : L.length + (n + 1) + M.length = L.length + n + (x :: M).length := by simp; omega
    rw [swapN, e1, e2, ih]
    have h2 := swap2_blocks (L ++ Y') (M ++ X') R x y
    have e3 : L ++ (Y' ++ ((x :: M) ++ (X' ++ y :: R))) = (L ++ Y') ++ x :: ((M ++ X') ++ y :: R) := by simp
    have e4 : L.length + n = (L ++ Y').length := by simp [hy']
    have e5 : L.length + n + (x :: M).length + n = (L ++ Y').length + 1 + (M ++ X').length := by simp [hx', hy']; omega
    rw [e5, e4, e3, h2]
    simp

/-- How far a turning has come: X and Y are left, and F is what comes out. -/
def RotSt (m i j : Nat) (F D : List Ent) : Prop := ∃ L X Y R : List Ent, X.length = i ∧ Y.length = j ∧ L.length + i = m ∧ D = L ++ (X ++ (Y ++ R)) ∧ F = L ++ (Y ++ (X ++ R))
theorem RotSt.lt {m i j : Nat} {F D : List Ent} (h : RotSt m i j F D) (hj : i < j) : RotSt m i (j - i) F (swapN D (m - i) (m + j - i) i) := by
  obtain ⟨L, X, Y, R, hx, hy, hm, rfl, rfl⟩ := h
  have e := swapN_blocks i L X (Y.take (j - i)) (Y.drop (j - i)) R hx (by rw [List.length_drop]; omega)
  have e1 : L ++ (X ++ (Y ++ R)) = L ++ (X ++ (Y.take (j - i) ++ (Y.drop (j - i) ++ R))) := by rw [← List.append_assoc (Y.take _), List.take_append_drop]
  have e2 : L.length + i + (Y.take (j - i)).length = m + j - i := by rw [List.length_take]; omega
  rw [e2] at e
  refine ⟨L, Y.drop (j - i), Y.take (j - i), X ++ R, by rw [List.length_drop]; omega, by rw [List.length_take]; omega, hm, ?_, ?_⟩
  · rw [e1, show m - i = L.length by omega, e]
  · have : Y.take (j - i) ++ (Y.drop (j - i) ++ (X ++ R)) = Y ++ (X ++ R) := by rw [← List.append_assoc, List.take_append_drop]
    rw [this]
theorem RotSt.len {m i j : Nat} {F D : List Ent} (h : RotSt m i j F D) : i ≤ m ∧ m + j ≤ D.length ∧ D.length = F.length := by
  obtain ⟨L, X, Y, R, hx, hy, hm, rfl, rfl⟩ := h
  simp only [List.length_append]
  omega

end Go.Proofs.Ytenfahecnkdhaaa.Nd
end

section
/-
  What stays as it was; bytes, rows and structs in memory.
-/
namespace Go.Proofs.Ytenfahecnkdhaaa.Tr
open Go.RowKit

theorem hid {p : Prop} (h : p) : Hid p := h
theorem addr_add (g o i : Nat) : (⟨g, o, none⟩ : Addr).add i = ⟨g, o + i, none⟩ := by unfold Addr.add; split <;> simp_all
theorem cell_other {w : World} {b i j : Nat} {x : Value} (h : j ≠ i) : (w.setCell ⟨b, i, none⟩ x).cell? ⟨b, j, none⟩ = w.cell? ⟨b, j, none⟩ := World.cell?_setCell_other _ _ _ _ (by simp only [ne_eq, Addr.mk.injEq, true_and, and_true]; omega)

/-! ### What stays as it was -/
/-- All blocks that are not in L hold what they held. -/
structure Kp (L : Nat → Prop) (w w' : World) : Prop where
  os : w'.os = w.os
  tape : w'.tape = w.tape
  output : w'.output = w.output
  size : w.heap.size ≤ w'.heap.size
  block : ∀ k, k < w.heap.size → ¬ L k → w'.heap[k]? = w.heap[k]?

def No : Nat → Prop := fun _ => False
theorem Kp.refl (L : Nat → Prop) (w : World) : Kp L w w := ⟨rfl, rfl, rfl, Nat.le_refl _, fun _ _ _ => rfl⟩
/-- One behind the other: what the second one writes is the first one's, or new. -/
theorem Kp.trans {L M : Nat → Prop} {u v w : World} (h : Kp L u v) (k : Kp M v w) (hm : ∀ x, M x → L x ∨ u.heap.size ≤ x) : Kp L u w :=
  ⟨k.os.trans h.os, k.tape.trans h.tape, k.output.trans h.output, Nat.le_trans h.size k.size, fun i h1 h2 => (k.block i (Nat.lt_of_lt_of_le h1 h.size) (fun hi => by
    rcases hm i hi with h | h
    · exact h2 h
    · omega)).trans (h.block i h1 h2)⟩
theorem Kp.mono {L M : Nat → Prop} {u w : World} (h : Kp L u w) (hs : ∀ x, L x → M x ∨ u.heap.size ≤ x) : Kp M u w := (Kp.refl M u).trans h hs
theorem Kp.ofNo {M : Nat → Prop} {u w : World} (h : Kp No u w) : Kp M u w := h.mono (fun _ hx => hx.elim)
theorem Kp.andNone {L : Nat → Prop} {u v w : World} (h : Kp L u v) (k : Kp No v w) : Kp L u w := h.trans k (fun _ hx => hx.elim)
theorem Kp.below {L : Nat → Prop} {u w : World} (h : Below u.heap.size u w) : Kp L u w := ⟨h.os, h.tape, h.output, h.size, fun k hk _ => h.block k hk⟩
theorem Kp.alloc {L : Nat → Prop} {u w : World} (h : Kp L u w) (o : Obj) : Kp L u (w.alloc o) := h.trans (M := No) (Kp.below ((Below.refl _ _).alloc (Nat.le_refl _) _)) (fun _ hx => hx.elim)
theorem Kp.setCell {L : Nat → Prop} {u w : World} (h : Kp L u w) {p : Addr} (hp : L p.block ∨ u.heap.size ≤ p.block) (x : Value) : Kp L u (w.setCell p x) :=
  ⟨h.os, h.tape, h.output, by simpa using h.size, fun k h1 h2 => (Below.heap_setCell _ _ _ _ (by
    intro e
    rcases hp with hp | hp
    · exact h2 (e ▸ hp)
    · omega)).trans (h.block k h1 h2)⟩
theorem Kp.drew {L : Nat → Prop} {u w : World} (h : Kp L u w) : Kp L u w.drew := ⟨h.os, h.tape, h.output, h.size, h.block⟩
theorem Kp.drewN {L : Nat → Prop} {u w : World} (h : Kp L u w) (q : Nat) : Kp L u (w.drewN q) := h.trans (M := No) (Kp.below (below_drewN (Below.refl _ _) q)) (fun _ hx => hx.elim)
theorem Kp.grown {L : Nat → Prop} {u w w' : World} {row : Option Nat} (h : Kp L u w) (hg : w.grownBy w' row) (hr : ∀ x, row = some x → L x ∨ u.heap.size ≤ x) : Kp L u w' :=
  ⟨hg.os.trans h.os, hg.tape.trans h.tape, hg.output.trans h.output, Nat.le_trans h.size hg.size, fun k h1 h2 => (hg.block k (Nat.lt_of_lt_of_le h1 h.size) (fun e => by
    rcases hr k e.symm with h | h
    · exact h2 h
    · omega)).trans (h.block k h1 h2)⟩
theorem Kp.cell {L : Nat → Prop} {w w' : World} (h : Kp L w w') {p : Addr} (h1 : p.block < w.heap.size) (h2 : ¬ L p.block) : w'.cell? p = w.cell? p := World.cell?_of_block (w := w) (h.block p.block h1 h2)
theorem Kp.frozen {L : Nat → Prop} {w w' : World} (h : Kp L w w') {p : Addr} (h1 : p.block < w.heap.size) (h2 : ¬ L p.block) : w'.frozen? p = w.frozen? p := World.frozen?_of_block (w := w) (h.block p.block h1 h2)
theorem Kp.toBelow {L : Nat → Prop} {u w : World} (k : Kp L u w) (hb : ∀ x, L x → u.heap.size ≤ x) : Below u.heap.size u w :=
  ⟨k.os, k.tape, k.output, k.size, fun i hi => k.block i hi (fun hm => by have := hb i hm; omega)⟩
theorem Kp.toBelow' {u w : World} (k : Kp No u w) : Below u.heap.size u w := k.toBelow (fun _ h => h.elim)
/-- .. of a world ahead. -/
theorem Kp.under {L : Nat → Prop} {B : Nat} {u v w : World} (h : Below B u v) (k : Kp L v w) (hb : ∀ x, L x → B ≤ x) (hB : B ≤ v.heap.size) : Below B u w :=
  h.trans ⟨k.os, k.tape, k.output, k.size, fun i hi => k.block i (by omega) (fun hm => by have := hb i hm; omega)⟩

/-! ### A block of cells, whole -/
def Blk (w : World) (b : Nat) (t : TypeId) (cs : List Value) : Prop := w.heap[b]? = some (.cells cs.toArray t (0, 0))
theorem Blk.lt {w : World} {b : Nat} {t : TypeId} {cs : List Value} (h : Blk w b t cs) : b < w.heap.size := (Array.getElem?_eq_some_iff.1 h).1
theorem Blk.kp {L : Nat → Prop} {w w' : World} {b : Nat} {t : TypeId} {cs : List Value} (h : Blk w b t cs) (k : Kp L w w') (hb : ¬ L b) : Blk w' b t cs := (k.block b h.lt hb).trans h
theorem Blk.cell {w : World} {b : Nat} {t : TypeId} {cs : List Value} (h : Blk w b t cs) (j : Nat) : w.cell? ⟨b, j, none⟩ = cs[j]? := by
  unfold Blk at h
  simp [World.cell?, h]
theorem Blk.frozen {w : World} {b : Nat} {t : TypeId} {cs : List Value} (h : Blk w b t cs) (j : Nat) : w.frozen? ⟨b, j, none⟩ = false := by
  unfold Blk at h
  simp [World.frozen?, h]
theorem Blk.setCell {w : World} {b : Nat} {t : TypeId} {cs : List Value} (h : Blk w b t cs) (j : Nat) (x : Value) : Blk (w.setCell ⟨b, j, none⟩ x) b t (cs.set j x) := by
  unfold Blk at h ⊢
  simp [World.setCell, Array.getElem?_modify, h]

/-! ### Bytes that are read -/
/-- Bytes as cells. -/
def cl (xs : List Nat) : List Value := xs.map fun x : Nat => .int .u8 (x : Int)
theorem cl_length (xs : List Nat) : (cl xs).length = xs.length := by simp [cl]
theorem cl_append (xs ys : List Nat) : cl (xs ++ ys) = cl xs ++ cl ys := by simp [cl]
theorem cl_at (xs : List Nat) (i : Nat) (h : i < xs.length) : (cl xs)[i]? = some (.int .u8 (xs.getD i 0 : Nat)) := by simp [cl, List.getElem?_eq_getElem h]
theorem cl_one (xs : List Nat) : ∀ u ∈ cl xs, u.oneCell' = true := by intro u hu; obtain ⟨x, _, rfl⟩ := List.mem_map.1 hu; rfl

/-- v is a slice of the bytes bs, in a block of which P. -/
def ByP (P : Nat → Prop) (w : World) (v : Value) (bs : List Nat) : Prop :=
  ∃ a cap, v = .slice a bs.length cap ∧ bs.length ≤ cap ∧ cap ≤ maxLen ∧ (a = none → bs = [] ∧ cap = 0) ∧ bs.length ≤ 9223372036854775807 ∧ (∀ x ∈ bs, x < 256) ∧
    (bs ≠ [] → ∃ g o, a = some ⟨g, o, none⟩ ∧ P g ∧ g < w.heap.size ∧ ∀ i, i < bs.length → w.cell? ⟨g, o + i, none⟩ = some (.int .u8 (bs.getD i 0 : Nat)))

theorem ByP.nil (P : Nat → Prop) (w : World) : ByP P w (.slice none 0 0) [] := ⟨_, 0, rfl, Nat.le_refl _, Nat.zero_le _, fun _ => ⟨rfl, rfl⟩, by simp, by simp, fun h => absurd rfl h⟩
theorem ByP.mono {P Q : Nat → Prop} {w : World} {v : Value} {bs : List Nat} (h : ByP P w v bs) (hm : ∀ x, x < w.heap.size → P x → Q x) : ByP Q w v bs := by
  obtain ⟨a, cap, h1, h2, h3, h4, h5, h6, h7⟩ := h
  refine ⟨a, cap, h1, h2, h3, h4, h5, h6, fun hne => ?_⟩
  obtain ⟨g, o, e, hgb, hg, hc⟩ := h7 hne
  exact ⟨g, o, e, hm g hg hgb, hg, hc⟩
theorem ByP.kp {P L : Nat → Prop} {w w' : World} {v : Value} {bs : List Nat} (h : ByP P w v bs) (k : Kp L w w') (hm : ∀ x, L x → x < w.heap.size → ¬ P x) : ByP P w' v bs := by
  obtain ⟨a, cap, h1, h2, h3, h4, h5, h6, h7⟩ := h
  refine ⟨a, cap, h1, h2, h3, h4, h5, h6, fun hne => ?_⟩
  obtain ⟨g, o, e, hgb, hg, hc⟩ := h7 hne
  exact ⟨g, o, e, hgb, Nat.lt_of_lt_of_le hg k.size, fun i hi => (k.cell (p := ⟨g, o + i, none⟩) hg (fun hx => hm g hx hg hgb)).trans (hc i hi)⟩
theorem ByP.kept {P : Nat → Prop} {w w' : World} {v : Value} {bs : List Nat} (h : ByP P w v bs) (k : Kp No w w') : ByP P w' v bs := h.kp k (fun _ hx => hx.elim)
/-! ### Rows of the call's own -/
/-- v is a row of the call's own, of n elements of the type e, each of sz cells. -/
def Row (w : World) (e : TypeId) (sz : Nat) (v : Value) (n : Nat) (xs : List Value) : Prop := w.ownsRow 0 e sz v n xs

theorem Row.nil (w : World) (e : TypeId) (sz : Nat) : Row w e sz (.slice none 0 0) 0 [] := World.ownsRow_nil _ _ _ _
theorem Row.kp {L : Nat → Prop} {w w' : World} {e : TypeId} {sz n : Nat} {v : Value} {xs : List Value} (h : Row w e sz v n xs) (k : Kp L w w') (hv : ∀ x, v.ownBlock = some x → ¬ L x) : Row w' e sz v n xs := by
  refine ⟨h.1, ?_⟩
  rcases h.2 with hn | ⟨g, cap, cur, rfl, hb, hgg, rest⟩
  · exact .inl hn
  · exact .inr ⟨g, cap, cur, rfl, hb, by rw [k.block g (Array.getElem?_eq_some_iff.1 hgg).1 (hv g rfl)]; exact hgg, rest⟩
theorem Row.kept {w w' : World} {e : TypeId} {sz n : Nat} {v : Value} {xs : List Value} (h : Row w e sz v n xs) (k : Kp No w w') : Row w' e sz v n xs := h.kp k (fun _ _ hx => hx.elim)
theorem Row.lt {w : World} {e : TypeId} {sz n : Nat} {v : Value} {xs : List Value} (h : Row w e sz v n xs) : ∀ x, v.ownBlock = some x → x < w.heap.size := fun x hx => (World.ownsRow.lt h x hx).2
theorem Row.shape {w : World} {e : TypeId} {sz n : Nat} {v : Value} {xs : List Value} (h : Row w e sz v n xs) : ∃ a cap, v = .slice a n cap ∧ n ≤ cap ∧ cap ≤ maxLen ∧ (a = none → n = 0 ∧ cap = 0) ∧ ∀ x, a = some x → x.spot = none ∧ x.off = 0 := by
  rcases h.2 with ⟨rfl, h0⟩ | ⟨g, cap, cur, rfl, hg, hh, hn, hc, hs, ht⟩
  · subst h0
    exact ⟨none, 0, rfl, Nat.le_refl _, Nat.zero_le _, fun _ => ⟨rfl, rfl⟩, by simp⟩
  · exact ⟨_, cap, rfl, hn, hc, by simp, fun x hx => by cases hx; exact ⟨rfl, rfl⟩⟩
theorem Row.cellAt {w : World} {e : TypeId} {sz n g cap : Nat} {xs : List Value} (h : Row w e sz (.slice (some ⟨g, 0, none⟩) n cap) n xs) (i : Nat) (hi : i < n * sz) : w.cell? ⟨g, i, none⟩ = xs[i]? := by
  obtain ⟨hl, h2⟩ := h
  have hx : xs[i]? = some xs[i] := List.getElem?_eq_getElem (by omega)
  have h3 := World.ownsRow.cells (w := w) (base := 0) (e := e) (size := sz) (v := .slice (some ⟨g, 0, none⟩) n cap) (n := n) (xs := xs) ⟨hl, h2⟩ (g := g) rfl i xs[i] hx
  rw [addr_add, Nat.zero_add] at h3
  rw [h3, hx]

/-- The values of a slice that is read. -/
def Src (w : World) (v : Value) (m sz : Nat) (ys : List Value) : Prop :=
  (v = .slice none 0 0 ∧ m = 0 ∧ ys = []) ∨ ∃ ad c, v = .slice (some ad) m c ∧ ys.length = m * sz ∧ (∀ j u, ys[j]? = some u → w.cell? (ad.add j) = some u) ∧ ∀ u ∈ ys, u.oneCell' = true

/-- append(v, x...), v of the call's own. -/
theorem app_row {ops : Array Oper} {rest : List Oper} {o : Oper} {a : Act} {Q : Exit → Act → World → Prop} (w : World) (hgd : o.guard = none) (s x : Operand) (t e : TypeId) (z : Value) (sz by' : Nat)
    (ho : o.op = .call { callee := .builtin .append, args := #[s, x], argTypes := #[t, t] }) (ht : Try.prog.underlying t = some (.slice e)) (hin : (Try.prog.info? e).map (fun i => (i.zero, i.size, i.bytes)) = some (some z, sz, by'))
    (hz1 : z.cells.size = sz) (hsz : 0 < sz) (v vx : Value) (n m : Nat) (xs ys : List Value) (hs : a.eval s = v) (hx : a.eval x = vx)
    (hown : Row w e sz v n xs) (hy : Src w vx m sz ys) (hlen : n + m ≤ 20000000) (hby : by' ≤ 1000)
    (h : ∀ ad cap w', Row w' e sz (.slice ad (n + m) cap) (n + m) (xs ++ ys) → w.grownBy w' v.ownBlock → ((Value.slice ad (n + m) cap).ownBlock = v.ownBlock ∨ (Value.slice ad (n + m) cap).ownBlock = some w.heap.size) → wpList Try.prog ops Q rest (a.put o.dst (.slice ad (n + m) cap)) w') : wpList Try.prog ops Q (o :: rest) a w := by
  obtain ⟨i0, hi, hz0, hz1', hz2⟩ := info_parts hin
  rcases hy with ⟨rfl, rfl, rfl⟩ | ⟨ad, c, rfl, hl, hc, h1⟩
  · refine wpList_append_own_none hgd s x t ho 0 e i0 sz ht hi v n xs hs hown hx ?_
    obtain ⟨ad, cap, rfl, _⟩ := hown.shape
    exact h ad cap w (by rw [List.append_nil]; exact hown) ⟨rfl, rfl, rfl, Nat.le_refl _, fun _ _ _ => rfl⟩ (.inl rfl)
  · refine wpList_append_own_at (P := Try.prog) w hgd s x t ho 0 e i0 z sz by' ht hi hz0 hz1' hz2 hz1 hsz v n xs hs hown ad m c ys hx hl hc h1 (by unfold maxLen; omega) ?_ (Nat.zero_le _) ?_
    · have : (n + m) * by' ≤ 20000000 * 1000 := Nat.mul_le_mul hlen hby
      omega
    · intro v' w' h8 h9 _ h10
      have h8' : Row w' e sz v' (n + m) (xs ++ ys) := h8
      obtain ⟨ad', cap', rfl, _⟩ := h8'.shape
      exact h ad' cap' w' h8 h9 h10

/-- A literal of one element. -/
theorem Src.one (w : World) (us : List Value) (sz : Nat) (t : TypeId) (hl : us.length = sz) (h1 : ∀ u ∈ us, u.oneCell' = true) : Src (w.alloc (.cells us.toArray t)) (.slice (some ⟨w.heap.size, 0, none⟩) 1 1) 1 sz us :=
  .inr ⟨_, 1, rfl, by omega, fun j x hj => by
    rw [addr_add, World.cell?_alloc_at _ _ _ _ rfl]
    simpa using hj, h1⟩

/-! ### Bytes of the call's own -/
/-- v is a row of the call's own, of the bytes xs. -/
def OwnB (w : World) (v : Value) (xs : List Nat) : Prop := Row w 5 1 v xs.length (cl xs)
theorem OwnB.row {w : World} {v : Value} {xs : List Nat} (h : OwnB w v xs) : Row w 5 1 v xs.length (cl xs) := h
theorem OwnB.nil (w : World) : OwnB w (.slice none 0 0) [] := Row.nil _ _ _
theorem OwnB.shape {w : World} {v : Value} {xs : List Nat} (h : OwnB w v xs) : ∃ a cap, v = .slice a xs.length cap ∧ xs.length ≤ cap ∧ cap ≤ maxLen ∧ (a = none → xs = [] ∧ cap = 0) := by
  obtain ⟨a, cap, h1, h2, h3, h4, _⟩ := h.row.shape
  exact ⟨a, cap, h1, h2, h3, fun e => ⟨List.length_eq_zero_iff.1 (h4 e).1, (h4 e).2⟩⟩
theorem ByP.src {P : Nat → Prop} {w : World} {v : Value} {ys : List Nat} (h : ByP P w v ys) : Src w v ys.length 1 (cl ys) := by
  obtain ⟨a, cap, rfl, h2, h3, h4, h5, h6, h7⟩ := h
  cases a with
  | none =>
    obtain ⟨rfl, rfl⟩ := h4 rfl
    exact .inl ⟨rfl, rfl, rfl⟩
  | some ad =>
    refine .inr ⟨ad, cap, rfl, by rw [cl_length, Nat.mul_one], fun j u hj => ?_, cl_one ys⟩
    have hjn : j < ys.length := by
      have := (List.getElem?_eq_some_iff.1 hj).1
      rwa [cl_length] at this
    obtain ⟨g, o, e, _, hb, hc⟩ := h7 (by intro e; subst e; simp at hjn)
    simp only [Option.some.injEq] at e
    subst e
    rw [addr_add, hc j hjn, ← cl_at ys j hjn]
    exact hj
theorem Try.info5 : (Try.prog.info? 5).map (fun i => (i.zero, i.size, i.bytes)) = some (some (.int .u8 0), 1, 1) := by kernel_rfl
/-- append of bytes. -/
theorem app_bytes {ops : Array Oper} {rest : List Oper} {o : Oper} {a : Act} {Q : Exit → Act → World → Prop} (w : World) (hgd : o.guard = none) (s x : Operand)
    (ho : o.op = .call { callee := .builtin .append, args := #[s, x], argTypes := #[26, 26] }) (v vx : Value) (xs ys : List Nat) (P : Nat → Prop) (hs : a.eval s = v) (hx : a.eval x = vx)
    (hown : OwnB w v xs) (hy : ByP P w vx ys) (hlen : xs.length + ys.length ≤ 20000000)
    (h : ∀ ad cap w', OwnB w' (.slice ad (xs.length + ys.length) cap) (xs ++ ys) → w.grownBy w' v.ownBlock → ((Value.slice ad (xs.length + ys.length) cap).ownBlock = v.ownBlock ∨ (Value.slice ad (xs.length + ys.length) cap).ownBlock = some w.heap.size) → wpList Try.prog ops Q rest (a.put o.dst (.slice ad (xs.length + ys.length) cap)) w') : wpList Try.prog ops Q (o :: rest) a w := by
  refine app_row w hgd s x 26 5 (.int .u8 0) 1 1 ho Try.underlying26 Try.info5 rfl (by decide) v vx xs.length ys.length (cl xs) (cl ys) hs hx hown.row hy.src hlen (by decide) ?_
  intro ad cap w' h1 h2 h3
  exact h ad cap w' (by unfold OwnB; rw [cl_append, List.length_append]; exact h1) h2 h3

theorem Try.nilEq (w : World) (a : Option Addr) (n c n' c' : Nat) : (binOp .eql 26 (.slice a n c) (.slice none n' c')).run Try.prog w = .ok (.bool a.isNone) w :=
  Lib.run_eql_slice_nil w _ _ a n c n' c' Try.underlying26
theorem own_empty (w : World) : OwnB (w.alloc (.cells #[] 5)) (.slice (some ⟨w.heap.size, 0, none⟩) 0 0) [] := World.ownsRow_made w #[] 0 (Nat.zero_le _) (Nat.zero_le _) rfl

set_option maxHeartbeats 1000000 in
/-- bytes.Clone. -/
theorem clone_any {P : Nat → Prop} (v : Value) (bs : List Nat) (w : World) (h : ByP P w v bs) (hl : bs.length ≤ 20000000) :
    Calls Try.prog 47 #[v] w fun e w' => ∃ ad cap, e = .returned (.slice ad bs.length cap) ∧ OwnB w' (.slice ad bs.length cap) bs ∧ (∀ x, (Value.slice ad bs.length cap).ownBlock = some x → w.heap.size ≤ x) ∧ Kp No w w' := by
  have q22 := Try.nilEq
  have H := hid h
  obtain ⟨a, cap, rfl, h2, h3, h4, h5, h6, h7⟩ := h
  clear h6 h7
  cases a with
  | none =>
    obtain ⟨rfl, rfl⟩ := h4 rfl
    go_enter Try.func47, Try.ntmps47
    go_wp2
    go_ret
    exact ⟨_, _, rfl, OwnB.nil _, by simp [Value.ownBlock], Kp.refl _ _⟩
  | some ad =>
    clear h4
    go_enter Try.func47, Try.ntmps47
    go_wp2_with (at_builtin; refine app_bytes _ rfl _ _ rfl (.slice (some ⟨w.heap.size, 0, none⟩) 0 0) _ [] bs P rfl rfl (own_empty w) (H.out.kept ((Kp.refl _ _).alloc _)) (by simpa using hl) ?_; intro ad' cap' w' hown hg hb)
    go_wp2
    go_ret
    rw [List.length_nil, Nat.zero_add] at hown hb
    refine ⟨ad', cap', rfl, by simpa using hown, fun x hx => ?_, ((Kp.refl _ w).alloc _).grown hg (fun x hx => .inr (by simp [Value.ownBlock] at hx; omega))⟩
    rcases hb with hb | hb
    · rw [hb] at hx
      simp [Value.ownBlock] at hx
      omega
    · rw [hb] at hx
      simp at hx
      omega

end Go.Proofs.Ytenfahecnkdhaaa.Tr
end

section
/-
  Texts of paths, purely: parts, how a text is cut at each /, paths, and how a path is split.
-/
namespace Go.Proofs.Ytenfahecnkdhaaa.Tr

abbrev Tx := List UInt8
def sgn (c : UInt8) : Bool := decide (33 ≤ c.toNat) && decide (c.toNat ≤ 126) && !(c.toNat == 47)
def partB (s : Tx) : Bool := decide (1 ≤ s.length) && decide (s.length ≤ 20) && !(s == [46]) && !(s == [46, 46]) && s.all sgn
/-- p put ahead of the first one. -/
def ahd (p : Tx) : List Tx → List Tx
  | [] => [p]
  | h :: t => (p ++ h) :: t
/-- A text, cut at each /. -/
def cuts : Tx → List Tx
  | [] => [[]]
  | c :: r => if c = 47 then [] :: cuts r else ahd [c] (cuts r)
theorem cuts_ne (s : Tx) : cuts s ≠ [] := by
  cases s with
  | nil => simp [cuts]
  | cons c r =>
    rw [cuts]
    split
    · simp
    · cases cuts r <;> simp [ahd]
theorem ahd_nil (l : List Tx) (h : l ≠ []) : ahd [] l = l := by
  cases l with
  | nil => exact absurd rfl h
  | cons a t => rfl
theorem ahd_length (p : Tx) (l : List Tx) (h : l ≠ []) : (ahd p l).length = l.length := by
  cases l with
  | nil => exact absurd rfl h
  | cons a t => rfl
/-- All lengths, with one for each /. -/
def tot (l : List Tx) : Nat := (l.map (fun x => x.length + 1)).sum
theorem cuts_len (s : Tx) : (cuts s).length ≤ s.length + 1 := by
  induction s with
  | nil => simp [cuts]
  | cons c r ih =>
    rw [cuts]
    split
    · simp; omega
    · rw [ahd_length _ _ (cuts_ne r)]; simp; omega
end Go.Proofs.Ytenfahecnkdhaaa.Tr
end

section
/-
  Part, of the program and of the document.
-/
namespace Go.Proofs.Ytenfahecnkdhaaa.Tr
open Go.RowKit

/-- A text's byte. -/
def byt (s : ByteArray) (i : Nat) : Nat := (s.data.toList.getD i 0).toNat
theorem len_data (s : ByteArray) : s.data.toList.length = s.size := by rw [Array.length_toList]; rfl
theorem sidx (s : ByteArray) (i : Nat) (h : i < s.size) (w : World) : (Instr.index 9 (.string s) (.int .i64 (i : Int))).run Try.prog w = .ok (.int .u8 (byt s i : Nat)) w := by
  simp [Instr.index, asIntOf, run_underlying Try.underlying9]
  have e : s[i]? = some s[i] := getElem?_pos s i h
  have e2 : byt s i = (s[i]).toNat := by
    have h' : i < s.data.toList.length := by simpa using h
    simp [byt, List.getElem?_eq_getElem h', ByteArray.getElem_eq_getElem_data]
  rw [e, e2]
  rfl
theorem take_byt (s : ByteArray) (i : Nat) (h : i < s.size) : s.data.toList.take (i + 1) = s.data.toList.take i ++ [s.data.toList.getD i 0] := by
  have h' : i < s.data.toList.length := by rw [len_data]; exact h
  rw [List.take_succ_eq_append_getElem h', List.getD_eq_getElem?_getD, List.getElem?_eq_getElem h', Option.getD_some]
theorem mem_byt (s : ByteArray) (i : Nat) (h : i < s.size) : s.data.toList.getD i 0 ∈ s.data.toList := by
  have h' : i < s.data.toList.length := by rw [len_data]; exact h
  rw [List.getD_eq_getElem?_getD, List.getElem?_eq_getElem h', Option.getD_some]
  exact List.getElem_mem h'
theorem ba_eq {s t : ByteArray} : s = t ↔ s.data.toList = t.data.toList := ⟨fun h => by rw [h], fun h => by
  cases s; cases t; simp at h; rw [h]⟩

theorem tl_eq {s t : ByteArray} : s = t ↔ s.toList = t.data.toList := by rw [ByteArray.toList_eq]; exact ba_eq
theorem part_closed {s : ByteArray} (h : s = ⟨#[]⟩ ∨ s = ⟨#[46]⟩ ∨ s = ⟨#[46, 46]⟩) : partB s.data.toList = false := by
  rcases h with rfl | rfl | rfl <;> rfl
theorem part_long {s : ByteArray} (h : 20 < s.size) : partB s.data.toList = false := by
  rw [partB, len_data, decide_eq_false (p := s.size ≤ 20) (by omega)]
  simp
theorem part_else {s : ByteArray} (h0 : s ≠ ⟨#[]⟩) (h1 : s ≠ ⟨#[46]⟩) (h2 : s ≠ ⟨#[46, 46]⟩) (h3 : ¬ 20 < s.size) : partB s.data.toList = s.data.toList.all sgn := by
  have a0 : 1 ≤ s.size := by
    refine Nat.pos_of_ne_zero (fun h => h0 ?_)
    rw [ba_eq]
    exact List.length_eq_zero_iff.1 ((len_data s).trans h)
  have a1 : (s.data.toList == [46]) = false := by
    rw [beq_eq_false_iff_ne]
    exact fun h => h1 (ba_eq.2 h)
  have a2 : (s.data.toList == [46, 46]) = false := by
    rw [beq_eq_false_iff_ne]
    exact fun h => h2 (ba_eq.2 h)
  rw [partB, len_data, decide_eq_true a0, decide_eq_true (p := s.size ≤ 20) (by omega), a1, a2]
  simp

set_option maxHeartbeats 1000000 in
theorem part_any (s : ByteArray) (hs : s.size ≤ 20000000) (w : World) : Calls Try.prog 70 #[.string s] w fun e w' => e = .returned (.bool (partB s.data.toList)) ∧ w' = w := by
  by_cases h0 : s = ⟨#[]⟩ ∨ s = ⟨#[46]⟩ ∨ s = ⟨#[46, 46]⟩
  · rw [part_closed h0]
    rcases h0 with rfl | rfl | rfl <;>
    · go_enter Try.func70, Try.ntmps70
      go_wp2
      go_ret
      exact ⟨rfl, rfl⟩
  · have n0 : ¬ s = ⟨#[]⟩ := fun h => h0 (.inl h)
    have n1 : ¬ s = ⟨#[46]⟩ := fun h => h0 (.inr (.inl h))
    have n2 : ¬ s = ⟨#[46, 46]⟩ := fun h => h0 (.inr (.inr h))
    have b0 : s.toList.isEmpty = false := by rw [List.isEmpty_eq_false_iff]; exact fun h => n0 (tl_eq.2 h)
    have b1 : (s.toList == [46]) = false := beq_eq_false_iff_ne.2 (fun h => n1 (tl_eq.2 h))
    have b2 : (s.toList == [46, 46]) = false := beq_eq_false_iff_ne.2 (fun h => n2 (tl_eq.2 h))
    have hz : ¬ (s.size : Int) < 1 := by
      have : s.size ≠ 0 := fun h => n0 (ba_eq.2 (List.length_eq_zero_iff.1 ((len_data s).trans h)))
      omega
    clear h0
    by_cases h3 : 20 < s.size
    · have h3' : (20 : Int) < (s.size : Int) := by omega
      rw [part_long h3]
      go_enter Try.func70, Try.ntmps70
      go_wp2
      go_ret
      exact ⟨rfl, rfl⟩
    · have h3' : ¬ (20 : Int) < (s.size : Int) := by omega
      · have e : Hid (partB s.data.toList = s.data.toList.all sgn) := part_else n0 n1 n2 h3
        go_enter Try.func70, Try.ntmps70
        go_wp2
        go_loopw [21] (fun x wr => ∃ i : Nat, x = .int .i64 i ∧ i ≤ s.size ∧ Hid ((s.data.toList.take i).all sgn = true) ∧ wr = w) (fun x _ => s.size - (intOf x).toNat)
        case atStart => exact ⟨0, rfl, by omega, by simp [Hid], rfl⟩
        case round =>
          obtain ⟨i, rfl, hi, HI, rfl⟩ := hrel
          by_cases hlt : i < s.size
          · have hx := sidx s i hlt
            have hltI : (i : Int) < (s.size : Int) := by omega
            have hT := hid (take_byt s i hlt)
            have hM := hid (mem_byt s i hlt)
            have hc : Hid (∃ c, s.data.toList.getD i 0 = c ∧ byt s i = c.toNat) := ⟨_, rfl, rfl⟩
            obtain ⟨c, hc1, hc2⟩ := hc.out
            rw [hc1] at hT hM
            rw [hc2] at hx
            clear hc hc1 hc2
            have hcl : c.toNat < 256 := UInt8.toNat_lt _
            have hsg : Hid (sgn c = (decide (33 ≤ c.toNat) && decide (c.toNat ≤ 126) && !(c.toNat == 47))) := rfl
            generalize c.toNat = n at hx hcl hsg
            have HBAD : Hid (sgn c = false → partB s.data.toList = false) := fun hf => by rw [e.out, List.all_eq_false.2 ⟨c, hM.out, by rw [hf]; simp⟩]
            by_cases g1 : n < 33
            · have g1' : (n : Int) < 33 := by omega
              go_wp2
              go_ret
              refine ⟨?_, rfl⟩
              rw [HBAD.out (by rw [hsg.out, decide_eq_false (by omega)]; simp)]
              rfl
            · have g1' : ¬ (n : Int) < 33 := by omega
              by_cases g2 : 126 < n
              · have g2' : (126 : Int) < n := by omega
                go_wp2
                go_ret
                refine ⟨?_, rfl⟩
                rw [HBAD.out (by rw [hsg.out, decide_eq_false (p := n ≤ 126) (by omega)]; simp)]
                rfl
              · have g2' : ¬ (126 : Int) < n := by omega
                by_cases g3 : n = 47
                · subst g3
                  go_wp2
                  go_ret
                  refine ⟨?_, rfl⟩
                  rw [HBAD.out (by rw [hsg.out]; simp)]
                  rfl
                · have g3' : ((n : Int) == 47) = false := by simp; omega
                  have HS : Hid (sgn c = true) := by unfold Hid; rw [hsg.out, decide_eq_true (by omega), decide_eq_true (by omega)]; simp; omega
                  go_wp2
                  go_roundw
                  case rel => exact ⟨i + 1, by go_num, by omega, by rw [Hid, hT.out, List.all_append, HI.out]; simp [HS.out], by first | rfl | trivial⟩
                  case measure => simp [intOf]; omega
          · have hltI : ¬ (i : Int) < (s.size : Int) := by omega
            go_wp2
            go_ret
            refine ⟨?_, rfl⟩
            have := HI.out
            rw [List.take_of_length_le (by rw [len_data]; omega)] at this
            rw [e.out, this]
            rfl

set_option maxHeartbeats 1000000 in
theorem rpart_any (s : ByteArray) (hs : s.size ≤ 20000000) (w : World) : Calls Try.prog 62 #[.string s] w fun e w' => e = .returned (.bool (partB s.data.toList)) ∧ w' = w := by
  by_cases h0 : s = ⟨#[]⟩ ∨ s = ⟨#[46]⟩ ∨ s = ⟨#[46, 46]⟩
  · rw [part_closed h0]
    rcases h0 with rfl | rfl | rfl <;>
    · go_enter Try.func62, Try.ntmps62
      go_wp2
      go_ret
      exact ⟨rfl, rfl⟩
  · have n0 : ¬ s = ⟨#[]⟩ := fun h => h0 (.inl h)
    have n1 : ¬ s = ⟨#[46]⟩ := fun h => h0 (.inr (.inl h))
    have n2 : ¬ s = ⟨#[46, 46]⟩ := fun h => h0 (.inr (.inr h))
    have b0 : s.toList.isEmpty = false := by rw [List.isEmpty_eq_false_iff]; exact fun h => n0 (tl_eq.2 h)
    have b1 : (s.toList == [46]) = false := beq_eq_false_iff_ne.2 (fun h => n1 (tl_eq.2 h))
    have b2 : (s.toList == [46, 46]) = false := beq_eq_false_iff_ne.2 (fun h => n2 (tl_eq.2 h))
    have hz : ¬ (s.size : Int) < 1 := by
      have : s.size ≠ 0 := fun h => n0 (ba_eq.2 (List.length_eq_zero_iff.1 ((len_data s).trans h)))
      omega
    clear h0
    by_cases h3 : 20 < s.size
    · have h3' : (20 : Int) < (s.size : Int) := by omega
      rw [part_long h3]
      go_enter Try.func62, Try.ntmps62
      go_wp2
      go_ret
      exact ⟨rfl, rfl⟩
    · have h3' : ¬ (20 : Int) < (s.size : Int) := by omega
      · have e : Hid (partB s.data.toList = s.data.toList.all sgn) := part_else n0 n1 n2 h3
        go_enter Try.func62, Try.ntmps62
        go_wp2
        go_loopw [3] (fun x wr => ∃ i : Nat, x = .int .i64 i ∧ i ≤ s.size ∧ Hid ((s.data.toList.take i).all sgn = true) ∧ wr = w) (fun x _ => s.size - (intOf x).toNat)
        case atStart => exact ⟨0, rfl, by omega, by simp [Hid], rfl⟩
        case round =>
          obtain ⟨i, rfl, hi, HI, rfl⟩ := hrel
          by_cases hlt : i < s.size
          · have hx := sidx s i hlt
            have hltI : (i : Int) < (s.size : Int) := by omega
            have hT := hid (take_byt s i hlt)
            have hM := hid (mem_byt s i hlt)
            have hc : Hid (∃ c, s.data.toList.getD i 0 = c ∧ byt s i = c.toNat) := ⟨_, rfl, rfl⟩
            obtain ⟨c, hc1, hc2⟩ := hc.out
            rw [hc1] at hT hM
            rw [hc2] at hx
            clear hc hc1 hc2
            have hcl : c.toNat < 256 := UInt8.toNat_lt _
            have hsg : Hid (sgn c = (decide (33 ≤ c.toNat) && decide (c.toNat ≤ 126) && !(c.toNat == 47))) := rfl
            generalize c.toNat = n at hx hcl hsg
            have HBAD : Hid (sgn c = false → partB s.data.toList = false) := fun hf => by rw [e.out, List.all_eq_false.2 ⟨c, hM.out, by rw [hf]; simp⟩]
            by_cases g1 : n < 33
            · have g1' : (n : Int) < 33 := by omega
              go_wp2
              go_ret
              refine ⟨?_, rfl⟩
              rw [HBAD.out (by rw [hsg.out, decide_eq_false (by omega)]; simp)]
              rfl
            · have g1' : ¬ (n : Int) < 33 := by omega
              by_cases g2 : 126 < n
              · have g2' : (126 : Int) < n := by omega
                go_wp2
                go_ret
                refine ⟨?_, rfl⟩
                rw [HBAD.out (by rw [hsg.out, decide_eq_false (p := n ≤ 126) (by omega)]; simp)]
                rfl
              · have g2' : ¬ (126 : Int) < n := by omega
                by_cases g3 : n = 47
                · subst g3
                  go_wp2
                  go_ret
                  refine ⟨?_, rfl⟩
                  rw [HBAD.out (by rw [hsg.out]; simp)]
                  rfl
                · have g3' : ((n : Int) == 47) = false := by simp; omega
                  have HS : Hid (sgn c = true) := by unfold Hid; rw [hsg.out, decide_eq_true (by omega), decide_eq_true (by omega)]; simp; omega
                  go_wp2
                  go_roundw
                  case rel => exact ⟨i + 1, by go_num, by omega, by rw [Hid, hT.out, List.all_append, HI.out]; simp [HS.out], by first | rfl | trivial⟩
                  case measure => simp [intOf]; omega
          · have hltI : ¬ (i : Int) < (s.size : Int) := by omega
            go_wp2
            go_ret
            refine ⟨?_, rfl⟩
            have := HI.out
            rw [List.take_of_length_le (by rw [len_data]; omega)] at this
            rw [e.out, this]
            rfl

end Go.Proofs.Ytenfahecnkdhaaa.Tr
end

section
/-
  Rows of texts.
-/
namespace Go.Proofs.Ytenfahecnkdhaaa.Tr
open Go.RowKit

/-- Texts as cells. -/
def tc (xs : List ByteArray) : List Value := xs.map Value.string
theorem tc_at (xs : List ByteArray) (i : Nat) (x : ByteArray) (h : xs[i]? = some x) : (tc xs)[i]? = some (.string x) := by simp [tc, h]
/-- v is a row of the call's own, of the texts xs. -/
def OwnT (w : World) (v : Value) (xs : List ByteArray) : Prop := Row w 9 1 v xs.length (tc xs)
theorem OwnT.row {w : World} {v : Value} {xs : List ByteArray} (h : OwnT w v xs) : Row w 9 1 v xs.length (tc xs) := h
theorem OwnT.nil (w : World) : OwnT w (.slice none 0 0) [] := Row.nil _ _ _
theorem OwnT.kp {L : Nat → Prop} {w w' : World} {v : Value} {xs : List ByteArray} (h : OwnT w v xs) (k : Kp L w w') (hv : ∀ x, v.ownBlock = some x → ¬ L x) : OwnT w' v xs := Row.kp h k hv
theorem OwnT.kept {w w' : World} {v : Value} {xs : List ByteArray} (h : OwnT w v xs) (k : Kp No w w') : OwnT w' v xs := Row.kept h k
/-- The bytes from a up to b. -/
def sub (s : ByteArray) (a b : Nat) : Tx := (s.data.toList.drop a).take (b - a)
theorem sub_none (s : ByteArray) (a : Nat) : sub s a a = [] := by simp [sub]
/-- parts, in its midst: what is laid, and what is left. -/
def PI (s : ByteArray) (xs : List ByteArray) (from_ i : Nat) : Prop :=
  (i ≤ s.size ∧ from_ ≤ i ∧ cuts s.data.toList = xs.map (·.data.toList) ++ ahd (sub s from_ i) (cuts (s.data.toList.drop i))) ∨ (i = s.size + 1 ∧ cuts s.data.toList = xs.map (·.data.toList))
theorem PI.start (s : ByteArray) : PI s [] 0 0 := .inl ⟨Nat.zero_le _, Nat.le_refl _, by rw [sub_none, ahd_nil _ (cuts_ne _)]; rfl⟩
theorem PI.len {s : ByteArray} {xs : List ByteArray} {f i : Nat} (h : PI s xs f i) : xs.length ≤ s.size + 1 := by
  have := cuts_len s.data.toList
  rw [len_data] at this
  rcases h with ⟨_, _, h⟩ | ⟨_, h⟩
  · rw [h, List.length_append, List.length_map] at this
    omega
  · rw [h, List.length_map] at this
    omega
theorem PI.done {s : ByteArray} {xs : List ByteArray} {f i : Nat} (h : PI s xs f i) (hi : s.size < i) : cuts s.data.toList = xs.map (·.data.toList) := by
  rcases h with ⟨h, _⟩ | ⟨_, h⟩
  · omega
  · exact h
theorem PI.le {s : ByteArray} {xs : List ByteArray} {f i : Nat} (h : PI s xs f i) (hi : i ≤ s.size) : f ≤ i := by
  rcases h with ⟨_, h, _⟩ | ⟨h, _⟩
  · exact h
  · omega

end Go.Proofs.Ytenfahecnkdhaaa.Tr
end

section
/-
  Path, of the document and of the program.
-/
namespace Go.Proofs.Ytenfahecnkdhaaa.Tr
open Go.RowKit

/-- A row's text. -/
theorem OwnT.at {w : World} {ad : Option Addr} {n cap : Nat} {xs : List ByteArray} (h : OwnT w (.slice ad n cap) xs) (i : Nat) (x : ByteArray) (hx : xs[i]? = some x) : ∃ g, ad = some ⟨g, 0, none⟩ ∧ w.cell? ⟨g, i, none⟩ = some (.string x) := by
  have hi : i < xs.length := (List.getElem?_eq_some_iff.1 hx).1
  have h' := h.row
  obtain ⟨hl, h2⟩ := h
  rcases h2 with ⟨e, h0⟩ | ⟨g, cap', cur, e, _, _, hn, _⟩
  · rw [h0] at hi
    omega
  · cases e
    refine ⟨g, rfl, ?_⟩
    rw [Row.cellAt h' i (by omega)]
    exact tc_at xs i x hx

end Go.Proofs.Ytenfahecnkdhaaa.Tr
end

section
/-
  Split, within, and how texts stand.
-/
namespace Go.Proofs.Ytenfahecnkdhaaa.Tr
open Go.RowKit
end Go.Proofs.Ytenfahecnkdhaaa.Tr
end

section
/-
  Less of the document, strings.Compare, and Within of the document.
-/
namespace Go.Proofs.Ytenfahecnkdhaaa.Tr
open Go.RowKit

theorem bb_step (a b : List UInt8) (i : Nat) (ha : i < a.length) (hb : i < b.length) : bytesBefore (a.drop i) (b.drop i) = if (a.getD i 0).toNat = (b.getD i 0).toNat then bytesBefore (a.drop (i + 1)) (b.drop (i + 1)) else decide ((a.getD i 0).toNat < (b.getD i 0).toNat) := by
  rw [List.drop_eq_getElem_cons ha, List.drop_eq_getElem_cons hb, List.getD_eq_getElem?_getD, List.getElem?_eq_getElem ha, List.getD_eq_getElem?_getD, List.getElem?_eq_getElem hb, Option.getD_some, Option.getD_some]
  rw [bytesBefore]
  by_cases h : a[i] = b[i]
  · simp [h]
  · have h' : ¬ a[i].toNat = b[i].toNat := fun e => h (UInt8.toNat_inj.1 e)
    have h'' : (a[i] == b[i]) = false := by simp [h]
    rw [if_neg h', h'']
    simp [UInt8.lt_iff_toNat_lt]
theorem bb_end (a b : List UInt8) (i : Nat) (h : a.length ≤ i ∨ b.length ≤ i) (ha : i ≤ a.length) (hb : i ≤ b.length) : bytesBefore (a.drop i) (b.drop i) = decide (a.length < b.length) := by
  by_cases h1 : a.length ≤ i
  · rw [List.drop_of_length_le h1]
    by_cases h2 : b.length ≤ i
    · rw [List.drop_of_length_le h2, decide_eq_false (by omega)]
      rfl
    · rw [List.drop_eq_getElem_cons (by omega : i < b.length), decide_eq_true (by omega)]
      rfl
  · have h2 : b.length ≤ i := by omega
    rw [List.drop_of_length_le h2, List.drop_eq_getElem_cons (by omega : i < a.length), decide_eq_false (by omega)]
    rfl

set_option maxHeartbeats 1000000 in
/-- Less. -/
theorem rLess_any (s t : ByteArray) (hs : s.size ≤ 20000000) (ht : t.size ≤ 20000000) (w : World) : Calls Try.prog 59 #[.string s, .string t] w fun e w' => e = .returned (.bool (bytesBefore s.data.toList t.data.toList)) ∧ Kp No w w' := by
  go_enter Try.func59, Try.ntmps59
  go_wp2
  go_loopw [5] (fun x wr => ∃ i : Nat, x = .int .i64 i ∧ i ≤ s.size ∧ i ≤ t.size ∧ Hid (bytesBefore s.data.toList t.data.toList = bytesBefore (s.data.toList.drop i) (t.data.toList.drop i)) ∧ Hid (Kp No w wr)) (fun x _ => s.size - (intOf x).toNat)
  case atStart => exact ⟨0, rfl, by omega, by omega, rfl, Kp.refl _ _⟩
  case round =>
    obtain ⟨i, rfl, hi, hi', HI, HK⟩ := hrel
    by_cases hlt : i < s.size
    · by_cases hlt' : i < t.size
      · have hx := sidx s i hlt
        have hy := sidx t i hlt'
        have HL := hid (bb_step s.data.toList t.data.toList i (by rw [len_data]; exact hlt) (by rw [len_data]; exact hlt'))
        have e1 : (s.data.toList.getD i 0).toNat = byt s i := rfl
        have e2 : (t.data.toList.getD i 0).toNat = byt t i := rfl
        rw [e1, e2] at HL
        clear e1 e2
        generalize byt s i = x at *
        generalize byt t i = y at *
        by_cases hxy : x = y
        · subst hxy
          go_wp2_with fail
          go_quiet (fail)
          go_wp2
          go_roundw
          case rel => exact ⟨i + 1, by go_num, by omega, by omega, by have h := HL.out; simp only [if_true] at h; rw [Hid, HI.out, h], HK.out.drewN _⟩
          case measure => simp [intOf]; omega
        · have hne : ((x : Int) != (y : Int)) = true := by simp; omega
          have HR : Hid (bytesBefore s.data.toList t.data.toList = decide (x < y)) := by rw [Hid, HI.out, HL.out, if_neg hxy]
          go_wp2_with fail
          go_quiet (fail)
          go_wp2_with fail
          go_quiet (fail)
          go_wp2
          go_ret
          refine ⟨?_, (HK.out.drewN _).drewN _⟩
          rw [HR.out]
          simp
      · have HE : Hid (bytesBefore s.data.toList t.data.toList = decide (s.size < t.size)) := by rw [Hid, HI.out, bb_end _ _ _ (.inr (by rw [len_data]; omega)) (by rw [len_data]; omega) (by rw [len_data]; omega), len_data, len_data]
        go_wp2
        go_ret
        refine ⟨?_, HK.out⟩
        rw [HE.out]
        simp
    · have HE : Hid (bytesBefore s.data.toList t.data.toList = decide (s.size < t.size)) := by rw [Hid, HI.out, bb_end _ _ _ (.inl (by rw [len_data]; omega)) (by rw [len_data]; omega) (by rw [len_data]; omega), len_data, len_data]
      go_wp2
      go_ret
      refine ⟨?_, HK.out⟩
      rw [HE.out]
      simp

theorem bb_cons (a b : UInt8) (r t : Tx) : bytesBefore (a :: r) (b :: t) = if a = b then bytesBefore r t else decide (a < b) := by
  rw [bytesBefore]
  by_cases h : a = b <;> simp [h]
theorem cmp_bb : ∀ a b : Tx, Lib.compareBytes a b = if bytesBefore a b then -1 else if a = b then 0 else 1
  | [], [] => rfl
  | [], _ :: _ => rfl
  | _ :: _, [] => rfl
  | a :: r, b :: t => by
    rw [Lib.compareBytes, bb_cons]
    by_cases e : a = b
    · subst e
      rw [if_neg (UInt8.lt_irrefl a), if_neg (UInt8.lt_irrefl a), if_pos rfl, cmp_bb r t]
      simp
    · rw [if_neg e]
      by_cases h : a < b
      · rw [if_pos h]
        simp [h]
      · have h' : b < a := by
          rcases UInt8.lt_or_lt_of_ne e with h2 | h2
          · exact absurd h2 h
          · exact h2
        rw [if_neg h, if_pos h']
        simp [h, e]
theorem cmp_neg (a b : Tx) : Lib.compareBytes a b < 0 ↔ bytesBefore a b = true := by
  rw [cmp_bb]
  cases bytesBefore a b
  · by_cases h : a = b <;> simp [h]
  · simp
theorem compare_any (a b : ByteArray) (w : World) : Calls Try.prog 77 #[.string a, .string b] w fun e w' => e = .returned (.int .i64 (Lib.compareBytes a.data.toList b.data.toList)) ∧ w' = w := Any.strings_Compare Try.comp a b w

end Go.Proofs.Ytenfahecnkdhaaa.Tr
end

section
/-
  How the names of two entries stand: compare, walked.
-/
namespace Go.Proofs.Ytenfahecnkdhaaa.Nd
open Go.RowKit
open Sim (hid Kp No)

/-- Bytes in their order. -/
def lexB : List Int → List Int → Bool
  | [], [] => false
  | [], _ :: _ => true
  | _ :: _, [] => false
  | x :: xs, y :: ys => if x < y then true else if y < x then false else lexB xs ys
theorem lexB_irr : ∀ x, lexB x x = false
  | [] => rfl
  | x :: xs => by simp [lexB, lexB_irr xs]
theorem lexB_tot : ∀ x y, x ≠ y → lexB x y = true ∨ lexB y x = true
  | [], [], h => absurd rfl h
  | [], _ :: _, _ => .inl rfl
  | _ :: _, [], _ => .inr rfl
  | x :: xs, y :: ys, h => by
    by_cases h1 : x < y
    · exact .inl (by simp [lexB, h1])
    · by_cases h2 : y < x
      · exact .inr (by simp [lexB, h2])
      · have e : x = y := by omega
        subst e
        rcases lexB_tot xs ys (fun e => h (by rw [e])) with h3 | h3
        · exact .inl (by simp [lexB, h3])
        · exact .inr (by simp [lexB, h3])
theorem lexB_trans : ∀ x y z, lexB x y = true → lexB y z = true → lexB x z = true
  | [], [], _, h, _ => by simp [lexB] at h
  | [], _ :: _, [], _, h => by simp [lexB] at h
  | [], _ :: _, _ :: _, _, _ => rfl
  | _ :: _, [], _, h, _ => by simp [lexB] at h
  | _ :: _, _ :: _, [], _, h => by simp [lexB] at h
  | x :: xs, y :: ys, z :: zs, h1, h2 => by
    simp only [lexB] at h1 h2 ⊢
    by_cases a1 : x < y
    · by_cases a2 : y < z
      · rw [if_pos (by omega)]
      · rw [if_neg a2] at h2
        by_cases a3 : z < y
        · rw [if_pos a3] at h2; cases h2
        · rw [if_pos (by omega)]
    · rw [if_neg a1] at h1
      by_cases a2 : y < x
      · rw [if_pos a2] at h1; cases h1
      · rw [if_neg a2] at h1
        have e : x = y := by omega
        subst e
        by_cases a3 : x < z
        · rw [if_pos a3]
        · rw [if_neg a3] at h2 ⊢
          by_cases a4 : z < x
          · rw [if_pos a4] at h2; cases h2
          · rw [if_neg a4] at h2 ⊢
            exact lexB_trans xs ys zs h1 h2
theorem lexOrd : Stb.Ord lexB := ⟨lexB_irr, lexB_trans, lexB_tot⟩

/-- How two stand. -/
def cmpE (a b : List Int) : Int := if lexB a b then -1 else if lexB b a then 1 else 0
theorem cmpE_neg (a b : List Int) : cmpE a b < 0 ↔ lexB a b = true := by
  unfold cmpE
  cases lexB a b <;> cases lexB b a <;> decide
theorem cmpE_zero (a b : List Int) : cmpE a b = 0 ↔ a = b := by
  unfold cmpE
  by_cases e : a = b
  · subst e
    simp [lexB_irr]
  · rcases lexB_tot a b e with h | h
    · simp [h, e]
    · have h2 := lexOrd.asym h
      simp [h, h2, e]
theorem cmp_bytes : ∀ (a b : List Int), (∀ x ∈ a, 0 ≤ x ∧ x ≤ 255) → (∀ x ∈ b, 0 ≤ x ∧ x ≤ 255) → Lib.compareBytes (Lib.bytesOf a) (Lib.bytesOf b) = cmpE a b
  | [], [], _, _ => rfl
  | [], _ :: _, _, _ => rfl
  | _ :: _, [], _, _ => rfl
  | x :: xs, y :: ys, hx, hy => by
    have h1 := hx x (by simp)
    have h2 := hy y (by simp)
    have ih := cmp_bytes xs ys (fun z hz => hx z (by simp [hz])) (fun z hz => hy z (by simp [hz]))
    have e : UInt8.ofNat x.toNat < UInt8.ofNat y.toNat ↔ x < y := by
      rw [UInt8.lt_iff_toNat_lt]
      simp
      omega
    have e' : UInt8.ofNat y.toNat < UInt8.ofNat x.toNat ↔ y < x := by
      rw [UInt8.lt_iff_toNat_lt]
      simp
      omega
    have e1 : Lib.bytesOf (x :: xs) = UInt8.ofNat x.toNat :: Lib.bytesOf xs := rfl
    have e2 : Lib.bytesOf (y :: ys) = UInt8.ofNat y.toNat :: Lib.bytesOf ys := rfl
    rw [e1, e2, Lib.compareBytes]
    simp only [e, e', ih, cmpE, lexB]
    by_cases hlt : x < y
    · simp [hlt]
    · by_cases hgt : y < x
      · simp [hlt, hgt]
      · simp [hlt, hgt]

theorem txt_cmp {a b : List Int} (ha : ∀ x ∈ a, 0 ≤ x ∧ x ≤ 255) (hb : ∀ x ∈ b, 0 ≤ x ∧ x ≤ 255) : Lib.compareBytes (txt a).data.toList (txt b).data.toList = cmpE a b := by
  have h := cmp_bytes a b ha hb
  simpa [txt] using h
theorem rng_new (w : World) (C : List Value) (ty : TypeId) : (w.alloc (.cells C.toArray ty)).rangeAt w.heap.size 0 C := fun j v hv => by
  rw [Nat.zero_add, World.cell?_alloc_at _ _ _ _ rfl]
  simpa using hv
/-- One that lies in a new block. -/
theorem box_ent (w : World) (x : Ent) (t : TypeId) : (w.alloc (.cells (entC x).toArray t)).rangeAt w.heap.size 0 (entC x) := rng_new w (entC x) t

set_option maxHeartbeats 2000000 in
theorem against_any (x : Ent) (s : List Int) (w : World) (hx : EOk x) (hs : ∀ y ∈ s, 0 ≤ y ∧ y ≤ 255) :
    Calls Try.prog 61 #[.agg (entC x).toArray, .string (txt s)] w fun e w' => e = .returned (.int .i64 (cmpE x.1 s)) ∧ Kp No w w' := by
  have HC := hid (fun W => Tr.compare_any (txt x.1) (txt s) W)
  rw [txt_cmp hx.1 hs] at HC
  have HR := hid (box_ent w x 70)
  have HK : Hid (Kp No w (w.alloc (.cells (entC x).toArray 70))) := (Kp.refl _ _).alloc _
  have c0 : (w.alloc (.cells (entC x).toArray 70)).cell? ⟨w.heap.size, 0, none⟩ = some (.string (txt x.1)) := HR.out 0 _ rfl
  generalize entC x = X at *
  clear hx hs HR
  go_enter Try.func61, Try.ntmps61
  go_wp2_with (go_at_call 77; refine (HC.out _).mono ?_; rintro e w1 ⟨rfl, hw⟩; subst hw)
  go_ret
  exact ⟨rfl, HK.out⟩

set_option maxHeartbeats 2000000 in
theorem compare_any (x y : Ent) (w : World) (hx : EOk x) (hy : EOk y) :
    Calls Try.prog 56 #[.agg (entC x).toArray, .agg (entC y).toArray] w fun e w' => e = .returned (.int .i64 (cmpE x.1 y.1)) ∧ Below w.heap.size w w' := by
  have HC := hid (fun W => against_any x y.1 W hx hy.1)
  have hsz : (w.alloc (.cells (entC x).toArray 70)).heap.size = w.heap.size + 1 := by simp
  have HR : Hid (((w.alloc (.cells (entC x).toArray 70)).alloc (.cells (entC y).toArray 70)).rangeAt w.heap.size 0 (entC x)) := World.rangeAt_alloc (rng_new w (entC x) 70) _
  have c0 : ((w.alloc (.cells (entC x).toArray 70)).alloc (.cells (entC y).toArray 70)).cell? ⟨w.heap.size + 1, 0, none⟩ = some (.string (txt y.1)) := by
    have h := rng_new (w.alloc (.cells (entC x).toArray 70)) (entC y) 70 0 _ rfl
    rw [hsz] at h
    exact h
  have HI := hid (inf hx)
  have HBB : Hid (Below w.heap.size w ((w.alloc (.cells (entC x).toArray 70)).alloc (.cells (entC y).toArray 70))) := ((Below.refl _ _).alloc (Nat.le_refl _) _).alloc (by simp) _
  clear hsz
  generalize entC x = X at *
  generalize entC y = Y at *
  clear hx hy
  go_enter Try.func56, Try.ntmps56
  generalize hW : (w.alloc (.cells X.toArray 70)).alloc (.cells Y.toArray 70) = W at *
  go_wp2_with (first
    | (refine wpList_load_mid (by rfl) 70 _ (by rfl) w.heap.size 0 (by rfl) X _ HR.out Try.underlying70 rfl HI.out ?_)
    | (go_at_call 61; refine (HC.out _).mono ?_; rintro e w2 ⟨rfl, h2⟩; have H2 := hid h2; clear h2))
  go_ret
  exact ⟨rfl, HBB.out.trans (H2.out.toBelow'.mono HBB.out.size)⟩

end Go.Proofs.Ytenfahecnkdhaaa.Nd
end

section
/-
  A range of entries is sorted by inserting.
-/
namespace Go.Proofs.Ytenfahecnkdhaaa.Nd
open Go.RowKit
open Stb (Stab Srt Mrg)
open Sim (hid Kp No)

abbrev ky (e : Ent) : List Int := e.1
theorem swap2_comm (d : List Ent) {i j : Nat} (h : i ≠ j) : swap2 d i j = swap2 d j i := by rw [swap2, swap2, List.set_comm _ _ h]
theorem swap2_back (A C : List Ent) (x y : Ent) : swap2 (A ++ x :: y :: C) (A.length + 1) A.length = A ++ y :: x :: C := by
  rw [swap2_comm _ (by omega)]
  exact swap2_blocks A [] C x y
/-- The value of the comparing, as it is handed on. -/
def cmpV : Value := .func (.func 56) #[] #[]

/-- In the midst of an inserting: y is on its way down. -/
structure InsSt (L R X : List Ent) (a i j b : Nat) (D : List Ent) (S1 S2 Y : List Ent) (y : Ent) : Prop where
  la : L.length = a
  lj : L.length + S1.length = j
  li : L.length + S1.length + S2.length = i
  lb : L.length + S1.length + S2.length + 1 + Y.length = b
  d : D = L ++ (S1 ++ (y :: (S2 ++ (Y ++ R))))
  srt : Srt ky lexB (S1 ++ S2)
  low : ∀ z ∈ S2, lexB y.1 z.1 = true
  st : Stab ky X (S1 ++ S2 ++ y :: Y)
/-- Between two: the first are sorted. -/
structure OutSt (L R X : List Ent) (a i b : Nat) (D : List Ent) (S Y : List Ent) : Prop where
  la : L.length = a
  li : L.length + S.length = i
  lb : L.length + S.length + Y.length = b
  d : D = L ++ (S ++ (Y ++ R))
  srt : Srt ky lexB S
  st : Stab ky X (S ++ Y)
section
variable {L R X D S1 S2 S Y : List Ent} {a i j b : Nat} {y : Ent}
theorem InsSt.done (h : InsSt L R X a i j b D S1 S2 Y y) (hs : ∀ z ∈ S1, lexB y.1 z.1 = false) : OutSt L R X a (i + 1) b D (S1 ++ y :: S2) Y := by
  have m := Mrg.one_last (key := ky) lexOrd hs h.low h.srt
  refine ⟨h.la, by have := h.li; simp; omega, by have := h.lb; simp; omega, by rw [h.d]; simp, m.2, ?_⟩
  refine h.st.trans ?_
  have := m.1.append (Stab.refl (key := ky) Y)
  simpa [List.append_assoc] using this
theorem InsSt.step {s : Ent} (h : InsSt L R X a i j b D (S1 ++ [s]) S2 Y y) (hl : lexB y.1 s.1 = true) : InsSt L R X a i (j - 1) b (swap2 D j (j - 1)) S1 (s :: S2) Y y := by
  have hj := h.lj
  have hi := h.li
  have hb := h.lb
  simp only [List.length_append, List.length_singleton] at hj hi hb
  refine ⟨h.la, by omega, by simp; omega, by simp; omega, ?_, by simpa using h.srt, fun z hz => ?_, by simpa using h.st⟩
  · rw [h.d]
    have e := swap2_back (L ++ S1) (S2 ++ (Y ++ R)) s y
    rw [show (L ++ S1).length = j - 1 by simp; omega, show j - 1 + 1 = j by omega] at e
    have e2 : L ++ ((S1 ++ [s]) ++ y :: (S2 ++ (Y ++ R))) = (L ++ S1) ++ s :: y :: (S2 ++ (Y ++ R)) := by simp
    rw [e2, e]
    simp
  · rcases List.mem_cons.1 hz with rfl | hz
    · exact hl
    · exact h.low z hz
theorem InsSt.get (h : InsSt L R X a i j b D S1 S2 Y y) : D[j]? = some y := by
  rw [h.d, ← h.lj, List.getElem?_append_right (by omega), List.getElem?_append_right (by omega)]
  simp
theorem InsSt.len (h : InsSt L R X a i j b D S1 S2 Y y) : D.length = b + R.length := by
  have hb := h.lb
  rw [h.d]
  simp
  omega
end
end Go.Proofs.Ytenfahecnkdhaaa.Nd
end
