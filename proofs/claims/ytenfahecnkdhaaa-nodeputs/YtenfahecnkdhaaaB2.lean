/- Of the proof: the texts TrMem, TrPlain, TrText, TrRow, TrPath, TrSplit, TrLess, NdCmp, one behind the other. -/
import Derived.Test.YtenfahecnkdhaaaRows
import Derived.WalkKit
import Derived.WalkSpells
import Derived.WalkLawsBesides
import Derived.Laws.AppendOwnNone
import Derived.Laws.NewBlocks
import Derived.Laws.LoneSync
import Derived.RegionCalls
import Derived.Deep.QuietTactic
import Derived.BigQuiet
import Derived.Maps.AppendAt
import Derived.Maps.OwnSet
import Derived.OneCell
import Derived.Lib.AppendZerosOnto
import Derived.ProofKit
import Derived.Lib.Split
import Derived.Lib.SplitLaws
import Derived.Lib.LastIndexByte
import Derived.Lib.IndexBytes
import Derived.Deep.LoopGhost
import Derived.Test.YtenfahecnkdhaaaTrShelf
import Derived.Test.YtenfahecnkdhaaaB1
import Derived.Lib.BytesEntry
import Derived.Deep.RegionWith
section
/-
  What stays as it was; bytes, rows and structs in memory.
-/
namespace Go.Proofs.Ytenfahecnkdhaaa.Tr
open Go.RowKit

theorem hid {p : Prop} (h : p) : Hid p := h
theorem getD_at {bs : List Nat} {k : Nat} (hk : k < bs.length) : bs.getD k 0 = bs[k] := by rw [List.getD_eq_getElem?_getD, List.getElem?_eq_getElem hk, Option.getD_some]
theorem addr_add (g o i : Nat) : (⟨g, o, none⟩ : Addr).add i = ⟨g, o + i, none⟩ := by unfold Addr.add; split <;> simp_all
theorem cell_other {w : World} {b i j : Nat} {x : Value} (h : j ≠ i) : (w.setCell ⟨b, i, none⟩ x).cell? ⟨b, j, none⟩ = w.cell? ⟨b, j, none⟩ := World.cell?_setCell_other _ _ _ _ (by simp only [ne_eq, Addr.mk.injEq, true_and, and_true]; omega)

/-! ### What stays as it was -/
/-- All blocks that are not in L hold what they held. -/
structure Kp (L : Nat → Prop) (w w' : World) : Prop where
  os : w'.os = w.os
  tape : w'.tape = w.tape
  output : w'.output = w.output
  size : w.heap.size ≤ w'.heap.size
  block : ∀ k, k < w.heap.size → ¬ L k → w'.heap[k]? = w.heap[k]?

def No : Nat → Prop := fun _ => False
theorem Kp.refl (L : Nat → Prop) (w : World) : Kp L w w := ⟨rfl, rfl, rfl, Nat.le_refl _, fun _ _ _ => rfl⟩
/-- One behind the other: what the second one writes is the first one's, or new. -/
theorem Kp.trans {L M : Nat → Prop} {u v w : World} (h : Kp L u v) (k : Kp M v w) (hm : ∀ x, M x → L x ∨ u.heap.size ≤ x) : Kp L u w :=
  ⟨k.os.trans h.os, k.tape.trans h.tape, k.output.trans h.output, Nat.le_trans h.size k.size, fun i h1 h2 => (k.block i (Nat.lt_of_lt_of_le h1 h.size) (fun hi => by
    rcases hm i hi with h | h
    · exact h2 h
    · omega)).trans (h.block i h1 h2)⟩
theorem Kp.mono {L M : Nat → Prop} {u w : World} (h : Kp L u w) (hs : ∀ x, L x → M x ∨ u.heap.size ≤ x) : Kp M u w := (Kp.refl M u).trans h hs
theorem Kp.ofNo {M : Nat → Prop} {u w : World} (h : Kp No u w) : Kp M u w := h.mono (fun _ hx => hx.elim)
theorem Kp.andNone {L : Nat → Prop} {u v w : World} (h : Kp L u v) (k : Kp No v w) : Kp L u w := h.trans k (fun _ hx => hx.elim)
theorem Kp.below {L : Nat → Prop} {u w : World} (h : Below u.heap.size u w) : Kp L u w := ⟨h.os, h.tape, h.output, h.size, fun k hk _ => h.block k hk⟩
theorem Kp.alloc {L : Nat → Prop} {u w : World} (h : Kp L u w) (o : Obj) : Kp L u (w.alloc o) := h.trans (M := No) (Kp.below ((Below.refl _ _).alloc (Nat.le_refl _) _)) (fun _ hx => hx.elim)
theorem Kp.setCell {L : Nat → Prop} {u w : World} (h : Kp L u w) {p : Addr} (hp : L p.block ∨ u.heap.size ≤ p.block) (x : Value) : Kp L u (w.setCell p x) :=
  ⟨h.os, h.tape, h.output, by simpa using h.size, fun k h1 h2 => (Below.heap_setCell _ _ _ _ (by
    intro e
    rcases hp with hp | hp
    · exact h2 (e ▸ hp)
    · omega)).trans (h.block k h1 h2)⟩
theorem Kp.drew {L : Nat → Prop} {u w : World} (h : Kp L u w) : Kp L u w.drew := ⟨h.os, h.tape, h.output, h.size, h.block⟩
theorem Kp.drewN {L : Nat → Prop} {u w : World} (h : Kp L u w) (q : Nat) : Kp L u (w.drewN q) := h.trans (M := No) (Kp.below (below_drewN (Below.refl _ _) q)) (fun _ hx => hx.elim)
theorem Kp.grown {L : Nat → Prop} {u w w' : World} {row : Option Nat} (h : Kp L u w) (hg : w.grownBy w' row) (hr : ∀ x, row = some x → L x ∨ u.heap.size ≤ x) : Kp L u w' :=
  ⟨hg.os.trans h.os, hg.tape.trans h.tape, hg.output.trans h.output, Nat.le_trans h.size hg.size, fun k h1 h2 => (hg.block k (Nat.lt_of_lt_of_le h1 h.size) (fun e => by
    rcases hr k e.symm with h | h
    · exact h2 h
    · omega)).trans (h.block k h1 h2)⟩
theorem Kp.ofGrown {w w' : World} {row : Option Nat} (hg : w.grownBy w' row) : Kp (fun x => row = some x) w w' := (Kp.refl _ _).grown hg (fun _ h => .inl h)
theorem Kp.cell {L : Nat → Prop} {w w' : World} (h : Kp L w w') {p : Addr} (h1 : p.block < w.heap.size) (h2 : ¬ L p.block) : w'.cell? p = w.cell? p := World.cell?_of_block (w := w) (h.block p.block h1 h2)
theorem Kp.frozen {L : Nat → Prop} {w w' : World} (h : Kp L w w') {p : Addr} (h1 : p.block < w.heap.size) (h2 : ¬ L p.block) : w'.frozen? p = w.frozen? p := World.frozen?_of_block (w := w) (h.block p.block h1 h2)
theorem Kp.toBelow {L : Nat → Prop} {u w : World} (k : Kp L u w) (hb : ∀ x, L x → u.heap.size ≤ x) : Below u.heap.size u w :=
  ⟨k.os, k.tape, k.output, k.size, fun i hi => k.block i hi (fun hm => by have := hb i hm; omega)⟩
theorem Kp.toBelow' {u w : World} (k : Kp No u w) : Below u.heap.size u w := k.toBelow (fun _ h => h.elim)
/-- .. of a world ahead. -/
theorem Kp.under {L : Nat → Prop} {B : Nat} {u v w : World} (h : Below B u v) (k : Kp L v w) (hb : ∀ x, L x → B ≤ x) (hB : B ≤ v.heap.size) : Below B u w :=
  h.trans ⟨k.os, k.tape, k.output, k.size, fun i hi => k.block i (by omega) (fun hm => by have := hb i hm; omega)⟩

/-! ### A block of cells, whole -/
def Blk (w : World) (b : Nat) (t : TypeId) (cs : List Value) : Prop := w.heap[b]? = some (.cells cs.toArray t (0, 0))
theorem Blk.lt {w : World} {b : Nat} {t : TypeId} {cs : List Value} (h : Blk w b t cs) : b < w.heap.size := (Array.getElem?_eq_some_iff.1 h).1
theorem Blk.kp {L : Nat → Prop} {w w' : World} {b : Nat} {t : TypeId} {cs : List Value} (h : Blk w b t cs) (k : Kp L w w') (hb : ¬ L b) : Blk w' b t cs := (k.block b h.lt hb).trans h
theorem Blk.ne {w : World} {b b' : Nat} {t t' : TypeId} {cs cs' : List Value} (h : Blk w b t cs) (h' : Blk w b' t' cs') (ht : t ≠ t') : b ≠ b' := by
  intro e
  subst e
  unfold Blk at h h'
  rw [h] at h'
  simp at h'
  exact ht h'.2
theorem Blk.cell {w : World} {b : Nat} {t : TypeId} {cs : List Value} (h : Blk w b t cs) (j : Nat) : w.cell? ⟨b, j, none⟩ = cs[j]? := by
  unfold Blk at h
  simp [World.cell?, h]
theorem Blk.frozen {w : World} {b : Nat} {t : TypeId} {cs : List Value} (h : Blk w b t cs) (j : Nat) : w.frozen? ⟨b, j, none⟩ = false := by
  unfold Blk at h
  simp [World.frozen?, h]
theorem Blk.new (w : World) (t : TypeId) (cs : List Value) : Blk (w.alloc (.cells cs.toArray t)) w.heap.size t cs := (MapKept.heap_alloc w _).1
theorem Blk.setCell {w : World} {b : Nat} {t : TypeId} {cs : List Value} (h : Blk w b t cs) (j : Nat) (x : Value) : Blk (w.setCell ⟨b, j, none⟩ x) b t (cs.set j x) := by
  unfold Blk at h ⊢
  simp [World.setCell, Array.getElem?_modify, h]

/-! ### Bytes that are read -/
/-- Bytes as cells. -/
def cl (xs : List Nat) : List Value := xs.map fun x : Nat => .int .u8 (x : Int)
theorem cl_length (xs : List Nat) : (cl xs).length = xs.length := by simp [cl]
theorem cl_append (xs ys : List Nat) : cl (xs ++ ys) = cl xs ++ cl ys := by simp [cl]
theorem cl_at (xs : List Nat) (i : Nat) (h : i < xs.length) : (cl xs)[i]? = some (.int .u8 (xs.getD i 0 : Nat)) := by simp [cl, List.getElem?_eq_getElem h]
theorem cl_one (xs : List Nat) : ∀ u ∈ cl xs, u.oneCell' = true := by intro u hu; obtain ⟨x, _, rfl⟩ := List.mem_map.1 hu; rfl

/-- v is a slice of the bytes bs, in a block of which P. -/
def ByP (P : Nat → Prop) (w : World) (v : Value) (bs : List Nat) : Prop :=
  ∃ a cap, v = .slice a bs.length cap ∧ bs.length ≤ cap ∧ cap ≤ maxLen ∧ (a = none → bs = [] ∧ cap = 0) ∧ bs.length ≤ 9223372036854775807 ∧ (∀ x ∈ bs, x < 256) ∧
    (bs ≠ [] → ∃ g o, a = some ⟨g, o, none⟩ ∧ P g ∧ g < w.heap.size ∧ ∀ i, i < bs.length → w.cell? ⟨g, o + i, none⟩ = some (.int .u8 (bs.getD i 0 : Nat)))

theorem ByP.nil (P : Nat → Prop) (w : World) : ByP P w (.slice none 0 0) [] := ⟨_, 0, rfl, Nat.le_refl _, Nat.zero_le _, fun _ => ⟨rfl, rfl⟩, by simp, by simp, fun h => absurd rfl h⟩
theorem ByP.mono {P Q : Nat → Prop} {w : World} {v : Value} {bs : List Nat} (h : ByP P w v bs) (hm : ∀ x, x < w.heap.size → P x → Q x) : ByP Q w v bs := by
  obtain ⟨a, cap, h1, h2, h3, h4, h5, h6, h7⟩ := h
  refine ⟨a, cap, h1, h2, h3, h4, h5, h6, fun hne => ?_⟩
  obtain ⟨g, o, e, hgb, hg, hc⟩ := h7 hne
  exact ⟨g, o, e, hm g hg hgb, hg, hc⟩
theorem ByP.kp {P L : Nat → Prop} {w w' : World} {v : Value} {bs : List Nat} (h : ByP P w v bs) (k : Kp L w w') (hm : ∀ x, L x → x < w.heap.size → ¬ P x) : ByP P w' v bs := by
  obtain ⟨a, cap, h1, h2, h3, h4, h5, h6, h7⟩ := h
  refine ⟨a, cap, h1, h2, h3, h4, h5, h6, fun hne => ?_⟩
  obtain ⟨g, o, e, hgb, hg, hc⟩ := h7 hne
  exact ⟨g, o, e, hgb, Nat.lt_of_lt_of_le hg k.size, fun i hi => (k.cell (p := ⟨g, o + i, none⟩) hg (fun hx => hm g hx hg hgb)).trans (hc i hi)⟩
theorem ByP.kept {P : Nat → Prop} {w w' : World} {v : Value} {bs : List Nat} (h : ByP P w v bs) (k : Kp No w w') : ByP P w' v bs := h.kp k (fun _ hx => hx.elim)
theorem ByP.front {P : Nat → Prop} {w : World} {a : Option Addr} {n0 cap : Nat} {bs : List Nat} (h : ByP P w (.slice a n0 cap) bs) (n : Nat) (hn : n ≤ bs.length) : ByP P w (.slice a n cap) (bs.take n) := by
  obtain ⟨a', cap', e, h2, h3, h4, h5, h6, h7⟩ := h
  cases e
  have hl : (bs.take n).length = n := List.length_take_of_le hn
  refine ⟨a, cap, by rw [hl], by omega, h3, fun e => ?_, by omega, fun x hx => h6 x (List.mem_of_mem_take hx), fun hne => ?_⟩
  · obtain ⟨rfl, rfl⟩ := h4 e
    exact ⟨by simp, rfl⟩
  · have hb : bs ≠ [] := fun e => hne (by rw [e]; simp)
    obtain ⟨g, o, e, hg, hg', hc⟩ := h7 hb
    refine ⟨g, o, e, hg, hg', fun i hi => ?_⟩
    rw [hc i (by omega)]
    have : (bs.take n).getD i 0 = bs.getD i 0 := by simp [show i < n by omega]
    rw [this]

/-! ### Rows of the call's own -/
/-- v is a row of the call's own, of n elements of the type e, each of sz cells. -/
def Row (w : World) (e : TypeId) (sz : Nat) (v : Value) (n : Nat) (xs : List Value) : Prop := w.ownsRow 0 e sz v n xs

theorem Row.nil (w : World) (e : TypeId) (sz : Nat) : Row w e sz (.slice none 0 0) 0 [] := World.ownsRow_nil _ _ _ _
theorem Row.kp {L : Nat → Prop} {w w' : World} {e : TypeId} {sz n : Nat} {v : Value} {xs : List Value} (h : Row w e sz v n xs) (k : Kp L w w') (hv : ∀ x, v.ownBlock = some x → ¬ L x) : Row w' e sz v n xs := by
  refine ⟨h.1, ?_⟩
  rcases h.2 with hn | ⟨g, cap, cur, rfl, hb, hgg, rest⟩
  · exact .inl hn
  · exact .inr ⟨g, cap, cur, rfl, hb, by rw [k.block g (Array.getElem?_eq_some_iff.1 hgg).1 (hv g rfl)]; exact hgg, rest⟩
theorem Row.kept {w w' : World} {e : TypeId} {sz n : Nat} {v : Value} {xs : List Value} (h : Row w e sz v n xs) (k : Kp No w w') : Row w' e sz v n xs := h.kp k (fun _ _ hx => hx.elim)
theorem Row.lt {w : World} {e : TypeId} {sz n : Nat} {v : Value} {xs : List Value} (h : Row w e sz v n xs) : ∀ x, v.ownBlock = some x → x < w.heap.size := fun x hx => (World.ownsRow.lt h x hx).2
/-- Blocks of other types are other blocks. -/
theorem Row.ne {w : World} {e : TypeId} {sz n : Nat} {v : Value} {xs : List Value} (h : Row w e sz v n xs) {b : Nat} {cs : List Value} {t : TypeId} (hb : Blk w b t cs) (ht : t ≠ e) : v.ownBlock ≠ some b := by
  rcases h.2 with ⟨rfl, _⟩ | ⟨g, cap, cur, rfl, _, hgg, _⟩
  · simp [Value.ownBlock]
  · intro hx
    simp [Value.ownBlock] at hx
    subst hx
    unfold Blk at hb
    rw [hgg] at hb
    simp at hb
    exact ht hb.2.symm
theorem Row.ne' {w : World} {e e' : TypeId} {sz n sz' n' : Nat} {v v' : Value} {xs xs' : List Value} (h : Row w e sz v n xs) (h' : Row w e' sz' v' n' xs') (ht : e ≠ e') : ∀ x, v.ownBlock = some x → v'.ownBlock ≠ some x := by
  intro x hx hx'
  rcases h.2 with ⟨rfl, _⟩ | ⟨g, cap, cur, rfl, _, hgg, _⟩
  · simp [Value.ownBlock] at hx
  · rcases h'.2 with ⟨rfl, _⟩ | ⟨g', cap', cur', rfl, _, hgg', _⟩
    · simp [Value.ownBlock] at hx'
    · simp [Value.ownBlock] at hx hx'
      subst hx hx'
      rw [hgg] at hgg'
      simp at hgg'
      exact ht hgg'.2
theorem Row.shape {w : World} {e : TypeId} {sz n : Nat} {v : Value} {xs : List Value} (h : Row w e sz v n xs) : ∃ a cap, v = .slice a n cap ∧ n ≤ cap ∧ cap ≤ maxLen ∧ (a = none → n = 0 ∧ cap = 0) ∧ ∀ x, a = some x → x.spot = none ∧ x.off = 0 := by
  rcases h.2 with ⟨rfl, h0⟩ | ⟨g, cap, cur, rfl, hg, hh, hn, hc, hs, ht⟩
  · subst h0
    exact ⟨none, 0, rfl, Nat.le_refl _, Nat.zero_le _, fun _ => ⟨rfl, rfl⟩, by simp⟩
  · exact ⟨_, cap, rfl, hn, hc, by simp, fun x hx => by cases hx; exact ⟨rfl, rfl⟩⟩
theorem Row.cellAt {w : World} {e : TypeId} {sz n g cap : Nat} {xs : List Value} (h : Row w e sz (.slice (some ⟨g, 0, none⟩) n cap) n xs) (i : Nat) (hi : i < n * sz) : w.cell? ⟨g, i, none⟩ = xs[i]? := by
  obtain ⟨hl, h2⟩ := h
  have hx : xs[i]? = some xs[i] := List.getElem?_eq_getElem (by omega)
  have h3 := World.ownsRow.cells (w := w) (base := 0) (e := e) (size := sz) (v := .slice (some ⟨g, 0, none⟩) n cap) (n := n) (xs := xs) ⟨hl, h2⟩ (g := g) rfl i xs[i] hx
  rw [addr_add, Nat.zero_add] at h3
  rw [h3, hx]

/-- The values of a slice that is read. -/
def Src (w : World) (v : Value) (m sz : Nat) (ys : List Value) : Prop :=
  (v = .slice none 0 0 ∧ m = 0 ∧ ys = []) ∨ ∃ ad c, v = .slice (some ad) m c ∧ ys.length = m * sz ∧ (∀ j u, ys[j]? = some u → w.cell? (ad.add j) = some u) ∧ ∀ u ∈ ys, u.oneCell' = true

/-- append(v, x...), v of the call's own. -/
theorem app_row {ops : Array Oper} {rest : List Oper} {o : Oper} {a : Act} {Q : Exit → Act → World → Prop} (w : World) (hgd : o.guard = none) (s x : Operand) (t e : TypeId) (z : Value) (sz by' : Nat)
    (ho : o.op = .call { callee := .builtin .append, args := #[s, x], argTypes := #[t, t] }) (ht : Try.prog.underlying t = some (.slice e)) (hin : (Try.prog.info? e).map (fun i => (i.zero, i.size, i.bytes)) = some (some z, sz, by'))
    (hz1 : z.cells.size = sz) (hsz : 0 < sz) (v vx : Value) (n m : Nat) (xs ys : List Value) (hs : a.eval s = v) (hx : a.eval x = vx)
    (hown : Row w e sz v n xs) (hy : Src w vx m sz ys) (hlen : n + m ≤ 20000000) (hby : by' ≤ 1000)
    (h : ∀ ad cap w', Row w' e sz (.slice ad (n + m) cap) (n + m) (xs ++ ys) → w.grownBy w' v.ownBlock → ((Value.slice ad (n + m) cap).ownBlock = v.ownBlock ∨ (Value.slice ad (n + m) cap).ownBlock = some w.heap.size) → wpList Try.prog ops Q rest (a.put o.dst (.slice ad (n + m) cap)) w') : wpList Try.prog ops Q (o :: rest) a w := by
  obtain ⟨i0, hi, hz0, hz1', hz2⟩ := info_parts hin
  rcases hy with ⟨rfl, rfl, rfl⟩ | ⟨ad, c, rfl, hl, hc, h1⟩
  · refine wpList_append_own_none hgd s x t ho 0 e i0 sz ht hi v n xs hs hown hx ?_
    obtain ⟨ad, cap, rfl, _⟩ := hown.shape
    exact h ad cap w (by rw [List.append_nil]; exact hown) ⟨rfl, rfl, rfl, Nat.le_refl _, fun _ _ _ => rfl⟩ (.inl rfl)
  · refine wpList_append_own_at (P := Try.prog) w hgd s x t ho 0 e i0 z sz by' ht hi hz0 hz1' hz2 hz1 hsz v n xs hs hown ad m c ys hx hl hc h1 (by unfold maxLen; omega) ?_ (Nat.zero_le _) ?_
    · have : (n + m) * by' ≤ 20000000 * 1000 := Nat.mul_le_mul hlen hby
      omega
    · intro v' w' h8 h9 _ h10
      have h8' : Row w' e sz v' (n + m) (xs ++ ys) := h8
      obtain ⟨ad', cap', rfl, _⟩ := h8'.shape
      exact h ad' cap' w' h8 h9 h10

/-- A literal of one element. -/
theorem Src.one (w : World) (us : List Value) (sz : Nat) (t : TypeId) (hl : us.length = sz) (h1 : ∀ u ∈ us, u.oneCell' = true) : Src (w.alloc (.cells us.toArray t)) (.slice (some ⟨w.heap.size, 0, none⟩) 1 1) 1 sz us :=
  .inr ⟨_, 1, rfl, by omega, fun j x hj => by
    rw [addr_add, World.cell?_alloc_at _ _ _ _ rfl]
    simpa using hj, h1⟩

/-! ### Bytes of the call's own -/
/-- v is a row of the call's own, of the bytes xs. -/
def OwnB (w : World) (v : Value) (xs : List Nat) : Prop := Row w 5 1 v xs.length (cl xs)
theorem OwnB.row {w : World} {v : Value} {xs : List Nat} (h : OwnB w v xs) : Row w 5 1 v xs.length (cl xs) := h
theorem OwnB.nil (w : World) : OwnB w (.slice none 0 0) [] := Row.nil _ _ _
theorem OwnB.shape {w : World} {v : Value} {xs : List Nat} (h : OwnB w v xs) : ∃ a cap, v = .slice a xs.length cap ∧ xs.length ≤ cap ∧ cap ≤ maxLen ∧ (a = none → xs = [] ∧ cap = 0) := by
  obtain ⟨a, cap, h1, h2, h3, h4, _⟩ := h.row.shape
  exact ⟨a, cap, h1, h2, h3, fun e => ⟨List.length_eq_zero_iff.1 (h4 e).1, (h4 e).2⟩⟩
theorem OwnB.byP {P : Nat → Prop} {w : World} {v : Value} {xs : List Nat} (h : OwnB w v xs) (hP : ∀ x, v.ownBlock = some x → P x) (hl : xs.length ≤ 20000000) (hx : ∀ x ∈ xs, x < 256) : ByP P w v xs := by
  rcases h.row.2 with ⟨rfl, h0⟩ | ⟨g, cap, cur, rfl, hg, hh, hn, hc, hs, ht⟩
  · have : xs = [] := List.length_eq_zero_iff.1 h0
    subst this
    exact ByP.nil _ _
  · refine ⟨_, cap, rfl, hn, hc, by simp, by omega, hx, fun _ => ⟨g, 0, rfl, hP g rfl, (Array.getElem?_eq_some_iff.1 hh).1, fun i hi => ?_⟩⟩
    rw [Nat.zero_add, h.row.cellAt i (by omega)]
    exact cl_at xs i hi
theorem ByP.src {P : Nat → Prop} {w : World} {v : Value} {ys : List Nat} (h : ByP P w v ys) : Src w v ys.length 1 (cl ys) := by
  obtain ⟨a, cap, rfl, h2, h3, h4, h5, h6, h7⟩ := h
  cases a with
  | none =>
    obtain ⟨rfl, rfl⟩ := h4 rfl
    exact .inl ⟨rfl, rfl, rfl⟩
  | some ad =>
    refine .inr ⟨ad, cap, rfl, by rw [cl_length, Nat.mul_one], fun j u hj => ?_, cl_one ys⟩
    have hjn : j < ys.length := by
      have := (List.getElem?_eq_some_iff.1 hj).1
      rwa [cl_length] at this
    obtain ⟨g, o, e, _, hb, hc⟩ := h7 (by intro e; subst e; simp at hjn)
    simp only [Option.some.injEq] at e
    subst e
    rw [addr_add, hc j hjn, ← cl_at ys j hjn]
    exact hj
theorem Try.info5 : (Try.prog.info? 5).map (fun i => (i.zero, i.size, i.bytes)) = some (some (.int .u8 0), 1, 1) := by kernel_rfl
/-- append of bytes. -/
theorem app_bytes {ops : Array Oper} {rest : List Oper} {o : Oper} {a : Act} {Q : Exit → Act → World → Prop} (w : World) (hgd : o.guard = none) (s x : Operand)
    (ho : o.op = .call { callee := .builtin .append, args := #[s, x], argTypes := #[26, 26] }) (v vx : Value) (xs ys : List Nat) (P : Nat → Prop) (hs : a.eval s = v) (hx : a.eval x = vx)
    (hown : OwnB w v xs) (hy : ByP P w vx ys) (hlen : xs.length + ys.length ≤ 20000000)
    (h : ∀ ad cap w', OwnB w' (.slice ad (xs.length + ys.length) cap) (xs ++ ys) → w.grownBy w' v.ownBlock → ((Value.slice ad (xs.length + ys.length) cap).ownBlock = v.ownBlock ∨ (Value.slice ad (xs.length + ys.length) cap).ownBlock = some w.heap.size) → wpList Try.prog ops Q rest (a.put o.dst (.slice ad (xs.length + ys.length) cap)) w') : wpList Try.prog ops Q (o :: rest) a w := by
  refine app_row w hgd s x 26 5 (.int .u8 0) 1 1 ho Try.underlying26 Try.info5 rfl (by decide) v vx xs.length ys.length (cl xs) (cl ys) hs hx hown.row hy.src hlen (by decide) ?_
  intro ad cap w' h1 h2 h3
  exact h ad cap w' (by unfold OwnB; rw [cl_append, List.length_append]; exact h1) h2 h3

theorem Try.nilEq (w : World) (a : Option Addr) (n c n' c' : Nat) : (binOp .eql 26 (.slice a n c) (.slice none n' c')).run Try.prog w = .ok (.bool a.isNone) w :=
  Lib.run_eql_slice_nil w _ _ a n c n' c' Try.underlying26
theorem own_empty (w : World) : OwnB (w.alloc (.cells #[] 5)) (.slice (some ⟨w.heap.size, 0, none⟩) 0 0) [] := World.ownsRow_made w #[] 0 (Nat.zero_le _) (Nat.zero_le _) rfl

set_option maxHeartbeats 1000000 in
/-- bytes.Clone. -/
theorem clone_any {P : Nat → Prop} (v : Value) (bs : List Nat) (w : World) (h : ByP P w v bs) (hl : bs.length ≤ 20000000) :
    Calls Try.prog 47 #[v] w fun e w' => ∃ ad cap, e = .returned (.slice ad bs.length cap) ∧ OwnB w' (.slice ad bs.length cap) bs ∧ (∀ x, (Value.slice ad bs.length cap).ownBlock = some x → w.heap.size ≤ x) ∧ Kp No w w' := by
  have q22 := Try.nilEq
  have H := hid h
  obtain ⟨a, cap, rfl, h2, h3, h4, h5, h6, h7⟩ := h
  clear h6 h7
  cases a with
  | none =>
    obtain ⟨rfl, rfl⟩ := h4 rfl
    go_enter Try.func47, Try.ntmps47
    go_wp2
    go_ret
    exact ⟨_, _, rfl, OwnB.nil _, by simp [Value.ownBlock], Kp.refl _ _⟩
  | some ad =>
    clear h4
    go_enter Try.func47, Try.ntmps47
    go_wp2_with (at_builtin; refine app_bytes _ rfl _ _ rfl (.slice (some ⟨w.heap.size, 0, none⟩) 0 0) _ [] bs P rfl rfl (own_empty w) (H.out.kept ((Kp.refl _ _).alloc _)) (by simpa using hl) ?_; intro ad' cap' w' hown hg hb)
    go_wp2
    go_ret
    rw [List.length_nil, Nat.zero_add] at hown hb
    refine ⟨ad', cap', rfl, by simpa using hown, fun x hx => ?_, ((Kp.refl _ w).alloc _).grown hg (fun x hx => .inr (by simp [Value.ownBlock] at hx; omega))⟩
    rcases hb with hb | hb
    · rw [hb] at hx
      simp [Value.ownBlock] at hx
      omega
    · rw [hb] at hx
      simp at hx
      omega

end Go.Proofs.Ytenfahecnkdhaaa.Tr
end

section
/-
  Texts of paths, purely: parts, how a text is cut at each /, paths, and how a path is split.
-/
namespace Go.Proofs.Ytenfahecnkdhaaa.Tr

abbrev Tx := List UInt8
def sgn (c : UInt8) : Bool := decide (33 ≤ c.toNat) && decide (c.toNat ≤ 126) && !(c.toNat == 47)
def partB (s : Tx) : Bool := decide (1 ≤ s.length) && decide (s.length ≤ 20) && !(s == [46]) && !(s == [46, 46]) && s.all sgn
/-- p put ahead of the first one. -/
def ahd (p : Tx) : List Tx → List Tx
  | [] => [p]
  | h :: t => (p ++ h) :: t
/-- A text, cut at each /. -/
def cuts : Tx → List Tx
  | [] => [[]]
  | c :: r => if c = 47 then [] :: cuts r else ahd [c] (cuts r)
def pathB (s : Tx) : Bool := decide ((cuts s).length ≤ 6) && (cuts s).all partB

theorem cuts_ne (s : Tx) : cuts s ≠ [] := by
  cases s with
  | nil => simp [cuts]
  | cons c r =>
    rw [cuts]
    split
    · simp
    · cases cuts r <;> simp [ahd]
theorem ahd_nil (l : List Tx) (h : l ≠ []) : ahd [] l = l := by
  cases l with
  | nil => exact absurd rfl h
  | cons a t => rfl
theorem ahd_ahd (p q : Tx) (l : List Tx) : ahd p (ahd q l) = ahd (p ++ q) l := by cases l <;> simp [ahd]
theorem ahd_length (p : Tx) (l : List Tx) (h : l ≠ []) : (ahd p l).length = l.length := by
  cases l with
  | nil => exact absurd rfl h
  | cons a t => rfl
/-- All lengths, with one for each /. -/
def tot (l : List Tx) : Nat := (l.map (fun x => x.length + 1)).sum
theorem tot_ahd (p : Tx) (l : List Tx) (h : l ≠ []) : tot (ahd p l) = p.length + tot l := by
  cases l with
  | nil => exact absurd rfl h
  | cons a t => simp [ahd, tot]; omega
theorem tot_cuts : ∀ s : Tx, tot (cuts s) = s.length + 1
  | [] => rfl
  | c :: r => by
    rw [cuts]
    split
    · have := tot_cuts r
      simp only [tot, List.map_cons, List.sum_cons, List.length_nil, List.length_cons] at this ⊢
      omega
    · rw [tot_ahd _ _ (cuts_ne r), tot_cuts r]
      simp
      omega
theorem cuts_len (s : Tx) : (cuts s).length ≤ s.length + 1 := by
  induction s with
  | nil => simp [cuts]
  | cons c r ih =>
    rw [cuts]
    split
    · simp; omega
    · rw [ahd_length _ _ (cuts_ne r)]; simp; omega
theorem tot_le : ∀ l : List Tx, l.all partB = true → tot l ≤ l.length * 21
  | [], _ => by simp [tot]
  | x :: t, h => by
    simp only [List.all_cons, Bool.and_eq_true] at h
    have h1 := tot_le t h.2
    have h2 : x.length ≤ 20 := by
      have := h.1
      simp only [partB, Bool.and_eq_true, decide_eq_true_eq] at this
      exact this.1.1.1.2
    simp only [tot, List.map_cons, List.sum_cons, List.length_cons] at h1 ⊢
    omega
theorem path_len {s : Tx} (h : pathB s = true) : s.length ≤ 125 := by
  simp only [pathB, Bool.and_eq_true, decide_eq_true_eq] at h
  have h1 := tot_le _ h.2
  have h2 := tot_cuts s
  have h3 : (cuts s).length * 21 ≤ 6 * 21 := Nat.mul_le_mul_right _ h.1
  omega
theorem cuts_of_index : ∀ (s : Tx), (Lib.indexByte s 47 = -1 ∧ cuts s = [s]) ∨ ∃ i : Nat, Lib.indexByte s 47 = i ∧ i < s.length ∧ cuts s = s.take i :: cuts (s.drop (i + 1))
  | [] => .inl ⟨rfl, rfl⟩
  | c :: r => by
    by_cases hc : c = 47
    · subst hc
      refine .inr ⟨0, by simp [Lib.indexByte], by simp, ?_⟩
      simp [cuts]
    · have hb : (c == 47) = false := by simp [hc]
      rcases cuts_of_index r with ⟨h1, h2⟩ | ⟨i, h1, h2, h3⟩
      · refine .inl ⟨?_, ?_⟩
        · rw [Lib.indexByte, hb, h1]; rfl
        · rw [cuts, if_neg hc, h2]; rfl
      · refine .inr ⟨i + 1, ?_, by simpa using h2, ?_⟩
        · rw [Lib.indexByte, hb, h1]
          have : ((i : Int) == -1) = false := by simp
          rw [this]
          simp
        · rw [cuts, if_neg hc, h3]
          simp [ahd]
theorem splitK_all : ∀ (k : Nat) (s : Tx), (cuts s).length ≤ k + 1 → Lib.splitK [47] 0 k s = cuts s
  | 0, s, h => by
    rcases cuts_of_index s with ⟨_, h2⟩ | ⟨i, _, _, h3⟩
    · rw [h2]; rfl
    · rw [h3, List.length_cons] at h
      have := List.length_pos_iff.2 (cuts_ne (s.drop (i + 1)))
      omega
  | k + 1, s, h => by
    rcases cuts_of_index s with ⟨h1, h2⟩ | ⟨i, h1, _, h3⟩
    · rw [Lib.splitK, Lib.index_one, h1, h2]; rfl
    · rw [Lib.splitK, Lib.index_one, h1, h3]
      have : ((i : Int) == -1) = false := by simp
      rw [this]
      simp only [Bool.false_eq_true, if_false, Int.toNat_natCast, Nat.add_zero, List.length_cons, List.length_nil, Nat.zero_add]
      rw [splitK_all k _ (by rw [h3] at h; simpa using h)]
theorem splitK_more : ∀ (k : Nat) (s : Tx), k + 1 ≤ (cuts s).length → (Lib.splitK [47] 0 k s).length = k + 1
  | 0, s, _ => rfl
  | k + 1, s, h => by
    rcases cuts_of_index s with ⟨h1, h2⟩ | ⟨i, h1, _, h3⟩
    · rw [h2] at h
      simp at h
    · rw [Lib.splitK, Lib.index_one, h1]
      have : ((i : Int) == -1) = false := by simp
      rw [this]
      simp only [Bool.false_eq_true, if_false, Int.toNat_natCast, Nat.add_zero, List.length_cons, List.length_nil, Nat.zero_add]
      rw [splitK_more k _ (by rw [h3] at h; simpa using h)]
/-- What SplitN of at most seven tells. -/
theorem path_split (s : Tx) : pathB s = (decide ((Lib.splitK [47] 0 (min 7 (s.length + 1) - 1) s).length ≤ 6) && (Lib.splitK [47] 0 (min 7 (s.length + 1) - 1) s).all partB) := by
  by_cases h : (cuts s).length ≤ 6
  · rw [splitK_all _ s (by have := cuts_len s; omega)]
    rfl
  · have h1 := cuts_len s
    have h2 := splitK_more 6 s (by omega)
    have e : min 7 (s.length + 1) - 1 = 6 := by omega
    rw [e, h2, pathB, decide_eq_false h]
    rfl

end Go.Proofs.Ytenfahecnkdhaaa.Tr
end

section
/-
  Part, of the program and of the document.
-/
namespace Go.Proofs.Ytenfahecnkdhaaa.Tr
open Go.RowKit

/-- A text's byte. -/
def byt (s : ByteArray) (i : Nat) : Nat := (s.data.toList.getD i 0).toNat
theorem byt_lt (s : ByteArray) (i : Nat) : byt s i < 256 := UInt8.toNat_lt _
theorem len_data (s : ByteArray) : s.data.toList.length = s.size := by rw [Array.length_toList]; rfl
theorem sidx (s : ByteArray) (i : Nat) (h : i < s.size) (w : World) : (Instr.index 9 (.string s) (.int .i64 (i : Int))).run Try.prog w = .ok (.int .u8 (byt s i : Nat)) w := by
  simp [Instr.index, asIntOf, run_underlying Try.underlying9]
  have e : s[i]? = some s[i] := getElem?_pos s i h
  have e2 : byt s i = (s[i]).toNat := by
    have h' : i < s.data.toList.length := by simpa using h
    simp [byt, List.getElem?_eq_getElem h', ByteArray.getElem_eq_getElem_data]
  rw [e, e2]
  rfl
theorem take_byt (s : ByteArray) (i : Nat) (h : i < s.size) : s.data.toList.take (i + 1) = s.data.toList.take i ++ [s.data.toList.getD i 0] := by
  have h' : i < s.data.toList.length := by rw [len_data]; exact h
  rw [List.take_succ_eq_append_getElem h', List.getD_eq_getElem?_getD, List.getElem?_eq_getElem h', Option.getD_some]
theorem mem_byt (s : ByteArray) (i : Nat) (h : i < s.size) : s.data.toList.getD i 0 ∈ s.data.toList := by
  have h' : i < s.data.toList.length := by rw [len_data]; exact h
  rw [List.getD_eq_getElem?_getD, List.getElem?_eq_getElem h', Option.getD_some]
  exact List.getElem_mem h'
theorem ba_eq {s t : ByteArray} : s = t ↔ s.data.toList = t.data.toList := ⟨fun h => by rw [h], fun h => by
  cases s; cases t; simp at h; rw [h]⟩

theorem tl_eq {s t : ByteArray} : s = t ↔ s.toList = t.data.toList := by rw [ByteArray.toList_eq]; exact ba_eq
theorem part_closed {s : ByteArray} (h : s = ⟨#[]⟩ ∨ s = ⟨#[46]⟩ ∨ s = ⟨#[46, 46]⟩) : partB s.data.toList = false := by
  rcases h with rfl | rfl | rfl <;> rfl
theorem part_long {s : ByteArray} (h : 20 < s.size) : partB s.data.toList = false := by
  rw [partB, len_data, decide_eq_false (p := s.size ≤ 20) (by omega)]
  simp
theorem part_else {s : ByteArray} (h0 : s ≠ ⟨#[]⟩) (h1 : s ≠ ⟨#[46]⟩) (h2 : s ≠ ⟨#[46, 46]⟩) (h3 : ¬ 20 < s.size) : partB s.data.toList = s.data.toList.all sgn := by
  have a0 : 1 ≤ s.size := by
    refine Nat.pos_of_ne_zero (fun h => h0 ?_)
    rw [ba_eq]
    exact List.length_eq_zero_iff.1 ((len_data s).trans h)
  have a1 : (s.data.toList == [46]) = false := by
    rw [beq_eq_false_iff_ne]
    exact fun h => h1 (ba_eq.2 h)
  have a2 : (s.data.toList == [46, 46]) = false := by
    rw [beq_eq_false_iff_ne]
    exact fun h => h2 (ba_eq.2 h)
  rw [partB, len_data, decide_eq_true a0, decide_eq_true (p := s.size ≤ 20) (by omega), a1, a2]
  simp

set_option maxHeartbeats 1000000 in
theorem part_any (s : ByteArray) (hs : s.size ≤ 20000000) (w : World) : Calls Try.prog 70 #[.string s] w fun e w' => e = .returned (.bool (partB s.data.toList)) ∧ w' = w := by
  by_cases h0 : s = ⟨#[]⟩ ∨ s = ⟨#[46]⟩ ∨ s = ⟨#[46, 46]⟩
  · rw [part_closed h0]
    rcases h0 with rfl | rfl | rfl <;>
    · go_enter Try.func70, Try.ntmps70
      go_wp2
      go_ret
      exact ⟨rfl, rfl⟩
  · have n0 : ¬ s = ⟨#[]⟩ := fun h => h0 (.inl h)
    have n1 : ¬ s = ⟨#[46]⟩ := fun h => h0 (.inr (.inl h))
    have n2 : ¬ s = ⟨#[46, 46]⟩ := fun h => h0 (.inr (.inr h))
    have b0 : s.toList.isEmpty = false := by rw [List.isEmpty_eq_false_iff]; exact fun h => n0 (tl_eq.2 h)
    have b1 : (s.toList == [46]) = false := beq_eq_false_iff_ne.2 (fun h => n1 (tl_eq.2 h))
    have b2 : (s.toList == [46, 46]) = false := beq_eq_false_iff_ne.2 (fun h => n2 (tl_eq.2 h))
    have hz : ¬ (s.size : Int) < 1 := by
      have : s.size ≠ 0 := fun h => n0 (ba_eq.2 (List.length_eq_zero_iff.1 ((len_data s).trans h)))
      omega
    clear h0
    by_cases h3 : 20 < s.size
    · have h3' : (20 : Int) < (s.size : Int) := by omega
      rw [part_long h3]
      go_enter Try.func70, Try.ntmps70
      go_wp2
      go_ret
      exact ⟨rfl, rfl⟩
    · have h3' : ¬ (20 : Int) < (s.size : Int) := by omega
      · have e : Hid (partB s.data.toList = s.data.toList.all sgn) := part_else n0 n1 n2 h3
        go_enter Try.func70, Try.ntmps70
        go_wp2
        go_loopw [21] (fun x wr => ∃ i : Nat, x = .int .i64 i ∧ i ≤ s.size ∧ Hid ((s.data.toList.take i).all sgn = true) ∧ wr = w) (fun x _ => s.size - (intOf x).toNat)
        case atStart => exact ⟨0, rfl, by omega, by simp [Hid], rfl⟩
        case round =>
          obtain ⟨i, rfl, hi, HI, rfl⟩ := hrel
          by_cases hlt : i < s.size
          · have hx := sidx s i hlt
            have hltI : (i : Int) < (s.size : Int) := by omega
            have hT := hid (take_byt s i hlt)
            have hM := hid (mem_byt s i hlt)
            have hc : Hid (∃ c, s.data.toList.getD i 0 = c ∧ byt s i = c.toNat) := ⟨_, rfl, rfl⟩
            obtain ⟨c, hc1, hc2⟩ := hc.out
            rw [hc1] at hT hM
            rw [hc2] at hx
            clear hc hc1 hc2
            have hcl : c.toNat < 256 := UInt8.toNat_lt _
            have hsg : Hid (sgn c = (decide (33 ≤ c.toNat) && decide (c.toNat ≤ 126) && !(c.toNat == 47))) := rfl
            generalize c.toNat = n at hx hcl hsg
            have HBAD : Hid (sgn c = false → partB s.data.toList = false) := fun hf => by rw [e.out, List.all_eq_false.2 ⟨c, hM.out, by rw [hf]; simp⟩]
            by_cases g1 : n < 33
            · have g1' : (n : Int) < 33 := by omega
              go_wp2
              go_ret
              refine ⟨?_, rfl⟩
              rw [HBAD.out (by rw [hsg.out, decide_eq_false (by omega)]; simp)]
              rfl
            · have g1' : ¬ (n : Int) < 33 := by omega
              by_cases g2 : 126 < n
              · have g2' : (126 : Int) < n := by omega
                go_wp2
                go_ret
                refine ⟨?_, rfl⟩
                rw [HBAD.out (by rw [hsg.out, decide_eq_false (p := n ≤ 126) (by omega)]; simp)]
                rfl
              · have g2' : ¬ (126 : Int) < n := by omega
                by_cases g3 : n = 47
                · subst g3
                  go_wp2
                  go_ret
                  refine ⟨?_, rfl⟩
                  rw [HBAD.out (by rw [hsg.out]; simp)]
                  rfl
                · have g3' : ((n : Int) == 47) = false := by simp; omega
                  have HS : Hid (sgn c = true) := by unfold Hid; rw [hsg.out, decide_eq_true (by omega), decide_eq_true (by omega)]; simp; omega
                  go_wp2
                  go_roundw
                  case rel => exact ⟨i + 1, by go_num, by omega, by rw [Hid, hT.out, List.all_append, HI.out]; simp [HS.out], by first | rfl | trivial⟩
                  case measure => simp [intOf]; omega
          · have hltI : ¬ (i : Int) < (s.size : Int) := by omega
            go_wp2
            go_ret
            refine ⟨?_, rfl⟩
            have := HI.out
            rw [List.take_of_length_le (by rw [len_data]; omega)] at this
            rw [e.out, this]
            rfl

set_option maxHeartbeats 1000000 in
theorem rpart_any (s : ByteArray) (hs : s.size ≤ 20000000) (w : World) : Calls Try.prog 62 #[.string s] w fun e w' => e = .returned (.bool (partB s.data.toList)) ∧ w' = w := by
  by_cases h0 : s = ⟨#[]⟩ ∨ s = ⟨#[46]⟩ ∨ s = ⟨#[46, 46]⟩
  · rw [part_closed h0]
    rcases h0 with rfl | rfl | rfl <;>
    · go_enter Try.func62, Try.ntmps62
      go_wp2
      go_ret
      exact ⟨rfl, rfl⟩
  · have n0 : ¬ s = ⟨#[]⟩ := fun h => h0 (.inl h)
    have n1 : ¬ s = ⟨#[46]⟩ := fun h => h0 (.inr (.inl h))
    have n2 : ¬ s = ⟨#[46, 46]⟩ := fun h => h0 (.inr (.inr h))
    have b0 : s.toList.isEmpty = false := by rw [List.isEmpty_eq_false_iff]; exact fun h => n0 (tl_eq.2 h)
    have b1 : (s.toList == [46]) = false := beq_eq_false_iff_ne.2 (fun h => n1 (tl_eq.2 h))
    have b2 : (s.toList == [46, 46]) = false := beq_eq_false_iff_ne.2 (fun h => n2 (tl_eq.2 h))
    have hz : ¬ (s.size : Int) < 1 := by
      have : s.size ≠ 0 := fun h => n0 (ba_eq.2 (List.length_eq_zero_iff.1 ((len_data s).trans h)))
      omega
    clear h0
    by_cases h3 : 20 < s.size
    · have h3' : (20 : Int) < (s.size : Int) := by omega
      rw [part_long h3]
      go_enter Try.func62, Try.ntmps62
      go_wp2
      go_ret
      exact ⟨rfl, rfl⟩
    · have h3' : ¬ (20 : Int) < (s.size : Int) := by omega
      · have e : Hid (partB s.data.toList = s.data.toList.all sgn) := part_else n0 n1 n2 h3
        go_enter Try.func62, Try.ntmps62
        go_wp2
        go_loopw [3] (fun x wr => ∃ i : Nat, x = .int .i64 i ∧ i ≤ s.size ∧ Hid ((s.data.toList.take i).all sgn = true) ∧ wr = w) (fun x _ => s.size - (intOf x).toNat)
        case atStart => exact ⟨0, rfl, by omega, by simp [Hid], rfl⟩
        case round =>
          obtain ⟨i, rfl, hi, HI, rfl⟩ := hrel
          by_cases hlt : i < s.size
          · have hx := sidx s i hlt
            have hltI : (i : Int) < (s.size : Int) := by omega
            have hT := hid (take_byt s i hlt)
            have hM := hid (mem_byt s i hlt)
            have hc : Hid (∃ c, s.data.toList.getD i 0 = c ∧ byt s i = c.toNat) := ⟨_, rfl, rfl⟩
            obtain ⟨c, hc1, hc2⟩ := hc.out
            rw [hc1] at hT hM
            rw [hc2] at hx
            clear hc hc1 hc2
            have hcl : c.toNat < 256 := UInt8.toNat_lt _
            have hsg : Hid (sgn c = (decide (33 ≤ c.toNat) && decide (c.toNat ≤ 126) && !(c.toNat == 47))) := rfl
            generalize c.toNat = n at hx hcl hsg
            have HBAD : Hid (sgn c = false → partB s.data.toList = false) := fun hf => by rw [e.out, List.all_eq_false.2 ⟨c, hM.out, by rw [hf]; simp⟩]
            by_cases g1 : n < 33
            · have g1' : (n : Int) < 33 := by omega
              go_wp2
              go_ret
              refine ⟨?_, rfl⟩
              rw [HBAD.out (by rw [hsg.out, decide_eq_false (by omega)]; simp)]
              rfl
            · have g1' : ¬ (n : Int) < 33 := by omega
              by_cases g2 : 126 < n
              · have g2' : (126 : Int) < n := by omega
                go_wp2
                go_ret
                refine ⟨?_, rfl⟩
                rw [HBAD.out (by rw [hsg.out, decide_eq_false (p := n ≤ 126) (by omega)]; simp)]
                rfl
              · have g2' : ¬ (126 : Int) < n := by omega
                by_cases g3 : n = 47
                · subst g3
                  go_wp2
                  go_ret
                  refine ⟨?_, rfl⟩
                  rw [HBAD.out (by rw [hsg.out]; simp)]
                  rfl
                · have g3' : ((n : Int) == 47) = false := by simp; omega
                  have HS : Hid (sgn c = true) := by unfold Hid; rw [hsg.out, decide_eq_true (by omega), decide_eq_true (by omega)]; simp; omega
                  go_wp2
                  go_roundw
                  case rel => exact ⟨i + 1, by go_num, by omega, by rw [Hid, hT.out, List.all_append, HI.out]; simp [HS.out], by first | rfl | trivial⟩
                  case measure => simp [intOf]; omega
          · have hltI : ¬ (i : Int) < (s.size : Int) := by omega
            go_wp2
            go_ret
            refine ⟨?_, rfl⟩
            have := HI.out
            rw [List.take_of_length_le (by rw [len_data]; omega)] at this
            rw [e.out, this]
            rfl

end Go.Proofs.Ytenfahecnkdhaaa.Tr
end

section
/-
  Rows of texts.
-/
namespace Go.Proofs.Ytenfahecnkdhaaa.Tr
open Go.RowKit

/-- Texts as cells. -/
def tc (xs : List ByteArray) : List Value := xs.map Value.string
theorem tc_length (xs : List ByteArray) : (tc xs).length = xs.length := by simp [tc]
theorem tc_append (xs ys : List ByteArray) : tc (xs ++ ys) = tc xs ++ tc ys := by simp [tc]
theorem tc_at (xs : List ByteArray) (i : Nat) (x : ByteArray) (h : xs[i]? = some x) : (tc xs)[i]? = some (.string x) := by simp [tc, h]
/-- v is a row of the call's own, of the texts xs. -/
def OwnT (w : World) (v : Value) (xs : List ByteArray) : Prop := Row w 9 1 v xs.length (tc xs)
theorem OwnT.row {w : World} {v : Value} {xs : List ByteArray} (h : OwnT w v xs) : Row w 9 1 v xs.length (tc xs) := h
theorem OwnT.nil (w : World) : OwnT w (.slice none 0 0) [] := Row.nil _ _ _
theorem OwnT.kp {L : Nat → Prop} {w w' : World} {v : Value} {xs : List ByteArray} (h : OwnT w v xs) (k : Kp L w w') (hv : ∀ x, v.ownBlock = some x → ¬ L x) : OwnT w' v xs := Row.kp h k hv
theorem OwnT.kept {w w' : World} {v : Value} {xs : List ByteArray} (h : OwnT w v xs) (k : Kp No w w') : OwnT w' v xs := Row.kept h k
theorem Try.info9 : (Try.prog.info? 9).map (fun i => (i.zero, i.size, i.bytes)) = some (some (.string ByteArray.empty), 1, 16) := by kernel_rfl

/-- The bytes from a up to b. -/
def sub (s : ByteArray) (a b : Nat) : Tx := (s.data.toList.drop a).take (b - a)
theorem sub_none (s : ByteArray) (a : Nat) : sub s a a = [] := by simp [sub]
theorem sub_snoc (s : ByteArray) (a b : Nat) (h1 : a ≤ b) (h2 : b < s.size) : sub s a (b + 1) = sub s a b ++ [s.data.toList.getD b 0] := by
  have h' : b < s.data.toList.length := by rw [len_data]; exact h2
  unfold sub
  rw [show b + 1 - a = (b - a) + 1 by omega, List.take_succ_eq_append_getElem (by rw [List.length_drop]; omega), List.getElem_drop, List.getD_eq_getElem?_getD, List.getElem?_eq_getElem h', Option.getD_some]
  simp [show a + (b - a) = b by omega]
theorem extract_sub (s : ByteArray) (a b : Nat) : (s.extract a b).data.toList = sub s a b := by
  rw [ByteArray.data_extract, Array.toList_extract]
  simp [sub, List.extract_eq_take_drop]
theorem drop_byt (s : ByteArray) (i : Nat) (h : i < s.size) : s.data.toList.drop i = s.data.toList.getD i 0 :: s.data.toList.drop (i + 1) := by
  have h' : i < s.data.toList.length := by rw [len_data]; exact h
  rw [List.drop_eq_getElem_cons h', List.getD_eq_getElem?_getD, List.getElem?_eq_getElem h', Option.getD_some]

/-- parts, in its midst: what is laid, and what is left. -/
def PI (s : ByteArray) (xs : List ByteArray) (from_ i : Nat) : Prop :=
  (i ≤ s.size ∧ from_ ≤ i ∧ cuts s.data.toList = xs.map (·.data.toList) ++ ahd (sub s from_ i) (cuts (s.data.toList.drop i))) ∨ (i = s.size + 1 ∧ cuts s.data.toList = xs.map (·.data.toList))
theorem PI.start (s : ByteArray) : PI s [] 0 0 := .inl ⟨Nat.zero_le _, Nat.le_refl _, by rw [sub_none, ahd_nil _ (cuts_ne _)]; rfl⟩
theorem PI.last {s : ByteArray} {xs : List ByteArray} {f : Nat} (h : PI s xs f s.size) : PI s (xs ++ [s.extract f s.size]) (s.size + 1) (s.size + 1) := by
  rcases h with ⟨_, _, h⟩ | ⟨h, _⟩
  · refine .inr ⟨rfl, ?_⟩
    rw [h, List.drop_of_length_le (by rw [len_data]; omega), List.map_append, List.map_singleton, extract_sub]
    simp [cuts, ahd]
  · omega
theorem PI.slash {s : ByteArray} {xs : List ByteArray} {f i : Nat} (h : PI s xs f i) (hi : i < s.size) (hc : s.data.toList.getD i 0 = 47) : PI s (xs ++ [s.extract f i]) (i + 1) (i + 1) := by
  rcases h with ⟨_, _, h⟩ | ⟨h, _⟩
  · refine .inl ⟨by omega, Nat.le_refl _, ?_⟩
    rw [h, drop_byt s i hi, hc, cuts, if_pos rfl, List.map_append, List.map_singleton, extract_sub, sub_none, ahd_nil _ (cuts_ne _)]
    simp [ahd]
  · omega
theorem PI.other {s : ByteArray} {xs : List ByteArray} {f i : Nat} (h : PI s xs f i) (hi : i < s.size) (hc : s.data.toList.getD i 0 ≠ 47) : PI s xs f (i + 1) := by
  rcases h with ⟨_, h2, h⟩ | ⟨h, _⟩
  · refine .inl ⟨by omega, by omega, ?_⟩
    rw [h, drop_byt s i hi, cuts, if_neg hc, ahd_ahd, sub_snoc s f i h2 hi]
  · omega
theorem PI.len {s : ByteArray} {xs : List ByteArray} {f i : Nat} (h : PI s xs f i) : xs.length ≤ s.size + 1 := by
  have := cuts_len s.data.toList
  rw [len_data] at this
  rcases h with ⟨_, _, h⟩ | ⟨_, h⟩
  · rw [h, List.length_append, List.length_map] at this
    omega
  · rw [h, List.length_map] at this
    omega
theorem PI.done {s : ByteArray} {xs : List ByteArray} {f i : Nat} (h : PI s xs f i) (hi : s.size < i) : cuts s.data.toList = xs.map (·.data.toList) := by
  rcases h with ⟨h, _⟩ | ⟨_, h⟩
  · omega
  · exact h
theorem PI.le {s : ByteArray} {xs : List ByteArray} {f i : Nat} (h : PI s xs f i) (hi : i ≤ s.size) : f ≤ i := by
  rcases h with ⟨_, h, _⟩ | ⟨h, _⟩
  · exact h
  · omega

/-- What an append leaves. -/
theorem next_own {w0 w1 w2 w' : World} {v v' : Value} (h : (∀ x, v.ownBlock = some x → w0.heap.size ≤ x) ∧ Kp No w0 w1) (k : Kp No w1 w2) (hg : w2.grownBy w' v.ownBlock) (hb : v'.ownBlock = v.ownBlock ∨ v'.ownBlock = some w2.heap.size) :
    (∀ x, v'.ownBlock = some x → w0.heap.size ≤ x) ∧ Kp No w0 w' := by
  have k0 := h.2.andNone k
  refine ⟨fun x hx => ?_, k0.grown hg (fun x hx => .inr (h.1 x hx))⟩
  rcases hb with hb | hb
  · exact h.1 x (hb ▸ hx)
  · rw [hb] at hx
    simp only [Option.some.injEq] at hx
    have := k0.size
    omega
theorem next_text {w0 w1 w' : World} {v v' : Value} {xs ys : List ByteArray} {o : Obj} (h : OwnT w1 v xs ∧ (∀ x, v.ownBlock = some x → w0.heap.size ≤ x) ∧ Kp No w0 w1) (hown : OwnT w' v' ys) (hg : (w1.alloc o).grownBy w' v.ownBlock)
    (hb : v'.ownBlock = v.ownBlock ∨ v'.ownBlock = some (w1.alloc o).heap.size) : OwnT w' v' ys ∧ (∀ x, v'.ownBlock = some x → w0.heap.size ≤ x) ∧ Kp No w0 w' :=
  ⟨hown, next_own h.2 ((Kp.refl No w1).alloc o) hg hb⟩


end Go.Proofs.Ytenfahecnkdhaaa.Tr
end

section
/-
  Path, of the document and of the program.
-/
namespace Go.Proofs.Ytenfahecnkdhaaa.Tr
open Go.RowKit

/-- A row's text. -/
theorem OwnT.at {w : World} {ad : Option Addr} {n cap : Nat} {xs : List ByteArray} (h : OwnT w (.slice ad n cap) xs) (i : Nat) (x : ByteArray) (hx : xs[i]? = some x) : ∃ g, ad = some ⟨g, 0, none⟩ ∧ w.cell? ⟨g, i, none⟩ = some (.string x) := by
  have hi : i < xs.length := (List.getElem?_eq_some_iff.1 hx).1
  have h' := h.row
  obtain ⟨hl, h2⟩ := h
  rcases h2 with ⟨e, h0⟩ | ⟨g, cap', cur, e, _, _, hn, _⟩
  · rw [h0] at hi
    omega
  · cases e
    refine ⟨g, rfl, ?_⟩
    rw [Row.cellAt h' i (by omega)]
    exact tc_at xs i x hx

theorem all_part {xs : List ByteArray} {i : Nat} {x : ByteArray} (hx : xs[i]? = some x) (h : partB x.data.toList = false) : (xs.map (·.data.toList)).all partB = false := by
  rw [List.all_eq_false]
  exact ⟨x.data.toList, List.mem_map.2 ⟨x, List.mem_of_getElem? hx, rfl⟩, by rw [h]; simp⟩
theorem part_take {xs : List ByteArray} {i : Nat} {x : ByteArray} (hx : xs[i]? = some x) (h : partB x.data.toList = true) (h0 : ((xs.take i).map (·.data.toList)).all partB = true) : ((xs.take (i + 1)).map (·.data.toList)).all partB = true := by
  obtain ⟨hi, e⟩ := List.getElem?_eq_some_iff.1 hx
  rw [List.take_succ_eq_append_getElem hi, List.map_append, List.all_append, h0, e]
  simp [h]
theorem part_done {xs : List ByteArray} {i : Nat} (hi : xs.length ≤ i) (h0 : ((xs.take i).map (·.data.toList)).all partB = true) : (xs.map (·.data.toList)).all partB = true := by rwa [List.take_of_length_le hi] at h0
theorem mem_size {s : ByteArray} {xs : List ByteArray} (h : cuts s.data.toList = xs.map (·.data.toList)) : ∀ x ∈ xs, x.size ≤ s.size := by
  intro x hx
  have h1 := tot_cuts s.data.toList
  have h2 : x.data.toList ∈ cuts s.data.toList := by rw [h]; exact List.mem_map.2 ⟨x, hx, rfl⟩
  have h3 : ∀ l : List Tx, x.data.toList ∈ l → x.size + 1 ≤ tot l := by
    intro l hl
    induction l with
    | nil => simp at hl
    | cons a t ih =>
      simp only [tot, List.map_cons, List.sum_cons]
      rcases List.mem_cons.1 hl with rfl | hl
      · rw [len_data]; omega
      · have := ih hl
        simp only [tot] at this
        omega
  have h4 := h3 _ h2
  rw [h1, len_data] at h4
  omega


theorem cells_row (w : World) (xs : List ByteArray) (N : Nat) (_h : xs.length ≤ N) (i : Nat) (x : ByteArray) (hx : xs[i]? = some x) : (w.alloc (.cells (Lib.cellsOf xs N) 9)).cell? ⟨w.heap.size, i, none⟩ = some (.string x) := by
  rw [World.cell?_alloc_at _ _ _ _ rfl]
  have hi := (List.getElem?_eq_some_iff.1 hx).1
  have hx' : xs[i] = x := (List.getElem?_eq_some_iff.1 hx).2
  simp [Lib.cellsOf, List.getElem?_append_left, hi, hx']


theorem splitK_mem (k : Nat) (s : Tx) : ∀ x ∈ Lib.splitK [47] 0 k s, x.length ≤ s.length := by
  induction k generalizing s with
  | zero =>
    intro x hx
    simp only [Lib.splitK, List.mem_singleton] at hx
    rw [hx]
    exact Nat.le_refl _
  | succ k ih =>
    intro x hx
    rw [Lib.splitK] at hx
    split at hx
    · rw [List.mem_singleton.1 hx]
      exact Nat.le_refl _
    · rcases List.mem_cons.1 hx with rfl | hx
      · rw [List.length_take]
        omega
      · have := ih _ x hx
        rw [List.length_drop] at this
        omega


end Go.Proofs.Ytenfahecnkdhaaa.Tr
end

section
/-
  Split, within, and how texts stand.
-/
namespace Go.Proofs.Ytenfahecnkdhaaa.Tr
open Go.RowKit

/-- Where the last / is, or -1. -/
def lastI (s : ByteArray) : Int := Lib.lastIndexByte s 47
def dirS (s : ByteArray) : ByteArray := s.extract 0 (max (lastI s) 0).toNat
def nameS (s : ByteArray) : ByteArray := s.extract (lastI s + 1).toNat s.size
/-- A path's directory, and its last part. -/
def splitS (s : ByteArray) : ByteArray × ByteArray := if pathB s.data.toList then (dirS s, nameS s) else (⟨#[]⟩, ⟨#[]⟩)
theorem splitS_no {s : ByteArray} (h : pathB s.data.toList = false) : splitS s = (⟨#[]⟩, ⟨#[]⟩) := by rw [splitS, h]; rfl
theorem splitS_yes {s : ByteArray} (h : pathB s.data.toList = true) : splitS s = (dirS s, nameS s) := by rw [splitS, h]; rfl
theorem lastI_bd (s : ByteArray) : -1 ≤ lastI s ∧ lastI s < (s.size : Int) := by
  rcases Lib.lastIndexByte_spec s 47 with ⟨h, _⟩ | ⟨i, hi, h, _⟩
  · rw [lastI, h]; omega
  · rw [lastI, h]; omega
theorem getBang (s : ByteArray) (i : Nat) (h : i < s.size) : (s.data[i]!).toNat = byt s i := by
  have h' : i < s.data.size := h
  have h2 : i < s.data.toList.length := by rw [len_data]; exact h
  rw [byt, getElem!_pos s.data i h', List.getD_eq_getElem?_getD, List.getElem?_eq_getElem h2]
  simp



/-- Is q within p? -/
def withinB (p q : Tx) : Bool := (q == p) || (p == []) || (p ++ [47]).isPrefixOf q
theorem within_not {p q : Tx} (h : p.isPrefixOf q = false) : withinB p q = false := by
  have h1 : (q == p) = false := by
    rw [beq_eq_false_iff_ne]
    rintro rfl
    have := List.isPrefixOf_iff_prefix.2 (List.prefix_refl q)
    rw [h] at this
    cases this
  have h2 : (p == []) = false := by
    rw [beq_eq_false_iff_ne]
    rintro rfl
    have := List.isPrefixOf_iff_prefix.2 (List.nil_prefix (l := q))
    rw [h] at this
    cases this
  have h3 : (p ++ [47]).isPrefixOf q = false := by
    rw [Bool.eq_false_iff]
    intro e
    rw [List.isPrefixOf_iff_prefix] at e
    have : p.isPrefixOf q = true := by
      rw [List.isPrefixOf_iff_prefix]
      exact (List.prefix_append p [47]).trans e
    rw [h] at this
    exact absurd this (by simp)
  rw [withinB, h1, h2, h3]
  rfl
theorem within_pre (p r : Tx) : withinB p (p ++ r) = ((p == []) || (r == []) || (r.head? == some 47)) := by
  unfold withinB
  cases r with
  | nil => simp
  | cons c t =>
    have h1 : ((p ++ c :: t) == p) = false := by
      rw [beq_eq_false_iff_ne]
      intro e
      have := congrArg List.length e
      simp at this
    have h3 : (p ++ [47]).isPrefixOf (p ++ c :: t) = (c == 47) := by
      rw [Bool.eq_iff_iff, List.isPrefixOf_iff_prefix, List.prefix_append_right_inj]
      rw [List.cons_prefix_cons, beq_iff_eq]
      exact ⟨fun e => e.1.symm, fun e => ⟨e.symm, List.nil_prefix⟩⟩
    have e1 : ((c :: t) == ([] : Tx)) = false := rfl
    have e2 : ((c :: t).head? == some 47) = (c == 47) := by
      rw [Bool.eq_iff_iff]
      simp
    rw [h1, h3, e1, e2]
    cases (p == []) <;> cases (c == 47) <;> rfl
theorem prefix_rest {s p : Tx} (h : Lib.hasPrefix s p = true) : s = p ++ Lib.trimPrefix s p := by
  rw [Lib.trimPrefix, if_pos h]
  rw [Lib.hasPrefix, List.isPrefixOf_iff_prefix] at h
  obtain ⟨t, rfl⟩ := h
  simp


end Go.Proofs.Ytenfahecnkdhaaa.Tr
end

section
/-
  Less of the document, strings.Compare, and Within of the document.
-/
namespace Go.Proofs.Ytenfahecnkdhaaa.Tr
open Go.RowKit

theorem bb_step (a b : List UInt8) (i : Nat) (ha : i < a.length) (hb : i < b.length) : bytesBefore (a.drop i) (b.drop i) = if (a.getD i 0).toNat = (b.getD i 0).toNat then bytesBefore (a.drop (i + 1)) (b.drop (i + 1)) else decide ((a.getD i 0).toNat < (b.getD i 0).toNat) := by
  rw [List.drop_eq_getElem_cons ha, List.drop_eq_getElem_cons hb, List.getD_eq_getElem?_getD, List.getElem?_eq_getElem ha, List.getD_eq_getElem?_getD, List.getElem?_eq_getElem hb, Option.getD_some, Option.getD_some]
  rw [bytesBefore]
  by_cases h : a[i] = b[i]
  · simp [h]
  · have h' : ¬ a[i].toNat = b[i].toNat := fun e => h (UInt8.toNat_inj.1 e)
    have h'' : (a[i] == b[i]) = false := by simp [h]
    rw [if_neg h', h'']
    simp [UInt8.lt_iff_toNat_lt]
theorem bb_end (a b : List UInt8) (i : Nat) (h : a.length ≤ i ∨ b.length ≤ i) (ha : i ≤ a.length) (hb : i ≤ b.length) : bytesBefore (a.drop i) (b.drop i) = decide (a.length < b.length) := by
  by_cases h1 : a.length ≤ i
  · rw [List.drop_of_length_le h1]
    by_cases h2 : b.length ≤ i
    · rw [List.drop_of_length_le h2, decide_eq_false (by omega)]
      rfl
    · rw [List.drop_eq_getElem_cons (by omega : i < b.length), decide_eq_true (by omega)]
      rfl
  · have h2 : b.length ≤ i := by omega
    rw [List.drop_of_length_le h2, List.drop_eq_getElem_cons (by omega : i < a.length), decide_eq_false (by omega)]
    rfl

set_option maxHeartbeats 1000000 in
/-- Less. -/
theorem rLess_any (s t : ByteArray) (hs : s.size ≤ 20000000) (ht : t.size ≤ 20000000) (w : World) : Calls Try.prog 59 #[.string s, .string t] w fun e w' => e = .returned (.bool (bytesBefore s.data.toList t.data.toList)) ∧ Kp No w w' := by
  go_enter Try.func59, Try.ntmps59
  go_wp2
  go_loopw [5] (fun x wr => ∃ i : Nat, x = .int .i64 i ∧ i ≤ s.size ∧ i ≤ t.size ∧ Hid (bytesBefore s.data.toList t.data.toList = bytesBefore (s.data.toList.drop i) (t.data.toList.drop i)) ∧ Hid (Kp No w wr)) (fun x _ => s.size - (intOf x).toNat)
  case atStart => exact ⟨0, rfl, by omega, by omega, rfl, Kp.refl _ _⟩
  case round =>
    obtain ⟨i, rfl, hi, hi', HI, HK⟩ := hrel
    by_cases hlt : i < s.size
    · by_cases hlt' : i < t.size
      · have hx := sidx s i hlt
        have hy := sidx t i hlt'
        have HL := hid (bb_step s.data.toList t.data.toList i (by rw [len_data]; exact hlt) (by rw [len_data]; exact hlt'))
        have e1 : (s.data.toList.getD i 0).toNat = byt s i := rfl
        have e2 : (t.data.toList.getD i 0).toNat = byt t i := rfl
        rw [e1, e2] at HL
        clear e1 e2
        generalize byt s i = x at *
        generalize byt t i = y at *
        by_cases hxy : x = y
        · subst hxy
          go_wp2_with fail
          go_quiet (fail)
          go_wp2
          go_roundw
          case rel => exact ⟨i + 1, by go_num, by omega, by omega, by have h := HL.out; simp only [if_true] at h; rw [Hid, HI.out, h], HK.out.drewN _⟩
          case measure => simp [intOf]; omega
        · have hne : ((x : Int) != (y : Int)) = true := by simp; omega
          have HR : Hid (bytesBefore s.data.toList t.data.toList = decide (x < y)) := by rw [Hid, HI.out, HL.out, if_neg hxy]
          go_wp2_with fail
          go_quiet (fail)
          go_wp2_with fail
          go_quiet (fail)
          go_wp2
          go_ret
          refine ⟨?_, (HK.out.drewN _).drewN _⟩
          rw [HR.out]
          simp
      · have HE : Hid (bytesBefore s.data.toList t.data.toList = decide (s.size < t.size)) := by rw [Hid, HI.out, bb_end _ _ _ (.inr (by rw [len_data]; omega)) (by rw [len_data]; omega) (by rw [len_data]; omega), len_data, len_data]
        go_wp2
        go_ret
        refine ⟨?_, HK.out⟩
        rw [HE.out]
        simp
    · have HE : Hid (bytesBefore s.data.toList t.data.toList = decide (s.size < t.size)) := by rw [Hid, HI.out, bb_end _ _ _ (.inl (by rw [len_data]; omega)) (by rw [len_data]; omega) (by rw [len_data]; omega), len_data, len_data]
      go_wp2
      go_ret
      refine ⟨?_, HK.out⟩
      rw [HE.out]
      simp


/-! ### How texts stand -/
abbrev lts (a b : Tx) : Bool := bytesBefore a b
theorem bb_irr : ∀ a : Tx, bytesBefore a a = false
  | [] => rfl
  | a :: r => by rw [bytesBefore]; simp [bb_irr r]
theorem bb_cons (a b : UInt8) (r t : Tx) : bytesBefore (a :: r) (b :: t) = if a = b then bytesBefore r t else decide (a < b) := by
  rw [bytesBefore]
  by_cases h : a = b <;> simp [h]
theorem bb_trans : ∀ a b c : Tx, bytesBefore a b = true → bytesBefore b c = true → bytesBefore a c = true
  | [], [], _, h, _ => by simp [bytesBefore] at h
  | [], _ :: _, [], _, h => by simp [bytesBefore] at h
  | [], _ :: _, _ :: _, _, _ => rfl
  | _ :: _, [], _, h, _ => by simp [bytesBefore] at h
  | _ :: _, _ :: _, [], _, h => by simp [bytesBefore] at h
  | a :: r, b :: t, c :: u, h1, h2 => by
    rw [bb_cons] at h1 h2 ⊢
    by_cases e1 : a = b
    · subst e1
      rw [if_pos rfl] at h1
      by_cases e2 : a = c
      · subst e2
        rw [if_pos rfl] at h2 ⊢
        exact bb_trans r t u h1 h2
      · rw [if_neg e2] at h2 ⊢
        exact h2
    · rw [if_neg e1] at h1
      by_cases e2 : b = c
      · subst e2
        rw [if_neg e1]
        exact h1
      · rw [if_neg e2] at h2
        simp only [decide_eq_true_eq] at h1 h2
        have h3 : a < c := UInt8.lt_trans h1 h2
        rw [if_neg (by rintro rfl; exact UInt8.lt_irrefl _ h3)]
        simpa using h3
theorem bb_tri : ∀ a b : Tx, bytesBefore a b = false → bytesBefore b a = false → a = b
  | [], [], _, _ => rfl
  | [], _ :: _, h, _ => by simp [bytesBefore] at h
  | _ :: _, [], _, h => by simp [bytesBefore] at h
  | a :: r, b :: t, h1, h2 => by
    rw [bb_cons] at h1 h2
    by_cases e : a = b
    · subst e
      rw [if_pos rfl] at h1 h2
      rw [bb_tri r t h1 h2]
    · rw [if_neg e] at h1
      rw [if_neg (fun h => e h.symm)] at h2
      simp only [decide_eq_false_iff_not] at h1 h2
      exact absurd (UInt8.le_antisymm (UInt8.not_lt.1 h2) (UInt8.not_lt.1 h1)) e
theorem bb_asym {a b : Tx} (h : bytesBefore a b = true) : bytesBefore b a = false := by
  cases h2 : bytesBefore b a with
  | false => rfl
  | true =>
    have := bb_trans a b a h h2
    rw [bb_irr] at this
    exact this.symm
theorem cmp_bb : ∀ a b : Tx, Lib.compareBytes a b = if bytesBefore a b then -1 else if a = b then 0 else 1
  | [], [] => rfl
  | [], _ :: _ => rfl
  | _ :: _, [] => rfl
  | a :: r, b :: t => by
    rw [Lib.compareBytes, bb_cons]
    by_cases e : a = b
    · subst e
      rw [if_neg (UInt8.lt_irrefl a), if_neg (UInt8.lt_irrefl a), if_pos rfl, cmp_bb r t]
      simp
    · rw [if_neg e]
      by_cases h : a < b
      · rw [if_pos h]
        simp [h]
      · have h' : b < a := by
          rcases UInt8.lt_or_lt_of_ne e with h2 | h2
          · exact absurd h2 h
          · exact h2
        rw [if_neg h, if_pos h']
        simp [h, e]
theorem cmp_neg (a b : Tx) : Lib.compareBytes a b < 0 ↔ bytesBefore a b = true := by
  rw [cmp_bb]
  cases bytesBefore a b
  · by_cases h : a = b <;> simp [h]
  · simp
theorem cmp_zero (a b : Tx) : Lib.compareBytes a b = 0 ↔ a = b := by
  rw [cmp_bb]
  cases h : bytesBefore a b
  · by_cases h : a = b <;> simp [h]
  · simp
    rintro rfl
    rw [bb_irr] at h
    cases h
theorem compare_any (a b : ByteArray) (w : World) : Calls Try.prog 77 #[.string a, .string b] w fun e w' => e = .returned (.int .i64 (Lib.compareBytes a.data.toList b.data.toList)) ∧ w' = w := Any.strings_Compare Try.comp a b w

end Go.Proofs.Ytenfahecnkdhaaa.Tr
end

section
/-
  How the names of two entries stand: compare, walked.
-/
namespace Go.Proofs.Ytenfahecnkdhaaa.Nd
open Go.RowKit
open Sim (hid Kp No)

/-- Bytes in their order. -/
def lexB : List Int → List Int → Bool
  | [], [] => false
  | [], _ :: _ => true
  | _ :: _, [] => false
  | x :: xs, y :: ys => if x < y then true else if y < x then false else lexB xs ys
theorem lexB_irr : ∀ x, lexB x x = false
  | [] => rfl
  | x :: xs => by simp [lexB, lexB_irr xs]
theorem lexB_tot : ∀ x y, x ≠ y → lexB x y = true ∨ lexB y x = true
  | [], [], h => absurd rfl h
  | [], _ :: _, _ => .inl rfl
  | _ :: _, [], _ => .inr rfl
  | x :: xs, y :: ys, h => by
    by_cases h1 : x < y
    · exact .inl (by simp [lexB, h1])
    · by_cases h2 : y < x
      · exact .inr (by simp [lexB, h2])
      · have e : x = y := by omega
        subst e
        rcases lexB_tot xs ys (fun e => h (by rw [e])) with h3 | h3
        · exact .inl (by simp [lexB, h3])
        · exact .inr (by simp [lexB, h3])
theorem lexB_trans : ∀ x y z, lexB x y = true → lexB y z = true → lexB x z = true
  | [], [], _, h, _ => by simp [lexB] at h
  | [], _ :: _, [], _, h => by simp [lexB] at h
  | [], _ :: _, _ :: _, _, _ => rfl
  | _ :: _, [], _, h, _ => by simp [lexB] at h
  | _ :: _, _ :: _, [], _, h => by simp [lexB] at h
  | x :: xs, y :: ys, z :: zs, h1, h2 => by
    simp only [lexB] at h1 h2 ⊢
    by_cases a1 : x < y
    · by_cases a2 : y < z
      · rw [if_pos (by omega)]
      · rw [if_neg a2] at h2
        by_cases a3 : z < y
        · rw [if_pos a3] at h2; cases h2
        · rw [if_pos (by omega)]
    · rw [if_neg a1] at h1
      by_cases a2 : y < x
      · rw [if_pos a2] at h1; cases h1
      · rw [if_neg a2] at h1
        have e : x = y := by omega
        subst e
        by_cases a3 : x < z
        · rw [if_pos a3]
        · rw [if_neg a3] at h2 ⊢
          by_cases a4 : z < x
          · rw [if_pos a4] at h2; cases h2
          · rw [if_neg a4] at h2 ⊢
            exact lexB_trans xs ys zs h1 h2
theorem lexOrd : Stb.Ord lexB := ⟨lexB_irr, lexB_trans, lexB_tot⟩

/-- How two stand. -/
def cmpE (a b : List Int) : Int := if lexB a b then -1 else if lexB b a then 1 else 0
theorem cmpE_neg (a b : List Int) : cmpE a b < 0 ↔ lexB a b = true := by
  unfold cmpE
  cases lexB a b <;> cases lexB b a <;> decide
theorem cmpE_zero (a b : List Int) : cmpE a b = 0 ↔ a = b := by
  unfold cmpE
  by_cases e : a = b
  · subst e
    simp [lexB_irr]
  · rcases lexB_tot a b e with h | h
    · simp [h, e]
    · have h2 := lexOrd.asym h
      simp [h, h2, e]
theorem cmpE_pos (a b : List Int) : 0 < cmpE a b ↔ lexB b a = true := by
  unfold cmpE
  cases h1 : lexB a b with
  | true =>
    have h2 := lexOrd.asym h1
    simp [h2]
  | false => cases lexB b a <;> decide
theorem cmp_bytes : ∀ (a b : List Int), (∀ x ∈ a, 0 ≤ x ∧ x ≤ 255) → (∀ x ∈ b, 0 ≤ x ∧ x ≤ 255) → Lib.compareBytes (Lib.bytesOf a) (Lib.bytesOf b) = cmpE a b
  | [], [], _, _ => rfl
  | [], _ :: _, _, _ => rfl
  | _ :: _, [], _, _ => rfl
  | x :: xs, y :: ys, hx, hy => by
    have h1 := hx x (by simp)
    have h2 := hy y (by simp)
    have ih := cmp_bytes xs ys (fun z hz => hx z (by simp [hz])) (fun z hz => hy z (by simp [hz]))
    have e : UInt8.ofNat x.toNat < UInt8.ofNat y.toNat ↔ x < y := by
      rw [UInt8.lt_iff_toNat_lt]
      simp
      omega
    have e' : UInt8.ofNat y.toNat < UInt8.ofNat x.toNat ↔ y < x := by
      rw [UInt8.lt_iff_toNat_lt]
      simp
      omega
    have e1 : Lib.bytesOf (x :: xs) = UInt8.ofNat x.toNat :: Lib.bytesOf xs := rfl
    have e2 : Lib.bytesOf (y :: ys) = UInt8.ofNat y.toNat :: Lib.bytesOf ys := rfl
    rw [e1, e2, Lib.compareBytes]
    simp only [e, e', ih, cmpE, lexB]
    by_cases hlt : x < y
    · simp [hlt]
    · by_cases hgt : y < x
      · simp [hlt, hgt]
      · simp [hlt, hgt]


theorem txt_cmp {a b : List Int} (ha : ∀ x ∈ a, 0 ≤ x ∧ x ≤ 255) (hb : ∀ x ∈ b, 0 ≤ x ∧ x ≤ 255) : Lib.compareBytes (txt a).data.toList (txt b).data.toList = cmpE a b := by
  have h := cmp_bytes a b ha hb
  simpa [txt] using h
theorem rng_new (w : World) (C : List Value) (ty : TypeId) : (w.alloc (.cells C.toArray ty)).rangeAt w.heap.size 0 C := fun j v hv => by
  rw [Nat.zero_add, World.cell?_alloc_at _ _ _ _ rfl]
  simpa using hv
/-- One that lies in a new block. -/
theorem box_ent (w : World) (x : Ent) (t : TypeId) : (w.alloc (.cells (entC x).toArray t)).rangeAt w.heap.size 0 (entC x) := rng_new w (entC x) t

set_option maxHeartbeats 2000000 in
theorem against_any (x : Ent) (s : List Int) (w : World) (hx : EOk x) (hs : ∀ y ∈ s, 0 ≤ y ∧ y ≤ 255) :
    Calls Try.prog 61 #[.agg (entC x).toArray, .string (txt s)] w fun e w' => e = .returned (.int .i64 (cmpE x.1 s)) ∧ Kp No w w' := by
  have HC := hid (fun W => Tr.compare_any (txt x.1) (txt s) W)
  rw [txt_cmp hx.1 hs] at HC
  have HR := hid (box_ent w x 70)
  have HK : Hid (Kp No w (w.alloc (.cells (entC x).toArray 70))) := (Kp.refl _ _).alloc _
  have c0 : (w.alloc (.cells (entC x).toArray 70)).cell? ⟨w.heap.size, 0, none⟩ = some (.string (txt x.1)) := HR.out 0 _ rfl
  generalize entC x = X at *
  clear hx hs HR
  go_enter Try.func61, Try.ntmps61
  go_wp2_with (go_at_call 77; refine (HC.out _).mono ?_; rintro e w1 ⟨rfl, hw⟩; subst hw)
  go_ret
  exact ⟨rfl, HK.out⟩

set_option maxHeartbeats 2000000 in
theorem compare_any (x y : Ent) (w : World) (hx : EOk x) (hy : EOk y) :
    Calls Try.prog 56 #[.agg (entC x).toArray, .agg (entC y).toArray] w fun e w' => e = .returned (.int .i64 (cmpE x.1 y.1)) ∧ Below w.heap.size w w' := by
  have HC := hid (fun W => against_any x y.1 W hx hy.1)
  have hsz : (w.alloc (.cells (entC x).toArray 70)).heap.size = w.heap.size + 1 := by simp
  have HR : Hid (((w.alloc (.cells (entC x).toArray 70)).alloc (.cells (entC y).toArray 70)).rangeAt w.heap.size 0 (entC x)) := World.rangeAt_alloc (rng_new w (entC x) 70) _
  have c0 : ((w.alloc (.cells (entC x).toArray 70)).alloc (.cells (entC y).toArray 70)).cell? ⟨w.heap.size + 1, 0, none⟩ = some (.string (txt y.1)) := by
    have h := rng_new (w.alloc (.cells (entC x).toArray 70)) (entC y) 70 0 _ rfl
    rw [hsz] at h
    exact h
  have HI := hid (inf hx)
  have HBB : Hid (Below w.heap.size w ((w.alloc (.cells (entC x).toArray 70)).alloc (.cells (entC y).toArray 70))) := ((Below.refl _ _).alloc (Nat.le_refl _) _).alloc (by simp) _
  clear hsz
  generalize entC x = X at *
  generalize entC y = Y at *
  clear hx hy
  go_enter Try.func56, Try.ntmps56
  generalize hW : (w.alloc (.cells X.toArray 70)).alloc (.cells Y.toArray 70) = W at *
  go_wp2_with (first
    | (refine wpList_load_mid (by rfl) 70 _ (by rfl) w.heap.size 0 (by rfl) X _ HR.out Try.underlying70 rfl HI.out ?_)
    | (go_at_call 61; refine (HC.out _).mono ?_; rintro e w2 ⟨rfl, h2⟩; have H2 := hid h2; clear h2))
  go_ret
  exact ⟨rfl, HBB.out.trans (H2.out.toBelow'.mono HBB.out.size)⟩

end Go.Proofs.Ytenfahecnkdhaaa.Nd
end
