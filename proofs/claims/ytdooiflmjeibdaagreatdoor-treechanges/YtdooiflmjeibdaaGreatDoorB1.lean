/- Of the proof: the texts TrMem, TrPlain, TrText, TrRow, TrPath, TrSplit, TrLess, one behind the other. -/
import Derived.Test.YtdooiflmjeibdaaGreatDoorAbb
import Derived.Test.YtdooiflmjeibdaaGreatDoorRows
import Derived.WalkKit
import Derived.WalkSpells
import Derived.WalkLawsBesides
import Derived.Laws.AppendOwnNone
import Derived.Laws.NewBlocks
import Derived.Laws.LoneSync
import Derived.RegionCalls
import Derived.Deep.QuietTactic
import Derived.BigQuiet
import Derived.Maps.AppendAt
import Derived.Maps.OwnSet
import Derived.OneCell
import Derived.Lib.AppendZerosOnto
import Derived.ProofKit
import Derived.Lib.Split
import Derived.Lib.SplitLaws
import Derived.Lib.LastIndexByte
import Derived.Lib.IndexBytes
import Derived.Deep.LoopGhost
import Derived.Test.YtdooiflmjeibdaaGreatDoorTrShelf
section
/-
  What stays as it was; bytes, rows and structs in memory.
-/
namespace Go.Proofs.YtdooiflmjeibdaaGreatDoor.Tr
open Go.RowKit

theorem hid {p : Prop} (h : p) : Hid p := h
theorem getD_at {bs : List Nat} {k : Nat} (hk : k < bs.length) : bs.getD k 0 = bs[k] := by rw [List.getD_eq_getElem?_getD, List.getElem?_eq_getElem hk, Option.getD_some]
theorem addr_add (g o i : Nat) : (⟨g, o, none⟩ : Addr).add i = ⟨g, o + i, none⟩ := by unfold Addr.add; split <;> simp_all
theorem cell_other {w : World} {b i j : Nat} {x : Value} (h : j ≠ i) : (w.setCell ⟨b, i, none⟩ x).cell? ⟨b, j, none⟩ = w.cell? ⟨b, j, none⟩ := World.cell?_setCell_other _ _ _ _ (by simp only [ne_eq, Addr.mk.injEq, true_and, and_true]; omega)

/-! ### What stays as it was -/
/-- All blocks that are not in L hold what they held. -/
structure Kp (L : Nat → Prop) (w w' : World) : Prop where
  os : w'.os = w.os
  tape : w'.tape = w.tape
  output : w'.output = w.output
  size : w.heap.size ≤ w'.heap.size
  block : ∀ k, k < w.heap.size → ¬ L k → w'.heap[k]? = w.heap[k]?

def No : Nat → Prop := fun _ => False
theorem Kp.refl (L : Nat → Prop) (w : World) : Kp L w w := ⟨rfl, rfl, rfl, Nat.le_refl _, fun _ _ _ => rfl⟩
/-- One behind the other: what the second one writes is the first one's, or new. -/
theorem Kp.trans {L M : Nat → Prop} {u v w : World} (h : Kp L u v) (k : Kp M v w) (hm : ∀ x, M x → L x ∨ u.heap.size ≤ x) : Kp L u w :=
  ⟨k.os.trans h.os, k.tape.trans h.tape, k.output.trans h.output, Nat.le_trans h.size k.size, fun i h1 h2 => (k.block i (Nat.lt_of_lt_of_le h1 h.size) (fun hi => by
    rcases hm i hi with h | h
    · exact h2 h
    · omega)).trans (h.block i h1 h2)⟩
theorem Kp.mono {L M : Nat → Prop} {u w : World} (h : Kp L u w) (hs : ∀ x, L x → M x ∨ u.heap.size ≤ x) : Kp M u w := (Kp.refl M u).trans h hs
theorem Kp.ofNo {M : Nat → Prop} {u w : World} (h : Kp No u w) : Kp M u w := h.mono (fun _ hx => hx.elim)
theorem Kp.andNone {L : Nat → Prop} {u v w : World} (h : Kp L u v) (k : Kp No v w) : Kp L u w := h.trans k (fun _ hx => hx.elim)
theorem Kp.below {L : Nat → Prop} {u w : World} (h : Below u.heap.size u w) : Kp L u w := ⟨h.os, h.tape, h.output, h.size, fun k hk _ => h.block k hk⟩
theorem Kp.alloc {L : Nat → Prop} {u w : World} (h : Kp L u w) (o : Obj) : Kp L u (w.alloc o) := h.trans (M := No) (Kp.below ((Below.refl _ _).alloc (Nat.le_refl _) _)) (fun _ hx => hx.elim)
theorem Kp.setCell {L : Nat → Prop} {u w : World} (h : Kp L u w) {p : Addr} (hp : L p.block ∨ u.heap.size ≤ p.block) (x : Value) : Kp L u (w.setCell p x) :=
  ⟨h.os, h.tape, h.output, by simpa using h.size, fun k h1 h2 => (Below.heap_setCell _ _ _ _ (by
    intro e
    rcases hp with hp | hp
    · exact h2 (e ▸ hp)
    · omega)).trans (h.block k h1 h2)⟩
theorem Kp.drew {L : Nat → Prop} {u w : World} (h : Kp L u w) : Kp L u w.drew := ⟨h.os, h.tape, h.output, h.size, h.block⟩
theorem Kp.drewN {L : Nat → Prop} {u w : World} (h : Kp L u w) (q : Nat) : Kp L u (w.drewN q) := h.trans (M := No) (Kp.below (below_drewN (Below.refl _ _) q)) (fun _ hx => hx.elim)
theorem Kp.grown {L : Nat → Prop} {u w w' : World} {row : Option Nat} (h : Kp L u w) (hg : w.grownBy w' row) (hr : ∀ x, row = some x → L x ∨ u.heap.size ≤ x) : Kp L u w' :=
  ⟨hg.os.trans h.os, hg.tape.trans h.tape, hg.output.trans h.output, Nat.le_trans h.size hg.size, fun k h1 h2 => (hg.block k (Nat.lt_of_lt_of_le h1 h.size) (fun e => by
    rcases hr k e.symm with h | h
    · exact h2 h
    · omega)).trans (h.block k h1 h2)⟩
theorem Kp.ofGrown {w w' : World} {row : Option Nat} (hg : w.grownBy w' row) : Kp (fun x => row = some x) w w' := (Kp.refl _ _).grown hg (fun _ h => .inl h)
theorem Kp.cell {L : Nat → Prop} {w w' : World} (h : Kp L w w') {p : Addr} (h1 : p.block < w.heap.size) (h2 : ¬ L p.block) : w'.cell? p = w.cell? p := World.cell?_of_block (w := w) (h.block p.block h1 h2)
theorem Kp.frozen {L : Nat → Prop} {w w' : World} (h : Kp L w w') {p : Addr} (h1 : p.block < w.heap.size) (h2 : ¬ L p.block) : w'.frozen? p = w.frozen? p := World.frozen?_of_block (w := w) (h.block p.block h1 h2)
theorem Kp.toBelow {L : Nat → Prop} {u w : World} (k : Kp L u w) (hb : ∀ x, L x → u.heap.size ≤ x) : Below u.heap.size u w :=
  ⟨k.os, k.tape, k.output, k.size, fun i hi => k.block i hi (fun hm => by have := hb i hm; omega)⟩
theorem Kp.toBelow' {u w : World} (k : Kp No u w) : Below u.heap.size u w := k.toBelow (fun _ h => h.elim)
/-- .. of a world ahead. -/
theorem Kp.under {L : Nat → Prop} {B : Nat} {u v w : World} (h : Below B u v) (k : Kp L v w) (hb : ∀ x, L x → B ≤ x) (hB : B ≤ v.heap.size) : Below B u w :=
  h.trans ⟨k.os, k.tape, k.output, k.size, fun i hi => k.block i (by omega) (fun hm => by have := hb i hm; omega)⟩

/-! ### A block of cells, whole -/
def Blk (w : World) (b : Nat) (t : TypeId) (cs : List Value) : Prop := w.heap[b]? = some (.cells cs.toArray t (0, 0))
theorem Blk.lt {w : World} {b : Nat} {t : TypeId} {cs : List Value} (h : Blk w b t cs) : b < w.heap.size := (Array.getElem?_eq_some_iff.1 h).1
theorem Blk.kp {L : Nat → Prop} {w w' : World} {b : Nat} {t : TypeId} {cs : List Value} (h : Blk w b t cs) (k : Kp L w w') (hb : ¬ L b) : Blk w' b t cs := (k.block b h.lt hb).trans h
theorem Blk.ne {w : World} {b b' : Nat} {t t' : TypeId} {cs cs' : List Value} (h : Blk w b t cs) (h' : Blk w b' t' cs') (ht : t ≠ t') : b ≠ b' := by
  intro e
  subst e
  unfold Blk at h h'
  rw [h] at h'
  simp at h'
  exact ht h'.2
theorem Blk.cell {w : World} {b : Nat} {t : TypeId} {cs : List Value} (h : Blk w b t cs) (j : Nat) : w.cell? ⟨b, j, none⟩ = cs[j]? := by
  unfold Blk at h
  simp [World.cell?, h]
theorem Blk.frozen {w : World} {b : Nat} {t : TypeId} {cs : List Value} (h : Blk w b t cs) (j : Nat) : w.frozen? ⟨b, j, none⟩ = false := by
  unfold Blk at h
  simp [World.frozen?, h]
theorem Blk.new (w : World) (t : TypeId) (cs : List Value) : Blk (w.alloc (.cells cs.toArray t)) w.heap.size t cs := (MapKept.heap_alloc w _).1
theorem Blk.setCell {w : World} {b : Nat} {t : TypeId} {cs : List Value} (h : Blk w b t cs) (j : Nat) (x : Value) : Blk (w.setCell ⟨b, j, none⟩ x) b t (cs.set j x) := by
  unfold Blk at h ⊢
  simp [World.setCell, Array.getElem?_modify, h]

/-! ### Bytes that are read -/
/-- Bytes as cells. -/
def cl (xs : List Nat) : List Value := xs.map fun x : Nat => .int .u8 (x : Int)
theorem cl_length (xs : List Nat) : (cl xs).length = xs.length := by simp [cl]
theorem cl_append (xs ys : List Nat) : cl (xs ++ ys) = cl xs ++ cl ys := by simp [cl]
theorem cl_at (xs : List Nat) (i : Nat) (h : i < xs.length) : (cl xs)[i]? = some (.int .u8 (xs.getD i 0 : Nat)) := by simp [cl, List.getElem?_eq_getElem h]
theorem cl_one (xs : List Nat) : ∀ u ∈ cl xs, u.oneCell' = true := by intro u hu; obtain ⟨x, _, rfl⟩ := List.mem_map.1 hu; rfl

/-- v is a slice of the bytes bs, in a block of which P. -/
def ByP (P : Nat → Prop) (w : World) (v : Value) (bs : List Nat) : Prop :=
  ∃ a cap, v = .slice a bs.length cap ∧ bs.length ≤ cap ∧ cap ≤ maxLen ∧ (a = none → bs = [] ∧ cap = 0) ∧ bs.length ≤ 9223372036854775807 ∧ (∀ x ∈ bs, x < 256) ∧
    (bs ≠ [] → ∃ g o, a = some ⟨g, o, none⟩ ∧ P g ∧ g < w.heap.size ∧ ∀ i, i < bs.length → w.cell? ⟨g, o + i, none⟩ = some (.int .u8 (bs.getD i 0 : Nat)))

theorem ByP.nil (P : Nat → Prop) (w : World) : ByP P w (.slice none 0 0) [] := ⟨_, 0, rfl, Nat.le_refl _, Nat.zero_le _, fun _ => ⟨rfl, rfl⟩, by simp, by simp, fun h => absurd rfl h⟩
theorem ByP.mono {P Q : Nat → Prop} {w : World} {v : Value} {bs : List Nat} (h : ByP P w v bs) (hm : ∀ x, x < w.heap.size → P x → Q x) : ByP Q w v bs := by
  obtain ⟨a, cap, h1, h2, h3, h4, h5, h6, h7⟩ := h
  refine ⟨a, cap, h1, h2, h3, h4, h5, h6, fun hne => ?_⟩
  obtain ⟨g, o, e, hgb, hg, hc⟩ := h7 hne
  exact ⟨g, o, e, hm g hg hgb, hg, hc⟩
theorem ByP.kp {P L : Nat → Prop} {w w' : World} {v : Value} {bs : List Nat} (h : ByP P w v bs) (k : Kp L w w') (hm : ∀ x, L x → x < w.heap.size → ¬ P x) : ByP P w' v bs := by
  obtain ⟨a, cap, h1, h2, h3, h4, h5, h6, h7⟩ := h
  refine ⟨a, cap, h1, h2, h3, h4, h5, h6, fun hne => ?_⟩
  obtain ⟨g, o, e, hgb, hg, hc⟩ := h7 hne
  exact ⟨g, o, e, hgb, Nat.lt_of_lt_of_le hg k.size, fun i hi => (k.cell (p := ⟨g, o + i, none⟩) hg (fun hx => hm g hx hg hgb)).trans (hc i hi)⟩
theorem ByP.kept {P : Nat → Prop} {w w' : World} {v : Value} {bs : List Nat} (h : ByP P w v bs) (k : Kp No w w') : ByP P w' v bs := h.kp k (fun _ hx => hx.elim)
theorem ByP.front {P : Nat → Prop} {w : World} {a : Option Addr} {n0 cap : Nat} {bs : List Nat} (h : ByP P w (.slice a n0 cap) bs) (n : Nat) (hn : n ≤ bs.length) : ByP P w (.slice a n cap) (bs.take n) := by
  obtain ⟨a', cap', e, h2, h3, h4, h5, h6, h7⟩ := h
  cases e
  have hl : (bs.take n).length = n := List.length_take_of_le hn
  refine ⟨a, cap, by rw [hl], by omega, h3, fun e => ?_, by omega, fun x hx => h6 x (List.mem_of_mem_take hx), fun hne => ?_⟩
  · obtain ⟨rfl, rfl⟩ := h4 e
    exact ⟨by simp, rfl⟩
  · have hb : bs ≠ [] := fun e => hne (by rw [e]; simp)
    obtain ⟨g, o, e, hg, hg', hc⟩ := h7 hb
    refine ⟨g, o, e, hg, hg', fun i hi => ?_⟩
    rw [hc i (by omega)]
    have : (bs.take n).getD i 0 = bs.getD i 0 := by simp [show i < n by omega]
    rw [this]

/-! ### Rows of the call's own -/
/-- v is a row of the call's own, of n elements of the type e, each of sz cells. -/
def Row (w : World) (e : TypeId) (sz : Nat) (v : Value) (n : Nat) (xs : List Value) : Prop := w.ownsRow 0 e sz v n xs

theorem Row.nil (w : World) (e : TypeId) (sz : Nat) : Row w e sz (.slice none 0 0) 0 [] := World.ownsRow_nil _ _ _ _
theorem Row.kp {L : Nat → Prop} {w w' : World} {e : TypeId} {sz n : Nat} {v : Value} {xs : List Value} (h : Row w e sz v n xs) (k : Kp L w w') (hv : ∀ x, v.ownBlock = some x → ¬ L x) : Row w' e sz v n xs := by
  refine ⟨h.1, ?_⟩
  rcases h.2 with hn | ⟨g, cap, cur, rfl, hb, hgg, rest⟩
  · exact .inl hn
  · exact .inr ⟨g, cap, cur, rfl, hb, by rw [k.block g (Array.getElem?_eq_some_iff.1 hgg).1 (hv g rfl)]; exact hgg, rest⟩
theorem Row.kept {w w' : World} {e : TypeId} {sz n : Nat} {v : Value} {xs : List Value} (h : Row w e sz v n xs) (k : Kp No w w') : Row w' e sz v n xs := h.kp k (fun _ _ hx => hx.elim)
theorem Row.lt {w : World} {e : TypeId} {sz n : Nat} {v : Value} {xs : List Value} (h : Row w e sz v n xs) : ∀ x, v.ownBlock = some x → x < w.heap.size := fun x hx => (World.ownsRow.lt h x hx).2
/-- Blocks of other types are other blocks. -/
theorem Row.ne {w : World} {e : TypeId} {sz n : Nat} {v : Value} {xs : List Value} (h : Row w e sz v n xs) {b : Nat} {cs : List Value} {t : TypeId} (hb : Blk w b t cs) (ht : t ≠ e) : v.ownBlock ≠ some b := by
  rcases h.2 with ⟨rfl, _⟩ | ⟨g, cap, cur, rfl, _, hgg, _⟩
  · simp [Value.ownBlock]
  · intro hx
    simp [Value.ownBlock] at hx
    subst hx
    unfold Blk at hb
    rw [hgg] at hb
    simp at hb
    exact ht hb.2.symm
theorem Row.ne' {w : World} {e e' : TypeId} {sz n sz' n' : Nat} {v v' : Value} {xs xs' : List Value} (h : Row w e sz v n xs) (h' : Row w e' sz' v' n' xs') (ht : e ≠ e') : ∀ x, v.ownBlock = some x → v'.ownBlock ≠ some x := by
  intro x hx hx'
  rcases h.2 with ⟨rfl, _⟩ | ⟨g, cap, cur, rfl, _, hgg, _⟩
  · simp [Value.ownBlock] at hx
  · rcases h'.2 with ⟨rfl, _⟩ | ⟨g', cap', cur', rfl, _, hgg', _⟩
    · simp [Value.ownBlock] at hx'
    · simp [Value.ownBlock] at hx hx'
      subst hx hx'
      rw [hgg] at hgg'
      simp at hgg'
      exact ht hgg'.2
theorem Row.shape {w : World} {e : TypeId} {sz n : Nat} {v : Value} {xs : List Value} (h : Row w e sz v n xs) : ∃ a cap, v = .slice a n cap ∧ n ≤ cap ∧ cap ≤ maxLen ∧ (a = none → n = 0 ∧ cap = 0) ∧ ∀ x, a = some x → x.spot = none ∧ x.off = 0 := by
  rcases h.2 with ⟨rfl, h0⟩ | ⟨g, cap, cur, rfl, hg, hh, hn, hc, hs, ht⟩
  · subst h0
    exact ⟨none, 0, rfl, Nat.le_refl _, Nat.zero_le _, fun _ => ⟨rfl, rfl⟩, by simp⟩
  · exact ⟨_, cap, rfl, hn, hc, by simp, fun x hx => by cases hx; exact ⟨rfl, rfl⟩⟩
theorem Row.cellAt {w : World} {e : TypeId} {sz n g cap : Nat} {xs : List Value} (h : Row w e sz (.slice (some ⟨g, 0, none⟩) n cap) n xs) (i : Nat) (hi : i < n * sz) : w.cell? ⟨g, i, none⟩ = xs[i]? := by
  obtain ⟨hl, h2⟩ := h
  have hx : xs[i]? = some xs[i] := List.getElem?_eq_getElem (by omega)
  have h3 := World.ownsRow.cells (w := w) (base := 0) (e := e) (size := sz) (v := .slice (some ⟨g, 0, none⟩) n cap) (n := n) (xs := xs) ⟨hl, h2⟩ (g := g) rfl i xs[i] hx
  rw [addr_add, Nat.zero_add] at h3
  rw [h3, hx]

/-- The values of a slice that is read. -/
def Src (w : World) (v : Value) (m sz : Nat) (ys : List Value) : Prop :=
  (v = .slice none 0 0 ∧ m = 0 ∧ ys = []) ∨ ∃ ad c, v = .slice (some ad) m c ∧ ys.length = m * sz ∧ (∀ j u, ys[j]? = some u → w.cell? (ad.add j) = some u) ∧ ∀ u ∈ ys, u.oneCell' = true

/-- append(v, x...), v of the call's own. -/
theorem app_row {ops : Array Oper} {rest : List Oper} {o : Oper} {a : Act} {Q : Exit → Act → World → Prop} (w : World) (hgd : o.guard = none) (s x : Operand) (t e : TypeId) (z : Value) (sz by' : Nat)
    (ho : o.op = .call { callee := .builtin .append, args := #[s, x], argTypes := #[t, t] }) (ht : Tryz.prog.underlying t = some (.slice e)) (hin : (Tryz.prog.info? e).map (fun i => (i.zero, i.size, i.bytes)) = some (some z, sz, by'))
    (hz1 : z.cells.size = sz) (hsz : 0 < sz) (v vx : Value) (n m : Nat) (xs ys : List Value) (hs : a.eval s = v) (hx : a.eval x = vx)
    (hown : Row w e sz v n xs) (hy : Src w vx m sz ys) (hlen : n + m ≤ 20000000) (hby : by' ≤ 1000)
    (h : ∀ ad cap w', Row w' e sz (.slice ad (n + m) cap) (n + m) (xs ++ ys) → w.grownBy w' v.ownBlock → ((Value.slice ad (n + m) cap).ownBlock = v.ownBlock ∨ (Value.slice ad (n + m) cap).ownBlock = some w.heap.size) → wpList Tryz.prog ops Q rest (a.put o.dst (.slice ad (n + m) cap)) w') : wpList Tryz.prog ops Q (o :: rest) a w := by
  obtain ⟨i0, hi, hz0, hz1', hz2⟩ := info_parts hin
  rcases hy with ⟨rfl, rfl, rfl⟩ | ⟨ad, c, rfl, hl, hc, h1⟩
  · refine wpList_append_own_none hgd s x t ho 0 e i0 sz ht hi v n xs hs hown hx ?_
    obtain ⟨ad, cap, rfl, _⟩ := hown.shape
    exact h ad cap w (by rw [List.append_nil]; exact hown) ⟨rfl, rfl, rfl, Nat.le_refl _, fun _ _ _ => rfl⟩ (.inl rfl)
  · refine wpList_append_own_at (P := Tryz.prog) w hgd s x t ho 0 e i0 z sz by' ht hi hz0 hz1' hz2 hz1 hsz v n xs hs hown ad m c ys hx hl hc h1 (by unfold maxLen; omega) ?_ (Nat.zero_le _) ?_
    · have : (n + m) * by' ≤ 20000000 * 1000 := Nat.mul_le_mul hlen hby
      omega
    · intro v' w' h8 h9 _ h10
      have h8' : Row w' e sz v' (n + m) (xs ++ ys) := h8
      obtain ⟨ad', cap', rfl, _⟩ := h8'.shape
      exact h ad' cap' w' h8 h9 h10

/-- A literal of one element. -/
theorem Src.one (w : World) (us : List Value) (sz : Nat) (t : TypeId) (hl : us.length = sz) (h1 : ∀ u ∈ us, u.oneCell' = true) : Src (w.alloc (.cells us.toArray t)) (.slice (some ⟨w.heap.size, 0, none⟩) 1 1) 1 sz us :=
  .inr ⟨_, 1, rfl, by omega, fun j x hj => by
    rw [addr_add, World.cell?_alloc_at _ _ _ _ rfl]
    simpa using hj, h1⟩

/-! ### Bytes of the call's own -/
/-- v is a row of the call's own, of the bytes xs. -/
def OwnB (w : World) (v : Value) (xs : List Nat) : Prop := Row w 5 1 v xs.length (cl xs)
theorem OwnB.row {w : World} {v : Value} {xs : List Nat} (h : OwnB w v xs) : Row w 5 1 v xs.length (cl xs) := h
theorem OwnB.nil (w : World) : OwnB w (.slice none 0 0) [] := Row.nil _ _ _
theorem OwnB.shape {w : World} {v : Value} {xs : List Nat} (h : OwnB w v xs) : ∃ a cap, v = .slice a xs.length cap ∧ xs.length ≤ cap ∧ cap ≤ maxLen ∧ (a = none → xs = [] ∧ cap = 0) := by
  obtain ⟨a, cap, h1, h2, h3, h4, _⟩ := h.row.shape
  exact ⟨a, cap, h1, h2, h3, fun e => ⟨List.length_eq_zero_iff.1 (h4 e).1, (h4 e).2⟩⟩
theorem OwnB.byP {P : Nat → Prop} {w : World} {v : Value} {xs : List Nat} (h : OwnB w v xs) (hP : ∀ x, v.ownBlock = some x → P x) (hl : xs.length ≤ 20000000) (hx : ∀ x ∈ xs, x < 256) : ByP P w v xs := by
  rcases h.row.2 with ⟨rfl, h0⟩ | ⟨g, cap, cur, rfl, hg, hh, hn, hc, hs, ht⟩
  · have : xs = [] := List.length_eq_zero_iff.1 h0
    subst this
    exact ByP.nil _ _
  · refine ⟨_, cap, rfl, hn, hc, by simp, by omega, hx, fun _ => ⟨g, 0, rfl, hP g rfl, (Array.getElem?_eq_some_iff.1 hh).1, fun i hi => ?_⟩⟩
    rw [Nat.zero_add, h.row.cellAt i (by omega)]
    exact cl_at xs i hi
theorem ByP.src {P : Nat → Prop} {w : World} {v : Value} {ys : List Nat} (h : ByP P w v ys) : Src w v ys.length 1 (cl ys) := by
  obtain ⟨a, cap, rfl, h2, h3, h4, h5, h6, h7⟩ := h
  cases a with
  | none =>
    obtain ⟨rfl, rfl⟩ := h4 rfl
    exact .inl ⟨rfl, rfl, rfl⟩
  | some ad =>
    refine .inr ⟨ad, cap, rfl, by rw [cl_length, Nat.mul_one], fun j u hj => ?_, cl_one ys⟩
    have hjn : j < ys.length := by
      have := (List.getElem?_eq_some_iff.1 hj).1
      rwa [cl_length] at this
    obtain ⟨g, o, e, _, hb, hc⟩ := h7 (by intro e; subst e; simp at hjn)
    simp only [Option.some.injEq] at e
    subst e
    rw [addr_add, hc j hjn, ← cl_at ys j hjn]
    exact hj
theorem Tryz.info5 : (Tryz.prog.info? 5).map (fun i => (i.zero, i.size, i.bytes)) = some (some (.int .u8 0), 1, 1) := by kernel_rfl
/-- append of bytes. -/
theorem app_bytes {ops : Array Oper} {rest : List Oper} {o : Oper} {a : Act} {Q : Exit → Act → World → Prop} (w : World) (hgd : o.guard = none) (s x : Operand)
    (ho : o.op = .call { callee := .builtin .append, args := #[s, x], argTypes := #[23, 23] }) (v vx : Value) (xs ys : List Nat) (P : Nat → Prop) (hs : a.eval s = v) (hx : a.eval x = vx)
    (hown : OwnB w v xs) (hy : ByP P w vx ys) (hlen : xs.length + ys.length ≤ 20000000)
    (h : ∀ ad cap w', OwnB w' (.slice ad (xs.length + ys.length) cap) (xs ++ ys) → w.grownBy w' v.ownBlock → ((Value.slice ad (xs.length + ys.length) cap).ownBlock = v.ownBlock ∨ (Value.slice ad (xs.length + ys.length) cap).ownBlock = some w.heap.size) → wpList Tryz.prog ops Q rest (a.put o.dst (.slice ad (xs.length + ys.length) cap)) w') : wpList Tryz.prog ops Q (o :: rest) a w := by
  refine app_row w hgd s x 23 5 (.int .u8 0) 1 1 ho Tryz.underlying23 Tryz.info5 rfl (by decide) v vx xs.length ys.length (cl xs) (cl ys) hs hx hown.row hy.src hlen (by decide) ?_
  intro ad cap w' h1 h2 h3
  exact h ad cap w' (by unfold OwnB; rw [cl_append, List.length_append]; exact h1) h2 h3

theorem Tryz.nilEq (w : World) (a : Option Addr) (n c n' c' : Nat) : (binOp .eql 23 (.slice a n c) (.slice none n' c')).run Tryz.prog w = .ok (.bool a.isNone) w :=
  Lib.run_eql_slice_nil w _ _ a n c n' c' Tryz.underlying23
theorem own_empty (w : World) : OwnB (w.alloc (.cells #[] 5)) (.slice (some ⟨w.heap.size, 0, none⟩) 0 0) [] := World.ownsRow_made w #[] 0 (Nat.zero_le _) (Nat.zero_le _) rfl

set_option maxHeartbeats 1000000 in
/-- bytes.Clone. -/
theorem clone_any {P : Nat → Prop} (v : Value) (bs : List Nat) (w : World) (h : ByP P w v bs) (hl : bs.length ≤ 20000000) :
    Calls Tryz.prog 53 #[v] w fun e w' => ∃ ad cap, e = .returned (.slice ad bs.length cap) ∧ OwnB w' (.slice ad bs.length cap) bs ∧ (∀ x, (Value.slice ad bs.length cap).ownBlock = some x → w.heap.size ≤ x) ∧ Kp No w w' := by
  have q22 := Tryz.nilEq
  have H := hid h
  obtain ⟨a, cap, rfl, h2, h3, h4, h5, h6, h7⟩ := h
  clear h6 h7
  cases a with
  | none =>
    obtain ⟨rfl, rfl⟩ := h4 rfl
    go_enter Tryz.func53, Tryz.ntmps53
    go_wp2
    go_ret
    exact ⟨_, _, rfl, OwnB.nil _, by simp [Value.ownBlock], Kp.refl _ _⟩
  | some ad =>
    clear h4
    go_enter Tryz.func53, Tryz.ntmps53
    go_wp2_with (at_builtin; refine app_bytes _ rfl _ _ rfl (.slice (some ⟨w.heap.size, 0, none⟩) 0 0) _ [] bs P rfl rfl (own_empty w) (H.out.kept ((Kp.refl _ _).alloc _)) (by simpa using hl) ?_; intro ad' cap' w' hown hg hb)
    go_wp2
    go_ret
    rw [List.length_nil, Nat.zero_add] at hown hb
    refine ⟨ad', cap', rfl, by simpa using hown, fun x hx => ?_, ((Kp.refl _ w).alloc _).grown hg (fun x hx => .inr (by simp [Value.ownBlock] at hx; omega))⟩
    rcases hb with hb | hb
    · rw [hb] at hx
      simp [Value.ownBlock] at hx
      omega
    · rw [hb] at hx
      simp at hx
      omega

end Go.Proofs.YtdooiflmjeibdaaGreatDoor.Tr
end

section
/-
  Texts of paths, purely: parts, how a text is cut at each /, paths, and how a path is split.
-/
namespace Go.Proofs.YtdooiflmjeibdaaGreatDoor.Tr

abbrev Tx := List UInt8
def sgn (c : UInt8) : Bool := decide (33 ≤ c.toNat) && decide (c.toNat ≤ 126) && !(c.toNat == 47)
def partB (s : Tx) : Bool := decide (1 ≤ s.length) && decide (s.length ≤ 20) && !(s == [46]) && !(s == [46, 46]) && s.all sgn
/-- p put ahead of the first one. -/
def ahd (p : Tx) : List Tx → List Tx
  | [] => [p]
  | h :: t => (p ++ h) :: t
/-- A text, cut at each /. -/
def cuts : Tx → List Tx
  | [] => [[]]
  | c :: r => if c = 47 then [] :: cuts r else ahd [c] (cuts r)
def pathB (s : Tx) : Bool := decide ((cuts s).length ≤ 6) && (cuts s).all partB

theorem cuts_ne (s : Tx) : cuts s ≠ [] := by
  cases s with
  | nil => simp [cuts]
  | cons c r =>
    rw [cuts]
    split
    · simp
    · cases cuts r <;> simp [ahd]
theorem ahd_nil (l : List Tx) (h : l ≠ []) : ahd [] l = l := by
  cases l with
  | nil => exact absurd rfl h
  | cons a t => rfl
theorem ahd_ahd (p q : Tx) (l : List Tx) : ahd p (ahd q l) = ahd (p ++ q) l := by cases l <;> simp [ahd]
theorem ahd_length (p : Tx) (l : List Tx) (h : l ≠ []) : (ahd p l).length = l.length := by
  cases l with
  | nil => exact absurd rfl h
  | cons a t => rfl
/-- All lengths, with one for each /. -/
def tot (l : List Tx) : Nat := (l.map (fun x => x.length + 1)).sum
theorem tot_ahd (p : Tx) (l : List Tx) (h : l ≠ []) : tot (ahd p l) = p.length + tot l := by
  cases l with
  | nil => exact absurd rfl h
  | cons a t => simp [ahd, tot]; omega
theorem tot_cuts : ∀ s : Tx, tot (cuts s) = s.length + 1
  | [] => rfl
  | c :: r => by
    rw [cuts]
    split
    · have := tot_cuts r
      simp only [tot, List.map_cons, List.sum_cons, List.length_nil, List.length_cons] at this ⊢
      omega
    · rw [tot_ahd _ _ (cuts_ne r), tot_cuts r]
      simp
      omega
theorem cuts_len (s : Tx) : (cuts s).length ≤ s.length + 1 := by
  induction s with
  | nil => simp [cuts]
  | cons c r ih =>
    rw [cuts]
    split
    · simp; omega
    · rw [ahd_length _ _ (cuts_ne r)]; simp; omega
theorem tot_le : ∀ l : List Tx, l.all partB = true → tot l ≤ l.length * 21
  | [], _ => by simp [tot]
  | x :: t, h => by
    simp only [List.all_cons, Bool.and_eq_true] at h
    have h1 := tot_le t h.2
    have h2 : x.length ≤ 20 := by
      have := h.1
      simp only [partB, Bool.and_eq_true, decide_eq_true_eq] at this
      exact this.1.1.1.2
    simp only [tot, List.map_cons, List.sum_cons, List.length_cons] at h1 ⊢
    omega
theorem path_len {s : Tx} (h : pathB s = true) : s.length ≤ 125 := by
  simp only [pathB, Bool.and_eq_true, decide_eq_true_eq] at h
  have h1 := tot_le _ h.2
  have h2 := tot_cuts s
  have h3 : (cuts s).length * 21 ≤ 6 * 21 := Nat.mul_le_mul_right _ h.1
  omega
theorem cuts_of_index : ∀ (s : Tx), (Lib.indexByte s 47 = -1 ∧ cuts s = [s]) ∨ ∃ i : Nat, Lib.indexByte s 47 = i ∧ i < s.length ∧ cuts s = s.take i :: cuts (s.drop (i + 1))
  | [] => .inl ⟨rfl, rfl⟩
  | c :: r => by
    by_cases hc : c = 47
    · subst hc
      refine .inr ⟨0, by simp [Lib.indexByte], by simp, ?_⟩
      simp [cuts]
    · have hb : (c == 47) = false := by simp [hc]
      rcases cuts_of_index r with ⟨h1, h2⟩ | ⟨i, h1, h2, h3⟩
      · refine .inl ⟨?_, ?_⟩
        · rw [Lib.indexByte, hb, h1]; rfl
        · rw [cuts, if_neg hc, h2]; rfl
      · refine .inr ⟨i + 1, ?_, by simpa using h2, ?_⟩
        · rw [Lib.indexByte, hb, h1]
          have : ((i : Int) == -1) = false := by simp
          rw [this]
          simp
        · rw [cuts, if_neg hc, h3]
          simp [ahd]
theorem splitK_all : ∀ (k : Nat) (s : Tx), (cuts s).length ≤ k + 1 → Lib.splitK [47] 0 k s = cuts s
  | 0, s, h => by
    rcases cuts_of_index s with ⟨_, h2⟩ | ⟨i, _, _, h3⟩
    · rw [h2]; rfl
    · rw [h3, List.length_cons] at h
      have := List.length_pos_iff.2 (cuts_ne (s.drop (i + 1)))
      omega
  | k + 1, s, h => by
    rcases cuts_of_index s with ⟨h1, h2⟩ | ⟨i, h1, _, h3⟩
    · rw [Lib.splitK, Lib.index_one, h1, h2]; rfl
    · rw [Lib.splitK, Lib.index_one, h1, h3]
      have : ((i : Int) == -1) = false := by simp
      rw [this]
      simp only [Bool.false_eq_true, if_false, Int.toNat_natCast, Nat.add_zero, List.length_cons, List.length_nil, Nat.zero_add]
      rw [splitK_all k _ (by rw [h3] at h; simpa using h)]
theorem splitK_more : ∀ (k : Nat) (s : Tx), k + 1 ≤ (cuts s).length → (Lib.splitK [47] 0 k s).length = k + 1
  | 0, s, _ => rfl
  | k + 1, s, h => by
    rcases cuts_of_index s with ⟨h1, h2⟩ | ⟨i, h1, _, h3⟩
    · rw [h2] at h
      simp at h
    · rw [Lib.splitK, Lib.index_one, h1]
      have : ((i : Int) == -1) = false := by simp
      rw [this]
      simp only [Bool.false_eq_true, if_false, Int.toNat_natCast, Nat.add_zero, List.length_cons, List.length_nil, Nat.zero_add]
      rw [splitK_more k _ (by rw [h3] at h; simpa using h)]
/-- What SplitN of at most seven tells. -/
theorem path_split (s : Tx) : pathB s = (decide ((Lib.splitK [47] 0 (min 7 (s.length + 1) - 1) s).length ≤ 6) && (Lib.splitK [47] 0 (min 7 (s.length + 1) - 1) s).all partB) := by
  by_cases h : (cuts s).length ≤ 6
  · rw [splitK_all _ s (by have := cuts_len s; omega)]
    rfl
  · have h1 := cuts_len s
    have h2 := splitK_more 6 s (by omega)
    have e : min 7 (s.length + 1) - 1 = 6 := by omega
    rw [e, h2, pathB, decide_eq_false h]
    rfl

end Go.Proofs.YtdooiflmjeibdaaGreatDoor.Tr
end

section
/-
  Part, of the program and of the document.
-/
namespace Go.Proofs.YtdooiflmjeibdaaGreatDoor.Tr
open Go.RowKit

/-- A text's byte. -/
def byt (s : ByteArray) (i : Nat) : Nat := (s.data.toList.getD i 0).toNat
theorem byt_lt (s : ByteArray) (i : Nat) : byt s i < 256 := UInt8.toNat_lt _
theorem len_data (s : ByteArray) : s.data.toList.length = s.size := by rw [Array.length_toList]; rfl
theorem sidx (s : ByteArray) (i : Nat) (h : i < s.size) (w : World) : (Instr.index 9 (.string s) (.int .i64 (i : Int))).run Tryz.prog w = .ok (.int .u8 (byt s i : Nat)) w := by
  simp [Instr.index, asIntOf, run_underlying Tryz.underlying9]
  have e : s[i]? = some s[i] := getElem?_pos s i h
  have e2 : byt s i = (s[i]).toNat := by
    have h' : i < s.data.toList.length := by simpa using h
    simp [byt, List.getElem?_eq_getElem h', ByteArray.getElem_eq_getElem_data]
  rw [e, e2]
  rfl
theorem take_byt (s : ByteArray) (i : Nat) (h : i < s.size) : s.data.toList.take (i + 1) = s.data.toList.take i ++ [s.data.toList.getD i 0] := by
  have h' : i < s.data.toList.length := by rw [len_data]; exact h
  rw [List.take_succ_eq_append_getElem h', List.getD_eq_getElem?_getD, List.getElem?_eq_getElem h', Option.getD_some]
theorem mem_byt (s : ByteArray) (i : Nat) (h : i < s.size) : s.data.toList.getD i 0 ∈ s.data.toList := by
  have h' : i < s.data.toList.length := by rw [len_data]; exact h
  rw [List.getD_eq_getElem?_getD, List.getElem?_eq_getElem h', Option.getD_some]
  exact List.getElem_mem h'
theorem ba_eq {s t : ByteArray} : s = t ↔ s.data.toList = t.data.toList := ⟨fun h => by rw [h], fun h => by
  cases s; cases t; simp at h; rw [h]⟩

theorem tl_eq {s t : ByteArray} : s = t ↔ s.toList = t.data.toList := by rw [ByteArray.toList_eq]; exact ba_eq
theorem part_closed {s : ByteArray} (h : s = ⟨#[]⟩ ∨ s = ⟨#[46]⟩ ∨ s = ⟨#[46, 46]⟩) : partB s.data.toList = false := by
  rcases h with rfl | rfl | rfl <;> rfl
theorem part_long {s : ByteArray} (h : 20 < s.size) : partB s.data.toList = false := by
  rw [partB, len_data, decide_eq_false (p := s.size ≤ 20) (by omega)]
  simp
theorem part_else {s : ByteArray} (h0 : s ≠ ⟨#[]⟩) (h1 : s ≠ ⟨#[46]⟩) (h2 : s ≠ ⟨#[46, 46]⟩) (h3 : ¬ 20 < s.size) : partB s.data.toList = s.data.toList.all sgn := by
  have a0 : 1 ≤ s.size := by
    refine Nat.pos_of_ne_zero (fun h => h0 ?_)
    rw [ba_eq]
    exact List.length_eq_zero_iff.1 ((len_data s).trans h)
  have a1 : (s.data.toList == [46]) = false := by
    rw [beq_eq_false_iff_ne]
    exact fun h => h1 (ba_eq.2 h)
  have a2 : (s.data.toList == [46, 46]) = false := by
    rw [beq_eq_false_iff_ne]
    exact fun h => h2 (ba_eq.2 h)
  rw [partB, len_data, decide_eq_true a0, decide_eq_true (p := s.size ≤ 20) (by omega), a1, a2]
  simp

set_option maxHeartbeats 1000000 in
theorem part_any (s : ByteArray) (hs : s.size ≤ 20000000) (w : World) : Calls Tryz.prog 56 #[.string s] w fun e w' => e = .returned (.bool (partB s.data.toList)) ∧ w' = w := by
  by_cases h0 : s = ⟨#[]⟩ ∨ s = ⟨#[46]⟩ ∨ s = ⟨#[46, 46]⟩
  · rw [part_closed h0]
    rcases h0 with rfl | rfl | rfl <;>
    · go_enter Tryz.func56, Tryz.ntmps56
      go_wp2
      go_ret
      exact ⟨rfl, rfl⟩
  · have n0 : ¬ s = ⟨#[]⟩ := fun h => h0 (.inl h)
    have n1 : ¬ s = ⟨#[46]⟩ := fun h => h0 (.inr (.inl h))
    have n2 : ¬ s = ⟨#[46, 46]⟩ := fun h => h0 (.inr (.inr h))
    have b0 : s.toList.isEmpty = false := by rw [List.isEmpty_eq_false_iff]; exact fun h => n0 (tl_eq.2 h)
    have b1 : (s.toList == [46]) = false := beq_eq_false_iff_ne.2 (fun h => n1 (tl_eq.2 h))
    have b2 : (s.toList == [46, 46]) = false := beq_eq_false_iff_ne.2 (fun h => n2 (tl_eq.2 h))
    have hz : ¬ (s.size : Int) < 1 := by
      have : s.size ≠ 0 := fun h => n0 (ba_eq.2 (List.length_eq_zero_iff.1 ((len_data s).trans h)))
      omega
    clear h0
    by_cases h3 : 20 < s.size
    · have h3' : (20 : Int) < (s.size : Int) := by omega
      rw [part_long h3]
      go_enter Tryz.func56, Tryz.ntmps56
      go_wp2
      go_ret
      exact ⟨rfl, rfl⟩
    · have h3' : ¬ (20 : Int) < (s.size : Int) := by omega
      · have e : Hid (partB s.data.toList = s.data.toList.all sgn) := part_else n0 n1 n2 h3
        go_enter Tryz.func56, Tryz.ntmps56
        go_wp2
        go_loopw [21] (fun x wr => ∃ i : Nat, x = .int .i64 i ∧ i ≤ s.size ∧ Hid ((s.data.toList.take i).all sgn = true) ∧ wr = w) (fun x _ => s.size - (intOf x).toNat)
        case atStart => exact ⟨0, rfl, by omega, by simp [Hid], rfl⟩
        case round =>
          obtain ⟨i, rfl, hi, HI, rfl⟩ := hrel
          by_cases hlt : i < s.size
          · have hx := sidx s i hlt
            have hltI : (i : Int) < (s.size : Int) := by omega
            have hT := hid (take_byt s i hlt)
            have hM := hid (mem_byt s i hlt)
            have hc : Hid (∃ c, s.data.toList.getD i 0 = c ∧ byt s i = c.toNat) := ⟨_, rfl, rfl⟩
            obtain ⟨c, hc1, hc2⟩ := hc.out
            rw [hc1] at hT hM
            rw [hc2] at hx
            clear hc hc1 hc2
            have hcl : c.toNat < 256 := UInt8.toNat_lt _
            have hsg : Hid (sgn c = (decide (33 ≤ c.toNat) && decide (c.toNat ≤ 126) && !(c.toNat == 47))) := rfl
            generalize c.toNat = n at hx hcl hsg
            have HBAD : Hid (sgn c = false → partB s.data.toList = false) := fun hf => by rw [e.out, List.all_eq_false.2 ⟨c, hM.out, by rw [hf]; simp⟩]
            by_cases g1 : n < 33
            · have g1' : (n : Int) < 33 := by omega
              go_wp2
              go_ret
              refine ⟨?_, rfl⟩
              rw [HBAD.out (by rw [hsg.out, decide_eq_false (by omega)]; simp)]
              rfl
            · have g1' : ¬ (n : Int) < 33 := by omega
              by_cases g2 : 126 < n
              · have g2' : (126 : Int) < n := by omega
                go_wp2
                go_ret
                refine ⟨?_, rfl⟩
                rw [HBAD.out (by rw [hsg.out, decide_eq_false (p := n ≤ 126) (by omega)]; simp)]
                rfl
              · have g2' : ¬ (126 : Int) < n := by omega
                by_cases g3 : n = 47
                · subst g3
                  go_wp2
                  go_ret
                  refine ⟨?_, rfl⟩
                  rw [HBAD.out (by rw [hsg.out]; simp)]
                  rfl
                · have g3' : ((n : Int) == 47) = false := by simp; omega
                  have HS : Hid (sgn c = true) := by unfold Hid; rw [hsg.out, decide_eq_true (by omega), decide_eq_true (by omega)]; simp; omega
                  go_wp2
                  go_roundw
                  case rel => exact ⟨i + 1, by go_num, by omega, by rw [Hid, hT.out, List.all_append, HI.out]; simp [HS.out], by first | rfl | trivial⟩
                  case measure => simp [intOf]; omega
          · have hltI : ¬ (i : Int) < (s.size : Int) := by omega
            go_wp2
            go_ret
            refine ⟨?_, rfl⟩
            have := HI.out
            rw [List.take_of_length_le (by rw [len_data]; omega)] at this
            rw [e.out, this]
            rfl

set_option maxHeartbeats 1000000 in
theorem rpart_any (s : ByteArray) (hs : s.size ≤ 20000000) (w : World) : Calls Tryz.prog 63 #[.string s] w fun e w' => e = .returned (.bool (partB s.data.toList)) ∧ w' = w := by
  by_cases h0 : s = ⟨#[]⟩ ∨ s = ⟨#[46]⟩ ∨ s = ⟨#[46, 46]⟩
  · rw [part_closed h0]
    rcases h0 with rfl | rfl | rfl <;>
    · go_enter Tryz.func63, Tryz.ntmps63
      go_wp2
      go_ret
      exact ⟨rfl, rfl⟩
  · have n0 : ¬ s = ⟨#[]⟩ := fun h => h0 (.inl h)
    have n1 : ¬ s = ⟨#[46]⟩ := fun h => h0 (.inr (.inl h))
    have n2 : ¬ s = ⟨#[46, 46]⟩ := fun h => h0 (.inr (.inr h))
    have b0 : s.toList.isEmpty = false := by rw [List.isEmpty_eq_false_iff]; exact fun h => n0 (tl_eq.2 h)
    have b1 : (s.toList == [46]) = false := beq_eq_false_iff_ne.2 (fun h => n1 (tl_eq.2 h))
    have b2 : (s.toList == [46, 46]) = false := beq_eq_false_iff_ne.2 (fun h => n2 (tl_eq.2 h))
    have hz : ¬ (s.size : Int) < 1 := by
      have : s.size ≠ 0 := fun h => n0 (ba_eq.2 (List.length_eq_zero_iff.1 ((len_data s).trans h)))
      omega
    clear h0
    by_cases h3 : 20 < s.size
    · have h3' : (20 : Int) < (s.size : Int) := by omega
      rw [part_long h3]
      go_enter Tryz.func63, Tryz.ntmps63
      go_wp2
      go_ret
      exact ⟨rfl, rfl⟩
    · have h3' : ¬ (20 : Int) < (s.size : Int) := by omega
      · have e : Hid (partB s.data.toList = s.data.toList.all sgn) := part_else n0 n1 n2 h3
        go_enter Tryz.func63, Tryz.ntmps63
        go_wp2
        go_loopw [3] (fun x wr => ∃ i : Nat, x = .int .i64 i ∧ i ≤ s.size ∧ Hid ((s.data.toList.take i).all sgn = true) ∧ wr = w) (fun x _ => s.size - (intOf x).toNat)
        case atStart => exact ⟨0, rfl, by omega, by simp [Hid], rfl⟩
        case round =>
          obtain ⟨i, rfl, hi, HI, rfl⟩ := hrel
          by_cases hlt : i < s.size
          · have hx := sidx s i hlt
            have hltI : (i : Int) < (s.size : Int) := by omega
            have hT := hid (take_byt s i hlt)
            have hM := hid (mem_byt s i hlt)
            have hc : Hid (∃ c, s.data.toList.getD i 0 = c ∧ byt s i = c.toNat) := ⟨_, rfl, rfl⟩
            obtain ⟨c, hc1, hc2⟩ := hc.out
            rw [hc1] at hT hM
            rw [hc2] at hx
            clear hc hc1 hc2
            have hcl : c.toNat < 256 := UInt8.toNat_lt _
            have hsg : Hid (sgn c = (decide (33 ≤ c.toNat) && decide (c.toNat ≤ 126) && !(c.toNat == 47))) := rfl
            generalize c.toNat = n at hx hcl hsg
            have HBAD : Hid (sgn c = false → partB s.data.toList = false) := fun hf => by rw [e.out, List.all_eq_false.2 ⟨c, hM.out, by rw [hf]; simp⟩]
            by_cases g1 : n < 33
            · have g1' : (n : Int) < 33 := by omega
              go_wp2
              go_ret
              refine ⟨?_, rfl⟩
              rw [HBAD.out (by rw [hsg.out, decide_eq_false (by omega)]; simp)]
              rfl
            · have g1' : ¬ (n : Int) < 33 := by omega
              by_cases g2 : 126 < n
              · have g2' : (126 : Int) < n := by omega
                go_wp2
                go_ret
                refine ⟨?_, rfl⟩
                rw [HBAD.out (by rw [hsg.out, decide_eq_false (p := n ≤ 126) (by omega)]; simp)]
                rfl
              · have g2' : ¬ (126 : Int) < n := by omega
                by_cases g3 : n = 47
                · subst g3
                  go_wp2
                  go_ret
                  refine ⟨?_, rfl⟩
                  rw [HBAD.out (by rw [hsg.out]; simp)]
                  rfl
                · have g3' : ((n : Int) == 47) = false := by simp; omega
                  have HS : Hid (sgn c = true) := by unfold Hid; rw [hsg.out, decide_eq_true (by omega), decide_eq_true (by omega)]; simp; omega
                  go_wp2
                  go_roundw
                  case rel => exact ⟨i + 1, by go_num, by omega, by rw [Hid, hT.out, List.all_append, HI.out]; simp [HS.out], by first | rfl | trivial⟩
                  case measure => simp [intOf]; omega
          · have hltI : ¬ (i : Int) < (s.size : Int) := by omega
            go_wp2
            go_ret
            refine ⟨?_, rfl⟩
            have := HI.out
            rw [List.take_of_length_le (by rw [len_data]; omega)] at this
            rw [e.out, this]
            rfl

end Go.Proofs.YtdooiflmjeibdaaGreatDoor.Tr
end

section
/-
  Rows of texts.
-/
namespace Go.Proofs.YtdooiflmjeibdaaGreatDoor.Tr
open Go.RowKit

/-- Texts as cells. -/
def tc (xs : List ByteArray) : List Value := xs.map Value.string
theorem tc_length (xs : List ByteArray) : (tc xs).length = xs.length := by simp [tc]
theorem tc_append (xs ys : List ByteArray) : tc (xs ++ ys) = tc xs ++ tc ys := by simp [tc]
theorem tc_at (xs : List ByteArray) (i : Nat) (x : ByteArray) (h : xs[i]? = some x) : (tc xs)[i]? = some (.string x) := by simp [tc, h]
/-- v is a row of the call's own, of the texts xs. -/
def OwnT (w : World) (v : Value) (xs : List ByteArray) : Prop := Row w 9 1 v xs.length (tc xs)
theorem OwnT.row {w : World} {v : Value} {xs : List ByteArray} (h : OwnT w v xs) : Row w 9 1 v xs.length (tc xs) := h
theorem OwnT.nil (w : World) : OwnT w (.slice none 0 0) [] := Row.nil _ _ _
theorem OwnT.kp {L : Nat → Prop} {w w' : World} {v : Value} {xs : List ByteArray} (h : OwnT w v xs) (k : Kp L w w') (hv : ∀ x, v.ownBlock = some x → ¬ L x) : OwnT w' v xs := Row.kp h k hv
theorem OwnT.kept {w w' : World} {v : Value} {xs : List ByteArray} (h : OwnT w v xs) (k : Kp No w w') : OwnT w' v xs := Row.kept h k
theorem Tryz.info9 : (Tryz.prog.info? 9).map (fun i => (i.zero, i.size, i.bytes)) = some (some (.string ByteArray.empty), 1, 16) := by kernel_rfl
/-- append of one text. -/
theorem app_text {ops : Array Oper} {rest : List Oper} {o : Oper} {a : Act} {Q : Exit → Act → World → Prop} (w w0 : World) (hgd : o.guard = none) (s x : Operand)
    (ho : o.op = .call { callee := .builtin .append, args := #[s, x], argTypes := #[81, 81] }) (v : Value) (xs : List ByteArray) (y : ByteArray) (hs : a.eval s = v) (hw : w = w0.alloc (.cells #[.string y] 9)) (hx : a.eval x = .slice (some ⟨w0.heap.size, 0, none⟩) 1 1)
    (hown : OwnT w0 v xs) (hlen : xs.length + 1 ≤ 20000000)
    (h : ∀ ad cap w', OwnT w' (.slice ad (xs.length + 1) cap) (xs ++ [y]) → w.grownBy w' v.ownBlock → ((Value.slice ad (xs.length + 1) cap).ownBlock = v.ownBlock ∨ (Value.slice ad (xs.length + 1) cap).ownBlock = some w.heap.size) → wpList Tryz.prog ops Q rest (a.put o.dst (.slice ad (xs.length + 1) cap)) w') : wpList Tryz.prog ops Q (o :: rest) a w := by
  subst hw
  refine app_row _ hgd s x 81 9 (.string ByteArray.empty) 1 16 ho Tryz.underlying81 Tryz.info9 rfl (by decide) v _ xs.length 1 (tc xs) [.string y] hs hx (Row.kept hown ((Kp.refl _ _).alloc _)) (Src.one w0 [.string y] 1 9 rfl (by intro u hu; rw [List.mem_singleton.1 hu]; rfl)) hlen (by decide) ?_
  intro ad cap w' h1 h2 h3
  exact h ad cap w' (by unfold OwnT; rw [tc_append, List.length_append]; exact h1) h2 h3

/-- The bytes from a up to b. -/
def sub (s : ByteArray) (a b : Nat) : Tx := (s.data.toList.drop a).take (b - a)
theorem sub_none (s : ByteArray) (a : Nat) : sub s a a = [] := by simp [sub]
theorem sub_snoc (s : ByteArray) (a b : Nat) (h1 : a ≤ b) (h2 : b < s.size) : sub s a (b + 1) = sub s a b ++ [s.data.toList.getD b 0] := by
  have h' : b < s.data.toList.length := by rw [len_data]; exact h2
  unfold sub
  rw [show b + 1 - a = (b - a) + 1 by omega, List.take_succ_eq_append_getElem (by rw [List.length_drop]; omega), List.getElem_drop, List.getD_eq_getElem?_getD, List.getElem?_eq_getElem h', Option.getD_some]
  simp [show a + (b - a) = b by omega]
theorem extract_sub (s : ByteArray) (a b : Nat) : (s.extract a b).data.toList = sub s a b := by
  rw [ByteArray.data_extract, Array.toList_extract]
  simp [sub, List.extract_eq_take_drop]
theorem drop_byt (s : ByteArray) (i : Nat) (h : i < s.size) : s.data.toList.drop i = s.data.toList.getD i 0 :: s.data.toList.drop (i + 1) := by
  have h' : i < s.data.toList.length := by rw [len_data]; exact h
  rw [List.drop_eq_getElem_cons h', List.getD_eq_getElem?_getD, List.getElem?_eq_getElem h', Option.getD_some]

/-- parts, in its midst: what is laid, and what is left. -/
def PI (s : ByteArray) (xs : List ByteArray) (from_ i : Nat) : Prop :=
  (i ≤ s.size ∧ from_ ≤ i ∧ cuts s.data.toList = xs.map (·.data.toList) ++ ahd (sub s from_ i) (cuts (s.data.toList.drop i))) ∨ (i = s.size + 1 ∧ cuts s.data.toList = xs.map (·.data.toList))
theorem PI.start (s : ByteArray) : PI s [] 0 0 := .inl ⟨Nat.zero_le _, Nat.le_refl _, by rw [sub_none, ahd_nil _ (cuts_ne _)]; rfl⟩
theorem PI.last {s : ByteArray} {xs : List ByteArray} {f : Nat} (h : PI s xs f s.size) : PI s (xs ++ [s.extract f s.size]) (s.size + 1) (s.size + 1) := by
  rcases h with ⟨_, _, h⟩ | ⟨h, _⟩
  · refine .inr ⟨rfl, ?_⟩
    rw [h, List.drop_of_length_le (by rw [len_data]; omega), List.map_append, List.map_singleton, extract_sub]
    simp [cuts, ahd]
  · omega
theorem PI.slash {s : ByteArray} {xs : List ByteArray} {f i : Nat} (h : PI s xs f i) (hi : i < s.size) (hc : s.data.toList.getD i 0 = 47) : PI s (xs ++ [s.extract f i]) (i + 1) (i + 1) := by
  rcases h with ⟨_, _, h⟩ | ⟨h, _⟩
  · refine .inl ⟨by omega, Nat.le_refl _, ?_⟩
    rw [h, drop_byt s i hi, hc, cuts, if_pos rfl, List.map_append, List.map_singleton, extract_sub, sub_none, ahd_nil _ (cuts_ne _)]
    simp [ahd]
  · omega
theorem PI.other {s : ByteArray} {xs : List ByteArray} {f i : Nat} (h : PI s xs f i) (hi : i < s.size) (hc : s.data.toList.getD i 0 ≠ 47) : PI s xs f (i + 1) := by
  rcases h with ⟨_, h2, h⟩ | ⟨h, _⟩
  · refine .inl ⟨by omega, by omega, ?_⟩
    rw [h, drop_byt s i hi, cuts, if_neg hc, ahd_ahd, sub_snoc s f i h2 hi]
  · omega
theorem PI.len {s : ByteArray} {xs : List ByteArray} {f i : Nat} (h : PI s xs f i) : xs.length ≤ s.size + 1 := by
  have := cuts_len s.data.toList
  rw [len_data] at this
  rcases h with ⟨_, _, h⟩ | ⟨_, h⟩
  · rw [h, List.length_append, List.length_map] at this
    omega
  · rw [h, List.length_map] at this
    omega
theorem PI.done {s : ByteArray} {xs : List ByteArray} {f i : Nat} (h : PI s xs f i) (hi : s.size < i) : cuts s.data.toList = xs.map (·.data.toList) := by
  rcases h with ⟨h, _⟩ | ⟨_, h⟩
  · omega
  · exact h
theorem PI.le {s : ByteArray} {xs : List ByteArray} {f i : Nat} (h : PI s xs f i) (hi : i ≤ s.size) : f ≤ i := by
  rcases h with ⟨_, h, _⟩ | ⟨h, _⟩
  · exact h
  · omega

/-- What an append leaves. -/
theorem next_own {w0 w1 w2 w' : World} {v v' : Value} (h : (∀ x, v.ownBlock = some x → w0.heap.size ≤ x) ∧ Kp No w0 w1) (k : Kp No w1 w2) (hg : w2.grownBy w' v.ownBlock) (hb : v'.ownBlock = v.ownBlock ∨ v'.ownBlock = some w2.heap.size) :
    (∀ x, v'.ownBlock = some x → w0.heap.size ≤ x) ∧ Kp No w0 w' := by
  have k0 := h.2.andNone k
  refine ⟨fun x hx => ?_, k0.grown hg (fun x hx => .inr (h.1 x hx))⟩
  rcases hb with hb | hb
  · exact h.1 x (hb ▸ hx)
  · rw [hb] at hx
    simp only [Option.some.injEq] at hx
    have := k0.size
    omega
theorem next_text {w0 w1 w' : World} {v v' : Value} {xs ys : List ByteArray} {o : Obj} (h : OwnT w1 v xs ∧ (∀ x, v.ownBlock = some x → w0.heap.size ≤ x) ∧ Kp No w0 w1) (hown : OwnT w' v' ys) (hg : (w1.alloc o).grownBy w' v.ownBlock)
    (hb : v'.ownBlock = v.ownBlock ∨ v'.ownBlock = some (w1.alloc o).heap.size) : OwnT w' v' ys ∧ (∀ x, v'.ownBlock = some x → w0.heap.size ≤ x) ∧ Kp No w0 w' :=
  ⟨hown, next_own h.2 ((Kp.refl No w1).alloc o) hg hb⟩

set_option maxHeartbeats 2000000 in
theorem parts_any (s : ByteArray) (hs : s.size ≤ 1000000) (w : World) : Calls Tryz.prog 62 #[.string s] w fun e w' => ∃ ad cap xs, e = .returned (.slice ad xs.length cap) ∧ OwnT w' (.slice ad xs.length cap) xs ∧ cuts s.data.toList = xs.map (·.data.toList) ∧ Kp No w w' := by
  go_enter Tryz.func62, Tryz.ntmps62
  go_wp2
  go_loopw [3, 4, 5] (fun v f x wr => ∃ (i f' : Nat) (ad : Option Addr) (cap : Nat) (xs : List ByteArray), v = .slice ad xs.length cap ∧ f = .int .i64 f' ∧ x = .int .i64 i ∧ i ≤ s.size + 1 ∧ Hid (PI s xs f' i ∧ OwnT wr (.slice ad xs.length cap) xs ∧ (∀ x, (Value.slice ad xs.length cap).ownBlock = some x → w.heap.size ≤ x) ∧ Kp No w wr)) (fun _ _ x _ => s.size + 1 - (intOf x).toNat)
  case atStart => exact ⟨0, 0, none, 0, [], rfl, rfl, rfl, by omega, PI.start s, OwnT.nil _, by simp [Value.ownBlock], Kp.refl _ _⟩
  case round =>
    obtain ⟨i, f', ad, cap, xs, rfl, rfl, rfl, hi, HH⟩ := hrel
    obtain ⟨v, hv⟩ : ∃ v, Value.slice ad xs.length cap = v := ⟨_, rfl⟩
    have HV := hid hv
    have HL := hid HH.out.1.len
    rw [hv] at HH ⊢
    by_cases hlt : i ≤ s.size
    · have hltI : (i : Int) ≤ (s.size : Int) := by omega
      have hfi := HH.out.1.le hlt
      by_cases hz : i = s.size
      · have hzI : ((i : Int) == (s.size : Int)) = true := by simp [hz]
        subst hz
        clear hv
        go_wp2_with (at_builtin; refine app_text _ wr rfl _ _ rfl v xs _ rfl rfl rfl HH.out.2.1 (by have := HL.out; omega) ?_; intro ad' cap' w' hown hg hb)
        have HR := hid (next_text HH.out.2 hown hg hb)
        have HO := hid hown
        clear hown hg hb
        go_roundw
        case rel => exact ⟨s.size + 1, s.size + 1, ad', cap', _, (by rw [List.length_append, List.length_singleton]), by go_num, by go_num, by omega, HH.out.1.last, by rw [List.length_append]; exact HR.out⟩
        case measure => simp [intOf] <;> omega
      · have hzI : ((i : Int) == (s.size : Int)) = false := by simp; omega
        have hx := sidx s i (by omega)
        by_cases hc : s.data.toList.getD i 0 = 47
        · have hb : byt s i = 47 := by rw [byt, hc]; rfl
          rw [hb] at hx
          have HC := hid hc
          clear hv hb hc
          go_wp2_with (at_builtin; refine app_text _ wr rfl _ _ rfl v xs _ rfl rfl rfl HH.out.2.1 (by have := HL.out; omega) ?_; intro ad' cap' w' hown hg hb)
          have HR := hid (next_text HH.out.2 hown hg hb)
          have HO := hid hown
          clear hown hg hb
          go_roundw
          case rel => exact ⟨i + 1, i + 1, ad', cap', _, (by rw [List.length_append, List.length_singleton]), by go_num, by go_num, by omega, HH.out.1.slash (by omega) HC.out, by rw [List.length_append]; exact HR.out⟩
          case measure => simp [intOf]; omega
        · have hb : ((byt s i : Nat) : Int) ≠ 47 := by
            intro e
            refine hc (UInt8.toNat_inj.1 ?_)
            have e' : byt s i = 47 := by omega
            exact e'
          have hbI : (((byt s i : Nat) : Int) == 47) = false := by simpa using hb
          have HC := hid hc
          have hbl := byt_lt s i
          generalize byt s i = n at hx hb hbI hbl
          clear hv hc
          go_wp2
          go_roundw
          case rel => exact ⟨i + 1, f', ad, cap, xs, HV.out.symm, rfl, by go_num, by omega, HH.out.1.other (by omega) HC.out, by rw [HV.out]; exact HH.out.2⟩
          case measure => simp [intOf]; omega
    · have hltI : ¬ (i : Int) ≤ (s.size : Int) := by omega
      clear hv
      go_wp2
      go_ret
      obtain ⟨h1, h2, h3, h4⟩ := HH.out
      refine ⟨ad, cap, xs, by rw [HV.out]; rfl, by rw [HV.out]; exact h2, h1.done (by omega), h4⟩

end Go.Proofs.YtdooiflmjeibdaaGreatDoor.Tr
end

section
/-
  Path, of the document and of the program.
-/
namespace Go.Proofs.YtdooiflmjeibdaaGreatDoor.Tr
open Go.RowKit

/-- A row's text. -/
theorem OwnT.at {w : World} {ad : Option Addr} {n cap : Nat} {xs : List ByteArray} (h : OwnT w (.slice ad n cap) xs) (i : Nat) (x : ByteArray) (hx : xs[i]? = some x) : ∃ g, ad = some ⟨g, 0, none⟩ ∧ w.cell? ⟨g, i, none⟩ = some (.string x) := by
  have hi : i < xs.length := (List.getElem?_eq_some_iff.1 hx).1
  have h' := h.row
  obtain ⟨hl, h2⟩ := h
  rcases h2 with ⟨e, h0⟩ | ⟨g, cap', cur, e, _, _, hn, _⟩
  · rw [h0] at hi
    omega
  · cases e
    refine ⟨g, rfl, ?_⟩
    rw [Row.cellAt h' i (by omega)]
    exact tc_at xs i x hx

theorem all_part {xs : List ByteArray} {i : Nat} {x : ByteArray} (hx : xs[i]? = some x) (h : partB x.data.toList = false) : (xs.map (·.data.toList)).all partB = false := by
  rw [List.all_eq_false]
  exact ⟨x.data.toList, List.mem_map.2 ⟨x, List.mem_of_getElem? hx, rfl⟩, by rw [h]; simp⟩
theorem part_take {xs : List ByteArray} {i : Nat} {x : ByteArray} (hx : xs[i]? = some x) (h : partB x.data.toList = true) (h0 : ((xs.take i).map (·.data.toList)).all partB = true) : ((xs.take (i + 1)).map (·.data.toList)).all partB = true := by
  obtain ⟨hi, e⟩ := List.getElem?_eq_some_iff.1 hx
  rw [List.take_succ_eq_append_getElem hi, List.map_append, List.all_append, h0, e]
  simp [h]
theorem part_done {xs : List ByteArray} {i : Nat} (hi : xs.length ≤ i) (h0 : ((xs.take i).map (·.data.toList)).all partB = true) : (xs.map (·.data.toList)).all partB = true := by rwa [List.take_of_length_le hi] at h0
theorem mem_size {s : ByteArray} {xs : List ByteArray} (h : cuts s.data.toList = xs.map (·.data.toList)) : ∀ x ∈ xs, x.size ≤ s.size := by
  intro x hx
  have h1 := tot_cuts s.data.toList
  have h2 : x.data.toList ∈ cuts s.data.toList := by rw [h]; exact List.mem_map.2 ⟨x, hx, rfl⟩
  have h3 : ∀ l : List Tx, x.data.toList ∈ l → x.size + 1 ≤ tot l := by
    intro l hl
    induction l with
    | nil => simp at hl
    | cons a t ih =>
      simp only [tot, List.map_cons, List.sum_cons]
      rcases List.mem_cons.1 hl with rfl | hl
      · rw [len_data]; omega
      · have := ih hl
        simp only [tot] at this
        omega
  have h4 := h3 _ h2
  rw [h1, len_data] at h4
  omega

set_option maxHeartbeats 2000000 in
theorem rpath_any (s : ByteArray) (hs : s.size ≤ 1000000) (w : World) : Calls Tryz.prog 43 #[.string s] w fun e w' => e = .returned (.bool (pathB s.data.toList)) ∧ Kp No w w' := by
  by_cases h200 : 200 < s.size
  · have h' : (200 : Int) < (s.size : Int) := by omega
    have e : pathB s.data.toList = false := by
      cases h : pathB s.data.toList with
      | false => rfl
      | true =>
        have := path_len h
        rw [len_data] at this
        omega
    rw [e]
    go_enter Tryz.func43, Tryz.ntmps43
    go_wp2
    go_ret
    exact ⟨rfl, Kp.refl _ _⟩
  · have h' : ¬ (200 : Int) < (s.size : Int) := by omega
    go_enter Tryz.func43, Tryz.ntmps43
    go_wp2_with (go_at_call 62; refine (parts_any _ hs _).mono ?_; rintro e w1 ⟨ad, cap, xs, rfl, hown, hcut, hk⟩)
    have HO := hid hown
    have HC := hid hcut
    have HK := hid hk
    have hxl : xs.length ≤ 300 := by
      have := cuts_len s.data.toList
      rw [hcut, List.length_map, len_data] at this
      omega
    clear hown hcut hk
    go_loopw [4] (fun x wr => ∃ i : Nat, x = .int .i64 i ∧ i ≤ xs.length ∧ Hid (((xs.take i).map (·.data.toList)).all partB = true) ∧ wr = w1) (fun x _ => xs.length - (intOf x).toNat)
    case atStart => exact ⟨0, rfl, Nat.zero_le _, by simp [Hid], rfl⟩
    case round =>
      obtain ⟨i, rfl, hi, HI, rfl⟩ := hrel
      by_cases hlt : i < xs.length
      · have hltI : (i : Int) < (xs.length : Int) := by omega
        obtain ⟨x, hx⟩ : ∃ x, xs[i]? = some x := ⟨_, List.getElem?_eq_getElem hlt⟩
        obtain ⟨g, rfl, hcell⟩ := HO.out.at i x hx
        have HX := hid hx
        have hxs : x.size ≤ 20000000 := by have := mem_size HC.out x (List.mem_of_getElem? hx); omega
        have hp := rpart_any x hxs wr
        cases hb : partB x.data.toList with
        | false =>
          rw [hb] at hp
          clear hx
          go_wp2_with (go_at_call 63; refine hp.mono ?_; rintro e w2 ⟨rfl, rfl⟩)
          go_ret
          refine ⟨?_, HK.out⟩
          rw [pathB, HC.out, all_part HX.out hb, Bool.and_false]
          rfl
        | true =>
          rw [hb] at hp
          clear hx
          have HB := hid hb
          clear hb
          go_wp2_with (go_at_call 63; refine hp.mono ?_; rintro e w2 ⟨rfl, rfl⟩)
          go_roundw
          case rel => exact ⟨i + 1, by go_num, by omega, part_take HX.out HB.out HI.out, by first | rfl | trivial⟩
          case measure => simp [intOf] <;> omega
      · have hltI : ¬ (i : Int) < (xs.length : Int) := by omega
        go_wp2
        go_ret
        refine ⟨?_, HK.out⟩
        rw [pathB, HC.out, part_done (by omega) HI.out, Bool.and_true, List.length_map]
        by_cases h6 : xs.length ≤ 6
        · rw [decide_eq_true h6]
          first | rfl | (simp; omega)
        · rw [decide_eq_false h6]
          first | rfl | (simp; omega)

theorem cells_row (w : World) (xs : List ByteArray) (N : Nat) (_h : xs.length ≤ N) (i : Nat) (x : ByteArray) (hx : xs[i]? = some x) : (w.alloc (.cells (Lib.cellsOf xs N) 9)).cell? ⟨w.heap.size, i, none⟩ = some (.string x) := by
  rw [World.cell?_alloc_at _ _ _ _ rfl]
  have hi := (List.getElem?_eq_some_iff.1 hx).1
  have hx' : xs[i] = x := (List.getElem?_eq_some_iff.1 hx).2
  simp [Lib.cellsOf, List.getElem?_append_left, hi, hx']

set_option maxHeartbeats 1000000 in
/-- strings.SplitN of at most seven, by /. -/
theorem splitN_any (s : ByteArray) (hs : s.size ≤ 1000000) (w : World) : Calls Tryz.prog 55 #[.string s, .string ⟨#[47]⟩, .int .i64 7] w fun e w' => ∃ (xs : List ByteArray) (N : Nat), xs.length ≤ N ∧ e = .returned (.slice (some ⟨w.heap.size, 0, none⟩) xs.length N) ∧ w' = w.alloc (.cells (Lib.cellsOf xs N) 9) ∧
    xs.map (·.data.toList) = Lib.splitK [47] 0 (min 7 (s.data.toList.length + 1) - 1) s.data.toList := by
  have hN : ((min 7 (s.size + 1) : Nat) : Int) = min (if (7 : Int) < 0 then (Lib.countB s ⟨#[47]⟩ : Int) + 1 else 7) ((s.size : Int) + 1) := by
    rw [if_neg (by omega)]
    omega
  have hg := Any.strings_genSplit_core Tryz.gsplit Tryz.info9 s ⟨#[47]⟩ 0 7 (min 7 (s.size + 1)) w (by omega) (by decide) (by omega) (fun x c _ => by
    have := Any.strings_Index_one (P := Tryz.prog) (ρ := Tryz.gsplit_ren) { Tryz.gsplit with } x 47 (w.alloc (.cells c 9))
    rw [← Lib.index_one] at this
    exact this) (by
    have := Any.strings_Count_one (P := Tryz.prog) (ρ := Tryz.gsplit_ren) { Tryz.gsplit with } s 47 w
    rw [Lib.countByte, ← Lib.count_one] at this
    exact this) (by omega) (by omega) hN
  go_enter Tryz.func55, Tryz.ntmps55
  go_wp2_with (go_at_call 68; refine hg.mono ?_; rintro e w1 ⟨rfl, rfl⟩)
  go_ret
  exact ⟨_, _, by have := Lib.splitB_length_le ⟨#[47]⟩ 0 (min 7 (s.size + 1) - 1) s; omega, rfl, rfl, by rw [Lib.splitB_data, len_data]⟩

theorem splitK_mem (k : Nat) (s : Tx) : ∀ x ∈ Lib.splitK [47] 0 k s, x.length ≤ s.length := by
  induction k generalizing s with
  | zero =>
    intro x hx
    simp only [Lib.splitK, List.mem_singleton] at hx
    rw [hx]
    exact Nat.le_refl _
  | succ k ih =>
    intro x hx
    rw [Lib.splitK] at hx
    split at hx
    · rw [List.mem_singleton.1 hx]
      exact Nat.le_refl _
    · rcases List.mem_cons.1 hx with rfl | hx
      · rw [List.length_take]
        omega
      · have := ih _ x hx
        rw [List.length_drop] at this
        omega

set_option maxHeartbeats 2000000 in
theorem path_any (s : ByteArray) (hs : s.size ≤ 1000000) (w : World) : Calls Tryz.prog 36 #[.string s] w fun e w' => e = .returned (.bool (pathB s.data.toList)) ∧ Kp No w w' := by
  have HP := hid (path_split s.data.toList)
  go_enter Tryz.func36, Tryz.ntmps36
  go_wp2_with (go_at_call 55; refine (splitN_any _ hs _).mono ?_; rintro e w1 ⟨xs, N, hN, rfl, hw0, hxs0⟩; have hw := hid hw0; have HX := hid hxs0; clear hw0 hxs0)
  all_goals
    have HC := hid (cells_row w xs N hN)
    have HM := hid (splitK_mem (min 7 (s.data.toList.length + 1) - 1) s.data.toList)
    rw [HX.out.symm] at HP HM
    have HK : Hid (Kp No w w1) := by unfold Hid; rw [hw.out]; exact (Kp.refl _ _).alloc _
    rw [← hw.out] at HC
    have HN := hid hN
    clear hw hN HX
  · rename_i h6
    go_ret
    refine ⟨?_, HK.out⟩
    rw [HP.out, List.length_map, decide_eq_false (p := xs.length ≤ 6) (by omega)]
    rfl
  · rename_i h6
    have hxl : xs.length ≤ 6 := by omega
    go_loopw [13] (fun x wr => ∃ i : Nat, x = .int .i64 i ∧ i ≤ xs.length ∧ Hid (((xs.take i).map (·.data.toList)).all partB = true) ∧ wr = w1) (fun x _ => xs.length - (intOf x).toNat)
    case atStart => exact ⟨0, rfl, Nat.zero_le _, by simp [Hid], rfl⟩
    case round =>
      obtain ⟨i, rfl, hi, HI, rfl⟩ := hrel
      by_cases hlt : i < xs.length
      · have hltI : (i : Int) < (xs.length : Int) := by omega
        obtain ⟨x, hx⟩ : ∃ x, xs[i]? = some x := ⟨_, List.getElem?_eq_getElem hlt⟩
        have hcell := HC.out i x hx
        have HX2 := hid hx
        have hxs : x.size ≤ 20000000 := by
          have := HM.out x.data.toList (List.mem_map.2 ⟨x, List.mem_of_getElem? hx, rfl⟩)
          rw [len_data, len_data] at this
          omega
        have hp := part_any x hxs wr
        cases hb : partB x.data.toList with
        | false =>
          rw [hb] at hp
          clear hx
          go_wp2_with (go_at_call 56; refine hp.mono ?_; rintro e w2 ⟨rfl, rfl⟩)
          go_ret
          refine ⟨?_, HK.out⟩
          rw [HP.out, all_part HX2.out hb, Bool.and_false]
          rfl
        | true =>
          rw [hb] at hp
          clear hx
          have HB := hid hb
          clear hb
          go_wp2_with (go_at_call 56; refine hp.mono ?_; rintro e w2 ⟨rfl, rfl⟩)
          go_roundw
          case rel => exact ⟨i + 1, by go_num, by omega, part_take HX2.out HB.out HI.out, by first | rfl | trivial⟩
          case measure => simp [intOf] <;> omega
      · have hltI : ¬ (i : Int) < (xs.length : Int) := by omega
        go_wp2
        go_ret
        refine ⟨?_, HK.out⟩
        rw [HP.out, part_done (by omega) HI.out, List.length_map, decide_eq_true (p := xs.length ≤ 6) (by omega)]
        rfl

end Go.Proofs.YtdooiflmjeibdaaGreatDoor.Tr
end

section
/-
  Split, within, and how texts stand.
-/
namespace Go.Proofs.YtdooiflmjeibdaaGreatDoor.Tr
open Go.RowKit

/-- Where the last / is, or -1. -/
def lastI (s : ByteArray) : Int := Lib.lastIndexByte s 47
def dirS (s : ByteArray) : ByteArray := s.extract 0 (max (lastI s) 0).toNat
def nameS (s : ByteArray) : ByteArray := s.extract (lastI s + 1).toNat s.size
/-- A path's directory, and its last part. -/
def splitS (s : ByteArray) : ByteArray × ByteArray := if pathB s.data.toList then (dirS s, nameS s) else (⟨#[]⟩, ⟨#[]⟩)
theorem splitS_no {s : ByteArray} (h : pathB s.data.toList = false) : splitS s = (⟨#[]⟩, ⟨#[]⟩) := by rw [splitS, h]; rfl
theorem splitS_yes {s : ByteArray} (h : pathB s.data.toList = true) : splitS s = (dirS s, nameS s) := by rw [splitS, h]; rfl
theorem lastI_bd (s : ByteArray) : -1 ≤ lastI s ∧ lastI s < (s.size : Int) := by
  rcases Lib.lastIndexByte_spec s 47 with ⟨h, _⟩ | ⟨i, hi, h, _⟩
  · rw [lastI, h]; omega
  · rw [lastI, h]; omega
theorem getBang (s : ByteArray) (i : Nat) (h : i < s.size) : (s.data[i]!).toNat = byt s i := by
  have h' : i < s.data.size := h
  have h2 : i < s.data.toList.length := by rw [len_data]; exact h
  rw [byt, getElem!_pos s.data i h', List.getD_eq_getElem?_getD, List.getElem?_eq_getElem h2]
  simp

set_option maxHeartbeats 1000000 in
theorem split_any (s : ByteArray) (hs : s.size ≤ 1000000) (w : World) : Calls Tryz.prog 64 #[.string s] w fun e w' => e = .returned (.tuple #[.string (splitS s).1, .string (splitS s).2]) ∧ Kp No w w' := by
  have hp := path_any s hs w
  have hbd := lastI_bd s
  have hL := fun w => Any.strings_LastIndexByte Tryz.lastI s 47 (by omega) w
  cases hb : pathB s.data.toList with
  | false =>
    rw [hb] at hp
    rw [splitS_no hb]
    go_enter Tryz.func64, Tryz.ntmps64
    go_wp2_with (go_at_call 36; refine hp.mono ?_; rintro e w1 ⟨rfl, hk⟩)
    go_ret2
    exact ⟨rfl, hk⟩
  | true =>
    rw [hb] at hp
    rw [splitS_yes hb]
    have hLI : Lib.lastIndexByte s 47 = lastI s := rfl
    rw [hLI] at hL
    have HD : Hid (dirS s = s.extract 0 (max (lastI s) 0).toNat) := rfl
    have HN : Hid (nameS s = s.extract (lastI s + 1).toNat s.size) := rfl
    generalize dirS s = D at *
    generalize nameS s = E at *
    generalize lastI s = l at *
    go_enter Tryz.func64, Tryz.ntmps64
    go_wp2_with (first | (go_at_call 36; refine hp.mono ?_; rintro e w1 ⟨rfl, hk⟩; have HK := hid hk; clear hk) | (go_at_call 80; refine (hL _).mono ?_; rintro e w2 ⟨rfl, rfl⟩))
    obtain ⟨q, hq⟩ : ∃ q : Int, max l 0 = q := ⟨_, rfl⟩
    have hq0 : 0 ≤ q := by omega
    have hq1 : q ≤ (s.size : Int) := by omega
    have hl0 : 0 ≤ l + 1 := by omega
    have hl1 : l + 1 ≤ (s.size : Int) := by omega
    go_quiet (fail)
    go_wp2
    go_ret2
    refine ⟨?_, HK.out.drewN nq⟩
    rw [HD.out, HN.out, hq]
    rfl

set_option maxHeartbeats 1000000 in
theorem rsplit_any (s : ByteArray) (hs : s.size ≤ 1000000) (w : World) : Calls Tryz.prog 60 #[.string s] w fun e w' => e = .returned (.tuple #[.string (splitS s).1, .string (splitS s).2]) ∧ Kp No w w' := by
  have hp := rpath_any s hs w
  cases hb : pathB s.data.toList with
  | false =>
    rw [hb] at hp
    rw [splitS_no hb]
    go_enter Tryz.func60, Tryz.ntmps60
    go_wp2_with (go_at_call 43; refine hp.mono ?_; rintro e w1 ⟨rfl, hk⟩)
    go_ret2
    exact ⟨rfl, hk⟩
  | true =>
    rw [hb] at hp
    rw [splitS_yes hb]
    have hne : s.size ≠ 0 := by
      intro h
      have e : s = ⟨#[]⟩ := by
        rw [ba_eq]
        exact List.length_eq_zero_iff.1 ((len_data s).trans h)
      rw [e] at hb
      exact absurd hb (by decide)
    go_enter Tryz.func60, Tryz.ntmps60
    go_wp2_with (go_at_call 43; refine hp.mono ?_; rintro e w1 ⟨rfl, hk⟩; have HK := hid hk; clear hk)
    go_loopw [4] (fun x wr => ∃ i : Int, x = .int .i64 i ∧ -1 ≤ i ∧ i < (s.size : Int) ∧ Hid (∀ j : Nat, i < j → j < s.size → byt s j ≠ 47) ∧ wr = w1) (fun x _ => (intOf x + 1).toNat)
    case atStart => exact ⟨(s.size : Int) - 1, by go_num, by omega, by omega, fun j h1 h2 => by omega, rfl⟩
    case round =>
      obtain ⟨i, rfl, hi1, hi2, HI, rfl⟩ := hrel
      by_cases hlt : 0 ≤ i
      · obtain ⟨k, rfl⟩ : ∃ k : Nat, i = k := ⟨i.toNat, by omega⟩
        have hx := sidx s k (by omega)
        have hbl := byt_lt s k
        by_cases hc : byt s k = 47
        · rw [hc] at hx
          have HC := hid hc
          clear hc hbl
          have HL : Hid (lastI s = k) := by
            rcases Lib.lastIndexByte_spec s 47 with ⟨_, h⟩ | ⟨j, hj, h, hcj, hn⟩
            · have := h k (by omega)
              rw [getBang s k (by omega), HC.out] at this
              exact absurd rfl this
            · rw [Hid, lastI, h]
              by_cases hkj : k = j
              · rw [hkj]
              · exfalso
                by_cases hlt2 : k < j
                · refine HI.out j (by omega) hj ?_
                  rw [getBang s j hj] at hcj
                  omega
                · have := hn k (by omega) (by omega)
                  rw [getBang s k (by omega), HC.out] at this
                  exact this rfl
          have hks : k < s.size := by omega
          have HS1 : Hid (dirS s = s.extract 0 k) := by rw [Hid, dirS, HL.out]; congr 1 <;> omega
          have HS2 : Hid (nameS s = s.extract (k + 1) s.size) := by rw [Hid, nameS, HL.out]; congr 1 <;> omega
          have hk0 : (0 : Int) ≤ (k : Int) := by omega
          have hk1 : (k : Int) ≤ (s.size : Int) := by omega
          have hk2 : (k : Int) + 1 ≤ (s.size : Int) := by omega
          go_wp2
          go_quiet (fail)
          go_wp2
          go_ret2
          refine ⟨?_, HK.out.drewN nq⟩
          rw [HS1.out, HS2.out]
          rfl
        · have hc' : ((byt s k : Nat) : Int) ≠ 47 := by omega
          have hcI : (((byt s k : Nat) : Int) == 47) = false := by simpa using hc'
          have HC := hid hc
          generalize byt s k = n at hx hc' hcI hbl
          clear hc
          go_wp2
          go_roundw
          case rel => exact ⟨(k : Int) - 1, by go_num, by omega, by omega, fun j h1 h2 => by
            by_cases e : j = k
            · rw [e]; exact HC.out
            · exact HI.out j (by omega) h2, by first | rfl | trivial⟩
          case measure => simp [intOf] <;> omega
      · have e : i = -1 := by omega
        subst e
        have HL : Hid (lastI s = -1) := by
          rcases Lib.lastIndexByte_spec s 47 with ⟨h, _⟩ | ⟨j, hj, h, hcj, hn⟩
          · rw [Hid, lastI, h]
          · have := HI.out j (by omega) hj
            rw [getBang s j hj] at hcj
            omega
        go_wp2
        go_ret2
        refine ⟨?_, HK.out⟩
        have e1 : dirS s = ⟨#[]⟩ := by
          rw [dirS, HL.out, ba_eq, extract_sub]
          rfl
        have e2 : nameS s = s := by
          rw [nameS, HL.out]
          simp
        rw [e1, e2]
        rfl

/-- Is q within p? -/
def withinB (p q : Tx) : Bool := (q == p) || (p == []) || (p ++ [47]).isPrefixOf q
theorem within_not {p q : Tx} (h : p.isPrefixOf q = false) : withinB p q = false := by
  have h1 : (q == p) = false := by
    rw [beq_eq_false_iff_ne]
    rintro rfl
    have := List.isPrefixOf_iff_prefix.2 (List.prefix_refl q)
    rw [h] at this
    cases this
  have h2 : (p == []) = false := by
    rw [beq_eq_false_iff_ne]
    rintro rfl
    have := List.isPrefixOf_iff_prefix.2 (List.nil_prefix (l := q))
    rw [h] at this
    cases this
  have h3 : (p ++ [47]).isPrefixOf q = false := by
    rw [Bool.eq_false_iff]
    intro e
    rw [List.isPrefixOf_iff_prefix] at e
    have : p.isPrefixOf q = true := by
      rw [List.isPrefixOf_iff_prefix]
      exact (List.prefix_append p [47]).trans e
    rw [h] at this
    exact absurd this (by simp)
  rw [withinB, h1, h2, h3]
  rfl
theorem within_pre (p r : Tx) : withinB p (p ++ r) = ((p == []) || (r == []) || (r.head? == some 47)) := by
  unfold withinB
  cases r with
  | nil => simp
  | cons c t =>
    have h1 : ((p ++ c :: t) == p) = false := by
      rw [beq_eq_false_iff_ne]
      intro e
      have := congrArg List.length e
      simp at this
    have h3 : (p ++ [47]).isPrefixOf (p ++ c :: t) = (c == 47) := by
      rw [Bool.eq_iff_iff, List.isPrefixOf_iff_prefix, List.prefix_append_right_inj]
      rw [List.cons_prefix_cons, beq_iff_eq]
      exact ⟨fun e => e.1.symm, fun e => ⟨e.symm, List.nil_prefix⟩⟩
    have e1 : ((c :: t) == ([] : Tx)) = false := rfl
    have e2 : ((c :: t).head? == some 47) = (c == 47) := by
      rw [Bool.eq_iff_iff]
      simp
    rw [h1, h3, e1, e2]
    cases (p == []) <;> cases (c == 47) <;> rfl
theorem prefix_rest {s p : Tx} (h : Lib.hasPrefix s p = true) : s = p ++ Lib.trimPrefix s p := by
  rw [Lib.trimPrefix, if_pos h]
  rw [Lib.hasPrefix, List.isPrefixOf_iff_prefix] at h
  obtain ⟨t, rfl⟩ := h
  simp

set_option maxHeartbeats 1000000 in
theorem within_any (s p : ByteArray) (w : World) : Calls Tryz.prog 54 #[.string s, .string p] w fun e w' => e = .returned (.bool (withinB p.data.toList s.data.toList)) ∧ w' = w := by
  have hC := fun w => Any.strings_CutPrefix Tryz.cut s p w
  cases hpre : Lib.hasPrefix s.data.toList p.data.toList with
  | false =>
    rw [hpre] at hC
    rw [within_not hpre]
    go_enter Tryz.func54, Tryz.ntmps54
    go_wp2_with (go_at_call 67; refine (hC _).mono ?_; rintro e w1 ⟨rfl, rfl⟩)
    go_ret
    exact ⟨rfl, rfl⟩
  | true =>
    rw [hpre] at hC
    have HS := prefix_rest hpre
    obtain ⟨r, hr⟩ : ∃ r : ByteArray, (⟨(Lib.trimPrefix s.data.toList p.data.toList).toArray⟩ : ByteArray) = r := ⟨_, rfl⟩
    have hrt : r.data.toList = Lib.trimPrefix s.data.toList p.data.toList := by rw [← hr]
    rw [hr] at hC
    rw [← hrt] at HS
    have HW : Hid (withinB p.data.toList s.data.toList = ((p.data.toList == []) || (r.data.toList == []) || (r.data.toList.head? == some 47))) := by rw [Hid, HS]; exact within_pre _ _
    clear hr hrt HS hpre
    rw [HW.out]
    by_cases hp : p = ⟨#[]⟩
    · subst hp
      go_enter Tryz.func54, Tryz.ntmps54
      go_wp2_with (go_at_call 67; refine (hC _).mono ?_; rintro e w1 ⟨rfl, rfl⟩)
      go_ret
      exact ⟨rfl, rfl⟩
    · have b0 : p.toList.isEmpty = false := by rw [List.isEmpty_eq_false_iff]; exact fun h => hp (tl_eq.2 h)
      have b0' : (p.data.toList == []) = false := by rw [beq_eq_false_iff_ne]; exact fun h => hp (ba_eq.2 h)
      rw [b0']
      by_cases hr : r = ⟨#[]⟩
      · subst hr
        go_enter Tryz.func54, Tryz.ntmps54
        go_wp2_with (go_at_call 67; refine (hC _).mono ?_; rintro e w1 ⟨rfl, rfl⟩)
        go_ret
        exact ⟨rfl, rfl⟩
      · have c0 : r.toList.isEmpty = false := by rw [List.isEmpty_eq_false_iff]; exact fun h => hr (tl_eq.2 h)
        have c0' : (r.data.toList == []) = false := by rw [beq_eq_false_iff_ne]; exact fun h => hr (ba_eq.2 h)
        have hr0 : 0 < r.size := by
          refine Nat.pos_of_ne_zero (fun h => hr ?_)
          rw [ba_eq]
          exact List.length_eq_zero_iff.1 ((len_data r).trans h)
        have hr0' : (0 : Int) < (r.size : Int) := by omega
        have hx := fun w => sidx r 0 hr0 w
        have hh : r.data.toList.head? = some (r.data.toList.getD 0 0) := by
          have h' : 0 < r.data.toList.length := by rw [len_data]; exact hr0
          rw [List.head?_eq_getElem?, List.getD_eq_getElem?_getD, List.getElem?_eq_getElem h']
          rfl
        have hd : (r.data.toList.head? == some 47) = decide (byt r 0 = 47) := by
          rw [hh, Bool.eq_iff_iff, byt]
          simp [← UInt8.toNat_inj]
        have HD := hid hd
        rw [c0', hd]
        have hbl := byt_lt r 0
        clear hd hh HW
        generalize byt r 0 = n at *
        simp only [Int.natCast_zero] at hx
        by_cases h47 : n = 47
        · subst h47
          go_enter Tryz.func54, Tryz.ntmps54
          go_wp2_with (go_at_call 67; refine (hC _).mono ?_; rintro e w1 ⟨rfl, rfl⟩)
          go_ret
          exact ⟨rfl, rfl⟩
        · have h47' : ((n : Int) == 47) = false := by simp; omega
          rw [decide_eq_false h47]
          go_enter Tryz.func54, Tryz.ntmps54
          go_wp2_with (go_at_call 67; refine (hC _).mono ?_; rintro e w1 ⟨rfl, rfl⟩)
          go_ret
          exact ⟨rfl, rfl⟩

end Go.Proofs.YtdooiflmjeibdaaGreatDoor.Tr
end

section
/-
  Less of the document, strings.Compare, and Within of the document.
-/
namespace Go.Proofs.YtdooiflmjeibdaaGreatDoor.Tr
open Go.RowKit

theorem bb_step (a b : List UInt8) (i : Nat) (ha : i < a.length) (hb : i < b.length) : bytesBefore (a.drop i) (b.drop i) = if (a.getD i 0).toNat = (b.getD i 0).toNat then bytesBefore (a.drop (i + 1)) (b.drop (i + 1)) else decide ((a.getD i 0).toNat < (b.getD i 0).toNat) := by
  rw [List.drop_eq_getElem_cons ha, List.drop_eq_getElem_cons hb, List.getD_eq_getElem?_getD, List.getElem?_eq_getElem ha, List.getD_eq_getElem?_getD, List.getElem?_eq_getElem hb, Option.getD_some, Option.getD_some]
  rw [bytesBefore]
  by_cases h : a[i] = b[i]
  · simp [h]
  · have h' : ¬ a[i].toNat = b[i].toNat := fun e => h (UInt8.toNat_inj.1 e)
    have h'' : (a[i] == b[i]) = false := by simp [h]
    rw [if_neg h', h'']
    simp [UInt8.lt_iff_toNat_lt]
theorem bb_end (a b : List UInt8) (i : Nat) (h : a.length ≤ i ∨ b.length ≤ i) (ha : i ≤ a.length) (hb : i ≤ b.length) : bytesBefore (a.drop i) (b.drop i) = decide (a.length < b.length) := by
  by_cases h1 : a.length ≤ i
  · rw [List.drop_of_length_le h1]
    by_cases h2 : b.length ≤ i
    · rw [List.drop_of_length_le h2, decide_eq_false (by omega)]
      rfl
    · rw [List.drop_eq_getElem_cons (by omega : i < b.length), decide_eq_true (by omega)]
      rfl
  · have h2 : b.length ≤ i := by omega
    rw [List.drop_of_length_le h2, List.drop_eq_getElem_cons (by omega : i < a.length), decide_eq_false (by omega)]
    rfl

set_option maxHeartbeats 1000000 in
/-- Less. -/
theorem rLess_any (s t : ByteArray) (hs : s.size ≤ 20000000) (ht : t.size ≤ 20000000) (w : World) : Calls Tryz.prog 61 #[.string s, .string t] w fun e w' => e = .returned (.bool (bytesBefore s.data.toList t.data.toList)) ∧ Kp No w w' := by
  go_enter Tryz.func61, Tryz.ntmps61
  go_wp2
  go_loopw [5] (fun x wr => ∃ i : Nat, x = .int .i64 i ∧ i ≤ s.size ∧ i ≤ t.size ∧ Hid (bytesBefore s.data.toList t.data.toList = bytesBefore (s.data.toList.drop i) (t.data.toList.drop i)) ∧ Hid (Kp No w wr)) (fun x _ => s.size - (intOf x).toNat)
  case atStart => exact ⟨0, rfl, by omega, by omega, rfl, Kp.refl _ _⟩
  case round =>
    obtain ⟨i, rfl, hi, hi', HI, HK⟩ := hrel
    by_cases hlt : i < s.size
    · by_cases hlt' : i < t.size
      · have hx := sidx s i hlt
        have hy := sidx t i hlt'
        have HL := hid (bb_step s.data.toList t.data.toList i (by rw [len_data]; exact hlt) (by rw [len_data]; exact hlt'))
        have e1 : (s.data.toList.getD i 0).toNat = byt s i := rfl
        have e2 : (t.data.toList.getD i 0).toNat = byt t i := rfl
        rw [e1, e2] at HL
        clear e1 e2
        generalize byt s i = x at *
        generalize byt t i = y at *
        by_cases hxy : x = y
        · subst hxy
          go_wp2_with fail
          go_quiet (fail)
          go_wp2
          go_roundw
          case rel => exact ⟨i + 1, by go_num, by omega, by omega, by have h := HL.out; simp only [if_true] at h; rw [Hid, HI.out, h], HK.out.drewN _⟩
          case measure => simp [intOf]; omega
        · have hne : ((x : Int) != (y : Int)) = true := by simp; omega
          have HR : Hid (bytesBefore s.data.toList t.data.toList = decide (x < y)) := by rw [Hid, HI.out, HL.out, if_neg hxy]
          go_wp2_with fail
          go_quiet (fail)
          go_wp2_with fail
          go_quiet (fail)
          go_wp2
          go_ret
          refine ⟨?_, (HK.out.drewN _).drewN _⟩
          rw [HR.out]
          simp
      · have HE : Hid (bytesBefore s.data.toList t.data.toList = decide (s.size < t.size)) := by rw [Hid, HI.out, bb_end _ _ _ (.inr (by rw [len_data]; omega)) (by rw [len_data]; omega) (by rw [len_data]; omega), len_data, len_data]
        go_wp2
        go_ret
        refine ⟨?_, HK.out⟩
        rw [HE.out]
        simp
    · have HE : Hid (bytesBefore s.data.toList t.data.toList = decide (s.size < t.size)) := by rw [Hid, HI.out, bb_end _ _ _ (.inl (by rw [len_data]; omega)) (by rw [len_data]; omega) (by rw [len_data]; omega), len_data, len_data]
      go_wp2
      go_ret
      refine ⟨?_, HK.out⟩
      rw [HE.out]
      simp


/-! ### How texts stand -/
abbrev lts (a b : Tx) : Bool := bytesBefore a b
theorem bb_irr : ∀ a : Tx, bytesBefore a a = false
  | [] => rfl
  | a :: r => by rw [bytesBefore]; simp [bb_irr r]
theorem bb_cons (a b : UInt8) (r t : Tx) : bytesBefore (a :: r) (b :: t) = if a = b then bytesBefore r t else decide (a < b) := by
  rw [bytesBefore]
  by_cases h : a = b <;> simp [h]
theorem bb_trans : ∀ a b c : Tx, bytesBefore a b = true → bytesBefore b c = true → bytesBefore a c = true
  | [], [], _, h, _ => by simp [bytesBefore] at h
  | [], _ :: _, [], _, h => by simp [bytesBefore] at h
  | [], _ :: _, _ :: _, _, _ => rfl
  | _ :: _, [], _, h, _ => by simp [bytesBefore] at h
  | _ :: _, _ :: _, [], _, h => by simp [bytesBefore] at h
  | a :: r, b :: t, c :: u, h1, h2 => by
    rw [bb_cons] at h1 h2 ⊢
    by_cases e1 : a = b
    · subst e1
      rw [if_pos rfl] at h1
      by_cases e2 : a = c
      · subst e2
        rw [if_pos rfl] at h2 ⊢
        exact bb_trans r t u h1 h2
      · rw [if_neg e2] at h2 ⊢
        exact h2
    · rw [if_neg e1] at h1
      by_cases e2 : b = c
      · subst e2
        rw [if_neg e1]
        exact h1
      · rw [if_neg e2] at h2
        simp only [decide_eq_true_eq] at h1 h2
        have h3 : a < c := UInt8.lt_trans h1 h2
        rw [if_neg (by rintro rfl; exact UInt8.lt_irrefl _ h3)]
        simpa using h3
theorem bb_tri : ∀ a b : Tx, bytesBefore a b = false → bytesBefore b a = false → a = b
  | [], [], _, _ => rfl
  | [], _ :: _, h, _ => by simp [bytesBefore] at h
  | _ :: _, [], _, h => by simp [bytesBefore] at h
  | a :: r, b :: t, h1, h2 => by
    rw [bb_cons] at h1 h2
    by_cases e : a = b
    · subst e
      rw [if_pos rfl] at h1 h2
      rw [bb_tri r t h1 h2]
    · rw [if_neg e] at h1
      rw [if_neg (fun h => e h.symm)] at h2
      simp only [decide_eq_false_iff_not] at h1 h2
      exact absurd (UInt8.le_antisymm (UInt8.not_lt.1 h2) (UInt8.not_lt.1 h1)) e
theorem bb_asym {a b : Tx} (h : bytesBefore a b = true) : bytesBefore b a = false := by
  cases h2 : bytesBefore b a with
  | false => rfl
  | true =>
    have := bb_trans a b a h h2
    rw [bb_irr] at this
    exact this.symm
theorem cmp_bb : ∀ a b : Tx, Lib.compareBytes a b = if bytesBefore a b then -1 else if a = b then 0 else 1
  | [], [] => rfl
  | [], _ :: _ => rfl
  | _ :: _, [] => rfl
  | a :: r, b :: t => by
    rw [Lib.compareBytes, bb_cons]
    by_cases e : a = b
    · subst e
      rw [if_neg (UInt8.lt_irrefl a), if_neg (UInt8.lt_irrefl a), if_pos rfl, cmp_bb r t]
      simp
    · rw [if_neg e]
      by_cases h : a < b
      · rw [if_pos h]
        simp [h]
      · have h' : b < a := by
          rcases UInt8.lt_or_lt_of_ne e with h2 | h2
          · exact absurd h2 h
          · exact h2
        rw [if_neg h, if_pos h']
        simp [h, e]
theorem cmp_neg (a b : Tx) : Lib.compareBytes a b < 0 ↔ bytesBefore a b = true := by
  rw [cmp_bb]
  cases bytesBefore a b
  · by_cases h : a = b <;> simp [h]
  · simp
theorem cmp_zero (a b : Tx) : Lib.compareBytes a b = 0 ↔ a = b := by
  rw [cmp_bb]
  cases h : bytesBefore a b
  · by_cases h : a = b <;> simp [h]
  · simp
    rintro rfl
    rw [bb_irr] at h
    cases h
theorem compare_any (a b : ByteArray) (w : World) : Calls Tryz.prog 39 #[.string a, .string b] w fun e w' => e = .returned (.int .i64 (Lib.compareBytes a.data.toList b.data.toList)) ∧ w' = w := Any.strings_Compare Tryz.comp a b w

end Go.Proofs.YtdooiflmjeibdaaGreatDoor.Tr
end
