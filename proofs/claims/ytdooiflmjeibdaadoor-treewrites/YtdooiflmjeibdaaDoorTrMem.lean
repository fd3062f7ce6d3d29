/-
  What stays as it was; bytes, rows and structs in memory.
-/
import Derived.Test.YtdooiflmjeibdaaDoorRows
import Derived.WalkKit
import Derived.WalkSpells
import Derived.WalkLawsBesides
import Derived.Laws.AppendOwnNone
import Derived.Laws.NewBlocks
import Derived.Laws.LoneSync
import Derived.RegionCalls
import Derived.Deep.QuietTactic
import Derived.BigQuiet
import Derived.Maps.AppendAt
import Derived.Maps.OwnSet
import Derived.OneCell
import Derived.Lib.AppendZerosOnto
import Derived.ProofKit
namespace Go.Proofs.YtdooiflmjeibdaaDoor.Tr
open Go.RowKit

theorem hid {p : Prop} (h : p) : Hid p := h
theorem getD_at {bs : List Nat} {k : Nat} (hk : k < bs.length) : bs.getD k 0 = bs[k] := by rw [List.getD_eq_getElem?_getD, List.getElem?_eq_getElem hk, Option.getD_some]
theorem addr_add (g o i : Nat) : (⟨g, o, none⟩ : Addr).add i = ⟨g, o + i, none⟩ := by unfold Addr.add; split <;> simp_all
theorem cell_other {w : World} {b i j : Nat} {x : Value} (h : j ≠ i) : (w.setCell ⟨b, i, none⟩ x).cell? ⟨b, j, none⟩ = w.cell? ⟨b, j, none⟩ := World.cell?_setCell_other _ _ _ _ (by simp only [ne_eq, Addr.mk.injEq, true_and, and_true]; omega)

/-! ### What stays as it was -/
/-- All blocks that are not in L hold what they held. -/
structure Kp (L : Nat → Prop) (w w' : World) : Prop where
  os : w'.os = w.os
  tape : w'.tape = w.tape
  output : w'.output = w.output
  size : w.heap.size ≤ w'.heap.size
  block : ∀ k, k < w.heap.size → ¬ L k → w'.heap[k]? = w.heap[k]?

def No : Nat → Prop := fun _ => False
theorem Kp.refl (L : Nat → Prop) (w : World) : Kp L w w := ⟨rfl, rfl, rfl, Nat.le_refl _, fun _ _ _ => rfl⟩
/-- One behind the other: what the second one writes is the first one's, or new. -/
theorem Kp.trans {L M : Nat → Prop} {u v w : World} (h : Kp L u v) (k : Kp M v w) (hm : ∀ x, M x → L x ∨ u.heap.size ≤ x) : Kp L u w :=
  ⟨k.os.trans h.os, k.tape.trans h.tape, k.output.trans h.output, Nat.le_trans h.size k.size, fun i h1 h2 => (k.block i (Nat.lt_of_lt_of_le h1 h.size) (fun hi => by
    rcases hm i hi with h | h
    · exact h2 h
    · omega)).trans (h.block i h1 h2)⟩
theorem Kp.mono {L M : Nat → Prop} {u w : World} (h : Kp L u w) (hs : ∀ x, L x → M x ∨ u.heap.size ≤ x) : Kp M u w := (Kp.refl M u).trans h hs
theorem Kp.ofNo {M : Nat → Prop} {u w : World} (h : Kp No u w) : Kp M u w := h.mono (fun _ hx => hx.elim)
theorem Kp.andNone {L : Nat → Prop} {u v w : World} (h : Kp L u v) (k : Kp No v w) : Kp L u w := h.trans k (fun _ hx => hx.elim)
theorem Kp.below {L : Nat → Prop} {u w : World} (h : Below u.heap.size u w) : Kp L u w := ⟨h.os, h.tape, h.output, h.size, fun k hk _ => h.block k hk⟩
theorem Kp.alloc {L : Nat → Prop} {u w : World} (h : Kp L u w) (o : Obj) : Kp L u (w.alloc o) := h.trans (M := No) (Kp.below ((Below.refl _ _).alloc (Nat.le_refl _) _)) (fun _ hx => hx.elim)
theorem Kp.setCell {L : Nat → Prop} {u w : World} (h : Kp L u w) {p : Addr} (hp : L p.block ∨ u.heap.size ≤ p.block) (x : Value) : Kp L u (w.setCell p x) :=
  ⟨h.os, h.tape, h.output, by simpa using h.size, fun k h1 h2 => (Below.heap_setCell _ _ _ _ (by
    intro e
    rcases hp with hp | hp
    · exact h2 (e ▸ hp)
    · omega)).trans (h.block k h1 h2)⟩
theorem Kp.drew {L : Nat → Prop} {u w : World} (h : Kp L u w) : Kp L u w.drew := ⟨h.os, h.tape, h.output, h.size, h.block⟩
theorem Kp.drewN {L : Nat → Prop} {u w : World} (h : Kp L u w) (q : Nat) : Kp L u (w.drewN q) := h.trans (M := No) (Kp.below (below_drewN (Below.refl _ _) q)) (fun _ hx => hx.elim)
theorem Kp.grown {L : Nat → Prop} {u w w' : World} {row : Option Nat} (h : Kp L u w) (hg : w.grownBy w' row) (hr : ∀ x, row = some x → L x ∨ u.heap.size ≤ x) : Kp L u w' :=
  ⟨hg.os.trans h.os, hg.tape.trans h.tape, hg.output.trans h.output, Nat.le_trans h.size hg.size, fun k h1 h2 => (hg.block k (Nat.lt_of_lt_of_le h1 h.size) (fun e => by
    rcases hr k e.symm with h | h
    · exact h2 h
    · omega)).trans (h.block k h1 h2)⟩
theorem Kp.ofGrown {w w' : World} {row : Option Nat} (hg : w.grownBy w' row) : Kp (fun x => row = some x) w w' := (Kp.refl _ _).grown hg (fun _ h => .inl h)
theorem Kp.cell {L : Nat → Prop} {w w' : World} (h : Kp L w w') {p : Addr} (h1 : p.block < w.heap.size) (h2 : ¬ L p.block) : w'.cell? p = w.cell? p := World.cell?_of_block (w := w) (h.block p.block h1 h2)
theorem Kp.frozen {L : Nat → Prop} {w w' : World} (h : Kp L w w') {p : Addr} (h1 : p.block < w.heap.size) (h2 : ¬ L p.block) : w'.frozen? p = w.frozen? p := World.frozen?_of_block (w := w) (h.block p.block h1 h2)
theorem Kp.toBelow {L : Nat → Prop} {u w : World} (k : Kp L u w) (hb : ∀ x, L x → u.heap.size ≤ x) : Below u.heap.size u w :=
  ⟨k.os, k.tape, k.output, k.size, fun i hi => k.block i hi (fun hm => by have := hb i hm; omega)⟩
theorem Kp.toBelow' {u w : World} (k : Kp No u w) : Below u.heap.size u w := k.toBelow (fun _ h => h.elim)
/-- .. of a world ahead. -/
theorem Kp.under {L : Nat → Prop} {B : Nat} {u v w : World} (h : Below B u v) (k : Kp L v w) (hb : ∀ x, L x → B ≤ x) (hB : B ≤ v.heap.size) : Below B u w :=
  h.trans ⟨k.os, k.tape, k.output, k.size, fun i hi => k.block i (by omega) (fun hm => by have := hb i hm; omega)⟩

/-! ### A block of cells, whole -/
def Blk (w : World) (b : Nat) (t : TypeId) (cs : List Value) : Prop := w.heap[b]? = some (.cells cs.toArray t (0, 0))
theorem Blk.lt {w : World} {b : Nat} {t : TypeId} {cs : List Value} (h : Blk w b t cs) : b < w.heap.size := (Array.getElem?_eq_some_iff.1 h).1
theorem Blk.kp {L : Nat → Prop} {w w' : World} {b : Nat} {t : TypeId} {cs : List Value} (h : Blk w b t cs) (k : Kp L w w') (hb : ¬ L b) : Blk w' b t cs := (k.block b h.lt hb).trans h
theorem Blk.ne {w : World} {b b' : Nat} {t t' : TypeId} {cs cs' : List Value} (h : Blk w b t cs) (h' : Blk w b' t' cs') (ht : t ≠ t') : b ≠ b' := by
  intro e
  subst e
  unfold Blk at h h'
  rw [h] at h'
  simp at h'
  exact ht h'.2
theorem Blk.cell {w : World} {b : Nat} {t : TypeId} {cs : List Value} (h : Blk w b t cs) (j : Nat) : w.cell? ⟨b, j, none⟩ = cs[j]? := by
  unfold Blk at h
  simp [World.cell?, h]
theorem Blk.frozen {w : World} {b : Nat} {t : TypeId} {cs : List Value} (h : Blk w b t cs) (j : Nat) : w.frozen? ⟨b, j, none⟩ = false := by
  unfold Blk at h
  simp [World.frozen?, h]
theorem Blk.new (w : World) (t : TypeId) (cs : List Value) : Blk (w.alloc (.cells cs.toArray t)) w.heap.size t cs := (MapKept.heap_alloc w _).1
theorem Blk.setCell {w : World} {b : Nat} {t : TypeId} {cs : List Value} (h : Blk w b t cs) (j : Nat) (x : Value) : Blk (w.setCell ⟨b, j, none⟩ x) b t (cs.set j x) := by
  unfold Blk at h ⊢
  simp [World.setCell, Array.getElem?_modify, h]

/-! ### Bytes that are read -/
/-- Bytes as cells. -/
def cl (xs : List Nat) : List Value := xs.map fun x : Nat => .int .u8 (x : Int)
theorem cl_length (xs : List Nat) : (cl xs).length = xs.length := by simp [cl]
theorem cl_append (xs ys : List Nat) : cl (xs ++ ys) = cl xs ++ cl ys := by simp [cl]
theorem cl_at (xs : List Nat) (i : Nat) (h : i < xs.length) : (cl xs)[i]? = some (.int .u8 (xs.getD i 0 : Nat)) := by simp [cl, List.getElem?_eq_getElem h]
theorem cl_one (xs : List Nat) : ∀ u ∈ cl xs, u.oneCell' = true := by intro u hu; obtain ⟨x, _, rfl⟩ := List.mem_map.1 hu; rfl

/-- v is a slice of the bytes bs, in a block of which P. -/
def ByP (P : Nat → Prop) (w : World) (v : Value) (bs : List Nat) : Prop :=
  ∃ a cap, v = .slice a bs.length cap ∧ bs.length ≤ cap ∧ cap ≤ maxLen ∧ (a = none → bs = [] ∧ cap = 0) ∧ bs.length ≤ 9223372036854775807 ∧ (∀ x ∈ bs, x < 256) ∧
    (bs ≠ [] → ∃ g o, a = some ⟨g, o, none⟩ ∧ P g ∧ g < w.heap.size ∧ ∀ i, i < bs.length → w.cell? ⟨g, o + i, none⟩ = some (.int .u8 (bs.getD i 0 : Nat)))

theorem ByP.nil (P : Nat → Prop) (w : World) : ByP P w (.slice none 0 0) [] := ⟨_, 0, rfl, Nat.le_refl _, Nat.zero_le _, fun _ => ⟨rfl, rfl⟩, by simp, by simp, fun h => absurd rfl h⟩
theorem ByP.mono {P Q : Nat → Prop} {w : World} {v : Value} {bs : List Nat} (h : ByP P w v bs) (hm : ∀ x, x < w.heap.size → P x → Q x) : ByP Q w v bs := by
  obtain ⟨a, cap, h1, h2, h3, h4, h5, h6, h7⟩ := h
  refine ⟨a, cap, h1, h2, h3, h4, h5, h6, fun hne => ?_⟩
  obtain ⟨g, o, e, hgb, hg, hc⟩ := h7 hne
  exact ⟨g, o, e, hm g hg hgb, hg, hc⟩
theorem ByP.kp {P L : Nat → Prop} {w w' : World} {v : Value} {bs : List Nat} (h : ByP P w v bs) (k : Kp L w w') (hm : ∀ x, L x → x < w.heap.size → ¬ P x) : ByP P w' v bs := by
  obtain ⟨a, cap, h1, h2, h3, h4, h5, h6, h7⟩ := h
  refine ⟨a, cap, h1, h2, h3, h4, h5, h6, fun hne => ?_⟩
  obtain ⟨g, o, e, hgb, hg, hc⟩ := h7 hne
  exact ⟨g, o, e, hgb, Nat.lt_of_lt_of_le hg k.size, fun i hi => (k.cell (p := ⟨g, o + i, none⟩) hg (fun hx => hm g hx hg hgb)).trans (hc i hi)⟩
theorem ByP.kept {P : Nat → Prop} {w w' : World} {v : Value} {bs : List Nat} (h : ByP P w v bs) (k : Kp No w w') : ByP P w' v bs := h.kp k (fun _ hx => hx.elim)
theorem ByP.front {P : Nat → Prop} {w : World} {a : Option Addr} {n0 cap : Nat} {bs : List Nat} (h : ByP P w (.slice a n0 cap) bs) (n : Nat) (hn : n ≤ bs.length) : ByP P w (.slice a n cap) (bs.take n) := by
  obtain ⟨a', cap', e, h2, h3, h4, h5, h6, h7⟩ := h
  cases e
  have hl : (bs.take n).length = n := List.length_take_of_le hn
  refine ⟨a, cap, by rw [hl], by omega, h3, fun e => ?_, by omega, fun x hx => h6 x (List.mem_of_mem_take hx), fun hne => ?_⟩
  · obtain ⟨rfl, rfl⟩ := h4 e
    exact ⟨by simp, rfl⟩
  · have hb : bs ≠ [] := fun e => hne (by rw [e]; simp)
    obtain ⟨g, o, e, hg, hg', hc⟩ := h7 hb
    refine ⟨g, o, e, hg, hg', fun i hi => ?_⟩
    rw [hc i (by omega)]
    have : (bs.take n).getD i 0 = bs.getD i 0 := by simp [show i < n by omega]
    rw [this]

/-! ### Rows of the call's own -/
/-- v is a row of the call's own, of n elements of the type e, each of sz cells. -/
def Row (w : World) (e : TypeId) (sz : Nat) (v : Value) (n : Nat) (xs : List Value) : Prop := w.ownsRow 0 e sz v n xs

theorem Row.nil (w : World) (e : TypeId) (sz : Nat) : Row w e sz (.slice none 0 0) 0 [] := World.ownsRow_nil _ _ _ _
theorem Row.kp {L : Nat → Prop} {w w' : World} {e : TypeId} {sz n : Nat} {v : Value} {xs : List Value} (h : Row w e sz v n xs) (k : Kp L w w') (hv : ∀ x, v.ownBlock = some x → ¬ L x) : Row w' e sz v n xs := by
  refine ⟨h.1, ?_⟩
  rcases h.2 with hn | ⟨g, cap, cur, rfl, hb, hgg, rest⟩
  · exact .inl hn
  · exact .inr ⟨g, cap, cur, rfl, hb, by rw [k.block g (Array.getElem?_eq_some_iff.1 hgg).1 (hv g rfl)]; exact hgg, rest⟩
theorem Row.kept {w w' : World} {e : TypeId} {sz n : Nat} {v : Value} {xs : List Value} (h : Row w e sz v n xs) (k : Kp No w w') : Row w' e sz v n xs := h.kp k (fun _ _ hx => hx.elim)
theorem Row.lt {w : World} {e : TypeId} {sz n : Nat} {v : Value} {xs : List Value} (h : Row w e sz v n xs) : ∀ x, v.ownBlock = some x → x < w.heap.size := fun x hx => (World.ownsRow.lt h x hx).2
/-- Blocks of other types are other blocks. -/
theorem Row.ne {w : World} {e : TypeId} {sz n : Nat} {v : Value} {xs : List Value} (h : Row w e sz v n xs) {b : Nat} {cs : List Value} {t : TypeId} (hb : Blk w b t cs) (ht : t ≠ e) : v.ownBlock ≠ some b := by
  rcases h.2 with ⟨rfl, _⟩ | ⟨g, cap, cur, rfl, _, hgg, _⟩
  · simp [Value.ownBlock]
  · intro hx
    simp [Value.ownBlock] at hx
    subst hx
    unfold Blk at hb
    rw [hgg] at hb
    simp at hb
    exact ht hb.2.symm
theorem Row.ne' {w : World} {e e' : TypeId} {sz n sz' n' : Nat} {v v' : Value} {xs xs' : List Value} (h : Row w e sz v n xs) (h' : Row w e' sz' v' n' xs') (ht : e ≠ e') : ∀ x, v.ownBlock = some x → v'.ownBlock ≠ some x := by
  intro x hx hx'
  rcases h.2 with ⟨rfl, _⟩ | ⟨g, cap, cur, rfl, _, hgg, _⟩
  · simp [Value.ownBlock] at hx
  · rcases h'.2 with ⟨rfl, _⟩ | ⟨g', cap', cur', rfl, _, hgg', _⟩
    · simp [Value.ownBlock] at hx'
    · simp [Value.ownBlock] at hx hx'
      subst hx hx'
      rw [hgg] at hgg'
      simp at hgg'
      exact ht hgg'.2
theorem Row.shape {w : World} {e : TypeId} {sz n : Nat} {v : Value} {xs : List Value} (h : Row w e sz v n xs) : ∃ a cap, v = .slice a n cap ∧ n ≤ cap ∧ cap ≤ maxLen ∧ (a = none → n = 0 ∧ cap = 0) ∧ ∀ x, a = some x → x.spot = none ∧ x.off = 0 := by
  rcases h.2 with ⟨rfl, h0⟩ | ⟨g, cap, cur, rfl, hg, hh, hn, hc, hs, ht⟩
  · subst h0
    exact ⟨none, 0, rfl, Nat.le_refl _, Nat.zero_le _, fun _ => ⟨rfl, rfl⟩, by simp⟩
  · exact ⟨_, cap, rfl, hn, hc, by simp, fun x hx => by cases hx; exact ⟨rfl, rfl⟩⟩
theorem Row.cellAt {w : World} {e : TypeId} {sz n g cap : Nat} {xs : List Value} (h : Row w e sz (.slice (some ⟨g, 0, none⟩) n cap) n xs) (i : Nat) (hi : i < n * sz) : w.cell? ⟨g, i, none⟩ = xs[i]? := by
  obtain ⟨hl, h2⟩ := h
  have hx : xs[i]? = some xs[i] := List.getElem?_eq_getElem (by omega)
  have h3 := World.ownsRow.cells (w := w) (base := 0) (e := e) (size := sz) (v := .slice (some ⟨g, 0, none⟩) n cap) (n := n) (xs := xs) ⟨hl, h2⟩ (g := g) rfl i xs[i] hx
  rw [addr_add, Nat.zero_add] at h3
  rw [h3, hx]

/-- The values of a slice that is read. -/
def Src (w : World) (v : Value) (m sz : Nat) (ys : List Value) : Prop :=
  (v = .slice none 0 0 ∧ m = 0 ∧ ys = []) ∨ ∃ ad c, v = .slice (some ad) m c ∧ ys.length = m * sz ∧ (∀ j u, ys[j]? = some u → w.cell? (ad.add j) = some u) ∧ ∀ u ∈ ys, u.oneCell' = true

/-- append(v, x...), v of the call's own. -/
theorem app_row {ops : Array Oper} {rest : List Oper} {o : Oper} {a : Act} {Q : Exit → Act → World → Prop} (w : World) (hgd : o.guard = none) (s x : Operand) (t e : TypeId) (z : Value) (sz by' : Nat)
    (ho : o.op = .call { callee := .builtin .append, args := #[s, x], argTypes := #[t, t] }) (ht : Tryd.prog.underlying t = some (.slice e)) (hin : (Tryd.prog.info? e).map (fun i => (i.zero, i.size, i.bytes)) = some (some z, sz, by'))
    (hz1 : z.cells.size = sz) (hsz : 0 < sz) (v vx : Value) (n m : Nat) (xs ys : List Value) (hs : a.eval s = v) (hx : a.eval x = vx)
    (hown : Row w e sz v n xs) (hy : Src w vx m sz ys) (hlen : n + m ≤ 20000000) (hby : by' ≤ 1000)
    (h : ∀ ad cap w', Row w' e sz (.slice ad (n + m) cap) (n + m) (xs ++ ys) → w.grownBy w' v.ownBlock → ((Value.slice ad (n + m) cap).ownBlock = v.ownBlock ∨ (Value.slice ad (n + m) cap).ownBlock = some w.heap.size) → wpList Tryd.prog ops Q rest (a.put o.dst (.slice ad (n + m) cap)) w') : wpList Tryd.prog ops Q (o :: rest) a w := by
  obtain ⟨i0, hi, hz0, hz1', hz2⟩ := info_parts hin
  rcases hy with ⟨rfl, rfl, rfl⟩ | ⟨ad, c, rfl, hl, hc, h1⟩
  · refine wpList_append_own_none hgd s x t ho 0 e i0 sz ht hi v n xs hs hown hx ?_
    obtain ⟨ad, cap, rfl, _⟩ := hown.shape
    exact h ad cap w (by rw [List.append_nil]; exact hown) ⟨rfl, rfl, rfl, Nat.le_refl _, fun _ _ _ => rfl⟩ (.inl rfl)
  · refine wpList_append_own_at (P := Tryd.prog) w hgd s x t ho 0 e i0 z sz by' ht hi hz0 hz1' hz2 hz1 hsz v n xs hs hown ad m c ys hx hl hc h1 (by unfold maxLen; omega) ?_ (Nat.zero_le _) ?_
    · have : (n + m) * by' ≤ 20000000 * 1000 := Nat.mul_le_mul hlen hby
      omega
    · intro v' w' h8 h9 _ h10
      have h8' : Row w' e sz v' (n + m) (xs ++ ys) := h8
      obtain ⟨ad', cap', rfl, _⟩ := h8'.shape
      exact h ad' cap' w' h8 h9 h10

/-- A literal of one element. -/
theorem Src.one (w : World) (us : List Value) (sz : Nat) (t : TypeId) (hl : us.length = sz) (h1 : ∀ u ∈ us, u.oneCell' = true) : Src (w.alloc (.cells us.toArray t)) (.slice (some ⟨w.heap.size, 0, none⟩) 1 1) 1 sz us :=
  .inr ⟨_, 1, rfl, by omega, fun j x hj => by
    rw [addr_add, World.cell?_alloc_at _ _ _ _ rfl]
    simpa using hj, h1⟩

/-! ### Bytes of the call's own -/
/-- v is a row of the call's own, of the bytes xs. -/
def OwnB (w : World) (v : Value) (xs : List Nat) : Prop := Row w 5 1 v xs.length (cl xs)
theorem OwnB.row {w : World} {v : Value} {xs : List Nat} (h : OwnB w v xs) : Row w 5 1 v xs.length (cl xs) := h
theorem OwnB.nil (w : World) : OwnB w (.slice none 0 0) [] := Row.nil _ _ _
theorem OwnB.shape {w : World} {v : Value} {xs : List Nat} (h : OwnB w v xs) : ∃ a cap, v = .slice a xs.length cap ∧ xs.length ≤ cap ∧ cap ≤ maxLen ∧ (a = none → xs = [] ∧ cap = 0) := by
  obtain ⟨a, cap, h1, h2, h3, h4, _⟩ := h.row.shape
  exact ⟨a, cap, h1, h2, h3, fun e => ⟨List.length_eq_zero_iff.1 (h4 e).1, (h4 e).2⟩⟩
theorem OwnB.byP {P : Nat → Prop} {w : World} {v : Value} {xs : List Nat} (h : OwnB w v xs) (hP : ∀ x, v.ownBlock = some x → P x) (hl : xs.length ≤ 20000000) (hx : ∀ x ∈ xs, x < 256) : ByP P w v xs := by
  rcases h.row.2 with ⟨rfl, h0⟩ | ⟨g, cap, cur, rfl, hg, hh, hn, hc, hs, ht⟩
  · have : xs = [] := List.length_eq_zero_iff.1 h0
    subst this
    exact ByP.nil _ _
  · refine ⟨_, cap, rfl, hn, hc, by simp, by omega, hx, fun _ => ⟨g, 0, rfl, hP g rfl, (Array.getElem?_eq_some_iff.1 hh).1, fun i hi => ?_⟩⟩
    rw [Nat.zero_add, h.row.cellAt i (by omega)]
    exact cl_at xs i hi
theorem ByP.src {P : Nat → Prop} {w : World} {v : Value} {ys : List Nat} (h : ByP P w v ys) : Src w v ys.length 1 (cl ys) := by
  obtain ⟨a, cap, rfl, h2, h3, h4, h5, h6, h7⟩ := h
  cases a with
  | none =>
    obtain ⟨rfl, rfl⟩ := h4 rfl
    exact .inl ⟨rfl, rfl, rfl⟩
  | some ad =>
    refine .inr ⟨ad, cap, rfl, by rw [cl_length, Nat.mul_one], fun j u hj => ?_, cl_one ys⟩
    have hjn : j < ys.length := by
      have := (List.getElem?_eq_some_iff.1 hj).1
      rwa [cl_length] at this
    obtain ⟨g, o, e, _, hb, hc⟩ := h7 (by intro e; subst e; simp at hjn)
    simp only [Option.some.injEq] at e
    subst e
    rw [addr_add, hc j hjn, ← cl_at ys j hjn]
    exact hj
theorem Tryd.info5 : (Tryd.prog.info? 5).map (fun i => (i.zero, i.size, i.bytes)) = some (some (.int .u8 0), 1, 1) := by kernel_rfl
/-- append of bytes. -/
theorem app_bytes {ops : Array Oper} {rest : List Oper} {o : Oper} {a : Act} {Q : Exit → Act → World → Prop} (w : World) (hgd : o.guard = none) (s x : Operand)
    (ho : o.op = .call { callee := .builtin .append, args := #[s, x], argTypes := #[23, 23] }) (v vx : Value) (xs ys : List Nat) (P : Nat → Prop) (hs : a.eval s = v) (hx : a.eval x = vx)
    (hown : OwnB w v xs) (hy : ByP P w vx ys) (hlen : xs.length + ys.length ≤ 20000000)
    (h : ∀ ad cap w', OwnB w' (.slice ad (xs.length + ys.length) cap) (xs ++ ys) → w.grownBy w' v.ownBlock → ((Value.slice ad (xs.length + ys.length) cap).ownBlock = v.ownBlock ∨ (Value.slice ad (xs.length + ys.length) cap).ownBlock = some w.heap.size) → wpList Tryd.prog ops Q rest (a.put o.dst (.slice ad (xs.length + ys.length) cap)) w') : wpList Tryd.prog ops Q (o :: rest) a w := by
  refine app_row w hgd s x 23 5 (.int .u8 0) 1 1 ho Tryd.underlying23 Tryd.info5 rfl (by decide) v vx xs.length ys.length (cl xs) (cl ys) hs hx hown.row hy.src hlen (by decide) ?_
  intro ad cap w' h1 h2 h3
  exact h ad cap w' (by unfold OwnB; rw [cl_append, List.length_append]; exact h1) h2 h3

theorem Tryd.nilEq (w : World) (a : Option Addr) (n c n' c' : Nat) : (binOp .eql 23 (.slice a n c) (.slice none n' c')).run Tryd.prog w = .ok (.bool a.isNone) w :=
  Lib.run_eql_slice_nil w _ _ a n c n' c' Tryd.underlying23
theorem own_empty (w : World) : OwnB (w.alloc (.cells #[] 5)) (.slice (some ⟨w.heap.size, 0, none⟩) 0 0) [] := World.ownsRow_made w #[] 0 (Nat.zero_le _) (Nat.zero_le _) rfl

set_option maxHeartbeats 1000000 in
/-- bytes.Clone. -/
theorem clone_any {P : Nat → Prop} (v : Value) (bs : List Nat) (w : World) (h : ByP P w v bs) (hl : bs.length ≤ 20000000) :
    Calls Tryd.prog 38 #[v] w fun e w' => ∃ ad cap, e = .returned (.slice ad bs.length cap) ∧ OwnB w' (.slice ad bs.length cap) bs ∧ (∀ x, (Value.slice ad bs.length cap).ownBlock = some x → w.heap.size ≤ x) ∧ Kp No w w' := by
  have q22 := Tryd.nilEq
  have H := hid h
  obtain ⟨a, cap, rfl, h2, h3, h4, h5, h6, h7⟩ := h
  clear h6 h7
  cases a with
  | none =>
    obtain ⟨rfl, rfl⟩ := h4 rfl
    go_enter Tryd.func38, Tryd.ntmps38
    go_wp2
    go_ret
    exact ⟨_, _, rfl, OwnB.nil _, by simp [Value.ownBlock], Kp.refl _ _⟩
  | some ad =>
    clear h4
    go_enter Tryd.func38, Tryd.ntmps38
    go_wp2_with (at_builtin; refine app_bytes _ rfl _ _ rfl (.slice (some ⟨w.heap.size, 0, none⟩) 0 0) _ [] bs P rfl rfl (own_empty w) (H.out.kept ((Kp.refl _ _).alloc _)) (by simpa using hl) ?_; intro ad' cap' w' hown hg hb)
    go_wp2
    go_ret
    rw [List.length_nil, Nat.zero_add] at hown hb
    refine ⟨ad', cap', rfl, by simpa using hown, fun x hx => ?_, ((Kp.refl _ w).alloc _).grown hg (fun x hx => .inr (by simp [Value.ownBlock] at hx; omega))⟩
    rcases hb with hb | hb
    · rw [hb] at hx
      simp [Value.ownBlock] at hx
      omega
    · rw [hb] at hx
      simp at hx
      omega

end Go.Proofs.YtdooiflmjeibdaaDoor.Tr
