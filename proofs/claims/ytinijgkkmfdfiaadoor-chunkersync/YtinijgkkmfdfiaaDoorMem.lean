/-
  How bytes, rows of bytes and what is the call's own lie in memory; what stays as it was.
-/
import Derived.Test.YtinijgkkmfdfiaaDoorApp
import Derived.Test.YtinijgkkmfdfiaaDoorCut
import Derived.Test.YtinijgkkmfdfiaaDoorMask
import Derived.Maps.AppendAt
import Derived.OneCell
namespace Go.Proofs.YtinijgkkmfdfiaaDoor
open Go.RowKit

/-! ### What stays as it was -/
/-- All blocks that are not in l hold what they held. -/
structure Kp (l : List Nat) (w w' : World) : Prop where
  os : w'.os = w.os
  tape : w'.tape = w.tape
  output : w'.output = w.output
  size : w.heap.size ≤ w'.heap.size
  block : ∀ k, k < w.heap.size → k ∉ l → w'.heap[k]? = w.heap[k]?

theorem Kp.refl (l : List Nat) (w : World) : Kp l w w := ⟨rfl, rfl, rfl, Nat.le_refl _, fun _ _ _ => rfl⟩
/-- One behind the other: what the second one writes is the first one's, or new. -/
theorem Kp.trans {l m : List Nat} {u v w : World} (h : Kp l u v) (k : Kp m v w) (hm : ∀ x ∈ m, x ∈ l ∨ u.heap.size ≤ x) : Kp l u w :=
  ⟨k.os.trans h.os, k.tape.trans h.tape, k.output.trans h.output, Nat.le_trans h.size k.size, fun i h1 h2 => (k.block i (Nat.lt_of_lt_of_le h1 h.size) (fun hi => by
    rcases hm i hi with h | h
    · exact h2 h
    · omega)).trans (h.block i h1 h2)⟩
theorem Kp.mono {l m : List Nat} {u w : World} (h : Kp l u w) (hs : ∀ x ∈ l, x ∈ m ∨ u.heap.size ≤ x) : Kp m u w := (Kp.refl m u).trans h hs
theorem Kp.below {l : List Nat} {u w : World} (h : Below u.heap.size u w) : Kp l u w := ⟨h.os, h.tape, h.output, h.size, fun k hk _ => h.block k hk⟩
theorem Kp.alloc {l : List Nat} {u w : World} (h : Kp l u w) (o : Obj) : Kp l u (w.alloc o) := h.trans (m := []) (Kp.below ((Below.refl _ _).alloc (Nat.le_refl _) _)) (by simp)
theorem Kp.setCell {l : List Nat} {u w : World} (h : Kp l u w) {p : Addr} (hp : p.block ∈ l ∨ u.heap.size ≤ p.block) (x : Value) : Kp l u (w.setCell p x) :=
  ⟨h.os, h.tape, h.output, by simpa using h.size, fun k h1 h2 => (Below.heap_setCell _ _ _ _ (by
    intro e
    rcases hp with hp | hp
    · exact h2 (e ▸ hp)
    · omega)).trans (h.block k h1 h2)⟩
theorem Kp.drew {l : List Nat} {u w : World} (h : Kp l u w) : Kp l u w.drew := ⟨h.os, h.tape, h.output, h.size, h.block⟩
theorem Kp.drewN {l : List Nat} {u w : World} (h : Kp l u w) (q : Nat) : Kp l u (w.drewN q) := h.trans (m := []) (Kp.below (below_drewN (Below.refl _ _) q)) (by simp)
theorem Kp.grown {l : List Nat} {u w w' : World} {row : Option Nat} (h : Kp l u w) (hg : w.grownBy w' row) (hr : ∀ x, row = some x → x ∈ l ∨ u.heap.size ≤ x) : Kp l u w' :=
  ⟨hg.os.trans h.os, hg.tape.trans h.tape, hg.output.trans h.output, Nat.le_trans h.size hg.size, fun k h1 h2 => (hg.block k (Nat.lt_of_lt_of_le h1 h.size) (fun e => by
    rcases hr k e.symm with h | h
    · exact h2 h
    · omega)).trans (h.block k h1 h2)⟩
theorem Kp.ofKept {b : Nat} {w w' : World} (h : Kept b w w') : Kp [b] w w' := ⟨h.os, h.tape, h.output, h.size, fun k hk hm => h.block k hk (fun e => hm (by simp [e]))⟩
theorem Kp.cell {l : List Nat} {w w' : World} (h : Kp l w w') {p : Addr} (h1 : p.block < w.heap.size) (h2 : p.block ∉ l) : w'.cell? p = w.cell? p := World.cell?_of_block (w := w) (h.block p.block h1 h2)
theorem Kp.frozen {l : List Nat} {w w' : World} (h : Kp l w w') {p : Addr} (h1 : p.block < w.heap.size) (h2 : p.block ∉ l) : w'.frozen? p = w.frozen? p := World.frozen?_of_block (w := w) (h.block p.block h1 h2)
theorem Kp.toBelow {l : List Nat} {u w : World} (k : Kp l u w) (hb : ∀ x ∈ l, u.heap.size ≤ x) : Below u.heap.size u w :=
  ⟨k.os, k.tape, k.output, k.size, fun i hi => k.block i hi (fun hm => by have := hb i hm; omega)⟩
/-- .. of a world ahead. -/
theorem Kp.under {l : List Nat} {B : Nat} {u v w : World} (h : Below B u v) (k : Kp l v w) (hb : ∀ x ∈ l, B ≤ x) (hB : B ≤ v.heap.size) : Below B u w :=
  h.trans ⟨k.os, k.tape, k.output, k.size, fun i hi => k.block i (by omega) (fun hm => by have := hb i hm; omega)⟩

theorem Gr.kp {b s f : Nat} {l : List Nat} {w w' : World} (h : Gr w b s f) (k : Kp l w w') (hg : b ∉ l) : Gr w' b s f := by
  obtain ⟨h1, h2, h3, h4, h5, h6, h7, h8⟩ := h
  have ho : ∀ j, w'.cell? ⟨b, j, none⟩ = w.cell? ⟨b, j, none⟩ := fun j => k.cell (p := ⟨b, j, none⟩) h1 hg
  refine ⟨Nat.lt_of_lt_of_le h1 k.size, (ho 0).trans h2, (ho 1).trans h3, (ho _).trans h4, fun j hj => ?_, fun e j hj => (ho _).trans (h6 e j hj), fun j => (k.frozen (p := ⟨b, j, none⟩) h1 hg).trans (h7 j), h8⟩
  obtain ⟨x, hx⟩ := h5 j hj
  exact ⟨x, (ho _).trans hx⟩

theorem Tab.lt {w : World} (h : Tab w) : 2 < w.heap.size := World.block_lt_of_cell? _ _ (h 0 (by omega))
theorem Tab.below {w w' : World} {B : Nat} (h : Tab w) (k : Below B w w') (hB : 2 < B) : Tab w' := fun j hj => (k.cell (p := ⟨2, j, none⟩) hB).trans (h j hj)
theorem Tab.kp {w w' : World} {l : List Nat} (h : Tab w) (k : Kp l w w') (hb : 2 ∉ l) : Tab w' := fun j hj => (k.cell (p := ⟨2, j, none⟩) h.lt hb).trans (h j hj)

/-! ### Bytes -/
/-- v is a slice of the bytes bs, in a block of which P. -/
def ByP (P : Nat → Prop) (w : World) (v : Value) (bs : List Nat) : Prop :=
  ∃ a cap, v = .slice a bs.length cap ∧ bs.length ≤ cap ∧ cap ≤ maxLen ∧ (a = none → bs = [] ∧ cap = 0) ∧ bs.length ≤ 140737488355328 ∧ (∀ x ∈ bs, x < 256) ∧
    (bs ≠ [] → ∃ g o, a = some ⟨g, o, none⟩ ∧ P g ∧ g < w.heap.size ∧ ∀ i, i < bs.length → w.cell? ⟨g, o + i, none⟩ = some (.int .u8 (bs.getD i 0 : Nat)))

theorem ByP.nil (P : Nat → Prop) (w : World) : ByP P w (.slice none 0 0) [] := ⟨_, 0, rfl, Nat.le_refl _, Nat.zero_le _, fun _ => ⟨rfl, rfl⟩, by simp, by simp, fun h => absurd rfl h⟩
theorem ByP.mono {P Q : Nat → Prop} {w : World} {v : Value} {bs : List Nat} (h : ByP P w v bs) (hm : ∀ x, x < w.heap.size → P x → Q x) : ByP Q w v bs := by
  obtain ⟨a, cap, h1, h2, h3, h4, h5, h6, h7⟩ := h
  refine ⟨a, cap, h1, h2, h3, h4, h5, h6, fun hne => ?_⟩
  obtain ⟨g, o, e, hgb, hg, hc⟩ := h7 hne
  exact ⟨g, o, e, hm g hg hgb, hg, hc⟩
theorem ByP.kp {P : Nat → Prop} {m : List Nat} {w w' : World} {v : Value} {bs : List Nat} (h : ByP P w v bs) (k : Kp m w w') (hm : ∀ x ∈ m, x < w.heap.size → ¬ P x) : ByP P w' v bs := by
  obtain ⟨a, cap, h1, h2, h3, h4, h5, h6, h7⟩ := h
  refine ⟨a, cap, h1, h2, h3, h4, h5, h6, fun hne => ?_⟩
  obtain ⟨g, o, e, hgb, hg, hc⟩ := h7 hne
  exact ⟨g, o, e, hgb, Nat.lt_of_lt_of_le hg k.size, fun i hi => (k.cell (p := ⟨g, o + i, none⟩) hg (fun hx => hm g hx hg hgb)).trans (hc i hi)⟩
theorem ByP.below {P : Nat → Prop} {w w' : World} {v : Value} {bs : List Nat} (h : ByP P w v bs) (k : Below w.heap.size w w') : ByP P w' v bs := h.kp (m := []) (Kp.below k) (by simp)
theorem ByP.toSl {P : Nat → Prop} {w : World} {v : Value} {bs : List Nat} (h : ByP P w v bs) : BySl w.heap.size w v bs := by
  obtain ⟨a, cap, h1, h2, h3, h4, h5, h6, h7⟩ := h
  refine ⟨a, cap, h1, h2, h3, h4, h5, h6, fun hne => ?_⟩
  obtain ⟨g, o, e, hgb, hg, hc⟩ := h7 hne
  exact ⟨g, o, e, by omega, hg, hc⟩
theorem BySl.toP {P : Nat → Prop} {b : Nat} {w : World} {v : Value} {bs : List Nat} (h : BySl b w v bs) (hP : ∀ x, x < w.heap.size → P x) : ByP P w v bs := by
  obtain ⟨a, cap, h1, h2, h3, h4, h5, h6, h7⟩ := h
  refine ⟨a, cap, h1, h2, h3, h4, h5, h6, fun hne => ?_⟩
  obtain ⟨g, o, e, hgb, hg, hc⟩ := h7 hne
  exact ⟨g, o, e, hP g hg, hg, hc⟩

/-- A slice's front, and its back. -/
theorem ByP.front {P : Nat → Prop} {w : World} {a : Option Addr} {n0 cap : Nat} {bs : List Nat} (h : ByP P w (.slice a n0 cap) bs) (n : Nat) (hn : n ≤ bs.length) : ByP P w (.slice a n cap) (bs.take n) := by
  obtain ⟨a', cap', e, h2, h3, h4, h5, h6, h7⟩ := h
  cases e
  have hl : (bs.take n).length = n := List.length_take_of_le hn
  refine ⟨a, cap, by rw [hl], by omega, h3, fun e => ?_, by omega, fun x hx => h6 x (List.mem_of_mem_take hx), fun hne => ?_⟩
  · obtain ⟨rfl, rfl⟩ := h4 e
    exact ⟨by simp, rfl⟩
  · have hb : bs ≠ [] := fun e => hne (by rw [e]; simp)
    obtain ⟨g, o, e, hg, hg', hc⟩ := h7 hb
    refine ⟨g, o, e, hg, hg', fun i hi => ?_⟩
    rw [hc i (by omega)]
    have : (bs.take n).getD i 0 = bs.getD i 0 := by simp [show i < n by omega]
    rw [this]
theorem ByP.back {P : Nat → Prop} {w : World} {a : Option Addr} {n0 cap : Nat} {bs : List Nat} (h : ByP P w (.slice a n0 cap) bs) (n : Nat) (hn : n ≤ bs.length) :
    ByP P w (.slice (Option.map (fun x => x.add n) a) (bs.length - n) (cap - n)) (bs.drop n) := by
  obtain ⟨a', cap', e, h2, h3, h4, h5, h6, h7⟩ := h
  cases e
  have hl : (bs.drop n).length = bs.length - n := List.length_drop
  refine ⟨_, cap - n, by rw [hl], by omega, by omega, fun e => ?_, by omega, fun x hx => h6 x (List.mem_of_mem_drop hx), fun hne => ?_⟩
  · obtain ⟨rfl, rfl⟩ := h4 (by cases a with
      | none => rfl
      | some x => simp at e)
    exact ⟨by simp, by simp⟩
  · have hb : bs ≠ [] := fun e => hne (by rw [e]; simp)
    obtain ⟨g, o, e, hg, hg', hc⟩ := h7 hb
    subst e
    refine ⟨g, o + n, by rw [Option.map_some, addr_add], hg, hg', fun i hi => ?_⟩
    rw [Nat.add_assoc, hc (n + i) (by omega)]
    have : (bs.drop n).getD i 0 = bs.getD (n + i) 0 := by simp
    rw [this]

/-! ### Rows of the call's own -/
/-- v is a row of the call's own, of elements of the type e. -/
def Row (w : World) (e : TypeId) (v : Value) (xs : List Value) : Prop := w.ownsRow 0 e 1 v xs.length xs

theorem Row.nil (w : World) (e : TypeId) : Row w e (.slice none 0 0) [] := World.ownsRow_nil _ _ _ _
theorem Row.kp {w w' : World} {e : TypeId} {v : Value} {xs : List Value} {m : List Nat} (h : Row w e v xs) (k : Kp m w w') (hv : ∀ x, v.ownBlock = some x → x ∉ m) : Row w' e v xs := by
  refine ⟨h.1, ?_⟩
  rcases h.2 with hn | ⟨g, cap, cur, rfl, hb, hgg, rest⟩
  · exact .inl hn
  · exact .inr ⟨g, cap, cur, rfl, hb, by rw [k.block g (Array.getElem?_eq_some_iff.1 hgg).1 (hv g rfl)]; exact hgg, rest⟩
theorem Row.lt {w : World} {e : TypeId} {v : Value} {xs : List Value} (h : Row w e v xs) : ∀ x, v.ownBlock = some x → x < w.heap.size := fun x hx => (World.ownsRow.lt h x hx).2
/-- Rows of other types are other blocks. -/
theorem Row.ne {w : World} {e : TypeId} {v : Value} {xs : List Value} (h : Row w e v xs) {b : Nat} {cs : Array Value} {t : TypeId} {z : Nat × Nat} (hb : w.heap[b]? = some (.cells cs t z)) (ht : t ≠ e) : v.ownBlock ≠ some b := by
  rcases h.2 with ⟨rfl, _⟩ | ⟨g, cap, cur, rfl, _, hgg, _⟩
  · simp [Value.ownBlock]
  · intro hx
    simp [Value.ownBlock] at hx
    subst hx
    rw [hgg] at hb
    simp at hb
    exact ht hb.2.1.symm
/-- Its front of no element. -/
theorem Row.cut {w : World} {e : TypeId} {a : Option Addr} {n cap : Nat} {xs : List Value} (h : Row w e (.slice a n cap) xs) : Row w e (.slice a 0 cap) [] := by
  rcases h.2 with ⟨hv, _⟩ | ⟨g, cap', cur, hv, hb, hgg, h1, h2, h3, h4⟩
  · cases hv
    exact Row.nil _ _
  · cases hv
    exact ⟨rfl, .inr ⟨g, cap, cur, rfl, hb, hgg, Nat.zero_le _, h2, h3, by simp⟩⟩

/-- The values of a slice that is read. -/
def Src (w : World) (v : Value) (ys : List Value) : Prop :=
  (v = .slice none 0 0 ∧ ys = []) ∨ ∃ ad c, v = .slice (some ad) ys.length c ∧ (∀ j u, ys[j]? = some u → w.cell? (ad.add j) = some u) ∧ ∀ u ∈ ys, u.oneCell' = true

/-- append(v, x...), v of the call's own. -/
theorem app_row {ops : Array Oper} {rest : List Oper} {o : Oper} {a : Act} {Q : Exit → Act → World → Prop} (w : World) (hgd : o.guard = none) (s x : Operand) (t e : TypeId) (z : Value) (by' : Nat)
    (ho : o.op = .call { callee := .builtin .append, args := #[s, x], argTypes := #[t, t] }) (ht : Tryd.prog.underlying t = some (.slice e)) (hin : (Tryd.prog.info? e).map (fun i => (i.zero, i.size, i.bytes)) = some (some z, 1, by'))
    (hz1 : z.cells.size = 1) (v vx : Value) (xs ys : List Value) (hs : a.eval s = v) (hx : a.eval x = vx)
    (hown : Row w e v xs) (hy : Src w vx ys) (hlen : xs.length + ys.length ≤ 1000000) (hby : by' ≤ 1000)
    (h : ∀ v' w', Row w' e v' (xs ++ ys) → w.grownBy w' v.ownBlock → (v'.ownBlock = v.ownBlock ∨ v'.ownBlock = some w.heap.size) → wpList Tryd.prog ops Q rest (a.put o.dst v') w') : wpList Tryd.prog ops Q (o :: rest) a w := by
  obtain ⟨i0, hi, hz0, hz1', hz2⟩ := info_parts hin
  rcases hy with ⟨rfl, rfl⟩ | ⟨ad, c, rfl, hc, h1⟩
  · refine wpList_append_own_none hgd s x t ho 0 e i0 1 ht hi v xs.length xs hs hown hx ?_
    exact h v w (by rw [List.append_nil]; exact hown) ⟨rfl, rfl, rfl, Nat.le_refl _, fun _ _ _ => rfl⟩ (.inl rfl)
  · refine wpList_append_own_at (P := Tryd.prog) w hgd s x t ho 0 e i0 z 1 by' ht hi hz0 hz1' hz2 hz1 (by decide) v xs.length xs hs hown ad ys.length c ys hx (by simp) hc h1 (by unfold maxLen; omega) ?_ (Nat.zero_le _) ?_
    · have : (xs.length + ys.length) * by' ≤ 1000000 * 1000 := Nat.mul_le_mul hlen hby
      omega
    · intro v' w' h8 h9 _ h10
      exact h v' w' (by unfold Row; rw [List.length_append]; exact h8) h9 h10

theorem Row.shape {w : World} {e : TypeId} {v : Value} {xs : List Value} (h : Row w e v xs) : ∃ a cap, v = .slice a xs.length cap ∧ xs.length ≤ cap ∧ cap ≤ maxLen ∧ (a = none → xs = [] ∧ cap = 0) ∧ ∀ x, a = some x → x.spot = none ∧ x.off = 0 := by
  rcases h.2 with ⟨rfl, h0⟩ | ⟨g, cap, cur, rfl, hg, hh, hn, hc, hs, ht⟩
  · have : xs = [] := List.length_eq_zero_iff.1 h0
    subst this
    exact ⟨none, 0, rfl, Nat.le_refl _, Nat.zero_le _, fun _ => ⟨rfl, rfl⟩, by simp⟩
  · exact ⟨_, cap, rfl, hn, hc, by simp, fun x hx => by cases hx; exact ⟨rfl, rfl⟩⟩
/-- .. with the new row's shape. -/
theorem app_rowS {ops : Array Oper} {rest : List Oper} {o : Oper} {a : Act} {Q : Exit → Act → World → Prop} (w : World) (hgd : o.guard = none) (s x : Operand) (t e : TypeId) (z : Value) (by' : Nat)
    (ho : o.op = .call { callee := .builtin .append, args := #[s, x], argTypes := #[t, t] }) (ht : Tryd.prog.underlying t = some (.slice e)) (hin : (Tryd.prog.info? e).map (fun i => (i.zero, i.size, i.bytes)) = some (some z, 1, by'))
    (hz1 : z.cells.size = 1) (v vx : Value) (xs ys : List Value) (n : Nat) (hn : xs.length + ys.length = n) (hs : a.eval s = v) (hx : a.eval x = vx)
    (hown : Row w e v xs) (hy : Src w vx ys) (hlen : n ≤ 1000000) (hby : by' ≤ 1000)
    (h : ∀ a' cap' w', Row w' e (.slice a' n cap') (xs ++ ys) → w.grownBy w' v.ownBlock → ((Value.slice a' n cap').ownBlock = v.ownBlock ∨ (Value.slice a' n cap').ownBlock = some w.heap.size) → wpList Tryd.prog ops Q rest (a.put o.dst (.slice a' n cap')) w') : wpList Tryd.prog ops Q (o :: rest) a w := by
  subst hn
  refine app_row w hgd s x t e z by' ho ht hin hz1 v vx xs ys hs hx hown hy hlen hby ?_
  intro v' w' h1 h2 h3
  obtain ⟨a', cap', rfl, _⟩ := h1.shape
  rw [List.length_append] at h1 h3 ⊢
  exact h a' cap' w' h1 h2 h3

theorem Tryd.info25 : (Tryd.prog.info? 25).map (fun i => (i.zero, i.size, i.bytes)) = some (some (.slice none 0 0), 1, 24) := by kernel_rfl
theorem Tryd.info3 : (Tryd.prog.info? 3).map (fun i => (i.zero, i.size, i.bytes)) = some (some (.int .i64 0), 1, 8) := by kernel_rfl

/-- A literal of one element. -/
theorem Src.one (w : World) (u : Value) (t : TypeId) (h1 : u.oneCell' = true) : Src (w.alloc (.cells #[u] t)) (.slice (some ⟨w.heap.size, 0, none⟩) 1 1) [u] :=
  .inr ⟨_, 1, rfl, fun j x hj => by
    have hj0 : j = 0 := by
      have := (List.getElem?_eq_some_iff.1 hj).1
      simpa using this
    subst hj0
    rw [addr_add, World.cell?_alloc_at _ _ _ _ rfl]
    simpa using hj, by simpa using h1⟩

/-! ### Bytes of the call's own -/
/-- v is a row of the call's own, of the bytes xs. -/
def OwnB (w : World) (v : Value) (xs : List Nat) : Prop := Row w 5 v (cl xs)
theorem OwnB.row {w : World} {v : Value} {xs : List Nat} (h : OwnB w v xs) : Row w 5 v (cl xs) := h
theorem OwnB.of {w : World} {b : Nat} {v : Value} {xs : List Nat} (h : OwnR w b v xs) : OwnB w v xs := by
  unfold OwnB Row
  rw [cl_length]
  exact h.mono (Nat.zero_le _)
theorem OwnB.toR {w : World} {v : Value} {xs : List Nat} (h : OwnB w v xs) : OwnR w 0 v xs := by
  unfold OwnB Row at h
  rw [cl_length] at h
  exact h
theorem OwnB.nil (w : World) : OwnB w (.slice none 0 0) [] := Row.nil _ _
theorem OwnB.byP {P : Nat → Prop} {w : World} {v : Value} {xs : List Nat} (h : OwnB w v xs) (hP : ∀ x, v.ownBlock = some x → P x) (hl : xs.length ≤ 1000000) (hx : ∀ x ∈ xs, x < 256) : ByP P w v xs := by
  rcases h.toR.2 with ⟨rfl, h0⟩ | ⟨g, cap, cur, rfl, hg, hh, hn, hc, hs, ht⟩
  · have : xs = [] := List.length_eq_zero_iff.1 h0
    subst this
    exact ByP.nil _ _
  · refine ⟨_, cap, rfl, hn, hc, by simp, by omega, hx, fun _ => ⟨g, 0, rfl, hP g rfl, (Array.getElem?_eq_some_iff.1 hh).1, fun i hi => ?_⟩⟩
    have h1 : w.ownsRow 0 5 1 (.slice (some ⟨g, 0, none⟩) xs.length cap) xs.length (cl xs) := h.toR
    rw [Nat.zero_add, h1.cellAt i (by omega)]
    exact cl_at xs i hi
theorem OwnB.slice {w : World} {v : Value} {xs : List Nat} (h : OwnB w v xs) : ∃ a cap, v = .slice a xs.length cap ∧ xs.length ≤ cap ∧ cap ≤ maxLen ∧ (a = none → xs = [] ∧ cap = 0) := by
  rcases h.toR.2 with ⟨rfl, h0⟩ | ⟨g, cap, cur, rfl, hg, hh, hn, hc, hs, ht⟩
  · have : xs = [] := List.length_eq_zero_iff.1 h0
    subst this
    exact ⟨none, 0, rfl, Nat.le_refl _, Nat.zero_le _, fun _ => ⟨rfl, rfl⟩⟩
  · exact ⟨_, cap, rfl, hn, hc, by simp⟩
theorem cl_one (xs : List Nat) : ∀ u ∈ cl xs, u.oneCell' = true := by intro u hu; obtain ⟨x, _, rfl⟩ := List.mem_map.1 hu; rfl
theorem ByP.src {P : Nat → Prop} {w : World} {v : Value} {ys : List Nat} (h : ByP P w v ys) : Src w v (cl ys) := by
  obtain ⟨a, cap, rfl, h2, h3, h4, h5, h6, h7⟩ := h
  cases a with
  | none =>
    obtain ⟨rfl, rfl⟩ := h4 rfl
    exact .inl ⟨rfl, rfl⟩
  | some ad =>
    refine .inr ⟨ad, cap, by rw [cl_length], fun j u hj => ?_, cl_one ys⟩
    have hjn : j < ys.length := by
      have := (List.getElem?_eq_some_iff.1 hj).1
      rwa [cl_length] at this
    obtain ⟨g, o, e, _, hb, hc⟩ := h7 (by intro e; subst e; simp at hjn)
    simp only [Option.some.injEq] at e
    subst e
    rw [addr_add, hc j hjn, ← cl_at ys j hjn]
    exact hj

/-! ### Rows of bytes -/
/-- v is a slice of slices of bytes: the rows cs. -/
def LsP (P : Nat → Prop) (w : World) (v : Value) (cs : List (List Nat)) : Prop :=
  ∃ a cap, v = .slice a cs.length cap ∧ cs.length ≤ cap ∧ cap ≤ maxLen ∧ (a = none → cs = [] ∧ cap = 0) ∧ cs.length ≤ 1000000 ∧
    (cs ≠ [] → ∃ g o, a = some ⟨g, o, none⟩ ∧ P g ∧ g < w.heap.size ∧ ∀ i, i < cs.length → ∃ u, w.cell? ⟨g, o + i, none⟩ = some u ∧ ByP P w u (cs.getD i []))
theorem LsP.kp {P : Nat → Prop} {m : List Nat} {w w' : World} {v : Value} {cs : List (List Nat)} (h : LsP P w v cs) (k : Kp m w w') (hm : ∀ x ∈ m, x < w.heap.size → ¬ P x) : LsP P w' v cs := by
  obtain ⟨a, cap, h1, h2, h3, h4, h5, h7⟩ := h
  refine ⟨a, cap, h1, h2, h3, h4, h5, fun hne => ?_⟩
  obtain ⟨g, o, e, hgb, hg, hc⟩ := h7 hne
  refine ⟨g, o, e, hgb, Nat.lt_of_lt_of_le hg k.size, fun i hi => ?_⟩
  obtain ⟨u, hu, hb⟩ := hc i hi
  exact ⟨u, (k.cell (p := ⟨g, o + i, none⟩) hg (fun hx => hm g hx hg hgb)).trans hu, hb.kp k hm⟩
theorem LsP.below {P : Nat → Prop} {w w' : World} {v : Value} {cs : List (List Nat)} (h : LsP P w v cs) (k : Below w.heap.size w w') : LsP P w' v cs := h.kp (m := []) (Kp.below k) (by simp)
theorem LsP.mono {P Q : Nat → Prop} {w : World} {v : Value} {cs : List (List Nat)} (h : LsP P w v cs) (hm : ∀ x, x < w.heap.size → P x → Q x) : LsP Q w v cs := by
  obtain ⟨a, cap, h1, h2, h3, h4, h5, h7⟩ := h
  refine ⟨a, cap, h1, h2, h3, h4, h5, fun hne => ?_⟩
  obtain ⟨g, o, e, hgb, hg, hc⟩ := h7 hne
  refine ⟨g, o, e, hm g hg hgb, hg, fun i hi => ?_⟩
  obtain ⟨u, hu, hb⟩ := hc i hi
  exact ⟨u, hu, hb.mono hm⟩
theorem LsP.nil (P : Nat → Prop) (w : World) : LsP P w (.slice none 0 0) [] := ⟨_, 0, rfl, Nat.le_refl _, Nat.zero_le _, fun _ => ⟨rfl, rfl⟩, by simp, fun h => absurd rfl h⟩

/-- A row of the call's own, of rows of bytes. -/
def OwnL (P : Nat → Prop) (w : World) (v : Value) (cs : List (List Nat)) : Prop :=
  ∃ vals, Row w 25 v vals ∧ vals.length = cs.length ∧ (∀ i, i < cs.length → ∃ u, vals[i]? = some u ∧ ByP P w u (cs.getD i [])) ∧ ∀ k, v.ownBlock = some k → P k
theorem OwnL.nil (P : Nat → Prop) (w : World) : OwnL P w (.slice none 0 0) [] := ⟨[], Row.nil _ _, rfl, fun i hi => by simp at hi, fun k hk => by simp [Value.ownBlock] at hk⟩
theorem OwnL.kp {P : Nat → Prop} {m : List Nat} {w w' : World} {v : Value} {cs : List (List Nat)} (h : OwnL P w v cs) (k : Kp m w w') (hm : ∀ x ∈ m, x < w.heap.size → ¬ P x) : OwnL P w' v cs := by
  obtain ⟨vals, h1, h2, h3, h4⟩ := h
  refine ⟨vals, h1.kp k (fun x hx hm' => hm x hm' (h1.lt x hx) (h4 x hx)), h2, fun i hi => ?_, h4⟩
  obtain ⟨u, hu, hb⟩ := h3 i hi
  exact ⟨u, hu, hb.kp k hm⟩
theorem OwnL.mono {P Q : Nat → Prop} {w : World} {v : Value} {cs : List (List Nat)} (h : OwnL P w v cs) (hm : ∀ x, x < w.heap.size → P x → Q x) : OwnL Q w v cs := by
  obtain ⟨vals, h1, h2, h3, h4⟩ := h
  refine ⟨vals, h1, h2, fun i hi => ?_, fun k hk => hm k (h1.lt k hk) (h4 k hk)⟩
  obtain ⟨u, hu, hb⟩ := h3 i hi
  exact ⟨u, hu, hb.mono hm⟩
theorem OwnL.ls {P : Nat → Prop} {w : World} {v : Value} {cs : List (List Nat)} (h : OwnL P w v cs) (hl : cs.length ≤ 1000000) : LsP P w v cs := by
  obtain ⟨vals, h1, h2, h3, h4⟩ := h
  have h0 := h1
  rcases h1.2 with ⟨rfl, e⟩ | ⟨g, cap, cur, rfl, hb, hgg, hn, hc, hs, ht⟩
  · have : cs = [] := List.length_eq_zero_iff.1 (by omega)
    subst this
    exact LsP.nil _ _
  · refine ⟨_, cap, by rw [← h2], by omega, hc, by simp, hl, fun _ => ⟨g, 0, rfl, h4 g rfl, (Array.getElem?_eq_some_iff.1 hgg).1, fun i hi => ?_⟩⟩
    obtain ⟨u, hu, hb⟩ := h3 i hi
    have h1' : w.ownsRow 0 25 1 (.slice (some ⟨g, 0, none⟩) vals.length cap) vals.length vals := h0
    exact ⟨u, by rw [Nat.zero_add, h1'.cellAt i (by omega), hu], hb⟩
/-- One more. -/
theorem OwnL.snoc {P : Nat → Prop} {w' : World} {v' u : Value} {cs : List (List Nat)} {c : List Nat} {vals : List Value} (h1 : Row w' 25 v' (vals ++ [u])) (h2 : vals.length = cs.length)
    (h3 : ∀ i, i < cs.length → ∃ u, vals[i]? = some u ∧ ByP P w' u (cs.getD i [])) (hu : ByP P w' u c) (hv : ∀ k, v'.ownBlock = some k → P k) : OwnL P w' v' (cs ++ [c]) := by
  refine ⟨vals ++ [u], h1, by simp [h2], fun i hi => ?_, hv⟩
  by_cases e : i < cs.length
  · obtain ⟨x, hx, hb⟩ := h3 i e
    refine ⟨x, ?_, ?_⟩
    · rw [List.getElem?_append_left (by omega)]; exact hx
    · rw [List.getD_eq_getElem?_getD, List.getElem?_append_left e, ← List.getD_eq_getElem?_getD]; exact hb
  · have hi' : i = cs.length := by simp at hi; omega
    subst hi'
    refine ⟨u, ?_, ?_⟩
    · rw [List.getElem?_append_right (by omega), h2]; simp
    · rw [List.getD_eq_getElem?_getD, List.getElem?_append_right (by omega)]; simpa using hu

end Go.Proofs.YtinijgkkmfdfiaaDoor
