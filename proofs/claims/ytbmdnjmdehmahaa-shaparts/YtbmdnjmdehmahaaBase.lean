/-
  How words, bytes and an engine lie in memory; what stays as it was; what the parts of sync.Once and sync/atomic do.
-/
import Derived.Test.YtbmdnjmdehmahaaRows
import Derived.Test.YtbmdnjmdehmahaaPlain
import Derived.WalkKit
import Derived.WalkSpells
import Derived.WalkLawsBesides
import Derived.Laws.AppendOwnNone
import Derived.Laws.NewBlocks
import Derived.Laws.LoneSync
import Derived.Laws.BitsAll
import Derived.RegionCalls
import Derived.Defers
import Derived.Deep.QuietTactic
import Derived.BigQuiet
import Derived.Deep.MidRow
namespace Go.Proofs.Ytbmdnjmdehmahaa
open Go.RowKit

theorem hid {p : Prop} (h : p) : Hid p := h

/-! ### Rows of words and of bytes -/
/-- Words as cells. -/
def u32s (ws : List Nat) : List Value := ws.map fun x : Nat => .int .u32 (x : Int)
/-- Bytes as cells. -/
def u8s (bs : List Nat) : List Value := bs.map fun x : Nat => .int .u8 (x : Int)
theorem u32s_length (ws : List Nat) : (u32s ws).length = ws.length := by simp [u32s]
theorem u8s_length (bs : List Nat) : (u8s bs).length = bs.length := by simp [u8s]
theorem u32s_at (ws : List Nat) (i : Nat) (h : i < ws.length) : (u32s ws)[i]? = some (.int .u32 ((ws.getD i 0 : Nat) : Int)) := by simp [u32s, List.getElem?_eq_getElem h]
theorem u8s_at (bs : List Nat) (i : Nat) (h : i < bs.length) : (u8s bs)[i]? = some (.int .u8 ((bs.getD i 0 : Nat) : Int)) := by simp [u8s, List.getElem?_eq_getElem h]
theorem u32s_one (ws : List Nat) : ∀ v ∈ u32s ws, v.oneCell' = true := by intro v hv; obtain ⟨x, _, rfl⟩ := List.mem_map.1 hv; rfl
theorem u8s_one (bs : List Nat) : ∀ v ∈ u8s bs, v.oneCell' = true := by intro v hv; obtain ⟨x, _, rfl⟩ := List.mem_map.1 hv; rfl
theorem u32s_append (a b : List Nat) : u32s (a ++ b) = u32s a ++ u32s b := by simp [u32s]
theorem u8s_append (a b : List Nat) : u8s (a ++ b) = u8s a ++ u8s b := by simp [u8s]

/-- Bytes lie at g, o. -/
def BytesAt (w : World) (g o : Nat) (bs : List Nat) : Prop := ∀ i, i < bs.length → w.cell? ⟨g, o + i, none⟩ = some (.int .u8 ((bs.getD i 0 : Nat) : Int))

theorem WordsAt.range {w : World} {g o : Nat} {ws : List Nat} (h : WordsAt w g o ws) : w.rangeAt g o (u32s ws) := by
  intro j v hv
  have hj : j < ws.length := by have := (List.getElem?_eq_some_iff.1 hv).1; rwa [u32s_length] at this
  rw [h j hj, ← u32s_at ws j hj, hv]
theorem BytesAt.range {w : World} {g o : Nat} {bs : List Nat} (h : BytesAt w g o bs) : w.rangeAt g o (u8s bs) := by
  intro j v hv
  have hj : j < bs.length := by have := (List.getElem?_eq_some_iff.1 hv).1; rwa [u8s_length] at this
  rw [h j hj, ← u8s_at bs j hj, hv]
theorem WordsAt.of_range {w : World} {g o : Nat} {ws : List Nat} (h : w.rangeAt g o (u32s ws)) : WordsAt w g o ws := fun i hi => h i _ (u32s_at ws i hi)
theorem BytesAt.of_range {w : World} {g o : Nat} {bs : List Nat} (h : w.rangeAt g o (u8s bs)) : BytesAt w g o bs := fun i hi => h i _ (u8s_at bs i hi)

theorem BytesAt.set {w : World} {g o : Nat} {bs : List Nat} (h : BytesAt w g o bs) (i x : Nat) (hi : i < bs.length) : BytesAt (w.setCell ⟨g, o + i, none⟩ (.int .u8 ((x : Nat) : Int))) g o (bs.set i x) := by
  intro j hj
  rw [List.length_set] at hj
  by_cases e : j = i
  · subst e
    rw [World.cell?_setCell_same _ _ _ (h j hj), List.getD_eq_getElem?_getD]
    simp [hj]
  · rw [World.cell?_setCell_other _ _ _ _ (by simp only [ne_eq, Addr.mk.injEq, true_and, and_true]; omega), h j hj, List.getD_eq_getElem?_getD, List.getD_eq_getElem?_getD, List.getElem?_set_ne (by omega)]

/-- A block that is known whole, of words. -/
theorem WordsAt.of_block {w : World} {g : Nat} {ws : List Nat} {t : TypeId} (h : w.heap[g]? = some (.cells (u32s ws).toArray t)) : WordsAt w g 0 ws := fun i hi => by
  rw [Nat.zero_add, cell_of_row w g i _ t (0, 0) h]
  simpa using u32s_at ws i hi
theorem BytesAt.of_block {w : World} {g : Nat} {bs : List Nat} {t : TypeId} (h : w.heap[g]? = some (.cells (u8s bs).toArray t)) : BytesAt w g 0 bs := fun i hi => by
  rw [Nat.zero_add, cell_of_row w g i _ t (0, 0) h]
  simpa using u8s_at bs i hi

/-! ### What stays as it was -/
/-- All blocks that are not in l hold what they held. -/
structure Kp (l : List Nat) (w w' : World) : Prop where
  os : w'.os = w.os
  tape : w'.tape = w.tape
  output : w'.output = w.output
  size : w.heap.size ≤ w'.heap.size
  block : ∀ k, k < w.heap.size → k ∉ l → w'.heap[k]? = w.heap[k]?

theorem Kp.refl (l : List Nat) (w : World) : Kp l w w := ⟨rfl, rfl, rfl, Nat.le_refl _, fun _ _ _ => rfl⟩
theorem Kp.trans {l : List Nat} {u v w : World} (h : Kp l u v) (k : Kp l v w) : Kp l u w := ⟨k.os.trans h.os, k.tape.trans h.tape, k.output.trans h.output, Nat.le_trans h.size k.size, fun i h1 h2 => (k.block i (Nat.lt_of_lt_of_le h1 h.size) h2).trans (h.block i h1 h2)⟩
theorem Kp.mono {l m : List Nat} {u w : World} (h : Kp l u w) (hs : ∀ x ∈ l, x ∈ m ∨ u.heap.size ≤ x) : Kp m u w := ⟨h.os, h.tape, h.output, h.size, fun k hk hm => h.block k hk (fun hl => by
  rcases hs k hl with h1 | h1
  · exact hm h1
  · omega)⟩
theorem Kp.below {l : List Nat} {u w : World} (h : Below u.heap.size u w) : Kp l u w := ⟨h.os, h.tape, h.output, h.size, fun k hk _ => h.block k hk⟩
theorem Kp.alloc {l : List Nat} {u w : World} (h : Kp l u w) (o : Obj) : Kp l u (w.alloc o) := h.trans (Kp.below ((Below.refl _ _).alloc (Nat.le_refl _) _))
theorem Kp.setCell {l : List Nat} {u w : World} (h : Kp l u w) {p : Addr} (hp : p.block ∈ l ∨ u.heap.size ≤ p.block) (x : Value) : Kp l u (w.setCell p x) :=
  ⟨h.os, h.tape, h.output, by simpa using h.size, fun k h1 h2 => (Below.heap_setCell _ _ _ _ (by
    intro e
    rcases hp with hp | hp
    · exact h2 (e ▸ hp)
    · omega)).trans (h.block k h1 h2)⟩
theorem Kp.drew {l : List Nat} {u w : World} (h : Kp l u w) : Kp l u w.drew := ⟨h.os, h.tape, h.output, h.size, h.block⟩
theorem Kp.drewN {l : List Nat} {u w : World} (h : Kp l u w) (q : Nat) : Kp l u (w.drewN q) := h.trans (Kp.below (below_drewN (Below.refl _ _) q))
theorem Kp.cell {l : List Nat} {w w' : World} (h : Kp l w w') {p : Addr} (h1 : p.block < w.heap.size) (h2 : p.block ∉ l) : w'.cell? p = w.cell? p := World.cell?_of_block (w := w) (h.block p.block h1 h2)
theorem Kp.frozen {l : List Nat} {w w' : World} (h : Kp l w w') {p : Addr} (h1 : p.block < w.heap.size) (h2 : p.block ∉ l) : w'.frozen? p = w.frozen? p := World.frozen?_of_block (w := w) (h.block p.block h1 h2)
/-- Blocks that were not there yet. -/
theorem Kp.toBelow {l : List Nat} {u w : World} (k : Kp l u w) (hb : ∀ x ∈ l, u.heap.size ≤ x) : Below u.heap.size u w :=
  ⟨k.os, k.tape, k.output, k.size, fun i hi => k.block i hi (fun hm => by have := hb i hm; omega)⟩
theorem Kp.words {l : List Nat} {w w' : World} {g o : Nat} {ws : List Nat} (k : Kp l w w') (h : WordsAt w g o ws) (hg : g < w.heap.size) (hl : g ∉ l) : WordsAt w' g o ws := fun i hi => (k.cell (p := ⟨g, o + i, none⟩) hg hl).trans (h i hi)
theorem Kp.bytes {l : List Nat} {w w' : World} {g o : Nat} {bs : List Nat} (k : Kp l w w') (h : BytesAt w g o bs) (hg : g < w.heap.size) (hl : g ∉ l) : BytesAt w' g o bs := fun i hi => (k.cell (p := ⟨g, o + i, none⟩) hg hl).trans (h i hi)
theorem Kp.setCells {l : List Nat} {u w : World} (h : Kp l u w) {g : Nat} (hp : g ∈ l ∨ u.heap.size ≤ g) : ∀ (vs : List Value) (o : Nat), Kp l u (w.setCells g o vs) := by
  intro vs
  induction vs generalizing w with
  | nil => intro o; exact h
  | cons v r ih => intro o; rw [World.setCells]; exact ih (h.setCell (p := ⟨g, o, none⟩) hp v) (o + 1)

/-! ### sync.Once and sync/atomic -/
theorem disable (w : World) : (callFunc 76 #[]).run Try.prog w = .ok (.value (.tuple #[])) w := run_call_mark0 Try.func76 (by kernel_rfl) (by kernel_rfl) (by kernel_rfl) .disable (by kernel_rfl) w
theorem enable (w : World) : (callFunc 78 #[]).run Try.prog w = .ok (.value (.tuple #[])) w := run_call_mark0 Try.func78 (by kernel_rfl) (by kernel_rfl) (by kernel_rfl) .enable (by kernel_rfl) w
theorem acquire (a : Addr) (w : World) : (callFunc 79 #[.pointer (some a)]).run Try.prog w = .ok (.value (.tuple #[])) w := run_call_marked Try.func79 (by kernel_rfl) (by kernel_rfl) (by kernel_rfl) .acquire (by kernel_rfl) a w
theorem releaseMerge (a : Addr) (w : World) : (callFunc 81 #[.pointer (some a)]).run Try.prog w = .ok (.value (.tuple #[])) w := run_call_marked Try.func81 (by kernel_rfl) (by kernel_rfl) (by kernel_rfl) .releaseMerge (by kernel_rfl) a w

set_option maxRecDepth 100000 in
/-- The flag is stored, by a deferred call. -/
theorem store_deferred (a : Addr) (x : Value) (u : FrameMode) (w : World) (hc : w.cell? a = some x) (hz : w.frozen? a = false) :
    CallsD Try.prog 65 #[.pointer (some a), .bool true] u w fun e u' w' => u' = u ∧ (e = .returned (.tuple #[]) ∧ w' = w.drew.setCell a (.int .u32 1)) := by
  have hc' : w.drew.cell? a = some x := by go_simp
  have hz' : w.drew.frozen? a = false := by go_simp
  have hst := run_call_store (P := Try.prog) Try.func73 (by kernel_rfl) (by kernel_rfl) (by kernel_rfl) (by kernel_rfl) (k := .u32) (y := 1) hc' hz'
  go_enter_d Try.func65, Try.ntmps65
  go_wp2
  go_region_calls
  all_goals (go_end0; exact ⟨rfl, rfl⟩)

set_option maxRecDepth 100000 in
/-- The lock is let go, by a deferred call. -/
theorem unlock_deferred (a : Addr) (u : FrameMode) (w : World) (hc : w.cell? a = some (.int .i32 1)) (hz : w.frozen? a = false) :
    CallsD Try.prog 64 #[.pointer (some a)] u w fun e u' w' => u' = u ∧ (e = .returned (.tuple #[]) ∧ w' = w.setCell a (.int .i32 0)) := by
  have hd := disable
  have he := enable
  have hr := releaseMerge
  have hadd := run_call_add (P := Try.prog) Try.func82 (by kernel_rfl) (by kernel_rfl) (by kernel_rfl) .i32 (by kernel_rfl) (y := -1) (s := 0) hc hz (by simp [go_sem]; rfl)
  have hcv := run_convert_to_unsafe (P := Try.prog) (src := 130) (dst := 117) Try.underlying130 Try.underlying117 (by kernel_rfl) hc
  go_enter_d Try.func64, Try.ntmps64
  go_wp2
  go_end0
  go_wp2
  go_end0
  exact ⟨rfl, rfl⟩

set_option maxRecDepth 100000 in
/-- The lock, free, is taken. -/
theorem lock_free (a : Addr) (w : World) (hc : w.cell? a = some (.int .i32 0)) (hz : w.frozen? a = false) :
    Calls Try.prog 63 #[.pointer (some a)] w fun e w' => e = .returned (.tuple #[]) ∧ w' = w.setCell a (.int .i32 1) := by
  have hd := disable
  have he := enable
  have ha := acquire
  have hcas := run_call_cas_hit (P := Try.prog) Try.func77 (by kernel_rfl) (by kernel_rfl) (by kernel_rfl) .i32 (by kernel_rfl) (y := 1) hc hz
  have hc' : (w.setCell a (.int .i32 1)).cell? a = some (.int .i32 1) := World.cell?_setCell_same w a _ hc
  have hcv := run_convert_to_unsafe (P := Try.prog) (src := 130) (dst := 117) Try.underlying130 Try.underlying117 (by kernel_rfl) hc'
  go_enter Try.func63, Try.ntmps63
  go_wp2
  first | go_end0 | (simp only [Exit.inBlock, Exit.then]; refine bodyPost_ret (results_none rfl _ _ _) rfl ?_) | refine bodyPost_ret (results_none rfl _ _ _) rfl ?_
  go_wp2
  go_end0
  exact ⟨rfl, rfl⟩

set_option maxRecDepth 100000 in
/-- '(*sync.Once).Do', done already. -/
theorem do_done (a : Addr) (fv : Value) (w : World) (h0 : w.cell? a = some (.int .u32 1)) :
    Calls Try.prog 44 #[.pointer (some a), fv] w fun e w' => e = .returned (.tuple #[]) ∧ w' = w := by
  have hl := run_call_load (P := Try.prog) Try.func62 (by kernel_rfl) (by kernel_rfl) (by kernel_rfl) .u32 (by kernel_rfl) h0
  have hnot : ∀ (x : Bool) (w : World), (Op.unary .not (.bool x)).run Try.prog w = .ok (.bool (!x)) w := fun _ _ => rfl
  have hd' : ((1 : Int) != 0) = true := by decide
  go_enter Try.func44, Try.ntmps44
  go_wp2
  go_end0
  exact ⟨rfl, rfl⟩

set_option maxRecDepth 100000 in
/-- A number is counted up. -/
theorem add_any (a : Addr) (n d : Int) (w : World) (hc : w.cell? a = some (.int .i64 n)) (hz : w.frozen? a = false) :
    Calls Try.prog 41 #[.pointer (some a), .int .i64 d] w fun e w' => e = .returned (.int .i64 (wrap64 (n + d))) ∧ w' = w.setCell a (.int .i64 (wrap64 (n + d))) := by
  have hadd := run_call_add (P := Try.prog) Try.func50 (by kernel_rfl) (by kernel_rfl) (by kernel_rfl) .i64 (by kernel_rfl) (y := d) (s := wrap64 (n + d)) hc hz (by simp [go_sem, wrap64, IntKind.wrap_i64])
  go_enter Try.func41, Try.ntmps41
  go_wp2
  go_ret
  exact ⟨rfl, rfl⟩

end Go.Proofs.Ytbmdnjmdehmahaa
