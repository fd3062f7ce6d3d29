/-
  How a table and bytes lie in memory; what the parts of sync.Once and sync/atomic do, and step.
-/
import Derived.Test.YthbhdbjjobfchaaRows
import Derived.Test.YthbhdbjjobfchaaCrcPlain
import Derived.WalkKit
import Derived.WalkSpells
import Derived.WalkLawsBesides
import Derived.Laws.AppendOwnNone
import Derived.Laws.NewBlocks
import Derived.Laws.LoneSync
import Derived.Laws.BitsAll
import Derived.RegionCalls
import Derived.Defers
import Derived.Deep.QuietTactic
import Derived.BigQuiet
namespace Go.Proofs.Ythbhdbjjobfchaa.Crc
open Go.RowKit

theorem hid {p : Prop} (h : p) : Hid p := h

theorem disable (w : World) : (callFunc 86 #[]).run Try.prog w = .ok (.value (.tuple #[])) w := run_call_mark0 Try.func86 (by kernel_rfl) (by kernel_rfl) (by kernel_rfl) .disable (by kernel_rfl) w
theorem enable (w : World) : (callFunc 88 #[]).run Try.prog w = .ok (.value (.tuple #[])) w := run_call_mark0 Try.func88 (by kernel_rfl) (by kernel_rfl) (by kernel_rfl) .enable (by kernel_rfl) w
theorem acquire (a : Addr) (w : World) : (callFunc 89 #[.pointer (some a)]).run Try.prog w = .ok (.value (.tuple #[])) w := run_call_marked Try.func89 (by kernel_rfl) (by kernel_rfl) (by kernel_rfl) .acquire (by kernel_rfl) a w
theorem releaseMerge (a : Addr) (w : World) : (callFunc 91 #[.pointer (some a)]).run Try.prog w = .ok (.value (.tuple #[])) w := run_call_marked Try.func91 (by kernel_rfl) (by kernel_rfl) (by kernel_rfl) .releaseMerge (by kernel_rfl) a w

set_option maxRecDepth 100000 in
/-- The flag is stored, by a deferred call. -/
theorem store_deferred (a : Addr) (x : Value) (u : FrameMode) (w : World) (hc : w.cell? a = some x) (hz : w.frozen? a = false) :
    CallsD Try.prog 81 #[.pointer (some a), .bool true] u w fun e u' w' => u' = u ∧ (e = .returned (.tuple #[]) ∧ w' = w.drew.setCell a (.int .u32 1)) := by
  have hc' : w.drew.cell? a = some x := by go_simp
  have hz' : w.drew.frozen? a = false := by go_simp
  have hst := run_call_store (P := Try.prog) Try.func84 (by kernel_rfl) (by kernel_rfl) (by kernel_rfl) (by kernel_rfl) (k := .u32) (y := 1) hc' hz'
  go_enter_d Try.func81, Try.ntmps81
  go_wp2
  go_region_calls
  all_goals (go_end0; exact ⟨rfl, rfl⟩)

set_option maxRecDepth 100000 in
/-- The lock is let go, by a deferred call. -/
theorem unlock_deferred (a : Addr) (u : FrameMode) (w : World) (hc : w.cell? a = some (.int .i32 1)) (hz : w.frozen? a = false) :
    CallsD Try.prog 80 #[.pointer (some a)] u w fun e u' w' => u' = u ∧ (e = .returned (.tuple #[]) ∧ w' = w.setCell a (.int .i32 0)) := by
  have hd := disable
  have he := enable
  have hr := releaseMerge
  have hadd := run_call_add (P := Try.prog) Try.func92 (by kernel_rfl) (by kernel_rfl) (by kernel_rfl) .i32 (by kernel_rfl) (y := -1) (s := 0) hc hz (by simp [go_sem]; rfl)
  have hcv := run_convert_to_unsafe (P := Try.prog) (src := 162) (dst := 166) Try.underlying162 Try.underlying166 (by kernel_rfl) hc
  go_enter_d Try.func80, Try.ntmps80
  go_wp2
  go_end0
  go_wp2
  go_end0
  exact ⟨rfl, rfl⟩

set_option maxRecDepth 100000 in
/-- The lock, free, is taken. -/
theorem lock_free (a : Addr) (w : World) (hc : w.cell? a = some (.int .i32 0)) (hz : w.frozen? a = false) :
    Calls Try.prog 79 #[.pointer (some a)] w fun e w' => e = .returned (.tuple #[]) ∧ w' = w.setCell a (.int .i32 1) := by
  have hd := disable
  have he := enable
  have ha := acquire
  have hcas := run_call_cas_hit (P := Try.prog) Try.func87 (by kernel_rfl) (by kernel_rfl) (by kernel_rfl) .i32 (by kernel_rfl) (y := 1) hc hz
  have hc' : (w.setCell a (.int .i32 1)).cell? a = some (.int .i32 1) := World.cell?_setCell_same w a _ hc
  have hcv := run_convert_to_unsafe (P := Try.prog) (src := 162) (dst := 166) Try.underlying162 Try.underlying166 (by kernel_rfl) hc'
  go_enter Try.func79, Try.ntmps79
  go_wp2
  first | go_end0 | (simp only [Exit.inBlock, Exit.then]; refine bodyPost_ret (results_none rfl _ _ _) rfl ?_) | refine bodyPost_ret (results_none rfl _ _ _) rfl ?_
  go_wp2
  go_end0
  exact ⟨rfl, rfl⟩

theorem and_one (r : Nat) (hr : r < 4294967296) : bits .and .u32 (r : Int) 1 = ((r % 2 : Nat) : Int) := by
  have h := u32_and_nat r 1 hr (by decide)
  rw [Nat.and_one_is_mod] at h
  exact h
theorem xor_div (r : Nat) (hr : r < 4294967296) : bits .xor .u32 ((r : Int) / 2) 2197175160 = ((r / 2 ^^^ 2197175160 : Nat) : Int) := by
  have h := u32_xor_nat (r / 2) 2197175160 (by omega) (by decide)
  rw [← h]
  rfl

/-- step. -/
theorem step_any (r : Nat) (hr : r < 4294967296) (w : World) :
    Calls Try.prog 74 #[.int .u32 r] w fun e w' => e = .returned (.int .u32 (stp r : Nat)) ∧ w' = w := by
  have h1 := and_one r hr
  have h2 := xor_div r hr
  by_cases h : r % 2 = 1
  · have hb : (bits .and .u32 (r : Int) 1 != 0) = true := by rw [h1, h]; rfl
    clear h1
    go_enter Try.func74, Try.ntmps74
    go_wp2
    go_ret
    refine ⟨?_, rfl⟩
    rw [stp, if_pos h]
    rfl
  · have hb : (bits .and .u32 (r : Int) 1 != 0) = false := by rw [h1, show r % 2 = 0 by omega]; rfl
    clear h1 h2
    go_enter Try.func74, Try.ntmps74
    go_wp2
    go_ret
    refine ⟨?_, rfl⟩
    rw [stp, if_neg h]
    rfl

/-- '(*sync.Once).Do', done already. -/
theorem do_done (a : Addr) (fv : Value) (w : World) (h0 : w.cell? a = some (.int .u32 1)) :
    Calls Try.prog 67 #[.pointer (some a), fv] w fun e w' => e = .returned (.tuple #[]) ∧ w' = w := by
  have hl := run_call_load (P := Try.prog) Try.func78 (by kernel_rfl) (by kernel_rfl) (by kernel_rfl) .u32 (by kernel_rfl) h0
  have hnot : ∀ (x : Bool) (w : World), (Op.unary .not (.bool x)).run Try.prog w = .ok (.bool (!x)) w := fun _ _ => rfl
  have hd' : ((1 : Int) != 0) = true := by decide
  go_enter Try.func67, Try.ntmps67
  go_wp2
  go_end0
  exact ⟨rfl, rfl⟩

/-- All blocks but b hold what they held. -/
structure Kept (b : Nat) (w w' : World) : Prop where
  os : w'.os = w.os
  tape : w'.tape = w.tape
  output : w'.output = w.output
  size : w.heap.size ≤ w'.heap.size
  block : ∀ k, k < w.heap.size → k ≠ b → w'.heap[k]? = w.heap[k]?

theorem Kept.refl (b : Nat) (w : World) : Kept b w w := ⟨rfl, rfl, rfl, Nat.le_refl _, fun _ _ _ => rfl⟩
theorem Kept.trans {b : Nat} {u v w : World} (h : Kept b u v) (k : Kept b v w) : Kept b u w := ⟨k.os.trans h.os, k.tape.trans h.tape, k.output.trans h.output, Nat.le_trans h.size k.size, fun i h1 h2 => (k.block i (Nat.lt_of_lt_of_le h1 h.size) h2).trans (h.block i h1 h2)⟩
theorem Kept.below {b : Nat} {u w : World} (h : Below u.heap.size u w) : Kept b u w := ⟨h.os, h.tape, h.output, h.size, fun k hk _ => h.block k hk⟩
theorem Kept.alloc {b : Nat} {u w : World} (h : Kept b u w) (o : Obj) : Kept b u (w.alloc o) := h.trans (Kept.below ((Below.refl _ _).alloc (Nat.le_refl _) _))
theorem Kept.setCell {b : Nat} {u w : World} (h : Kept b u w) {p : Addr} (hp : p.block = b) (x : Value) : Kept b u (w.setCell p x) := h.trans ⟨rfl, rfl, rfl, by simp, fun k _ hk => Below.heap_setCell _ _ _ _ (by omega)⟩
theorem Kept.drew {b : Nat} {u w : World} (h : Kept b u w) : Kept b u w.drew := ⟨h.os, h.tape, h.output, h.size, h.block⟩
theorem Kept.drewN {b : Nat} {u w : World} (h : Kept b u w) (q : Nat) : Kept b u (w.drewN q) := h.trans (Kept.below (below_drewN (Below.refl _ _) q))
theorem Kept.cell {b : Nat} {w w' : World} (h : Kept b w w') {p : Addr} (h1 : p.block < w.heap.size) (h2 : p.block ≠ b) : w'.cell? p = w.cell? p := World.cell?_of_block (w := w) (h.block p.block h1 h2)
theorem Kept.frozen {b : Nat} {w w' : World} (h : Kept b w w') {p : Addr} (h1 : p.block < w.heap.size) (h2 : p.block ≠ b) : w'.frozen? p = w.frozen? p := World.frozen?_of_block (w := w) (h.block p.block h1 h2)
/-- A block that was not there yet. -/
theorem Kept.toBelow {b : Nat} {u v w : World} (h : Below u.heap.size u v) (k : Kept b v w) (hb : u.heap.size ≤ b) : Below u.heap.size u w :=
  h.trans ⟨k.os, k.tape, k.output, k.size, fun i hi => k.block i (Nat.lt_of_lt_of_le hi h.size) (by omega)⟩

/-- The rows of a table up to i are filled. -/
def Filled (b : Nat) (w wr : World) (i : Nat) : Prop :=
  Kept b w wr ∧ wr.heap.size = w.heap.size ∧ (∀ j, j < i → wr.cell? ⟨b, 3 + j, none⟩ = some (.int .u32 (stps 8 j : Nat))) ∧ (∀ j, j < 3 ∨ 3 + i ≤ j → wr.cell? ⟨b, j, none⟩ = w.cell? ⟨b, j, none⟩) ∧
    ∀ j, wr.frozen? ⟨b, j, none⟩ = w.frozen? ⟨b, j, none⟩

theorem Filled.next {b i : Nat} {w wr : World} (h : Filled b w wr i) (x : Value) (hx : w.cell? ⟨b, 3 + i, none⟩ = some x) : Filled b w (wr.setCell ⟨b, 3 + i, none⟩ (.int .u32 (stps 8 i : Nat))) (i + 1) := by
  obtain ⟨h1, h2, h3, h4, h5⟩ := h
  refine ⟨h1.setCell rfl _, by simpa using h2, fun j hj => ?_, fun j hj => ?_, fun j => by simpa using h5 j⟩
  · by_cases e : j = i
    · subst e
      exact World.cell?_setCell_same _ _ _ ((h4 _ (.inr (Nat.le_refl _))).trans hx)
    · rw [World.cell?_setCell_other _ _ _ _ (by simp only [ne_eq, Addr.mk.injEq, true_and, and_true]; omega)]
      exact h3 j (by omega)
  · rw [World.cell?_setCell_other _ _ _ _ (by simp only [ne_eq, Addr.mk.injEq, true_and, and_true]; omega)]
    exact h4 j (by omega)

set_option maxHeartbeats 1000000 in
set_option maxRecDepth 100000 in
theorem fill_any (b : Nat) (w : World) (hc : ∀ j, j < 256 → ∃ x, w.cell? ⟨b, 3 + j, none⟩ = some x) (hf : ∀ j, w.frozen? ⟨b, j, none⟩ = false) :
    Calls Try.prog 68 #[.pointer (some ⟨b, 0, none⟩)] w fun e w' => e = .returned (.tuple #[]) ∧ Filled b w w' 256 := by
  have HC := hid hc
  have HF := hid hf
  clear hc hf
  go_enter Try.func68, Try.ntmps68
  go_wp2
  go_loopw [4] (fun i wr => ∃ k : Nat, k ≤ 256 ∧ i = .int .i64 k ∧ Hid (Filled b w wr k)) (fun i _ => 256 - (intOf i).toNat)
  case atStart => exact ⟨0, by omega, rfl, Kept.refl _ _, rfl, by omega, fun _ _ => rfl, fun _ => rfl⟩
  case round =>
    obtain ⟨k, hk, rfl, H⟩ := hrel
    by_cases hlt : k < 256
    · obtain ⟨x, hx⟩ := HC.out k hlt
      have c1 := (H.out.2.2.2.1 (3 + k) (.inr (Nat.le_refl _))).trans hx
      have f1 := (H.out.2.2.2.2 (3 + k)).trans (HF.out _)
      have hlt1 : (k : Int) < 256 := by omega
      go_wp2
      go_loopw [3, 9] (fun r i w2 => ∃ m : Nat, m ≤ 8 ∧ i = .int .i64 m ∧ r = .int .u32 (stps m k : Nat) ∧ w2 = wr) (fun _ i _ => 8 - (intOf i).toNat)
      case atStart => exact ⟨0, by omega, rfl, rfl, rfl⟩
      case round =>
        obtain ⟨m, hm, rfl, rfl, hw2⟩ := hrel
        subst hw2
        by_cases hlt8 : m < 8
        · have hl := stps_lt m (r := k) (by omega)
          have e := stps_succ m k
          generalize stps m k = r at *
          go_wp2_with (go_at_call 74; refine (step_any _ hl _).mono ?_; rintro e w2 ⟨rfl, h2⟩; subst w2)
          go_roundw
          case rel => exact ⟨m + 1, by omega, by go_num, by rw [e], trivial⟩
          case measure => simp [intOf]; omega
        · have : m = 8 := by omega
          subst this
          go_wp2
          go_roundw
          case rel => exact ⟨k + 1, by omega, by go_num, H.out.next x hx⟩
          case measure => simp [intOf]; omega
    · have : k = 256 := by omega
      subst this
      go_wp2
      go_end0
      exact ⟨rfl, H.out⟩

end Go.Proofs.Ythbhdbjjobfchaa.Crc
