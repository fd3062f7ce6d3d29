/-
  What the parts of sync.Once and sync/atomic do; the row of a byte; what may change.
-/
import Derived.Test.YtinijgkkmfdfiaaDoorRows
import Derived.Test.YtinijgkkmfdfiaaDoorPlain
import Derived.WalkKit
import Derived.WalkSpells
import Derived.WalkLawsBesides
import Derived.Laws.AppendOwnNone
import Derived.Laws.NewBlocks
import Derived.Laws.LoneSync
import Derived.Laws.BitsAll
import Derived.RegionCalls
import Derived.Defers
import Derived.Deep.QuietTactic
import Derived.BigQuiet
namespace Go.Proofs.YtinijgkkmfdfiaaDoor
open Go.RowKit

theorem hid {p : Prop} (h : p) : Hid p := h

theorem mixA_i (s c : Nat) : IntKind.u64.wrap ((s : Int) + IntKind.u64.wrap (((c : Int) + 1) * 11400714819323198485)) = ((mixA s c : Nat) : Int) := by
  rw [IntKind.wrap_u64, IntKind.wrap_u64, mixA, M64]
  omega
theorem xor_i (x d : Nat) (hx : x < M64) : bits .xor .u64 (x : Int) ((x : Int) / (d : Int)) = ((x ^^^ x / d : Nat) : Int) := by
  have h := u64_xor_nat x (x / d) hx (Nat.lt_of_le_of_lt (Nat.div_le_self _ _) hx)
  rw [← h, Int.natCast_ediv]
theorem mixB_i (x : Nat) (hx : x < M64) : IntKind.u64.wrap (bits .xor .u64 (x : Int) ((x : Int) / 1073741824) * 13787848793156543929) = ((mixB x : Nat) : Int) := by
  have h : bits .xor .u64 (x : Int) ((x : Int) / 1073741824) = _ := xor_i x 1073741824 hx
  rw [h, IntKind.wrap_u64, mixB, M64]
  omega
theorem mixC_i (x : Nat) (hx : x < M64) : IntKind.u64.wrap (bits .xor .u64 (x : Int) ((x : Int) / 134217728) * 10723151780598845931) = ((mixC x : Nat) : Int) := by
  have h : bits .xor .u64 (x : Int) ((x : Int) / 134217728) = _ := xor_i x 134217728 hx
  rw [h, IntKind.wrap_u64, mixC, M64]
  omega
theorem mixD_i (x : Nat) (hx : x < M64) : bits .xor .u64 (x : Int) ((x : Int) / 2147483648) = ((mixD x : Nat) : Int) := xor_i x 2147483648 hx

theorem div_i (x : Nat) (hx : x < M64) (d : Int) (hd : 1 ≤ d) : IntKind.u64.wrap ((x : Int) / d) = (x : Int) / d := by
  have h0 : 0 ≤ (x : Int) / d := Int.ediv_nonneg (by omega) (by omega)
  have h1 : (x : Int) / d ≤ x := Int.ediv_le_self _ (by omega)
  have hx' : (x : Int) < 18446744073709551616 := by have : x < 18446744073709551616 := hx; omega
  rw [IntKind.wrap_u64]
  exact Int.emod_eq_of_lt h0 (by omega)

/-- row. -/
theorem row_any (s c : Nat) (_hs : s < M64) (hc : c < 256) (w : World) :
    Calls Tryd.prog 59 #[.int .u64 s, .int .u8 c] w fun e w' => e = .returned (.int .u64 (rowOf s c : Nat)) ∧ w' = w := by
  have hA := mixA_i s c
  have hB := mixB_i (mixA s c) (mixA_lt s c)
  have hC := mixC_i (mixB (mixA s c)) (mixB_lt _)
  have hD := mixD_i (mixC (mixB (mixA s c))) (mixC_lt _)
  have e : Hid (rowOf s c = mixD (mixC (mixB (mixA s c)))) := rfl
  generalize mixA s c = x1 at *
  generalize mixB x1 = x2 at *
  generalize mixC x2 = x3 at *
  generalize mixD x3 = x4 at *
  go_enter Tryd.func59, Tryd.ntmps59
  go_wp2
  go_ret
  exact ⟨by rw [e.out]; rfl, rfl⟩

/-- The reference's. -/
theorem refRow_any (s c : Nat) (_hs : s < M64) (hc : c < 256) (w : World) :
    Calls Tryd.prog 49 #[.int .u64 s, .int .u8 c] w fun e w' => e = .returned (.int .u64 (rowOf s c : Nat)) ∧ w' = w := by
  have hA := mixA_i s c
  have hB := mixB_i (mixA s c) (mixA_lt s c)
  have hC := mixC_i (mixB (mixA s c)) (mixB_lt _)
  have hD := mixD_i (mixC (mixB (mixA s c))) (mixC_lt _)
  have e : Hid (rowOf s c = mixD (mixC (mixB (mixA s c)))) := rfl
  have q1 := div_i (mixA s c) (mixA_lt s c) 1073741824 (by decide)
  have q2 := div_i (mixB (mixA s c)) (mixB_lt _) 134217728 (by decide)
  have q3 := div_i (mixC (mixB (mixA s c))) (mixC_lt _) 2147483648 (by decide)
  generalize mixA s c = x1 at *
  generalize mixB x1 = x2 at *
  generalize mixC x2 = x3 at *
  generalize mixD x3 = x4 at *
  go_enter Tryd.func49, Tryd.ntmps49
  go_wp2
  go_ret
  exact ⟨by rw [e.out]; rfl, rfl⟩

theorem disable (w : World) : (callFunc 68 #[]).run Tryd.prog w = .ok (.value (.tuple #[])) w := run_call_mark0 Tryd.func68 (by kernel_rfl) (by kernel_rfl) (by kernel_rfl) .disable (by kernel_rfl) w
theorem enable (w : World) : (callFunc 70 #[]).run Tryd.prog w = .ok (.value (.tuple #[])) w := run_call_mark0 Tryd.func70 (by kernel_rfl) (by kernel_rfl) (by kernel_rfl) .enable (by kernel_rfl) w
theorem acquire (a : Addr) (w : World) : (callFunc 71 #[.pointer (some a)]).run Tryd.prog w = .ok (.value (.tuple #[])) w := run_call_marked Tryd.func71 (by kernel_rfl) (by kernel_rfl) (by kernel_rfl) .acquire (by kernel_rfl) a w
theorem releaseMerge (a : Addr) (w : World) : (callFunc 73 #[.pointer (some a)]).run Tryd.prog w = .ok (.value (.tuple #[])) w := run_call_marked Tryd.func73 (by kernel_rfl) (by kernel_rfl) (by kernel_rfl) .releaseMerge (by kernel_rfl) a w

/-- The flag is stored, by a deferred call. -/
theorem store_deferred (a : Addr) (x : Value) (u : FrameMode) (w : World) (hc : w.cell? a = some x) (hz : w.frozen? a = false) :
    CallsD Tryd.prog 63 #[.pointer (some a), .bool true] u w fun e u' w' => u' = u ∧ (e = .returned (.tuple #[]) ∧ w' = w.drew.setCell a (.int .u32 1)) := by
  have hc' : w.drew.cell? a = some x := by go_simp
  have hz' : w.drew.frozen? a = false := by go_simp
  have hst := run_call_store (P := Tryd.prog) Tryd.func66 (by kernel_rfl) (by kernel_rfl) (by kernel_rfl) (by kernel_rfl) (k := .u32) (y := 1) hc' hz'
  go_enter_d Tryd.func63, Tryd.ntmps63
  go_wp2
  go_region_calls
  all_goals (go_end0; exact ⟨rfl, rfl⟩)

set_option maxRecDepth 100000 in
/-- The lock is let go, by a deferred call. -/
theorem unlock_deferred (a : Addr) (u : FrameMode) (w : World) (hc : w.cell? a = some (.int .i32 1)) (hz : w.frozen? a = false) :
    CallsD Tryd.prog 62 #[.pointer (some a)] u w fun e u' w' => u' = u ∧ (e = .returned (.tuple #[]) ∧ w' = w.setCell a (.int .i32 0)) := by
  have hd := disable
  have he := enable
  have hr := releaseMerge
  have hadd := run_call_add (P := Tryd.prog) Tryd.func74 (by kernel_rfl) (by kernel_rfl) (by kernel_rfl) .i32 (by kernel_rfl) (y := -1) (s := 0) hc hz (by simp [go_sem]; rfl)
  have hcv := run_convert_to_unsafe (P := Tryd.prog) (src := 111) (dst := 115) Tryd.underlying111 Tryd.underlying115 (by kernel_rfl) hc
  go_enter_d Tryd.func62, Tryd.ntmps62
  go_wp2
  go_end0
  go_wp2
  go_end0
  exact ⟨rfl, rfl⟩

set_option maxRecDepth 100000 in
/-- The lock, free, is taken. -/
theorem lock_free (a : Addr) (w : World) (hc : w.cell? a = some (.int .i32 0)) (hz : w.frozen? a = false) :
    Calls Tryd.prog 61 #[.pointer (some a)] w fun e w' => e = .returned (.tuple #[]) ∧ w' = w.setCell a (.int .i32 1) := by
  have hd := disable
  have he := enable
  have ha := acquire
  have hcas := run_call_cas_hit (P := Tryd.prog) Tryd.func69 (by kernel_rfl) (by kernel_rfl) (by kernel_rfl) .i32 (by kernel_rfl) (y := 1) hc hz
  have hc' : (w.setCell a (.int .i32 1)).cell? a = some (.int .i32 1) := World.cell?_setCell_same w a _ hc
  have hcv := run_convert_to_unsafe (P := Tryd.prog) (src := 111) (dst := 115) Tryd.underlying111 Tryd.underlying115 (by kernel_rfl) hc'
  go_enter Tryd.func61, Tryd.ntmps61
  go_wp2
  first | go_end0 | (simp only [Exit.inBlock, Exit.then]; refine bodyPost_ret (results_none rfl _ _ _) rfl ?_) | refine bodyPost_ret (results_none rfl _ _ _) rfl ?_
  go_wp2
  go_end0
  exact ⟨rfl, rfl⟩

/-- '(*sync.Once).Do', done already. -/
theorem do_done (a : Addr) (fv : Value) (w : World) (h0 : w.cell? a = some (.int .u32 1)) :
    Calls Tryd.prog 55 #[.pointer (some a), fv] w fun e w' => e = .returned (.tuple #[]) ∧ w' = w := by
  have hl := run_call_load (P := Tryd.prog) Tryd.func60 (by kernel_rfl) (by kernel_rfl) (by kernel_rfl) .u32 (by kernel_rfl) h0
  have hnot : ∀ (x : Bool) (w : World), (Op.unary .not (.bool x)).run Tryd.prog w = .ok (.bool (!x)) w := fun _ _ => rfl
  have hd' : ((1 : Int) != 0) = true := by decide
  go_enter Tryd.func55, Tryd.ntmps55
  go_wp2
  go_end0
  exact ⟨rfl, rfl⟩

/-- All blocks but b hold what they held. -/
structure Kept (b : Nat) (w w' : World) : Prop where
  os : w'.os = w.os
  tape : w'.tape = w.tape
  output : w'.output = w.output
  size : w.heap.size ≤ w'.heap.size
  block : ∀ k, k < w.heap.size → k ≠ b → w'.heap[k]? = w.heap[k]?

theorem Kept.refl (b : Nat) (w : World) : Kept b w w := ⟨rfl, rfl, rfl, Nat.le_refl _, fun _ _ _ => rfl⟩
theorem Kept.trans {b : Nat} {u v w : World} (h : Kept b u v) (k : Kept b v w) : Kept b u w := ⟨k.os.trans h.os, k.tape.trans h.tape, k.output.trans h.output, Nat.le_trans h.size k.size, fun i h1 h2 => (k.block i (Nat.lt_of_lt_of_le h1 h.size) h2).trans (h.block i h1 h2)⟩
theorem Kept.below {b : Nat} {u w : World} (h : Below u.heap.size u w) : Kept b u w := ⟨h.os, h.tape, h.output, h.size, fun k hk _ => h.block k hk⟩
theorem Kept.alloc {b : Nat} {u w : World} (h : Kept b u w) (o : Obj) : Kept b u (w.alloc o) := h.trans (Kept.below ((Below.refl _ _).alloc (Nat.le_refl _) _))
theorem Kept.setCell {b : Nat} {u w : World} (h : Kept b u w) {p : Addr} (hp : p.block = b) (x : Value) : Kept b u (w.setCell p x) := h.trans ⟨rfl, rfl, rfl, by simp, fun k _ hk => Below.heap_setCell _ _ _ _ (by omega)⟩
theorem Kept.drew {b : Nat} {u w : World} (h : Kept b u w) : Kept b u w.drew := ⟨h.os, h.tape, h.output, h.size, h.block⟩
theorem Kept.drewN {b : Nat} {u w : World} (h : Kept b u w) (q : Nat) : Kept b u (w.drewN q) := h.trans (Kept.below (below_drewN (Below.refl _ _) q))
theorem Kept.cell {b : Nat} {w w' : World} (h : Kept b w w') {p : Addr} (h1 : p.block < w.heap.size) (h2 : p.block ≠ b) : w'.cell? p = w.cell? p := World.cell?_of_block (w := w) (h.block p.block h1 h2)
theorem Kept.frozen {b : Nat} {w w' : World} (h : Kept b w w') {p : Addr} (h1 : p.block < w.heap.size) (h2 : p.block ≠ b) : w'.frozen? p = w.frozen? p := World.frozen?_of_block (w := w) (h.block p.block h1 h2)
/-- A block that was not there yet. -/
theorem Kept.toBelow {b : Nat} {u v w : World} (h : Below u.heap.size u v) (k : Kept b v w) (hb : u.heap.size ≤ b) : Below u.heap.size u w :=
  h.trans ⟨k.os, k.tape, k.output, k.size, fun i hi => k.block i (Nat.lt_of_lt_of_le hi h.size) (by omega)⟩

/-- The rows of a gear up to i are filled. -/
def Filled (s b : Nat) (w wr : World) (i : Nat) : Prop :=
  Kept b w wr ∧ wr.heap.size = w.heap.size ∧ (∀ j, j < i → wr.cell? ⟨b, 4 + j, none⟩ = some (.int .u64 (rowOf s j : Nat))) ∧ (∀ j, j < 4 ∨ 4 + i ≤ j → wr.cell? ⟨b, j, none⟩ = w.cell? ⟨b, j, none⟩) ∧
    ∀ j, wr.frozen? ⟨b, j, none⟩ = w.frozen? ⟨b, j, none⟩

theorem Filled.drew {s b i : Nat} {w wr : World} (h : Filled s b w wr i) : Filled s b w wr.drew i := ⟨h.1.drew, h.2.1, h.2.2.1, h.2.2.2.1, h.2.2.2.2⟩

theorem Filled.next {s b i : Nat} {w wr : World} (h : Filled s b w wr i) (x : Value) (hx : w.cell? ⟨b, 4 + i, none⟩ = some x) : Filled s b w (wr.setCell ⟨b, 4 + i, none⟩ (.int .u64 (rowOf s i : Nat))) (i + 1) := by
  obtain ⟨h1, h2, h3, h4, h5⟩ := h
  refine ⟨h1.setCell rfl _, by simpa using h2, fun j hj => ?_, fun j hj => ?_, fun j => by simpa using h5 j⟩
  · by_cases e : j = i
    · subst e
      exact World.cell?_setCell_same _ _ _ ((h4 _ (.inr (Nat.le_refl _))).trans hx)
    · rw [World.cell?_setCell_other _ _ _ _ (by simp only [ne_eq, Addr.mk.injEq, true_and, and_true]; omega)]
      exact h3 j (by omega)
  · rw [World.cell?_setCell_other _ _ _ _ (by simp only [ne_eq, Addr.mk.injEq, true_and, and_true]; omega)]
    exact h4 j (by omega)

end Go.Proofs.YtinijgkkmfdfiaaDoor
