/- Of the proof: the texts CrcPlain, CrcOnce, CrcMore, CrcSmall, CrcApp, FrBase, TlvMany, FrValue, CrcBurst, FrMath, one behind the other. -/
import Derived.WalkKit
import Derived.Test.YtaaioaocjfpajaaGreatDoorRows
import Derived.WalkSpells
import Derived.WalkLawsBesides
import Derived.Laws.AppendOwnNone
import Derived.Laws.NewBlocks
import Derived.Laws.LoneSync
import Derived.Laws.BitsAll
import Derived.RegionCalls
import Derived.Defers
import Derived.Deep.QuietTactic
import Derived.BigQuiet
import Derived.Lib.SlBytesConst
import Derived.Lib.AppendZerosOnto
import Derived.Test.YtaaioaocjfpajaaGreatDoorB5
import Derived.Deep.MidRow
import Derived.Test.YtaaioaocjfpajaaGreatDoorB4
import Derived.Deep.RegionHeld3
section
/-
  The check sum in plain mathematics: a register's step is linear, bytes by a table are bytes bit by bit, noughts are steps alone, a product with a power is that many steps, and no burst of up to 32 bits is lost.
-/
namespace Go.Proofs.YtaaioaocjfpajaaGreatDoor.Crc

/-- One bit on. -/
def stp (r : Nat) : Nat := if r % 2 = 1 then r / 2 ^^^ 2197175160 else r / 2
/-- k bits on. -/
def stps : Nat → Nat → Nat
  | 0, r => r
  | k + 1, r => stps k (stp r)
/-- The register behind one byte more. -/
def byt (r c : Nat) : Nat := stps 8 (r ^^^ c)
/-- The register behind bytes. -/
def reg (r : Nat) : List Nat → Nat
  | [] => r
  | c :: t => reg (byt r c) t
/-- All 32 bits turned. -/
def nt (r : Nat) : Nat := 4294967295 - r
/-- The sum of more bytes. -/
def more (s : Nat) (bs : List Nat) : Nat := nt (reg (nt s) bs)

theorem reg_nil (r : Nat) : reg r [] = r := rfl
theorem reg_cons (r c : Nat) (t : List Nat) : reg r (c :: t) = reg (byt r c) t := rfl
theorem stps_nought (r : Nat) : stps 0 r = r := rfl
theorem xor_half (a b : Nat) : (a ^^^ b) / 2 = a / 2 ^^^ b / 2 := by
  apply Nat.eq_of_testBit_eq
  intro i
  simp [Nat.testBit_div_two]
theorem xor_odd (a b : Nat) : (a ^^^ b) % 2 = (a % 2 + b % 2) % 2 := by
  have h := Nat.testBit_xor a b 0
  rw [Nat.testBit_zero, Nat.testBit_zero, Nat.testBit_zero] at h
  rcases Nat.mod_two_eq_zero_or_one a with ha | ha <;> rcases Nat.mod_two_eq_zero_or_one b with hb | hb <;> rcases Nat.mod_two_eq_zero_or_one (a ^^^ b) with hx | hx <;> rw [ha, hb, hx] at h <;> rw [ha, hb, hx] <;> revert h <;> decide

theorem stp_xor (a b : Nat) : stp (a ^^^ b) = stp a ^^^ stp b := by
  unfold stp
  rw [xor_odd, xor_half]
  rcases Nat.mod_two_eq_zero_or_one a with ha | ha <;> rcases Nat.mod_two_eq_zero_or_one b with hb | hb <;> simp [ha, hb]
  · rw [Nat.xor_assoc]
  · rw [Nat.xor_assoc, Nat.xor_assoc, Nat.xor_comm 2197175160]
  · rw [Nat.xor_assoc, Nat.xor_comm (b / 2), ← Nat.xor_assoc 2197175160]
    simp
theorem stps_xor : ∀ (k a b : Nat), stps k (a ^^^ b) = stps k a ^^^ stps k b
  | 0, _, _ => rfl
  | k + 1, a, b => by rw [stps, stp_xor, stps_xor k]; rfl
theorem stps_add : ∀ (j k r : Nat), stps (j + k) r = stps k (stps j r)
  | 0, k, r => by rw [Nat.zero_add]; rfl
  | j + 1, k, r => by rw [Nat.add_right_comm]; exact stps_add j k (stp r)
theorem stps_succ (k r : Nat) : stps (k + 1) r = stp (stps k r) := stps_add k 1 r
theorem stp_lt {r : Nat} (h : r < 4294967296) : stp r < 4294967296 := by
  unfold stp
  split
  · exact Nat.xor_lt_two_pow (n := 32) (by omega) (by decide)
  · omega
theorem stps_lt : ∀ (k : Nat) {r : Nat}, r < 4294967296 → stps k r < 4294967296
  | 0, _, h => h
  | k + 1, _, h => stps_lt k (stp_lt h)
theorem xor_lt32 {a b : Nat} (h : a < 4294967296) (k : b < 4294967296) : a ^^^ b < 4294967296 := Nat.xor_lt_two_pow (n := 32) h k
theorem byt_lt {r c : Nat} (h : r < 4294967296) (k : c < 256) : byt r c < 4294967296 := stps_lt 8 (xor_lt32 h (by omega))
theorem reg_lt : ∀ (bs : List Nat) {r : Nat}, (∀ x ∈ bs, x < 256) → r < 4294967296 → reg r bs < 4294967296
  | [], _, _, h => h
  | c :: t, _, hb, h => reg_lt t (fun x hx => hb x (.tail _ hx)) (byt_lt h (hb c (.head _)))
theorem nt_lt (r : Nat) : nt r < 4294967296 := by unfold nt; omega
theorem more_lt (s : Nat) (bs : List Nat) : more s bs < 4294967296 := nt_lt _
theorem reg_append : ∀ (a : List Nat) (r : Nat) (b : List Nat), reg r (a ++ b) = reg (reg r a) b
  | [], _, _ => rfl
  | c :: t, r, b => reg_append t (byt r c) b
theorem reg_snoc (r : Nat) (a : List Nat) (c : Nat) : reg r (a ++ [c]) = byt (reg r a) c := reg_append a r [c]
/-- Turned is the exclusive or with all 32 bits. -/
theorem nt_xor {r : Nat} (h : r < 4294967296) : nt r = 4294967295 ^^^ r := by
  have e : 4294967295 = 2 ^ 32 - 1 := rfl
  unfold nt
  apply Nat.eq_of_testBit_eq
  intro i
  have h1 : 4294967295 - r = 2 ^ 32 - (r + 1) := by omega
  rw [h1, Nat.testBit_two_pow_sub_succ h, Nat.testBit_xor, e, Nat.testBit_two_pow_sub_one]
  by_cases hi : i < 32
  · simp [hi]
  · have : r.testBit i = false := Nat.testBit_lt_two_pow (Nat.lt_of_lt_of_le h (Nat.pow_le_pow_right (n := 2) (i := 32) (j := i) (by decide) (by omega)))
    simp [hi, this]

theorem reg_zeros : ∀ (n r : Nat), reg r (List.replicate n 0) = stps (8 * n) r
  | 0, r => by rw [List.replicate_zero, reg_nil, Nat.mul_zero, stps_nought]
  | n + 1, r => by
    rw [List.replicate_succ, reg_cons, reg_zeros n]
    unfold byt
    rw [Nat.xor_zero, ← stps_add, Nat.mul_add, Nat.mul_one, Nat.add_comm]

theorem stp_even (r : Nat) : stp (2 * r) = r := by
  unfold stp
  rw [if_neg (by omega)]
  omega
theorem stps_pow : ∀ (k r : Nat), stps k (2 ^ k * r) = r
  | 0, r => by simp [stps]
  | k + 1, r => by rw [stps, Nat.pow_succ, Nat.mul_comm (2 ^ k), Nat.mul_assoc, stp_even]; exact stps_pow k r

theorem byte_split (r : Nat) : r = 256 * (r / 256) ^^^ r % 256 := by
  have h := Nat.two_pow_add_eq_or_of_lt (i := 8) (b := r % 256) (Nat.mod_lt _ (by decide)) (r / 256)
  have h2 : 2 ^ 8 * (r / 256) + r % 256 = r := Nat.div_add_mod r 256
  apply Nat.eq_of_testBit_eq
  intro i
  rw [h2] at h
  rw [Nat.testBit_xor]
  have e : r.testBit i = (2 ^ 8 * (r / 256) ||| r % 256).testBit i := by rw [← h]
  rw [e, Nat.testBit_or]
  have e1 : (2 ^ 8 * (r / 256)).testBit i = (decide (8 ≤ i) && (r / 256).testBit (i - 8)) := Nat.testBit_two_pow_mul
  have e2 : (r % 2 ^ 8).testBit i = (decide (i < 8) && r.testBit i) := Nat.testBit_mod_two_pow r 8 i
  have e1' : (256 * (r / 256)).testBit i = (decide (8 ≤ i) && (r / 256).testBit (i - 8)) := e1
  have e2' : (r % 256).testBit i = (decide (i < 8) && r.testBit i) := e2
  rw [e1, e2']
  by_cases hi : i < 8
  · simp [hi, show ¬ 8 ≤ i by omega]
  · simp [hi, show 8 ≤ i by omega]

/-- A byte by the table. -/
theorem byt_tab (r c : Nat) : byt r c = r / 256 ^^^ stps 8 (r % 256 ^^^ c) := by
  unfold byt
  have e : r ^^^ c = 256 * (r / 256) ^^^ (r % 256 ^^^ c) := by
    conv => lhs; rw [byte_split r]
    rw [Nat.xor_assoc]
  rw [e, stps_xor]
  have h : stps 8 (256 * (r / 256)) = r / 256 := stps_pow 8 (r / 256)
  rw [h]

end Go.Proofs.YtaaioaocjfpajaaGreatDoor.Crc
end

section
/-
  How a table and bytes lie in memory; what the parts of sync.Once and sync/atomic do, and step.
-/
namespace Go.Proofs.YtaaioaocjfpajaaGreatDoor.Crc
open Go.RowKit

theorem hid {p : Prop} (h : p) : Hid p := h

theorem disable (w : World) : (callFunc 214 #[]).run Tryz.prog w = .ok (.value (.tuple #[])) w := run_call_mark0 Tryz.func214 (by kernel_rfl) (by kernel_rfl) (by kernel_rfl) .disable (by kernel_rfl) w
theorem enable (w : World) : (callFunc 216 #[]).run Tryz.prog w = .ok (.value (.tuple #[])) w := run_call_mark0 Tryz.func216 (by kernel_rfl) (by kernel_rfl) (by kernel_rfl) .enable (by kernel_rfl) w
theorem acquire (a : Addr) (w : World) : (callFunc 217 #[.pointer (some a)]).run Tryz.prog w = .ok (.value (.tuple #[])) w := run_call_marked Tryz.func217 (by kernel_rfl) (by kernel_rfl) (by kernel_rfl) .acquire (by kernel_rfl) a w
theorem releaseMerge (a : Addr) (w : World) : (callFunc 219 #[.pointer (some a)]).run Tryz.prog w = .ok (.value (.tuple #[])) w := run_call_marked Tryz.func219 (by kernel_rfl) (by kernel_rfl) (by kernel_rfl) .releaseMerge (by kernel_rfl) a w

set_option maxRecDepth 100000 in
/-- The flag is stored, by a deferred call. -/
theorem store_deferred (a : Addr) (x : Value) (u : FrameMode) (w : World) (hc : w.cell? a = some x) (hz : w.frozen? a = false) :
    CallsD Tryz.prog 209 #[.pointer (some a), .bool true] u w fun e u' w' => u' = u ∧ (e = .returned (.tuple #[]) ∧ w' = w.drew.setCell a (.int .u32 1)) := by
  have hc' : w.drew.cell? a = some x := by go_simp
  have hz' : w.drew.frozen? a = false := by go_simp
  have hst := run_call_store (P := Tryz.prog) Tryz.func212 (by kernel_rfl) (by kernel_rfl) (by kernel_rfl) (by kernel_rfl) (k := .u32) (y := 1) hc' hz'
  go_enter_d Tryz.func209, Tryz.ntmps209
  go_wp2
  go_region_calls
  all_goals (go_end0; exact ⟨rfl, rfl⟩)

set_option maxRecDepth 100000 in
/-- The lock is let go, by a deferred call. -/
theorem unlock_deferred (a : Addr) (u : FrameMode) (w : World) (hc : w.cell? a = some (.int .i32 1)) (hz : w.frozen? a = false) :
    CallsD Tryz.prog 208 #[.pointer (some a)] u w fun e u' w' => u' = u ∧ (e = .returned (.tuple #[]) ∧ w' = w.setCell a (.int .i32 0)) := by
  have hd := disable
  have he := enable
  have hr := releaseMerge
  have hadd := run_call_add (P := Tryz.prog) Tryz.func220 (by kernel_rfl) (by kernel_rfl) (by kernel_rfl) .i32 (by kernel_rfl) (y := -1) (s := 0) hc hz (by simp [go_sem]; rfl)
  have hcv := run_convert_to_unsafe (P := Tryz.prog) (src := 303) (dst := 307) Tryz.underlying303 Tryz.underlying307 (by kernel_rfl) hc
  go_enter_d Tryz.func208, Tryz.ntmps208
  go_wp2
  go_end0
  go_wp2
  go_end0
  exact ⟨rfl, rfl⟩

set_option maxRecDepth 100000 in
/-- The lock, free, is taken. -/
theorem lock_free (a : Addr) (w : World) (hc : w.cell? a = some (.int .i32 0)) (hz : w.frozen? a = false) :
    Calls Tryz.prog 207 #[.pointer (some a)] w fun e w' => e = .returned (.tuple #[]) ∧ w' = w.setCell a (.int .i32 1) := by
  have hd := disable
  have he := enable
  have ha := acquire
  have hcas := run_call_cas_hit (P := Tryz.prog) Tryz.func215 (by kernel_rfl) (by kernel_rfl) (by kernel_rfl) .i32 (by kernel_rfl) (y := 1) hc hz
  have hc' : (w.setCell a (.int .i32 1)).cell? a = some (.int .i32 1) := World.cell?_setCell_same w a _ hc
  have hcv := run_convert_to_unsafe (P := Tryz.prog) (src := 303) (dst := 307) Tryz.underlying303 Tryz.underlying307 (by kernel_rfl) hc'
  go_enter Tryz.func207, Tryz.ntmps207
  go_wp2
  first | go_end0 | (simp only [Exit.inBlock, Exit.then]; refine bodyPost_ret (results_none rfl _ _ _) rfl ?_) | refine bodyPost_ret (results_none rfl _ _ _) rfl ?_
  go_wp2
  go_end0
  exact ⟨rfl, rfl⟩

theorem and_one (r : Nat) (hr : r < 4294967296) : bits .and .u32 (r : Int) 1 = ((r % 2 : Nat) : Int) := by
  have h := u32_and_nat r 1 hr (by decide)
  rw [Nat.and_one_is_mod] at h
  exact h
theorem xor_div (r : Nat) (hr : r < 4294967296) : bits .xor .u32 ((r : Int) / 2) 2197175160 = ((r / 2 ^^^ 2197175160 : Nat) : Int) := by
  have h := u32_xor_nat (r / 2) 2197175160 (by omega) (by decide)
  rw [← h]
  rfl

/-- step. -/
theorem step_any (r : Nat) (hr : r < 4294967296) (w : World) :
    Calls Tryz.prog 205 #[.int .u32 r] w fun e w' => e = .returned (.int .u32 (stp r : Nat)) ∧ w' = w := by
  have h1 := and_one r hr
  have h2 := xor_div r hr
  by_cases h : r % 2 = 1
  · have hb : (bits .and .u32 (r : Int) 1 != 0) = true := by rw [h1, h]; rfl
    clear h1
    go_enter Tryz.func205, Tryz.ntmps205
    go_wp2
    go_ret
    refine ⟨?_, rfl⟩
    rw [stp, if_pos h]
    rfl
  · have hb : (bits .and .u32 (r : Int) 1 != 0) = false := by rw [h1, show r % 2 = 0 by omega]; rfl
    clear h1 h2
    go_enter Tryz.func205, Tryz.ntmps205
    go_wp2
    go_ret
    refine ⟨?_, rfl⟩
    rw [stp, if_neg h]
    rfl

/-- '(*sync.Once).Do', done already. -/
theorem do_done (a : Addr) (fv : Value) (w : World) (h0 : w.cell? a = some (.int .u32 1)) :
    Calls Tryz.prog 199 #[.pointer (some a), fv] w fun e w' => e = .returned (.tuple #[]) ∧ w' = w := by
  have hl := run_call_load (P := Tryz.prog) Tryz.func206 (by kernel_rfl) (by kernel_rfl) (by kernel_rfl) .u32 (by kernel_rfl) h0
  have hnot : ∀ (x : Bool) (w : World), (Op.unary .not (.bool x)).run Tryz.prog w = .ok (.bool (!x)) w := fun _ _ => rfl
  have hd' : ((1 : Int) != 0) = true := by decide
  go_enter Tryz.func199, Tryz.ntmps199
  go_wp2
  go_end0
  exact ⟨rfl, rfl⟩

/-- All blocks but b hold what they held. -/
structure Kept (b : Nat) (w w' : World) : Prop where
  os : w'.os = w.os
  tape : w'.tape = w.tape
  output : w'.output = w.output
  size : w.heap.size ≤ w'.heap.size
  block : ∀ k, k < w.heap.size → k ≠ b → w'.heap[k]? = w.heap[k]?

theorem Kept.refl (b : Nat) (w : World) : Kept b w w := ⟨rfl, rfl, rfl, Nat.le_refl _, fun _ _ _ => rfl⟩
theorem Kept.trans {b : Nat} {u v w : World} (h : Kept b u v) (k : Kept b v w) : Kept b u w := ⟨k.os.trans h.os, k.tape.trans h.tape, k.output.trans h.output, Nat.le_trans h.size k.size, fun i h1 h2 => (k.block i (Nat.lt_of_lt_of_le h1 h.size) h2).trans (h.block i h1 h2)⟩
theorem Kept.below {b : Nat} {u w : World} (h : Below u.heap.size u w) : Kept b u w := ⟨h.os, h.tape, h.output, h.size, fun k hk _ => h.block k hk⟩
theorem Kept.alloc {b : Nat} {u w : World} (h : Kept b u w) (o : Obj) : Kept b u (w.alloc o) := h.trans (Kept.below ((Below.refl _ _).alloc (Nat.le_refl _) _))
theorem Kept.setCell {b : Nat} {u w : World} (h : Kept b u w) {p : Addr} (hp : p.block = b) (x : Value) : Kept b u (w.setCell p x) := h.trans ⟨rfl, rfl, rfl, by simp, fun k _ hk => Below.heap_setCell _ _ _ _ (by omega)⟩
theorem Kept.drew {b : Nat} {u w : World} (h : Kept b u w) : Kept b u w.drew := ⟨h.os, h.tape, h.output, h.size, h.block⟩
theorem Kept.cell {b : Nat} {w w' : World} (h : Kept b w w') {p : Addr} (h1 : p.block < w.heap.size) (h2 : p.block ≠ b) : w'.cell? p = w.cell? p := World.cell?_of_block (w := w) (h.block p.block h1 h2)
theorem Kept.frozen {b : Nat} {w w' : World} (h : Kept b w w') {p : Addr} (h1 : p.block < w.heap.size) (h2 : p.block ≠ b) : w'.frozen? p = w.frozen? p := World.frozen?_of_block (w := w) (h.block p.block h1 h2)
/-- The rows of a table up to i are filled. -/
def Filled (b : Nat) (w wr : World) (i : Nat) : Prop :=
  Kept b w wr ∧ wr.heap.size = w.heap.size ∧ (∀ j, j < i → wr.cell? ⟨b, 3 + j, none⟩ = some (.int .u32 (stps 8 j : Nat))) ∧ (∀ j, j < 3 ∨ 3 + i ≤ j → wr.cell? ⟨b, j, none⟩ = w.cell? ⟨b, j, none⟩) ∧
    ∀ j, wr.frozen? ⟨b, j, none⟩ = w.frozen? ⟨b, j, none⟩

theorem Filled.next {b i : Nat} {w wr : World} (h : Filled b w wr i) (x : Value) (hx : w.cell? ⟨b, 3 + i, none⟩ = some x) : Filled b w (wr.setCell ⟨b, 3 + i, none⟩ (.int .u32 (stps 8 i : Nat))) (i + 1) := by
  obtain ⟨h1, h2, h3, h4, h5⟩ := h
  refine ⟨h1.setCell rfl _, by simpa using h2, fun j hj => ?_, fun j hj => ?_, fun j => by simpa using h5 j⟩
  · by_cases e : j = i
    · subst e
      exact World.cell?_setCell_same _ _ _ ((h4 _ (.inr (Nat.le_refl _))).trans hx)
    · rw [World.cell?_setCell_other _ _ _ _ (by simp only [ne_eq, Addr.mk.injEq, true_and, and_true]; omega)]
      exact h3 j (by omega)
  · rw [World.cell?_setCell_other _ _ _ _ (by simp only [ne_eq, Addr.mk.injEq, true_and, and_true]; omega)]
    exact h4 j (by omega)

set_option maxHeartbeats 1000000 in
set_option maxRecDepth 100000 in
theorem fill_any (b : Nat) (w : World) (hc : ∀ j, j < 256 → ∃ x, w.cell? ⟨b, 3 + j, none⟩ = some x) (hf : ∀ j, w.frozen? ⟨b, j, none⟩ = false) :
    Calls Tryz.prog 200 #[.pointer (some ⟨b, 0, none⟩)] w fun e w' => e = .returned (.tuple #[]) ∧ Filled b w w' 256 := by
  have HC := hid hc
  have HF := hid hf
  clear hc hf
  go_enter Tryz.func200, Tryz.ntmps200
  go_wp2
  go_loopw [4] (fun i wr => ∃ k : Nat, k ≤ 256 ∧ i = .int .i64 k ∧ Hid (Filled b w wr k)) (fun i _ => 256 - (intOf i).toNat)
  case atStart => exact ⟨0, by omega, rfl, Kept.refl _ _, rfl, by omega, fun _ _ => rfl, fun _ => rfl⟩
  case round =>
    obtain ⟨k, hk, rfl, H⟩ := hrel
    by_cases hlt : k < 256
    · obtain ⟨x, hx⟩ := HC.out k hlt
      have c1 := (H.out.2.2.2.1 (3 + k) (.inr (Nat.le_refl _))).trans hx
      have f1 := (H.out.2.2.2.2 (3 + k)).trans (HF.out _)
      have hlt1 : (k : Int) < 256 := by omega
      go_wp2
      go_loopw [3, 9] (fun r i w2 => ∃ m : Nat, m ≤ 8 ∧ i = .int .i64 m ∧ r = .int .u32 (stps m k : Nat) ∧ w2 = wr) (fun _ i _ => 8 - (intOf i).toNat)
      case atStart => exact ⟨0, by omega, rfl, rfl, rfl⟩
      case round =>
        obtain ⟨m, hm, rfl, rfl, hw2⟩ := hrel
        subst hw2
        by_cases hlt8 : m < 8
        · have hl := stps_lt m (r := k) (by omega)
          have e := stps_succ m k
          generalize stps m k = r at *
          go_wp2_with (go_at_call 205; refine (step_any _ hl _).mono ?_; rintro e w2 ⟨rfl, h2⟩; subst w2)
          go_roundw
          case rel => exact ⟨m + 1, by omega, by go_num, by rw [e], trivial⟩
          case measure => simp [intOf]; omega
        · have : m = 8 := by omega
          subst this
          go_wp2
          go_roundw
          case rel => exact ⟨k + 1, by omega, by go_num, H.out.next x hx⟩
          case measure => simp [intOf]; omega
    · have : k = 256 := by omega
      subst this
      go_wp2
      go_end0
      exact ⟨rfl, H.out⟩

end Go.Proofs.YtaaioaocjfpajaaGreatDoor.Crc
end

section
/-
  A table in memory; what Do, More and Sum of it do.
-/
namespace Go.Proofs.YtaaioaocjfpajaaGreatDoor.Crc
open Go.RowKit

/-- A table lies at b: f says whether its rows are filled, n how many bytes it has gone through. -/
def Tab (w : World) (b f : Nat) (n : Int) : Prop :=
  b < w.heap.size ∧ w.cell? ⟨b, 0, none⟩ = some (.int .u32 f) ∧ w.cell? ⟨b, 1, none⟩ = some (.int .i32 0) ∧ w.cell? ⟨b, 259, none⟩ = some (.int .i64 n) ∧ (∀ j, j < 256 → ∃ x, w.cell? ⟨b, 3 + j, none⟩ = some x) ∧
    (f = 1 → ∀ j, j < 256 → w.cell? ⟨b, 3 + j, none⟩ = some (.int .u32 (stps 8 j : Nat))) ∧ ∀ j, w.frozen? ⟨b, j, none⟩ = false

set_option maxHeartbeats 1600000 in
set_option maxRecDepth 100000 in
theorem slow_any (b : Nat) (n : Int) (w : World) (h : Tab w b 0 n) :
    Calls Tryz.prog 204 #[.pointer (some ⟨b, 0, none⟩), .func (.func 200) #[.pointer (some ⟨b, 0, none⟩)] #[]] w fun e w' => e = .returned (.tuple #[]) ∧ Kept b w w' ∧ Tab w' b 1 n := by
  obtain ⟨hb, h0, h1, h259, hr, -, hf⟩ := h
  have f0 := hf 0
  have f1 := hf 1
  have HR := hid hr
  have HF := hid hf
  clear hr hf
  have hl := run_call_load (P := Tryz.prog) Tryz.func206 (by kernel_rfl) (by kernel_rfl) (by kernel_rfl) .u32 (by kernel_rfl) (w := w.setCell ⟨b, 1, none⟩ (.int .i32 1)) (a := ⟨b, 0, none⟩) (x := 0) ((World.cell?_setCell_other _ ⟨b, 1, none⟩ ⟨b, 0, none⟩ _ (by simp)).trans h0)
  have hnot : ∀ (x : Bool) (w : World), (Op.unary .not (.bool x)).run Tryz.prog w = .ok (.bool (!x)) w := fun _ _ => rfl
  go_enter_defers Tryz.func204, Tryz.ntmps204
  go_wp2_with (first | (go_at_call 207; refine (lock_free ⟨b, 1, none⟩ _ (by go_simp) (by go_simp)).mono ?_; rintro e w' ⟨rfl, rfl⟩) | (go_at_call 203; go_in))
  refine (fill_any b _ (fun j hj => ?_) (fun j => by simpa using HF.out j)).mono ?_
  · obtain ⟨x, hx⟩ := HR.out j hj
    exact ⟨x, (World.cell?_setCell_other _ _ _ _ (by simp only [ne_eq, Addr.mk.injEq, true_and, and_true]; omega)).trans hx⟩
  rintro e w2 ⟨rfl, K, hs, hrows, hcells, hfz⟩
  go_wp2
  -- the door: two deferred calls, the last laid first
  have hw1 : Kept b w (w.setCell ⟨b, 1, none⟩ (.int .i32 1)) := (Kept.refl b w).setCell (p := ⟨b, 1, none⟩) rfl _
  have d0 : w2.cell? ⟨b, 0, none⟩ = some (.int .u32 0) := (hcells 0 (by omega)).trans ((World.cell?_setCell_other _ ⟨b, 1, none⟩ ⟨b, 0, none⟩ _ (by simp)).trans h0)
  have d1 : w2.cell? ⟨b, 1, none⟩ = some (.int .i32 1) := (hcells 1 (by omega)).trans (World.cell?_setCell_same _ _ _ h1)
  have d259 : w2.cell? ⟨b, 259, none⟩ = some (.int .i64 n) := (hcells 259 (by omega)).trans ((World.cell?_setCell_other _ ⟨b, 1, none⟩ ⟨b, 259, none⟩ _ (by simp)).trans h259)
  have g : ∀ j, w2.frozen? ⟨b, j, none⟩ = false := fun j => by rw [hfz j]; simpa using HF.out j
  refine leaves_cons (f := 209) (args := #[.pointer (some ⟨b, 0, none⟩), .bool true]) (by simp) (by simp [go_sem]) ?_
  refine (store_deferred ⟨b, 0, none⟩ (.int .u32 0) .returning _ d0 (g 0)).mono ?_
  rintro e u' w3 ⟨rfl, rfl, rfl⟩
  refine leaves_cons (f := 208) (args := #[.pointer (some ⟨b, 1, none⟩)]) (by simp [settle]) (by simp [go_sem]) ?_
  refine (unlock_deferred ⟨b, 1, none⟩ _ _ ?_ (by simpa using g 1)).mono ?_
  · refine (World.cell?_setCell_other _ ⟨b, 0, none⟩ ⟨b, 1, none⟩ _ (by simp)).trans ?_
    rw [World.cell?_drew]
    exact d1
  rintro e u' w3 ⟨rfl, rfl, rfl⟩
  have hk : Kept b w ((w2.drew.setCell ⟨b, 0, none⟩ (.int .u32 1)).setCell ⟨b, 1, none⟩ (.int .i32 0)) := ((hw1.trans K).drew.setCell (p := ⟨b, 0, none⟩) rfl _).setCell (p := ⟨b, 1, none⟩) rfl _
  have c1 : (w2.drew.setCell ⟨b, 0, none⟩ (.int .u32 1)).cell? ⟨b, 1, none⟩ = some (.int .i32 1) := (World.cell?_setCell_other _ ⟨b, 0, none⟩ ⟨b, 1, none⟩ _ (by simp)).trans (by rw [World.cell?_drew]; exact d1)
  have ho : ∀ j, 1 < j → ((w2.drew.setCell ⟨b, 0, none⟩ (.int .u32 1)).setCell ⟨b, 1, none⟩ (.int .i32 0)).cell? ⟨b, j, none⟩ = w2.cell? ⟨b, j, none⟩ := fun j hj => by
    rw [World.cell?_setCell_other _ ⟨b, 1, none⟩ ⟨b, j, none⟩ _ (by simp only [ne_eq, Addr.mk.injEq, true_and, and_true]; omega), World.cell?_setCell_other _ ⟨b, 0, none⟩ ⟨b, j, none⟩ _ (by simp only [ne_eq, Addr.mk.injEq, true_and, and_true]; omega), World.cell?_drew]
  have ht : Tab ((w2.drew.setCell ⟨b, 0, none⟩ (.int .u32 1)).setCell ⟨b, 1, none⟩ (.int .i32 0)) b 1 n := by
    refine ⟨by have := hs; simp at this; simp; omega, ?_, ?_, ?_, ?_, ?_, ?_⟩
    · rw [World.cell?_setCell_other _ ⟨b, 1, none⟩ ⟨b, 0, none⟩ _ (by simp)]
      exact World.cell?_setCell_same _ _ _ (by rw [World.cell?_drew]; exact d0)
    · exact World.cell?_setCell_same _ _ _ c1
    · rw [ho 259 (by omega)]; exact d259
    · intro j hj
      exact ⟨_, (ho (3 + j) (by omega)).trans (hrows j hj)⟩
    · intro _ j hj
      exact (ho (3 + j) (by omega)).trans (hrows j hj)
    · intro j
      simpa using g j
  exact ⟨_, results_none rfl _ _ _, rfl, hk, ht⟩

/-- '(*sync.Once).Do' of a table. -/
theorem do_any (b f : Nat) (n : Int) (w : World) (hf : f = 0 ∨ f = 1) (h : Tab w b f n) :
    Calls Tryz.prog 199 #[.pointer (some ⟨b, 0, none⟩), .func (.func 200) #[.pointer (some ⟨b, 0, none⟩)] #[]] w fun e w' => e = .returned (.tuple #[]) ∧ Kept b w w' ∧ Tab w' b 1 n := by
  rcases hf with rfl | rfl
  · have h0 := h.2.1
    have hl := run_call_load (P := Tryz.prog) Tryz.func206 (by kernel_rfl) (by kernel_rfl) (by kernel_rfl) .u32 (by kernel_rfl) h0
    have hnot : ∀ (x : Bool) (w : World), (Op.unary .not (.bool x)).run Tryz.prog w = .ok (.bool (!x)) w := fun _ _ => rfl
    have H := hid h
    clear h
    go_enter Tryz.func199, Tryz.ntmps199
    go_wp2_with (first | (go_at_call 204; refine (slow_any b n _ H.out).mono ?_; rintro e w' ⟨rfl, hk, ht⟩) | (go_at_call 203; go_in))
    go_end0
    exact ⟨rfl, hk, ht⟩
  · refine (do_done ⟨b, 0, none⟩ _ w h.2.1).mono ?_
    rintro e w' ⟨rfl, rfl⟩
    exact ⟨rfl, Kept.refl _ _, h⟩

/-- v is a slice of the bytes bs, in blocks other than b. -/
def BySl (b : Nat) (w : World) (v : Value) (bs : List Nat) : Prop :=
  ∃ a cap, v = .slice a bs.length cap ∧ bs.length ≤ cap ∧ cap ≤ maxLen ∧ (a = none → bs = [] ∧ cap = 0) ∧ bs.length ≤ 140737488355328 ∧ (∀ x ∈ bs, x < 256) ∧
    (bs ≠ [] → ∃ g o, a = some ⟨g, o, none⟩ ∧ g ≠ b ∧ g < w.heap.size ∧ ∀ i, i < bs.length → w.cell? ⟨g, o + i, none⟩ = some (.int .u8 (bs.getD i 0 : Nat)))

theorem BySl.kept {b : Nat} {w w' : World} {v : Value} {bs : List Nat} (h : BySl b w v bs) (k : Kept b w w') : BySl b w' v bs := by
  obtain ⟨a, cap, h1, h2, h3, h4, h5, h6, h7⟩ := h
  refine ⟨a, cap, h1, h2, h3, h4, h5, h6, fun hne => ?_⟩
  obtain ⟨g, o, e, hgb, hg, hc⟩ := h7 hne
  exact ⟨g, o, e, hgb, Nat.lt_of_lt_of_le hg k.size, fun i hi => (k.cell (p := ⟨g, o + i, none⟩) hg hgb).trans (hc i hi)⟩

theorem BySl.none (b : Nat) (w : World) : BySl b w (.slice none 0 0) [] := ⟨_, 0, rfl, Nat.le_refl _, Nat.zero_le _, fun _ => ⟨rfl, rfl⟩, by simp, by simp, fun h => absurd rfl h⟩

theorem not_u32 (s : Nat) (hs : s < 4294967296) : bits .xor .u32 IntKind.u32.max (s : Int) = ((nt s : Nat) : Int) := by
  have h := u32_xor_nat 4294967295 s (by decide) hs
  rw [nt_xor hs]
  exact h

/-- The bytes are counted. -/
theorem add_any (a : Addr) (n d : Int) (w : World) (hc : w.cell? a = some (.int .i64 n)) (hz : w.frozen? a = false) :
    Calls Tryz.prog 104 #[.pointer (some a), .int .i64 d] w fun e w' => e = .returned (.int .i64 (wrap64 (n + d))) ∧ w' = w.setCell a (.int .i64 (wrap64 (n + d))) := by
  have hadd := run_call_add (P := Tryz.prog) Tryz.func138 (by kernel_rfl) (by kernel_rfl) (by kernel_rfl) .i64 (by kernel_rfl) (y := d) (s := wrap64 (n + d)) hc hz (by simp [go_sem, wrap64, IntKind.wrap_i64])
  go_enter Tryz.func104, Tryz.ntmps104
  go_wp2
  go_ret
  exact ⟨rfl, rfl⟩

theorem Tab.add {b f : Nat} {n : Int} {w : World} (h : Tab w b f n) (m : Int) : Tab (w.setCell ⟨b, 259, none⟩ (.int .i64 m)) b f m := by
  obtain ⟨h1, h2, h3, h4, h5, h6, h7⟩ := h
  have ho : ∀ j, j ≠ 259 → (w.setCell ⟨b, 259, none⟩ (.int .i64 m)).cell? ⟨b, j, none⟩ = w.cell? ⟨b, j, none⟩ := fun j hj => World.cell?_setCell_other _ _ _ _ (by simp only [ne_eq, Addr.mk.injEq, true_and, and_true]; omega)
  refine ⟨by simpa using h1, (ho 0 (by omega)).trans h2, (ho 1 (by omega)).trans h3, World.cell?_setCell_same _ _ _ h4, fun j hj => ?_, fun e j hj => (ho _ (by omega)).trans (h6 e j hj), fun j => by simpa using h7 j⟩
  obtain ⟨x, hx⟩ := h5 j hj
  exact ⟨x, (ho _ (by omega)).trans hx⟩

theorem Tab.kept {b f g : Nat} {n : Int} {w w' : World} (h : Tab w b f n) (k : Kept g w w') (hg : b ≠ g) : Tab w' b f n := by
  obtain ⟨h1, h2, h3, h4, h5, h6, h7⟩ := h
  have ho : ∀ j, w'.cell? ⟨b, j, none⟩ = w.cell? ⟨b, j, none⟩ := fun j => k.cell (p := ⟨b, j, none⟩) h1 hg
  refine ⟨Nat.lt_of_lt_of_le h1 k.size, (ho 0).trans h2, (ho 1).trans h3, (ho _).trans h4, fun j hj => ?_, fun e j hj => (ho _).trans (h6 e j hj), fun j => (k.frozen (p := ⟨b, j, none⟩) h1 hg).trans (h7 j)⟩
  obtain ⟨x, hx⟩ := h5 j hj
  exact ⟨x, (ho _).trans hx⟩
theorem Tab.below {b f : Nat} {n : Int} {w w' : World} (h : Tab w b f n) (k : Below w.heap.size w w') : Tab w' b f n := h.kept (Kept.below (b := b + 1) k) (by omega)

theorem tab_step (r c : Nat) (hr : r < 4294967296) (hc : c < 256) : bits .xor .u32 ((r : Int) / 256) ((stps 8 (r % 256 ^^^ c) : Nat) : Int) = ((byt r c : Nat) : Int) := by
  have h := u32_xor_nat (r / 256) (stps 8 (r % 256 ^^^ c)) (by omega) (stps_lt 8 (Nat.lt_trans (Nat.xor_lt_two_pow (n := 8) (Nat.mod_lt _ (by decide)) hc) (by decide)))
  rw [byt_tab, ← h]
  rfl

set_option maxHeartbeats 1600000 in
set_option maxRecDepth 100000 in
theorem more_any (b f : Nat) (n : Int) (s : Nat) (hs : s < 4294967296) (v : Value) (bs : List Nat) (w : World) (hf : f = 0 ∨ f = 1) (ht : Tab w b f n) (hv : BySl b w v bs) :
    Calls Tryz.prog 188 #[.pointer (some ⟨b, 0, none⟩), .int .u32 s, v] w fun e w' => e = .returned (.int .u32 (more s bs : Nat)) ∧ Kept b w w' ∧ Tab w' b 1 (wrap64 (n + bs.length)) := by
  obtain ⟨a, cap, rfl, hr⟩ := id hv
  clear hr
  have H := hid hv
  have T := hid ht
  clear hv ht
  have hmf : ∀ (fn : Fn) (first cap : Array Value) (w : World), (Instr.makeFunc fn first cap).run Tryz.prog w = .ok (.func fn first cap) w := fun _ _ _ _ => rfl
  have hsg : IntKind.u32.signed = false := rfl
  have hn := not_u32 s hs
  go_enter Tryz.func188, Tryz.ntmps188
  go_wp2_with (go_at_call 199; refine (do_any b f n _ hf T.out).mono ?_; rintro e w1 ⟨rfl, hk, ht⟩)
  refine (add_any ⟨b, 259, none⟩ n _ _ ht.2.2.2.1 (ht.2.2.2.2.2.2 _)).mono ?_
  rintro e w2 ⟨rfl, rfl⟩
  have ht2 := hid (ht.add (wrap64 (n + bs.length)))
  have hk2 : Hid (Kept b w (w1.setCell ⟨b, 259, none⟩ (.int .i64 (wrap64 (n + bs.length))))) := hk.setCell (p := ⟨b, 259, none⟩) rfl _
  clear hk ht
  generalize w1.setCell ⟨b, 259, none⟩ (.int .i64 (wrap64 (n + bs.length))) = W at *
  have HW := hid (H.out.kept hk2.out)
  go_wp2
  have HT := hid (ht2.out.2.2.2.2.2.1 rfl)
  obtain ⟨a', cap', e', h2, h3, h4, h5, h6, h7⟩ := HW.out
  cases e'
  have H6 := hid h6
  have H7 := hid h7
  clear h6 h7 h4 hn
  go_loopw [7, 28] (fun r i wr => ∃ k : Nat, k ≤ bs.length ∧ i = .int .i64 k ∧ r = .int .u32 (reg (nt s) (bs.take k) : Nat) ∧ wr = W) (fun _ i _ => bs.length - (intOf i).toNat)
  case atStart => exact ⟨0, Nat.zero_le _, rfl, rfl, rfl⟩
  case round =>
    obtain ⟨k, hk, rfl, rfl, hwr⟩ := hrel
    subst wr
    by_cases hlt : k < bs.length
    · obtain ⟨g, o, rfl, _, _, hc⟩ := H7.out (by intro e; subst e; simp at hlt)
      have c1 := hc k hlt
      clear hc
      have hx : bs.getD k 0 < 256 := by
        have := H6.out (bs[k]) (List.getElem_mem hlt)
        simpa [List.getElem?_eq_getElem hlt] using this
      have hsn : Hid (reg (nt s) (bs.take (k + 1)) = byt (reg (nt s) (bs.take k)) (bs.getD k 0)) := by
        rw [Hid, List.take_succ_eq_append_getElem hlt, reg_snoc]
        simp [List.getElem?_eq_getElem hlt]
      have hr := reg_lt (bs.take k) (r := nt s) (fun x hx => H6.out x (List.mem_of_mem_take hx)) (nt_lt s)
      generalize bs.getD k 0 = c at *
      generalize reg (nt s) (bs.take k) = r at *
      have hj : r % 256 ^^^ c < 256 := Nat.xor_lt_two_pow (n := 8) (Nat.mod_lt _ (by decide)) hx
      have c2 := HT.out (r % 256 ^^^ c) hj
      have hst := tab_step r c hr hx
      have hx8 : bits .xor .u8 ((r : Int) % 256) (c : Int) = ((r % 256 ^^^ c : Nat) : Int) := u8_xor_nat (r % 256) c (by omega) hx
      generalize r % 256 ^^^ c = j at *
      have hj2 : 0 ≤ (j : Int) ∧ (j : Int) < 256 := by omega
      generalize stps 8 j = y at *
      generalize byt r c = z at *
      go_wp2
      go_roundw
      case rel => exact ⟨k + 1, by omega, by go_num, by rw [hsn.out], by first | rfl | trivial⟩
      case measure => simp [intOf]; omega
    · have e : bs.take k = bs := List.take_of_length_le (by omega)
      rw [e]
      have hl := reg_lt bs (r := nt s) H6.out (nt_lt s)
      have hn := not_u32 _ hl
      go_wp2
      go_ret
      exact ⟨rfl, hk2.out, ht2.out⟩

set_option maxHeartbeats 400000 in
theorem sum_any (b f : Nat) (n : Int) (v : Value) (bs : List Nat) (w : World) (hf : f = 0 ∨ f = 1) (ht : Tab w b f n) (hv : BySl b w v bs) :
    Calls Tryz.prog 171 #[.pointer (some ⟨b, 0, none⟩), v] w fun e w' => e = .returned (.int .u32 (more 0 bs : Nat)) ∧ Kept b w w' ∧ Tab w' b 1 (wrap64 (n + bs.length)) := by
  obtain ⟨a, cap, rfl, hr⟩ := id hv
  clear hr
  have H := hid hv
  have T := hid ht
  clear hv ht
  go_enter Tryz.func171, Tryz.ntmps171
  go_wp2_with (go_at_call 188; refine (more_any b f n 0 (by decide) _ bs _ hf T.out H.out).mono ?_; rintro e w1 ⟨rfl, hk, ht⟩)
  go_ret
  exact ⟨rfl, hk, ht⟩

end Go.Proofs.YtaaioaocjfpajaaGreatDoor.Crc
end

section
/-
  A new table; the chapter's example; whether bytes are the same; how many were counted.
-/
namespace Go.Proofs.YtaaioaocjfpajaaGreatDoor.Crc
open Go.RowKit

def Z61 : Array Value := #[.int .u32 0, .int .i32 0, .int .u32 0] ++ (Array.replicate 256 (.int .u32 0) ++ #[.int .i64 0])
theorem zero61 (w : World) : (zeroValue 100).run Tryz.prog w = .ok (.agg Z61) w := by kernel_rfl
theorem Z61_at (j : Nat) (h : j < 256) : Z61[3 + j]? = some (.int .u32 0) := by
  rw [Z61, Array.getElem?_append_right (by simp), Array.getElem?_append_left (by simp; omega)]
  simp [h]

set_option maxHeartbeats 400000 in
set_option maxRecDepth 100000 in
theorem new_any (w : World) :
    Calls Tryz.prog 8 #[] w fun e w' => e = .returned (.pointer (some ⟨w.heap.size, 0, none⟩)) ∧ Below w.heap.size w w' ∧ w'.heap.size = w.heap.size + 1 ∧ Tab w' w.heap.size 0 0 := by
  have hz := zero61
  go_enter Tryz.func8, Tryz.ntmps8
  go_wp2
  go_ret
  have ho : ∀ j, (w.alloc (.cells Z61 100)).cell? ⟨w.heap.size, j, none⟩ = Z61[j]? := fun j => World.cell?_alloc_at _ _ _ _ rfl
  refine ⟨rfl, (Below.refl _ _).alloc (Nat.le_refl _) _, by simp, by simp, ho 0, ho 1, ho 259, fun j hj => ⟨_, (ho _).trans (Z61_at j hj)⟩, fun e => absurd e (by decide), fun j => World.frozen?_alloc_at _ _ _ _ rfl⟩

end Go.Proofs.YtaaioaocjfpajaaGreatDoor.Crc
end

section
/-
  Bytes laid behind bytes: append to a row of the call's own, bytes.Clone, slices.Grow of nil, slices.Concat of two, the reference's Seal.
-/
namespace Go.Proofs.YtaaioaocjfpajaaGreatDoor.Crc
open Go.RowKit

theorem Tryz.info5 : (Tryz.prog.info? 5).map (fun i => (i.zero, i.size, i.bytes)) = some (some (.int .u8 0), 1, 1) := by kernel_rfl

/-- Bytes as cells. -/
def cl (xs : List Nat) : List Value := xs.map fun x : Nat => .int .u8 (x : Int)
theorem cl_length (xs : List Nat) : (cl xs).length = xs.length := by simp [cl]
theorem cl_append (xs ys : List Nat) : cl (xs ++ ys) = cl xs ++ cl ys := by simp [cl]
theorem cl_at (xs : List Nat) (i : Nat) (h : i < xs.length) : (cl xs)[i]? = some (.int .u8 (xs.getD i 0 : Nat)) := by simp [cl, List.getElem?_eq_getElem h]

/-- v is a row of the call's own, from block base on, of the bytes xs. -/
def Own (w : World) (base : Nat) (v : Value) (xs : List Nat) : Prop := w.ownsRow base 5 1 v xs.length (cl xs)

theorem Own.ge {w : World} {base : Nat} {v : Value} {xs : List Nat} (h : Own w base v xs) : ∀ k, v.ownBlock = some k → base ≤ k := by
  intro k hk
  rcases h.2 with ⟨rfl, _⟩ | ⟨g, cap, cur, rfl, hb, _⟩
  · simp [Value.ownBlock] at hk
  · simp [Value.ownBlock] at hk
    omega

theorem Own.mono {w : World} {base base' : Nat} {v : Value} {xs : List Nat} (h : Own w base v xs) (hb : base' ≤ base) : Own w base' v xs := by
  refine ⟨h.1, ?_⟩
  rcases h.2 with h | ⟨g, cap, cur, rfl, hg, r⟩
  · exact .inl h
  · exact .inr ⟨g, cap, cur, rfl, by omega, r⟩

theorem Own.bySl {w : World} {base b : Nat} {v : Value} {xs : List Nat} (h : Own w base v xs) (hb : b < base) (hl : xs.length ≤ 100000) (hx : ∀ x ∈ xs, x < 256) : BySl b w v xs := by
  rcases h.2 with ⟨rfl, h0⟩ | ⟨g, cap, cur, rfl, hg, hh, hn, hc, hs, ht⟩
  · have : xs = [] := List.length_eq_zero_iff.1 h0
    subst this
    exact BySl.none _ _
  · refine ⟨_, cap, rfl, hn, hc, by simp, by omega, hx, fun _ => ⟨g, 0, rfl, by omega, (Array.getElem?_eq_some_iff.1 hh).1, fun i hi => ?_⟩⟩
    have h1 : w.ownsRow base 5 1 (.slice (some ⟨g, 0, none⟩) xs.length cap) xs.length (cl xs) := h
    rw [Nat.zero_add, h1.cellAt i (by omega)]
    exact cl_at xs i hi

theorem addr_add (g o i : Nat) : (⟨g, o, none⟩ : Addr).add i = ⟨g, o + i, none⟩ := by unfold Addr.add; split <;> simp_all

/-- append(v, x...), v of the call's own. -/
theorem app_bytes {ops : Array Oper} {rest : List Oper} {o : Oper} {a : Act} {Q : Exit → Act → World → Prop} (w : World) (hgd : o.guard = none) (s x : Operand)
    (ho : o.op = .call { callee := .builtin .append, args := #[s, x], argTypes := #[54, 54] }) (base b : Nat) (v vx : Value) (xs ys : List Nat) (hs : a.eval s = v) (hx : a.eval x = vx)
    (hown : Own w base v xs) (hy : BySl b w vx ys) (hlen : xs.length + ys.length ≤ 100000) (hbase : base ≤ w.heap.size)
    (h : ∀ v' w', Own w' base v' (xs ++ ys) → Below base w w' → wpList Tryz.prog ops Q rest (a.put o.dst v') w') : wpList Tryz.prog ops Q (o :: rest) a w := by
  obtain ⟨i0, hi, hz0, hz1, hz2⟩ := info_parts Tryz.info5
  obtain ⟨ad, cap, rfl, h2, h3, h4, h5, h6, h7⟩ := hy
  cases ad with
  | none =>
    obtain ⟨rfl, rfl⟩ := h4 rfl
    refine wpList_append_own_none hgd s x 54 ho base 5 i0 1 Tryz.underlying54 hi v xs.length (cl xs) hs hown hx ?_
    exact h v w (by rw [List.append_nil]; exact hown) (Below.refl _ _)
  | some ad =>
    refine wpList_append_own w hgd s x 54 ho base 5 i0 (.int .u8 0) 1 1 Tryz.underlying54 hi hz0 hz1 hz2 rfl (by decide) v xs.length (cl xs) hs hown ad ys.length cap (cl ys) hx ?_ ?_ ?_ ?_ ?_ hbase ?_
    · rw [cl_length, Nat.mul_one]
    · intro j u hj
      have hjn : j < ys.length := by
        have := (List.getElem?_eq_some_iff.1 hj).1
        rwa [cl_length] at this
      obtain ⟨g, o, e, _, hb, hc⟩ := h7 (by intro e; subst e; simp at hjn)
      simp only [Option.some.injEq] at e
      subst e
      rw [addr_add, hc j hjn, ← cl_at ys j hjn]
      exact hj
    · intro u hu; obtain ⟨x, _, rfl⟩ := List.mem_map.1 hu; rfl
    · unfold maxLen; omega
    · omega
    · intro v' w' h8 h9 _
      refine h v' w' ?_ ((Below.refl _ w).grown h9 hbase hown.ge)
      unfold Own
      rw [cl_append, List.length_append]
      exact h8

theorem Tryz.nilEq (w : World) (a : Option Addr) (n c n' c' : Nat) : (binOp .eql 54 (.slice a n c) (.slice none n' c')).run Tryz.prog w = .ok (.bool a.isNone) w :=
  Lib.run_eql_slice_nil w _ _ a n c n' c' Tryz.underlying54

theorem own_empty (w : World) : Own (w.alloc (.cells #[] 5)) w.heap.size (.slice (some ⟨w.heap.size, 0, none⟩) 0 0) [] := World.ownsRow_made w #[] 0 (Nat.le_refl _) (Nat.zero_le _) rfl

set_option maxHeartbeats 1000000 in
theorem clone_any (b : Nat) (v : Value) (bs : List Nat) (w : World) (hb : b < w.heap.size) (h : BySl b w v bs) (hl : bs.length ≤ 100000) :
    Calls Tryz.prog 126 #[v] w fun e w' => ∃ v', e = .returned v' ∧ BySl b w' v' bs ∧ Below w.heap.size w w' := by
  have q22 := Tryz.nilEq
  have H := hid h
  obtain ⟨a, cap, rfl, h2, h3, h4, h5, h6, h7⟩ := h
  have H6 := hid h6
  clear h6 h7
  cases a with
  | none =>
    obtain ⟨rfl, rfl⟩ := h4 rfl
    go_enter Tryz.func126, Tryz.ntmps126
    go_wp2
    go_ret
    exact ⟨_, rfl, BySl.none _ _, Below.refl _ _⟩
  | some ad =>
    clear h4
    go_enter Tryz.func126, Tryz.ntmps126
    go_wp2_with (at_builtin; refine app_bytes _ rfl _ _ rfl w.heap.size b _ _ [] bs rfl rfl (own_empty w) (H.out.kept ((Kept.refl _ _).alloc _)) (by simpa using hl) (by simp) ?_; intro v' w' hown hbel)
    go_wp2
    go_ret
    exact ⟨v', rfl, Own.bySl hown hb hl H6.out, ((Below.refl _ w).alloc (Nat.le_refl _) _).trans hbel⟩

/-- slices.Grow of nil. -/
theorem own_grown (w : World) (n G : Nat) (hG : n ≤ G) (hm : G ≤ maxLen) : Own (w.drew.alloc (.cells (Builtin.zeroCells (Value.int .u8 0).cells n ++ Builtin.zeroCells (Value.int .u8 0).cells (G - n)) 5)) w.heap.size (.slice (some ⟨w.heap.size, 0, none⟩) 0 G) [] := by
  exact World.ownsRow_made w.drew _ G (Nat.le_refl _) hm (by rw [Array.size_append, size_zeroCells, size_zeroCells]; simp [Value.cells]; omega)

set_option maxHeartbeats 1000000 in
theorem grow_any (n : Nat) (w : World) (h0 : 0 < n) (hn : n ≤ 100000) :
    Calls Tryz.prog 192 #[.slice none 0 0, .int .i64 n] w fun e w' => ∃ v, e = .returned v ∧ Own w' w.heap.size v [] ∧ Below w.heap.size w w' := by
  obtain ⟨i0, hi, hz0, hz1, hz2⟩ := info_parts Tryz.info5
  have hrz : ∀ ty, (Builtin.append_ #[54, 3] ty #[.slice none 0 0, .int .i64 n]).run Tryz.prog w = _ := fun ty => Lib.run_append_nil_zeros w 54 3 ty 5 i0 (.int .u8 0) .i64 .i64 Tryz.underlying54 Tryz.underlying3 hi hz0 n h0 (by omega) (by omega) (by rw [hz2]; omega)
  have hGn : n ≤ grownCap w n 0 5 := grownCap_ge w _ _ _
  have hGm := grownCap_le_maxLen w n 0 5 (by unfold maxLen; omega)
  generalize grownCap w n 0 5 = G at *
  have hG63 : G ≤ 9223372036854775807 := by unfold maxLen at hGm; omega
  have HG := hid hGm
  clear hGm hz0 hz1 hz2 hi
  have hnn : ¬ ((n : Int) < 0) := by omega
  have hn2 : (n : Int) > 0 := by omega
  go_enter Tryz.func192, Tryz.ntmps192
  go_wp2_with (at_builtin; refine Lib.wpList_append_run _ rfl _ _ _ _ rfl _ _ rfl rfl _ _ (hrz _) ?_)
  all_goals (go_ret; exact ⟨_, rfl, own_grown w n G hGn HG.out, (Below.refl _ _).drew.alloc (Nat.le_refl _) _⟩)

theorem grow_int (z : Int) (n : Nat) (w : World) (hz : z = n) (h0 : 0 < n) (hn : n ≤ 100000) :
    Calls Tryz.prog 192 #[.slice none 0 0, .int .i64 z] w fun e w' => ∃ v, e = .returned v ∧ Own w' w.heap.size v [] ∧ Below w.heap.size w w' := by
  subst hz
  exact grow_any n w h0 hn

set_option maxHeartbeats 2000000 in
set_option maxRecDepth 100000 in
/-- slices.Concat of two. -/
theorem concat_any (b g : Nat) (v1 v2 : Value) (xs ys : List Nat) (w : World) (c0 : w.cell? ⟨g, 0, none⟩ = some v1) (c1 : w.cell? ⟨g, 1, none⟩ = some v2) (hg : g < w.heap.size) (h1 : BySl b w v1 xs) (h2 : BySl b w v2 ys) (hpos : 0 < ys.length) (hl : xs.length + ys.length ≤ 100000) :
    Calls Tryz.prog 174 #[.slice (some ⟨g, 0, none⟩) 2 2] w fun e w' => ∃ v, e = .returned v ∧ Own w' w.heap.size v (xs ++ ys) ∧ Below w.heap.size w w' := by
  have H1 := hid h1
  have H2 := hid h2
  obtain ⟨a1, k1, rfl, r1⟩ := h1
  obtain ⟨a2, k2, rfl, r2⟩ := h2
  clear r1 r2
  obtain ⟨L1, hL1⟩ : ∃ L, xs.length = L := ⟨_, rfl⟩
  obtain ⟨L2, hL2⟩ : ∃ L, ys.length = L := ⟨_, rfl⟩
  rw [hL1] at H1 c0 hl
  rw [hL2] at H2 c1 hl hpos
  have HL1 := hid hL1
  have HL2 := hid hL2
  clear hL1 hL2
  go_enter Tryz.func174, Tryz.ntmps174
  go_wp2
  refine wp_loop_rounds 3 ?_
  rw [rounds_succ]
  go_wp2
  rw [rounds_succ]
  go_wp2
  rw [rounds_succ]
  go_wp2_with fail
  refine (grow_int _ (L1 + L2) w (by omega) (by omega) hl).mono ?_
  rintro e w1 ⟨v, rfl, hown, hbel⟩
  have HO := hid hown
  have HB := hid hbel
  have hs1 := hbel.size
  have d0 : w1.cell? ⟨g, 0, none⟩ = some (.slice a1 L1 k1) := (hbel.cell (p := ⟨g, 0, none⟩) hg).trans c0
  have d1 : w1.cell? ⟨g, 1, none⟩ = some (.slice a2 L2 k2) := (hbel.cell (p := ⟨g, 1, none⟩) hg).trans c1
  clear hown hbel c0 c1
  go_wp2
  refine wp_loop_rounds 3 ?_
  rw [rounds_succ]
  go_wp2_with (at_builtin; refine app_bytes _ rfl _ _ rfl w.heap.size b _ _ [] xs rfl rfl HO.out (H1.out.kept (Kept.below HB.out)) (by have := HL1.out; simp; omega) hs1 ?_; intro v' w2 hown2 hbel2)
  have HO2 := hid hown2
  have HB2 := hid (HB.out.trans hbel2)
  have hs2 := hbel2.size
  have e0 : w2.cell? ⟨g, 0, none⟩ = some (.slice a1 L1 k1) := (hbel2.cell (p := ⟨g, 0, none⟩) hg).trans d0
  have e1 : w2.cell? ⟨g, 1, none⟩ = some (.slice a2 L2 k2) := (hbel2.cell (p := ⟨g, 1, none⟩) hg).trans d1
  clear hown2 hbel2 d0 d1 HO HB
  go_wp2
  rw [rounds_succ]
  go_wp2_with (at_builtin; refine app_bytes _ rfl _ _ rfl w.heap.size b _ _ ([] ++ xs) ys rfl rfl HO2.out (H2.out.kept (Kept.below HB2.out)) (by have := HL1.out; have := HL2.out; simp; omega) (by omega) ?_; intro v'' w3 hown3 hbel3)
  have HO3 := hid hown3
  have HB3 := hid (HB2.out.trans hbel3)
  clear hown3 hbel3 e0 e1 HO2 HB2
  go_wp2
  rw [rounds_succ]
  go_wp2
  go_ret
  exact ⟨_, rfl, by simpa using HO3.out, HB3.out⟩

/-- A sum in four bytes, the lowest first. -/
def le4 (s : Nat) : List Nat := [s % 256, s / 256 % 256, s / 65536 % 256, s / 16777216]
theorem le4_lt {s : Nat} (hs : s < 4294967296) : ∀ x ∈ le4 s, x < 256 := by
  intro x hx
  simp only [le4, List.mem_cons, List.not_mem_nil, or_false] at hx
  omega
theorem le4_len (s : Nat) : (le4 s).length = 4 := rfl

theorem bySl_le4 (b : Nat) (w : World) (hb : b < w.heap.size) {s : Nat} (hs : s < 4294967296) (t : TypeId) :
    BySl b (w.alloc (.cells #[.int .u8 ((s : Int) % 256), .int .u8 ((s : Int) / 256 % 256), .int .u8 ((s : Int) / 65536 % 256), .int .u8 ((s : Int) / 16777216)] t)) (.slice (some ⟨w.heap.size, 0, none⟩) 4 4) (le4 s) := by
  refine ⟨_, 4, rfl, by simp [le4_len], by decide, by simp, by simp [le4_len], le4_lt hs, fun _ => ⟨w.heap.size, 0, rfl, by omega, by simp, fun i hi => ?_⟩⟩
  rw [le4_len] at hi
  rw [Nat.zero_add, World.cell?_alloc_at _ _ _ _ rfl]
  have : i = 0 ∨ i = 1 ∨ i = 2 ∨ i = 3 := by omega
  rcases this with rfl | rfl | rfl | rfl <;> rfl

set_option maxHeartbeats 400000 in
theorem sumBytes_any (s : Nat) (hs : s < 4294967296) (w : World) :
    Calls Tryz.prog 170 #[.int .u32 s] w fun e w' => e = .returned (.agg #[.int .u8 ((s : Int) % 256), .int .u8 ((s : Int) / 256 % 256), .int .u8 ((s : Int) / 65536 % 256), .int .u8 ((s : Int) / 16777216)]) ∧ Below w.heap.size w w' := by
  go_enter Tryz.func170, Tryz.ntmps170
  go_wp2
  exact bodyPost_ret (v := .agg #[.int .u8 ((s : Int) % 256), .int .u8 ((s : Int) / 256 % 256), .int .u8 ((s : Int) / 65536 % 256), .int .u8 ((s : Int) / 16777216)]) (by simp [results, Tryz.results170, go_sem]) rfl ⟨rfl, (Below.refl _ _).alloc (Nat.le_refl _) _⟩

set_option maxHeartbeats 2000000 in
set_option maxRecDepth 100000 in
theorem seal_any (b f : Nat) (n : Int) (v : Value) (bs : List Nat) (w : World) (hf : f = 0 ∨ f = 1) (ht : Tab w b f n) (h : BySl b w v bs) (hl : bs.length ≤ 80000) :
    Calls Tryz.prog 140 #[.pointer (some ⟨b, 0, none⟩), v] w fun e w' => ∃ v', e = .returned v' ∧ Own w' w.heap.size v' (bs ++ le4 (more 0 bs)) ∧ Kept b w w' ∧ Tab w' b 1 (wrap64 (n + bs.length)) := by
  have H := hid h
  have T := hid ht
  obtain ⟨a, cap, rfl, r⟩ := h
  clear r ht
  have hm := more_lt 0 bs
  obtain ⟨s, hs⟩ : ∃ s, more 0 bs = s := ⟨_, rfl⟩
  have HS := hid hs
  rw [hs] at hm ⊢
  clear hs
  go_enter Tryz.func140, Tryz.ntmps140
  go_wp2_with fail
  refine (sum_any b f n _ bs _ hf T.out H.out).mono ?_
  rintro e w1 ⟨rfl, hk1, ht1⟩
  rw [HS.out]
  have HK1 := hid hk1
  have HT1 := hid ht1
  clear hk1 ht1
  go_wp2_with fail
  refine (sumBytes_any s hm _).mono ?_
  rintro e w2 ⟨rfl, hb2⟩
  have HB2 := hid hb2
  clear hb2
  go_wp2_with fail
  have hz1 := HK1.out.size
  have hz2 := HB2.out.size
  have hbw : b < w.heap.size := T.out.1
  have hk2 := HK1.out.trans (Kept.below (b := b) HB2.out)
  refine (concat_any b (w2.heap.size + 1) _ _ bs (le4 s) _ (by rw [World.cell?_alloc_at _ _ _ _ (by simp)]; rfl) (by rw [World.cell?_alloc_at _ _ _ _ (by simp)]; rfl) (by simp)
    (H.out.kept ((hk2.alloc _).alloc _)) ((bySl_le4 b w2 (by omega) hm 250).kept ((Kept.refl _ _).alloc _)) (by simp [le4_len]) (by simp [le4_len]; omega)).mono ?_
  rintro e w3 ⟨v, rfl, hown, hbel⟩
  have HO := hid hown
  have HB := hid hbel
  clear hown hbel hz1 hz2
  go_wp2_with fail
  go_ret
  refine ⟨_, rfl, HO.out.mono (by have := hk2.size; simp; omega), ((hk2.alloc _).alloc _).trans (Kept.below HB.out), (((HT1.out.below HB2.out).below ((Below.refl _ _).alloc (Nat.le_refl _) _)).below ((Below.refl _ _).alloc (Nat.le_refl _) _)).below HB.out⟩

end Go.Proofs.YtaaioaocjfpajaaGreatDoor.Crc
end

section
/-
  How records lie in memory; which are right.
-/
namespace Go.Proofs.YtaaioaocjfpajaaGreatDoor
open Go.RowKit
open Tlv (BySlS AgreeS)
open Crc (hid Kept Tab)

theorem Tryz.info35 : (Tryz.prog.info? 56).map (·.size) = some 34 := by kernel_rfl
theorem Tryz.info26 : (Tryz.prog.info? 68).map (·.size) = some 34 := by kernel_rfl

/-- Bytes as cells. -/
def u8s (xs : List Int) : List Value := xs.map (Value.int .u8)
theorem u8s_length (xs : List Int) : (u8s xs).length = xs.length := by simp [u8s]
theorem u8s_one (xs : List Int) : ∀ v ∈ u8s xs, v.oneCell' = true := by intro v hv; obtain ⟨x, _, rfl⟩ := List.mem_map.1 hv; rfl

/-- A record's cells. -/
def recA (k : Int) (nm : List Int) (v : Value) : List Value := .int .i64 k :: (u8s nm ++ [v])
theorem recA_length (k : Int) (nm : List Int) (v : Value) (h : nm.length = 32) : (recA k nm v).length = 34 := by simp [recA, u8s_length, h]
theorem recA_0 (k : Int) (nm : List Int) (v : Value) : (recA k nm v)[0]? = some (.int .i64 k) := rfl
theorem recA_33 (k : Int) (nm : List Int) (v : Value) (h : nm.length = 32) : (recA k nm v)[33]? = some v := by
  rw [recA, List.getElem?_cons_succ, List.getElem?_append_right (by rw [u8s_length, h]; omega), u8s_length, h]; rfl
theorem recA_one (k : Int) (nm : List Int) (a : Option Addr) (l c : Nat) : ∀ v ∈ recA k nm (.slice a l c), v.oneCell' = true := by
  intro v hv
  rcases List.mem_cons.1 hv with rfl | hv
  · rfl
  · rcases List.mem_append.1 hv with hv | hv
    · exact u8s_one _ _ hv
    · rw [List.mem_singleton.1 hv]; rfl

/-- May such a record stand in a pack? -/
def rightB (k : Int) (l : Nat) : Bool := decide (1 ≤ k) && (decide (k ≤ 9) && decide ((l : Int) ≤ 5000))

set_option maxHeartbeats 400000 in
theorem right13_any (C : List Value) (k : Int) (a : Option Addr) (l c : Nat) (w : World) (h0 : C[0]? = some (.int .i64 k)) (h33 : C[33]? = some (.slice a l c)) :
    Calls Tryz.prog 71 #[.agg C.toArray] w fun e w' => e = .returned (.bool (rightB k l)) ∧ Below w.heap.size w w' := by
  go_enter Tryz.func71, Tryz.ntmps71
  go_wp2
  all_goals (go_ret; refine ⟨?_, (Below.refl _ _).alloc (Nat.le_refl _) _⟩; simp [rightB, *] <;> omega)

end Go.Proofs.YtaaioaocjfpajaaGreatDoor
end

section
/-
  What Many of tlv makes.
-/
namespace Go.Proofs.YtaaioaocjfpajaaGreatDoor.Tlv
open Go.RowKit

set_option maxHeartbeats 400000 in
theorem many_any {n : Nat} (ks : List (Tr n)) (v : Value) (w : World) (h : KSl 0 w.heap.size w (Rep 0 w.heap.size w n) v ks) (hn : n < 131072) :
    Calls Tryz.prog 99 #[v] w fun e w' => ∃ sb' sk', e = .returned (.agg #[.int .i64 3, .int .u64 0, sb', sk']) ∧ Rep w.heap.size w'.heap.size w' (n + 1) (Tr.mk 3 0 [] ks) sb' sk' ∧ Below w.heap.size w w' := by
  obtain ⟨ak, ck, rfl, hr⟩ := id h
  clear hr
  have H := hid h
  clear h
  go_enter Tryz.func99, Tryz.ntmps99
  go_wp2_with fail
  have hA : Agree 0 w.heap.size w (w.alloc (Obj.cells #[Value.int IntKind.i64 0, Value.int IntKind.u64 0, Value.slice none 0 0, Value.slice none 0 0] 156)) := (Agree.refl _ _ _).alloc (Nat.le_refl _) _
  have hS : w.heap.size ≤ (w.alloc (Obj.cells #[Value.int IntKind.i64 0, Value.int IntKind.u64 0, Value.slice none 0 0, Value.slice none 0 0] 156)).heap.size := by simp
  refine (clone_any (n + 1) (Tr.mk 3 0 [] ks) _ _ _ _ ⟨by simp [Tr.mk, Tr.hd], by simp [Tr.mk, Tr.hd], BySl.none _ _ _, H.out.agree (fun _ _ _ r => r.agree hA (Nat.le_refl _) hS) hA (Nat.le_refl _) hS⟩ (by omega) (by omega)).mono ?_
  rintro e w1 ⟨sb', sk', rfl, hr1, hb1⟩
  obtain ⟨a3, l3, p3, a4, l4, p4, rfl, rfl⟩ := hr1.sl
  simp only [show (Tr.mk 3 0 [] ks).hd.1 = 3 from rfl, show (Tr.mk 3 0 [] ks).hd.2.1 = 0 from rfl]
  have Hr1 := hid hr1
  have Hb1 := hid hb1
  obtain ⟨hc, hf⟩ := bcell hb1
  have hz := hb1.size
  simp at hz
  have hgw : w.heap.size < w1.heap.size := by omega
  have g0 : w1.cell? ⟨w.heap.size, 0, none⟩ = some (.int .i64 0) := by rw [hc _ _ (by simp)]; simp [go_sem]
  have g1 : w1.cell? ⟨w.heap.size, 1, none⟩ = some (.int .u64 0) := by rw [hc _ _ (by simp)]; simp [go_sem]
  have g2 : w1.cell? ⟨w.heap.size, 2, none⟩ = some (.slice none 0 0) := by rw [hc _ _ (by simp)]; simp [go_sem]
  have g3 : w1.cell? ⟨w.heap.size, 3, none⟩ = some (.slice none 0 0) := by rw [hc _ _ (by simp)]; simp [go_sem]
  have gf : ∀ o, w1.frozen? ⟨w.heap.size, o, none⟩ = false := fun o => by rw [hf _ _ (by simp)]; simp [go_sem]
  clear hc hf hr1 hb1
  go_wp2_with fail
  obtain ⟨q0, q1, q2, q3⟩ := set4_read (u0 := .int .i64 3) (u1 := .int .u64 0) (u2 := .slice a3 l3 p3) (u3 := .slice a4 l4 p4) g0 g1 g2 g3
  refine bodyPost_ret (v := .agg #[.int .i64 3, .int .u64 0, .slice a3 l3 p3, .slice a4 l4 p4]) (by simp [results, Tryz.results99, go_sem, q0, q1, q2, q3, hgw]) rfl ⟨_, _, rfl, ?_, ?_⟩
  · exact Rep.agree (L' := w.heap.size) ((Agree.set4 w1 (.inl (by simp)) _ _ _ _).alloc (by simp) _) (by simp) (by simp) Hr1.out
  · exact (((((Below.refl _ w).alloc (Nat.le_refl _) _).trans (Hb1.out.mono (by simp))).trans (bset4 (Nat.le_refl _) _ _ _ _)).alloc (by simp; omega) _)

end Go.Proofs.YtaaioaocjfpajaaGreatDoor.Tlv
end

section
/-
  The value, in tlv's words, that a right record has; its mathematics.
-/
namespace Go.Proofs.YtaaioaocjfpajaaGreatDoor
open Go.RowKit
open Tlv (Tr BySlS AgreeS Agree)
open Crc (hid Kept Tab)

/-- A record's value. -/
def recT (k : Int) (nm bs : List Int) : Tr 2 := Tr.mk 3 0 [] [(Tr.mk 1 k [] [] : Tr 1), Tr.mk 2 0 nm [], Tr.mk 2 0 bs []]

theorem name_in {W : World} {g o : Nat} {k : Int} {nm : List Int} {v : Value} (h : W.rangeAt g o (recA k nm v)) (hn : nm.length = 32) (hx : ∀ x ∈ nm, 0 ≤ x ∧ x ≤ 255) :
    Tlv.BySl 0 W.heap.size W (.slice (some ⟨g, o + 1, none⟩) 32 32) nm := by
  refine ⟨_, 32, by rw [hn], by omega, by decide, by simp, by omega, hx, fun _ => ⟨g, o + 1, rfl, Nat.zero_le _, ?_, fun i hi => ?_⟩⟩
  · exact World.block_lt_of_cell? _ _ (h 0 _ (recA_0 _ _ _))
  · have := h (1 + i) (.int .u8 (nm.getD i 0)) (by
      rw [recA, Nat.add_comm, List.getElem?_cons_succ, List.getElem?_append_left (by rw [u8s_length]; exact hi)]
      simp [u8s, List.getElem?_eq_getElem hi])
    rw [← this]
    congr 2
    omega

theorem bySl_lift {L : Nat} {V w' : World} {v : Value} {bs : List Int} (h : Tlv.BySl L V.heap.size V v bs) (hb : Below V.heap.size V w') : Tlv.BySl L w'.heap.size w' v bs :=
  h.agree (Agree.below hb) (Nat.le_refl _) hb.size

theorem rep1 {L B : Nat} {w : World} (k : Int) (h0 : 0 ≤ k) (h1 : k ≤ 18446744073709551615) : Tlv.Rep L B w 1 (Tr.mk 1 k [] []) (.slice none 0 0) (.slice none 0 0) :=
  ⟨h0, h1, Tlv.BySl.none _ _ _, Tlv.KSl.none _ _ _ _⟩
theorem rep2 {L B : Nat} {w : World} {v : Value} {bs : List Int} (h : Tlv.BySl L B w v bs) : Tlv.Rep L B w 1 (Tr.mk 2 0 bs []) v (.slice none 0 0) :=
  ⟨Int.le_refl _, by simp [Tr.mk, Tlv.Tr.hd], h, Tlv.KSl.none _ _ _ _⟩

/-- Three values laid in a row. -/
theorem three_in {B : Nat} {w : World} (ts : Tr 1) (tn : Tr 1) (tb : Tr 1) (vn vb : Value) (x0 : Int) (hw : w.heap.size = B)
    (hs : ts = Tr.mk 1 x0 [] []) (h0 : 0 ≤ x0) (h1 : x0 ≤ 18446744073709551615) {nm bs : List Int} (hn : tn = Tr.mk 2 0 nm []) (hb : tb = Tr.mk 2 0 bs []) (bn : Tlv.BySl 0 B w vn nm) (bb : Tlv.BySl 0 B w vb bs) (ty : TypeId) :
    Tlv.KSl 0 (B + 1) (w.alloc (.cells #[.int .i64 1, .int .u64 x0, .slice none 0 0, .slice none 0 0, .int .i64 2, .int .u64 0, vn, .slice none 0 0, .int .i64 2, .int .u64 0, vb, .slice none 0 0] ty))
      (Tlv.Rep 0 (B + 1) (w.alloc (.cells #[.int .i64 1, .int .u64 x0, .slice none 0 0, .slice none 0 0, .int .i64 2, .int .u64 0, vn, .slice none 0 0, .int .i64 2, .int .u64 0, vb, .slice none 0 0] ty)) 1)
      (.slice (some ⟨B, 0, none⟩) 3 3) [ts, tn, tb] := by
  subst hs hn hb hw
  have hA : ∀ o : Obj, Agree 0 w.heap.size w (w.alloc o) := fun o => (Agree.refl _ _ _).alloc (Nat.le_refl _) _
  have hc : ∀ (C : Array Value) (j : Nat), (w.alloc (.cells C ty)).cell? ⟨w.heap.size, j, none⟩ = C[j]? := fun C j => World.cell?_alloc_at _ _ _ _ rfl
  refine ⟨_, 3, rfl, Nat.le_refl _, by decide, by simp, by simp, fun _ => ⟨w.heap.size, 0, rfl, Nat.zero_le _, by omega, fun j t hj => ?_⟩⟩
  match j, hj with
  | 0, hj =>
    simp only [List.getElem?_cons_zero, Option.some.injEq] at hj
    subst hj
    exact ⟨_, _, hc _ _, hc _ _, hc _ _, hc _ _, rep1 _ h0 h1⟩
  | 1, hj =>
    simp only [List.getElem?_cons_succ, List.getElem?_cons_zero, Option.some.injEq] at hj
    subst hj
    exact ⟨_, _, hc _ _, hc _ _, hc _ _, hc _ _, rep2 (bn.agree (hA _) (Nat.le_refl _) (by omega))⟩
  | 2, hj =>
    simp only [List.getElem?_cons_succ, List.getElem?_cons_zero, Option.some.injEq] at hj
    subst hj
    exact ⟨_, _, hc _ _, hc _ _, hc _ _, hc _ _, rep2 (bb.agree (hA _) (Nat.le_refl _) (by omega))⟩

/-- Bytes of tlv, as a walk that holds a world needs it. -/
theorem bytes44 {S : World → Prop} {W0 : World} {L : Nat} {bs : List Int} {v : Value} (hL : bs.length = L) (hS : ∀ V, S V → Below W0.heap.size W0 V) (hb : Tlv.BySl 0 W0.heap.size W0 v bs) :
    ∀ V, S V → Calls Tryz.prog 101 #[v] V fun e w' => ∃ a' c', e = .returned (.agg #[.int .i64 2, .int .u64 0, .slice a' L c', .slice none 0 0]) ∧ (Tlv.BySl W0.heap.size w'.heap.size w' (.slice a' L c') bs ∧ Below V.heap.size V w') := by
  intro V hV
  have hk := hS V hV
  refine (Tlv.bytes_any v bs V (hb.agree (Agree.below hk) (Nat.le_refl _) hk.size)).mono ?_
  rintro e w' ⟨v', rfl, hv, hb'⟩
  obtain ⟨a', c', rfl, hr⟩ := id hv
  refine ⟨a', c', by rw [hL], ?_, hb'⟩
  rw [← hL]
  exact hv.agree (Agree.refl _ _ _) hk.size (Nat.le_refl _)

theorem number43 (n : Int) (V : World) : Calls Tryz.prog 100 #[.int .u64 n] V fun e w' => e = .returned (.agg #[.int .i64 1, .int .u64 n, .slice none 0 0, .slice none 0 0]) ∧ Below V.heap.size V w' := Tlv.number_any n V

theorem many42 {L : Nat} {w : World} {k : Int} {nm bs : List Int} {vn vb : Value} (h0 : 0 ≤ k) (h1 : k ≤ 9) (bn : Tlv.BySl L w.heap.size w vn nm) (bb : Tlv.BySl L w.heap.size w vb bs) :
    Calls Tryz.prog 99 #[.slice (some ⟨w.heap.size, 0, none⟩) 3 3] (w.alloc (.cells #[.int .i64 1, .int .u64 k, .slice none 0 0, .slice none 0 0, .int .i64 2, .int .u64 0, vn, .slice none 0 0, .int .i64 2, .int .u64 0, vb, .slice none 0 0] 156))
      fun e w' => ∃ a3 l3 p3 a4 l4 p4, e = .returned (.agg #[.int .i64 3, .int .u64 0, .slice a3 l3 p3, .slice a4 l4 p4]) ∧ Tlv.Rep w.heap.size w'.heap.size w' 2 (recT k nm bs) (.slice a3 l3 p3) (.slice a4 l4 p4) ∧ Below w.heap.size w w' := by
  have h := three_in (B := w.heap.size) (w := w) (Tr.mk 1 k [] []) (Tr.mk 2 0 nm []) (Tr.mk 2 0 bs []) vn vb k rfl rfl h0 (by omega) rfl rfl (bn.agree (Agree.refl _ _ _) (Nat.zero_le _) (Nat.le_refl _)) (bb.agree (Agree.refl _ _ _) (Nat.zero_le _) (Nat.le_refl _)) 156
  refine (Tlv.many_any _ _ _ (by simpa using h) (by omega)).mono ?_
  rintro e w5 ⟨sb', sk', rfl, hr5, hb5⟩
  obtain ⟨a3, l3, p3, a4, l4, p4, rfl, rfl⟩ := hr5.sl
  exact ⟨_, _, _, _, _, _, rfl, hr5.agree (Agree.refl _ _ _) (by simp) (Nat.le_refl _), ((Below.refl _ w).alloc (Nat.le_refl _) _).trans (hb5.mono (by simp))⟩

set_option maxHeartbeats 2000000 in
set_option maxRecDepth 100000 in
theorem value_any (k : Int) (nm bs : List Int) (v : Value) (w : World) (hk0 : 1 ≤ k) (hk1 : k ≤ 9) (hn : nm.length = 32) (hx : ∀ x ∈ nm, 0 ≤ x ∧ x ≤ 255) (hb : Tlv.BySl 0 w.heap.size w v bs) :
    Calls Tryz.prog 73 #[.agg (recA k nm v).toArray] w fun e w' => ∃ sb sk, e = .returned (.agg #[.int .i64 3, .int .u64 0, sb, sk]) ∧ Tlv.Rep w.heap.size w'.heap.size w' 2 (recT k nm bs) sb sk ∧ Below w.heap.size w w' := by
  obtain ⟨a, cap, rfl, hr⟩ := id hb
  clear hr
  have HB := hid hb
  have hc0 := recA_0 k nm (.slice a bs.length cap)
  have hc33 := recA_33 k nm (.slice a bs.length cap) hn
  have HN := hid hn
  have HX := hid hx
  clear hb hn hx
  obtain ⟨C, hC⟩ : ∃ C, recA k nm (.slice a bs.length cap) = C := ⟨_, rfl⟩
  have HC := hid hC
  rw [hC] at hc0 hc33
  rw [hC]
  clear hC
  go_enter Tryz.func73, Tryz.ntmps73
  go_wp2
  obtain ⟨W0, hW0⟩ : ∃ W0, (w.alloc (.cells C.toArray 56)).alloc (.cells #[.int .i64 0, .int .u64 0, .slice none 0 0, .slice none 0 0] 156) = W0 := ⟨_, rfl⟩
  have hz : W0.heap.size = w.heap.size + 2 := by rw [← hW0]; simp
  have hbel : Below w.heap.size w W0 := by rw [← hW0]; exact ((Below.refl _ _).alloc (Nat.le_refl _) _).alloc (by simp) _
  have hrg : W0.rangeAt w.heap.size 0 C := by
    rw [← hW0]
    refine World.rangeAt_alloc (fun j v hv => ?_) _
    rw [Nat.zero_add, World.cell?_alloc_at _ _ _ _ rfl]
    simpa using hv
  have HG : Hid (∀ j u, (#[.int .i64 0, .int .u64 0, .slice none 0 0, .slice none 0 0] : Array Value)[j]? = some u → W0.cell? ⟨w.heap.size + 1, j, none⟩ = some u) := fun j u hj => by
    rw [← hW0, World.cell?_alloc_at _ _ _ _ (by simp), hj]
  have HF : Hid (∀ j, W0.frozen? ⟨w.heap.size + 1, j, none⟩ = false) := fun j => by
    rw [← hW0, World.frozen?_alloc_at _ _ _ _ (by simp)]
  rw [hW0]
  clear hW0
  have r0 : ∀ V, Below (w.heap.size + 1) W0 V → V.cell? ⟨w.heap.size, 0, none⟩ = some (.int .i64 k) := fun V h => (h.cell (p := ⟨w.heap.size, 0, none⟩) (by simp)).trans (hrg 0 _ hc0)
  have r33 : ∀ V, Below (w.heap.size + 1) W0 V → V.cell? ⟨w.heap.size, 33, none⟩ = some (.slice a bs.length cap) := fun V h => (h.cell (p := ⟨w.heap.size, 33, none⟩) (by simp)).trans (by have := hrg 33 _ hc33; simpa using this)
  have hwn := name_in (by rw [HC.out]; exact hrg) HN.out HX.out
  rw [Nat.zero_add] at hwn
  have K44n := hid (bytes44 (S := fun V => Below W0.heap.size W0 V) HN.out (fun V h => h) hwn)
  have K44b := hid (bytes44 (S := fun V => Below W0.heap.size W0 V) (L := bs.length) rfl (fun V h => h) (HB.out.agree (Agree.below hbel) (Nat.le_refl _) hbel.size))
  have HZ := hid hz
  have HZ2 : Hid (w.heap.size + 1 ≤ W0.heap.size) := by rw [Hid]; omega
  have HBEL := hid hbel
  clear hz hbel hrg hwn hc0 hc33
  have hwk : IntKind.u64.wrap k = k := by rw [IntKind.wrap_u64]; omega
  go_region_held3 (fun V => Below (w.heap.size + 1) W0 V) (first | (with_reducible exact Below.refl _ _) | (with_reducible exact (Below.refl _ _).drew) | (with_reducible exact HK2.out.mono HZ2.out) | (with_reducible exact HK3.out.mono HZ2.out) | (with_reducible exact HK4.out.mono HZ2.out) | (with_reducible exact (HK4.out.alloc HK4.out.size _).mono HZ2.out) | (with_reducible exact HK5.out.mono HZ2.out) | (with_reducible exact (HK5.out.mono HZ2.out).trans (Tlv.bset4 (Nat.le_refl _) _ _ _ _))) (first
    | (go_at_call 100; refine (number43 _ _).mono ?_; rintro e w2 ⟨rfl, hb2⟩; have HK2 : Hid (Below W0.heap.size W0 w2) := (Below.refl _ _).drew.trans hb2; clear hb2)
    | (go_at_call_of 101 (Value.slice (some ⟨w.heap.size, 1, none⟩) 32 32); refine (K44n.out _ ?_).mono ?_; (with_reducible exact HK2.out); rintro e w3 ⟨an, cn, rfl, hv3, hb3⟩; have HV3 := hid hv3; have HK3 : Hid (Below W0.heap.size W0 w3) := HK2.out.trans (hb3.mono HK2.out.size); clear hv3 hb3)
    | (go_at_call_of 101 (Value.slice a bs.length cap); refine (K44b.out _ ?_).mono ?_; (with_reducible exact HK3.out); rintro e w4 ⟨ab, cb, rfl, hv4, hb4⟩; have HV3' := hid (bySl_lift HV3.out hb4); have HV4 := hid hv4; have HK4 : Hid (Below W0.heap.size W0 w4) := HK3.out.trans (hb4.mono HK3.out.size); clear hv4 hb4 HV3)
    | (go_at_call 99; refine (many42 (by omega) hk1 HV3'.out HV4.out).mono ?_; rintro e w5 ⟨a3, l3, p3, a4, l4, p4, rfl, hr5, hb5⟩; have HR5 := hid hr5; have HK5 : Hid (Below W0.heap.size W0 w5) := HK4.out.trans (hb5.mono HK4.out.size); have hz5 : w.heap.size + 1 < w5.heap.size := (by have h1 := HK5.out.size; have h2 := HZ.out; omega); have hf5 : ∀ j, w5.frozen? ⟨w.heap.size + 1, j, none⟩ = false := (fun j => (HK5.out.frozen (p := ⟨w.heap.size + 1, j, none⟩) (by have h2 := HZ.out; simp; omega)).trans (HF.out j)); have hc5 : ∀ j u, (#[.int .i64 0, .int .u64 0, .slice none 0 0, .slice none 0 0] : Array Value)[j]? = some u → w5.cell? ⟨w.heap.size + 1, j, none⟩ = some u := (fun j u hj => (HK5.out.cell (p := ⟨w.heap.size + 1, j, none⟩) (by have h2 := HZ.out; simp; omega)).trans (HG.out j u hj)); have g0 := hc5 0 _ rfl; have g1 := hc5 1 _ rfl; have g2 := hc5 2 _ rfl; have g3 := hc5 3 _ rfl; clear hr5 hb5 hc5))
  go_wp2_with fail
  obtain ⟨q0, q1, q2, q3⟩ := Tlv.set4_read (u0 := .int .i64 3) (u1 := .int .u64 0) (u2 := .slice a3 l3 p3) (u3 := .slice a4 l4 p4) g0 g1 g2 g3
  refine bodyPost_ret (v := .agg #[.int .i64 3, .int .u64 0, .slice a3 l3 p3, .slice a4 l4 p4]) (by simp [results, Tryz.results73, go_sem, q0, q1, q2, q3]) rfl ⟨_, _, rfl, ?_, ?_⟩
  · have h1 := HK4.out.size
    have h2 := HZ.out
    exact HR5.out.agree (Agree.set4 _ (.inl (by omega)) _ _ _ _) (by omega) (by simp)
  · exact HBEL.out.trans (((HK5.out.mono HZ2.out).mono (Nat.le_succ _)).trans (Tlv.bset4 (Nat.le_succ _) _ _ _ _))
end Go.Proofs.YtaaioaocjfpajaaGreatDoor
end

section
/-
  Bits within 32 that follow one another are told: in plain mathematics.
-/
namespace Go.Proofs.YtaaioaocjfpajaaGreatDoor.Crc
open Go.RowKit

/-- Bit p of bytes is turned. -/
def flip (xs : List Nat) (p : Nat) : List Nat := xs.set (p / 8) (xs.getD (p / 8) 0 ^^^ 2 ^ (p % 8))
/-- The first k of the bits are turned, from place p on. -/
def turn (xs : List Nat) (p m : Nat) : Nat → List Nat
  | 0 => xs
  | k + 1 => if m.testBit k then flip (turn xs p m k) (p + k) else turn xs p m k

end Go.Proofs.YtaaioaocjfpajaaGreatDoor.Crc
end

section
/-
  Plain mathematics of frames: a record's form, and what is read of one.
-/
namespace Go.Proofs.YtaaioaocjfpajaaGreatDoor
open Go.RowKit
open Tlv (Tr)

def nats (xs : List Int) : List Nat := xs.map Int.toNat
def ints (xs : List Nat) : List Int := xs.map fun x : Nat => (x : Int)
theorem nats_length (xs : List Int) : (nats xs).length = xs.length := by simp [nats]
theorem ints_length (xs : List Nat) : (ints xs).length = xs.length := by simp [ints]
theorem nats_ints (xs : List Nat) : nats (ints xs) = xs := by simp [nats, ints, Function.comp_def]
theorem nats_append (a b : List Int) : nats (a ++ b) = nats a ++ nats b := by simp [nats]
theorem ints_nats (xs : List Int) (h : ∀ x ∈ xs, 0 ≤ x ∧ x ≤ 255) : ints (nats xs) = xs := by
  induction xs with
  | nil => rfl
  | cons x xs ih =>
    have h1 := h x (List.mem_cons_self ..)
    have e : ints (nats (x :: xs)) = (x.toNat : Int) :: ints (nats xs) := rfl
    rw [e, ih (fun y hy => h y (List.mem_cons_of_mem _ hy)), Int.toNat_of_nonneg h1.1]
theorem nats_lt (xs : List Int) (h : ∀ x ∈ xs, 0 ≤ x ∧ x ≤ 255) : ∀ x ∈ nats xs, x < 256 := by
  intro x hx
  obtain ⟨y, hy, rfl⟩ := List.mem_map.1 hx
  have := h y hy
  omega
theorem ints_bd (xs : List Nat) (h : ∀ x ∈ xs, x < 256) : ∀ x ∈ ints xs, 0 ≤ x ∧ x ≤ 255 := by
  intro x hx
  obtain ⟨y, hy, rfl⟩ := List.mem_map.1 hx
  have := h y hy
  omega

/-- The sum behind. -/
def sumI (xs : List Int) : List Int := ints (Crc.le4 (Crc.more 0 (nats xs)))
/-- Bytes with their sum behind them. -/
def sealI (xs : List Int) : List Int := xs ++ sumI xs
theorem sumI_length (xs : List Int) : (sumI xs).length = 4 := by rw [sumI, ints_length, Crc.le4_len]
theorem sealI_length (xs : List Int) : (sealI xs).length = xs.length + 4 := by rw [sealI, List.length_append, sumI_length]
theorem sealI_nats (xs : List Int) : nats (sealI xs) = nats xs ++ Crc.le4 (Crc.more 0 (nats xs)) := by rw [sealI, nats_append, sumI, nats_ints]
theorem sealI_bd (xs : List Int) (h : ∀ x ∈ xs, 0 ≤ x ∧ x ≤ 255) : ∀ x ∈ sealI xs, 0 ≤ x ∧ x ≤ 255 := by
  intro x hx
  rcases List.mem_append.1 hx with hx | hx
  · exact h x hx
  · exact ints_bd _ (Crc.le4_lt (Crc.more_lt _ _)) x hx

/-- What a right record is. -/
def RightR (k : Int) (nm bs : List Int) : Prop := 1 ≤ k ∧ k ≤ 9 ∧ bs.length ≤ 5000 ∧ nm.length = 32 ∧ (∀ x ∈ nm, 0 ≤ x ∧ x ≤ 255) ∧ ∀ x ∈ bs, 0 ≤ x ∧ x ≤ 255

/-- A record's form. -/
def formR (k : Int) (nm bs : List Int) : List Int := Tlv.formOf 2 (recT k nm bs)
/-- Its frame. -/
def frameR (k : Int) (nm bs : List Int) : List Int := sealI (formR k nm bs)

theorem nsz_small {k : Int} (h0 : 1 ≤ k) (h1 : k ≤ 9) : Tlv.nsz k = 1 := by
  have : k = 1 ∨ k = 2 ∨ k = 3 ∨ k = 4 ∨ k = 5 ∨ k = 6 ∨ k = 7 ∨ k = 8 ∨ k = 9 := by omega
  rcases this with rfl | rfl | rfl | rfl | rfl | rfl | rfl | rfl | rfl <;> decide

theorem recT_right {k : Int} {nm bs : List Int} (h : RightR k nm bs) : (Tlv.bsz 2 (recT k nm bs) 65535 8).2 = true := by
  obtain ⟨h0, h1, hl, hn, _, _⟩ := h
  rw [recT, Tlv.bsz_3 _ _ _ (by omega), Tlv.lsz_go (by omega)]
  have e := nsz_small h0 h1
  simp only [Tlv.lszGo]
  rw [Tlv.bsz_1 _ _ _ (by omega), e]
  simp only [show decide ((1 : Int) ≤ 65535 - 0 - 3) = true from rfl, if_true]
  rw [Tlv.bsz_2 _ _ _ (by omega), hn]
  simp only [show decide (((32 : Nat) : Int) ≤ 65535 - (0 + (3 + 1)) - 3) = true from rfl, if_true]
  rw [Tlv.bsz_2 _ _ _ (by omega)]
  simp only [show decide ((bs.length : Int) ≤ 65535 - (0 + (3 + 1) + (3 + ((32 : Nat) : Int))) - 3) = true by simp; omega, if_true]

theorem recT_num {k : Int} {nm bs : List Int} (h0 : 1 ≤ k) (h1 : k ≤ 9) : Tlv.NumOk 2 (recT k nm bs) := by
  have z : ∀ (n : Nat) (x : Int) (ys : List Int), 0 ≤ x → x ≤ 18446744073709551615 → Tlv.NumOk (0 + 1) (Tr.mk n x ys []) := fun n x ys a b => ⟨a, b, fun k hk => by cases hk⟩
  refine ⟨by simp [recT, Tr.mk, Tlv.Tr.hd], by simp [recT, Tr.mk, Tlv.Tr.hd], fun x hx => ?_⟩
  have hx' : x = (Tr.mk 1 k [] [] : Tr 1) ∨ x = Tr.mk 2 0 nm [] ∨ x = Tr.mk 2 0 bs [] := by
    have h : x ∈ [(Tr.mk 1 k [] [] : Tr 1), Tr.mk 2 0 nm [], Tr.mk 2 0 bs []] := hx
    simpa using h
  rcases hx' with rfl | rfl | rfl
  · exact z 1 k [] (by omega) (by omega)
  · exact z 2 0 nm (by omega) (by omega)
  · exact z 2 0 bs (by omega) (by omega)

/-- The form, byte by byte. -/
theorem formR_eq {k : Int} {nm bs : List Int} (h : RightR k nm bs) : formR k nm bs =
    3 :: ((42 + bs.length : Nat) : Int) / 256 :: ((42 + bs.length : Nat) : Int) % 256 :: (1 :: 0 :: 1 :: k :: 2 :: 0 :: 32 :: (nm ++ 2 :: (bs.length : Int) / 256 :: (bs.length : Int) % 256 :: bs)) := by
  obtain ⟨h0, h1, hl, hn, _, _⟩ := h
  have e := nsz_small h0 h1
  have b1 : Tlv.bodyOf 1 (Tr.mk 1 k [] []) = [k] := by
    have : Tlv.bodyOf 1 (Tr.mk 1 k [] []) = Tlv.numB (Tlv.nsz k).toNat k := rfl
    rw [this, e]
    have : Tlv.numB (1 : Int).toNat k = [k / 1 % 256] := rfl
    rw [this]
    congr 1
    omega
  have b2 : ∀ xs, Tlv.bodyOf 1 (Tr.mk 2 0 xs []) = xs := fun _ => rfl
  have f1 : Tlv.formOf 1 (Tr.mk 1 k [] []) = [1, 0, 1, k] := by
    have : Tlv.formOf 1 (Tr.mk 1 k [] []) = 1 :: ((Tlv.bodyOf 1 (Tr.mk 1 k [] [])).length / 256 : Int) :: ((Tlv.bodyOf 1 (Tr.mk 1 k [] [])).length % 256 : Int) :: Tlv.bodyOf 1 (Tr.mk 1 k [] []) := rfl
    rw [this, b1]
    simp
  have f2 : ∀ xs : List Int, Tlv.formOf 1 (Tr.mk 2 0 xs []) = 2 :: (xs.length : Int) / 256 :: (xs.length : Int) % 256 :: xs := fun _ => rfl
  have bd : Tlv.bodyOf 2 (recT k nm bs) = 1 :: 0 :: 1 :: k :: 2 :: 0 :: 32 :: (nm ++ 2 :: (bs.length : Int) / 256 :: (bs.length : Int) % 256 :: bs) := by
    rw [Tlv.bodyOf_kids rfl]
    have : (recT k nm bs).kd.map (Tlv.formOf 1) = [Tlv.formOf 1 (Tr.mk 1 k [] []), Tlv.formOf 1 (Tr.mk 2 0 nm []), Tlv.formOf 1 (Tr.mk 2 0 bs [])] := rfl
    rw [this, f1, f2, f2, hn]
    simp
  have : formR k nm bs = 3 :: ((Tlv.bodyOf 2 (recT k nm bs)).length / 256 : Int) :: ((Tlv.bodyOf 2 (recT k nm bs)).length % 256 : Int) :: Tlv.bodyOf 2 (recT k nm bs) := rfl
  rw [this, bd]
  have hlen : (1 :: 0 :: 1 :: k :: 2 :: 0 :: 32 :: (nm ++ 2 :: (bs.length : Int) / 256 :: (bs.length : Int) % 256 :: bs)).length = 42 + bs.length := by
    simp [hn]; omega
  rw [hlen]

theorem formR_length {k : Int} {nm bs : List Int} (h : RightR k nm bs) : (formR k nm bs).length = 45 + bs.length := by
  rw [formR_eq h]
  have := h.2.2.2.1
  simp [this]; omega

theorem frameR_length {k : Int} {nm bs : List Int} (h : RightR k nm bs) : (frameR k nm bs).length = 49 + bs.length := by
  rw [frameR, sealI_length, formR_length h]; omega

theorem formR_bd {k : Int} {nm bs : List Int} (h : RightR k nm bs) : ∀ x ∈ formR k nm bs, 0 ≤ x ∧ x ≤ 255 := by
  rw [formR_eq h]
  obtain ⟨h0, h1, hl, hn, hx, hy⟩ := h
  intro x hm
  simp only [List.mem_cons, List.mem_append] at hm
  rcases hm with rfl | rfl | rfl | rfl | rfl | rfl | rfl | rfl | rfl | rfl | hm | rfl | rfl | rfl | hm
  all_goals first | omega | exact hx x hm | exact hy x hm

theorem frameR_bd {k : Int} {nm bs : List Int} (h : RightR k nm bs) : ∀ x ∈ frameR k nm bs, 0 ≤ x ∧ x ≤ 255 := sealI_bd _ (formR_bd h)

theorem szT_rec {k : Int} {nm bs : List Int} (h : RightR k nm bs) : Tlv.szT 2 (recT k nm bs) = ((45 + bs.length : Nat) : Int) := by
  have h1 := recT_right h
  rw [Tlv.szT, if_pos h1, Tlv.bsz_len _ _ _ _ h1]
  have h2 := formR_length h
  have h3 : (formR k nm bs).length = 3 + (Tlv.bodyOf 2 (recT k nm bs)).length := by rw [formR]; simp [Tlv.formOf]; omega
  omega

/-- The record whose value a tree is. -/
def recOf (t : Tr 9) : Option (Int × List Int × List Int) :=
  match t.kd with
  | [a, b, c] => if t.hd.1 = 3 ∧ a.hd.1 = 1 ∧ b.hd.1 = 2 ∧ c.hd.1 = 2 ∧ b.hd.2.2.length = 32 ∧ 1 ≤ a.hd.2.1 ∧ a.hd.2.1 ≤ 9 ∧ c.hd.2.2.length ≤ 5000 then some (a.hd.2.1, b.hd.2.2, c.hd.2.2) else none
  | _ => none

theorem bsz_oe {n : Nat} {t : Tr (n + 1)} {room deep : Int} (h : (Tlv.bsz (n + 1) t room deep).2 = true) : (t.hd.1 = 1 ∨ t.hd.2.1 = 0) ∧ (t.hd.1 = 2 ∨ t.hd.2.2 = []) ∧ (t.hd.1 = 3 ∨ t.kd = []) := by
  simp only [Tlv.bsz] at h
  split at h
  · simp at h
  · rename_i h0
    have h1 := (not_or.1 h0).2
    have h2 : Tlv.oeB t.hd.1 t.hd.2.1 t.hd.2.2.length t.kd.length = true := by simpa using h1
    have h3 := Tlv.oeB_iff.1 h2
    refine ⟨h3.1, h3.2.1.imp id List.length_eq_zero_iff.1, h3.2.2.imp id List.length_eq_zero_iff.1⟩

theorem same_leaf {a : Tr 8} {tag x : Int} {ys : List Int} : Tlv.sameT 8 a 1 (Tr.mk tag x ys []) = true ↔ a.hd = (tag, x, ys) ∧ a.kd = [] := by
  simp only [Tlv.sameT, Bool.and_eq_true, decide_eq_true_eq]
  refine ⟨fun h => ⟨h.1, ?_⟩, fun h => ⟨h.1, ?_⟩⟩
  · have := Tlv.sameL_len h.2
    exact List.length_eq_zero_iff.1 this
  · rw [h.2]; rfl

theorem same_rec {t : Tr 9} {a b c : Tr 8} (hk : t.kd = [a, b, c]) (hr : (Tlv.bsz 9 t 65535 8).2 = true) (k : Int) (nm bs : List Int) :
    Tlv.sameT 9 t 2 (recT k nm bs) = true ↔ t.hd.1 = 3 ∧ a.hd.1 = 1 ∧ a.hd.2.1 = k ∧ b.hd.1 = 2 ∧ b.hd.2.2 = nm ∧ c.hd.1 = 2 ∧ c.hd.2.2 = bs := by
  have e : Tlv.sameT 9 t 2 (recT k nm bs) = (decide (t.hd = (3, 0, [])) && Tlv.sameL (fun a b => Tlv.sameT 8 a 1 b) t.kd [Tr.mk 1 k [] [], Tr.mk 2 0 nm [], Tr.mk 2 0 bs []]) := rfl
  rw [e, hk]
  simp only [Tlv.sameL, Bool.and_eq_true, decide_eq_true_eq, same_leaf, and_true]
  have ht := bsz_oe hr
  constructor
  · rintro ⟨h1, ⟨h2, h3⟩, ⟨h4, h5⟩, h6, h7⟩
    exact ⟨by rw [h1], by rw [h2], by rw [h2], by rw [h4], by rw [h4], by rw [h6], by rw [h6]⟩
  · rintro ⟨h1, h2, h3, h4, h5, h6, h7⟩
    have hf := (Tlv.Rt.facts ⟨8, hr⟩).2.2.2 h1
    rw [hk] at hf
    obtain ⟨_, _, da, ra⟩ := hf a (by simp)
    obtain ⟨_, _, db, rb⟩ := hf b (by simp)
    obtain ⟨_, _, dc, rc⟩ := hf c (by simp)
    have oa := bsz_oe ra
    have ob := bsz_oe rb
    have oc := bsz_oe rc
    have p : ∀ (n : Nat) (u : Tr n) (x y : Int) (zs : List Int), u.hd.1 = x → u.hd.2.1 = y → u.hd.2.2 = zs → u.hd = (x, y, zs) := fun n u x y zs p q r => by rw [← p, ← q, ← r]
    refine ⟨p _ _ _ _ _ h1 (ht.1.resolve_left (by omega)) (ht.2.1.resolve_left (by omega)), ⟨p _ _ _ _ _ h2 h3 (oa.2.1.resolve_left (by omega)), oa.2.2.resolve_left (by omega)⟩, ⟨p _ _ _ _ _ h4 (ob.1.resolve_left (by omega)) h5, ob.2.2.resolve_left (by omega)⟩, p _ _ _ _ _ h6 (oc.1.resolve_left (by omega)) h7, oc.2.2.resolve_left (by omega)⟩

/-- What is copied into 32 bytes. -/
def pad32 (xs : List Int) : List Int := xs.take 32 ++ List.replicate (32 - xs.length) 0
theorem pad32_length (xs : List Int) : (pad32 xs).length = 32 := by simp [pad32]; omega
theorem pad32_same (xs : List Int) : xs = pad32 xs ↔ xs.length = 32 := by
  constructor
  · intro h; rw [h, pad32_length]
  · intro h; rw [pad32, h, List.take_of_length_le (by omega)]; simp

/-- The way the program goes: make the value anew, and look whether it is the same. -/
theorem recOf_eq {t : Tr 9} {a b c : Tr 8} (hk : t.kd = [a, b, c]) (hr : (Tlv.bsz 9 t 65535 8).2 = true) {k : Int} (h0 : 0 ≤ a.hd.2.1) (h1 : a.hd.2.1 ≤ 18446744073709551615) (hw : k = wrap64 a.hd.2.1) :
    recOf t = if rightB k c.hd.2.2.length = true ∧ Tlv.sameT 9 t 2 (recT k (pad32 b.hd.2.2) c.hd.2.2) = true then some (k, pad32 b.hd.2.2, c.hd.2.2) else none := by
  rw [recOf, hk]
  simp only [same_rec hk hr]
  have hwk : 1 ≤ k → k ≤ 9 → a.hd.2.1 = k := by
    intro a1 a2
    rw [hw] at a1 a2 ⊢
    unfold wrap64 at a1 a2 ⊢
    omega
  by_cases hc : t.hd.1 = 3 ∧ a.hd.1 = 1 ∧ b.hd.1 = 2 ∧ c.hd.1 = 2 ∧ b.hd.2.2.length = 32 ∧ 1 ≤ a.hd.2.1 ∧ a.hd.2.1 ≤ 9 ∧ c.hd.2.2.length ≤ 5000
  · obtain ⟨c1, c2, c3, c4, c5, c6, c7, c8⟩ := hc
    have hka : k = a.hd.2.1 := by rw [hw, IntWalk.wrap64_in _ ⟨by omega, by omega⟩]
    rw [if_pos ⟨c1, c2, c3, c4, c5, c6, c7, c8⟩, if_pos]
    · rw [hka, ← (pad32_same _).2 c5]
    · refine ⟨by simp [rightB]; omega, c1, c2, hka.symm, c3, (pad32_same _).2 c5, c4, trivial⟩
  · rw [if_neg hc, if_neg]
    rintro ⟨hr1, s1, s2, s3, s4, s5, s6, _⟩
    simp [rightB] at hr1
    exact hc ⟨s1, s2, s4, s6, (pad32_same _).1 s5, by omega, by omega, by omega⟩

/-- No record, but a fault. -/
def noRec (f : Int) : Int × (Int × List Int × List Int) × Nat := (f, (0, List.replicate 32 0, []), 0)
/-- What Take answers: the fault, the record, how many bytes. -/
def takeF (bs : List Int) : Int × (Int × List Int × List Int) × Nat :=
  match Tlv.rd 8 bs with
  | none => noRec 16
  | some (t, m) =>
    if bs.length - m < 4 then noRec 16
    else if sumI (bs.take m) ≠ (bs.drop m).take 4 then noRec 4
    else match recOf t with
      | none => noRec 3
      | some r => (0, r, m + 4)

theorem endOf_ge (bs : List Int) : 3 ≤ Tlv.endOf bs := by unfold Tlv.endOf; omega
theorem endOf_of {bs cs : List Int} (h1 : bs[1]? = cs[1]?) (h2 : bs[2]? = cs[2]?) : Tlv.endOf bs = Tlv.endOf cs := by
  unfold Tlv.endOf
  rw [List.getD_eq_getElem?_getD, List.getD_eq_getElem?_getD, List.getD_eq_getElem?_getD, List.getD_eq_getElem?_getD, h1, h2]
theorem endOf_take (bs : List Int) {E : Nat} (h3 : 3 ≤ E) : Tlv.endOf (bs.take E) = Tlv.endOf bs :=
  endOf_of (by rw [List.getElem?_take_of_lt (by omega)]) (by rw [List.getElem?_take_of_lt (by omega)])

theorem rd_short {bs : List Int} (h : bs.length < 3) : Tlv.rd 8 bs = none := by rw [Tlv.rd_eq, Tlv.rd1, if_pos h]
theorem rd_cut {bs : List Int} (h : bs.length < Tlv.endOf bs) : Tlv.rd 8 bs = none := by
  rw [Tlv.rd_eq, Tlv.rd1]
  by_cases h3 : bs.length < 3
  · rw [if_pos h3]
  · rw [if_neg h3, if_pos h]
theorem rd_end {bs : List Int} {t : Tr 9} {m : Nat} (h : Tlv.rd 8 bs = some (t, m)) : m = Tlv.endOf bs := by
  rw [Tlv.rd_eq, Tlv.rd1] at h
  split at h
  · simp at h
  · split at h
    · simp at h
    · simp only [Option.map_eq_some_iff, Prod.mk.injEq] at h
      obtain ⟨_, _, _, rfl⟩ := h
      rfl

/-- The form cut out by its own head. -/
theorem get_take {bs : List Int} (h3 : 3 ≤ bs.length) (hE : Tlv.endOf bs ≤ bs.length) : Tlv.getT (bs.take (Tlv.endOf bs)) = (Tlv.rd 8 bs).map Prod.fst := by
  have g3 := endOf_ge bs
  have hl : (bs.take (Tlv.endOf bs)).length = Tlv.endOf bs := by rw [List.length_take]; omega
  have e : Tlv.rd 8 (bs.take (Tlv.endOf bs)) = Tlv.rd 8 bs := by
    rw [Tlv.rd_eq, Tlv.rd_eq, Tlv.rd1, Tlv.rd1, endOf_take _ g3, hl, if_neg (by omega), if_neg (by omega), if_neg (by omega), if_neg (by omega), List.take_take, Nat.min_self]
    rw [List.getD_eq_getElem?_getD, List.getD_eq_getElem?_getD, List.getElem?_take_of_lt (by omega)]
  unfold Tlv.getT
  rw [e, hl]
  cases h : Tlv.rd 8 bs with
  | none => rfl
  | some x =>
    obtain ⟨t, m⟩ := x
    have := rd_end h
    simp [this]

theorem takeF_none {bs : List Int} (h : Tlv.rd 8 bs = none) : takeF bs = noRec 16 := by rw [takeF, h]
theorem takeF_some {bs : List Int} {t : Tr 9} {m : Nat} (h : Tlv.rd 8 bs = some (t, m)) : takeF bs = if bs.length - m < 4 then noRec 16
    else if sumI (bs.take m) ≠ (bs.drop m).take 4 then noRec 4
    else match recOf t with
      | none => noRec 3
      | some r => (0, r, m + 4) := by rw [takeF, h]

theorem takeF_pos {bs : List Int} (h : (takeF bs).1 = 0) : 4 ≤ (takeF bs).2.2 ∧ (takeF bs).2.2 ≤ bs.length := by
  cases hr : Tlv.rd 8 bs with
  | none => rw [takeF_none hr] at h; simp [noRec] at h
  | some x =>
    obtain ⟨t, m⟩ := x
    have hm := Tlv.rd_pos hr
    rw [takeF_some hr] at h ⊢
    by_cases h1 : bs.length - m < 4
    · rw [if_pos h1] at h; simp [noRec] at h
    · rw [if_neg h1] at h ⊢
      by_cases h2 : sumI (bs.take m) ≠ (bs.drop m).take 4
      · rw [if_pos h2] at h; simp [noRec] at h
      · rw [if_neg h2] at h ⊢
        cases hq : recOf t with
        | none => simp [hq, noRec] at h
        | some r => simp; omega

/-- A record's frame, whatever is behind it. -/
theorem take_frame {k : Int} {nm bs : List Int} (h : RightR k nm bs) (rest : List Int) : takeF (frameR k nm bs ++ rest) = (0, (k, nm, bs), 49 + bs.length) := by
  have hl := formR_length h
  obtain ⟨t, hr, hs⟩ := Tlv.form_rd 2 8 (recT k nm bs) 65535 (sumI (formR k nm bs) ++ rest) (recT_num h.1 h.2.1) (by omega) (recT_right h)
  have e : frameR k nm bs ++ rest = formR k nm bs ++ (sumI (formR k nm bs) ++ rest) := by rw [frameR, sealI, List.append_assoc]
  have hr' : Tlv.rd 8 (formR k nm bs ++ (sumI (formR k nm bs) ++ rest)) = some (t, (formR k nm bs).length) := hr
  have hbt : (Tlv.bsz 9 t 65535 8).2 = true := by
    have hb : Tlv.rd 8 (formR k nm bs) = some (t, (formR k nm bs).length) := by
      obtain ⟨t2, hr2, _⟩ := Tlv.form_rd 2 8 (recT k nm bs) 65535 [] (recT_num h.1 h.2.1) (by omega) (recT_right h)
      have hr3 : Tlv.rd 8 (formR k nm bs ++ []) = some (t2, (formR k nm bs).length) := hr2
      rw [List.append_nil] at hr3
      have := Tlv.rd_append hr3 (sumI (formR k nm bs) ++ rest)
      rw [hr'] at this
      rw [hr3, this]
    exact (Tlv.rd_form 8 _ t _ (formR_bd h) hb).2
  have hrec : recOf t = some (k, nm, bs) := by
    have e1 : Tlv.sameT 9 t 2 (recT k nm bs) = (decide (t.hd = (3, 0, [])) && Tlv.sameL (fun a b => Tlv.sameT 8 a 1 b) t.kd [Tr.mk 1 k [] [], Tr.mk 2 0 nm [], Tr.mk 2 0 bs []]) := rfl
    have hs2 := hs
    rw [e1, Bool.and_eq_true] at hs2
    have hlen := Tlv.sameL_len hs2.2
    match hk : t.kd, hlen with
    | [a, b, c], _ =>
      obtain ⟨s1, s2, s3, s4, s5, s6, s7⟩ := (same_rec hk hbt k nm bs).1 hs
      obtain ⟨g1, g2, g3, g4, _, _⟩ := h
      rw [recOf, hk]
      simp only []
      rw [if_pos ⟨s1, s2, s4, s6, by rw [s5]; exact g4, by omega, by omega, by rw [s7]; exact g3⟩, s3, s5, s7]
  rw [e, takeF_some hr', hrec]
  have h4 := sumI_length (formR k nm bs)
  have hf : ¬ (formR k nm bs ++ (sumI (formR k nm bs) ++ rest)).length - (formR k nm bs).length < 4 := by simp [h4]
  have ht : (formR k nm bs ++ (sumI (formR k nm bs) ++ rest)).take (formR k nm bs).length = formR k nm bs := by rw [List.take_left']; rfl
  have hd : ((formR k nm bs ++ (sumI (formR k nm bs) ++ rest)).drop (formR k nm bs).length).take 4 = sumI (formR k nm bs) := by rw [List.drop_left' rfl, List.take_left' h4]
  rw [if_neg hf, ht, hd, if_neg (fun h => h rfl)]
  simp only [hl]
  congr 2
  omega

/-- A frame that is cut off. -/
theorem take_cut {k : Int} {nm bs : List Int} (h : RightR k nm bs) {c : Nat} (hc : c < 49 + bs.length) : takeF ((frameR k nm bs).take c) = noRec 16 := by
  have hl := formR_length h
  by_cases h1 : c < (formR k nm bs).length
  · have e : (frameR k nm bs).take c = (formR k nm bs).take c := by rw [frameR, sealI, List.take_append_of_le_length (by omega)]
    rw [e]
    exact takeF_none (Tlv.cut_none (recT_num h.1 h.2.1) (recT_right h) h1)
  · have e : (frameR k nm bs).take c = formR k nm bs ++ (sumI (formR k nm bs)).take (c - (formR k nm bs).length) := by
      rw [frameR, sealI, List.take_append, List.take_of_length_le (by omega)]
    obtain ⟨t, hr, _⟩ := Tlv.form_rd 2 8 (recT k nm bs) 65535 ((sumI (formR k nm bs)).take (c - (formR k nm bs).length)) (recT_num h.1 h.2.1) (by omega) (recT_right h)
    have hr' : Tlv.rd 8 (formR k nm bs ++ (sumI (formR k nm bs)).take (c - (formR k nm bs).length)) = some (t, (formR k nm bs).length) := hr
    rw [e, takeF_some hr', if_pos]
    have h4 := sumI_length (formR k nm bs)
    simp [h4]
    omega

end Go.Proofs.YtaaioaocjfpajaaGreatDoor
end
