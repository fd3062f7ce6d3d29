/-
  What the statements' build makes of nodes.
-/
import Derived.Test.YtnnanmpogjmkiaaNodes
import Derived.Test.YtnnanmpogjmkiaaBack
import Derived.Deep.LoopGhost
namespace Go.Proofs.Ytnnanmpogjmkiaa
open Go.RowKit
attribute [local go_sem ↓] Go.wp_at_zero Go.wp_at_succ

def BuildOk (d : Nat) : Prop := ∀ (B0 : Nat) (v : Value) (ns : List Nd) (w : World), NSl B0 w v ns → B0 ≤ w.heap.size →
  Calls Try.prog 10 #[v, .int .i64 d] w fun e w' => ∃ sa ka sb kb, e = .returned (.tuple #[.agg #[.int .i64 (bld d ns).1.hd.1, .int .u64 (bld d ns).1.hd.2.1, sa, ka], .agg #[.int .i64 (bld d ns).1.hd.1, .int .u64 (bld d ns).1.hd.2.1, sb, kb], .int .i64 (bld d ns).2]) ∧
    RepS (fun b => b < B0 ∨ (w.heap.size ≤ b ∧ b < w'.heap.size)) w' (d + 1) (bld d ns).1 sa ka ∧ RepS (fun b => b < B0 ∨ (w.heap.size ≤ b ∧ b < w'.heap.size)) w' (d + 1) (bld d ns).1 sb kb ∧ Below w.heap.size w w'

theorem repS_zero (S : Nat → Prop) (w : World) (d : Nat) : RepS S w (d + 1) (Tr.mk 0 0 [] []) (.slice none 0 0) (.slice none 0 0) := ⟨(by decide : (0 : Int) ≤ 0), (by decide : (0 : Int) ≤ 18446744073709551615), BySlS.none _ _, KSlS.none _ _ _⟩

set_option maxHeartbeats 1000000 in
set_option maxRecDepth 100000 in
theorem build_no (a : Option Addr) (l cap d : Nat) (w : World) (h : l = 0 ∨ d = 0) (hl : l ≤ 40) (hd : d ≤ 12) :
    Calls Try.prog 10 #[.slice a l cap, .int .i64 d] w fun e w' => e = .returned (.tuple #[.agg #[.int .i64 0, .int .u64 0, .slice none 0 0, .slice none 0 0], .agg #[.int .i64 0, .int .u64 0, .slice none 0 0, .slice none 0 0], .int .i64 0]) ∧ Below w.heap.size w w' := by
  have fin : Below w.heap.size w ((w.alloc (Obj.cells #[Value.int IntKind.i64 0, Value.int IntKind.u64 0, Value.slice none 0 0, Value.slice none 0 0] 29)).alloc (Obj.cells #[Value.int IntKind.i64 0, Value.int IntKind.u64 0, Value.slice none 0 0, Value.slice none 0 0] 32)) := ((Below.refl _ _).alloc (Nat.le_refl _) _).alloc (by simp) _
  by_cases h0 : l = 0
  · subst h0
    go_enter Try.func10, Try.ntmps10
    go_wp2_with fail
    exact bodyPost_ret (v := .tuple #[.agg #[.int .i64 0, .int .u64 0, .slice none 0 0, .slice none 0 0], .agg #[.int .i64 0, .int .u64 0, .slice none 0 0, .slice none 0 0], .int .i64 0]) (by simp [results, Try.results10, go_sem]) rfl ⟨rfl, fin⟩
  · have hd0 : d = 0 := by omega
    subst hd0
    have hl0 : ((l : Int) == 0) = false := by simp; omega
    go_enter Try.func10, Try.ntmps10
    go_wp2_with fail
    exact bodyPost_ret (v := .tuple #[.agg #[.int .i64 0, .int .u64 0, .slice none 0 0, .slice none 0 0], .agg #[.int .i64 0, .int .u64 0, .slice none 0 0, .slice none 0 0], .int .i64 0]) (by simp [results, Try.results10, go_sem]) rfl ⟨rfl, fin⟩

/-- Nothing is deeper than 0. -/
theorem build_zero : BuildOk 0 := by
  intro B0 v ns w h hB
  obtain ⟨a, cap, rfl, h2, h3, h4, h5⟩ := h
  refine (build_no a ns.length cap 0 w (.inr rfl) h4 (by omega)).mono ?_
  rintro e w1 ⟨rfl, hb⟩
  exact ⟨_, _, _, _, rfl, repS_zero _ _ _, repS_zero _ _ _, hb⟩

end Go.Proofs.Ytnnanmpogjmkiaa
