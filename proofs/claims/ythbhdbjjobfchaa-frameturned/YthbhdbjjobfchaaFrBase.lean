/-
  How records lie in memory; which are right.
-/
import Derived.Test.YthbhdbjjobfchaaTlvKit
import Derived.Test.YthbhdbjjobfchaaCrcApp
import Derived.Deep.MidRow
namespace Go.Proofs.Ythbhdbjjobfchaa
open Go.RowKit
open Tlv (BySlS AgreeS)
open Crc (hid Kept Tab)

theorem Try.info35 : (Try.prog.info? 35).map (·.size) = some 34 := by kernel_rfl
theorem Try.info26 : (Try.prog.info? 26).map (·.size) = some 34 := by kernel_rfl

/-- Bytes as cells. -/
def u8s (xs : List Int) : List Value := xs.map (Value.int .u8)
theorem u8s_length (xs : List Int) : (u8s xs).length = xs.length := by simp [u8s]
theorem u8s_one (xs : List Int) : ∀ v ∈ u8s xs, v.oneCell' = true := by intro v hv; obtain ⟨x, _, rfl⟩ := List.mem_map.1 hv; rfl

/-- A record's cells. -/
def recA (k : Int) (nm : List Int) (v : Value) : List Value := .int .i64 k :: (u8s nm ++ [v])
theorem recA_length (k : Int) (nm : List Int) (v : Value) (h : nm.length = 32) : (recA k nm v).length = 34 := by simp [recA, u8s_length, h]
theorem recA_0 (k : Int) (nm : List Int) (v : Value) : (recA k nm v)[0]? = some (.int .i64 k) := rfl
theorem recA_33 (k : Int) (nm : List Int) (v : Value) (h : nm.length = 32) : (recA k nm v)[33]? = some v := by
  rw [recA, List.getElem?_cons_succ, List.getElem?_append_right (by rw [u8s_length, h]; omega), u8s_length, h]; rfl
theorem recA_one (k : Int) (nm : List Int) (a : Option Addr) (l c : Nat) : ∀ v ∈ recA k nm (.slice a l c), v.oneCell' = true := by
  intro v hv
  rcases List.mem_cons.1 hv with rfl | hv
  · rfl
  · rcases List.mem_append.1 hv with hv | hv
    · exact u8s_one _ _ hv
    · rw [List.mem_singleton.1 hv]; rfl

/-- May such a record stand in a pack? -/
def rightB (k : Int) (l : Nat) : Bool := decide (1 ≤ k) && (decide (k ≤ 9) && decide ((l : Int) ≤ 5000))

set_option maxHeartbeats 400000 in
theorem right13_any (C : List Value) (k : Int) (a : Option Addr) (l c : Nat) (w : World) (h0 : C[0]? = some (.int .i64 k)) (h33 : C[33]? = some (.slice a l c)) :
    Calls Try.prog 13 #[.agg C.toArray] w fun e w' => e = .returned (.bool (rightB k l)) ∧ Below w.heap.size w w' := by
  go_enter Try.func13, Try.ntmps13
  go_wp2
  all_goals (go_ret; refine ⟨?_, (Below.refl _ _).alloc (Nat.le_refl _) _⟩; simp [rightB, *] <;> omega)

set_option maxHeartbeats 400000 in
theorem right14_any (C : List Value) (k : Int) (a : Option Addr) (l c : Nat) (w : World) (h0 : C[0]? = some (.int .i64 k)) (h33 : C[33]? = some (.slice a l c)) :
    Calls Try.prog 14 #[.agg C.toArray] w fun e w' => e = .returned (.bool (rightB k l)) ∧ Below w.heap.size w w' := by
  go_enter Try.func14, Try.ntmps14
  go_wp2
  all_goals (go_ret; refine ⟨?_, (Below.refl _ _).alloc (Nat.le_refl _) _⟩; simp [rightB, *] <;> omega)

end Go.Proofs.Ythbhdbjjobfchaa
