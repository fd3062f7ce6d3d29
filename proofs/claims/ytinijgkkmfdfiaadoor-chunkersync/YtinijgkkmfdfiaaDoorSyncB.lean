/-
  ChunkerSync at each input.
-/
import Derived.Test.YtinijgkkmfdfiaaDoorSync
import Derived.OpenShut
import Derived.ProofKit
namespace Go.Proofs.YtinijgkkmfdfiaaDoor
open Go.ChangeShapes Go.WideShapes Go.ChangeAt Go.RowKit

set_option maxRecDepth 100000 in
set_option maxHeartbeats 1000000 in
theorem sync_other (s mn av mx : Int) (a1 a2 a3 : Option Addr) (na ca nb cb nt ct : Nat) (w : World) (h : 300 < na ∨ 300 < nb ∨ 300 < nt) (h1 : na ≤ 9223372036854775807) (h2 : nb ≤ 9223372036854775807) (h3 : nt ≤ 9223372036854775807) (hT : Tab w) :
    Calls Tryd.prog 6 #[ruleV s mn av mx, .slice a1 na ca, .slice a2 nb cb, .slice a3 nt ct] w fun e w' => e = .returned (.bool true) ∧ Below w.heap.size w w' := by
  have HT := hid hT
  have h4 := hT.lt
  clear hT
  by_cases g : 300 < na
  · have d1 : decide (300 < (na : Int)) = true := by simp; omega
    clear h
    go_enter Tryd.func6, Tryd.ntmps6
    go_wp2_with fail
    refine (alive_any _ (HT.out.below ((Below.refl _ _).alloc (Nat.le_refl _) _) h4)).mono ?_
    rintro e w1 ⟨rfl, hb⟩
    have HB := hid hb
    clear hb
    go_wp2
    go_ret
    exact ⟨rfl, ((Below.refl _ _).alloc (Nat.le_refl _) _).trans (HB.out.mono (by simp))⟩
  · have d1 : decide (300 < (na : Int)) = false := by simp; omega
    by_cases g' : 300 < nb
    · have d2 : decide (300 < (nb : Int)) = true := by simp; omega
      clear h
      go_enter Tryd.func6, Tryd.ntmps6
      go_wp2_with fail
      refine (alive_any _ (HT.out.below ((Below.refl _ _).alloc (Nat.le_refl _) _) h4)).mono ?_
      rintro e w1 ⟨rfl, hb⟩
      have HB := hid hb
      clear hb
      go_wp2
      go_ret
      exact ⟨rfl, ((Below.refl _ _).alloc (Nat.le_refl _) _).trans (HB.out.mono (by simp))⟩
    · have d2 : decide (300 < (nb : Int)) = false := by simp; omega
      have d3 : decide (300 < (nt : Int)) = true := by simp; omega
      have g3 : 300 < nt := by omega
      clear h
      go_enter Tryd.func6, Tryd.ntmps6
      go_wp2_with fail
      refine (alive_any _ (HT.out.below ((Below.refl _ _).alloc (Nat.le_refl _) _) h4)).mono ?_
      rintro e w1 ⟨rfl, hb⟩
      have HB := hid hb
      clear hb
      go_wp2
      go_ret
      exact ⟨rfl, ((Below.refl _ _).alloc (Nat.le_refl _) _).trans (HB.out.mono (by simp))⟩

set_option maxRecDepth 100000 in
set_option maxHeartbeats 1000000 in
theorem sync_no (s mn av mx : Int) (hr : rightB mn av mx = false) (a1 a2 a3 : Option Addr) (na ca nb cb nt ct : Nat) (w : World) (hna : na ≤ 300) (hnb : nb ≤ 300) (hnt : nt ≤ 300) (hT : Tab w) :
    Calls Tryd.prog 6 #[ruleV s mn av mx, .slice a1 na ca, .slice a2 nb cb, .slice a3 nt ct] w fun e w' => e = .returned (.bool true) ∧ Below w.heap.size w w' := by
  have HT := hid hT
  have h2 := hT.lt
  have HR := hid hr
  clear hT hr
  have hnot : ∀ (x : Bool) (w : World), (Op.unary .not (.bool x)).run Tryd.prog w = .ok (.bool (!x)) w := fun _ _ => rfl
  have g1 : decide (300 < (na : Int)) = false := by simp; omega
  have g2 : decide (300 < (nb : Int)) = false := by simp; omega
  have g3 : decide (300 < (nt : Int)) = false := by simp; omega
  have HB1 : Hid (Below w.heap.size w (w.alloc (.cells #[.int .u64 s, .int .i64 mn, .int .i64 av, .int .i64 mx] 24))) := (Below.refl _ _).alloc (Nat.le_refl _) _
  have HQ : Hid (∀ j, (w.alloc (.cells #[.int .u64 s, .int .i64 mn, .int .i64 av, .int .i64 mx] 24)).cell? ⟨w.heap.size, j, none⟩ = (#[.int .u64 s, .int .i64 mn, .int .i64 av, .int .i64 mx] : Array Value)[j]?) := fun j => World.cell?_alloc_at _ _ _ _ rfl
  have hz1 : w.heap.size < (w.alloc (.cells #[.int .u64 s, .int .i64 mn, .int .i64 av, .int .i64 mx] 24)).heap.size := by simp
  go_enter Tryd.func6, Tryd.ntmps6
  go_upto_region 1 with fail
  generalize w.alloc (.cells #[.int .u64 s, .int .i64 mn, .int .i64 av, .int .i64 mx] 24) = W at *
  have r0 : ∀ w', Below W.heap.size W w' → w'.cell? ⟨w.heap.size, 0, none⟩ = some (.int .u64 s) := fun w' h => (h.cell (p := ⟨w.heap.size, 0, none⟩) hz1).trans (HQ.out 0)
  have r1 : ∀ w', Below W.heap.size W w' → w'.cell? ⟨w.heap.size, 1, none⟩ = some (.int .i64 mn) := fun w' h => (h.cell (p := ⟨w.heap.size, 1, none⟩) hz1).trans (HQ.out 1)
  have r2 : ∀ w', Below W.heap.size W w' → w'.cell? ⟨w.heap.size, 2, none⟩ = some (.int .i64 av) := fun w' h => (h.cell (p := ⟨w.heap.size, 2, none⟩) hz1).trans (HQ.out 2)
  have r3 : ∀ w', Below W.heap.size W w' → w'.cell? ⟨w.heap.size, 3, none⟩ = some (.int .i64 mx) := fun w' h => (h.cell (p := ⟨w.heap.size, 3, none⟩) hz1).trans (HQ.out 3)
  have b0 : Below W.heap.size W W := Below.refl _ _
  have HTB : Hid (∀ V, Below W.heap.size W V → Tab V) := fun V h => HT.out.below (HB1.out.trans (h.mono (by omega))) h2
  go_wp2_with fail
  refine (right13_any s mn av mx W).mono ?_
  rintro e w5 ⟨rfl, b5⟩
  rw [HR.out]
  go_wp2_with fail
  refine (alive_any w5 (HTB.out w5 b5)).mono ?_
  rintro e w8 ⟨rfl, b8⟩
  have HB8 := hid (b5.trans (b8.mono b5.size))
  clear b8
  go_wp2
  go_ret
  exact ⟨rfl, HB1.out.trans (HB8.out.mono (by omega))⟩

end Go.Proofs.YtinijgkkmfdfiaaDoor
