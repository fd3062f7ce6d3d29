/-
  Ops, of the law.
-/
import Derived.Test.YtdooiflmjeibdaaDoorTrGrown
namespace Go.Proofs.YtdooiflmjeibdaaDoor.Tr
open Go.RowKit

def opI (x : OpT) : Bool := decide (x.2.2.1.size ≤ 250) && decide (x.2.2.2.1.size ≤ 250) && decide (x.2.2.2.2.length ≤ 2100)
def opsB (l : List OpT) (k : Nat) : Bool := decide (l.length ≤ k) && l.all opI

set_option maxHeartbeats 4000000 in
theorem ops_any (w : World) (g o cap n : Nat) (l : List OpT) (k : Nat) (hk : k ≤ 1000) (hn : l.length = n) (hmax : n ≤ 1000000000000) (ho : OpsAt w g o l) :
    Calls Tryd.prog 4 #[.slice (some ⟨g, o, none⟩) n cap, .int .i64 (k : Int)] w fun e w' => e = .returned (.bool (opsB l k)) ∧ Kp No w w' := by
  have HL : Hid (opsB l k = (decide (l.length ≤ k) && l.all opI)) := rfl
  generalize opsB l k = q at *
  have HO := hid ho
  have HN := hid hn
  rw [hn] at HL
  clear hn ho
  by_cases hkn : n ≤ k
  · have hkI : ¬ (k : Int) < (n : Int) := by omega
    rw [decide_eq_true hkn, Bool.true_and] at HL
    go_enter Tryd.func4, Tryd.ntmps4
    go_wp2_with fail
    go_loopw [5] (fun x wr => ∃ i : Nat, x = .int .i64 i ∧ i ≤ n ∧ Hid (∀ j y, j < i → l[j]? = some y → opI y = true) ∧ wr = w) (fun x _ => n - (intOf x).toNat)
    case atStart => exact ⟨0, rfl, Nat.zero_le _, fun j y hj => absurd hj (Nat.not_lt_zero _), rfl⟩
    case round =>
      obtain ⟨i, rfl, hi, HS, rfl⟩ := hrel
      by_cases hlt : i < n
      · have hltI : (i : Int) < (n : Int) := by omega
        have hi0 : (0 : Int) ≤ (i : Int) := by omega
        obtain ⟨x, hx⟩ : ∃ x, l[i]? = some x := ⟨_, List.getElem?_eq_getElem (by rw [HN.out]; omega)⟩
        obtain ⟨u, c0, c1, c2, c3, c4, hb⟩ := HO.out _ (Kp.refl _ _) i x hx
        obtain ⟨au, cu, rfl⟩ := hb.form
        have HX := hid hx
        have HLI : Hid (opI x = (decide (x.2.2.1.size ≤ 250) && decide (x.2.2.2.1.size ≤ 250) && decide (x.2.2.2.2.length ≤ 2100))) := rfl
        have HNO : Hid (opI x = false → q = false) := fun e => by rw [HL.out]; exact List.all_eq_false.2 ⟨x, List.mem_of_getElem? HX.out, by rw [e]; simp⟩
        clear hx hb
        by_cases hA : x.2.2.1.size ≤ 250
        · have hAI : ¬ (250 : Int) < (x.2.2.1.size : Int) := by omega
          by_cases hB : x.2.2.2.1.size ≤ 250
          · have hBI : ¬ (250 : Int) < (x.2.2.2.1.size : Int) := by omega
            by_cases hC : x.2.2.2.2.length ≤ 2100
            · have hCI : ¬ (2100 : Int) < (x.2.2.2.2.length : Int) := by omega
              have HOK : Hid (opI x = true) := by unfold Hid; rw [HLI.out, decide_eq_true hA, decide_eq_true hB, decide_eq_true hC]; rfl
              go_wp2
              go_roundw
              case rel => exact ⟨i + 1, by go_num, by omega, fun j y hj hy => by
                by_cases e : j = i
                · subst e
                  have := HX.out
                  rw [hy] at this
                  cases this
                  exact HOK.out
                · exact HS.out j y (by omega) hy, by first | rfl | trivial⟩
              case measure => simp [intOf] <;> omega
            · have hCI : (2100 : Int) < (x.2.2.2.2.length : Int) := by omega
              go_wp2
              go_ret
              refine ⟨?_, Kp.refl _ _⟩
              rw [HNO.out (by rw [HLI.out, decide_eq_false hC, Bool.and_false])]
              rfl
          · have hBI : (250 : Int) < (x.2.2.2.1.size : Int) := by omega
            go_wp2
            go_ret
            refine ⟨?_, Kp.refl _ _⟩
            rw [HNO.out (by rw [HLI.out, decide_eq_false hB, Bool.and_false, Bool.false_and])]
            rfl
        · have hAI : (250 : Int) < (x.2.2.1.size : Int) := by omega
          go_wp2
          go_ret
          refine ⟨?_, Kp.refl _ _⟩
          rw [HNO.out (by rw [HLI.out, decide_eq_false hA, Bool.false_and, Bool.false_and])]
          rfl
      · have hltI : ¬ (i : Int) < (n : Int) := by omega
        have e : q = true := by
          rw [HL.out]
          refine List.all_eq_true.2 (fun x hx => ?_)
          obtain ⟨j, hj⟩ := List.mem_iff_getElem?.1 hx
          exact HS.out j x (by have := (List.getElem?_eq_some_iff.1 hj).1; have := HN.out; omega) hj
        go_wp2
        go_ret
        refine ⟨?_, Kp.refl _ _⟩
        first | rfl | (rw [e]; rfl)
  · have hkI : (k : Int) < (n : Int) := by omega
    rw [decide_eq_false hkn, Bool.false_and] at HL
    rw [HL.out]
    go_enter Tryd.func4, Tryd.ntmps4
    go_wp2
    go_ret
    exact ⟨rfl, Kp.refl _ _⟩

end Go.Proofs.YtdooiflmjeibdaaDoor.Tr
