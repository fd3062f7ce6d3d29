/-
  Rules: which are right; Own, Usual.
-/
import Derived.Test.YtinijgkkmfdfiaaDoorMem
import Derived.Deep.RegionWith
namespace Go.Proofs.YtinijgkkmfdfiaaDoor
open Go.RowKit

/-- A power of two, up to 4096. -/
def powB (a : Int) : Bool := (List.range 13).any fun k => decide (a = ((2 ^ k : Nat) : Int))
/-- A rule is right. -/
def rightB (mn av mx : Int) : Bool := decide (1 ≤ mn) && (decide (mn ≤ av) && (decide (av ≤ mx) && (decide (mx ≤ 4096) && powB av)))

theorem powB_iff (a : Int) : powB a = true ↔ ∃ k : Nat, k ≤ 12 ∧ a = (2 ^ k : Nat) := by
  unfold powB
  rw [List.any_eq_true]
  constructor
  · rintro ⟨k, hk, h⟩
    exact ⟨k, by simp at hk; omega, by simpa using h⟩
  · rintro ⟨k, hk, h⟩
    exact ⟨k, by simp; omega, by simpa using h⟩
theorem powB_pop (x : Nat) (hx : x ≤ 4096) : powB x = decide (pop x = 1) := by
  have h : ∀ b : Bool, (b = true ↔ pop x = 1) → b = decide (pop x = 1) := fun b hb => by
    by_cases e : pop x = 1
    · rw [hb.2 e]; simp [e]
    · have : b ≠ true := fun h => e (hb.1 h)
      simp [e, this]
  apply h
  rw [powB_iff]
  constructor
  · rintro ⟨k, hk, e⟩
    rw [show x = 2 ^ k by omega]
    exact pop_pow k (by omega)
  · intro e
    obtain ⟨k, hk, e⟩ := pop_one x (by omega) e
    refine ⟨k, ?_, by omega⟩
    apply Nat.le_of_not_lt
    intro h
    have : 2 ^ 13 ≤ 2 ^ k := Nat.pow_le_pow_right (by decide) h
    omega
theorem right_iff (mn av mx : Int) : rightB mn av mx = true ↔ 1 ≤ mn ∧ mn ≤ av ∧ av ≤ mx ∧ mx ≤ 4096 ∧ ∃ k : Nat, k ≤ 12 ∧ av = (2 ^ k : Nat) := by
  simp only [rightB, Bool.and_eq_true, decide_eq_true_eq, powB_iff]
/-- A right rule's numbers. -/
theorem right_nat {mn av mx : Int} (h : rightB mn av mx = true) : ∃ a k c : Nat, mn = a ∧ av = (2 ^ k : Nat) ∧ mx = c ∧ 1 ≤ a ∧ a ≤ c ∧ c ≤ 4096 ∧ k ≤ 12 := by
  obtain ⟨h1, h2, h3, h4, k, hk, rfl⟩ := (right_iff _ _ _).1 h
  exact ⟨mn.toNat, k, mx.toNat, by omega, rfl, by omega, by omega, by omega, by omega, hk⟩

/-- A rule as a value. -/
abbrev ruleV (s mn av mx : Int) : Value := .agg #[.int .u64 s, .int .i64 mn, .int .i64 av, .int .i64 mx]

set_option maxHeartbeats 1000000 in
theorem right12_any (s mn av mx : Int) (w : World) :
    Calls Tryd.prog 12 #[ruleV s mn av mx] w fun e w' => e = .returned (.bool (rightB mn av mx)) ∧ Below w.heap.size w w' := by
  by_cases h1 : 1 ≤ mn
  · by_cases h2 : mn ≤ av
    · by_cases h3 : av ≤ mx
      · by_cases h4 : mx ≤ 4096
        · obtain ⟨x, rfl⟩ : ∃ x : Nat, av = x := ⟨av.toNat, by omega⟩
          have HR : Hid (rightB mn x mx = decide (pop x = 1)) := by
            rw [Hid, rightB, powB_pop x (by omega)]
            simp [h1, h2, h3, h4]
          have hw : IntKind.u64.wrap (x : Int) = x := wrap_i _ (by omega) (by omega)
          have hpq : ((pop x : Int) == 1) = decide (pop x = 1) := by
            rw [Bool.eq_iff_iff]
            simp only [beq_iff_eq, decide_eq_true_eq]
            omega
          have hx : x < 16777216 := by omega
          go_enter Tryd.func12, Tryd.ntmps12
          go_wp2_with (go_at_call 29; refine (ones24_any x hx _).mono ?_; rintro e w2 ⟨rfl, h2⟩; subst w2)
          go_ret
          exact ⟨by rw [HR.out]; rfl, (Below.refl _ _).alloc (Nat.le_refl _) _⟩
        · have HR : Hid (rightB mn av mx = false) := by simp [Hid, rightB, h4]
          have h4' : decide (mx ≤ 4096) = false := by simpa using h4
          go_enter Tryd.func12, Tryd.ntmps12
          go_wp2
          go_ret
          exact ⟨by rw [HR.out]; rfl, (Below.refl _ _).alloc (Nat.le_refl _) _⟩
      · have HR : Hid (rightB mn av mx = false) := by simp [Hid, rightB, h3]
        have h3' : decide (av ≤ mx) = false := by simpa using h3
        go_enter Tryd.func12, Tryd.ntmps12
        go_wp2
        go_ret
        exact ⟨by rw [HR.out]; rfl, (Below.refl _ _).alloc (Nat.le_refl _) _⟩
    · have HR : Hid (rightB mn av mx = false) := by simp [Hid, rightB, h2]
      have h2' : decide (mn ≤ av) = false := by simpa using h2
      go_enter Tryd.func12, Tryd.ntmps12
      go_wp2
      go_ret
      exact ⟨by rw [HR.out]; rfl, (Below.refl _ _).alloc (Nat.le_refl _) _⟩
  · have HR : Hid (rightB mn av mx = false) := by simp [Hid, rightB, h1]
    have h1' : decide (1 ≤ mn) = false := by simpa using h1
    go_enter Tryd.func12, Tryd.ntmps12
    go_wp2
    go_ret
    exact ⟨by rw [HR.out]; rfl, (Below.refl _ _).alloc (Nat.le_refl _) _⟩

theorem own9_any (s mn av mx : Int) (w : World) :
    Calls Tryd.prog 9 #[ruleV s mn av mx] w fun e w' => e = .returned (ruleV s mn av mx) ∧ Below w.heap.size w w' := by
  go_enter Tryd.func9, Tryd.ntmps9
  go_wp2
  exact bodyPost_ret (v := ruleV s mn av mx) (by simp [results, Tryd.results9, go_sem]) rfl ⟨rfl, ((Below.refl _ _).alloc (Nat.le_refl _) _).alloc (by simp) _⟩

theorem usual17_any (w : World) :
    Calls Tryd.prog 17 #[] w fun e w' => e = .returned (ruleV 0 16 32 64) ∧ Below w.heap.size w w' := by
  go_enter Tryd.func17, Tryd.ntmps17
  go_wp2
  exact bodyPost_ret (v := ruleV 0 16 32 64) (by simp [results, Tryd.results17, go_sem]) rfl ⟨rfl, (Below.refl _ _).alloc (Nat.le_refl _) _⟩
theorem usual18_any (w : World) :
    Calls Tryd.prog 18 #[] w fun e w' => e = .returned (ruleV 0 16 32 64) ∧ Below w.heap.size w w' := by
  go_enter Tryd.func18, Tryd.ntmps18
  go_wp2
  exact bodyPost_ret (v := ruleV 0 16 32 64) (by simp [results, Tryd.results18, go_sem]) rfl ⟨rfl, (Below.refl _ _).alloc (Nat.le_refl _) _⟩

/-- Powers below the j-th. -/
def powTo (a : Int) (j : Nat) : Bool := (List.range j).any fun k => decide (a = ((2 ^ k : Nat) : Int))
theorem powTo_succ (a : Int) (j : Nat) : powTo a (j + 1) = (powTo a j || decide (a = ((2 ^ j : Nat) : Int))) := by
  unfold powTo
  rw [List.range_succ, List.any_append]
  simp

set_option maxHeartbeats 2000000 in
theorem right13_any (s mn av mx : Int) (w : World) :
    Calls Tryd.prog 13 #[ruleV s mn av mx] w fun e w' => e = .returned (.bool (rightB mn av mx)) ∧ Below w.heap.size w w' := by
  have HR : Hid (rightB mn av mx = (decide (1 ≤ mn) && (decide (mn ≤ av) && (decide (av ≤ mx) && (decide (mx ≤ 4096) && powTo av 13))))) := rfl
  go_enter Tryd.func13, Tryd.ntmps13
  go_wp2
  go_loop [3, 4] (fun b i => ∃ j : Nat, j ≤ 13 ∧ i = .int .i64 (2 ^ j : Nat) ∧ b = .bool (powTo av j)) (fun _ i => 8192 - (intOf i).toNat)
  case atStart => exact ⟨0, by omega, rfl, rfl⟩
  case round =>
    obtain ⟨j, hj, rfl, rfl⟩ := hrel
    by_cases hlt : j < 13
    · have hp : (2 : Nat) ^ j ≤ 2 ^ 12 := Nat.pow_le_pow_right (by decide) (by omega)
      have hp0 : 0 < (2 : Nat) ^ j := Nat.two_pow_pos j
      have hs := hid (powTo_succ av j)
      have h2 : Hid ((2 : Nat) ^ (j + 1) = 2 ^ j * 2) := Nat.pow_succ 2 j
      have he : (av == ((2 ^ j : Nat) : Int)) = decide (av = ((2 ^ j : Nat) : Int)) := by
        rw [Bool.eq_iff_iff]
        simp
      generalize 2 ^ j = P at *
      cases hb : powTo av j with
      | true =>
        rw [hb] at hs
        go_wp2
        go_round
        case rel => exact ⟨j + 1, by omega, by rw [h2.out]; go_num, by rw [hs.out]; rfl⟩
        case measure => simp [intOf]; omega
      | false =>
        rw [hb] at hs
        generalize decide (av = (P : Int)) = q at *
        go_wp2
        go_round
        case rel => exact ⟨j + 1, by omega, by rw [h2.out]; go_num, by rw [hs.out]; simp⟩
        case measure => simp [intOf]; omega
    · have e : j = 13 := by omega
      subst e
      have hbel : Hid (Below w.heap.size w (w.alloc (.cells #[.int .u64 s, .int .i64 mn, .int .i64 av, .int .i64 mx] 24))) := (Below.refl _ _).alloc (Nat.le_refl _) _
      generalize powTo av 13 = q at *
      clear hlt hj
      by_cases h1 : 1 ≤ mn
      · by_cases h2 : mn ≤ av
        · by_cases h3 : av ≤ mx
          · by_cases h4 : mx ≤ 4096
            · have HE : Hid (rightB mn av mx = q) := by rw [Hid, HR.out]; simp [h1, h2, h3, h4]
              clear HR
              go_wp2
              go_ret
              exact ⟨by rw [HE.out]; rfl, hbel.out⟩
            · have HE : Hid (rightB mn av mx = false) := by rw [Hid, HR.out]; simp [h4]
              have h4' : decide (mx ≤ 4096) = false := by simpa using h4
              clear HR
              go_wp2
              go_ret
              exact ⟨by rw [HE.out]; rfl, hbel.out⟩
          · have HE : Hid (rightB mn av mx = false) := by rw [Hid, HR.out]; simp [h3]
            have h3' : decide (av ≤ mx) = false := by simpa using h3
            clear HR
            go_wp2
            go_ret
            exact ⟨by rw [HE.out]; rfl, hbel.out⟩
        · have HE : Hid (rightB mn av mx = false) := by rw [Hid, HR.out]; simp [h2]
          have h2' : decide (mn ≤ av) = false := by simpa using h2
          clear HR
          go_wp2
          go_ret
          exact ⟨by rw [HE.out]; rfl, hbel.out⟩
      · have HE : Hid (rightB mn av mx = false) := by rw [Hid, HR.out]; simp [h1]
        have h1' : decide (1 ≤ mn) = false := by simpa using h1
        clear HR
        go_wp2
        go_ret
        exact ⟨by rw [HE.out]; rfl, hbel.out⟩

end Go.Proofs.YtinijgkkmfdfiaaDoor
