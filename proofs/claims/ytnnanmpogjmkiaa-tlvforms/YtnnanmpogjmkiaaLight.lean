/-
  What the statements' light answers of nodes.
-/
import Derived.Test.YtnnanmpogjmkiaaSmall
namespace Go.Proofs.Ytnnanmpogjmkiaa
open Go.RowKit

set_option maxHeartbeats 400000 in
theorem light_long (a : Option Addr) (len cap : Nat) (w : World) (h : 40 < len) (h2 : len ≤ maxLen) :
    Calls Try.prog 8 #[.slice a len cap] w fun e w' => e = .returned (.bool false) ∧ w' = w := by
  unfold maxLen at h2
  have hq : decide ((40 : Int) < len) = true := by simp; omega
  have hq2 : decide (40 < len) = true := by simp; omega
  go_enter Try.func8, Try.ntmps8
  go_wp2_with fail
  go_ret
  exact ⟨rfl, rfl⟩

/-- Nodes lie at b, o: the lengths of their bytes. -/
def LensAt (w : World) (b o : Nat) (ls : List Nat) : Prop := ∀ j, j < ls.length → ls.getD j 0 ≤ 9223372036854775807 ∧ ∃ ab cb, w.cell? ⟨b, o + j * 4 + 3, none⟩ = some (.slice ab (ls.getD j 0) cb)

set_option maxHeartbeats 1000000 in
set_option maxRecDepth 100000 in
theorem light_any (a : Option Addr) (ls : List Nat) (cap : Nat) (w : World) (h : ls.length ≤ 40) (ha : ls ≠ [] → ∃ b o, a = some ⟨b, o, none⟩ ∧ LensAt w b o ls) :
    Calls Try.prog 8 #[.slice a ls.length cap] w fun e w' => e = .returned (.bool (ls.all fun l => decide (l ≤ 3000))) ∧ w' = w := by
  have HA := hid ha
  clear ha
  obtain ⟨L, hL⟩ : ∃ L, ls.length = L := ⟨_, rfl⟩
  have HL := hid hL
  rw [hL] at h ⊢
  clear hL
  obtain ⟨R, hR⟩ : ∃ R, (ls.all fun l => decide (l ≤ 3000)) = R := ⟨_, rfl⟩
  rw [hR]
  have HR := hid hR
  clear hR
  have hq : decide ((40 : Int) < L) = false := by simp; omega
  have hq2 : decide (40 < L) = false := by simp; omega
  go_enter Try.func8, Try.ntmps8
  go_wp2_with fail
  go_loopw [3] (fun i wr => ∃ k : Nat, k ≤ L ∧ i = .int .i64 k ∧ wr = w ∧ Hid (((ls.drop k).all fun l => decide (l ≤ 3000)) = R)) (fun i _ => L - (intOf i).toNat)
  case atStart => exact ⟨0, Nat.zero_le _, rfl, rfl, HR⟩
  case round =>
    obtain ⟨k, hk, rfl, hw, HI⟩ := hrel
    subst hw
    by_cases hlt : k < L
    · have hlt' : k < ls.length := by rw [HL.out]; exact hlt
      obtain ⟨b, o, rfl, hat⟩ := HA.out (by intro e; subst e; simp at hlt')
      obtain ⟨hmx, ab, cb, c3⟩ := hat k hlt'
      have HD : Hid ((decide (ls.getD k 0 ≤ 3000) && (ls.drop (k + 1)).all fun l => decide (l ≤ 3000)) = R) := by
        rw [Hid, ← HI.out, List.drop_eq_getElem_cons hlt', List.all_cons, List.getD_eq_getElem?_getD, List.getElem?_eq_getElem hlt']
        rfl
      clear hat hlt'
      generalize ls.getD k 0 = l at *
      have hkI0 : (0 : Int) ≤ (k : Int) := by omega
      have hkI1 : (k : Int) < (L : Int) := by omega
      by_cases hl : l ≤ 3000
      · have hl1 : decide ((3000 : Int) < l) = false := by simp; omega
        have hl2 : decide (3000 < l) = false := by simp; omega
        have HD2 : Hid (((ls.drop (k + 1)).all fun l => decide (l ≤ 3000)) = R) := by rw [Hid, ← HD.out]; simp [hl]
        go_wp2_with fail
        go_roundw
        case rel => exact ⟨k + 1, by omega, by go_num, trivial, HD2⟩
        case measure => simp [intOf]; omega
      · have hl1 : decide ((3000 : Int) < l) = true := by simp; omega
        have hl2 : decide (3000 < l) = true := by simp; omega
        have HD2 : Hid (R = false) := by rw [Hid, ← HD.out]; simp [hl]
        go_wp2_with fail
        go_ret
        exact ⟨by rw [HD2.out]; rfl, rfl⟩
    · go_wp2_with fail
      go_ret
      refine ⟨?_, rfl⟩
      rw [← HI.out, List.drop_of_length_le (by rw [HL.out]; omega)]
      rfl

end Go.Proofs.Ytnnanmpogjmkiaa
