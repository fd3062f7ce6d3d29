/-
  The reference's Bytes and Lists: are bytes, and rows of bytes, the same?
-/
import Derived.Test.YtinijgkkmfdfiaaDoorMem
import Derived.Deep.QuietTactic
import Derived.BigQuiet
namespace Go.Proofs.YtinijgkkmfdfiaaDoor
open Go.RowKit

set_option maxHeartbeats 400000 in
theorem bytes_any (v v' : Value) (xs ys : List Nat) {P Q : Nat → Prop} (w : World) (h : ByP P w v xs) (h' : ByP Q w v' ys) :
    Calls Tryd.prog 24 #[v, v'] w fun e w' => e = .returned (.bool (decide (xs = ys))) ∧ ∃ q, w' = w.drewN q := by
  obtain ⟨a, cap, rfl, h2, h3, h4, h5, h6, h7⟩ := h
  obtain ⟨a', cap', rfl, h2', h3', h4', h5', h6', h7'⟩ := h'
  have A := hid h7
  have A' := hid h7'
  clear h7 h7' h4 h4' h6 h6'
  by_cases hl : xs.length = ys.length
  · have hlb : ((xs.length : Int) != (ys.length : Int)) = false := by simp [hl]
    have HL := hid hl
    clear hl
    go_enter Tryd.func24, Tryd.ntmps24
    go_wp2
    go_loopw [5] (fun i wr => ∃ k : Nat, k ≤ xs.length ∧ i = .int .i64 k ∧ Hid (xs.take k = ys.take k) ∧ ∃ q, wr = w.drewN q) (fun i _ => xs.length - (intOf i).toNat)
    case atStart => exact ⟨0, Nat.zero_le _, rfl, by simp [Hid], 0, rfl⟩
    case round =>
      obtain ⟨k, hk, rfl, ht, q, rfl⟩ := hrel
      by_cases hlt : k < xs.length
      · have hlt' : k < ys.length := by have := HL.out; omega
        obtain ⟨b, o, rfl, _, _, hc⟩ := A.out (by intro e; subst e; simp at hlt)
        obtain ⟨b', o', rfl, _, _, hc'⟩ := A'.out (by intro e; subst e; simp at hlt')
        have c1 := hc k hlt
        have c2 := hc' k hlt'
        clear hc hc'
        have e1 : Hid (xs.take (k + 1) = xs.take k ++ [xs.getD k 0]) := by rw [Hid, List.take_succ_eq_append_getElem hlt, getD_at hlt]
        have e2 : Hid (ys.take (k + 1) = ys.take k ++ [ys.getD k 0]) := by rw [Hid, List.take_succ_eq_append_getElem hlt', getD_at hlt']
        generalize xs.getD k 0 = x at c1 e1
        generalize ys.getD k 0 = y at c2 e2
        by_cases hxy : x = y
        · subst hxy
          go_wp2_with fail
          go_quiet (fail)
          go_wp2
          go_roundw
          case rel => exact ⟨k + 1, by omega, by go_num, by rw [Hid, e1.out, e2.out, ht.out], _, rfl⟩
          case measure => simp [intOf]; omega
        · have hb : ((x : Int) != (y : Int)) = true := by simp; omega
          go_wp2_with fail
          go_quiet (fail)
          go_wp2
          go_ret
          refine ⟨?_, _, World.drewN_drewN _ _ _⟩
          rw [decide_eq_false (by intro e; apply hxy; have h1 := e1.out; rw [e, e2.out] at h1; have := (List.append_inj' h1 rfl).2; simpa using this.symm)]
          rfl
      · go_wp2
        go_ret
        refine ⟨?_, q, rfl⟩
        rw [decide_eq_true (by have := ht.out; have hL := HL.out; rwa [List.take_of_length_le (by omega), List.take_of_length_le (by omega)] at this)]
        rfl
  · have hlb : ((xs.length : Int) != (ys.length : Int)) = true := by simp; omega
    go_enter Tryd.func24, Tryd.ntmps24
    go_wp2
    go_ret
    refine ⟨?_, 0, rfl⟩
    rw [decide_eq_false (by intro e; exact hl (by rw [e]))]
    rfl

set_option maxHeartbeats 1000000 in
theorem lists_any (v v' : Value) (xs ys : List (List Nat)) {P Q : Nat → Prop} (w : World) (h : LsP P w v xs) (h' : LsP Q w v' ys) :
    Calls Tryd.prog 16 #[v, v'] w fun e w' => e = .returned (.bool (decide (xs = ys))) ∧ ∃ q, w' = w.drewN q := by
  obtain ⟨a, cap, rfl, h2, h3, h4, h5, h7⟩ := h
  obtain ⟨a', cap', rfl, h2', h3', h4', h5', h7'⟩ := h'
  have A := hid h7
  have A' := hid h7'
  clear h7 h7' h4 h4'
  have hnot : ∀ (x : Bool) (w : World), (Op.unary .not (.bool x)).run Tryd.prog w = .ok (.bool (!x)) w := fun _ _ => rfl
  by_cases hl : xs.length = ys.length
  · have hlb : ((xs.length : Int) != (ys.length : Int)) = false := by simp [hl]
    have HL := hid hl
    clear hl
    go_enter Tryd.func16, Tryd.ntmps16
    go_wp2
    go_loopw [5] (fun i wr => ∃ k : Nat, k ≤ xs.length ∧ i = .int .i64 k ∧ Hid (xs.take k = ys.take k) ∧ Hid (∃ q, wr = w.drewN q)) (fun i _ => xs.length - (intOf i).toNat)
    case atStart => exact ⟨0, Nat.zero_le _, rfl, by simp [Hid], ⟨0, rfl⟩⟩
    case round =>
      obtain ⟨k, hk, rfl, ht, HW⟩ := hrel
      have hkp : Hid (Kp [] w wr) := by obtain ⟨q, rfl⟩ := HW.out; exact (Kp.refl _ _).drewN q
      by_cases hlt : k < xs.length
      · have hlt' : k < ys.length := by have := HL.out; omega
        obtain ⟨b, o, rfl, _, hbl, hc⟩ := A.out (by intro e; subst e; simp at hlt)
        obtain ⟨b', o', rfl, _, hbl', hc'⟩ := A'.out (by intro e; subst e; simp at hlt')
        obtain ⟨u, c1', hu⟩ := hc k hlt
        obtain ⟨u', c2', hu'⟩ := hc' k hlt'
        have c1 := (hkp.out.cell (p := ⟨b, o + k, none⟩) hbl (by simp)).trans c1'
        have c2 := (hkp.out.cell (p := ⟨b', o' + k, none⟩) hbl' (by simp)).trans c2'
        clear hc hc' c1' c2'
        have gd : ∀ (l : List (List Nat)) (i : Nat) (h : i < l.length), l.take (i + 1) = l.take i ++ [l.getD i []] := fun l i h => by rw [List.take_succ_eq_append_getElem h, List.getD_eq_getElem?_getD, List.getElem?_eq_getElem h, Option.getD_some]
        have e1 := hid (gd xs k hlt)
        have e2 := hid (gd ys k hlt')
        have HC : Hid (∀ n, Calls Tryd.prog 24 #[u, u'] (wr.drewN n) fun e w' => e = .returned (.bool (decide (xs.getD k [] = ys.getD k []))) ∧ ∃ m, w' = (wr.drewN n).drewN m) := fun n =>
          bytes_any u u' (xs.getD k []) (ys.getD k []) (wr.drewN n) (hu.kp (m := []) (hkp.out.drewN n) (by simp)) (hu'.kp (m := []) (hkp.out.drewN n) (by simp))
        obtain ⟨_, _, rfl, _⟩ := hu
        obtain ⟨_, _, rfl, _⟩ := hu'
        clear gd
        generalize xs.getD k [] = x at *
        generalize ys.getD k [] = y at *
        by_cases hxy : x = y
        · have hd : decide (x = y) = true := by simpa using hxy
          rw [hd] at HC
          have HXY := hid hxy
          clear hxy hd
          go_wp2_with fail
          go_quiet ((go_at_call 24; exact Calls.quiet_of (HC.out _)))
          go_wp2
          go_roundw
          case rel => exact ⟨k + 1, by omega, by go_num, by rw [Hid, e1.out, e2.out, ht.out, HXY.out], by obtain ⟨q, rfl⟩ := HW.out; exact ⟨_, World.drewN_drewN _ _ _⟩⟩
          case measure => simp [intOf]; omega
        · have hd : decide (x = y) = false := by simpa using hxy
          rw [hd] at HC
          have HXY := hid hxy
          clear hxy hd
          go_wp2_with fail
          go_quiet ((go_at_call 24; exact Calls.quiet_of (HC.out _)))
          go_wp2
          go_ret
          refine ⟨?_, by obtain ⟨q, rfl⟩ := HW.out; exact ⟨_, World.drewN_drewN _ _ _⟩⟩
          rw [decide_eq_false (by intro e; apply HXY.out; have h1 := e1.out; rw [e, e2.out] at h1; have := (List.append_inj' h1 rfl).2; simpa using this.symm)]
          rfl
      · go_wp2
        go_ret
        refine ⟨?_, HW.out⟩
        rw [decide_eq_true (by have := ht.out; have hL := HL.out; rwa [List.take_of_length_le (by omega), List.take_of_length_le (by omega)] at this)]
        rfl
  · have hlb : ((xs.length : Int) != (ys.length : Int)) = true := by simp; omega
    go_enter Tryd.func16, Tryd.ntmps16
    go_wp2
    go_ret
    refine ⟨?_, 0, rfl⟩
    rw [decide_eq_false (by intro e; exact hl (by rw [e]))]
    rfl

end Go.Proofs.YtinijgkkmfdfiaaDoor
