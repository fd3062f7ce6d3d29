/-
  The reference's comparing: of bytes, of names; List.
-/
import Derived.Test.YtmiipifhbliamaaGreatSimRFile
namespace Go.Proofs.YtmiipifhbliamaaGreat.Sim
open Go.RowKit Go.Maps

set_option maxHeartbeats 400000 in
theorem qbytes_raw (v v' : Value) (xs ys : List Nat) {P Q : Nat → Prop} (w : World) (h : ByP P w v xs) (h' : ByP Q w v' ys) :
    Calls Tryz.prog 29 #[v, v'] w fun e w' => e = .returned (.bool (decide (xs = ys))) ∧ ∃ q, w' = w.drewN q := by
  obtain ⟨a, cap, rfl, h2, h3, h4, h5, h6, h7⟩ := h
  obtain ⟨a', cap', rfl, h2', h3', h4', h5', h6', h7'⟩ := h'
  have A := hid h7
  have A' := hid h7'
  clear h7 h7' h4 h4' h6 h6'
  by_cases hl : xs.length = ys.length
  · have hlb : ((xs.length : Int) != (ys.length : Int)) = false := by simp [hl]
    have HL := hid hl
    clear hl
    go_enter Tryz.func29, Tryz.ntmps29
    go_wp2
    go_loopw [5] (fun i wr => ∃ k : Nat, k ≤ xs.length ∧ i = .int .i64 k ∧ Hid (xs.take k = ys.take k) ∧ ∃ q, wr = w.drewN q) (fun i _ => xs.length - (intOf i).toNat)
    case atStart => exact ⟨0, Nat.zero_le _, rfl, by simp [Hid], 0, rfl⟩
    case round =>
      obtain ⟨k, hk, rfl, ht, q, rfl⟩ := hrel
      by_cases hlt : k < xs.length
      · have hlt' : k < ys.length := by have := HL.out; omega
        obtain ⟨b, o, rfl, _, _, hc⟩ := A.out (by intro e; subst e; simp at hlt)
        obtain ⟨b', o', rfl, _, _, hc'⟩ := A'.out (by intro e; subst e; simp at hlt')
        have c1 := hc k hlt
        have c2 := hc' k hlt'
        clear hc hc'
        have e1 : Hid (xs.take (k + 1) = xs.take k ++ [xs.getD k 0]) := by rw [Hid, List.take_succ_eq_append_getElem hlt, getD_at hlt]
        have e2 : Hid (ys.take (k + 1) = ys.take k ++ [ys.getD k 0]) := by rw [Hid, List.take_succ_eq_append_getElem hlt', getD_at hlt']
        generalize xs.getD k 0 = x at c1 e1
        generalize ys.getD k 0 = y at c2 e2
        by_cases hxy : x = y
        · subst hxy
          go_wp2_with fail
          go_quiet (fail)
          go_wp2
          go_roundw
          case rel => exact ⟨k + 1, by omega, by go_num, by rw [Hid, e1.out, e2.out, ht.out], _, rfl⟩
          case measure => simp [intOf]; omega
        · have hb : ((x : Int) != (y : Int)) = true := by simp; omega
          go_wp2_with fail
          go_quiet (fail)
          go_wp2
          go_ret
          refine ⟨?_, _, World.drewN_drewN _ _ _⟩
          rw [decide_eq_false (by intro e; apply hxy; have h1 := e1.out; rw [e, e2.out] at h1; have := (List.append_inj' h1 rfl).2; simpa using this.symm)]
          rfl
      · go_wp2
        go_ret
        refine ⟨?_, q, rfl⟩
        rw [decide_eq_true (by have := ht.out; have hL := HL.out; rwa [List.take_of_length_le (by omega), List.take_of_length_le (by omega)] at this)]
        rfl
  · have hlb : ((xs.length : Int) != (ys.length : Int)) = true := by simp; omega
    go_enter Tryz.func29, Tryz.ntmps29
    go_wp2
    go_ret
    refine ⟨?_, 0, rfl⟩
    rw [decide_eq_false (by intro e; exact hl (by rw [e]))]
    rfl

theorem qbytes_any (v v' : Value) (xs ys : List Nat) {P Q : Nat → Prop} (w : World) (h : ByP P w v xs) (h' : ByP Q w v' ys) :
    Calls Tryz.prog 29 #[v, v'] w fun e w' => e = .returned (.bool (decide (xs = ys))) ∧ Kp No w w' := by
  refine (qbytes_raw v v' xs ys w h h').mono ?_
  rintro e w' ⟨rfl, q, rfl⟩
  exact ⟨rfl, (Kp.refl _ _).drewN _⟩

/-- A slice of names that is read. -/
def NmP (P : Nat → Prop) (w : World) (v : Value) (ns : List Nm) : Prop :=
  ∃ a cap, v = .slice a ns.length cap ∧ ns.length ≤ cap ∧ cap ≤ maxLen ∧ (ns ≠ [] → ∃ g, a = some ⟨g, 0, none⟩ ∧ P g ∧ g < w.heap.size ∧ ∀ i n, ns[i]? = some n → w.cell? ⟨g, i, none⟩ = some (.string (sOf n)))
theorem OwnN.nmP {P : Nat → Prop} {w : World} {v : Value} {ns : List Nm} (h : OwnN w v ns) (hP : ∀ x, v.ownBlock = some x → P x) : NmP P w v ns := by
  have h' : Row w 9 1 v ns.length (ns.map encStr) := h
  rcases h'.2 with ⟨rfl, h0⟩ | ⟨g, cap, cur, rfl, hg, hh, hn, hc, hs, ht⟩
  · have : ns = [] := List.length_eq_zero_iff.1 h0
    subst this
    exact ⟨none, 0, rfl, Nat.le_refl _, Nat.zero_le _, fun h => absurd rfl h⟩
  · refine ⟨_, cap, rfl, hn, hc, fun _ => ⟨g, rfl, hP g rfl, (Array.getElem?_eq_some_iff.1 hh).1, fun i n hi => ?_⟩⟩
    have hil : i < ns.length := (List.getElem?_eq_some_iff.1 hi).1
    rw [h'.cellAt i (by omega), List.getElem?_map, hi]
    rfl
theorem NmP.kp {P L : Nat → Prop} {w w' : World} {v : Value} {ns : List Nm} (h : NmP P w v ns) (k : Kp L w w') (hm : ∀ x, L x → x < w.heap.size → ¬ P x) : NmP P w' v ns := by
  obtain ⟨a, cap, h1, h2, h3, h4⟩ := h
  refine ⟨a, cap, h1, h2, h3, fun hne => ?_⟩
  obtain ⟨g, e, hgb, hg, hc⟩ := h4 hne
  exact ⟨g, e, hgb, Nat.lt_of_lt_of_le hg k.size, fun i n hi => (k.cell (p := ⟨g, i, none⟩) hg (fun hx => hm g hx hg hgb)).trans (hc i n hi)⟩

set_option maxHeartbeats 1000000 in
theorem rnames_any (v v' : Value) (xs ys : List Nm) {P Q : Nat → Prop} (w : World) (h : NmP P w v xs) (h' : NmP Q w v' ys) (hb : xs.length ≤ 1000000) :
    Calls Tryz.prog 41 #[v, v'] w fun e w' => e = .returned (.bool (decide (xs = ys))) ∧ Kp No w w' := by
  obtain ⟨a, cap, rfl, h2, h3, h4⟩ := h
  obtain ⟨a', cap', rfl, h2', h3', h4'⟩ := h'
  have A := hid h4
  have A' := hid h4'
  clear h4 h4'
  by_cases hl : xs.length = ys.length
  · have hlb : ((xs.length : Int) != (ys.length : Int)) = false := by simp [hl]
    have HL := hid hl
    clear hl
    go_enter Tryz.func41, Tryz.ntmps41
    go_wp2
    go_loopw [5] (fun i wr => ∃ k : Nat, k ≤ xs.length ∧ i = .int .i64 k ∧ Hid (xs.take k = ys.take k) ∧ ∃ q, wr = w.drewN q) (fun i _ => xs.length - (intOf i).toNat)
    case atStart => exact ⟨0, Nat.zero_le _, rfl, by simp [Hid], 0, rfl⟩
    case round =>
      obtain ⟨k, hk, rfl, ht, q, rfl⟩ := hrel
      by_cases hlt : k < xs.length
      · have hlt' : k < ys.length := by have := HL.out; omega
        obtain ⟨b, rfl, _, _, hc⟩ := A.out (by intro e; subst e; simp at hlt)
        obtain ⟨b', rfl, _, _, hc'⟩ := A'.out (by intro e; subst e; simp at hlt')
        obtain ⟨x, hx⟩ : ∃ x, xs[k]? = some x := ⟨_, List.getElem?_eq_getElem hlt⟩
        obtain ⟨y, hy⟩ : ∃ y, ys[k]? = some y := ⟨_, List.getElem?_eq_getElem hlt'⟩
        have c1 := hc k x hx
        have c2 := hc' k y hy
        have e1 : Hid (xs.take (k + 1) = xs.take k ++ [x]) := by rw [Hid, List.take_add_one, hx]; rfl
        have e2 : Hid (ys.take (k + 1) = ys.take k ++ [y]) := by rw [Hid, List.take_add_one, hy]; rfl
        clear hc hc' hx hy
        by_cases hxy : x = y
        · subst hxy
          generalize sOf x = sx at *
          go_wp2_with fail
          go_quiet (fail)
          go_wp2
          go_roundw
          case rel => exact ⟨k + 1, by omega, by go_num, by rw [Hid, e1.out, e2.out, ht.out], _, rfl⟩
          case measure => simp [intOf]; omega
        · have hne := str_neq (n := x) (t := sOf y) (by rw [nm_sOf]; exact hxy)
          have hne' := str_ne (n := x) (t := sOf y) (by rw [nm_sOf]; exact hxy)
          have HXY := hid hxy
          clear hxy
          generalize sOf x = sx at *
          generalize sOf y = sy at *
          go_wp2_with fail
          go_quiet (fail)
          go_wp2
          go_ret
          refine ⟨?_, ((Kp.refl _ _).drewN _).drewN _⟩
          rw [decide_eq_false (by intro e; apply HXY.out; have h1 := e1.out; rw [e, e2.out] at h1; have := (List.append_inj' h1 rfl).2; simpa using this.symm)]
          rfl
      · go_wp2
        go_ret
        refine ⟨?_, (Kp.refl _ _).drewN _⟩
        have h1 := ht.out
        rw [List.take_of_length_le (by omega), List.take_of_length_le (by have := HL.out; omega)] at h1
        rw [decide_eq_true h1]
        rfl
  · have hlb : ((xs.length : Int) != (ys.length : Int)) = true := by simp; omega
    have HL : Hid (decide (xs = ys) = false) := by rw [Hid, decide_eq_false]; intro e; exact hl (by rw [e])
    clear hl
    go_enter Tryz.func41, Tryz.ntmps41
    go_wp2
    go_ret
    exact ⟨by rw [HL.out]; rfl, Kp.refl _ _⟩

end Go.Proofs.YtmiipifhbliamaaGreat.Sim
