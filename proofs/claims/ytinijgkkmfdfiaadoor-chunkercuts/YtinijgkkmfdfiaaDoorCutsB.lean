/-
  ChunkerCuts at each input.
-/
import Derived.Test.YtinijgkkmfdfiaaDoorCuts
namespace Go.Proofs.YtinijgkkmfdfiaaDoor
open Go.RowKit

/-- The first chunk of bytes is that of the first mx of them. -/
theorem cut_take {s mn mx m : Nat} (h1 : 1 ≤ mn) (h2 : mn ≤ mx) {bs : List Nat} {n : Nat} {u : Bool} (hb : bs ≠ []) (h : IsCut (endB s mn mx m) bs n u) : ((split (endB s mn mx m) (bs.take mx)).headD []).length = n := by
  have hl : 0 < bs.length := List.length_pos_iff.2 hb
  have hb' : bs.take mx ≠ [] := by
    intro e
    have := congrArg List.length e
    rw [List.length_take, List.length_nil] at this
    omega
  have key : ∃ u', IsCut (endB s mn mx m) (bs.take mx) n u' := by
    rcases h with ⟨rfl, q1, q2, q3, q4⟩ | ⟨rfl, rfl, q2⟩
    · have hn := noEnd_max (by omega) (by omega) q4
      refine ⟨true, .inl ⟨rfl, q1, by rw [List.length_take]; omega, by rw [List.take_take, Nat.min_eq_left (by omega)]; exact q3, fun j j1 j2 => ?_⟩⟩
      rw [List.take_take, Nat.min_eq_left (by omega)]
      exact q4 j j1 j2
    · have hn := noEnd_max (by omega) (Nat.le_refl _) q2
      rw [List.take_of_length_le (by omega)]
      exact ⟨false, .inr ⟨rfl, rfl, q2⟩⟩
  obtain ⟨u', hc⟩ := key
  obtain ⟨e, e1, e2⟩ := split_cut hb' hc
  rw [e, List.headD_cons, List.length_take_of_le e2]

theorem split_len (E : List Nat → Bool) (bs : List Nat) : (split E bs).length ≤ bs.length + 1 := by
  have := (feed_count (E := E) bs [] []).1
  unfold split shutL
  split <;> simp at * <;> omega

theorem says_yes (w : World) (s mn k mx : Nat) (hs : s < M64) (hk : k ≤ 12) (h : rightB mn (2 ^ k : Nat) mx = true) (hT : Tab w) (b : Value) (bs : List Nat) {P : Nat → Prop} (hb : ByP P w b bs) (hn : bs.length ≤ 300) :
    CutsSay (w.alloc (.cells #[.int .u64 (s : Int), .int .i64 (mn : Int), .int .i64 ((2 ^ k : Nat) : Int), .int .i64 (mx : Int)] 24)) s mn (2 ^ k : Nat) mx b (split (endB s mn mx (maskAt k)) bs) 0 ((split (endB s mn mx (maskAt k)) (bs.take mx)).headD []).length true := by
  obtain ⟨q1, q2, q3⟩ := right_mk h
  have h2 := hT.lt
  have key : ∀ V, Below (w.alloc (.cells #[.int .u64 (s : Int), .int .i64 (mn : Int), .int .i64 ((2 ^ k : Nat) : Int), .int .i64 (mx : Int)] 24)).heap.size (w.alloc (.cells #[.int .u64 (s : Int), .int .i64 (mn : Int), .int .i64 ((2 ^ k : Nat) : Int), .int .i64 (mx : Int)] 24)) V → Below w.heap.size w V := fun V hV =>
    ((Below.refl _ _).alloc (Nat.le_refl _) _).trans (hV.mono (by simp))
  have hlen := split_len (endB s mn mx (maskAt k)) bs
  refine ⟨fun V hV => ?_, fun V hV => ?_, fun V hV => ?_, fun V hV => ?_, fun V hV => ?_, fun V hV => ?_, fun V hV => ?_⟩
  all_goals have hV' := key V hV
  all_goals have hTV := hT.below hV' h2
  all_goals have hbV := hb.below hV'
  · refine (split_yes s mn k mx hs hk h V hTV b bs hbV (by omega)).mono ?_
    rintro e w' ⟨a, cap, he, hO, hB⟩
    exact ⟨a, cap, he, (hO.ls (by omega)).mono (fun _ _ _ => trivial), hB⟩
  · refine (refSplit_yes s mn k mx hs hk h b bs V hbV (by omega)).mono ?_
    rintro e w' ⟨a, cap, he, hO, hB⟩
    exact ⟨a, cap, he, (hO.ls (by omega)).mono (fun _ _ _ => trivial), hB⟩
  · exact ends_yes s mn k mx hs hk h V hTV b bs hbV (by omega)
  · refine (right12_any (s : Int) mn (2 ^ k : Nat) mx V).mono ?_
    rintro e w' ⟨rfl, hB⟩
    exact ⟨by rw [h], hB⟩
  · refine (right13_any (s : Int) mn (2 ^ k : Nat) mx V).mono ?_
    rintro e w' ⟨rfl, hB⟩
    exact ⟨by rw [h], hB⟩
  · exact cut_yes s mn k mx hs hk h q3 V hTV b bs hbV (by omega)
  · refine (refCut_yes s mn k mx hs hk h b bs V hbV).mono ?_
    rintro e w' ⟨n, rfl, e0, e1, hB⟩
    refine ⟨?_, hB⟩
    by_cases hb0 : bs = []
    · rw [e0 hb0]
      subst hb0
      rw [List.take_nil, split_nil, List.headD_nil, List.length_nil]
    · obtain ⟨u, hc⟩ := e1 hb0
      rw [cut_take q1 q2 hb0 hc]

theorem says_no (w : World) (s mn av mx : Int) (h : rightB mn av mx = false) (b : Value) :
    CutsSay (w.alloc (.cells #[.int .u64 s, .int .i64 mn, .int .i64 av, .int .i64 mx] 24)) s mn av mx b [] 1 0 false := by
  refine ⟨fun V hV => ?_, fun V hV => ?_, fun V hV => ?_, fun V hV => ?_, fun V hV => ?_, fun V hV => ?_, fun V hV => ?_⟩
  · exact (split_no s mn av mx h b V).mono fun e w' ⟨he, hB⟩ => ⟨none, 0, he, LsP.nil _ _, hB⟩
  · exact (refSplit_no s mn av mx h b V).mono fun e w' ⟨he, hB⟩ => ⟨none, 0, he, LsP.nil _ _, hB⟩
  · exact (ends_no s mn av mx h b V).mono fun e w' ⟨he, hB⟩ => ⟨none, 0, he, Row.nil _ _, hB⟩
  · exact (right12_any s mn av mx V).mono fun e w' ⟨he, hB⟩ => ⟨by rw [he, h], hB⟩
  · exact (right13_any s mn av mx V).mono fun e w' ⟨he, hB⟩ => ⟨by rw [he, h], hB⟩
  · exact (cut_no s mn av mx h b V).mono fun e w' ⟨he, hB⟩ => ⟨he, hB⟩
  · exact (refCut_no s mn av mx h b V).mono fun e w' ⟨he, hB⟩ => ⟨he, hB⟩

set_option maxHeartbeats 400000 in
theorem cuts_other (s mn av mx : Int) (a : Option Addr) (n cap : Nat) (w : World) (h : 300 < n) (hm : n ≤ 9223372036854775807) (hT : Tab w) :
    Calls Tryd.prog 3 #[ruleV s mn av mx, .slice a n cap] w fun e w' => e = .returned (.bool true) ∧ Below w.heap.size w w' := by
  have HT := hid hT
  have h2 := hT.lt
  clear hT
  go_enter Tryd.func3, Tryd.ntmps3
  go_wp2_with fail
  refine (alive_any _ (HT.out.below ((Below.refl _ _).alloc (Nat.le_refl _) _) h2)).mono ?_
  rintro e w1 ⟨rfl, hb⟩
  have HB := hid hb
  clear hb
  go_wp2
  go_ret
  exact ⟨rfl, ((Below.refl _ _).alloc (Nat.le_refl _) _).trans (HB.out.mono (by simp))⟩

theorem cuts_main (s : Nat) (mn av mx : Int) (hs : s < M64) (v : Value) (bs : List Nat) {P : Nat → Prop} (w : World) (hb : ByP P w v bs) (hl : bs.length ≤ 300) (hT : Tab w) :
    Calls Tryd.prog 3 #[ruleV s mn av mx, v] w fun e w' => e = .returned (.bool true) ∧ Below w.heap.size w w' := by
  obtain ⟨a, cap, rfl, hr⟩ := id hb
  cases h : rightB mn av mx with
  | false => exact cuts_walk w s mn av mx a bs.length cap [] 1 0 false hT hl (by simp) (by simp) (says_no w s mn av mx h _)
  | true =>
    obtain ⟨a', k, c, rfl, rfl, rfl, _, _, _, hk⟩ := right_nat h
    have hlen := split_len (endB s a' c (maskAt k)) bs
    exact cuts_walk w s a' (2 ^ k : Nat) c a bs.length cap _ 0 _ true hT hl (by omega) (by rw [split_flat]; omega) (says_yes w s a' k c hs hk h hT _ bs hb hl)

end Go.Proofs.YtinijgkkmfdfiaaDoor
