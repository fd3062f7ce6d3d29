/-
  Split, within, and how texts stand.
-/
import Derived.Test.YtdooiflmjeibdaaDoorTrPath
namespace Go.Proofs.YtdooiflmjeibdaaDoor.Tr
open Go.RowKit

/-- Where the last / is, or -1. -/
def lastI (s : ByteArray) : Int := Lib.lastIndexByte s 47
def dirS (s : ByteArray) : ByteArray := s.extract 0 (max (lastI s) 0).toNat
def nameS (s : ByteArray) : ByteArray := s.extract (lastI s + 1).toNat s.size
/-- A path's directory, and its last part. -/
def splitS (s : ByteArray) : ByteArray × ByteArray := if pathB s.data.toList then (dirS s, nameS s) else (⟨#[]⟩, ⟨#[]⟩)
theorem splitS_no {s : ByteArray} (h : pathB s.data.toList = false) : splitS s = (⟨#[]⟩, ⟨#[]⟩) := by rw [splitS, h]; rfl
theorem splitS_yes {s : ByteArray} (h : pathB s.data.toList = true) : splitS s = (dirS s, nameS s) := by rw [splitS, h]; rfl
theorem lastI_bd (s : ByteArray) : -1 ≤ lastI s ∧ lastI s < (s.size : Int) := by
  rcases Lib.lastIndexByte_spec s 47 with ⟨h, _⟩ | ⟨i, hi, h, _⟩
  · rw [lastI, h]; omega
  · rw [lastI, h]; omega
theorem getBang (s : ByteArray) (i : Nat) (h : i < s.size) : (s.data[i]!).toNat = byt s i := by
  have h' : i < s.data.size := h
  have h2 : i < s.data.toList.length := by rw [len_data]; exact h
  rw [byt, getElem!_pos s.data i h', List.getD_eq_getElem?_getD, List.getElem?_eq_getElem h2]
  simp

set_option maxHeartbeats 1000000 in
theorem split_any (s : ByteArray) (hs : s.size ≤ 1000000) (w : World) : Calls Tryd.prog 47 #[.string s] w fun e w' => e = .returned (.tuple #[.string (splitS s).1, .string (splitS s).2]) ∧ Kp No w w' := by
  have hp := path_any s hs w
  have hbd := lastI_bd s
  have hL := fun w => Any.strings_LastIndexByte Tryd.lastI s 47 (by omega) w
  cases hb : pathB s.data.toList with
  | false =>
    rw [hb] at hp
    rw [splitS_no hb]
    go_enter Tryd.func47, Tryd.ntmps47
    go_wp2_with (go_at_call 26; refine hp.mono ?_; rintro e w1 ⟨rfl, hk⟩)
    go_ret2
    exact ⟨rfl, hk⟩
  | true =>
    rw [hb] at hp
    rw [splitS_yes hb]
    have hLI : Lib.lastIndexByte s 47 = lastI s := rfl
    rw [hLI] at hL
    have HD : Hid (dirS s = s.extract 0 (max (lastI s) 0).toNat) := rfl
    have HN : Hid (nameS s = s.extract (lastI s + 1).toNat s.size) := rfl
    generalize dirS s = D at *
    generalize nameS s = E at *
    generalize lastI s = l at *
    go_enter Tryd.func47, Tryd.ntmps47
    go_wp2_with (first | (go_at_call 26; refine hp.mono ?_; rintro e w1 ⟨rfl, hk⟩; have HK := hid hk; clear hk) | (go_at_call 65; refine (hL _).mono ?_; rintro e w2 ⟨rfl, rfl⟩))
    obtain ⟨q, hq⟩ : ∃ q : Int, max l 0 = q := ⟨_, rfl⟩
    have hq0 : 0 ≤ q := by omega
    have hq1 : q ≤ (s.size : Int) := by omega
    have hl0 : 0 ≤ l + 1 := by omega
    have hl1 : l + 1 ≤ (s.size : Int) := by omega
    go_quiet (fail)
    go_wp2
    go_ret2
    refine ⟨?_, HK.out.drewN nq⟩
    rw [HD.out, HN.out, hq]
    rfl


/-- Is q within p? -/
def withinB (p q : Tx) : Bool := (q == p) || (p == []) || (p ++ [47]).isPrefixOf q
theorem within_not {p q : Tx} (h : p.isPrefixOf q = false) : withinB p q = false := by
  have h1 : (q == p) = false := by
    rw [beq_eq_false_iff_ne]
    rintro rfl
    have := List.isPrefixOf_iff_prefix.2 (List.prefix_refl q)
    rw [h] at this
    cases this
  have h2 : (p == []) = false := by
    rw [beq_eq_false_iff_ne]
    rintro rfl
    have := List.isPrefixOf_iff_prefix.2 (List.nil_prefix (l := q))
    rw [h] at this
    cases this
  have h3 : (p ++ [47]).isPrefixOf q = false := by
    rw [Bool.eq_false_iff]
    intro e
    rw [List.isPrefixOf_iff_prefix] at e
    have : p.isPrefixOf q = true := by
      rw [List.isPrefixOf_iff_prefix]
      exact (List.prefix_append p [47]).trans e
    rw [h] at this
    exact absurd this (by simp)
  rw [withinB, h1, h2, h3]
  rfl
theorem within_pre (p r : Tx) : withinB p (p ++ r) = ((p == []) || (r == []) || (r.head? == some 47)) := by
  unfold withinB
  cases r with
  | nil => simp
  | cons c t =>
    have h1 : ((p ++ c :: t) == p) = false := by
      rw [beq_eq_false_iff_ne]
      intro e
      have := congrArg List.length e
      simp at this
    have h3 : (p ++ [47]).isPrefixOf (p ++ c :: t) = (c == 47) := by
      rw [Bool.eq_iff_iff, List.isPrefixOf_iff_prefix, List.prefix_append_right_inj]
      rw [List.cons_prefix_cons, beq_iff_eq]
      exact ⟨fun e => e.1.symm, fun e => ⟨e.symm, List.nil_prefix⟩⟩
    have e1 : ((c :: t) == ([] : Tx)) = false := rfl
    have e2 : ((c :: t).head? == some 47) = (c == 47) := by
      rw [Bool.eq_iff_iff]
      simp
    rw [h1, h3, e1, e2]
    cases (p == []) <;> cases (c == 47) <;> rfl
theorem prefix_rest {s p : Tx} (h : Lib.hasPrefix s p = true) : s = p ++ Lib.trimPrefix s p := by
  rw [Lib.trimPrefix, if_pos h]
  rw [Lib.hasPrefix, List.isPrefixOf_iff_prefix] at h
  obtain ⟨t, rfl⟩ := h
  simp

set_option maxHeartbeats 1000000 in
theorem within_any (s p : ByteArray) (w : World) : Calls Tryd.prog 39 #[.string s, .string p] w fun e w' => e = .returned (.bool (withinB p.data.toList s.data.toList)) ∧ w' = w := by
  have hC := fun w => Any.strings_CutPrefix Tryd.cut s p w
  cases hpre : Lib.hasPrefix s.data.toList p.data.toList with
  | false =>
    rw [hpre] at hC
    rw [within_not hpre]
    go_enter Tryd.func39, Tryd.ntmps39
    go_wp2_with (go_at_call 50; refine (hC _).mono ?_; rintro e w1 ⟨rfl, rfl⟩)
    go_ret
    exact ⟨rfl, rfl⟩
  | true =>
    rw [hpre] at hC
    have HS := prefix_rest hpre
    obtain ⟨r, hr⟩ : ∃ r : ByteArray, (⟨(Lib.trimPrefix s.data.toList p.data.toList).toArray⟩ : ByteArray) = r := ⟨_, rfl⟩
    have hrt : r.data.toList = Lib.trimPrefix s.data.toList p.data.toList := by rw [← hr]
    rw [hr] at hC
    rw [← hrt] at HS
    have HW : Hid (withinB p.data.toList s.data.toList = ((p.data.toList == []) || (r.data.toList == []) || (r.data.toList.head? == some 47))) := by rw [Hid, HS]; exact within_pre _ _
    clear hr hrt HS hpre
    rw [HW.out]
    by_cases hp : p = ⟨#[]⟩
    · subst hp
      go_enter Tryd.func39, Tryd.ntmps39
      go_wp2_with (go_at_call 50; refine (hC _).mono ?_; rintro e w1 ⟨rfl, rfl⟩)
      go_ret
      exact ⟨rfl, rfl⟩
    · have b0 : p.toList.isEmpty = false := by rw [List.isEmpty_eq_false_iff]; exact fun h => hp (tl_eq.2 h)
      have b0' : (p.data.toList == []) = false := by rw [beq_eq_false_iff_ne]; exact fun h => hp (ba_eq.2 h)
      rw [b0']
      by_cases hr : r = ⟨#[]⟩
      · subst hr
        go_enter Tryd.func39, Tryd.ntmps39
        go_wp2_with (go_at_call 50; refine (hC _).mono ?_; rintro e w1 ⟨rfl, rfl⟩)
        go_ret
        exact ⟨rfl, rfl⟩
      · have c0 : r.toList.isEmpty = false := by rw [List.isEmpty_eq_false_iff]; exact fun h => hr (tl_eq.2 h)
        have c0' : (r.data.toList == []) = false := by rw [beq_eq_false_iff_ne]; exact fun h => hr (ba_eq.2 h)
        have hr0 : 0 < r.size := by
          refine Nat.pos_of_ne_zero (fun h => hr ?_)
          rw [ba_eq]
          exact List.length_eq_zero_iff.1 ((len_data r).trans h)
        have hr0' : (0 : Int) < (r.size : Int) := by omega
        have hx := fun w => sidx r 0 hr0 w
        have hh : r.data.toList.head? = some (r.data.toList.getD 0 0) := by
          have h' : 0 < r.data.toList.length := by rw [len_data]; exact hr0
          rw [List.head?_eq_getElem?, List.getD_eq_getElem?_getD, List.getElem?_eq_getElem h']
          rfl
        have hd : (r.data.toList.head? == some 47) = decide (byt r 0 = 47) := by
          rw [hh, Bool.eq_iff_iff, byt]
          simp [← UInt8.toNat_inj]
        have HD := hid hd
        rw [c0', hd]
        have hbl := byt_lt r 0
        clear hd hh HW
        generalize byt r 0 = n at *
        simp only [Int.natCast_zero] at hx
        by_cases h47 : n = 47
        · subst h47
          go_enter Tryd.func39, Tryd.ntmps39
          go_wp2_with (go_at_call 50; refine (hC _).mono ?_; rintro e w1 ⟨rfl, rfl⟩)
          go_ret
          exact ⟨rfl, rfl⟩
        · have h47' : ((n : Int) == 47) = false := by simp; omega
          rw [decide_eq_false h47]
          go_enter Tryd.func39, Tryd.ntmps39
          go_wp2_with (go_at_call 50; refine (hC _).mono ?_; rintro e w1 ⟨rfl, rfl⟩)
          go_ret
          exact ⟨rfl, rfl⟩

end Go.Proofs.YtdooiflmjeibdaaDoor.Tr
