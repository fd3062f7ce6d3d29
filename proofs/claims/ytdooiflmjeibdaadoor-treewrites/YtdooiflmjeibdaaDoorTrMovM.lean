/-
  What a rename leaves right: purely.
-/
import Derived.Test.YtdooiflmjeibdaaDoorTrRen
namespace Go.Proofs.YtdooiflmjeibdaaDoor.Tr
open Go.RowKit

theorem tx_len (b : ByteArray) : (tx b).length = b.size := Array.length_toList
theorem tx_take (s : ByteArray) (i : Nat) : tx (s.extract 0 i) = (tx s).take i := by
  show (s.extract 0 i).data.toList = _
  rw [ByteArray.data_extract, Array.toList_extract, List.extract_eq_take_drop]
  simp
theorem right_each {t : List It} (h : rightB t = true) {x : It} (hx : x ∈ t) : pathB (tx x.1) = true ∧ homeF t x.1 = 0 := by
  simp only [rightB, Bool.and_eq_true] at h
  cases hw : wrongB t x with
  | true =>
    have := List.any_eq_true.2 ⟨x, hx, hw⟩
    rw [this] at h
    simp at h
  | false =>
    simp only [wrongB, Bool.or_eq_false_iff, Bool.not_eq_false', decide_eq_true_eq] at hw
    exact hw.1
/-- What is within q, but is not q, has its directory within q. -/
theorem under_dir {q s : ByteArray} (hq : tx q ≠ []) (hs : pathB (tx s) = true) (h : withinB (tx q) (tx s) = true) (hne : s ≠ q) :
    withinB (tx q) (tx (splitS s).1) = true ∧ (splitS s).1.size < s.size ∧ (splitS s).1 ≠ ⟨#[]⟩ := by
  have h1 : (tx s == tx q) = false := beq_eq_false_iff_ne.2 (fun e => hne (ba_eq.2 e))
  have h2 : (tx q == []) = false := beq_eq_false_iff_ne.2 hq
  unfold withinB at h
  rw [h1, h2, Bool.false_or, Bool.false_or] at h
  obtain ⟨r, hr⟩ := List.isPrefixOf_iff_prefix.1 h
  rw [List.append_assoc, List.singleton_append] at hr
  have hl : s.size = q.size + (r.length + 1) := by rw [← tx_len s, ← tx_len q, ← hr]; simp
  have h47 : (s.data[q.size]!).toNat = 47 := by
    rw [getBang s q.size (by omega), byt]
    show (((tx s).getD q.size 0).toNat) = 47
    rw [← hr, List.getD_eq_getElem?_getD, List.getElem?_append_right (by rw [tx_len]; exact Nat.le_refl _), tx_len, Nat.sub_self]
    rfl
  rw [splitS_yes hs]
  rcases Lib.lastIndexByte_spec s 47 with ⟨_, h3⟩ | ⟨i, hi, h3, _, h4⟩
  · exact absurd (by omega) (h3 q.size (by omega))
  have hqi : q.size ≤ i := by
    rcases Nat.lt_or_ge i q.size with h5 | h5
    · exact absurd (by omega) (h4 q.size h5 (by omega))
    · exact h5
  have hd : dirS s = s.extract 0 i := by
    unfold dirS lastI
    rw [h3]
    congr 1
    omega
  have ht : tx (dirS s) = tx q ++ (47 :: r).take (i - q.size) := by
    rw [hd, tx_take, ← hr, List.take_append, tx_len, List.take_of_length_le (by rw [tx_len]; exact hqi)]
  have hsz : (dirS s).size = i := by rw [hd, ByteArray.size_extract]; omega
  refine ⟨?_, by show (dirS s).size < _; omega, ?_⟩
  · show withinB (tx q) (tx (dirS s)) = true
    rw [ht, within_pre]
    cases hk : i - q.size with
    | zero => simp
    | succ k => simp
  · intro e
    have e' : dirS s = ⟨#[]⟩ := e
    rw [e'] at ht
    have h7 := congrArg List.length ht
    rw [List.length_append] at h7
    have h6 : 0 < (tx q).length := List.length_pos_iff.2 hq
    have h8 : (tx (⟨#[]⟩ : ByteArray)).length = 0 := rfl
    omega
/-- Nothing is within a path that is not there. -/
theorem under_none {t : List It} (hr : rightB t = true) {q : ByteArray} (hq : tx q ≠ []) (hn : look t q = none) : ∀ (n : Nat) (x : It), x ∈ t → x.1.size ≤ n → withinB (tx q) (tx x.1) = false
  | n, x, hx, hl => by
    cases hw : withinB (tx q) (tx x.1) with
    | false => rfl
    | true =>
      exfalso
      obtain ⟨hp, hh⟩ := right_each hr hx
      obtain ⟨d1, d2, d3⟩ := under_dir hq hp hw (look_none hn x hx)
      unfold homeF at hh
      rw [if_neg d3] at hh
      cases hy : look t (splitS x.1).1 with
      | none => rw [hy] at hh; simp at hh
      | some y =>
        obtain ⟨hm, he⟩ := look_mem hy
        cases n with
        | zero => omega
        | succ n =>
          have := under_none hr hq hn n y hm (by rw [he]; omega)
          rw [he, d1] at this
          cases this

end Go.Proofs.YtdooiflmjeibdaaDoor.Tr
