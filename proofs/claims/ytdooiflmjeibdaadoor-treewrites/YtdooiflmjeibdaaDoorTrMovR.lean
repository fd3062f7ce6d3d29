/-
  A rename leaves a tree right: purely.
-/
import Derived.Test.YtdooiflmjeibdaaDoorTrMovP
namespace Go.Proofs.YtdooiflmjeibdaaDoor.Tr
open Go.RowKit

/-- The place of the last /. -/
def LastAt (r : Tx) (k : Nat) : Prop := r[k]? = some 47 ∧ ∀ j, k < j → r[j]? ≠ some 47
theorem LastAt.one {r : Tx} {k l : Nat} (h : LastAt r k) (h' : LastAt r l) : k = l := by
  rcases Nat.lt_trichotomy k l with e | e | e
  · exact absurd h'.1 (h.2 l e)
  · exact e
  · exact absurd h.1 (h'.2 k e)
theorem at_tx (s : ByteArray) (i : Nat) (h : i < s.size) : (((s.data[i]!).toNat : Int) = 47) ↔ (tx s)[i]? = some 47 := by
  have h2 : i < (tx s).length := by rw [tx_len]; exact h
  rw [getBang s i h, byt]
  show ((((tx s).getD i 0).toNat : Int) = 47) ↔ _
  rw [List.getD_eq_getElem?_getD, List.getElem?_eq_getElem h2, Option.getD_some, Option.some.injEq]
  constructor
  · intro e
    have e' : ((tx s)[i]).toNat = 47 := by omega
    exact UInt8.toNat_inj.1 e'
  · intro e
    rw [e]
    rfl
/-- The directory of a path in which there is a /. -/
theorem dir_last {s : ByteArray} {k : Nat} (hs : pathB (tx s) = true) (h : LastAt (tx s) k) : tx (splitS s).1 = (tx s).take k := by
  have hk : k < s.size := by rw [← tx_len]; exact (List.getElem?_eq_some_iff.1 h.1).1
  rw [splitS_yes hs]
  rcases Lib.lastIndexByte_spec s 47 with ⟨_, h3⟩ | ⟨i, hi, h3, h5, h4⟩
  · exact absurd ((at_tx s k hk).2 h.1) (h3 k hk)
  have hl : LastAt (tx s) i := ⟨(at_tx s i hi).1 h5, fun j hj e => by
    have hj2 : j < s.size := by rw [← tx_len]; exact (List.getElem?_eq_some_iff.1 e).1
    exact h4 j hj hj2 ((at_tx s j hj2).2 e)⟩
  rw [h.one hl]
  show tx (dirS s) = _
  have hd : dirS s = s.extract 0 i := by
    unfold dirS lastI
    rw [h3]
    congr 1
    omega
  rw [hd, tx_take]
/-- A path has a directory: a / is in it. -/
theorem dir_has {s : ByteArray} (hs : pathB (tx s) = true) (hne : (splitS s).1 ≠ ⟨#[]⟩) : ∃ k, LastAt (tx s) k := by
  rcases Lib.lastIndexByte_spec s 47 with ⟨h3, _⟩ | ⟨i, hi, h3, h5, h4⟩
  · exfalso
    apply hne
    rw [splitS_yes hs]
    show dirS s = _
    unfold dirS lastI
    rw [h3]
    apply ba_eq.2
    show tx (s.extract 0 0) = _
    rw [tx_take]
    rfl
  · exact ⟨i, (at_tx s i hi).1 h5, fun j hj e => by
      have hj2 : j < s.size := by rw [← tx_len]; exact (List.getElem?_eq_some_iff.1 e).1
      exact h4 j hj hj2 ((at_tx s j hj2).2 e)⟩
theorem LastAt.app {a r : Tx} {k : Nat} (h : LastAt r k) : LastAt (a ++ r) (a.length + k) := by
  refine ⟨by rw [List.getElem?_append_right (by omega), Nat.add_sub_cancel_left]; exact h.1, fun j hj => ?_⟩
  rw [List.getElem?_append_right (by omega)]
  exact h.2 _ (by omega)
theorem last_of : ∀ r : Tx, (∃ i : Nat, r[i]? = some 47) → ∃ k, LastAt r k
  | [], ⟨i, h⟩ => by simp at h
  | c :: r, h => by
    by_cases h' : ∃ i : Nat, r[i]? = some 47
    · obtain ⟨k, hk⟩ := last_of r h'
      refine ⟨k + 1, by rw [List.getElem?_cons_succ]; exact hk.1, fun j hj => ?_⟩
      cases j with
      | zero => omega
      | succ j => rw [List.getElem?_cons_succ]; exact hk.2 j (by omega)
    · obtain ⟨i, hi⟩ := h
      cases i with
      | succ i => exact absurd ⟨i, by rw [List.getElem?_cons_succ] at hi; exact hi⟩ h'
      | zero =>
        refine ⟨0, hi, fun j hj => ?_⟩
        cases j with
        | zero => omega
        | succ j => rw [List.getElem?_cons_succ]; exact fun e => h' ⟨j, e⟩

/-- What has its directory within p, is within p. -/
theorem within_up {p s : ByteArray} (hp : tx p ≠ []) (hs : pathB (tx s) = true) (hne : (splitS s).1 ≠ ⟨#[]⟩) (h : withinB (tx p) (tx (splitS s).1) = true) : withinB (tx p) (tx s) = true := by
  obtain ⟨k, hk⟩ := dir_has hs hne
  obtain ⟨r, hr, he⟩ := within_split hp h
  rw [dir_last hs hk] at hr
  have hkl := (List.getElem?_eq_some_iff.1 hk.1).1
  have h1 : tx s = (tx s).take k ++ (tx s).drop k := (List.take_append_drop _ _).symm
  have h2 : (tx s).drop k = 47 :: (tx s).drop (k + 1) := by
    rw [List.drop_eq_getElem_cons hkl]
    congr 1
    exact (List.getElem?_eq_some_iff.1 hk.1).2
  rw [h1, hr, h2, List.append_assoc, within_pre]
  rcases he with rfl | he
  · simp
  · cases r with
    | nil => simp
    | cons c r => simp at he; simp [he]
/-- The directory of what is moved is what its directory is moved to. -/
theorem dir_mv {p q : ByteArray} {x y : It} (hp : tx p ≠ []) (h : withinB (tx p) (tx x.1) = true) (hne : x.1 ≠ p) (hx : pathB (tx x.1) = true) (hm : pathB (tx (mvP p q x).1) = true) (hy : y.1 = (splitS x.1).1) : (splitS (mvP p q x).1).1 = (mvP p q y).1 := by
  obtain ⟨r, hr, he⟩ := within_split hp h
  have hr0 : r.head? = some 47 := by
    rcases he with rfl | he
    · exact absurd (ba_eq.2 (hr.trans (List.append_nil _))) hne
    · exact he
  obtain ⟨k, hk⟩ := last_of r ⟨0, by rw [← List.head?_eq_getElem?]; exact hr0⟩
  have h1 := dir_last hx (by rw [hr]; exact hk.app)
  have h2 := dir_last hm (by rw [mv_tx hr]; exact hk.app)
  rw [hr, List.take_append, List.take_of_length_le (by omega), Nat.add_sub_cancel_left] at h1
  rw [mv_tx hr, List.take_append, List.take_of_length_le (by omega), Nat.add_sub_cancel_left] at h2
  apply ba_eq.2
  exact h2.trans (mv_tx (x := y) (by rw [hy]; exact h1)).symm

theorem right_size {t : List It} (h : rightB t = true) {x : It} (hx : x ∈ t) : ¬ (if x.2.1 then 0 else 2000) < x.2.2.length := by
  simp only [rightB, Bool.and_eq_true] at h
  cases hw : wrongB t x with
  | true =>
    have := List.any_eq_true.2 ⟨x, hx, hw⟩
    rw [this] at h
    simp at h
  | false =>
    simp only [wrongB, Bool.or_eq_false_iff, decide_eq_false_iff_not] at hw
    exact hw.2
theorem right_mk {t : List It} (hl : t.length ≤ 60) (hr : Rises t) (h : ∀ x ∈ t, pathB (tx x.1) = true ∧ homeF t x.1 = 0 ∧ ¬ (if x.2.1 then 0 else 2000) < x.2.2.length) : rightB t = true := by
  have h1 : risesB t = true := (rises_adj t).2 (fun i x y hx hy => by
    obtain ⟨hi, rfl⟩ := List.getElem?_eq_some_iff.1 hx
    obtain ⟨hj, rfl⟩ := List.getElem?_eq_some_iff.1 hy
    exact List.pairwise_iff_getElem.1 hr i (i + 1) hi hj (by omega))
  have h2 : t.any (wrongB t) = false := List.any_eq_false.2 (fun x hx => by
    obtain ⟨a, b, c⟩ := h x hx
    unfold wrongB
    rw [a, b, decide_eq_false c]
    simp)
  rw [rightB, decide_eq_true hl, h1, h2]
  rfl
/-- What staysF tells of a rename that may be. -/
theorem stays_facts {t : List It} {p q : ByteArray} (h : staysF t p q = 0) (hpq : p ≠ q) : rightB t = true ∧ pathB (tx p) = true ∧ pathB (tx q) = true ∧ (∃ x, look t p = some x) ∧ homeF t q = 0 ∧ look t q = none ∧ withinB (tx p) (tx q) = false := by
  unfold staysF at h
  split at h
  · rename_i ha
    have hr := asked_right ha
    unfold askedF at ha
    rw [hr, if_pos rfl] at ha
    have hpq2 : pathB (tx p) = true ∧ pathB (tx q) = true := by
      split at ha
      · rename_i hh
        simpa using hh
      · simp at ha
    refine ⟨hr, hpq2.1, hpq2.2, ?_⟩
    cases hx : look t p with
    | none => rw [hx] at h; simp at h
    | some x =>
      rw [hx] at h
      simp only at h
      split at h
      · rename_i ho
        refine ⟨⟨x, rfl⟩, ho, ?_⟩
        cases hy : look t q with
        | some y => rw [hy] at h; simp at h
        | none =>
          rw [hy] at h
          simp only at h
          cases hw : withinB (tx p) (tx q) with
          | true => rw [hw] at h; simp at h
          | false => exact ⟨rfl, rfl⟩
      · rename_i ho
        exact absurd h ho
  · rename_i hn
    exact absurd h hn

theorem path_ne {p : ByteArray} (h : pathB (tx p) = true) : tx p ≠ [] := by
  intro e
  rw [e] at h
  revert h
  decide
/-- Rename leaves a tree right. -/
theorem ren_right {t zs : List It} {p q : ByteArray} (h : staysF t p q = 0) (hpq : p ≠ q) (hall : (underL t p).all (fun x => pathB (tx (mvP p q x).1)) = true) (hz : zs.Perm (outL t p ++ (underL t p).map (mvP p q))) (hs : Srt zs) : rightB zs = true := by
  obtain ⟨hr, hpp, hqp, ⟨xp, hxp⟩, hhome, hlq, hwq⟩ := stays_facts h hpq
  have hp := path_ne hpp
  have hq := path_ne hqp
  have hn : ∀ x ∈ t, withinB (tx q) (tx x.1) = false := fun x hx => under_none hr hq hlq _ x hx (Nat.le_refl _)
  have hri := rises_pair t (right_rises hr).1
  have hmo : ∀ z ∈ outL t p, z ∈ t ∧ withinB (tx p) (tx z.1) = false := fun z hz => ⟨(List.mem_filter.1 hz).1, by simpa using (List.mem_filter.1 hz).2⟩
  have hmu : ∀ z ∈ underL t p, z ∈ t ∧ withinB (tx p) (tx z.1) = true := fun z hz => ⟨(List.mem_filter.1 hz).1, (List.mem_filter.1 hz).2⟩
  have hdist : zs.Pairwise (fun a b => a.1 ≠ b.1) := by
    refine (hz.pairwise_iff (fun h e => h e.symm)).2 (List.pairwise_append.2 ⟨?_, ?_, ?_⟩)
    · exact (hri.filter _).imp (fun {a b} h e => by rw [e, bb_irr] at h; cases h)
    · refine List.pairwise_map.2 ((hri.filter _).imp_of_mem (fun {a b} ha hb hab e => ?_))
      obtain ⟨r, h1, _⟩ := within_split hp (hmu a ha).2
      obtain ⟨r', h2, _⟩ := within_split hp (hmu b hb).2
      have h3 := mv_tx (q := q) h1
      have h4 := mv_tx (q := q) h2
      rw [e, h4] at h3
      have h5 := List.append_cancel_left h3
      rw [h1, h2, h5, bb_irr] at hab
      cases hab
    · intro a ha b hb e
      obtain ⟨y, hy, rfl⟩ := List.mem_map.1 hb
      have h1 := hn a (hmo a ha).1
      rw [e, mv_within hp (hmu y hy).2] at h1
      cases h1
  have hzr : Rises zs := by
    refine (hs.and hdist).imp (fun {a b} h => ?_)
    cases hb : bytesBefore (tx a.1) (tx b.1) with
    | true => rfl
    | false => exact absurd (ba_eq.2 (bb_tri _ _ hb h.1)) h.2
  have hlen : zs.length ≤ 60 := by
    rw [hz.length_eq, List.length_append, List.length_map, ← List.length_append, (parts_perm t p).length_eq]
    exact (right_rises hr).2
  -- a home outside of p stays
  have hstay : ∀ s : ByteArray, pathB (tx s) = true → homeF t s = 0 → withinB (tx p) (tx s) = false → homeF zs s = 0 := by
    intro s hsp hsh hsw
    unfold homeF at hsh ⊢
    by_cases he : (splitS s).1 = ⟨#[]⟩
    · rw [if_pos he]
    · rw [if_neg he] at hsh ⊢
      cases hy : look t (splitS s).1 with
      | none => rw [hy] at hsh; simp at hsh
      | some y =>
        rw [hy] at hsh
        obtain ⟨hm, hye⟩ := look_mem hy
        have hyo : y ∈ outL t p := List.mem_filter.2 ⟨hm, by
          cases hw : withinB (tx p) (tx y.1) with
          | false => rfl
          | true =>
            rw [hye] at hw
            rw [within_up hp hsp he hw] at hsw
            cases hsw⟩
        have := look_rises hzr (hz.mem_iff.2 (List.mem_append_left _ hyo))
        rw [hye] at this
        rw [this]
        exact hsh
  refine right_mk hlen hzr (fun z hzz => ?_)
  rcases List.mem_append.1 (hz.mem_iff.1 hzz) with ho | hu
  · obtain ⟨h1, h2⟩ := right_each hr (hmo z ho).1
    exact ⟨h1, hstay _ h1 h2 (hmo z ho).2, right_size hr (hmo z ho).1⟩
  · obtain ⟨x, hx, rfl⟩ := List.mem_map.1 hu
    obtain ⟨h1, h2⟩ := right_each hr (hmu x hx).1
    have hmp := List.all_eq_true.1 hall x hx
    have hsz := right_size hr (hmu x hx).1
    refine ⟨hmp, ?_, hsz⟩
    by_cases hxe : x.1 = p
    · have e : (mvP p q x).1 = q := by
        apply ba_eq.2
        have := mv_tx (q := q) (x := x) (p := p) (r := []) (by rw [hxe, List.append_nil])
        rw [List.append_nil] at this
        exact this
      rw [e]
      exact hstay q hqp hhome hwq
    · obtain ⟨d1, d2, d3⟩ := under_dir hp h1 (hmu x hx).2 hxe
      unfold homeF at h2
      rw [if_neg d3] at h2
      cases hy : look t (splitS x.1).1 with
      | none => rw [hy] at h2; simp at h2
      | some y =>
        rw [hy] at h2
        obtain ⟨hm, hye⟩ := look_mem hy
        have hyu : y ∈ underL t p := List.mem_filter.2 ⟨hm, by rw [hye]; exact d1⟩
        have hl := look_rises hzr (hz.mem_iff.2 (List.mem_append_right _ (List.mem_map.2 ⟨y, hyu, rfl⟩)))
        unfold homeF
        rw [dir_mv hp (hmu x hx).2 hxe h1 hmp hye, hl]
        split
        · rfl
        · exact h2

end Go.Proofs.YtdooiflmjeibdaaDoor.Tr
