/-
  There and back: purely.
-/
import Derived.Test.YtdooiflmjeibdaaDoorTrMovM
namespace Go.Proofs.YtdooiflmjeibdaaDoor.Tr
open Go.RowKit

theorem tx_app (a b : ByteArray) : tx (a ++ b) = tx a ++ tx b := by
  show (a ++ b).data.toList = _
  rw [ByteArray.data_append, Array.toList_append]
theorem tx_drop (s : ByteArray) (i : Nat) : tx (s.extract i s.size) = (tx s).drop i := by
  show (s.extract i s.size).data.toList = _
  rw [ByteArray.data_extract, Array.toList_extract, List.extract_eq_take_drop, List.take_of_length_le]
  rw [List.length_drop, len_data]
  exact Nat.le_refl _
theorem within_split {p s : ByteArray} (hp : tx p ≠ []) (h : withinB (tx p) (tx s) = true) : ∃ r, tx s = tx p ++ r ∧ (r = [] ∨ r.head? = some 47) := by
  have h2 : (tx p == []) = false := beq_eq_false_iff_ne.2 hp
  unfold withinB at h
  rw [h2, Bool.or_false, Bool.or_eq_true, beq_iff_eq] at h
  rcases h with h | h
  · exact ⟨[], by rw [h, List.append_nil], .inl rfl⟩
  · obtain ⟨r, hr⟩ := List.isPrefixOf_iff_prefix.1 h
    exact ⟨47 :: r, by rw [← hr, List.append_assoc, List.singleton_append], .inr rfl⟩
theorem mv_tx {p q : ByteArray} {x : It} {r : Tx} (h : tx x.1 = tx p ++ r) : tx (mvP p q x).1 = tx q ++ r := by
  show tx (q ++ x.1.extract p.size x.1.size) = _
  rw [tx_app, tx_drop, h, List.drop_append, tx_len, Nat.sub_self, List.drop_zero, List.drop_of_length_le (by rw [tx_len]; exact Nat.le_refl _), List.nil_append]
theorem mv_back {p q : ByteArray} {x : It} (hp : tx p ≠ []) (h : withinB (tx p) (tx x.1) = true) : mvP q p (mvP p q x) = x := by
  obtain ⟨r, hr, _⟩ := within_split hp h
  have h1 := mv_tx (q := q) hr
  have h2 := mv_tx (x := mvP p q x) (p := q) (q := p) h1
  obtain ⟨a, b, c⟩ := x
  show ((mvP q p (mvP p q (a, b, c))).1, b, c) = (a, b, c)
  rw [ba_eq.2 (h2.trans hr.symm)]
theorem mv_within {p q : ByteArray} {x : It} (hp : tx p ≠ []) (h : withinB (tx p) (tx x.1) = true) : withinB (tx q) (tx (mvP p q x).1) = true := by
  obtain ⟨r, hr, he⟩ := within_split hp h
  rw [mv_tx hr, within_pre]
  rcases he with rfl | he
  · simp
  · simp [he]

/-- What is moved, and what stays: of the list that a rename sorts. -/
theorem moved_under {t : List It} {p q : ByteArray} (hp : tx p ≠ []) (hn : ∀ x ∈ t, withinB (tx q) (tx x.1) = false) :
    underL (outL t p ++ (underL t p).map (mvP p q)) q = (underL t p).map (mvP p q) ∧ outL (outL t p ++ (underL t p).map (mvP p q)) q = outL t p := by
  have h1 : ∀ x ∈ outL t p, withinB (tx q) (tx x.1) = false := fun x hx => hn x (List.mem_filter.1 hx).1
  have h2 : ∀ x ∈ (underL t p).map (mvP p q), withinB (tx q) (tx x.1) = true := by
    intro x hx
    obtain ⟨y, hy, rfl⟩ := List.mem_map.1 hx
    exact mv_within hp (List.mem_filter.1 hy).2
  constructor
  · unfold underL at h2 ⊢
    rw [List.filter_append, List.filter_eq_nil_iff.2 (fun x hx => by rw [h1 x hx]; simp), List.nil_append, List.filter_eq_self.2 h2]
  · generalize outL t p = a at h1 ⊢
    generalize (underL t p).map (mvP p q) = b at h2 ⊢
    unfold outL
    rw [List.filter_append, List.filter_eq_self.2 (fun x hx => by rw [h1 x hx]; rfl), List.filter_eq_nil_iff.2 (fun x hx => by rw [h2 x hx]; simp), List.append_nil]
theorem Perm.underL {a b : List It} (h : a.Perm b) (p : ByteArray) : (underL a p).Perm (underL b p) := h.filter _
theorem Perm.outL {a b : List It} (h : a.Perm b) (p : ByteArray) : (outL a p).Perm (outL b p) := h.filter _
/-- The parts of a list make it up. -/
theorem parts_perm (t : List It) (p : ByteArray) : (outL t p ++ underL t p).Perm t := by
  have h := List.filter_append_perm (fun x : It => !withinB (tx p) (tx x.1)) t
  simp only [Bool.not_not] at h
  exact h
/-- There and back: the same items. -/
theorem back_perm {t zs ws : List It} {p q : ByteArray} (hp : tx p ≠ []) (hn : ∀ x ∈ t, withinB (tx q) (tx x.1) = false)
    (hz : zs.Perm (outL t p ++ (underL t p).map (mvP p q))) (hw : ws.Perm (outL zs q ++ (underL zs q).map (mvP q p))) : ws.Perm t := by
  obtain ⟨h1, h2⟩ := moved_under hp hn
  have h3 := Perm.underL hz q
  have h4 := Perm.outL hz q
  rw [h1] at h3
  rw [h2] at h4
  refine hw.trans ((h4.append (h3.map _)).trans ?_)
  rw [List.map_map]
  have h5 : (underL t p).map (mvP q p ∘ mvP p q) = underL t p := by
    refine (List.map_congr_left (fun x hx => ?_)).trans (List.map_id _)
    exact mv_back hp (List.mem_filter.1 hx).2
  rw [h5]
  exact parts_perm t p
/-- Sorted lists of the same items, with no path twice, are the same. -/
theorem srt_unique {a t : List It} (h : a.Perm t) (ha : Srt a) (ht : Rises t) : a = t := by
  have hs : Srt t := ht.imp (fun h => bb_asym h)
  refine List.Perm.eq_of_pairwise (le := fun x y : It => bytesBefore (tx y.1) (tx x.1) = false) (fun x y hx hy h1 h2 => ?_) ha hs h
  have e : tx x.1 = tx y.1 := bb_tri _ _ h2 h1
  have hx' := look_rises ht (h.mem_iff.1 hx)
  have hy' := look_rises ht hy
  rw [ba_eq.2 e, hy'] at hx'
  cases hx'
  rfl

end Go.Proofs.YtdooiflmjeibdaaDoor.Tr
