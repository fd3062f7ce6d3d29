/-
  A rename back: purely.
-/
import Derived.Test.YtdooiflmjeibdaaDoorTrMovR
namespace Go.Proofs.YtdooiflmjeibdaaDoor.Tr
open Go.RowKit

/-- Behind a rename to another path that may be: the one back may be, and what is moved is as much. -/
theorem ren_back {t zs : List It} {p q : ByteArray} (h : staysF t p q = 0) (hpq : p ≠ q) (hall : (underL t p).all (fun x => pathB (tx (mvP p q x).1)) = true) (hz : zs.Perm (outL t p ++ (underL t p).map (mvP p q))) (hs : Srt zs) :
    staysF zs q p = 0 ∧ (underL zs q).all (fun x => pathB (tx (mvP q p x).1)) = true ∧ (∀ ws, ws.Perm (outL zs q ++ (underL zs q).map (mvP q p)) → Srt ws → ws = t) ∧ (underL zs q).length = (underL t p).length := by
  have hzr := ren_right h hpq hall hz hs
  obtain ⟨hr, hpp, hqp, ⟨xp, hxp⟩, hhome, hlq, hwq⟩ := stays_facts h hpq
  obtain ⟨hxm, hxe⟩ := look_mem hxp
  have hp := path_ne hpp
  have hq := path_ne hqp
  have hn : ∀ x ∈ t, withinB (tx q) (tx x.1) = false := fun x hx => under_none hr hq hlq _ x hx (Nat.le_refl _)
  have hri := rises_pair t (right_rises hr).1
  have hzri := rises_pair zs (right_rises hzr).1
  have hpw : withinB (tx p) (tx p) = true := by simp [withinB]
  have hqpw : withinB (tx q) (tx p) = false := by have := hn xp hxm; rwa [hxe] at this
  have hu := Perm.underL hz q
  rw [(moved_under hp hn).1] at hu
  have hxu : xp ∈ underL t p := List.mem_filter.2 ⟨hxm, by rw [hxe]; exact hpw⟩
  have hmq : (mvP p q xp).1 = q := by
    apply ba_eq.2
    have := mv_tx (q := q) (x := xp) (p := p) (r := []) (by rw [hxe, List.append_nil])
    rw [List.append_nil] at this
    exact this
  have hlook : look zs q = some (mvP p q xp) := by
    have := look_rises hzri (hz.mem_iff.2 (List.mem_append_right _ (List.mem_map.2 ⟨xp, hxu, rfl⟩)))
    rwa [hmq] at this
  have hlookp : look zs p = none := look_none' (fun z hzm e => by
    rcases List.mem_append.1 (hz.mem_iff.1 hzm) with ho | hm
    · have := (List.mem_filter.1 ho).2
      rw [e, hpw] at this
      cases this
    · obtain ⟨y, hy, rfl⟩ := List.mem_map.1 hm
      have := mv_within (q := q) hp (List.mem_filter.1 hy).2
      rw [e, hqpw] at this
      cases this)
  have hhp : homeF zs p = 0 := by
    have hh := (right_each hr hxm).2
    rw [hxe] at hh
    unfold homeF at hh ⊢
    by_cases he : (splitS p).1 = ⟨#[]⟩
    · rw [if_pos he]
    · rw [if_neg he] at hh ⊢
      cases hy : look t (splitS p).1 with
      | none => rw [hy] at hh; simp at hh
      | some y =>
        rw [hy] at hh
        obtain ⟨hm, hye⟩ := look_mem hy
        have hyo : y ∈ outL t p := List.mem_filter.2 ⟨hm, by
          cases hw : withinB (tx p) (tx y.1) with
          | false => rfl
          | true =>
            exfalso
            obtain ⟨k, hk⟩ := dir_has hpp he
            have h1 := within_len hw
            have h2 := congrArg List.length (dir_last hpp hk)
            have h3 := (List.getElem?_eq_some_iff.1 hk.1).1
            rw [List.length_take, tx_len, tx_len] at h2
            rw [tx_len] at h3
            rw [hye] at h1
            omega⟩
        have := look_rises hzri (hz.mem_iff.2 (List.mem_append_left _ hyo))
        rw [hye] at this
        rw [this]
        exact hh
  refine ⟨?_, ?_, ?_, by rw [hu.length_eq, List.length_map]⟩
  · have ha : askedF zs [q, p] = 0 := by
      unfold askedF
      rw [hzr, if_pos rfl, if_pos]
      simp [hpp, hqp]
    unfold staysF
    rw [if_pos ha, hlook]
    simp only
    rw [if_pos hhp, if_neg (fun e => hpq e.symm), hlookp]
    simp only
    rw [hqpw]
    rfl
  · refine List.all_eq_true.2 (fun x hx => ?_)
    obtain ⟨y, hy, rfl⟩ := List.mem_map.1 (hu.mem_iff.1 hx)
    rw [mv_back hp (List.mem_filter.1 hy).2]
    exact (right_each hr (List.mem_filter.1 hy).1).1
  · intro ws hw hsw
    exact srt_unique (back_perm hp hn hz hw) hsw hri
/-- A rename of a path to itself. -/
theorem ren_self {t zs : List It} {p : ByteArray} (hr : rightB t = true) (hpp : pathB (tx p) = true) (hz : zs.Perm (outL t p ++ (underL t p).map (mvP p p))) (hs : Srt zs) : zs = t := by
  have hp := path_ne hpp
  have e : (underL t p).map (mvP p p) = underL t p := by
    refine (List.map_congr_left (fun x hx => ?_)).trans (List.map_id _)
    obtain ⟨r, h1, _⟩ := within_split hp (List.mem_filter.1 hx).2
    have h2 := mv_tx (q := p) h1
    obtain ⟨a, b, c⟩ := x
    show ((mvP p p (a, b, c)).1, b, c) = (a, b, c)
    rw [ba_eq.2 (h2.trans h1.symm)]
  rw [e] at hz
  exact srt_unique (hz.trans (parts_perm t p)) hs (rises_pair t (right_rises hr).1)

end Go.Proofs.YtdooiflmjeibdaaDoor.Tr
