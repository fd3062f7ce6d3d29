/-
  What Mkdir, Write and Remove leave right: purely.
-/
import Derived.Test.YtdooiflmjeibdaaDoorTrMovB
namespace Go.Proofs.YtdooiflmjeibdaaDoor.Tr
open Go.RowKit

theorem putR_mem (x : It) (z : It) : ∀ (l : List It) (inn : Bool), z ∈ putR x l inn ↔ (inn = false ∧ z = x) ∨ (z ∈ l ∧ z.1 ≠ x.1)
  | [], inn => by cases inn <;> simp [putR]
  | y :: r, inn => by
    rw [putR, List.mem_append, List.mem_append, putR_mem x z r]
    by_cases hy : y.1 = x.1
    · rw [if_pos hy]
      have : ∀ h : z = y, ¬ z.1 ≠ x.1 := fun h => by rw [h]; exact fun e => e hy
      cases inn <;> cases bytesBefore (tx y.1) (tx x.1) <;> simp <;> grind
    · rw [if_neg hy]
      cases inn <;> cases bytesBefore (tx y.1) (tx x.1) <;> simp <;> grind
theorem put_mem {t : List It} {x z : It} : z ∈ putL t x ↔ z = x ∨ (z ∈ t ∧ z.1 ≠ x.1) := by
  rw [putL, putR_mem]
  simp
theorem putR_len (x : It) : ∀ (l : List It) (inn : Bool), (putR x l inn).length + l.countP (fun y => decide (y.1 = x.1)) = l.length + (if inn then 0 else 1)
  | [], inn => by cases inn <;> simp [putR]
  | y :: r, inn => by
    have h := putR_len x r (inn || !bytesBefore (tx y.1) (tx x.1))
    rw [putR, List.length_append, List.length_append, List.countP_cons, List.length_cons]
    by_cases hy : y.1 = x.1
    · rw [if_pos hy]
      have hb : bytesBefore (tx y.1) (tx x.1) = false := by rw [hy]; exact bb_irr _
      rw [hb] at h ⊢
      cases inn <;> simp [hy] at h ⊢ <;> omega
    · rw [if_neg hy]
      cases inn <;> cases hb : bytesBefore (tx y.1) (tx x.1) <;> rw [hb] at h <;> simp [hy] at h ⊢ <;> omega
theorem putR_rises (x : It) : ∀ (l : List It) (inn : Bool), Rises l → (inn = true → ∀ y ∈ l, bytesBefore (tx y.1) (tx x.1) = false) → Rises (putR x l inn)
  | [], inn, _, _ => by cases inn <;> simp [putR, Rises]
  | y :: r, inn, h, hi => by
    obtain ⟨h1, h2⟩ := List.pairwise_cons.1 h
    have after : bytesBefore (tx y.1) (tx x.1) = false → ∀ z ∈ r, bytesBefore (tx x.1) (tx z.1) = true := fun hb z hz => by
      by_cases hy : y.1 = x.1
      · rw [← hy]; exact h1 z hz
      · cases hxy : bytesBefore (tx x.1) (tx y.1) with
        | true => exact bb_trans _ _ _ hxy (h1 z hz)
        | false => exact absurd (ba_eq.2 (bb_tri _ _ hb hxy)) hy
    have keep : bytesBefore (tx y.1) (tx x.1) = false → Rises ((if y.1 = x.1 then [] else [y]) ++ putR x r true) := fun hb => by
      have ih := putR_rises x r true h2 (fun _ z hz => bb_asym (after hb z hz))
      split
      · exact ih
      · refine List.pairwise_cons.2 ⟨fun z hz => ?_, ih⟩
        rcases (putR_mem x z r true).1 hz with ⟨e, _⟩ | ⟨hz, _⟩
        · cases e
        · exact h1 z hz
    rw [putR]
    cases inn with
    | true => simpa using keep (hi rfl y (List.mem_cons_self ..))
    | false =>
      cases hb : bytesBefore (tx y.1) (tx x.1) with
      | true =>
        have hy : y.1 ≠ x.1 := fun e => by rw [e, bb_irr] at hb; cases hb
        rw [if_neg hy]
        refine List.pairwise_cons.2 ⟨fun z hz => ?_, putR_rises x r false h2 (fun e => by cases e)⟩
        rcases (putR_mem x z r false).1 hz with ⟨_, rfl⟩ | ⟨hz, _⟩
        · exact hb
        · exact h1 z hz
      | false =>
        refine List.pairwise_cons.2 ⟨fun z hz => ?_, keep hb⟩
        rcases List.mem_append.1 hz with hz | hz
        · split at hz
          · cases hz
          · rename_i hy
            rw [List.mem_singleton.1 hz]
            cases hxy : bytesBefore (tx x.1) (tx y.1) with
            | true => rfl
            | false => exact absurd (ba_eq.2 (bb_tri _ _ hb hxy)) hy
        · rcases (putR_mem x z r true).1 hz with ⟨e, _⟩ | ⟨hz, _⟩
          · cases e
          · exact after hb z hz

theorem put_rises {t : List It} {x : It} (h : Rises t) : Rises (putL t x) := putR_rises x t false h (fun e => by cases e)
theorem put_look {t : List It} {x : It} (h : Rises t) (p : ByteArray) : look (putL t x) p = if p = x.1 then some x else look t p := by
  by_cases hp : p = x.1
  · rw [if_pos hp, hp]
    exact look_rises (put_rises h) (put_mem.2 (.inl rfl))
  · rw [if_neg hp]
    cases hy : look t p with
    | some y =>
      obtain ⟨hm, he⟩ := look_mem hy
      have := look_rises (put_rises (x := x) h) (put_mem.2 (.inr ⟨hm, by rw [he]; exact hp⟩))
      rwa [he] at this
    | none =>
      refine look_none' (fun z hz e => ?_)
      rcases put_mem.1 hz with rfl | ⟨hz, _⟩
      · exact hp e.symm
      · exact look_none hy z hz e
/-- What Mkdir and Write make is right. -/
theorem put_right {t : List It} {x : It} (hr : rightB t = true) (hp : pathB (tx x.1) = true) (hh : homeF t x.1 = 0) (hs : ¬ (if x.2.1 then 0 else 2000) < x.2.2.length)
    (hl : look t x.1 = none → t.length < 60) (hd : ∀ y, look t x.1 = some y → y.2.1 = x.2.1) : rightB (putL t x) = true := by
  have hri := rises_pair t (right_rises hr).1
  have hlen : (putL t x).length ≤ 60 := by
    have h1 := putR_len x t false
    have h2 := (right_rises hr).2
    rw [putL]
    cases hx : look t x.1 with
    | none => have := hl hx; simp at h1; omega
    | some y =>
      obtain ⟨hm, he⟩ := look_mem hx
      have h3 : 0 < t.countP (fun y => decide (y.1 = x.1)) := List.countP_pos_iff.2 ⟨y, hm, decide_eq_true he⟩
      simp at h1
      omega
  have home : ∀ s, homeF t s = 0 → homeF (putL t x) s = 0 := by
    intro s h
    unfold homeF at h ⊢
    by_cases he : (splitS s).1 = ⟨#[]⟩
    · rw [if_pos he]
    · rw [if_neg he] at h ⊢
      rw [put_look hri]
      by_cases e : (splitS s).1 = x.1
      · rw [if_pos e]
        rw [e] at h
        cases hy : look t x.1 with
        | none => rw [hy] at h; simp at h
        | some y =>
          rw [hy] at h
          have := hd y hy
          simp only at h ⊢
          rw [← this]
          exact h
      · rw [if_neg e]
        exact h
  refine right_mk hlen (put_rises hri) (fun z hz => ?_)
  rcases put_mem.1 hz with rfl | ⟨hz, _⟩
  · exact ⟨hp, home _ hh, hs⟩
  · obtain ⟨h1, h2⟩ := right_each hr hz
    exact ⟨h1, home _ h2, right_size hr hz⟩
/-- What Remove leaves is right. -/
theorem out_right {t : List It} {p : ByteArray} (hr : rightB t = true) (hp : tx p ≠ []) : rightB (outL t p) = true := by
  have hri := rises_pair t (right_rises hr).1
  have hmo : ∀ z ∈ outL t p, z ∈ t ∧ withinB (tx p) (tx z.1) = false := fun z hz => ⟨(List.mem_filter.1 hz).1, by simpa using (List.mem_filter.1 hz).2⟩
  have hro : Rises (outL t p) := hri.filter _
  refine right_mk (Nat.le_trans (List.length_filter_le _ _) (right_rises hr).2) hro (fun z hz => ?_)
  obtain ⟨h1, h2⟩ := right_each hr (hmo z hz).1
  have h3 := right_size hr (hmo z hz).1
  refine ⟨h1, ?_, h3⟩
  unfold homeF at h2 ⊢
  by_cases he : (splitS z.1).1 = ⟨#[]⟩
  · rw [if_pos he]
  · rw [if_neg he] at h2 ⊢
    cases hy : look t (splitS z.1).1 with
    | none => rw [hy] at h2; simp at h2
    | some y =>
      rw [hy] at h2
      obtain ⟨hm, hye⟩ := look_mem hy
      have hyo : y ∈ outL t p := List.mem_filter.2 ⟨hm, by
        cases hw : withinB (tx p) (tx y.1) with
        | false => rfl
        | true =>
          rw [hye] at hw
          have h4 := (hmo z hz).2
          rw [within_up hp h1 he hw] at h4
          cases h4⟩
      have := look_rises hro hyo
      rw [hye] at this
      rw [this]
      exact h2
/-- What is removed is not found. -/
theorem out_look {t : List It} {p : ByteArray} : look (outL t p) p = none := look_none' (fun z hz e => by
  have h := (List.mem_filter.1 hz).2
  rw [e] at h
  simp [withinB] at h)
theorem parts_len (t : List It) (p : ByteArray) : (outL t p).length + (underL t p).length = t.length := by
  rw [← List.length_append, (parts_perm t p).length_eq]

end Go.Proofs.YtdooiflmjeibdaaDoor.Tr
