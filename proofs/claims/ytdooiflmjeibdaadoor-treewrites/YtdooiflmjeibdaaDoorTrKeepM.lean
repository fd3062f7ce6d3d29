/-
  Each change keeps a tree right: purely.
-/
import Derived.Test.YtdooiflmjeibdaaDoorTrPutM
import Derived.Test.YtdooiflmjeibdaaDoorTrWrite
namespace Go.Proofs.YtdooiflmjeibdaaDoor.Tr
open Go.RowKit

theorem bars_facts {t : List It} {p : ByteArray} (h : barsF t p = 0) : rightB t = true ∧ pathB (tx p) = true ∧ homeF t p = 0 := by
  have hr := bars_right h
  unfold barsF at h
  rw [hr, if_pos rfl] at h
  cases hp : pathB (tx p) with
  | false => rw [hp] at h; simp at h
  | true => rw [hp, if_pos rfl] at h; exact ⟨hr, rfl, h⟩
theorem mkdir_right {t : List It} {p : ByteArray} (h : (mkdirR t p).1 = 0) : rightB (mkdirR t p).2 = true := by
  unfold mkdirR at h ⊢
  by_cases hb : barsF t p = 0
  · rw [if_pos hb] at h ⊢
    obtain ⟨hr, hp, hh⟩ := bars_facts hb
    cases hx : look t p with
    | some x => rw [hx] at h; simp at h
    | none =>
      rw [hx] at h
      simp only [Option.isSome_none, Bool.false_eq_true, if_false] at h ⊢
      by_cases h6 : 60 ≤ t.length
      · rw [if_pos h6] at h; simp at h
      · rw [if_neg h6]
        exact put_right hr hp hh (by simp) (fun _ => by omega) (fun y hy => by rw [hx] at hy; cases hy)
  · rw [if_neg hb] at h
    exact absurd h hb
theorem write_right {t : List It} {p : ByteArray} {b : List Nat} (h : (writeR t p b).1 = 0) : rightB (writeR t p b).2 = true ∧ (writeR t p b).2 = putL t (p, false, b) ∧ rightB t = true := by
  unfold writeR at h ⊢
  by_cases hb : barsF t p = 0
  · rw [if_pos hb] at h ⊢
    obtain ⟨hr, hp, hh⟩ := bars_facts hb
    cases hd : dirAt t p with
    | true => rw [hd] at h; simp at h
    | false =>
      rw [hd] at h
      simp only [Bool.false_eq_true, if_false] at h ⊢
      by_cases h2 : 2000 < b.length
      · rw [if_pos h2] at h; simp at h
      · rw [if_neg h2] at h ⊢
        cases h3 : (look t p).isNone && decide (60 ≤ t.length) with
        | true => rw [h3] at h; simp at h
        | false =>
          rw [if_neg (by simp)]
          refine ⟨put_right hr hp hh (by simpa using h2) (fun e => ?_) (fun y hy => ?_), rfl, hr⟩
          · have e' : look t p = none := e
            rw [e'] at h3
            simp at h3
            exact h3
          · have hy' : look t p = some y := hy
            exact (dirAt_some hy').symm.trans hd
  · rw [if_neg hb] at h
    exact absurd h hb
theorem asked_facts {t : List It} {p : ByteArray} (h : askedF t [p] = 0) : rightB t = true ∧ pathB (tx p) = true := by
  have hr := asked_right h
  unfold askedF at h
  rw [hr, if_pos rfl] at h
  refine ⟨hr, ?_⟩
  split at h
  · rename_i hh
    simpa using hh
  · simp at h
theorem remove_right {t : List It} {p : ByteArray} {deep : Bool} (h : (removeR t p deep).1 = 0) : rightB (removeR t p deep).2 = true ∧ (removeR t p deep).2 = outL t p := by
  unfold removeR at h ⊢
  by_cases ha : askedF t [p] = 0
  · rw [if_pos ha] at h ⊢
    obtain ⟨hr, hp⟩ := asked_facts ha
    by_cases hu : underL t p = []
    · rw [if_pos hu] at h; simp at h
    · rw [if_neg hu] at h ⊢
      by_cases hd : 1 < (underL t p).length ∧ deep = false
      · rw [if_pos hd] at h; simp at h
      · rw [if_neg hd]
        exact ⟨out_right hr (path_ne hp), rfl⟩
  · rw [if_neg ha] at h
    exact absurd h ha
theorem rename_right {t : List It} {p q : ByteArray} {r : Int × List It} (h : RenR t p q r) (h0 : r.1 = 0) : rightB r.2 = true ∧ staysF t p q = 0 := by
  unfold RenR at h
  by_cases hs : staysF t p q = 0
  · rw [if_pos hs] at h
    by_cases ha : (underL t p).all (fun x => pathB (tx (mvP p q x).1)) = true
    · rw [if_pos ha] at h
      obtain ⟨zs, hz, hz2, rfl⟩ := h
      refine ⟨?_, hs⟩
      by_cases hpq : p = q
      · subst hpq
        have hr : rightB t = true ∧ pathB (tx p) = true := by
          unfold staysF at hs
          split at hs
          · rename_i hk
            have hr := asked_right hk
            unfold askedF at hk
            rw [hr, if_pos rfl] at hk
            refine ⟨hr, ?_⟩
            split at hk
            · rename_i hh
              simpa using hh
            · simp at hk
          · rename_i hk
            exact absurd hs hk
        show rightB zs = true
        rw [ren_self hr.1 hr.2 hz hz2]
        exact hr.1
      · exact ren_right hs hpq ha hz hz2
    · rw [if_neg ha] at h
      rw [h] at h0
      simp at h0
  · rw [if_neg hs] at h
    rw [h] at h0
    exact absurd h0 hs

end Go.Proofs.YtdooiflmjeibdaaDoor.Tr
