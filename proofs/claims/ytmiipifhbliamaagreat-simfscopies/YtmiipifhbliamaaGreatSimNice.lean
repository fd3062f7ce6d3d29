/-
  All names that are seen are right.
-/
import Derived.Test.YtmiipifhbliamaaGreatSimRel
namespace Go.Proofs.YtmiipifhbliamaaGreat.Sim
open Go.RowKit Go.Maps

def niceC (c : PC) : Prop := nameB c.nm = true ∧ (c.kind = 2 → nameB c.to = true)
structure Nice (p : PS) : Prop where
  safe : ∀ e ∈ p.safe, nameB e.1 = true
  seen : ∀ e ∈ p.seen, nameB e.1 = true
  chg : ∀ c ∈ p.chg, niceC c ∧ c.kind ≤ 2
theorem nice_pdo {d : Dir} {c : PC} (hd : ∀ e ∈ d, nameB e.1 = true) (hc : niceC c) (hk : c.kind ≤ 2) : ∀ e ∈ pdo d c, nameB e.1 = true := by
  intro e he
  unfold pdo at he
  split at he
  · rcases mem_dput.1 he with rfl | h
    · exact hc.1
    · exact hd e h.1
  · split at he
    · exact hd e (mem_ddel.1 he).1
    · rcases mem_dput.1 he with rfl | h
      · exact hc.2 (by omega)
      · exact hd e (mem_ddel.1 h.1).1
theorem nice_fold : ∀ (l : List PC) (d : Dir), (∀ e ∈ d, nameB e.1 = true) → (∀ c ∈ l, niceC c ∧ c.kind ≤ 2) → ∀ e ∈ l.foldl pdo d, nameB e.1 = true
  | [], _, hd, _ => hd
  | c :: r, d, hd, hl => nice_fold r (pdo d c) (nice_pdo hd (hl c (by simp)).1 (hl c (by simp)).2) (fun x hx => hl x (by simp [hx]))
theorem Nice.fields {p q : PS} (h : Nice p) (h1 : q.safe = p.safe) (h2 : q.seen = p.seen) (h3 : q.chg = p.chg) : Nice q := ⟨by rw [h1]; exact h.safe, by rw [h2]; exact h.seen, by rw [h3]; exact h.chg⟩
theorem Nice.chgd {p : PS} (h : Nice p) (c : PC) (hc : niceC c) (hk : c.kind ≤ 2) : Nice (chgd c p) :=
  ⟨h.safe, nice_pdo h.seen hc hk, fun x hx => by
    rcases List.mem_append.1 hx with hx | hx
    · exact h.chg x hx
    · rw [List.mem_singleton] at hx; subst hx; exact ⟨hc, hk⟩⟩
theorem Nice.settle {p : PS} (h : Nice p) (k : Nat) : Nice (settle k p) := ⟨nice_fold _ _ h.safe (fun c hc => h.chg c (List.mem_of_mem_take hc)), h.seen, fun c hc => by simp [YtmiipifhbliamaaGreat.Sim.settle] at hc⟩
theorem Nice.stp {p : PS} (h : Nice p) (F : PS → PS) (hF : Nice (tick p) → Nice (F (tick p))) : Nice (stp p F).2 := by
  unfold YtmiipifhbliamaaGreat.Sim.stp
  split
  · exact h.fields rfl rfl rfl
  · exact hF (h.fields rfl rfl rfl)
theorem right_one {p : PS} {n : Nm} (h : wrongs p [n] = 0) : nameB n = true := by
  unfold wrongs at h
  split at h
  · cases h
  · split at h
    · rename_i h1; simpa using h1
    · cases h
theorem right_two {p : PS} {n t : Nm} (h : wrongs p [n, t] = 0) : nameB n = true ∧ nameB t = true := by
  unfold wrongs at h
  split at h
  · cases h
  · split at h
    · rename_i h1; simpa using h1
    · cases h
theorem nice_loses (cuts : List Int) : ∀ (d : Dir) (i : Nat) (p : PS), Nice p → Nice (loses d i cuts p)
  | [], _, _, h => h
  | _ :: t, i, _, h => nice_loses cuts t (i + 1) _ (h.fields rfl rfl rfl)
theorem nice_step {p : PS} (h : Nice p) (o : RawOp) (bs : List Nat) (cuts : List Int) (c : Nat) : Nice (stepQ o bs cuts c p).2 := by
  unfold stepQ
  split
  · have h1 := nice_loses cuts (settle (min (max o.z 0).toNat p.chg.length) p).safe 0 _ (h.settle (min (max o.z 0).toNat p.chg.length))
    unfold pUp
    exact ⟨h1.safe, h1.safe, h1.chg⟩
  · unfold stepP
    split
    · unfold pCreate
      split
      · exact h
      · rename_i h0
        split
        · exact h
        · have hw := right_one (p := p) (n := nm o.s) (by simpa using h0)
          exact h.stp _ (fun ht => Nice.chgd (p := setF c ⟨[], 0⟩ (tick p)) (ht.fields rfl rfl rfl) ⟨0, nm o.s, [], c⟩ ⟨hw, fun e => by simp at e⟩ (by simp))
    split
    · unfold pAppend
      repeat' split
      · exact h
      · exact h
      · exact h.stp _ (fun ht => ht.fields rfl rfl rfl)
    split
    · unfold pRename
      split
      · exact h
      · rename_i h0
        split
        · have hw := right_two (p := p) (by simpa using h0)
          exact h.stp _ (fun ht => ht.chgd _ ⟨hw.1, fun _ => hw.2⟩ (by simp))
        · exact h
    split
    · unfold pRemove
      split
      · exact h
      · rename_i h0
        have hw := (finds_zero (p := p) (n := nm o.s) (by simpa using h0)).1
        exact h.stp _ (fun ht => ht.chgd _ ⟨right_one hw, fun e => by simp at e⟩ (by simp))
    split
    · unfold pFsync
      split
      · exact h
      · exact h.stp _ (fun ht => ht.fields rfl rfl rfl)
    split
    · unfold pSyncDir
      split
      · exact h
      · exact h.stp _ (fun ht => ht.settle _)
    split
    · unfold pArm
      repeat' split
      · exact h
      · exact h
      · exact h.fields rfl rfl rfl
    split
    · unfold pFlip
      repeat' split
      · exact h
      · exact h
      · exact h.fields rfl rfl rfl
    · exact h
theorem nice_copy {g : Nat → Nat} {p q : PS} (h : Nice p) (hc : CopyOf g p q) : Nice q := by
  have hr : ∀ D : Dir, (∀ e ∈ D, nameB e.1 = true) → ∀ e ∈ ren g D, nameB e.1 = true := fun D hD e he => by
    obtain ⟨x, hx, rfl⟩ := mem_ren.1 he
    exact hD x hx
  refine ⟨by rw [hc.safe]; exact hr _ h.safe, by rw [hc.seen]; exact hr _ h.seen, fun c h1 => ?_⟩
  rw [hc.chg] at h1
  obtain ⟨x, hx, rfl⟩ := List.mem_map.1 h1
  obtain ⟨k1, k2, k3, _⟩ := renC_kind g x
  have := h.chg x hx
  unfold niceC at this ⊢
  rw [k1, k2, k3]
  exact this
theorem nice_found {p : PS} (h : Nice p) {n : Nm} (hn : n ∈ pList p) : finds p n = 0 := by
  unfold pList at hn
  split at hn
  · simp at hn
  · rename_i hd
    obtain ⟨e, he, rfl⟩ := List.mem_map.1 hn
    have hw : wrongs p [e.1] = 0 := by simp [wrongs, hd, h.seen e he]
    have hs : (dfind p.seen e.1).isSome = true := by
      cases hf : dfind p.seen e.1 with
      | none => exact absurd rfl (dfind_none hf e he)
      | some b => rfl
    simp [finds, hw, hs]
theorem rel_list {g : Nat → Nat} {p r : PS} (h : Rel g p r) : pList r = pList p := by
  unfold pList
  rw [h.down, h.seen]
  split
  · rfl
  · unfold ren
    rw [List.map_map]
    rfl

end Go.Proofs.YtmiipifhbliamaaGreat.Sim
