/-
  What is synced is kept: the mathematics of SimfsSafe.
-/
import Derived.Test.YtmiipifhbliamaaGreatSimDoes3
namespace Go.Proofs.YtmiipifhbliamaaGreat.Sim
open Go.RowKit Go.Maps

/-! ### What a name leads to -/
theorem dfind_ddel_ne {d : Dir} {n m : Nm} (h : n ≠ m) : dfind (ddel d n) m = dfind d m := by
  unfold dfind ddel
  rw [List.find?_filter]
  congr 1
  congr 1
  funext a
  by_cases e : a.1 = m
  · have : a.1 ≠ n := fun e' => h (e'.symm.trans e)
    simp [e, Ne.symm h]
  · simp [e]
theorem dfind_ddel_self {d : Dir} {n : Nm} : dfind (ddel d n) n = none := by
  unfold dfind ddel
  rw [List.find?_filter, Option.map_eq_none_iff, List.find?_eq_none]
  intro a _
  cases a.1 == n <;> simp
theorem dfind_dins_ne {n m : Nm} {f : Nat} (h : n ≠ m) : ∀ d : Dir, dfind (dins (n, f) d) m = dfind d m
  | [] => by simp [dins, dfind, h]
  | y :: r => by
    unfold dins
    split
    · unfold dfind
      rw [List.find?_cons]
      have : ((n, f).1 == m) = false := by simpa using h
      rw [this]
    · have ih := dfind_dins_ne (f := f) h r
      unfold dfind at ih ⊢
      rw [List.find?_cons, List.find?_cons]
      split
      · rfl
      · exact ih
theorem dfind_dput_ne {d : Dir} {n m : Nm} {f : Nat} (h : n ≠ m) : dfind (dput d n f) m = dfind d m := by
  unfold dput
  rw [dfind_dins_ne h, dfind_ddel_ne h]
theorem dfind_dins_self {n : Nm} {f : Nat} : ∀ d : Dir, (∀ p ∈ d, p.1 ≠ n) → dfind (dins (n, f) d) n = some f
  | [], _ => by simp [dins, dfind]
  | y :: r, h => by
    unfold dins
    split
    · simp [dfind]
    · have ih := dfind_dins_self (f := f) r (fun p hp => h p (by simp [hp]))
      unfold dfind at ih ⊢
      rw [List.find?_cons]
      have : (y.1 == n) = false := by simpa using h y (by simp)
      rw [this]
      exact ih
theorem dfind_dput_self {d : Dir} {n : Nm} {f : Nat} : dfind (dput d n f) n = some f := dfind_dins_self _ (fun _ hp => (mem_ddel.1 hp).2)
theorem dfind_pdo_ne {d : Dir} {c : PC} {n : Nm} (h1 : c.nm ≠ n) (h2 : c.to ≠ n) : dfind (pdo d c) n = dfind d n := by
  unfold pdo
  split
  · exact dfind_dput_ne h1
  · split
    · exact dfind_ddel_ne h1
    · rw [dfind_dput_ne h2, dfind_ddel_ne h1]
theorem dfind_fold_ne {n : Nm} : ∀ (l : List PC) (d : Dir), (∀ c ∈ l, c.nm ≠ n ∧ c.to ≠ n) → dfind (l.foldl pdo d) n = dfind d n
  | [], _, _ => rfl
  | c :: r, d, h => by
    rw [List.foldl_cons, dfind_fold_ne r _ (fun c' hc => h c' (by simp [hc]))]
    exact dfind_pdo_ne (h c (by simp)).1 (h c (by simp)).2
theorem dfind_inj {b : Nat} {n m : Nm} : ∀ {d : Dir}, (vals d).Nodup → (n, b) ∈ d → (m, b) ∈ d → n = m
  | [], _, h, _ => by simp at h
  | x :: r, hv, h1, h2 => by
    have hv' : (x.2 :: vals r).Nodup := hv
    rw [List.nodup_cons] at hv'
    rcases List.mem_cons.1 h1 with e1 | h1
    · rcases List.mem_cons.1 h2 with e2 | h2
      · rw [← e1] at e2; exact (congrArg Prod.fst e2).symm
      · exact absurd (List.mem_map.2 ⟨_, h2, by rw [← e1]⟩) hv'.1
    · rcases List.mem_cons.1 h2 with e2 | h2
      · exact absurd (List.mem_map.2 ⟨_, h1, by rw [← e2]⟩) hv'.1
      · exact dfind_inj hv'.2 h1 h2

/-! ### How many bytes -/
theorem sum_sub {f : Nat → Nat} {l m : List Nat} (h : l.Sublist m) : (l.map f).sum ≤ (m.map f).sum := by
  induction h with
  | slnil => exact Nat.le_refl _
  | cons a _ ih => simp only [List.map_cons, List.sum_cons]; omega
  | cons_cons a _ ih => simp only [List.map_cons, List.sum_cons]; omega
theorem sum_le {f g : Nat → Nat} : ∀ (l : List Nat), (∀ x, f x ≤ g x) → (l.map f).sum ≤ (l.map g).sum
  | [], _ => Nat.le_refl _
  | x :: r, h => by
    have := sum_le r h
    have := h x
    simp only [List.map_cons, List.sum_cons]
    omega
theorem sum_one {f g : Nat → Nat} {b k : Nat} : ∀ (l : List Nat), l.Nodup → (∀ x, x ≠ b → g x = f x) → g b ≤ f b + k → (l.map g).sum ≤ (l.map f).sum + k
  | [], _, _, _ => Nat.zero_le _
  | x :: r, hn, h, hb => by
    rw [List.nodup_cons] at hn
    simp only [List.map_cons, List.sum_cons]
    by_cases e : x = b
    · have h0 : r.map g = r.map f := List.map_congr_left (fun y hy => h y (fun e' => hn.1 (by rw [e, ← e']; exact hy)))
      rw [h0, e]
      omega
    · have := sum_one r hn.2 h hb
      rw [h x e]
      omega
def lens (p : PS) (b : Nat) : Nat := (fileAt p b).b.length
theorem used_eq (p : PS) : used p = ((vals p.seen).map (lens p)).sum := by
  unfold used vals
  rw [List.map_map]
  rfl
theorem lens_set (p : PS) (b : Nat) (f : Fl) (x : Nat) : lens (setF b f p) x = if x = b then f.b.length else lens p x := by
  unfold lens fileAt setF
  simp only
  split <;> rfl
theorem used_same {p q : PS} (h1 : q.seen = p.seen) (h2 : q.files = p.files) : used q = used p := by
  unfold used fileAt
  rw [h1, h2]
theorem used_sub {p q : PS} (h1 : (vals q.seen).Sublist (vals p.seen)) (h2 : ∀ x, lens q x ≤ lens p x) : used q ≤ used p := by
  rw [used_eq, used_eq]
  exact Nat.le_trans (sum_le _ h2) (sum_sub h1)
theorem sub_del (d : Dir) (n : Nm) : (vals (ddel d n)).Sublist (vals d) := List.Sublist.map _ List.filter_sublist

/-- As a script goes that arms nothing. -/
structure Easy (k : Nat) (p : PS) : Prop where
  armed : p.armed = false
  down : p.down = false
  room : p.room = 99000
  used : used p ≤ 200 * k
theorem Easy.more {k m : Nat} {p : PS} (h : Easy k p) (hm : k ≤ m) : Easy m p := ⟨h.armed, h.down, h.room, Nat.le_trans h.used (Nat.mul_le_mul_left _ hm)⟩
theorem Easy.stp {k : Nat} {p : PS} (h : Easy k p) (g : PS → PS) : stp p g = (0, g (tick p)) := by
  have : dead p = false := by unfold dead; rw [h.armed]; rfl
  unfold YtmiipifhbliamaaGreat.Sim.stp
  rw [this]
  rfl
theorem easy_create {k : Nat} {p : PS} (h : Easy k p) (n : Nm) (c : Nat) : Easy k (pCreate n c p).2 := by
  unfold pCreate
  repeat' split
  · exact h
  · exact h
  · rw [h.stp]
    refine ⟨h.armed, h.down, h.room, Nat.le_trans ?_ h.used⟩
    rename_i _ h0
    rw [used_eq, used_eq]
    have hp : (vals (dput p.seen n c)).Perm (c :: vals (ddel p.seen n)) := (perm_dins (n, c) (ddel p.seen n)).map _
    have hl : ∀ x, lens (chgd ⟨0, n, [], c⟩ (setF c ⟨[], 0⟩ (tick p))) x = if x = c then 0 else lens p x := fun x => lens_set (tick p) c ⟨[], 0⟩ x
    show ((vals (dput p.seen n c)).map _).sum ≤ _
    rw [(hp.map _).sum_nat, List.map_cons, List.sum_cons, hl c, if_pos rfl, Nat.zero_add]
    refine Nat.le_trans (sum_le _ (fun x => ?_)) (sum_sub (sub_del _ _))
    show lens (chgd ⟨0, n, [], c⟩ (setF c ⟨[], 0⟩ (tick p))) x ≤ lens p x
    rw [hl x]
    split <;> omega
theorem easy_append {k : Nat} {p : PS} (h : Easy k p) (hv : (vals p.seen).Nodup) (n : Nm) (ys : List Nat) (hl : ys.length ≤ 200) : Easy (k + 1) (pAppend n ys p).2 := by
  unfold pAppend
  repeat' split
  · exact h.more (Nat.le_succ _)
  · exact h.more (Nat.le_succ _)
  · rw [h.stp]
    refine ⟨h.armed, h.down, h.room, ?_⟩
    have hu := h.used
    rw [used_eq] at hu ⊢
    have := sum_one (f := lens p) (g := lens (setF (blockOf p n) ⟨(fileAt p (blockOf p n)).b ++ ys, (fileAt p (blockOf p n)).safe⟩ (tick p))) (b := blockOf p n) (k := ys.length) (vals p.seen) hv (fun x hx => by rw [lens_set, if_neg hx]; rfl) (by rw [lens_set, if_pos rfl, List.length_append]; exact Nat.le_refl _)
    refine Nat.le_trans this ?_
    omega
theorem easy_rename {k : Nat} {p : PS} (h : Easy k p) (hr : Ris p.seen) (n t : Nm) : Easy k (pRename n t p).2 := by
  unfold pRename
  split
  · exact h
  · split
    · rename_i _ h0
      obtain ⟨b, hb⟩ := Option.isSome_iff_exists.1 h0
      rw [h.stp]
      refine ⟨h.armed, h.down, h.room, Nat.le_trans ?_ h.used⟩
      rw [used_eq, used_eq]
      have hs : (chgd ⟨2, n, t, 0⟩ (tick p)).seen = dput (ddel p.seen n) t b := by
        show pdo p.seen ⟨2, n, t, 0⟩ = _
        unfold pdo
        simp [hb]
      have hp : (vals (dput (ddel p.seen n) t b)).Perm (b :: vals (ddel (ddel p.seen n) t)) := (perm_dins (t, b) (ddel (ddel p.seen n) t)).map _
      show ((vals (chgd ⟨2, n, t, 0⟩ (tick p)).seen).map (lens p)).sum ≤ _
      rw [hs, (hp.map _).sum_nat, ((vals_moved hr.nodup hb).map _).sum_nat, List.map_cons, List.map_cons, List.sum_cons, List.sum_cons]
      exact Nat.add_le_add_left (sum_sub (sub_del _ _)) _
    · exact h
theorem easy_remove {k : Nat} {p : PS} (h : Easy k p) (n : Nm) : Easy k (pRemove n p).2 := by
  unfold pRemove
  split
  · exact h
  · rw [h.stp]
    refine ⟨h.armed, h.down, h.room, Nat.le_trans (used_sub (p := p) ?_ (fun x => Nat.le_refl (lens p x))) h.used⟩
    exact sub_del p.seen n
theorem easy_fsync {k : Nat} {p : PS} (h : Easy k p) (n : Nm) : Easy k (pFsync n p).2 := by
  unfold pFsync
  split
  · exact h
  · rw [h.stp]
    refine ⟨h.armed, h.down, h.room, Nat.le_trans (used_sub (p := p) (List.Sublist.refl _) (fun x => ?_)) h.used⟩
    rw [lens_set]
    split
    · rename_i e; rw [e]; exact Nat.le_refl (lens p (blockOf p n))
    · exact Nat.le_refl (lens p x)
theorem easy_syncdir {k : Nat} {p : PS} (h : Easy k p) : Easy k (pSyncDir p).2 := by
  unfold pSyncDir
  split
  · exact h
  · rw [h.stp]
    exact ⟨h.armed, h.down, h.room, Nat.le_trans (Nat.le_of_eq (used_same rfl rfl)) h.used⟩
theorem easy_step {k : Nat} {p : PS} (h : Easy k p) (hv : (vals p.seen).Nodup) (hr : Ris p.seen) (o : RawOp) (bs : List Nat) (c : Nat) (hk : o.k < 7) (hl : bs.length ≤ 200) : Easy (k + 1) (stepP o bs c p).2 := by
  have n7 : ¬ o.k = 7 := by omega
  have n9 : ¬ o.k = 9 := by omega
  unfold stepP
  repeat' split
  all_goals first | contradiction | exact easy_append h hv _ _ hl | exact (easy_create h _ _).more (Nat.le_succ _) | exact (easy_rename h hr _ _).more (Nat.le_succ _) | exact (easy_remove h _).more (Nat.le_succ _) | exact (easy_fsync h _).more (Nat.le_succ _) | exact (easy_syncdir h).more (Nat.le_succ _) | exact h.more (Nat.le_succ _)

/-! ### What is synced is there -/
/-- The name's file, and its bytes, are safe, and no change is one of the name. -/
structure Sure (n : Nm) (bs : List Nat) (p : PS) (b : Nat) : Prop where
  safe : dfind p.safe n = some b
  file : p.files b = some ⟨bs, bs.length⟩
  chg : ∀ c ∈ p.chg, c.nm ≠ n ∧ c.to ≠ n
theorem Sure.seen {n : Nm} {bs : List Nat} {p : PS} {b : Nat} (h : Sure n bs p b) (hs : p.seen = p.chg.foldl pdo p.safe) : dfind p.seen n = some b := by
  rw [hs, dfind_fold_ne _ _ h.chg]
  exact h.safe
theorem Sure.ofFields {n : Nm} {bs : List Nat} {p q : PS} {b : Nat} (h : Sure n bs p b) (h1 : q.safe = p.safe) (h2 : q.files = p.files) (h3 : q.chg = p.chg) : Sure n bs q b := ⟨by rw [h1]; exact h.safe, by rw [h2]; exact h.file, by rw [h3]; exact h.chg⟩
theorem Sure.stp {n : Nm} {bs : List Nat} {p : PS} {b : Nat} (h : Sure n bs p b) (g : PS → PS) (hg : ∀ q : PS, Sure n bs q b → q.seen = p.seen → q.files = p.files → q.chg = p.chg → Sure n bs (g q) b) : Sure n bs (stp p g).2 b := by
  unfold YtmiipifhbliamaaGreat.Sim.stp
  split
  · exact h.ofFields rfl rfl rfl
  · exact hg (tick p) (h.ofFields rfl rfl rfl) rfl rfl rfl
theorem Sure.set {n : Nm} {bs : List Nat} {p : PS} {b c : Nat} (h : Sure n bs p b) (f : Fl) (hc : c ≠ b) : Sure n bs (setF c f p) b :=
  ⟨h.safe, by show (if b = c then some f else p.files b) = _; rw [if_neg (Ne.symm hc)]; exact h.file, h.chg⟩
theorem Sure.chgd {n : Nm} {bs : List Nat} {p : PS} {b : Nat} (h : Sure n bs p b) (c : PC) (h1 : c.nm ≠ n) (h2 : c.to ≠ n) : Sure n bs (chgd c p) b :=
  ⟨h.safe, h.file, fun d hd => by
    rcases List.mem_append.1 hd with hd | hd
    · exact h.chg d hd
    · rw [List.mem_singleton] at hd; subst hd; exact ⟨h1, h2⟩⟩
theorem Sure.other {n t : Nm} {bs : List Nat} {p : PS} {b : Nat} (h : Sure n bs p b) (hs : p.seen = p.chg.foldl pdo p.safe) (hv : (vals p.seen).Nodup) (ht : t ≠ n) (h0 : finds p t = 0) : blockOf p t ≠ b := by
  obtain ⟨_, b', hb⟩ := finds_zero h0
  have e : blockOf p t = b' := by simp [blockOf, hb]
  rw [e]
  intro e'
  subst e'
  exact ht (dfind_inj hv (mem_of_dfind hb) (mem_of_dfind (h.seen hs)))
theorem sure_step {n : Nm} {bs : List Nat} {p : PS} {b : Nat} (h : Sure n bs p b) (hs : p.seen = p.chg.foldl pdo p.safe) (hv : (vals p.seen).Nodup) (hn : ([] : Nm) ≠ n) (o : RawOp) (ys : List Nat) (c : Nat) (h1 : nm o.s ≠ n) (h2 : nm o.t ≠ n) (hk : o.k < 8) (hc : o.k = 0 → p.files c = none) : Sure n bs (stepP o ys c p).2 b := by
  have n9 : ¬ o.k = 9 := by omega
  unfold stepP
  split
  · rename_i k0
    have hcb : c ≠ b := fun e => by have := hc k0; rw [e, h.file] at this; cases this
    unfold pCreate
    repeat' split
    · exact h
    · exact h
    · exact h.stp _ (fun q hq _ _ _ => (hq.set _ hcb).chgd _ h1 hn)
  split
  · unfold pAppend
    split
    · exact h
    · rename_i h0
      have h0' : finds p (nm o.s) = 0 := by simpa using h0
      split
      · exact h
      · exact h.stp _ (fun q hq _ _ _ => hq.set _ (h.other hs hv h1 h0'))
  split
  · unfold pRename
    repeat' split
    · exact h
    · exact h.stp _ (fun q hq _ _ _ => hq.chgd _ h1 h2)
    · exact h
  split
  · unfold pRemove
    split
    · exact h
    · exact h.stp _ (fun q hq _ _ _ => hq.chgd _ h1 hn)
  split
  · unfold pFsync
    split
    · exact h
    · rename_i h0
      have h0' : finds p (nm o.s) = 0 := by simpa using h0
      exact h.stp _ (fun q hq _ _ _ => hq.set _ (h.other hs hv h1 h0'))
  split
  · unfold pSyncDir
    split
    · exact h
    · refine h.stp _ (fun q hq _ _ e3 => ⟨?_, hq.file, fun c hc => by simp [settle] at hc⟩)
      show dfind ((q.chg.take p.chg.length).foldl pdo q.safe) n = some b
      rw [dfind_fold_ne _ _ (fun c hc => hq.chg c (List.mem_of_mem_take hc))]
      exact hq.safe
  split
  · unfold pArm
    repeat' split
    · exact h
    · exact h
    · exact h.ofFields rfl rfl rfl
  · first | exact h | (rw [if_neg n9]; exact h)

theorem lose_safe (z : Int) (bs : List Nat) : lose z ⟨bs, bs.length⟩ = ⟨bs, bs.length⟩ := by
  unfold lose
  simp
theorem loses_keep {b : Nat} {bs : List Nat} : ∀ (d : Dir) (i : Nat) (cuts : List Int) (p : PS), p.files b = some ⟨bs, bs.length⟩ → (loses d i cuts p).files b = some ⟨bs, bs.length⟩ ∧ (loses d i cuts p).safe = p.safe
  | [], _, _, _, h => ⟨h, rfl⟩
  | e :: r, i, cuts, p, h => by
    unfold loses
    have h1 : (setF e.2 (lose (cuts.getD i 0) (fileAt p e.2)) p).files b = some ⟨bs, bs.length⟩ := by
      show (if b = e.2 then some (lose (cuts.getD i 0) (fileAt p e.2)) else p.files b) = _
      split
      · rename_i eb
        rw [← eb]
        have : fileAt p b = ⟨bs, bs.length⟩ := by unfold fileAt; rw [h]; rfl
        rw [this, lose_safe]
      · exact h
    obtain ⟨h2, h3⟩ := loses_keep r (i + 1) cuts _ h1
    exact ⟨h2, h3⟩
theorem sure_up {n : Nm} {bs : List Nat} {p : PS} {b : Nat} (h : Sure n bs p b) (hn : nameB n = true) (k : Int) (cuts : List Int) : finds (pUp k cuts p) n = 0 ∧ pBytes n (pUp k cuts p) = bs ∧ (pUp k cuts p).down = false := by
  have hsafe : dfind (settle (min (max k 0).toNat p.chg.length) p).safe n = some b := by
    show dfind ((p.chg.take _).foldl pdo p.safe) n = some b
    rw [dfind_fold_ne _ _ (fun c hc => h.chg c (List.mem_of_mem_take hc))]
    exact h.safe
  obtain ⟨h1, h2⟩ := loses_keep (settle (min (max k 0).toNat p.chg.length) p).safe 0 cuts (settle (min (max k 0).toNat p.chg.length) p) (b := b) (bs := bs) h.file
  have hseen : dfind (pUp k cuts p).seen n = some b := by
    show dfind (loses (settle (min (max k 0).toNat p.chg.length) p).safe 0 cuts (settle (min (max k 0).toNat p.chg.length) p)).safe n = some b
    rw [h2]
    exact hsafe
  have hfile : (pUp k cuts p).files b = some ⟨bs, bs.length⟩ := h1
  have hw : wrongs (pUp k cuts p) [n] = 0 := by
    have hd : (pUp k cuts p).down = false := rfl
    simp [wrongs, hd, hn]
  have hf : finds (pUp k cuts p) n = 0 := by simp [finds, hw, hseen]
  refine ⟨hf, ?_, rfl⟩
  unfold pBytes
  rw [if_neg (by simp [hf])]
  have e : blockOf (pUp k cuts p) n = b := by simp [blockOf, hseen]
  rw [e]
  unfold fileAt
  rw [hfile]
  rfl

/-! ### A name that is made, written and synced -/
theorem made_sure {k : Nat} {p : PS} (h : Easy k p) (hk : k ≤ 100) (n : Nm) (hn : nameB n = true) (c : Nat) (bs : List Nat) (hl : bs.length ≤ 200) :
    dfind (pRemove n p).2.seen n = none ∧
    ((pCreate n c (pRemove n p).2).1 = 0 ∧ (pAppend n bs (pCreate n c (pRemove n p).2).2).1 = 0 ∧ (pFsync n (pAppend n bs (pCreate n c (pRemove n p).2).2).2).1 = 0 ∧ (pSyncDir (pFsync n (pAppend n bs (pCreate n c (pRemove n p).2).2).2).2).1 = 0 ∧
      ((pRemove n p).2.seen = (pRemove n p).2.chg.foldl pdo (pRemove n p).2.safe → Sure n bs (pSyncDir (pFsync n (pAppend n bs (pCreate n c (pRemove n p).2).2).2).2).2 c)) := by
  have e1 := easy_remove h n
  have hno : dfind (pRemove n p).2.seen n = none := by
    unfold pRemove
    split
    · rename_i h0
      unfold finds at h0
      have hw : wrongs p [n] = 0 := by simp [wrongs, h.down, hn]
      rw [hw] at h0
      cases hd : dfind p.seen n with
      | none => rfl
      | some b => rw [hd] at h0; simp at h0
    · rw [h.stp]
      exact dfind_ddel_self
  refine ⟨hno, ?_⟩
  generalize (pRemove n p).2 = q at *
  have hw : ∀ r : PS, r.down = false → wrongs r [n] = 0 := fun r hr => by simp [wrongs, hr, hn]
  have c1 : pCreate n c q = (0, chgd ⟨0, n, [], c⟩ (setF c ⟨[], 0⟩ (tick q))) := by
    unfold pCreate
    rw [hw q e1.down, hno, e1.stp]
    simp
  have e2 := easy_create e1 n c
  rw [c1] at e2 ⊢
  simp only at e2 ⊢
  have s2 : dfind (chgd ⟨0, n, [], c⟩ (setF c ⟨[], 0⟩ (tick q))).seen n = some c := by
    show dfind (pdo q.seen ⟨0, n, [], c⟩) n = some c
    unfold pdo
    simp only [if_pos]
    exact dfind_dput_self
  have f2 : (chgd ⟨0, n, [], c⟩ (setF c ⟨[], 0⟩ (tick q))).files c = some ⟨[], 0⟩ := by
    show (if c = c then some (⟨[], 0⟩ : Fl) else q.files c) = _
    rw [if_pos rfl]
  have g2 : (chgd ⟨0, n, [], c⟩ (setF c ⟨[], 0⟩ (tick q))).seen = pdo q.seen ⟨0, n, [], c⟩ ∧ (chgd ⟨0, n, [], c⟩ (setF c ⟨[], 0⟩ (tick q))).chg = q.chg ++ [⟨0, n, [], c⟩] ∧ (chgd ⟨0, n, [], c⟩ (setF c ⟨[], 0⟩ (tick q))).safe = q.safe := ⟨rfl, rfl, rfl⟩
  generalize chgd ⟨0, n, [], c⟩ (setF c ⟨[], 0⟩ (tick q)) = q2 at *
  have fd2 : finds q2 n = 0 := by simp [finds, hw q2 e2.down, s2]
  have b2 : blockOf q2 n = c := by simp [blockOf, s2]
  have a2 : fileAt q2 c = ⟨[], 0⟩ := by unfold fileAt; rw [f2]; rfl
  have c2 : pAppend n bs q2 = (0, setF c ⟨bs, 0⟩ (tick q2)) := by
    unfold pAppend
    rw [if_neg (by simp [fd2]), if_neg (by have := e2.used; rw [e2.room]; omega), e2.stp, b2, a2]
    simp
  rw [c2]
  simp only
  have e3 : (setF c ⟨bs, 0⟩ (tick q2)).down = false ∧ (setF c ⟨bs, 0⟩ (tick q2)).armed = false := ⟨e2.down, e2.armed⟩
  have s3 : dfind (setF c ⟨bs, 0⟩ (tick q2)).seen n = some c := s2
  have f3 : (setF c ⟨bs, 0⟩ (tick q2)).files c = some ⟨bs, 0⟩ := by
    show (if c = c then some (⟨bs, 0⟩ : Fl) else q2.files c) = _
    rw [if_pos rfl]
  have g3 : (setF c ⟨bs, 0⟩ (tick q2)).seen = q2.seen ∧ (setF c ⟨bs, 0⟩ (tick q2)).chg = q2.chg ∧ (setF c ⟨bs, 0⟩ (tick q2)).safe = q2.safe := ⟨rfl, rfl, rfl⟩
  generalize setF c ⟨bs, 0⟩ (tick q2) = q3 at *
  have dd3 : ∀ r : PS, r.armed = false → dead r = false := fun r hr => by unfold dead; rw [hr]; rfl
  have fd3 : finds q3 n = 0 := by simp [finds, hw q3 e3.1, s3]
  have b3 : blockOf q3 n = c := by simp [blockOf, s3]
  have a3 : fileAt q3 c = ⟨bs, 0⟩ := by unfold fileAt; rw [f3]; rfl
  have c3 : pFsync n q3 = (0, setF c ⟨bs, bs.length⟩ (tick q3)) := by
    unfold pFsync stp
    rw [if_neg (by simp [fd3]), b3, a3, dd3 q3 e3.2]
    rfl
  rw [c3]
  simp only
  have e4 : (setF c ⟨bs, bs.length⟩ (tick q3)).down = false ∧ (setF c ⟨bs, bs.length⟩ (tick q3)).armed = false := e3
  have f4 : (setF c ⟨bs, bs.length⟩ (tick q3)).files c = some ⟨bs, bs.length⟩ := by
    show (if c = c then some (⟨bs, bs.length⟩ : Fl) else q3.files c) = _
    rw [if_pos rfl]
  have g4 : (setF c ⟨bs, bs.length⟩ (tick q3)).chg = q3.chg ∧ (setF c ⟨bs, bs.length⟩ (tick q3)).safe = q3.safe := ⟨rfl, rfl⟩
  generalize setF c ⟨bs, bs.length⟩ (tick q3) = q4 at *
  have c4 : pSyncDir q4 = (0, settle q4.chg.length (tick q4)) := by
    unfold pSyncDir stp
    have : wrongs q4 [] = 0 := by simp [wrongs, e4.1]
    rw [if_neg (by simp [this]), dd3 q4 e4.2]
    rfl
  rw [c4]
  refine ⟨trivial, trivial, trivial, rfl, fun hse => ⟨?_, f4, fun d hd => by simp [settle] at hd⟩⟩
  show dfind ((q4.chg.take q4.chg.length).foldl pdo q4.safe) n = some c
  rw [List.take_length, g4.1, g4.2, g3.2.1, g3.2.2, g2.2.1, g2.2.2, List.foldl_append, ← hse]
  show dfind (pdo q.seen ⟨0, n, [], c⟩) n = some c
  rw [← g2.1]
  exact s2

end Go.Proofs.YtmiipifhbliamaaGreat.Sim
