/- Of the proof: the texts ShInvM, ShCrashM, ShCrashL, ShRange, ShWalk0, ShLoad, ShTells, one behind the other. -/
import Derived.Test.YtaaioaocjfpajaaGreatDoorB14
import Derived.Test.YtaaioaocjfpajaaGreatDoorB12
import Derived.Test.YtaaioaocjfpajaaGreatDoorB8
import Derived.Test.YtaaioaocjfpajaaGreatDoorB1
import Derived.Test.YtaaioaocjfpajaaGreatDoorB9
import Derived.RangeFuncBox
import Derived.Test.YtaaioaocjfpajaaGreatDoorB10
section
/-
  What holds of a disk that nothing but Lay and Flip was done to: it is up, and all names are of packs up to an id.
-/
namespace Go.Proofs.YtaaioaocjfpajaaGreatDoor.Sh
open Go.RowKit Go.Shelf
open Sim (hid nm Nm PS pCreate pAppend pRemove pFsync pRename pSyncDir pFlip finds wrongs pList nameB dfind dput ddel pdo stp dead tick setF chgd settle)

theorem nm_sort (p : ByteArray) (i : Nat) : nm (sortB p i) = nm p ++ Lib.decDigits i := app_data p _
theorem sign_dig {c : UInt8} (h : digB c = true) : Sim.sign c = true := by
  simp [digB] at h
  simp [Sim.sign]
  omega
theorem nB_sort (p : ByteArray) (hp : (nm p).all Sim.sign = true) (h1 : 1 ≤ (nm p).length) (hl : (nm p).length ≤ 30) (i : Nat) (h2 : i < 100) : nameB (nm (sortB p i)) = true := by
  have hd := dec_small i h2
  have ha : (Lib.decDigits i).all Sim.sign = true := List.all_eq_true.2 fun c hc => sign_dig (dec_digs i c hc)
  rw [nm_sort]
  unfold nameB
  rw [List.all_append, hp, ha, List.length_append]
  simp
  omega
theorem nB_P (i : Nat) (h : i < 100) : nameB (nm (nameP i)) = true := nB_sort _ (by decide) (by decide) (by decide) i h
theorem nB_T (i : Nat) (h : i < 100) : nameB (nm (nameT i)) = true := nB_sort _ (by decide) (by decide) (by decide) i h
theorem len_P (i : Nat) (h : i < 100) : (nm (nameP i)).length ≤ 40 := by
  have := nB_P i h
  simp [nameB] at this
  omega
theorem T_ne_P (i j : Nat) : nm (nameT i) ≠ nm (nameP j) := by
  unfold nameT nameP
  rw [nm_sort, nm_sort]
  intro e
  have h1 : nm (⟨#[116, 109, 112, 46]⟩ : ByteArray) = [116, 109, 112, 46] := rfl
  have h2 : nm (⟨#[112, 97, 99, 107, 46]⟩ : ByteArray) = [112, 97, 99, 107, 46] := rfl
  rw [h1, h2] at e
  simp at e
theorem nameZ_P {j : Nat} (h1 : 1 ≤ j) (h2 : j < 100) : nameZ packS (j : Int) = nameP j := by rw [nameZ_of h1 (by omega)]; rfl
theorem idN_P {j : Nat} (h1 : 1 ≤ j) (h2 : j < 100) : idN (nm (nameP j)) = some (j : Int) := by
  have h := idOf_name (p := packS) (u := j) h1 (by omega)
  have e : (⟨(nm (nameP j)).toArray⟩ : ByteArray) = nameZ packS (j : Int) := by
    rw [nameZ_P h1 h2]
    rfl
  rw [idN, e, h]
  rfl
theorem P_inj {i j : Nat} (h1 : 1 ≤ i) (h2 : i < 100) (h3 : 1 ≤ j) (h4 : j < 100) (h : nm (nameP i) = nm (nameP j)) : i = j := by
  have e1 := idN_P h1 h2
  rw [h, idN_P h3 h4] at e1
  simp at e1
  omega

/-! ### The greatest -/
theorem foldl_max_le : ∀ (zs : List Int) (a n : Int), a ≤ n → (∀ z ∈ zs, z ≤ n) → zs.foldl max a ≤ n
  | [], a, n, h, _ => h
  | z :: r, a, n, h, hz => foldl_max_le r (max a z) n (by have := hz z (by simp); omega) (fun y hy => hz y (by simp [hy]))
theorem maxZ_top (zs : List Int) (n : Int) (h : ∀ z ∈ zs, z ≤ n) : maxZ (zs ++ [n]) = n := by
  cases zs with
  | nil => rfl
  | cons y r =>
    rw [maxZ_snoc _ _ (by simp)]
    have : maxZ (y :: r) ≤ n := foldl_max_le r y n (h y (by simp)) (fun z hz => h z (by simp [hz]))
    omega

/-! ### Calls of a system that is up -/
/-- It is up, and does not go down. -/
def Up (p : PS) : Prop := p.down = false ∧ p.armed = false
theorem Up.dead {p : PS} (h : Up p) : dead p = false := by simp [Sim.dead, h.2]
theorem Up.wrongs {p : PS} (h : Up p) (l : List Nm) (hl : l.all nameB = true) : wrongs p l = 0 := by simp [Sim.wrongs, h.1, hl]
theorem Up.stp {p : PS} (h : Up p) (g : PS → PS) : stp p g = (0, g (tick p)) := by simp [Sim.stp, h.dead]
theorem Up.tick {p : PS} (h : Up p) : Up (tick p) := h
theorem up_append {p : PS} (h : Up p) (n : Nm) (bs : List Nat) : Up (pAppend n bs p).2 ∧ (pAppend n bs p).2.seen = p.seen := by
  unfold pAppend
  split
  · exact ⟨h, rfl⟩
  · split
    · exact ⟨h, rfl⟩
    · rw [h.stp]; exact ⟨h, rfl⟩
theorem up_aps {p : PS} (h : Up p) (i : Nat) (zs : List El) : Up (aps i p zs).2 ∧ (aps i p zs).2.seen = p.seen := by
  refine list_snoc (p := fun zs => Up (aps i p zs).2 ∧ (aps i p zs).2.seen = p.seen) zs ⟨h, rfl⟩ (fun zs z ih => ?_)
  rw [aps_snoc]
  split
  · exact ih
  · obtain ⟨h1, h2⟩ := up_append ih.1 (nm (nameT i)) (nats (frE z))
    exact ⟨h1, h2.trans ih.2⟩
theorem up_create {p : PS} (h : Up p) {n : Nm} (x : Nat) (hn : nameB n = true) (hf : dfind p.seen n = none) : (pCreate n x p).1 = 0 ∧ Up (pCreate n x p).2 ∧ (pCreate n x p).2.seen = dput p.seen n x := by
  unfold pCreate
  rw [h.wrongs [n] (by simp [hn]), if_neg (by simp), hf, if_neg (by simp), h.stp]
  exact ⟨rfl, h, by simp [chgd, setF, Sim.tick, pdo]⟩
theorem up_finds {p : PS} (h : Up p) {n : Nm} (hn : nameB n = true) : finds p n = if (dfind p.seen n).isSome then 0 else 5 := by
  unfold finds
  rw [h.wrongs [n] (by simp [hn]), if_neg (by simp)]
theorem up_remove {p : PS} (h : Up p) (n : Nm) : Up (pRemove n p).2 ∧ ((pRemove n p).2.seen = ddel p.seen n ∨ (finds p n ≠ 0 ∧ (pRemove n p).2.seen = p.seen)) := by
  unfold pRemove
  split
  · rename_i hf; exact ⟨h, .inr ⟨hf, rfl⟩⟩
  · rw [h.stp]; exact ⟨h, .inl (by simp [chgd, Sim.tick, pdo])⟩
theorem up_seal {p : PS} (h : Up p) (i : Nat) (hT : nameB (nm (nameT i)) = true) (hP : nameB (nm (nameP i)) = true) (hf : (dfind p.seen (nm (nameT i))).isSome = true) :
    (sealF i p).1 = 0 ∧ Up (sealF i p).2 ∧ (sealF i p).2.seen = pdo p.seen ⟨2, nm (nameT i), nm (nameP i), 0⟩ := by
  have e1 : finds p (nm (nameT i)) = 0 := by rw [up_finds h hT, hf]; rfl
  obtain ⟨q, hq, hu, hs⟩ : ∃ q, pFsync (nm (nameT i)) p = (0, q) ∧ Up q ∧ q.seen = p.seen := by
    unfold pFsync
    rw [e1, if_neg (by simp), h.stp]
    exact ⟨_, rfl, h, rfl⟩
  obtain ⟨r, hr, hv, ht⟩ : ∃ r, pRename (nm (nameT i)) (nm (nameP i)) q = (0, r) ∧ Up r ∧ r.seen = pdo q.seen ⟨2, nm (nameT i), nm (nameP i), 0⟩ := by
    unfold pRename
    rw [hu.wrongs _ (by simp [hT, hP]), if_neg (by simp), hs, hf, if_pos rfl, hu.stp]
    exact ⟨_, rfl, hu, by simp [chgd, Sim.tick, hs]⟩
  rw [sealF, hq, if_neg (by simp)]
  simp only
  rw [hr, if_neg (by simp)]
  simp only
  unfold pSyncDir
  rw [hv.wrongs [] rfl, if_neg (by simp), hv.stp]
  exact ⟨rfl, hv, by rw [← hs, ← ht]; rfl⟩

/-! ### Behind Lay -/
/-- Up, and all names are of packs up to n; no more than m have been begun. -/
def GI (m : Nat) (p : PS) (n : Int) : Prop := Up p ∧ 0 ≤ n ∧ n ≤ (m : Int) ∧ (p.seen.length : Int) ≤ n ∧ ∀ e ∈ p.seen, ∃ j : Nat, 1 ≤ j ∧ (j : Int) ≤ n ∧ e.1 = nm (nameP j)
theorem GI.more {m k : Nat} {p : PS} {n : Int} (h : GI m p n) (hk : m ≤ k) : GI k p n := ⟨h.1, h.2.1, by have := h.2.2.1; omega, h.2.2.2⟩
theorem GI.noT {m : Nat} {p : PS} {n : Int} (h : GI m p n) (i : Nat) : dfind p.seen (nm (nameT i)) = none := by
  cases hf : dfind p.seen (nm (nameT i)) with
  | none => rfl
  | some b =>
    obtain ⟨j, _, _, e⟩ := h.2.2.2.2 _ (Sim.mem_of_dfind hf)
    exact absurd e (T_ne_P i j)
theorem GI.noP {m : Nat} {p : PS} {n : Int} (h : GI m p n) (i : Nat) (hi : (i : Int) = n + 1) (hm : i < 100) : dfind p.seen (nm (nameP i)) = none := by
  cases hf : dfind p.seen (nm (nameP i)) with
  | none => rfl
  | some b =>
    obtain ⟨j, h1, h2, e⟩ := h.2.2.2.2 _ (Sim.mem_of_dfind hf)
    have := P_inj (i := i) (j := j) (by omega) hm h1 (by omega) e
    omega
theorem GI.lpF {m : Nat} {p : PS} {n : Int} (h : GI m p n) (i x : Nat) (z : List El) (hi : (i : Int) = n + 1) (hm : i < 100) : GI (m + 1) (lpF i x p z).2 (lpN i x p n) ∧ lpN i x p n = (i : Int) := by
  have hT := nB_T i hm
  have hP := nB_P i hm
  obtain ⟨hu, hn0, hnm, hlen, hall⟩ := h
  obtain ⟨c1, c2, c3⟩ := up_create hu x hT (GI.noT ⟨hu, hn0, hnm, hlen, hall⟩ i)
  have eN : lpN i x p n = (i : Int) := by rw [lpN, if_neg (by omega)]
  rw [eN]
  refine ⟨?_, rfl⟩
  obtain ⟨q, hq⟩ : ∃ q, (pCreate (nm (nameT i)) x p).2 = q := ⟨_, rfl⟩
  rw [hq] at c2 c3
  obtain ⟨a1, a2⟩ := up_aps c2 i z
  rw [c3] at a2
  have hmT : ∀ e ∈ dput p.seen (nm (nameT i)) x, e.1 = nm (nameT i) ∨ e ∈ p.seen := fun e he => by
    rcases Sim.mem_dput.1 he with rfl | ⟨he, _⟩
    · exact .inl rfl
    · exact .inr he
  have hlT := Sim.length_dput p.seen (nm (nameT i)) x
  have hdl : ∀ l : Sim.Dir, (ddel (dput p.seen (nm (nameT i)) x) (nm (nameT i))).length ≤ p.seen.length := fun _ => by
    unfold dput ddel
    have h2 : ∀ (y : Nm × Nat) (l : Sim.Dir), y.1 = nm (nameT i) → ((Sim.dins y l).filter (fun p => !(p.1 == nm (nameT i)))) = l.filter (fun p => !(p.1 == nm (nameT i))) := fun y l hy => by
      induction l with
      | nil => simp [Sim.dins, hy]
      | cons a r ih =>
        rw [Sim.dins]
        split
        · rw [List.filter_cons, if_neg (by simp [hy])]
        · simp only [List.filter_cons, ih]
    rw [h2 _ _ rfl, List.filter_filter]
    exact List.length_filter_le _ _
  have hdl := hdl []
  have hmD : ∀ e ∈ ddel (dput p.seen (nm (nameT i)) x) (nm (nameT i)), e ∈ p.seen := fun e he => by
    obtain ⟨h1, h2⟩ := Sim.mem_ddel.1 he
    rcases hmT e h1 with e' | e'
    · exact absurd e' h2
    · exact e'
  have hold : ∀ e ∈ p.seen, ∃ j : Nat, 1 ≤ j ∧ (j : Int) ≤ (i : Int) ∧ e.1 = nm (nameP j) := fun e he => by
    obtain ⟨j, h1, h2, h3⟩ := hall e he
    exact ⟨j, h1, by omega, h3⟩
  have hfT : (dfind (aps i q z).2.seen (nm (nameT i))).isSome = true := by
    rw [a2]
    cases hf : dfind (dput p.seen (nm (nameT i)) x) (nm (nameT i)) with
    | none => exact absurd rfl (Sim.dfind_none hf _ (Sim.mem_dput.2 (.inl rfl)))
    | some b => rfl
  have hfn : finds (aps i q z).2 (nm (nameT i)) = 0 := by rw [up_finds a1 hT, hfT]; rfl
  obtain ⟨s1, s2, s3⟩ := up_seal a1 i hT hP hfT
  unfold Sh.lpF
  rw [if_neg (by omega), hq]
  split
  · obtain ⟨r1, r2⟩ := up_remove a1 (nm (nameT i))
    rcases r2 with r2 | ⟨r2, _⟩
    · refine ⟨r1, by omega, by omega, ?_, ?_⟩
      · show (((pRemove (nm (nameT i)) (aps i q z).2).2.seen.length : Nat) : Int) ≤ _
        rw [r2, a2]
        omega
      · intro e he
        have he' : e ∈ (pRemove (nm (nameT i)) (aps i q z).2).2.seen := he
        rw [r2, a2] at he'
        exact hold e (hmD e he')
    · exact absurd hfn r2
  · rw [if_neg (by omega)]
    have e3 : (sealF i (aps i q z).2).2.seen = dput (ddel (dput p.seen (nm (nameT i)) x) (nm (nameT i))) (nm (nameP i)) ((dfind (dput p.seen (nm (nameT i)) x) (nm (nameT i))).getD 0) := by
      rw [s3, a2]
      simp [pdo]
    refine ⟨s2, by omega, by omega, ?_, ?_⟩
    · rw [e3]
      have := Sim.length_dput (ddel (dput p.seen (nm (nameT i)) x) (nm (nameT i))) (nm (nameP i)) ((dfind (dput p.seen (nm (nameT i)) x) (nm (nameT i))).getD 0)
      omega
    · intro e he
      rw [e3] at he
      rcases Sim.mem_dput.1 he with rfl | ⟨he, _⟩
      · exact ⟨i, by omega, by omega, rfl⟩
      · exact hold e (hmD e he)

/-! ### Ids -/
theorem GI.names {m : Nat} {p : PS} {n : Int} (h : GI m p n) (hm : m < 100) : ∀ x ∈ pList p, ∃ j : Nat, 1 ≤ j ∧ (j : Int) ≤ n ∧ j < 100 ∧ x = nm (nameP j) := fun x hx => by
  unfold pList at hx
  rw [h.1.1, if_neg (by simp)] at hx
  obtain ⟨e, he, rfl⟩ := List.mem_map.1 hx
  obtain ⟨j, h1, h2, h3⟩ := h.2.2.2.2 e he
  have := h.2.2.1
  exact ⟨j, h1, h2, by omega, h3⟩
theorem GI.ids {m : Nat} {p : PS} {n : Int} (h : GI m p n) (hm : m < 100) : ∀ z ∈ idsP p, 1 ≤ z ∧ z ≤ n := fun z hz => by
  unfold idsP at hz
  rw [List.mem_mergeSort] at hz
  obtain ⟨x, hx, hz⟩ := List.mem_filterMap.1 hz
  obtain ⟨j, h1, h2, h3, rfl⟩ := h.names hm x hx
  rw [idN_P h1 h3] at hz
  simp at hz
  omega
theorem GI.nlen {m : Nat} {p : PS} {n : Int} (h : GI m p n) (hm : m < 100) : ∀ x ∈ pList p, x.length ≤ 40 := fun x hx => by
  obtain ⟨j, h1, h2, h3, rfl⟩ := h.names hm x hx
  exact len_P j h3
theorem GI.ilen {m : Nat} {p : PS} {n : Int} (h : GI m p n) : (idsP p).length ≤ m := by
  unfold idsP
  rw [List.length_mergeSort]
  have h1 := List.length_filterMap_le idN (pList p)
  have h2 : (pList p).length ≤ p.seen.length := by
    unfold pList
    split
    · simp
    · simp
  have h3 := h.2.2.2.1
  have h4 := h.2.2.1
  omega
theorem GI.max {m : Nat} {p : PS} {n : Int} (h : GI m p n) (hm : m < 100) : maxZ (idsP p ++ [n]) = n := maxZ_top _ _ fun z hz => (h.ids hm z hz).2
/-- What Lay wants. -/
theorem GI.pre (m K : Nat) (hm : m + K < 100) : Pre (fun k p n => GI (m + k) p n) K := fun k p n hk h => by
  have h0 := h.2.1
  have h1 := h.2.2.1
  obtain ⟨i, hi⟩ : ∃ i : Nat, (i : Int) = n + 1 := ⟨(n + 1).toNat, by omega⟩
  refine ⟨i, by rw [h.max (by omega)]; omega, by omega, by omega, ?_, fun x hx => by have := h.nlen (by omega) x hx; omega, by have := h.ilen; omega, fun x z _ _ _ _ _ => ?_⟩
  · rw [up_finds h.1 (nB_P i (by omega)), h.noP i hi (by omega)]
    simp
  · have h2 := h.lpF i x z hi (by omega)
    rw [h2.2] at h2
    exact h2.1
theorem GI.layR {m : Nat} {p0 p : PS} {n0 n : Int} {ps : List (List El)} {qs : List Pl} (h0 : GI m p0 n0) (h : LayR p0 n0 ps p n qs) (hm : m + ps.length < 100) : GI (m + ps.length) p n := by
  induction h with
  | nil => exact h0
  | snoc h hi hx hz ih =>
    rename_i ps' p' n' qs' i' x' z'
    rw [List.length_append, List.length_singleton] at hm ⊢
    have hg := ih (by omega)
    rw [hg.max (by omega)] at hi
    have h1 := hg.2.2.1
    have h2 := hg.lpF i' x' z' hi.symm (by omega)
    rw [h2.2] at h2
    exact h2.1
/-- Flips. -/
theorem GI.flip {m : Nat} {p : PS} {n : Int} (h : GI m p n) (x : Nm) (k : Int) (b : Nat) : GI m (pFlip x k b p).2 n := by
  unfold pFlip
  split
  · exact h
  · split
    · exact h
    · exact h

end Go.Proofs.YtaaioaocjfpajaaGreatDoor.Sh
end

section
/-
  Packs on a disk that may go down at any step: what is there, whatever then survives.
-/
namespace Go.Proofs.YtaaioaocjfpajaaGreatDoor.Sh
open Go.RowKit Go.Shelf
open Sim (hid nm Nm PS Fl Dir Ris PC pCreate pAppend pRemove pFsync pRename pSyncDir pUp finds wrongs pList nameB dfind dput ddel pdo stp dead fileAt blockOf pBytes loses lose used)

/-- Whole: frames of right records, one at least. -/
def Wh (bs : List Nat) : Prop := ∃ rs : List Rec, rs ≠ [] ∧ (∀ r ∈ rs, Rt r) ∧ bs = nats (cat rs)
/-- The directory behind the first k changes. -/
def dirK (p : PS) (k : Nat) : Dir := (p.chg.take k).foldl pdo p.safe
def PkE (Q : List Nat → Prop) (files : Nat → Option Fl) (n : Int) (e : Nm × Nat) : Prop :=
  (∃ j : Nat, j < 100 ∧ e.1 = nm (nameT j)) ∨ (∃ (j : Nat) (bs : List Nat), 1 ≤ j ∧ (j : Int) ≤ n ∧ e.1 = nm (nameP j) ∧ files e.2 = some ⟨bs, bs.length⟩ ∧ Q bs)
def HdD (files : Nat → Option Fl) (H : List (Nat × List Nat)) (d : Dir) : Prop := ∀ h ∈ H, ∃ x, (nm (nameP h.1), x) ∈ d ∧ files x = some ⟨h.2, h.2.length⟩
/-- Whatever survives, each pack is whole, and those of H are there. -/
structure CInv (Q : List Nat → Prop) (n : Int) (H : List (Nat × List Nat)) (p : PS) : Prop where
  se : p.seen = p.chg.foldl pdo p.safe
  rs : Ris p.safe
  pk : ∀ k, ∀ e ∈ dirK p k, PkE Q p.files n e
  hd : ∀ k, HdD p.files H (dirK p k)
  hb : ∀ h ∈ H, 1 ≤ h.1 ∧ (h.1 : Int) ≤ n
  nb : n < 100

section
variable {Q : List Nat → Prop} {n : Int} {H : List (Nat × List Nat)} {p : PS}
theorem dirK_all (h : CInv Q n H p) : dirK p p.chg.length = p.seen := by rw [dirK, List.take_length, h.se]
theorem CInv.seenPk (h : CInv Q n H p) : ∀ e ∈ p.seen, PkE Q p.files n e := by rw [← dirK_all h]; exact h.pk _
theorem CInv.seenHd (h : CInv Q n H p) : HdD p.files H p.seen := by rw [← dirK_all h]; exact h.hd _
theorem CInv.ris (h : CInv Q n H p) : Ris p.seen := by rw [h.se]; exact h.rs.fold _
theorem PkE.mono {f : Nat → Option Fl} {m : Int} {e : Nm × Nat} (h : PkE Q f n e) (hm : n ≤ m) : PkE Q f m e := by
  rcases h with h | ⟨j, bs, h1, h2, h3⟩
  · exact .inl h
  · exact .inr ⟨j, bs, h1, by omega, h3⟩
theorem CInv.mono {m : Int} (h : CInv Q n H p) (hm : n ≤ m) (hb : m < 100) : CInv Q m H p := ⟨h.se, h.rs, fun k e he => (h.pk k e he).mono hm, h.hd, fun x hx => ⟨(h.hb x hx).1, by have := (h.hb x hx).2; omega⟩, hb⟩
theorem CInv.fall (h : CInv Q n H p) : CInv Q n H (Sim.fall p) := ⟨h.se, h.rs, h.pk, h.hd, h.hb, h.nb⟩
theorem CInv.tick (h : CInv Q n H p) : CInv Q n H (Sim.tick p) := ⟨h.se, h.rs, h.pk, h.hd, h.hb, h.nb⟩
theorem dirK_chgd (c : PC) (k : Nat) : (dirK (Sim.chgd c p) k = dirK p k) ∨ dirK (Sim.chgd c p) k = pdo (p.chg.foldl pdo p.safe) c := by
  unfold dirK Sim.chgd
  simp only
  by_cases hk : k ≤ p.chg.length
  · left; rw [List.take_append_of_le_length hk]
  · right; rw [List.take_of_length_le (by simp; omega), List.foldl_append]; rfl
/-- A change. -/
theorem CInv.chgd (h : CInv Q n H p) (c : PC) (h1 : ∀ e ∈ pdo p.seen c, PkE Q p.files n e) (h2 : HdD p.files H (pdo p.seen c)) : CInv Q n H (Sim.chgd c p) := by
  rw [h.se] at h1 h2
  refine ⟨?_, h.rs, fun k => ?_, fun k => ?_, h.hb, h.nb⟩
  · show pdo p.seen c = (p.chg ++ [c]).foldl pdo p.safe
    rw [List.foldl_append, h.se]
    rfl
  · rcases dirK_chgd (p := p) c k with e | e
    · rw [e]; exact h.pk k
    · rw [e]; exact h1
  · rcases dirK_chgd (p := p) c k with e | e
    · rw [e]; exact h.hd k
    · rw [e]; exact h2
/-- No pack has block b, whatever survives. -/
def Fr (p : PS) (b : Nat) : Prop := ∀ k, ∀ e ∈ dirK p k, (∃ j, e.1 = nm (nameP j)) → e.2 ≠ b
/-- A file that is no pack's is written. -/
theorem CInv.setF (h : CInv Q n H p) (b : Nat) (f : Fl) (hfr : Fr p b) : CInv Q n H (Sim.setF b f p) := by
  refine ⟨h.se, h.rs, fun k e he => ?_, fun k x hx => ?_, h.hb, h.nb⟩
  · rcases h.pk k e he with h1 | ⟨j, bs, h1, h2, h3, h4, h5⟩
    · exact .inl h1
    · refine .inr ⟨j, bs, h1, h2, h3, ?_, h5⟩
      show (if e.2 = b then some f else p.files e.2) = _
      rw [if_neg (hfr k e he ⟨j, h3⟩)]
      exact h4
  · obtain ⟨y, h1, h2⟩ := h.hd k x hx
    refine ⟨y, h1, ?_⟩
    show (if y = b then some f else p.files y) = _
    rw [if_neg (hfr k _ h1 ⟨x.1, rfl⟩)]
    exact h2
theorem CInv.fresh (h : CInv Q n H p) {x : Nat} (hx : p.files x = none) : Fr p x := fun k e he hj => by
  obtain ⟨j, hj⟩ := hj
  rcases h.pk k e he with ⟨j', _, h1⟩ | ⟨j', bs, _, _, _, h4, _⟩
  · rw [h1] at hj
    exact absurd hj (T_ne_P j' j)
  · intro e2
    rw [e2, hx] at h4
    cases h4
theorem CInv.settle (h : CInv Q n H p) (m : Nat) : ∀ q : PS, q.safe = dirK p m → q.chg = [] → q.seen = q.safe → (∀ x bs, p.files x = some ⟨bs, bs.length⟩ → q.files x = some ⟨bs, bs.length⟩) → CInv Q n H q := fun q hs hc hse hf => by
  have e : ∀ k, dirK q k = dirK p m := fun k => by rw [dirK, hc, List.take_nil]; exact hs
  refine ⟨by rw [hse, hc]; rfl, by rw [hs]; exact h.rs.fold _, fun k e' he => ?_, fun k x hx => ?_, h.hb, h.nb⟩
  · rw [e k] at he
    rcases h.pk m e' he with h1 | ⟨j, bs, h1, h2, h3, h4, h5⟩
    · exact .inl h1
    · exact .inr ⟨j, bs, h1, h2, h3, hf _ _ h4, h5⟩
  · rw [e k]
    obtain ⟨y, h1, h2⟩ := h.hd m x hx
    exact ⟨y, h1, hf _ _ h2⟩

/-! ### A pack that is being laid -/
structure COpn (Q : List Nat → Prop) (n : Int) (H : List (Nat × List Nat)) (i b : Nat) (ys : List Nat) (p : PS) : Prop where
  c : CInv Q n H p
  fr : Fr p b
  o : p.down = true ∨ (dfind p.seen (nm (nameT i)) = some b ∧ (∃ s, p.files b = some ⟨ys, s⟩) ∧ (∀ e ∈ p.seen, e.1 = nm (nameT i) ∨ ∃ j : Nat, 1 ≤ j ∧ (j : Int) ≤ n ∧ e.1 = nm (nameP j)) ∧ (p.seen.length : Int) ≤ n + 1)
theorem COpn.fall {i b : Nat} {ys : List Nat} (h : COpn Q n H i b ys p) : COpn Q n H i b ys (Sim.fall p) := ⟨h.c.fall, h.fr, .inl rfl⟩
theorem finds_down {x : Nm} (h : p.down = true) : finds p x = 12 := by simp [Sim.finds, Sim.wrongs, h]
theorem finds_up {x : Nm} {b : Nat} (h : p.down = false) (hn : nameB x = true) (hf : dfind p.seen x = some b) : finds p x = 0 := by simp [Sim.finds, Sim.wrongs, h, hn, hf]

theorem COpn.append {i b : Nat} {ys : List Nat} (h : COpn Q n H i b ys p) (hi : i < 100) (bs : List Nat) :
    ((pAppend (nm (nameT i)) bs p).1 ≠ 0 ∧ COpn Q n H i b ys (pAppend (nm (nameT i)) bs p).2) ∨ ((pAppend (nm (nameT i)) bs p).1 = 0 ∧ (pAppend (nm (nameT i)) bs p).2.down = false ∧ COpn Q n H i b (ys ++ bs) (pAppend (nm (nameT i)) bs p).2) := by
  cases hd : p.down with
  | true =>
    have e : pAppend (nm (nameT i)) bs p = (12, p) := by rw [pAppend, finds_down hd]; simp
    rw [e]
    exact .inl ⟨by simp, h⟩
  | false =>
    rcases h.o with ho | ⟨h1, ⟨s, h2⟩, h3, h4⟩
    · rw [hd] at ho; cases ho
    · have ef := finds_up hd (nB_T i hi) h1
      have eb : blockOf p (nm (nameT i)) = b := by simp [blockOf, h1]
      have ea : fileAt p b = ⟨ys, s⟩ := by simp [fileAt, h2]
      by_cases hr : used p + bs.length > p.room
      · have e : pAppend (nm (nameT i)) bs p = (11, p) := by rw [pAppend, ef, if_neg (by simp), if_pos hr]
        rw [e]
        exact .inl ⟨by simp, h⟩
      · have e : pAppend (nm (nameT i)) bs p = stp p (Sim.setF b ⟨ys ++ bs, s⟩) := by rw [pAppend, ef, if_neg (by simp), if_neg hr, eb, ea]
        rw [e, stp]
        cases hdd : dead p with
        | true => rw [if_pos rfl]; exact .inl ⟨by simp, h.fall⟩
        | false =>
          rw [if_neg (by simp)]
          refine .inr ⟨rfl, hd, h.c.tick.setF b _ h.fr, h.fr, .inr ⟨h1, ⟨s, ?_⟩, h3, h4⟩⟩
          simp [Sim.setF, Sim.tick]
theorem COpn.aps {i b : Nat} (h : COpn Q n H i b [] p) (hd : p.down = false) (hi : i < 100) (z : List El) :
    ((Sh.aps i p z).1 ≠ 0 ∧ ∃ ys, COpn Q n H i b ys (Sh.aps i p z).2) ∨ ((Sh.aps i p z).1 = 0 ∧ (Sh.aps i p z).2.down = false ∧ COpn Q n H i b (z.flatMap fun y => nats (frE y)) (Sh.aps i p z).2) := by
  refine list_snoc (p := fun z => ((Sh.aps i p z).1 ≠ 0 ∧ ∃ ys, COpn Q n H i b ys (Sh.aps i p z).2) ∨ ((Sh.aps i p z).1 = 0 ∧ (Sh.aps i p z).2.down = false ∧ COpn Q n H i b (z.flatMap fun y => nats (frE y)) (Sh.aps i p z).2)) z (.inr ⟨rfl, hd, h⟩) (fun z y ih => ?_)
  rw [Sh.aps_snoc]
  rcases ih with ⟨h1, ys, h2⟩ | ⟨h1, h2, h3⟩
  · rw [if_pos h1]
    exact .inl ⟨h1, ys, h2⟩
  · rw [if_neg (by omega)]
    rcases h3.append hi (nats (frE y)) with ⟨g1, g2⟩ | ⟨g1, g2, g3⟩
    · exact .inl ⟨g1, _, g2⟩
    · refine .inr ⟨g1, g2, ?_⟩
      rw [List.flatMap_append]
      simpa using g3

/-- Between packs. -/
def CG (Q : List Nat → Prop) (m : Nat) (n : Int) (H : List (Nat × List Nat)) (p : PS) : Prop :=
  CInv Q n H p ∧ 0 ≤ n ∧ n ≤ (m : Int) ∧ (p.down = true ∨ ((∀ e ∈ p.seen, ∃ j : Nat, 1 ≤ j ∧ (j : Int) ≤ n ∧ e.1 = nm (nameP j)) ∧ (p.seen.length : Int) ≤ n))

/-- What is left once a pack's name is taken away. -/
theorem COpn.remove {i b m : Nat} {ys : List Nat} (h : COpn Q n H i b ys p) (hi : i < 100) (hin : (i : Int) = n + 1) (hn : 0 ≤ n) (hm : n ≤ (m : Int)) : CG Q (m + 1) (i : Int) H (pRemove (nm (nameT i)) p).2 := by
  have hmono := h.c.mono (m := (i : Int)) (by omega) (by omega)
  cases hd : p.down with
  | true =>
    have e : pRemove (nm (nameT i)) p = (12, p) := by rw [pRemove, finds_down hd]; simp
    rw [e]
    exact ⟨hmono, by omega, by omega, .inl hd⟩
  | false =>
    rcases h.o with ho | ⟨h1, ⟨s, h2⟩, h3, h4⟩
    · rw [hd] at ho; cases ho
    · have e : pRemove (nm (nameT i)) p = stp p (Sim.chgd ⟨1, nm (nameT i), [], 0⟩) := by rw [pRemove, finds_up hd (nB_T i hi) h1, if_neg (by simp)]
      rw [e, stp]
      cases hdd : dead p with
      | true => rw [if_pos rfl]; exact ⟨hmono.fall, by omega, by omega, .inl rfl⟩
      | false =>
        rw [if_neg (by simp)]
        have ed : pdo p.seen ⟨1, nm (nameT i), [], 0⟩ = ddel p.seen (nm (nameT i)) := by simp [pdo]
        have hl := Sim.length_ddel p.seen (nm (nameT i))
        refine ⟨hmono.tick.chgd _ (fun e he => ?_) (fun x hx => ?_), by omega, by omega, .inr ⟨fun e he => ?_, ?_⟩⟩
        · have he' : e ∈ ddel p.seen (nm (nameT i)) := by rw [← ed]; exact he
          exact hmono.seenPk e (Sim.mem_ddel.1 he').1
        · obtain ⟨y, g1, g2⟩ := h.c.seenHd x hx
          refine ⟨y, ?_, g2⟩
          show _ ∈ pdo p.seen _
          rw [ed]
          exact Sim.mem_ddel.2 ⟨g1, fun e => T_ne_P i x.1 e.symm⟩
        · have he' : e ∈ ddel p.seen (nm (nameT i)) := by rw [← ed]; exact he
          obtain ⟨g1, g2⟩ := Sim.mem_ddel.1 he'
          rcases h3 e g1 with g3 | ⟨j, g3, g4, g5⟩
          · exact absurd g3 g2
          · exact ⟨j, g3, by omega, g5⟩
        · show ((pdo p.seen ⟨1, nm (nameT i), [], 0⟩).length : Int) ≤ _
          rw [ed]
          omega

/-- A pack is sealed, or the disk is down. -/
theorem COpn.seal {i b m : Nat} {ys : List Nat} (h : COpn Q n H i b ys p) (hd : p.down = false) (hw : Q ys) (hi : i < 100) (hin : (i : Int) = n + 1) (hn : 0 ≤ n) (hm : n ≤ (m : Int)) :
    ((sealF i p).1 ≠ 0 ∧ (sealF i p).2.down = true ∧ CG Q (m + 1) (i : Int) H (sealF i p).2) ∨ ((sealF i p).1 = 0 ∧ (sealF i p).2.down = false ∧ (sealF i p).2.chg = [] ∧ CG Q (m + 1) (i : Int) ((i, ys) :: H) (sealF i p).2) := by
  have hmono := h.c.mono (m := (i : Int)) (by omega) (by omega)
  rcases h.o with ho | ⟨h1, ⟨s, h2⟩, h3, h4⟩
  · rw [hd] at ho; cases ho
  · have ef := finds_up hd (nB_T i hi) h1
    have eb : blockOf p (nm (nameT i)) = b := by simp [blockOf, h1]
    have ea : fileAt p b = ⟨ys, s⟩ := by simp [fileAt, h2]
    have e1 : pFsync (nm (nameT i)) p = stp p (Sim.setF b ⟨ys, ys.length⟩) := by rw [pFsync, ef, if_neg (by simp), eb, ea]
    cases hd1 : dead p with
    | true =>
      have e1' : pFsync (nm (nameT i)) p = (12, Sim.fall p) := by rw [e1, stp, hd1]; rfl
      left
      rw [sealF, e1', if_pos (by simp)]
      exact ⟨by simp, rfl, hmono.fall, by omega, by omega, .inl rfl⟩
    | false =>
      have e1' : pFsync (nm (nameT i)) p = (0, Sim.setF b ⟨ys, ys.length⟩ (Sim.tick p)) := by rw [e1, stp, hd1]; rfl
      obtain ⟨q, hq⟩ : ∃ q, Sim.setF b ⟨ys, ys.length⟩ (Sim.tick p) = q := ⟨_, rfl⟩
      have cq : CInv Q (i : Int) H q := by rw [← hq]; exact hmono.tick.setF b _ h.fr
      have qs : q.seen = p.seen := by rw [← hq]; rfl
      have qd : q.down = false := by rw [← hq]; exact hd
      have qf : q.files b = some ⟨ys, ys.length⟩ := by rw [← hq]; simp [Sim.setF]
      rw [sealF, e1', hq, if_neg (by simp)]
      simp only
      have e2 : pRename (nm (nameT i)) (nm (nameP i)) q = stp q (Sim.chgd ⟨2, nm (nameT i), nm (nameP i), 0⟩) := by simp [pRename, Sim.wrongs, qd, nB_T i hi, nB_P i hi, qs, h1]
      cases hd2 : dead q with
      | true =>
        have e2' : pRename (nm (nameT i)) (nm (nameP i)) q = (12, Sim.fall q) := by rw [e2, stp, hd2]; rfl
        left
        rw [e2', if_pos (by simp)]
        exact ⟨by simp, rfl, cq.fall, by omega, by omega, .inl rfl⟩
      | false =>
        have e2' : pRename (nm (nameT i)) (nm (nameP i)) q = (0, Sim.chgd ⟨2, nm (nameT i), nm (nameP i), 0⟩ (Sim.tick q)) := by rw [e2, stp, hd2]; rfl
        obtain ⟨r, hr⟩ : ∃ r, Sim.chgd ⟨2, nm (nameT i), nm (nameP i), 0⟩ (Sim.tick q) = r := ⟨_, rfl⟩
        have ed : pdo q.seen ⟨2, nm (nameT i), nm (nameP i), 0⟩ = dput (ddel p.seen (nm (nameT i))) (nm (nameP i)) b := by simp [pdo, qs, h1]
        have rseen : r.seen = dput (ddel p.seen (nm (nameT i))) (nm (nameP i)) b := by rw [← hr, ← ed]; rfl
        have hnew : ∀ e ∈ dput (ddel p.seen (nm (nameT i))) (nm (nameP i)) b, e = (nm (nameP i), b) ∨ (e ∈ p.seen ∧ e.1 ≠ nm (nameT i)) := fun e he => by
          rcases Sim.mem_dput.1 he with e' | ⟨e', _⟩
          · exact .inl e'
          · exact .inr (Sim.mem_ddel.1 e')
        have hheld : ∀ x ∈ H, nm (nameP x.1) ≠ nm (nameP i) := fun x hx e => by
          have := h.c.hb x hx
          have := P_inj (by omega) (by omega) (by omega) hi e
          omega
        have cr : CInv Q (i : Int) H r := by
          rw [← hr]
          refine cq.tick.chgd _ (fun e he => ?_) (fun x hx => ?_)
          · have he' : e ∈ dput (ddel p.seen (nm (nameT i))) (nm (nameP i)) b := by rw [← ed]; exact he
            rcases hnew e he' with rfl | ⟨g1, _⟩
            · exact .inr ⟨i, ys, by omega, by omega, rfl, qf, hw⟩
            · exact cq.seenPk e (by rw [qs]; exact g1)
          · obtain ⟨y, g1, g2⟩ := cq.seenHd x hx
            refine ⟨y, ?_, g2⟩
            show _ ∈ pdo q.seen _
            rw [ed]
            refine Sim.mem_dput.2 (.inr ⟨Sim.mem_ddel.2 ⟨by rw [← qs]; exact g1, fun e => T_ne_P i x.1 e.symm⟩, hheld x hx⟩)
        have rd : r.down = false := by rw [← hr]; exact qd
        have rf : r.files b = some ⟨ys, ys.length⟩ := by rw [← hr]; exact qf
        rw [e2', hr, if_neg (by simp)]
        simp only
        have e3 : pSyncDir r = stp r (Sim.settle r.chg.length) := by simp [pSyncDir, Sim.wrongs, rd]
        cases hd3 : dead r with
        | true =>
          have e3' : pSyncDir r = (12, Sim.fall r) := by rw [e3, stp, hd3]; rfl
          left
          rw [e3']
          exact ⟨by simp, rfl, cr.fall, by omega, by omega, .inl rfl⟩
        | false =>
          have e3' : pSyncDir r = (0, Sim.settle r.chg.length (Sim.tick r)) := by rw [e3, stp, hd3]; rfl
          right
          rw [e3']
          have hsafe : (Sim.settle r.chg.length (Sim.tick r)).safe = r.seen := by
            show (r.chg.take r.chg.length).foldl pdo r.safe = _
            rw [List.take_length, cr.se]
          have cs : CInv Q (i : Int) H (Sim.settle r.chg.length (Sim.tick r)) := cr.settle r.chg.length _ rfl rfl (by rw [hsafe]; rfl) (fun x bs hx => hx)
          have hl1 := Sim.length_dput (ddel p.seen (nm (nameT i))) (nm (nameP i)) b
          have hl2 : (ddel p.seen (nm (nameT i))).length < p.seen.length := by
            unfold ddel
            have hm' := Sim.mem_of_dfind h1
            refine List.length_filter_lt_length_iff_exists.2 ⟨_, hm', by simp⟩
          refine ⟨rfl, rd, rfl, ⟨cs.se, cs.rs, cs.pk, fun k x hx => ?_, fun x hx => ?_, by omega⟩, by omega, by omega, .inr ⟨fun e he => ?_, ?_⟩⟩
          · rcases List.mem_cons.1 hx with rfl | hx
            · refine ⟨b, ?_, rf⟩
              have e : dirK (Sim.settle r.chg.length (Sim.tick r)) k = r.seen := by
                rw [dirK]
                show ([].take k).foldl pdo (Sim.settle r.chg.length (Sim.tick r)).safe = _
                rw [List.take_nil]
                exact hsafe
              rw [e, rseen]
              exact Sim.mem_dput.2 (.inl rfl)
            · exact cs.hd k x hx
          · rcases List.mem_cons.1 hx with rfl | hx
            · exact ⟨by omega, by omega⟩
            · exact cs.hb x hx
          · have he' : e ∈ r.seen := he
            rw [rseen] at he'
            rcases hnew e he' with rfl | ⟨g1, g2⟩
            · exact ⟨i, by omega, by omega, rfl⟩
            · rcases h3 e g1 with g3 | ⟨j, g3, g4, g5⟩
              · exact absurd g3 g2
              · exact ⟨j, g3, by omega, g5⟩
          · show (r.seen.length : Int) ≤ _
            rw [rseen]
            omega
end

end Go.Proofs.YtaaioaocjfpajaaGreatDoor.Sh
end

section
/-
  A Lay, an Up and an Open on a disk that may go down at any step.
-/
namespace Go.Proofs.YtaaioaocjfpajaaGreatDoor.Sh
open Go.RowKit Go.Shelf
open Sim (hid nm Nm PS Fl Dir Ris PC pCreate pAppend pRemove pFsync pRename pSyncDir pUp pArm finds wrongs pList nameB dfind dput ddel pdo stp dead fileAt blockOf pBytes loses lose)

/-- A record in memory is right. -/
def RtE (z : El) : Prop := okR z = true ∧ Rt z.1
theorem RtE.fr {z : El} (h : RtE z) : frE z = frOf z.1 := by
  have h' : rightB z.1.1 z.1.2.2.length = true := h.1
  rw [frE, putX, h', if_pos rfl]
  rfl
/-- The bytes of a pack of these records. -/
def zb (z : List El) : List Nat := z.flatMap fun y => nats (frE y)
theorem zb_cat : ∀ {z : List El}, (∀ y ∈ z, RtE y) → zb z = nats (cat (z.map (·.1)))
  | [], _ => rfl
  | y :: r, h => by
    have ih := zb_cat (z := r) (fun u hu => h u (by simp [hu]))
    show nats (frE y) ++ zb r = nats (frOf y.1 ++ cat (r.map (·.1)))
    rw [nats_append, ih, (h y (by simp)).fr]
theorem wh_zb {z : List El} (hne : z ≠ []) (h : ∀ y ∈ z, RtE y) : Wh (zb z) :=
  ⟨z.map (·.1), by simpa using hne, fun r hr => by obtain ⟨y, hy, rfl⟩ := List.mem_map.1 hr; exact (h y hy).2, zb_cat h⟩

section
variable {Q : List Nat → Prop} {n : Int} {H : List (Nat × List Nat)} {p : PS}
theorem CG.up {m k : Nat} (h : CG Q m n H p) (hk : m ≤ k) : CG Q k n H p := ⟨h.1, h.2.1, by have := h.2.2.1; omega, h.2.2.2⟩
/-- A pack is begun, or the disk is down. -/
theorem CG.create {m i x : Nat} (h : CG Q m n H p) (hi : i < 100) (hx : p.files x = none) :
    ((pCreate (nm (nameT i)) x p).1 ≠ 0 ∧ CG Q m n H (pCreate (nm (nameT i)) x p).2) ∨ ((pCreate (nm (nameT i)) x p).1 = 0 ∧ (pCreate (nm (nameT i)) x p).2.down = false ∧ COpn Q n H i x [] (pCreate (nm (nameT i)) x p).2) := by
  obtain ⟨hc, h0, hm, ho⟩ := h
  cases hd : p.down with
  | true =>
    have e : pCreate (nm (nameT i)) x p = (12, p) := by simp [pCreate, Sim.wrongs, hd]
    rw [e]
    exact .inl ⟨by simp, hc, h0, hm, .inl hd⟩
  | false =>
    rcases ho with ho | ⟨h1, h2⟩
    · rw [hd] at ho; cases ho
    · have hnT : dfind p.seen (nm (nameT i)) = none := by
        cases hf : dfind p.seen (nm (nameT i)) with
        | none => rfl
        | some b =>
          obtain ⟨j, _, _, e⟩ := h1 _ (Sim.mem_of_dfind hf)
          exact absurd e (T_ne_P i j)
      have e : pCreate (nm (nameT i)) x p = stp p (fun q => Sim.chgd ⟨0, nm (nameT i), [], x⟩ (Sim.setF x ⟨[], 0⟩ q)) := by simp [pCreate, Sim.wrongs, hd, nB_T i hi, hnT]
      rw [e, stp]
      cases hdd : dead p with
      | true => rw [if_pos rfl]; exact .inl ⟨by simp, hc.fall, h0, hm, .inl rfl⟩
      | false =>
        rw [if_neg (by simp)]
        have hfr := hc.fresh hx
        obtain ⟨q, hq⟩ : ∃ q, Sim.setF x ⟨[], 0⟩ (Sim.tick p) = q := ⟨_, rfl⟩
        have cq : CInv Q n H q := by rw [← hq]; exact hc.tick.setF x _ hfr
        have qs : q.seen = p.seen := by rw [← hq]; rfl
        have qf : q.files x = some ⟨[], 0⟩ := by rw [← hq]; simp [Sim.setF]
        have qk : ∀ k, dirK q k = dirK p k := fun k => by rw [← hq]; rfl
        have ed : pdo q.seen ⟨0, nm (nameT i), [], x⟩ = dput p.seen (nm (nameT i)) x := by simp [pdo, qs]
        show ((0 : Nat) ≠ 0 ∧ _) ∨ ((0 : Nat) = 0 ∧ (Sim.chgd ⟨0, nm (nameT i), [], x⟩ (Sim.setF x ⟨[], 0⟩ (Sim.tick p))).down = false ∧ COpn Q n H i x [] (Sim.chgd ⟨0, nm (nameT i), [], x⟩ (Sim.setF x ⟨[], 0⟩ (Sim.tick p))))
        rw [hq]
        have qd : q.down = false := by rw [← hq]; exact hd
        have hT : (nm (nameT i), x) ∈ dput p.seen (nm (nameT i)) x := Sim.mem_dput.2 (.inl rfl)
        refine .inr ⟨rfl, qd, cq.chgd _ (fun e he => ?_) (fun y hy => ?_), fun k e he hj => ?_, .inr ⟨?_, ⟨0, qf⟩, fun e he => ?_, ?_⟩⟩
        · rw [ed] at he
          rcases Sim.mem_dput.1 he with rfl | ⟨g1, _⟩
          · exact .inl ⟨i, hi, rfl⟩
          · exact cq.seenPk e (by rw [qs]; exact g1)
        · obtain ⟨z, g1, g2⟩ := cq.seenHd y hy
          refine ⟨z, ?_, g2⟩
          rw [ed]
          exact Sim.mem_dput.2 (.inr ⟨by rw [← qs]; exact g1, fun e => T_ne_P i y.1 e.symm⟩)
        · have hfr' : ∀ e ∈ p.seen, (∃ j, e.1 = nm (nameP j)) → e.2 ≠ x := fun e he => hfr p.chg.length e (by rw [dirK_all hc]; exact he)
          rcases dirK_chgd (p := q) ⟨0, nm (nameT i), [], x⟩ k with e' | e'
          · rw [e', qk] at he
            exact hfr k e he hj
          · rw [e', ← cq.se, ed] at he
            rcases Sim.mem_dput.1 he with rfl | ⟨g1, _⟩
            · obtain ⟨j, hj⟩ := hj
              exact absurd hj (T_ne_P i j)
            · exact hfr' e g1 hj
        · show dfind (pdo q.seen ⟨0, nm (nameT i), [], x⟩) (nm (nameT i)) = some x
          rw [ed]
          exact Sim.dfind_of_mem (hc.ris.put _ _).nodup hT
        · have he' : e ∈ dput p.seen (nm (nameT i)) x := by rw [← ed]; exact he
          rcases Sim.mem_dput.1 he' with rfl | ⟨g1, _⟩
          · exact .inl rfl
          · exact .inr (h1 e g1)
        · show ((pdo q.seen ⟨0, nm (nameT i), [], x⟩).length : Int) ≤ n + 1
          rw [ed]
          have := Sim.length_dput p.seen (nm (nameT i)) x
          omega

/-- A pack is laid, or a fault is told. -/
theorem CG.lpF {m i x : Nat} (h : CG Q m n H p) (hin : (i : Int) = n + 1) (hi : i < 100) (hx : p.files x = none) (z : List El) (hz : Q (zb z)) :
    ((lpF i x p z).1 ≠ 0 → CG Q (m + 1) (lpN i x p n) H (lpF i x p z).2) ∧ ((lpF i x p z).1 = 0 → CG Q (m + 1) (i : Int) ((i, zb z) :: H) (lpF i x p z).2 ∧ (lpF i x p z).2.down = false ∧ (lpF i x p z).2.chg = []) := by
  have h0 := h.2.1
  have hm := h.2.2.1
  rcases h.create hi hx with ⟨c1, c2⟩ | ⟨c1, c2, c3⟩
  · have e : Sh.lpF i x p z = pCreate (nm (nameT i)) x p := by rw [Sh.lpF, if_pos c1]
    have en : lpN i x p n = n := by rw [lpN, if_pos c1]
    rw [e, en]
    exact ⟨fun _ => c2.up (by omega), fun e => absurd e c1⟩
  · have en : lpN i x p n = (i : Int) := by rw [lpN, if_neg (by omega)]
    rw [en]
    unfold Sh.lpF
    rw [if_neg (by omega)]
    rcases c3.aps c2 hi z with ⟨a1, ys, a2⟩ | ⟨a1, a2, a3⟩
    · rw [if_pos a1]
      exact ⟨fun _ => a2.remove hi hin h0 hm, fun e => absurd e a1⟩
    · rw [if_neg (by omega)]
      rcases a3.seal (m := m) a2 hz hi hin h0 hm with ⟨s1, s2, s3⟩ | ⟨s1, s2, s3, s4⟩
      · rw [if_pos s1]
        have e : pRemove (nm (nameT i)) (sealF i (Sh.aps i (pCreate (nm (nameT i)) x p).2 z).2).2 = (12, (sealF i (Sh.aps i (pCreate (nm (nameT i)) x p).2 z).2).2) := by rw [pRemove, finds_down s2]; simp
        rw [e]
        exact ⟨fun _ => s3, fun e => absurd e s1⟩
      · rw [if_neg (by omega)]
        exact ⟨fun e => absurd s1 e, fun _ => ⟨s4, s2, s3⟩⟩

/-! ### What Lay asks -/
theorem CG.ids {m : Nat} (h : CG Q m n H p) : ∀ z ∈ idsP p, 1 ≤ z ∧ z ≤ n := fun z hz => by
  have hnb := h.1.nb
  unfold idsP at hz
  rw [List.mem_mergeSort] at hz
  obtain ⟨x, hx, hz⟩ := List.mem_filterMap.1 hz
  unfold pList at hx
  split at hx
  · simp at hx
  · rename_i hd
    rcases h.2.2.2 with e | ⟨h1, _⟩
    · exact absurd e hd
    · obtain ⟨e, he, rfl⟩ := List.mem_map.1 hx
      obtain ⟨j, g1, g2, g3⟩ := h1 e he
      rw [g3, idN_P g1 (by omega)] at hz
      simp at hz
      omega
theorem CG.max {m : Nat} (h : CG Q m n H p) : maxZ (idsP p ++ [n]) = n := maxZ_top _ _ fun z hz => (h.ids z hz).2
theorem CG.list {m : Nat} (h : CG Q m n H p) : (∀ x ∈ pList p, x.length ≤ 40) ∧ (pList p).length ≤ 100 := by
  have hnb := h.1.nb
  unfold pList
  split
  · simp
  · rename_i hd
    rcases h.2.2.2 with e | ⟨h1, h2⟩
    · exact absurd e hd
    · refine ⟨fun x hx => ?_, by rw [List.length_map]; omega⟩
      obtain ⟨e, he, rfl⟩ := List.mem_map.1 hx
      obtain ⟨j, g1, g2, g3⟩ := h1 e he
      rw [g3]
      exact len_P j (by omega)
theorem CG.noP {m i : Nat} (h : CG Q m n H p) (hin : (i : Int) = n + 1) (hi : i < 100) : finds p (nm (nameP i)) ≠ 0 := by
  cases hd : p.down with
  | true => rw [finds_down hd]; omega
  | false =>
    rcases h.2.2.2 with e | ⟨h1, h2⟩
    · rw [hd] at e; cases e
    · have hn : dfind p.seen (nm (nameP i)) = none := by
        cases hf : dfind p.seen (nm (nameP i)) with
        | none => rfl
        | some b =>
          obtain ⟨j, g1, g2, g3⟩ := h1 _ (Sim.mem_of_dfind hf)
          have := P_inj (by omega) hi g1 (by omega) g3
          omega
      simp [Sim.finds, Sim.wrongs, hd, nB_P i hi, hn]
end

/-- Places are those of records that are held. -/
def PlOk (H : List (Nat × List Nat)) (zs : List El) (qs : List Pl) : Prop :=
  qs.length = zs.length ∧ ∀ (k : Nat) (q : Pl), qs[k]? = some q → ∃ y z pre r, zs[k]? = some y ∧ (q.1, zb z) ∈ H ∧ z = pre ++ y :: r ∧ q.2.1 = szs pre ∧ q.2.2 = szE y ∧ ∀ u ∈ z, RtE u
theorem PlOk.more {H H' : List (Nat × List Nat)} {zs : List El} {qs : List Pl} (h : PlOk H zs qs) (hs : ∀ x ∈ H, x ∈ H') : PlOk H' zs qs := ⟨h.1, fun k q hq => by
  obtain ⟨y, z, pre, r, h1, h2, h3⟩ := h.2 k q hq
  exact ⟨y, z, pre, r, h1, hs _ h2, h3⟩⟩
theorem plc_at (i : Nat) : ∀ (z : List El) (a k : Nat) (q : Pl), (plc i a z)[k]? = some q → ∃ y pre r, z[k]? = some y ∧ z = pre ++ y :: r ∧ q = (i, a + szs pre, szE y)
  | [], _, _, _, h => by simp [plc] at h
  | y :: z, a, 0, q, h => by
    simp [plc] at h
    exact ⟨y, [], z, rfl, rfl, by rw [← h]; simp [szs]⟩
  | y :: z, a, k + 1, q, h => by
    rw [plc, List.getElem?_cons_succ] at h
    obtain ⟨u, pre, r, h1, h2, h3⟩ := plc_at i z (a + szE y) k q h
    refine ⟨u, y :: pre, r, by rw [List.getElem?_cons_succ]; exact h1, by rw [h2]; rfl, ?_⟩
    rw [h3]
    have : szs (y :: pre) = szE y + szs pre := by simp [szs]
    rw [this, Nat.add_assoc]
theorem PlOk.app {H : List (Nat × List Nat)} {zs ys : List El} {qs rs : List Pl} (h : PlOk H zs qs) (k : PlOk H ys rs) : PlOk H (zs ++ ys) (qs ++ rs) := by
  refine ⟨by rw [List.length_append, List.length_append, h.1, k.1], fun j q hq => ?_⟩
  by_cases hj : j < qs.length
  · rw [List.getElem?_append_left hj] at hq
    obtain ⟨y, z, pre, r, h1, h2⟩ := h.2 j q hq
    exact ⟨y, z, pre, r, by rw [List.getElem?_append_left (by have := h.1; omega)]; exact h1, h2⟩
  · rw [List.getElem?_append_right (by omega)] at hq
    obtain ⟨y, z, pre, r, h1, h2⟩ := k.2 _ q hq
    exact ⟨y, z, pre, r, by rw [List.getElem?_append_right (by have := h.1; omega), ← h.1]; exact h1, h2⟩
theorem plOk_plc {H : List (Nat × List Nat)} (i : Nat) (z : List El) (hz : ∀ u ∈ z, RtE u) (hH : (i, zb z) ∈ H) : PlOk H z (plc i 0 z) := by
  refine ⟨plc_length i z 0, fun k q hq => ?_⟩
  obtain ⟨y, pre, r, h1, h2, rfl⟩ := plc_at i z 0 k q hq
  exact ⟨y, z, pre, r, h1, hH, h2, by simp, rfl, hz⟩

/-- Packs that were laid: what is held behind them. -/
theorem CG.layR {m : Nat} {p0 p : PS} {n0 n : Int} {H0 : List (Nat × List Nat)} {ps : List (List El)} {qs : List Pl} (h0 : CG Wh m n0 H0 p0) (h : LayR p0 n0 ps p n qs) (hm : m + ps.length < 100) (hz : ∀ z ∈ ps, z ≠ [] ∧ ∀ y ∈ z, RtE y) :
    ∃ H, CG Wh (m + ps.length) n H p ∧ (∀ x ∈ H0, x ∈ H) ∧ PlOk H ps.flatten qs ∧ (ps ≠ [] → p.down = false ∧ p.chg = []) := by
  induction h with
  | nil => exact ⟨H0, h0, fun x hx => hx, ⟨rfl, fun k q hq => by simp at hq⟩, fun e => absurd rfl e⟩
  | snoc h hi hx h0' ih =>
    rename_i ps' p' n' qs' i' x' z'
    rw [List.length_append, List.length_singleton] at hm
    obtain ⟨H, g1, g2, g3, _⟩ := ih (by omega) (fun z hz' => hz z (by simp [hz']))
    rw [g1.max] at hi
    have g4 := g1.2.2.1
    obtain ⟨hne, hzz⟩ := hz z' (by simp)
    obtain ⟨c1, c2, c3⟩ := (g1.lpF (i := i') hi.symm (by omega) hx z' (wh_zb hne hzz)).2 h0'
    refine ⟨(i', zb z') :: H, by rw [List.length_append, List.length_singleton]; exact c1, fun x hx => by simp [g2 x hx], ?_, fun _ => ⟨c2, c3⟩⟩
    rw [List.flatten_append, List.flatten_singleton]
    exact (g3.more (fun x hx => by simp [hx])).app (plOk_plc i' z' hzz (by simp))
theorem CInv.less {Q : List Nat → Prop} {n : Int} {H H' : List (Nat × List Nat)} {p : PS} (h : CInv Q n H p) (hs : ∀ x ∈ H', x ∈ H) : CInv Q n H' p := ⟨h.se, h.rs, h.pk, fun k x hx => h.hd k x (hs x hx), fun x hx => h.hb x (hs x hx), h.nb⟩
theorem CG.less {Q : List Nat → Prop} {m : Nat} {n : Int} {H H' : List (Nat × List Nat)} {p : PS} (h : CG Q m n H p) (hs : ∀ x ∈ H', x ∈ H) : CG Q m n H' p := ⟨h.1.less hs, h.2⟩
/-- What Lay wants of it (what the packs hold, and which there are, is forgotten). -/
theorem CG.pre (m K : Nat) (hm : m + K < 100) : Pre (fun k p n => CG (fun _ => True) (m + k) n [] p) K := fun k p n hk h => by
  have h0 := h.2.1
  have h1 := h.2.2.1
  obtain ⟨i, hi⟩ : ∃ i : Nat, (i : Int) = n + 1 := ⟨(n + 1).toNat, by omega⟩
  refine ⟨i, by rw [h.max]; omega, by omega, by omega, h.noP hi (by omega), fun x hx => by have := h.list.1 x hx; omega, ?_, fun x z hx _ _ _ hz => ?_⟩
  · have h2 := h.list.2
    have h3 := List.length_filterMap_le idN (pList p)
    unfold idsP
    rw [List.length_mergeSort]
    omega
  · exact ((h.lpF hi (by omega) hx z trivial).2 hz).1.less (fun x hx => by simp at hx)

end Go.Proofs.YtaaioaocjfpajaaGreatDoor.Sh
end

section
/-
  A range over a function that itself writes one block, and holds memory over its yields: the caller's law. (As FrRange's, but the body says which blocks it owns, and leaves all others.)
-/
namespace Go.Proofs.YtaaioaocjfpajaaGreatDoor
open Go.RowKit
open Crc (hid Kept Tab)

/-- Cells outside O that were there stand. -/
structure StayO (O : Nat → Prop) (U W : World) : Prop where
  size : U.heap.size ≤ W.heap.size
  cell : ∀ g o v, U.cell? ⟨g, o, none⟩ = some v → ¬ O g → W.cell? ⟨g, o, none⟩ = some v
theorem StayO.trans {O : Nat → Prop} {U V W : World} (h : StayO O U V) (k : StayO O V W) : StayO O U W := ⟨Nat.le_trans h.size k.size, fun g o v hi ho => k.cell g o v (h.cell g o v hi ho) ho⟩
theorem cell_lt {U : World} {g o : Nat} {v : Value} (h : U.cell? ⟨g, o, none⟩ = some v) : g < U.heap.size := by
  by_cases hg : g < U.heap.size
  · exact hg
  · simp [World.cell?, Array.getElem?_eq_none (Nat.le_of_not_lt hg)] at h
theorem StayO.of_below {O : Nat → Prop} {U W : World} (h : Below U.heap.size U W) : StayO O U W := ⟨h.size, fun g o _ hi _ => (h.cell (p := ⟨g, o, none⟩) (cell_lt hi)).trans hi⟩
theorem StayO.of_putl {O : Nat → Prop} {B : Nat} {U W : World} (h : Putl B U W) : StayO O U W := ⟨Nat.le_of_eq h.size.symm, fun _ _ _ hi _ => h.cell hi⟩
theorem StayO.of_kp {O L : Nat → Prop} {U W : World} (h : Sim.Kp L U W) (hL : ∀ x, L x → O x) : StayO O U W := ⟨h.size, fun g o _ hi ho => (h.cell (p := ⟨g, o, none⟩) (cell_lt hi) (fun e => ho (hL g e))).trans hi⟩
theorem StayO.mono {O Q : Nat → Prop} {U W : World} (h : StayO O U W) (hs : ∀ x, O x → Q x) : StayO Q U W := ⟨h.size, fun g o v hi ho => h.cell g o v hi (fun e => ho (hs g e))⟩
/-- A range, and bytes, outside O stand. -/
theorem StayO.range {O : Nat → Prop} {U W : World} (h : StayO O U W) {g o : Nat} {C : List Value} (hr : U.rangeAt g o C) (hg : ¬ O g) : W.rangeAt g o C := fun j v hv => h.cell g (o + j) v (hr j v hv) hg
theorem StayO.bytes {O S S' : Nat → Prop} {U W : World} (h : StayO O U W) {v : Value} {xs : List Int} (hb : Tlv.BySlS S U v xs) (hS : ∀ g, S g → ¬ O g ∧ S' g) : Tlv.BySlS S' W v xs := by
  obtain ⟨a, c, e, h1, h2, h3, h4, h5, h6⟩ := hb
  refine ⟨a, c, e, h1, h2, h3, h4, h5, fun hne => ?_⟩
  obtain ⟨b, o, e, hg, hc⟩ := h6 hne
  exact ⟨b, o, e, (hS b hg).2, fun i hi => h.cell b (o + i) _ (hc i hi) (hS b hg).1⟩

/-- What an iterator that may write block b and blocks that it made itself tells, over a body that owns the blocks O (they grow by new ones), and leaves all other cells that were there: N rounds, in round k values as V says. -/
def TellsO (n gf : Nat) (lb : Array Value) (b : Nat) (T : World → Prop) (V : Nat → (Nat → Prop) → Array Value → World → Prop) (N : Nat) (O0 : Nat → Prop) : Prop :=
  ∀ (l : Nat) (J : Nat → (Nat → Prop) → World → Prop) (Jx : Nat → World → Prop) (W : World), T W → (∀ k O U W', J k O U → T W' → Kept b U W' → J k O W') →
    (∀ k O U vs, k < N → (∀ x, O x → x < U.heap.size) → J k O U → T U → V k O vs U → YieldAt Fence.wide (n - 1) Tryz.prog l vs U fun e W' =>
      (e = .returned (.bool true) ∧ ∃ O', J (k + 1) O' W' ∧ T W' ∧ (∀ x, O' x → (O x ∨ U.heap.size ≤ x) ∧ x < W'.heap.size) ∧ StayO O U W') ∨ (e = .returned (.bool false) ∧ Jx (k + 1) W')) →
    J 0 O0 W → (∀ x, O0 x → x < W.heap.size) →
    CallsIn Fence.wide n Tryz.prog gf (#[.func (.yield l) #[] #[]] ++ lb) W fun e W' => (∃ v, e = .returned v) ∧ ((∃ O, J N O W' ∧ T W') ∨ ∃ k, k ≤ N ∧ Jx k W')

/-- How the body of a round may be left: k rounds have come, this one with them. -/
def roundEndsO (B : Nat) (T : World → Prop) (I : Nat → (Nat → Prop) → World → Prop) (Ix : Code → Nat → World → Prop) (k : Nat) (O : Nat → Prop) (W : World) : Exit → Act → World → Prop
  | .normal, _, V => KeepsFrom B W V ∧ (∃ O', I k O' V ∧ (∀ x, O' x → (O x ∨ W.heap.size ≤ x) ∧ x < V.heap.size) ∧ StayO O W V) ∧ T V
  | .ret, _, V => KeepsFrom B W V ∧ Ix .ret k V
  | .exit id, _, V => KeepsFrom B W V ∧ Ix (.exit id) k V
  | _, _, _ => False

theorem over_funcO {g : Operand} {ps : Array Tmp} {assign body : Code} {Q : Exit → Act → World → Prop} {a : Act} {w : World} {n gf : Nat} {lb : Array Value}
    (hg : a.eval g = .func (.func gf) #[] lb) (eg : ∀ args w, (callFunc gf args).run Tryz.prog w = .ok (.enter gf args) w)
    {b : Nat} {T : World → Prop} {V : Nat → (Nat → Prop) → Array Value → World → Prop} {N : Nat} {O0 : Nat → Prop} (hO0 : ∀ x, O0 x → x < w.heap.size) (hseq : TellsO (n - 1) gf lb b T V N O0) (hps : ∀ k m vs U, V k m vs U → vs.size = ps.size)
    (hb : b < w.heap.size) (hT : ∀ U W, T U → Below w.heap.size U W → T W) (hT0 : T w)
    (I : Nat → (Nat → Prop) → World → Prop) (Ix : Code → Nat → World → Prop) (hIk : ∀ k m U W, I k m U → T W → Kept b U W → I k m W) (hI : ∀ k m U W, I k m U → Putl w.heap.size U W → I k m W)
    (hIx : ∀ c k U W, Ix c k U → Putl w.heap.size U W → Ix c k W)
    (h0 : ∀ W, Below w.heap.size w W → W.heap.size = w.heap.size + 2 → I 0 O0 W)
    (asg : Array Value → World → World) (hasg : ∀ vs W, Below W.heap.size W (asg vs W)) (hVa : ∀ k m vs U, V k m vs U → V k m vs (asg vs U)) (hIa : ∀ k m vs U, V k m vs U → I k m U → I k m (asg vs U)) (a₁ : Nat → Array Value → World → Act)
    (hV : ∀ k m vs U W, V k m vs U → Putl w.heap.size U W → V k m vs W)
    (hassign : ∀ (l k : Nat) (m : Nat → Prop) (vs : Array Value) (W : World) (K : Act → World → Prop), k < N → V k m vs W → K (a₁ k vs W) (asg vs W) →
      assign.wpIn (Fence.wide.inRound l) (n - 1 - 1) Tryz.prog (Exit.then K (fun _ _ _ => False)) { tmps := (ps.zip vs).foldl (fun t (p, v) => t.setIfInBounds p v) a.tmps, defers := [] } W)
    (hbody : ∀ (l k : Nat) (m : Nat → Prop) (vs : Array Value) (U W : World), k < N → (∀ x, m x → x < U.heap.size) → V k m vs W → I k m W → T W → W.heap.size = (asg vs U).heap.size → (∀ i, U.heap.size ≤ i → W.heap[i]? = (asg vs U).heap[i]?) → w.heap.size ≤ U.heap.size → body.wpIn (Fence.wide.inRound l) (n - 1 - 1) Tryz.prog (roundEndsO w.heap.size T I Ix (k + 1) m W) (a₁ k vs U) W)
    (hdone : ∀ (D : Nat) (m : Nat → Prop) (W : World), w.heap.size ≤ D → I N m W → T W → W.heap[D]? = some (.deferred (some [])) → Q .normal { a with defers := { target := .collected D, args := #[] } :: a.defers } W)
    (hstop : ∀ (D : Nat) (c : Code) (k : Nat) (W : World), w.heap.size ≤ D → k ≤ N → Ix c k W → W.heap[D]? = some (.deferred (some [])) → c.wpIn Fence.wide n Tryz.prog Q { a with defers := { target := .collected D, args := #[] } :: a.defers } W) :
    (Code.rangeFunc g ps assign body).wpIn Fence.wide n Tryz.prog Q a w := by
  refine wpIn_rangeFunc fun fn hfn => ?_
  -- the record of the loop, by its state and the jump that is pending; it lies in the second of two new blocks
  let rec0 : LoopState → Option Code → Loop := fun st pe => { state := st, pending := pe, fn, tmps := a.tmps, params := ps, assign, body, defers := w.heap.size }
  have hB : ∀ (W : World) (o : Obj) (l : Nat), w.heap.size ≤ l → l < W.heap.size → Below w.heap.size W (W.putObj l o) := fun W o l h1 h2 => put_below W o h1 h2
  let Rec : LoopState → Option Code → World → Prop := fun st pe W => W.heap[w.heap.size + 1]? = some (.loop (rec0 st pe)) ∧ W.heap[w.heap.size]? = some (.deferred (some []))
  have start : Below w.heap.size w ((w.alloc (.deferred (some []))).alloc (.loop (rec0 .ready none))) := ((Below.refl _ w).alloc (Nat.le_refl _) _).alloc (by simp) _
  have r0 : Rec .ready none ((w.alloc (.deferred (some []))).alloc (.loop (rec0 .ready none))) := by
    refine ⟨?_, (Below.heap_alloc _ _ _ (by simp)).trans (World.alloc_heap_new w _)⟩
    have h := World.alloc_heap_new (w.alloc (.deferred (some []))) (.loop (rec0 .ready none))
    rwa [World.size_alloc] at h
  have hlt : ∀ {st pe W}, Rec st pe W → w.heap.size + 1 < W.heap.size := fun h => (Array.getElem?_eq_some_iff.1 h.1).1
  -- the record is put anew
  have put : ∀ {st pe W} (st' : LoopState) (pe' : Option Code), Rec st pe W → Rec st' pe' (W.putObj (w.heap.size + 1) (.loop (rec0 st' pe'))) := fun st' pe' h =>
    ⟨World.putObj_heap_same (hlt h), (World.putObj_heap_other (by omega)).trans h.2⟩
  have keep : ∀ {st pe W V}, Rec st pe W → KeepsFrom w.heap.size W V → Rec st pe V := fun h k => ⟨k.same _ _ (by omega) h.1 rfl, k.same _ _ (Nat.le_refl _) h.2 rfl⟩
  have psz : ∀ (W : World) (o : Obj) (l : Nat), (W.putObj l o).heap.size = W.heap.size := fun W o l => by simp [World.putObj]
  have poth : ∀ (W : World) (o : Obj), ∀ i, i ≠ w.heap.size + 1 → (W.putObj (w.heap.size + 1) o).heap[i]? = W.heap[i]? := fun W o i hi => World.putObj_heap_other (by omega)
  have putI : ∀ {k m st pe W} (st' : LoopState) (pe' : Option Code), Rec st pe W → I k m W → I k m (W.putObj (w.heap.size + 1) (.loop (rec0 st' pe'))) := fun {k m st pe W} st' pe' h hi =>
    hI k m W _ hi ⟨rfl, rfl, rfl, psz _ _ _, w.heap.size + 1, _, by omega, h.1, poth W _⟩
  have putIx : ∀ {c k st pe W} (st' : LoopState) (pe' : Option Code), Rec st pe W → Ix c k W → Ix c k (W.putObj (w.heap.size + 1) (.loop (rec0 st' pe'))) := fun {c k st pe W} st' pe' h hi =>
    hIx c k W _ hi ⟨rfl, rfl, rfl, psz _ _ _, w.heap.size + 1, _, by omega, h.1, poth W _⟩
  refine ⟨w.heap.size + 1, [{ target := .collected w.heap.size, args := #[] }], (w.alloc (.deferred (some []))).alloc (.loop (rec0 .ready none)), { target := .fn (.func gf) lb, args := #[.func (.yield (w.heap.size + 1)) #[] #[]] },
    (w.alloc (.deferred (some []))).alloc (.loop (rec0 .ready none)), gf, #[.func (.yield (w.heap.size + 1)) #[] #[]] ++ lb, (w.alloc (.deferred (some []))).alloc (.loop (rec0 .ready none)), ?_, ?_, fun _ _ => trivial, ?_, fun h => by simp [Fence.wide] at h, ?_⟩
  · exact run_enterLoop_outer _ _ _ _ _
  · simp only [resolve, hg]
    simp [go_sem]
  · simp [invoke, go_sem, eg]
  · refine (hseq (w.heap.size + 1) (fun k m W => I k m W ∧ Rec .ready none W) (fun k W => ∃ c, Ix c k W ∧ Rec .done (some c) W) _ (hT _ _ hT0 start) ?_ ?_ ⟨h0 _ start (by simp), r0⟩ (fun x hx => by have := hO0 x hx; simp; omega)).mono ?_
    · -- the iterator writes block b
      rintro k m U W' ⟨hi, hr⟩ hTW hk
      have hs := hlt hr
      exact ⟨hIk k m U W' hi hTW hk, (hk.block _ hs (by omega)).trans hr.1, (hk.block _ (by omega) (by omega)).trans hr.2⟩
    · -- one round
      rintro k m U vs hkN hmU ⟨hi, hr⟩ hTU hVU
      have hs := hlt hr
      have ba := hasg vs U
      have hra : Rec .ready none (asg vs U) := ⟨(ba.block _ hs).trans hr.1, (ba.block _ (by omega)).trans hr.2⟩
      have hsa := hlt hra
      refine ⟨fn, _, assign, body, run_yield (P := Tryz.prog) (args := vs) hr.1 (hps k m vs U hVU), roundIn_of_wpIn hfn (hassign _ k m vs U _ hkN hVU ⟨_, run_beginRound hra.1 rfl, ?_⟩)⟩
      have b1 := hB (asg vs U) (.loop { rec0 .ready none with state := .busy }) _ (by omega) hsa
      have hTa : T (asg vs U) := hT _ _ hTU (ba.mono (by omega))
      have hIa' : I k m (asg vs U) := hIa k m vs U hVU hi
      have hVa' : V k m vs (asg vs U) := hVa k m vs U hVU
      refine wpIn_mono (hbody _ k m vs U _ hkN hmU ?_ (putI .busy none hra hIa') (hT _ _ hTa b1) ?_ ?_ (by omega)) ?_
      · exact hV k m vs _ _ hVa' ⟨rfl, rfl, rfl, psz _ _ _, w.heap.size + 1, _, by omega, hra.1, poth _ _⟩
      · exact psz _ _ _
      · intro i hi
        exact poth _ _ i (by omega)
      have hr1 : Rec .busy none ((asg vs U).putObj (w.heap.size + 1) (.loop { rec0 .ready none with state := .busy })) := put .busy none hra
      have ends : ∀ (jump : Option Code) (V : World), KeepsFrom w.heap.size ((asg vs U).putObj (w.heap.size + 1) (.loop { rec0 .ready none with state := .busy })) V →
          (Instr.endRound (w.heap.size + 1) jump).run Tryz.prog V = .ok (.bool jump.isNone) (V.putObj (w.heap.size + 1) (.loop (rec0 (if jump.isNone then .ready else .done) jump))) ∧
          Rec (if jump.isNone then .ready else .done) jump (V.putObj (w.heap.size + 1) (.loop (rec0 (if jump.isNone then .ready else .done) jump))) ∧ Below w.heap.size V (V.putObj (w.heap.size + 1) (.loop (rec0 (if jump.isNone then .ready else .done) jump))) ∧ Rec .busy none V := fun jump V hk => by
        have hr2 := keep hr1 hk
        exact ⟨run_endRound (P := Tryz.prog) jump hr2.1, put _ _ hr2, hB V _ _ (by omega) (hlt hr2), hr2⟩
      rintro e a3 V hp
      cases e with
      | normal =>
        obtain ⟨hk, ⟨O', hi2, ho2, hst2⟩, ht2⟩ := hp
        obtain ⟨h1, h2, h3, h4⟩ := ends none V hk
        refine ⟨_, _, h1, .inl ⟨rfl, O', ⟨putI _ _ h4 hi2, h2⟩, hT _ _ ht2 h3, fun x hx => ⟨?_, ?_⟩, ?_⟩⟩
        · rcases (ho2 x hx).1 with e | e
          · exact .inl e
          · right
            rw [psz] at e
            have := ba.size
            omega
        · rw [psz]
          exact (ho2 x hx).2
        · have s1 : StayO m (asg vs U) ((asg vs U).putObj (w.heap.size + 1) (.loop { rec0 .ready none with state := .busy })) := .of_putl (B := w.heap.size) ⟨rfl, rfl, rfl, psz _ _ _, w.heap.size + 1, _, Nat.le_succ _, hra.1, poth _ _⟩
          have s2 : StayO m V (V.putObj (w.heap.size + 1) (.loop (rec0 (if (none : Option Code).isNone then .ready else .done) none))) := .of_putl (B := w.heap.size) ⟨rfl, rfl, rfl, psz _ _ _, w.heap.size + 1, _, Nat.le_succ _, h4.1, poth _ _⟩
          exact (((StayO.of_below ba).trans s1).trans hst2).trans s2
      | ret =>
        obtain ⟨hk, hi2⟩ := hp
        obtain ⟨h1, h2, h3, h4⟩ := ends (some .ret) V hk
        exact ⟨_, _, h1, .inr ⟨rfl, .ret, putIx _ _ h4 hi2, h2⟩⟩
      | exit id =>
        obtain ⟨hk, hi2⟩ := hp
        obtain ⟨h1, h2, h3, h4⟩ := ends (some (.exit id)) V hk
        exact ⟨_, _, h1, .inr ⟨rfl, .exit id, putIx _ _ h4 hi2, h2⟩⟩
      | goto t => exact hp.elim
      | panic ch => exact hp.elim
      | outgrown => exact hp.elim
    · -- behind the iterator
      rintro e V ⟨⟨v, rfl⟩, (⟨m, ⟨hi, hr⟩, ht⟩ | ⟨k, hk, c, hi, hr⟩)⟩
      · exact ⟨none, _, run_endLoop (P := Tryz.prog) hr.1 (by simp [rec0]), hdone _ m _ (Nat.le_refl _) (putI .exhausted none hr hi) (hT _ _ ht (hB V _ _ (Nat.le_succ _) (hlt hr))) ((World.putObj_heap_other (by omega)).trans hr.2)⟩
      · exact ⟨some c, _, run_endLoop (P := Tryz.prog) hr.1 (by simp [rec0]), hstop _ c k _ (Nat.le_refl _) hk (putIx .exhausted (some c) hr hi) ((World.putObj_heap_other (by omega)).trans hr.2)⟩

end Go.Proofs.YtaaioaocjfpajaaGreatDoor
end

section
/-
  A walk through no pack.
-/
namespace Go.Proofs.YtaaioaocjfpajaaGreatDoor.Sh
open Go.RowKit Go.Shelf
open Crc (Kept)
open Sim (hid Kp No PS Done Blk nm pList OwnN)
attribute [local go_sem] Oper.semAt_some

theorem records_any (w : World) (a : Option Addr) (n c : Nat) (fn : Fn) (first caps : Array Value) :
    Calls Tryz.prog 34 #[.slice a n c, .func fn first caps] w fun e w' => e = .returned (.func (.func 59) #[] #[.pointer (some ⟨w.heap.size, 0, none⟩), .pointer (some ⟨w.heap.size + 1, 0, none⟩)]) ∧
      w' = (w.alloc (.cells #[.slice a n c] 23)).alloc (.cells #[.func fn first caps] 49) := by
  have hmf : ∀ (fn : Fn) (first cap : Array Value) (w : World), (Instr.makeFunc fn first cap).run Tryz.prog w = .ok (.func fn first cap) w := fun _ _ _ _ => rfl
  go_enter Tryz.func34, Tryz.ntmps34
  go_wp2
  go_ret
  exact ⟨rfl, rfl⟩

end Go.Proofs.YtaaioaocjfpajaaGreatDoor.Sh
end

section
/-
  Load of a shelf.
-/
namespace Go.Proofs.YtaaioaocjfpajaaGreatDoor.Sh
open Go.RowKit Go.Shelf
open Sim (hid Kp No PS Blk nm finds pBytes)

theorem loaded_shape {w w' : World} {b : Nat} {e : Ending} {f : Nat} {S : List Item × Nat × Int} (h : Loaded w w' b e f S) : ∃ (v : Value) (z : Int), e = .returned (.tuple #[v, .int .i64 z]) := by
  rcases h.1 with ⟨_, rfl⟩ | ⟨_, _, rfl⟩ | ⟨_, _, _, a, c, rfl, _⟩
  · exact ⟨_, _, rfl⟩
  · exact ⟨_, _, rfl⟩
  · exact ⟨_, _, rfl⟩

set_option maxHeartbeats 2000000 in
set_option maxRecDepth 100000 in
theorem sload_any {P : Nat → Prop} {N : Nat} (w : World) (h s b : Nat) (n : Int) (p : PS) (i : Nat) (h1 : 1 ≤ i) (h2 : i < 100) (hH : ShAt w h s b n) (hS : Sim.Sys P N w s p) (hT : TabX w b) (hb : ∀ x ∈ pBytes (nm (nameP i)) p, x < 256) (hl : (pBytes (nm (nameP i)) p).length ≤ 20000000) :
    Calls Tryz.prog 16 #[.pointer (some ⟨h, 0, none⟩), .int .i64 (i : Int)] w fun e w' => Loaded w w' b e (finds p (nm (nameP i))) (scanF (ints (pBytes (nm (nameP i)) p))) := by
  have HN := hid (none_any w h s b n hH)
  have HLD := hid (load_any w.drew s b p i h1 h2 (hS.kept (Kp.refl No w).drew) (hT.kp (Kp.refl No w).drew (fun x => x)) hb hl)
  have c0 : w.cell? ⟨h, 0, none⟩ = some (.pointer (some ⟨s, 0, none⟩)) := hH.cell 0
  have c1 : w.cell? ⟨h, 1, none⟩ = some (.pointer (some ⟨b, 0, none⟩)) := hH.cell 1
  have hhl := hH.lt
  clear hH hS hT hb hl
  go_enter Tryz.func16, Tryz.ntmps16
  go_wp2_with fail
  refine HN.out.mono ?_
  rintro e w0 ⟨rfl, hw0⟩
  subst w0
  clear HN
  go_wp2_with fail
  go_region_with (go_at_call 36; refine HLD.out.mono ?_; rintro e w2 hD; obtain ⟨v, z, rfl⟩ := loaded_shape hD; have HD := hid hD; clear hD)
  all_goals
    go_wp2_with fail
    go_ret2
    show Loaded w w2 b (.returned (.tuple #[v, .int .i64 z])) _ _
    exact ⟨HD.out.1, (Crc.Kept.refl b w).drew.trans HD.out.2.1, HD.out.2.2⟩

end Go.Proofs.YtaaioaocjfpajaaGreatDoor.Sh
end

section
/-
  records: what the iterator over packs tells.
-/
namespace Go.Proofs.YtaaioaocjfpajaaGreatDoor.Sh
open Go.RowKit Go.Shelf
open Tlv (BySlS)
open Crc (Kept)
open Sim (hid Kp No PS Blk nm)
attribute [local go_sem] Oper.semAt_some

/-- An item of a walk: the pack, a fault, what is placed there. -/
abbrev WI : Type := Nat × Nat × Item
def noIt : Item := (0, 0, (0, List.replicate 32 0, []), 0)
def fC (id : Nat) (x : Item) (u : Value) : List Value := .int .i64 (id : Int) :: .int .i64 (x.1 : Int) :: .int .i64 (x.2.2.2 : Int) :: recA x.2.2.1.1 x.2.2.1.2.1 u
def packI (id F : Nat) (S : List Item × Nat × Int) : List WI := if F ≠ 0 then [(id, F, noIt)] else if S.2.2 ≠ 0 ∨ S.1 = [] then [(id, 4, noIt)] else S.1.map fun x => (id, 0, x)
def allI (F : Nat → Nat) (S : Nat → List Item × Nat × Int) (ids : List Nat) : List WI := ids.flatMap fun id => packI id (F id) (S id)
def Vr (b : Nat) (X : List WI) (k : Nat) (O : Nat → Prop) (vs : Array Value) (U : World) : Prop :=
  ∃ (y : WI) (a : Option Addr) (c : Nat), X[k]? = some y ∧ vs = #[.agg (fC y.1 y.2.2 (.slice a y.2.2.2.2.1.2.2.length c)).toArray, .int .i64 (y.2.1 : Int)] ∧
    BySlS (fun g => ¬ O g ∧ g ≠ b ∧ g < U.heap.size) U (.slice a y.2.2.2.2.1.2.2.length c) y.2.2.2.2.1.2.2 ∧ nmOk y.2.2

theorem allI_take (F : Nat → Nat) (S : Nat → List Item × Nat × Int) (ids : List Nat) (j id : Nat) (h : ids[j]? = some id) : allI F S (ids.take (j + 1)) = allI F S (ids.take j) ++ packI id (F id) (S id) := by
  simp [allI, List.take_add_one, h]
theorem allI_at (F : Nat → Nat) (S : Nat → List Item × Nat × Int) (ids : List Nat) (j id i : Nat) (y : WI) (h : ids[j]? = some id) (hy : (packI id (F id) (S id))[i]? = some y) : (allI F S ids)[(allI F S (ids.take j)).length + i]? = some y := by
  have e : ids = ids.take j ++ id :: ids.drop (j + 1) := by
    rw [← List.getElem_eq_iff (h := (List.getElem?_eq_some_iff.1 h).1)] at h
    rw [← h, List.getElem_cons_drop, List.take_append_drop]
  have e2 : allI F S ids = allI F S (ids.take j) ++ (packI id (F id) (S id) ++ allI F S (ids.drop (j + 1))) := by
    conv => lhs; rw [e]
    simp [allI]
  rw [e2, List.getElem?_append_right (by omega), Nat.add_sub_cancel_left, List.getElem?_append_left (List.getElem?_eq_some_iff.1 hy).1]
  exact hy

/-- A row of what is placed, outside the body's blocks. -/
def RowO (b : Nat) (O : Nat → Prop) (W : World) (a : Option Addr) (L : List Item) : Prop :=
  ∀ i x, L[i]? = some x → ∃ gr a' c', a = some ⟨gr, 0, none⟩ ∧ gr < W.heap.size ∧ ¬ O gr ∧ nmOk x ∧ W.rangeAt gr (i * 36) (plI x (.slice a' x.2.2.1.2.2.length c')) ∧ BySlS (fun q => ¬ O q ∧ q ≠ b ∧ q < W.heap.size) W (.slice a' x.2.2.1.2.2.length c') x.2.2.1.2.2
theorem RowO.of {b base c : Nat} {O : Nat → Prop} {W : World} {a : Option Addr} {L : List Item} (h : PRow 60 base b W (.slice a L.length c) L) (hO : ∀ x, O x → x < base) : RowO b O W a L := fun i x hx => by
  obtain ⟨g, cap, a', c', e, h1, h2, h3, h4, h5⟩ := h.get i x hx
  simp only [Value.slice.injEq, true_and] at e
  obtain ⟨rfl, _⟩ := e
  exact ⟨g, a', c', rfl, h2, fun e => by have := hO _ e; omega, h3, h4, BySlS.mono h5 (fun q hq => ⟨fun e => by have := hO _ e; omega, hq.2.1, hq.2.2.1⟩)⟩
theorem RowO.stay {b : Nat} {O O' : Nat → Prop} {U W : World} {a : Option Addr} {L : List Item} (h : RowO b O U a L) (hs : StayO O U W) (hO : ∀ x, O' x → O x ∨ U.heap.size ≤ x) : RowO b O' W a L := fun i x hx => by
  obtain ⟨gr, a', c', e, h1, h2, h3, h4, h5⟩ := h i x hx
  refine ⟨gr, a', c', e, Nat.lt_of_lt_of_le h1 hs.size, fun e => ?_, h3, hs.range h4 h2, hs.bytes h5 (fun q hq => ⟨hq.1, fun e => ?_, hq.2.1, Nat.lt_of_lt_of_le hq.2.2 hs.size⟩)⟩
  · rcases hO _ e with e | e
    · exact h2 e
    · omega
  · rcases hO _ e with e | e
    · exact hq.1 e
    · have := hq.2.2
      omega
theorem exec_build2 {P : Program} {o : Oper} {a : Act} {w : World} (ty : TypeId) (x y : Operand) (ho : o.op = .build ty #[(0, x), (1, y)]) (vx vy : Value) (hx : a.eval x = vx) (hy : a.eval y = vy) (C : Array Value)
    (hb : P.built ty [(0, vx), (1, vy)] = some C) : (execOp a.eval o).run P w = .ok (.value (.agg C)) w := by
  have e : P.built ty ((#[(0, x), (1, y)] : Array (Nat × Operand)).map fun (i, x) => (i, a.eval x)).toList = some C := by
    rw [← hb]
    simp only [List.map_toArray, List.map_cons, List.map_nil, hx, hy]
  unfold execOp
  simp only [ho, Sem.run_bind, run_build w ty _ C e, Result.andThen_ok, Sem.run_pure]
theorem builtF (i p n : Nat) (k : Int) (nm : List Int) (h : nm.length = 32) (a : Option Addr) (l c : Nat) : Tryz.prog.built 58 [(0, .agg #[.int .i64 (i : Int), .int .i64 (p : Int), .int .i64 (n : Int)]), (1, .agg (recA k nm (.slice a l c)).toArray)] = some (.int .i64 (i : Int) :: .int .i64 (p : Int) :: .int .i64 (n : Int) :: recA k nm (.slice a l c)).toArray := by
  obtain ⟨x0, x1, x2, x3, x4, x5, x6, x7, x8, x9, x10, x11, x12, x13, x14, x15, x16, x17, x18, x19, x20, x21, x22, x23, x24, x25, x26, x27, x28, x29, x30, x31, rfl⟩ := ex32 h
  kernel_rfl

set_option maxHeartbeats 4000000 in
set_option maxRecDepth 100000 in
theorem tells_recs (n b p q h : Nat) (ids : List Nat) (ai : Option Addr) (ci : Nat) (F : Nat → Nat) (S : Nat → List Item × Nat × Int) (T : World → Prop) (O0 : Nat → Prop)
    (hT1 : ∀ W, T W → W.cell? ⟨p, 0, none⟩ = some (.slice ai ids.length ci) ∧ W.cell? ⟨q, 0, none⟩ = some (.func (.func 16) #[.pointer (some ⟨h, 0, none⟩)] #[]))
    (hT4 : ∀ W, T W → ∀ (i id : Nat), ids[i]? = some id → ∃ g o, ai = some ⟨g, o, none⟩ ∧ W.cell? ⟨g, o + i, none⟩ = some (.int .i64 (id : Int)))
    (hT2 : ∀ U W, T U → Kept b U W → TabX W b → T W) (hT3 : ∀ U W, T U → Below U.heap.size U W → T W)
    (hL : ∀ (W : World) (id : Nat), T W → id ∈ ids → Calls Tryz.prog 16 #[.pointer (some ⟨h, 0, none⟩), .int .i64 (id : Int)] W fun e W' => Loaded W W' b e (F id) (S id)) (hn : ids.length ≤ 1000) (hsl : ∀ id ∈ ids, (S id).1.length ≤ 20000000) :
    TellsO n 59 #[.pointer (some ⟨p, 0, none⟩), .pointer (some ⟨q, 0, none⟩)] b T (Vr b (allI F S ids)) (allI F S ids).length O0 := by
  intro l J Jx W hT hJ hY h0 hO
  obtain ⟨hp, hq⟩ := hT1 W hT
  have HT := hid hT
  have HJ := hid hJ
  have HY := hid hY
  have H0 := hid h0
  have HO := hid hO
  have HT1 := hid hT1
  have HT2 := hid hT2
  have HT3 := hid hT3
  have HT4 := hid hT4
  have HL := hid hL
  have HSL0 := hid hsl
  clear hsl
  clear hT hJ hY h0 hT1 hT2 hT3 hT4 hL hO hq
  refine callsIn_of_wp Tryz.func59 rfl trivial ?_ rfl
  simp only [Tryz.ntmps59, List.size_toArray, List.length_cons, List.length_nil, Nat.reduceAdd, Nat.reduceSub, Array.replicate_succ, Array.replicate_zero, List.push_toArray, List.append_toArray, List.nil_append, List.cons_append]
  gi_wp2_with fail
  clear hp
  gi_loopw [12] (fun i wr => ∃ (j : Nat) (O : Nat → Prop), j ≤ ids.length ∧ i = .int .i64 (j : Int) ∧ Hid (J (allI F S (ids.take j)).length O wr) ∧ Hid (T wr) ∧ Hid (∀ x, O x → x < wr.heap.size)) (fun i _ => ids.length - (intOf i).toNat)
  case atStart => exact ⟨0, O0, Nat.zero_le _, rfl, H0.out, HT, HO⟩
  case round =>
    obtain ⟨j, O, hj, rfl, HJk, HTk, HOk⟩ := hrel
    by_cases hlt : j < ids.length
    · obtain ⟨id, hid'⟩ : ∃ id, ids[j]? = some id := ⟨_, List.getElem?_eq_getElem hlt⟩
      obtain ⟨g, o, rfl, hcid⟩ := HT4.out wr HTk.out j id hid'
      obtain ⟨_, hq⟩ := HT1.out wr HTk.out
      have HID := hid hid'
      have hji : (j : Int) < (ids.length : Int) := by omega
      clear hid'
      gi_wp2_with fail
      refine ⟨trivial, wide_d, (callsIn_wide.2 (HL.out wr id HTk.out (List.mem_of_getElem? HID.out))).mono ?_⟩
      rintro e W2 ⟨hld, hkb, htb⟩
      have HT2' := hid (HT2.out wr W2 HTk.out hkb htb)
      have HJ2 := hid (HJ.out _ O wr W2 HJk.out HT2'.out hkb)
      have hs2 := hkb.size
      have HO2 : Hid (∀ x, O x → x < W2.heap.size) := fun x hx => Nat.lt_of_lt_of_le (HOk.out x hx) hs2
      have HTAKE := hid (allI_take F S ids j id HID.out)
      have HAT := hid (fun i y => allI_at F S ids j id i y HID.out)
      obtain ⟨Fi, hFi⟩ : ∃ f, F id = f := ⟨_, rfl⟩
      obtain ⟨Si, hSi⟩ : ∃ f, S id = f := ⟨_, rfl⟩
      have HSL : Hid ((S id).1.length ≤ 20000000) := HSL0.out id (List.mem_of_getElem? HID.out)
      rw [hFi, hSi] at hld HTAKE HAT
      rw [hSi] at HSL
      clear hFi hSi hcid hq
      by_cases hbad : Fi ≠ 0 ∨ Si.2.2 ≠ 0 ∨ Si.1 = []
      · have hbad' : ∃ f : Nat, f ≠ 0 ∧ e = .returned (.tuple #[.slice none 0 0, .int .i64 (f : Int)]) ∧ packI id Fi Si = [(id, f, noIt)] := by
          rcases hld with ⟨h1, h2⟩ | ⟨h1, h2, h3⟩ | ⟨h1, h2, h3, _⟩
          · exact ⟨Fi, h1, h2, by rw [packI, if_pos h1]⟩
          · exact ⟨4, by omega, h3, by rw [packI, if_neg (by omega), if_pos h2]⟩
          · rcases hbad with e | e | e
            · exact absurd h1 e
            · exact absurd h2 e
            · exact absurd e h3
        obtain ⟨f, hf0, rfl, hpk⟩ := hbad'
        rw [hpk] at HTAKE HAT
        have hf0I : ¬ ((f : Int) = 0) := by omega
        have HVS : Hid (Vr b (allI F S ids) (allI F S (ids.take j)).length O #[.agg (fC id noIt (.slice none 0 0)).toArray, .int .i64 (f : Int)] W2) := ⟨(id, f, noIt), none, 0, by have h := HAT.out 0 _ rfl; simpa using h, rfl, BySlS.none _ _, rfl, fun y hy => by have := List.eq_of_mem_replicate (show y ∈ List.replicate 32 (0 : Int) from hy); omega⟩
        have hkN : (allI F S (ids.take j)).length < (allI F S ids).length := (List.getElem?_eq_some_iff.1 (HAT.out 0 _ rfl)).1
        obtain ⟨fn, tmps, assign, body, hy, hR⟩ := HY.out _ O W2 _ hkN HO2.out HJ2.out HT2'.out HVS.out
        have HR := hid hR
        simp [fC, noIt, recA, u8s, List.replicate] at hy
        have HKN : Hid ((allI F S (ids.take j)).length + 1 ≤ (allI F S ids).length) := hkN
        clear hR hld hbad hf0 hpk hkN HVS HJk HTk HAT
        gi_wp2_with fail
        refine ⟨wide_d, HR.out.mono ?_⟩
        rintro e W3 (⟨rfl, O', hJ3, hT3, hO3, _⟩ | ⟨rfl, hJx3⟩)
        · have HN : Hid ((allI F S (ids.take j)).length + 1 = (allI F S (ids.take (j + 1))).length) := by rw [Hid, HTAKE.out, List.length_append]; rfl
          have HJ3 : Hid (J (allI F S (ids.take (j + 1))).length O' W3) := by rw [Hid, ← HN.out]; exact hJ3
          have HT3' := hid hT3
          have HO3 : Hid (∀ x, O' x → x < W3.heap.size) := fun x hx => (hO3 x hx).2
          clear hJ3 hT3 hO3 HR
          gi_wp2_with fail
          gi_loopw [35] (fun i wr => i = .int .i64 0 ∧ wr = W3) (fun _ _ => 0)
          case atStart => exact ⟨rfl, rfl⟩
          case round =>
            obtain ⟨rfl, rfl⟩ := hrel
            gi_wp2
            go_roundw
            case rel => exact ⟨j + 1, O', by omega, by go_num, HJ3.out, HT3'.out, HO3.out⟩
            case measure => simp [intOf]; omega
        · have HJx := hid hJx3
          clear hJx3
          gi_wp2
          refine bodyPost_ret (results_none rfl _ _ _) rfl ?_
          exact ⟨⟨_, rfl⟩, .inr ⟨_, HKN.out, HJx.out⟩⟩
      · obtain ⟨hFz, hSz, hSn⟩ : Fi = 0 ∧ Si.2.2 = 0 ∧ Si.1 ≠ [] := ⟨Classical.byContradiction fun e => hbad (.inl e), Classical.byContradiction fun e => hbad (.inr (.inl e)), fun e => hbad (.inr (.inr e))⟩
        obtain ⟨a, c, rfl, hrow⟩ : ∃ a c, e = .returned (.tuple #[.slice a Si.1.length c, .int .i64 0]) ∧ PRow 60 wr.heap.size b W2 (.slice a Si.1.length c) Si.1 := by
          rcases hld with ⟨h1, _⟩ | ⟨_, h1, _⟩ | ⟨_, _, _, a, c, h1, h2⟩
          · exact absurd hFz h1
          · rcases h1 with h1 | h1
            · exact absurd hSz h1
            · exact absurd h1 hSn
          · exact ⟨a, c, h1, h2⟩
        have hpk : packI id Fi Si = Si.1.map fun x => (id, 0, x) := by rw [packI, if_neg (by omega), if_neg (by intro e; rcases e with e | e; exact e hSz; exact hSn e)]
        rw [hpk] at HTAKE HAT
        have HRW : Hid (RowO b O W2 a Si.1) := RowO.of hrow HOk.out
        obtain ⟨L, hL⟩ : ∃ L, Si.1 = L := ⟨_, rfl⟩
        rw [hL] at HRW HTAKE HAT HSL ⊢
        have HLL := hid HSL.out
        clear hrow hld hbad hFz hSz hSn hpk hL HJk HTk
        gi_wp2_with fail
        refine ⟨(fun _ h => by cases h), ?_⟩
        gi_wp2_with fail
        gi_loopw [35] (fun i wr => ∃ (m : Nat) (O2 : Nat → Prop), m ≤ L.length ∧ i = .int .i64 (m : Int) ∧ Hid (J ((allI F S (ids.take j)).length + m) O2 wr) ∧ Hid (T wr) ∧ Hid (∀ x, O2 x → x < wr.heap.size) ∧ Hid (RowO b O2 wr a L)) (fun i _ => L.length - (intOf i).toNat)
        case atStart => exact ⟨0, O, Nat.zero_le _, rfl, HJ2.out, HT2'.out, HO2.out, HRW.out⟩
        case round =>
          obtain ⟨m, O2, hm, rfl, HJm, HTm, HOm, HRm⟩ := hrel
          by_cases hml : m < L.length
          · obtain ⟨x, hx⟩ : ∃ x, L[m]? = some x := ⟨_, List.getElem?_eq_getElem hml⟩
            obtain ⟨gr, ar, cr, rfl, hgl, hgo, hnx, hrg, hby⟩ := HRm.out m x hx
            have hml2 := HLL.out
            have hmi : (m : Int) < (L.length : Int) := by omega
            have hz0 := zero62
            obtain ⟨Zp, hZp⟩ : ∃ Zp, zPl = Zp := ⟨_, rfl⟩
            have HZL : Hid (Zp.length = 36) := by rw [← hZp]; rfl
            rw [hZp] at hz0
            have HBF := hid (builtF id x.1 x.2.2.2 x.2.2.1.1 x.2.2.1.2.1 hnx.1 ar x.2.2.1.2.2.length cr)
            obtain ⟨R34, hR34⟩ : ∃ R, recA x.2.2.1.1 x.2.2.1.2.1 (.slice ar x.2.2.1.2.2.length cr) = R := ⟨_, rfl⟩
            have hRL : R34.length = 34 := by rw [← hR34]; exact recA_length _ _ _ hnx.1
            have hC36 : plI x (.slice ar x.2.2.1.2.2.length cr) = .int .i64 (x.1 : Int) :: .int .i64 (x.2.2.2 : Int) :: R34 := by rw [← hR34]; rfl
            have hone := plI_one x ar x.2.2.1.2.2.length cr
            obtain ⟨C36, hC⟩ : ∃ C, plI x (.slice ar x.2.2.1.2.2.length cr) = C := ⟨_, rfl⟩
            rw [hC] at hrg hC36 hone
            have hCL : C36.length = 36 := by rw [hC36]; simp [hRL]
            have HRG := hid hrg
            have HI36 : Hid ((Tryz.prog.info? 60).map (·.size) = some C36.length) := by rw [hCL]; exact Tryz.info62
            have HIA : Hid ((Tryz.prog.info? 60).map (·.size) = some C36.toArray.size) := HI36.out
            have HI34 : Hid ((Tryz.prog.info? 56).map (·.size) = some R34.length) := by rw [hRL]; exact Tryz.info35
            have H1 : Hid (C36.toArray.all (·.oneCell') = true) := all_oneCell_toArray hone
            have HT9 : Hid (World.there (wr.alloc (.cells Zp.toArray 60)) wr.heap.size 0 C36.toArray.size) := by
              have h := there_new wr Zp 60
              rw [HZL.out] at h
              show World.there _ _ _ C36.length
              rw [hCL]
              exact h
            obtain ⟨W9, hW9⟩ : ∃ W9, (wr.alloc (.cells Zp.toArray 60)).setCells wr.heap.size 0 C36 = W9 := ⟨_, rfl⟩
            have hb9 : Below wr.heap.size wr W9 := by rw [← hW9]; exact ((Below.refl _ _).alloc (Nat.le_refl _) _).trans (setCells_below (Nat.le_refl _) _ _ _)
            have hr9 : W9.rangeAt wr.heap.size 0 C36 := by rw [← hW9]; exact World.rangeAt_setCells_same _ _ _ _ HT9.out
            have c90 : W9.cell? ⟨wr.heap.size, 0, none⟩ = some (.int .i64 (x.1 : Int)) := by have h := hr9 0 (.int .i64 (x.1 : Int)) (by rw [hC36]; rfl); simpa using h
            have c91 : W9.cell? ⟨wr.heap.size, 1, none⟩ = some (.int .i64 (x.2.2.2 : Int)) := by have h := hr9 1 (.int .i64 (x.2.2.2 : Int)) (by rw [hC36]; rfl); simpa using h
            have HR9 : Hid (W9.rangeAt wr.heap.size 2 R34) := fun r v hv => by
              have h := hr9 (2 + r) v (by rw [hC36, Nat.add_comm]; exact hv)
              rwa [Nat.zero_add] at h
            have HT9' : Hid (T W9) := HT3.out _ _ HTm.out hb9
            have HJ9 : Hid (J ((allI F S (ids.take j)).length + m) O2 W9) := HJ.out _ O2 wr W9 HJm.out HT9'.out (Kept.below hb9)
            have hst9 : StayO O2 wr W9 := .of_below hb9
            have HRow9 : Hid (RowO b O2 W9 (some ⟨gr, 0, none⟩) L) := HRm.out.stay hst9 (fun _ h => .inl h)
            have hs9 := hb9.size
            have HO9 : Hid (∀ y, O2 y → y < W9.heap.size) := fun y hy => Nat.lt_of_lt_of_le (HOm.out y hy) hs9
            have hAt := HAT.out m (id, 0, x) (by rw [List.getElem?_map, hx]; rfl)
            have HVS : Hid (Vr b (allI F S ids) ((allI F S (ids.take j)).length + m) O2 #[.agg (fC id x (.slice ar x.2.2.1.2.2.length cr)).toArray, .int .i64 ((0 : Nat) : Int)] W9) := ⟨(id, 0, x), ar, cr, hAt, rfl, hst9.bytes hby (fun q hq => ⟨hq.1, hq.1, hq.2.1, Nat.lt_of_lt_of_le hq.2.2 hs9⟩), hnx⟩
            have hkN := (List.getElem?_eq_some_iff.1 hAt).1
            have HKN : Hid ((allI F S (ids.take j)).length + m + 1 ≤ (allI F S ids).length) := hkN
            obtain ⟨fn, tmps, assign, body, hy, hR⟩ := HY.out _ O2 W9 _ hkN HO9.out HJ9.out HT9'.out HVS.out
            have HR := hid hR
            have HS9 := hid hs9
            have hfC : fC id x (.slice ar x.2.2.1.2.2.length cr) = .int .i64 (id : Int) :: .int .i64 (x.1 : Int) :: .int .i64 (x.2.2.2 : Int) :: R34 := by rw [← hR34]; rfl
            obtain ⟨CF, hCF⟩ : ∃ CF, (.int .i64 (id : Int) :: .int .i64 (x.1 : Int) :: .int .i64 (x.2.2.2 : Int) :: R34 : List Value) = CF := ⟨_, rfl⟩
            rw [hR34, hCF] at HBF
            rw [hfC, hCF, show ((0 : Nat) : Int) = 0 from rfl] at hy
            clear hR HVS hkN hAt hfC hCF hC36 hC hR34 hone hrg hby hnx hgo hr9 hst9 hs9 hb9 hZp hx hRL hCL
            gi_wp2_with (first
              | (refine wpListIn_val (by rfl) (fun _ h => by cases h) (fun _ => trivial) (exec_load 60 _ (by rfl) gr (m * 36) (by rfl) C36 _ HRG.out Tryz.underlying60 rfl HI36.out) ?_)
              | (refine wpListIn_skip (by rfl) (fun _ h => by cases h) (fun _ => trivial) (exec_store 60 _ _ (by rfl) wr.heap.size 0 C36.toArray (by rfl) (by rfl) HT9.out HIA.out H1.out) ?_)
              | (refine wpListIn_val (by rfl) (fun _ h => by cases h) (fun _ => trivial) (exec_load 56 _ (by rfl) wr.heap.size 2 (by rfl) R34 _ HR9.out Tryz.underlying56 rfl HI34.out) ?_)
              | (refine wpListIn_val (by rfl) (fun _ h => by cases h) (fun _ => trivial) (exec_build2 58 _ _ (by rfl) _ _ (by rfl) (by rfl) CF.toArray HBF.out) ?_))
            refine ⟨wide_d, HR.out.mono ?_⟩
            rintro e W3 (⟨rfl, O', hJ3, hT3, hO3, hst⟩ | ⟨rfl, hJx3⟩)
            · have HJ3 := hid hJ3
              have HT3' := hid hT3
              have HO3 : Hid (∀ y, O' y → y < W3.heap.size) := fun y hy => (hO3 y hy).2
              have HR3 : Hid (RowO b O' W3 (some ⟨gr, 0, none⟩) L) := HRow9.out.stay hst (fun y hy => (hO3 y hy).1)
              clear hJ3 hT3 hO3 hst HR
              gi_wp2_with fail
              go_roundw
              case rel => exact ⟨m + 1, O', by omega, by go_num, HJ3.out, HT3'.out, HO3.out, HR3.out⟩
              case measure => simp [intOf]; omega
            · have HJx := hid hJx3
              clear hJx3
              gi_wp2
              refine bodyPost_ret (results_none rfl _ _ _) rfl ?_
              exact ⟨⟨_, rfl⟩, .inr ⟨_, HKN.out, HJx.out⟩⟩
          · have hmL : m = L.length := by omega
            subst hmL
            have HN : Hid ((allI F S (ids.take j)).length + L.length = (allI F S (ids.take (j + 1))).length) := by rw [Hid, HTAKE.out, List.length_append, List.length_map]
            have HJN : Hid (J (allI F S (ids.take (j + 1))).length O2 wr) := by rw [Hid, ← HN.out]; exact HJm.out
            clear HJm
            gi_wp2
            go_roundw
            case rel => exact ⟨j + 1, O2, by omega, by go_num, HJN.out, HTm.out, HOm.out⟩
            case measure => simp [intOf]; omega
    · have HLL : Hid (ids.take j = ids) := List.take_of_length_le (by omega)
      gi_wp2
      go_end0
      exact ⟨⟨_, rfl⟩, .inl ⟨O, by rw [← HLL.out]; exact HJk.out, HTk.out⟩⟩

end Go.Proofs.YtaaioaocjfpajaaGreatDoor.Sh
end
