/- Of the proof: the texts IxCrashM, SgRSortM, SgLess, SgRRight, one behind the other. -/
import Derived.Test.YthmimipoooemjaaGreatDoorAbb
import Derived.Test.YthmimipoooemjaaGreatDoorB15
import Derived.Test.YthmimipoooemjaaGreatDoorB12
import Derived.Test.YthmimipoooemjaaGreatDoorB7
import Derived.BigQuiet
import Derived.Test.YthmimipoooemjaaGreatDoorB11
import Derived.Deep.DeepCutAuto
section
/-
  A save that is broken off: the name leads to the old bytes, or to the new ones.
-/
namespace Go.Proofs.YthmimipoooemjaaGreatDoor.Ix
open Sim

/-- Whatever of the changes survives, the list's name leads to a file that is safe as a whole: these bytes, or those. -/
def Lead (A B : List Nat) (q : PS) : Prop :=
  ∀ k, ∃ f bs, dfind ((q.chg.take k).foldl pdo q.safe) nI = some f ∧ q.files f = some ⟨bs, bs.length⟩ ∧ (bs = A ∨ bs = B)

theorem lead_up {A B : List Nat} {q : PS} (h : Lead A B q) (k : Int) (cuts : List Int) : finds (pUp k cuts q) nI = 0 ∧ (pBytes nI (pUp k cuts q) = A ∨ pBytes nI (pUp k cuts q) = B) := by
  obtain ⟨f, bs, h1, h2, h3⟩ := h (min (max k 0).toNat q.chg.length)
  obtain ⟨S, hS⟩ : ∃ S, Sim.settle (min (max k 0).toNat q.chg.length) q = S := ⟨_, rfl⟩
  have hs : S.safe = (q.chg.take (min (max k 0).toNat q.chg.length)).foldl pdo q.safe := by rw [← hS]; rfl
  have hf : S.files f = some ⟨bs, bs.length⟩ := by rw [← hS]; exact h2
  obtain ⟨l1, l2⟩ := loses_keep S.safe 0 cuts S hf
  have e : pUp k cuts q = { loses S.safe 0 cuts S with seen := (loses S.safe 0 cuts S).safe, down := false, armed := false, left := 0 } := by rw [pUp, hS]
  have hd : dfind (pUp k cuts q).seen nI = some f := by
    rw [e]
    show dfind (loses S.safe 0 cuts S).safe nI = some f
    rw [l2, hs]
    exact h1
  have hdn : (pUp k cuts q).down = false := by rw [e]
  have hfs : finds (pUp k cuts q) nI = 0 := by rw [finds_of hdn nI_ok, hd]; rfl
  have hb : pBytes nI (pUp k cuts q) = bs := by
    rw [pBytes, if_neg (by rw [hfs]; simp), blockOf, hd]
    show (fileAt (pUp k cuts q) f).b = bs
    have : (pUp k cuts q).files f = some ⟨bs, bs.length⟩ := by rw [e]; exact l1
    rw [fileAt, this]
    rfl
  exact ⟨hfs, by rw [hb]; exact h3⟩

def c0 (y : Nat) : PC := ⟨0, nT, [], y⟩
def c2 : PC := ⟨2, nT, nI, 0⟩

/-- Behind j steps of a save over a list that is there, at x; the new one is at y. -/
structure Mid (A B : List Nat) (x y : Nat) (j : Nat) (q : PS) : Prop where
  down : q.down = false
  room : q.room = 99000
  safe : j ≤ 5 → q.safe = [(nI, x)]
  chg : q.chg = if j ≤ 1 then [] else if j ≤ 4 then [c0 y] else if j = 5 then [c0 y, c2] else []
  seen : q.seen = q.chg.foldl pdo q.safe
  fx : q.files x = some ⟨A, A.length⟩
  xy : 2 ≤ j → x ≠ y
  f2 : j = 2 → q.files y = some ⟨[], 0⟩
  f3 : j = 3 → q.files y = some ⟨B, 0⟩
  f4 : 4 ≤ j → q.files y = some ⟨B, B.length⟩
  safe6 : j = 6 → q.safe = [(nI, y)]

theorem nTI : nT ≠ nI := by decide
theorem dir1 (x y : Nat) : dfind (pdo [(nI, x)] (c0 y)) nI = some x := by
  show dfind (dput [(nI, x)] nT y) nI = some x
  rw [dfind_dput_ne nTI]
  rfl
theorem dir1T (x y : Nat) : dfind (pdo [(nI, x)] (c0 y)) nT = some y := by
  show dfind (dput [(nI, x)] nT y) nT = some y
  exact dfind_dput_self _ _ _
theorem dir2 (x y : Nat) : pdo (pdo [(nI, x)] (c0 y)) c2 = [(nI, y)] := by
  have h : (dfind (pdo [(nI, x)] (c0 y)) nT).getD 0 = y := by rw [dir1T]; rfl
  show dput (ddel (pdo [(nI, x)] (c0 y)) nT) nI ((dfind (pdo [(nI, x)] (c0 y)) nT).getD 0) = _
  rw [h]
  show dput (ddel (dput [(nI, x)] nT y) nT) nI y = _
  have e : ddel (dput [(nI, x)] nT y) nT = [(nI, x)] := by
    have e1 : dput [(nI, x)] nT y = [(nI, x), (nT, y)] := by
      simp [dput, ddel, dins, show (nI == nT) = false by decide, show bytesBefore nT nI = false by decide]
    rw [e1]
    simp [ddel, show (nI == nT) = false by decide]
  rw [e]
  simp [dput, ddel, dins]

theorem Mid.lead {A B : List Nat} {x y j : Nat} {q : PS} (h : Mid A B x y j q) (hj : j ≤ 6) : Lead A B q := by
  intro k
  have hj' : j ≤ 1 ∨ (2 ≤ j ∧ j ≤ 4) ∨ j = 5 ∨ j = 6 := by omega
  rcases hj' with hj1 | ⟨hj1, hj2⟩ | rfl | rfl
  · rw [h.chg, if_pos hj1, h.safe (by omega)]
    exact ⟨x, A, by simp [dfind], h.fx, .inl rfl⟩
  · rw [h.chg, if_neg (by omega), if_pos hj2, h.safe (by omega)]
    refine ⟨x, A, ?_, h.fx, .inl rfl⟩
    cases k with
    | zero => simp [dfind]
    | succ k => simpa using dir1 x y
  · rw [h.chg, if_neg (by omega), if_neg (by omega), if_pos rfl, h.safe (by omega)]
    match k with
    | 0 => exact ⟨x, A, by simp [dfind], h.fx, .inl rfl⟩
    | 1 => exact ⟨x, A, by simpa using dir1 x y, h.fx, .inl rfl⟩
    | k + 2 =>
      refine ⟨y, B, ?_, h.f4 (by omega), .inr rfl⟩
      simp only [List.take_succ_cons, List.foldl_cons, List.take_nil, List.foldl_nil]
      rw [dir2]
      simp [dfind]
  · rw [h.chg, if_neg (by omega), if_neg (by omega), if_neg (by omega), h.safe6 rfl]
    exact ⟨y, B, by simp [dfind], h.f4 (by omega), .inr rfl⟩
theorem Mid.lead6 {A B : List Nat} {x y : Nat} {q : PS} (h : Mid A B x y 6 q) : Lead B B q := by
  intro k
  rw [h.chg, if_neg (by omega), if_neg (by omega), if_neg (by omega), h.safe6 rfl]
  exact ⟨y, B, by simp [dfind], h.f4 (by omega), .inr rfl⟩
theorem Lead.fall {A B : List Nat} {q : PS} (h : Lead A B q) : Lead A B (fall q) := h

/-- What a step answers: it goes down, or on. -/
def Goes (A B : List Nat) (x y j : Nat) (q : PS) (r : Nat × PS) : Prop := (r.1 = 12 ∧ r.2 = fall q) ∨ (r.1 = 0 ∧ Mid A B x y j r.2)

theorem stp_goes {A B : List Nat} {x y j : Nat} {q : PS} {g : PS → PS} (h : Mid A B x y j (g (tick q))) : Goes A B x y j q (stp q g) := by
  rw [stp]
  split
  · exact .inl ⟨rfl, rfl⟩
  · exact .inr ⟨rfl, h⟩

theorem mid1_temp {A B : List Nat} {x y : Nat} {q : PS} (h : Mid A B x y 1 q) : q.seen = [(nI, x)] ∧ dfind q.seen nT = none := by
  have e : q.seen = [(nI, x)] := by
    have hs := h.seen
    rw [h.chg, if_pos (by omega), h.safe (by omega)] at hs
    exact hs
  exact ⟨e, by rw [e]; rfl⟩
theorem go0 {A B : List Nat} {x y : Nat} {p : PS} {r : Nat × PS} (h : Mid A B x y 1 p) (hs : Stp B 0 p r) : r = (0, p) := by
  have hf : finds p nT = 5 := by rw [finds_of h.down nT_ok, (mid1_temp h).2]; rfl
  have hr : pRemove nT p = (5, p) := by rw [pRemove, if_pos (by rw [hf]; omega), hf]
  have hs' : r = pRm p := hs
  rw [hs', pRm, hr]
  rfl

theorem go1 {A B : List Nat} {x y0 : Nat} {p : PS} {r : Nat × PS} (h : Mid A B x y0 1 p) (hs : Stp B 1 p r) : ∃ y, Goes A B x y 2 p r := by
  obtain ⟨y, hy, he⟩ := hs
  have hxy : x ≠ y := fun e => by rw [← e, h.fx] at hy; cases hy
  refine ⟨y, ?_⟩
  rw [pCreate, if_neg (by rw [wrongs_zero h.down (by simp [nT_ok])]; simp), (mid1_temp h).2, if_neg (by simp)] at he
  rw [he]
  refine stp_goes ⟨h.down, h.room, fun _ => h.safe (by omega), ?_, ?_, ?_, fun _ => hxy, fun _ => by simp [chgd, setF], by omega, by omega, by omega⟩
  · show p.chg ++ [c0 y] = _
    rw [h.chg]
    rfl
  · show pdo p.seen (c0 y) = (p.chg ++ [c0 y]).foldl pdo p.safe
    rw [List.foldl_append, ← h.seen]
    rfl
  · show (if x = y then _ else p.files x) = _
    rw [if_neg hxy]
    exact h.fx

theorem mid_temp {A B : List Nat} {x y j : Nat} {q : PS} (h : Mid A B x y j q) (h2 : 2 ≤ j) (h4 : j ≤ 4) : q.seen = pdo [(nI, x)] (c0 y) ∧ dfind q.seen nT = some y ∧ finds q nT = 0 ∧ blockOf q nT = y := by
  have e : q.seen = pdo [(nI, x)] (c0 y) := by
    have hs := h.seen
    rw [h.chg, if_neg (by omega), if_pos h4, h.safe (by omega)] at hs
    exact hs
  have e2 : dfind q.seen nT = some y := by rw [e]; exact dir1T x y
  exact ⟨e, e2, by rw [finds_of h.down nT_ok, e2]; rfl, by rw [blockOf, e2]; rfl⟩

theorem mid2_used {A B : List Nat} {x y : Nat} {q : PS} (h : Mid A B x y 2 q) : used q = A.length := by
  have e := (mid_temp h (by omega) (by omega)).1
  have e1 : pdo [(nI, x)] (c0 y) = [(nI, x), (nT, y)] := by
    show dput [(nI, x)] nT y = _
    simp [dput, ddel, dins, show (nI == nT) = false by decide, show bytesBefore nT nI = false by decide]
  rw [used, e, e1]
  simp [fileAt, h.fx, h.f2 rfl]

theorem set_mid {A B : List Nat} {x y j : Nat} {q : PS} {f : Fl} (h : Mid A B x y j q) (h2 : 2 ≤ j) (h4 : j ≤ 3) (hf : j = 2 → f = ⟨B, 0⟩) (hf3 : j = 3 → f = ⟨B, B.length⟩) : Mid A B x y (j + 1) (setF y f (tick q)) := by
  refine ⟨h.down, h.room, fun _ => h.safe (by omega), ?_, h.seen, ?_, fun _ => h.xy h2, by omega, fun e => ?_, fun e => ?_, by omega⟩
  · show q.chg = _
    rw [h.chg, if_neg (by omega), if_pos (by omega), if_neg (by omega), if_pos (by omega)]
  · show (if x = y then _ else q.files x) = _
    rw [if_neg (h.xy h2)]
    exact h.fx
  · show (if y = y then some f else _) = _
    rw [if_pos rfl, hf (by omega)]
  · show (if y = y then some f else _) = _
    rw [if_pos rfl, hf3 (by omega)]

theorem go2 {A B : List Nat} {x y : Nat} {q : PS} {r : Nat × PS} (h : Mid A B x y 2 q) (hl : A.length + B.length ≤ 99000) (hs : Stp B 2 q r) : Goes A B x y 3 q r := by
  obtain ⟨_, _, h1, h2⟩ := mid_temp h (by omega) (by omega)
  have he : r = pAppend nT B q := hs
  rw [pAppend, if_neg (by rw [h1]; simp), if_neg (by rw [mid2_used h, h.room]; omega), h2] at he
  rw [he]
  refine stp_goes (set_mid h (by omega) (by omega) (fun _ => ?_) (by omega))
  rw [fileAt, h.f2 rfl]
  rfl
theorem go3 {A B : List Nat} {x y : Nat} {q : PS} {r : Nat × PS} (h : Mid A B x y 3 q) (hs : Stp B 3 q r) : Goes A B x y 4 q r := by
  obtain ⟨_, _, h1, h2⟩ := mid_temp h (by omega) (by omega)
  have he : r = pFsync nT q := hs
  rw [pFsync, if_neg (by rw [h1]; simp), h2] at he
  rw [he]
  refine stp_goes (set_mid h (by omega) (by omega) (by omega) (fun _ => ?_))
  rw [fileAt, h.f3 rfl]
  rfl
theorem go4 {A B : List Nat} {x y : Nat} {q : PS} {r : Nat × PS} (h : Mid A B x y 4 q) (hs : Stp B 4 q r) : Goes A B x y 5 q r := by
  obtain ⟨_, h0, _, _⟩ := mid_temp h (by omega) (by omega)
  have he : r = pRename nT nI q := hs
  rw [pRename, if_neg (by rw [wrongs_zero h.down (by simp [nT_ok, nI_ok])]; simp), h0, if_pos (by simp)] at he
  rw [he]
  refine stp_goes ⟨h.down, h.room, fun _ => h.safe (by omega), ?_, ?_, h.fx, fun _ => h.xy (by omega), by omega, by omega, fun _ => h.f4 (by omega), by omega⟩
  · show q.chg ++ [c2] = _
    rw [h.chg]
    rfl
  · show pdo q.seen c2 = (q.chg ++ [c2]).foldl pdo q.safe
    rw [List.foldl_append, ← h.seen]
    rfl
theorem go5 {A B : List Nat} {x y : Nat} {q : PS} {r : Nat × PS} (h : Mid A B x y 5 q) (hs : Stp B 5 q r) : Goes A B x y 6 q r := by
  have he : r = pSyncDir q := hs
  rw [pSyncDir, if_neg (by rw [wrongs_zero h.down (by simp)]; simp)] at he
  rw [he]
  have e : (q.chg.take q.chg.length).foldl pdo q.safe = [(nI, y)] := by
    rw [List.take_length, h.chg, if_neg (by omega), if_neg (by omega), if_pos rfl, h.safe (by omega)]
    exact dir2 x y
  refine stp_goes ⟨h.down, h.room, by omega, rfl, ?_, h.fx, fun _ => h.xy (by omega), by omega, by omega, fun _ => h.f4 (by omega), fun _ => e⟩
  show q.seen = (q.chg.take q.chg.length).foldl pdo q.safe
  rw [List.take_length]
  exact h.seen

/-- A save over a list that is there: done, or down. -/
theorem save_again {A B : List Nat} {x y : Nat} {p : PS} {r : Nat × PS} (h : Mid A B x y 1 p) (hl : A.length + B.length ≤ 99000) (hs : Saved B p r) : (r.1 = 0 ∧ Lead B B r.2) ∨ (r.1 = 12 ∧ Lead A B r.2) := by
  have G : ∀ {q : PS} {x y j' : Nat} {r : Nat × PS}, Lead A B q → r.1 ≠ 0 → Goes A B x y j' q r → r.1 = 12 ∧ Lead A B r.2 := fun {q x y j' r} hm h0 hg => by
    rcases hg with ⟨h1, h2⟩ | ⟨h1, _⟩
    · exact ⟨h1, by rw [h2]; exact hm.fall⟩
    · exact absurd h1 h0
  have N : ∀ {q : PS} {x y j' : Nat} {r : PS}, Goes A B x y j' q (0, r) → Mid A B x y j' r := fun {q x y j' r} hg => by
    rcases hg with ⟨h1, _⟩ | ⟨_, h1⟩
    · cases h1
    · exact h1
  have R1 : ∀ {q}, Reach B p 1 q → q = p := fun {q} ⟨q', h1, h2⟩ => by
    have h1' : q' = p := h1
    subst h1'
    exact (Prod.mk.inj (go0 h h2)).2
  have R2 : ∀ {q}, Reach B p 2 q → ∃ y, Mid A B x y 2 q := fun {q} ⟨q', h1, h2⟩ => by
    rw [R1 h1] at h2
    obtain ⟨y, hg⟩ := go1 h h2
    exact ⟨y, N hg⟩
  have R3 : ∀ {q}, Reach B p 3 q → ∃ y, Mid A B x y 3 q := fun {q} ⟨q', h1, h2⟩ => by
    obtain ⟨y, hm⟩ := R2 h1
    exact ⟨y, N (go2 hm hl h2)⟩
  have R4 : ∀ {q}, Reach B p 4 q → ∃ y, Mid A B x y 4 q := fun {q} ⟨q', h1, h2⟩ => by
    obtain ⟨y, hm⟩ := R3 h1
    exact ⟨y, N (go3 hm h2)⟩
  have R5 : ∀ {q}, Reach B p 5 q → ∃ y, Mid A B x y 5 q := fun {q} ⟨q', h1, h2⟩ => by
    obtain ⟨y, hm⟩ := R4 h1
    exact ⟨y, N (go4 hm h2)⟩
  rcases hs with ⟨h0, q', h1, h2⟩ | ⟨h0, j, hj, q', h1, h2⟩
  · obtain ⟨y, hm⟩ := R5 h1
    exact .inl ⟨h0, (N (go5 hm h2)).lead6⟩
  · right
    have hj' : j = 0 ∨ j = 1 ∨ j = 2 ∨ j = 3 ∨ j = 4 ∨ j = 5 := by omega
    rcases hj' with rfl | rfl | rfl | rfl | rfl | rfl
    · have h1' : q' = p := h1
      subst h1'
      rw [go0 h h2] at h0
      exact absurd rfl h0
    · rw [R1 h1] at h2
      obtain ⟨y, hg⟩ := go1 h h2
      exact G (h.lead (by omega)) h0 hg
    · obtain ⟨y, hm⟩ := R2 h1
      exact G (hm.lead (by omega)) h0 (go2 hm hl h2)
    · obtain ⟨y, hm⟩ := R3 h1
      exact G (hm.lead (by omega)) h0 (go3 hm h2)
    · obtain ⟨y, hm⟩ := R4 h1
      exact G (hm.lead (by omega)) h0 (go4 hm h2)
    · obtain ⟨y, hm⟩ := R5 h1
      exact G (hm.lead (by omega)) h0 (go5 hm h2)

end Go.Proofs.YthmimipoooemjaaGreatDoor.Ix
end

section
/-
  Plain mathematics of the document's Sort: of each name the first, in the names' order.
-/
namespace Go.Proofs.YthmimipoooemjaaGreatDoor.Sg
open Stb (Stab Srt Mrg)
/-- The entries of l as the document sorts them. -/
def Sorted (l out : List Ent) : Prop := Rise out ∧ ∀ k, out.find? (fun x => decide (x.1 = k)) = l.find? (fun x => decide (x.1 = k))
theorem Sorted.nil : Sorted [] [] := ⟨List.Pairwise.nil, fun _ => rfl⟩
/-- Those ahead of k are less than e, the one at k is not. -/
def Place (out : List Ent) (e : Ent) (k : Nat) : Prop := (∀ x ∈ out.take k, lexB x.1 e.1 = true) ∧ ∀ y, out[k]? = some y → lexB y.1 e.1 = false
theorem Sorted.has {l out : List Ent} {e y : Ent} {k : Nat} (h : Sorted l out) (hy : out[k]? = some y) (he : y.1 = e.1) : Sorted (l ++ [e]) out := by
  refine ⟨h.1, fun q => ?_⟩
  rw [List.find?_append, ← h.2 q]
  cases hf : out.find? (fun x => decide (x.1 = q)) with
  | some z => rfl
  | none =>
    have hne : ¬ e.1 = q := fun e1 => by
      have := List.find?_eq_none.1 hf y (List.mem_of_getElem? hy)
      rw [he, e1] at this
      simp at this
    rw [List.find?_cons_of_neg (by simpa using hne)]
    rfl
theorem place_after {out : List Ent} {e : Ent} {k : Nat} (hr : Rise out) (hp : Place out e k) (hn : ∀ y, out[k]? = some y → y.1 ≠ e.1) : ∀ x ∈ out.drop k, lexB e.1 x.1 = true := by
  intro x hx
  obtain ⟨i, hi⟩ := List.mem_iff_getElem?.1 hx
  rw [List.getElem?_drop] at hi
  have hkl : k < out.length := by have := (List.getElem?_eq_some_iff.1 hi).1; omega
  obtain ⟨y, hy⟩ : ∃ y, out[k]? = some y := ⟨_, List.getElem?_eq_getElem hkl⟩
  have h1 : lexB e.1 y.1 = true := by
    rcases lexB_tot e.1 y.1 (fun h => hn y hy h.symm) with h | h
    · exact h
    · rw [hp.2 y hy] at h; cases h
  cases i with
  | zero =>
    rw [Nat.add_zero, hy] at hi
    cases hi
    exact h1
  | succ i =>
    have hlt := (List.getElem?_eq_some_iff.1 hi).1
    have h2 := List.pairwise_iff_getElem.1 hr k (k + (i + 1)) hkl hlt (by omega)
    rw [(List.getElem?_eq_some_iff.1 hy).2, (List.getElem?_eq_some_iff.1 hi).2] at h2
    exact lexB_trans _ _ _ h1 h2
theorem Sorted.ins {l out : List Ent} {e : Ent} {k : Nat} (h : Sorted l out) (hp : Place out e k) (hn : ∀ y, out[k]? = some y → y.1 ≠ e.1) : Sorted (l ++ [e]) (out.take k ++ e :: out.drop k) := by
  have ha := place_after h.1 hp hn
  have hno : ∀ x ∈ out, x.1 ≠ e.1 := fun x hx he => by
    rw [← List.take_append_drop k out] at hx
    rcases List.mem_append.1 hx with h1 | h1
    · have := hp.1 x h1
      rw [he, lexB_irr] at this
      cases this
    · have := ha x h1
      rw [he, lexB_irr] at this
      cases this
  refine ⟨?_, fun q => ?_⟩
  · have hR : Rise (out.take k ++ out.drop k) := by rw [List.take_append_drop]; exact h.1
    obtain ⟨r1, r2, r3⟩ := List.pairwise_append.1 hR
    refine List.pairwise_append.2 ⟨r1, List.pairwise_cons.2 ⟨ha, r2⟩, fun x hx y hy => ?_⟩
    rcases List.mem_cons.1 hy with rfl | hy
    · exact hp.1 x hx
    · exact r3 x hx y hy
  · have e1 : out.find? (fun x => decide (x.1 = q)) = ((out.take k).find? (fun x => decide (x.1 = q))).or ((out.drop k).find? (fun x => decide (x.1 = q))) := by rw [← List.find?_append, List.take_append_drop]
    rw [List.find?_append, List.find?_append, ← h.2 q]
    by_cases hq : e.1 = q
    · rw [List.find?_cons_of_pos (by simpa using hq), List.find?_cons_of_pos (by simpa using hq)]
      have n0 : out.find? (fun x => decide (x.1 = q)) = none := List.find?_eq_none.2 (fun x hx hk => hno x hx (by rw [hq]; simpa using hk))
      have n1 : (out.take k).find? (fun x => decide (x.1 = q)) = none := List.find?_eq_none.2 (fun x hx hk => hno x (List.mem_of_mem_take hx) (by rw [hq]; simpa using hk))
      rw [n0, n1]
    · rw [List.find?_cons_of_neg (by simpa using hq), List.find?_cons_of_neg (by simpa using hq), e1]
      simp
end Go.Proofs.YthmimipoooemjaaGreatDoor.Sg
end

section
/-
  The document's Less of two names.
-/
namespace Go.Proofs.YthmimipoooemjaaGreatDoor.Sg
open Go.RowKit
open Sim (hid Kp No)

theorem lexB_drop (a b : List Int) (i : Nat) (ha : i < a.length) (hb : i < b.length) : lexB (a.drop i) (b.drop i) = if a.getD i 0 = b.getD i 0 then lexB (a.drop (i + 1)) (b.drop (i + 1)) else decide (a.getD i 0 < b.getD i 0) := by
  rw [List.drop_eq_getElem_cons ha, List.drop_eq_getElem_cons hb]
  simp only [lexB, List.getD_eq_getElem?_getD, List.getElem?_eq_getElem ha, List.getElem?_eq_getElem hb, Option.getD_some]
  by_cases h1 : a[i] < b[i]
  · rw [if_pos h1, if_neg (by omega), decide_eq_true h1]
  · rw [if_neg h1]
    by_cases h2 : b[i] < a[i]
    · rw [if_pos h2, if_neg (by omega), decide_eq_false h1]
    · rw [if_neg h2, if_pos (by omega)]

set_option maxHeartbeats 1000000 in
set_option maxRecDepth 100000 in
theorem less_any (a b : List Int) (w : World) (ha : a.length = 32) (hb : b.length = 32) :
    Calls Tryz.prog 73 #[.agg (b8 a).toArray, .agg (b8 b).toArray] w fun e w' => e = .returned (.bool (lexB a b)) ∧ Kp No w w' := by
  have HA := hid ha
  have HB := hid hb
  clear ha hb
  obtain ⟨ca, hca⟩ : ∃ c, b8 a = c := ⟨_, rfl⟩
  obtain ⟨cb, hcb⟩ : ∃ c, b8 b = c := ⟨_, rfl⟩
  have HCA := hid hca
  have HCB := hid hcb
  rw [hca, hcb]
  clear hca hcb
  obtain ⟨z, hz⟩ : ∃ z, lexB a b = z := ⟨_, rfl⟩
  rw [hz]
  have HZ := hid hz
  clear hz
  go_enter Tryz.func73, Tryz.ntmps73
  go_wp2_with fail
  obtain ⟨W1, hW1⟩ : ∃ W1, (w.alloc (.cells ca.toArray 53)).alloc (.cells cb.toArray 53) = W1 := ⟨_, rfl⟩
  have hs : W1.heap.size = w.heap.size + 2 := by rw [← hW1]; simp
  have HS := hid hs
  have HK : Hid (Kp No w W1) := by rw [← hW1]; exact ((Kp.refl No w).alloc _).alloc _
  have HC : Hid (∀ V, Kp No W1 V → ∀ i, i < 32 → V.cell? ⟨w.heap.size, i, none⟩ = some (.int .u8 (a.getD i 0)) ∧ V.cell? ⟨w.heap.size + 1, i, none⟩ = some (.int .u8 (b.getD i 0))) := fun V hV i hi => by
    have e1 : ca[i]? = some (.int .u8 (a.getD i 0)) := by rw [← HCA.out]; simp [b8, List.getElem?_eq_getElem (show i < a.length by rw [HA.out]; exact hi)]
    have e2 : cb[i]? = some (.int .u8 (b.getD i 0)) := by rw [← HCB.out]; simp [b8, List.getElem?_eq_getElem (show i < b.length by rw [HB.out]; exact hi)]
    refine ⟨(hV.cell (p := ⟨w.heap.size, i, none⟩) (by simp; omega) (fun x => x)).trans ?_, (hV.cell (p := ⟨w.heap.size + 1, i, none⟩) (by simp; omega) (fun x => x)).trans ?_⟩
    · rw [← hW1, World.cell?_alloc_lt _ _ _ (by simp), World.cell?_alloc_at _ _ _ _ rfl]
      simpa using e1
    · rw [← hW1, World.cell?_alloc_at _ _ _ _ (by simp)]
      simpa using e2
  rw [hW1]
  clear hW1 hs
  go_loopw [5] (fun x wr => ∃ i : Nat, x = .int .i64 i ∧ i ≤ 32 ∧ Hid (z = lexB (a.drop i) (b.drop i)) ∧ Hid (Kp No W1 wr)) (fun x _ => 32 - (intOf x).toNat)
  case atStart => exact ⟨0, rfl, by omega, HZ.out.symm, Kp.refl _ _⟩
  case round =>
    obtain ⟨i, rfl, hi, HI, HR⟩ := hrel
    by_cases hlt : i < 32
    · obtain ⟨c1, c2⟩ := HC.out wr HR.out i hlt
      have HL := hid (lexB_drop a b i (by rw [HA.out]; exact hlt) (by rw [HB.out]; exact hlt))
      generalize a.getD i 0 = x at *
      generalize b.getD i 0 = y at *
      have hltI : (i : Int) < 32 := by omega
      have h0I : (0 : Int) ≤ (i : Int) := by omega
      have hwk : IntKind.i64.wrap ((i : Int) + 1) = ((i + 1 : Nat) : Int) := by rw [IntKind.wrap_i64]; omega
      by_cases hxy : x = y
      · subst hxy
        go_wp2_with fail
        go_quiet (fail)
        go_wp2_with fail
        go_round
        case rel => exact ⟨i + 1, by first | rfl | go_num, by omega, by rw [Hid, HI.out, HL.out, if_pos trivial], HR.out.drewN _⟩
        case measure => simp [intOf]; omega
      · have hne : (x == y) = false := by simpa using hxy
        have hne2 : (x != y) = true := by simpa using hxy
        have HQ : Hid (z = decide (x < y)) := by rw [Hid, HI.out, HL.out, if_neg hxy]
        have HE := hid hxy
        clear hxy
        go_wp2_with fail
        go_quiet (fail)
        have HB2 : Hid (Kp No W1 (wr.drewN nq)) := HR.out.drewN nq
        obtain ⟨wq, hwq⟩ : ∃ wq, wr.drewN nq = wq := ⟨_, rfl⟩
        have d1 : wq.cell? ⟨w.heap.size, i, none⟩ = some (.int .u8 x) := by rw [← hwq]; simpa using c1
        have d2 : wq.cell? ⟨w.heap.size + 1, i, none⟩ = some (.int .u8 y) := by rw [← hwq]; simpa using c2
        rw [hwq] at HB2 ⊢
        clear hwq c1 c2
        go_wp2_with fail
        go_quiet (fail)
        go_wp2_with fail
        go_ret
        exact ⟨by rw [HQ.out]; rfl, HK.out.andNone (HB2.out.drewN _)⟩
    · have HQ : Hid (z = false) := by
        rw [Hid, HI.out, List.drop_eq_nil_of_le (by rw [HA.out]; omega), List.drop_eq_nil_of_le (by rw [HB.out]; omega)]
        rfl
      have hge : (32 : Int) ≤ (i : Int) := by omega
      go_wp2_with fail
      go_ret
      exact ⟨by rw [HQ.out]; rfl, HK.out.andNone HR.out⟩
end Go.Proofs.YthmimipoooemjaaGreatDoor.Sg
end

section
/-
  The document's Right of entries.
-/
namespace Go.Proofs.YthmimipoooemjaaGreatDoor.Sg
open Go.RowKit
open Sim (hid Kp No)

theorem rev_row {P : Nat → Prop} {w : World} {a : Option Addr} {n c : Nat} {d : List Ent} (h : EV P w (.slice a n c) d) (hd : d ≠ []) : ∃ g o, a = some ⟨g, o, none⟩ ∧ P g ∧ ERow w g o d := by
  obtain ⟨a', c', e, _, _, _, _, h6⟩ := h
  simp only [Value.slice.injEq] at e
  rw [e.1]
  exact h6 hd
theorem plB_no {nm : List Int} {p q r : Int} (h : p < 1 ∨ 999999 < p ∨ q < 0 ∨ 12000 < q ∨ r < 1 ∨ 12000 < r) : plB (nm, p, q, r) = false := by
  cases hp : plB (nm, p, q, r) with
  | false => rfl
  | true =>
    simp [plB] at hp
    omega
theorem notRight {d : List Ent} {k : Nat} {e : Ent} (he : d[k]? = some e) (hp : plB e = false) : ¬ RightP d := fun h => by
  have := (h.2 k e (List.getElem?_eq_some_iff.1 he).1 he).1
  rw [hp] at this
  cases this
theorem notRise {d : List Ent} {k : Nat} {x e : Ent} (hx : d[k]? = some x) (he : d[k + 1]? = some e) (hl : lexB x.1 e.1 = false) : ¬ RightP d := fun h => by
  have := (h.2 (k + 1) e (List.getElem?_eq_some_iff.1 he).1 he).2 k x rfl hx
  rw [hl] at this
  cases this

set_option maxHeartbeats 4000000 in
set_option maxRecDepth 100000 in
theorem rright_any (w : World) (v : Value) (d : List Ent) (P : Nat → Prop) (hv : EV P w v d) (hl : d.length ≤ 1000000) :
    Calls Tryz.prog 33 #[v] w fun e w' => RAns d e ∧ Kp No w w' := by
  have HV := hid hv
  obtain ⟨a, c, e, _⟩ := hv
  subst e
  obtain ⟨n, hn⟩ : ∃ n, d.length = n := ⟨_, rfl⟩
  have HN := hid hn
  rw [hn] at HV hl ⊢
  clear hn
  go_enter Tryz.func33, Tryz.ntmps33
  go_wp2_with fail
  go_loopw [3] (fun x wr => ∃ (k : Nat), x = .int .i64 (k : Int) ∧ k ≤ n ∧ Hid (UpTo d k) ∧ Hid (Kp No w wr)) (fun x _ => n - (intOf x).toNat)
  case atStart => exact ⟨0, rfl, Nat.zero_le _, UpTo.zero d, Kp.refl _ _⟩
  case round =>
    obtain ⟨k, rfl, hkn, HU, HK⟩ := hrel
    by_cases hlt : k < n
    · have hltI : (k : Int) < (n : Int) := by omega
      have hwk : IntKind.i64.wrap ((k : Int) + 1) = ((k + 1 : Nat) : Int) := by rw [IntKind.wrap_i64]; omega
      obtain ⟨y, hy⟩ : ∃ y, d[k]? = some y := ⟨_, List.getElem?_eq_getElem (by rw [HN.out]; exact hlt)⟩
      obtain ⟨g, o, rfl, _, hr⟩ := rev_row (HV.out.kept HK.out) (by intro e; have := HN.out; rw [e] at this; simp at this; omega)
      obtain ⟨hyo, hyr⟩ := hr.2 k y hy
      obtain ⟨nm, p, q, r⟩ := y
      have hgw : g < wr.heap.size := hr.1
      have hpl := rng_place hyo hyr
      have c0 : wr.cell? ⟨g, o + k * 35 + 32, none⟩ = some (.int .i64 p) := hpl 0 _ rfl
      have c1 : wr.cell? ⟨g, o + k * 35 + 32 + 1, none⟩ = some (.int .i64 q) := hpl 1 _ rfl
      have c2 : wr.cell? ⟨g, o + k * 35 + 32 + 2, none⟩ = some (.int .i64 r) := hpl 2 _ rfl
      have HY := hid hy
      have HYO := hid hyo
      have HROW := hid hr
      clear hpl hr hyo hyr hy
      by_cases h0 : p < 1
      · have d0 : decide (p < 1) = true := decide_eq_true h0
        have HNR : Hid (¬ RightP d) := notRight HY.out (plB_no (.inl h0))
        go_wp2_with fail
        go_quiet (fail)
        go_wp2_with fail
        go_ret
        exact ⟨⟨false, rfl, fun e => (by cases e), fun e => absurd e HNR.out⟩, (HK.out.alloc _).drewN _⟩
      · have d0 : decide (p < 1) = false := decide_eq_false h0
        by_cases h1 : 999999 < p
        · have d1 : decide (999999 < p) = true := decide_eq_true h1
          have HNR : Hid (¬ RightP d) := notRight HY.out (plB_no (.inr (.inl h1)))
          go_wp2_with fail
          go_quiet (fail)
          go_wp2_with fail
          go_ret
          exact ⟨⟨false, rfl, fun e => (by cases e), fun e => absurd e HNR.out⟩, (HK.out.alloc _).drewN _⟩
        · have d1 : decide (999999 < p) = false := decide_eq_false h1
          by_cases h2 : q < 0
          · have d2 : decide (q < 0) = true := decide_eq_true h2
            have HNR : Hid (¬ RightP d) := notRight HY.out (plB_no (.inr (.inr (.inl h2))))
            go_wp2_with fail
            go_quiet (fail)
            go_wp2_with fail
            go_ret
            exact ⟨⟨false, rfl, fun e => (by cases e), fun e => absurd e HNR.out⟩, (HK.out.alloc _).drewN _⟩
          · have d2 : decide (q < 0) = false := decide_eq_false h2
            by_cases h3 : 12000 < q
            · have d3 : decide (12000 < q) = true := decide_eq_true h3
              have HNR : Hid (¬ RightP d) := notRight HY.out (plB_no (.inr (.inr (.inr (.inl h3)))))
              go_wp2_with fail
              go_quiet (fail)
              go_wp2_with fail
              go_ret
              exact ⟨⟨false, rfl, fun e => (by cases e), fun e => absurd e HNR.out⟩, (HK.out.alloc _).drewN _⟩
            · have d3 : decide (12000 < q) = false := decide_eq_false h3
              by_cases h4 : r < 1
              · have d4 : decide (r < 1) = true := decide_eq_true h4
                have HNR : Hid (¬ RightP d) := notRight HY.out (plB_no (.inr (.inr (.inr (.inr (.inl h4))))))
                go_wp2_with fail
                go_quiet (fail)
                go_wp2_with fail
                go_ret
                exact ⟨⟨false, rfl, fun e => (by cases e), fun e => absurd e HNR.out⟩, (HK.out.alloc _).drewN _⟩
              · have d4 : decide (r < 1) = false := decide_eq_false h4
                by_cases h5 : 12000 < r
                · have d5 : decide (12000 < r) = true := decide_eq_true h5
                  have HNR : Hid (¬ RightP d) := notRight HY.out (plB_no (.inr (.inr (.inr (.inr (.inr h5))))))
                  go_wp2_with fail
                  go_quiet (fail)
                  go_wp2_with fail
                  go_ret
                  exact ⟨⟨false, rfl, fun e => (by cases e), fun e => absurd e HNR.out⟩, (HK.out.alloc _).drewN _⟩
                · have d5 : decide (12000 < r) = false := decide_eq_false h5
                  have HPB : Hid (plB (nm, p, q, r) = true) := by
                    rw [Hid, plB]
                    simp
                    omega
                  cases k with
                  | zero =>
                    have HNX : Hid (UpTo d (0 + 1)) := HU.out.next HY.out HPB.out (fun j x hj => by omega)
                    have hk0 : decide ((0 : Int) < ((0 : Nat) : Int)) = false := by simp
                    go_wp2_with fail
                    go_quiet (fail)
                    go_wp2_with fail
                    go_round
                    case rel => exact ⟨0 + 1, by first | rfl | go_num, by omega, HNX.out, (HK.out.alloc _).drewN _⟩
                    case measure => simp [intOf]; omega
                  | succ k =>
                    have hk0 : decide ((0 : Int) < ((k + 1 : Nat) : Int)) = true := by simp
                    obtain ⟨x, hx⟩ : ∃ x, d[k]? = some x := ⟨_, List.getElem?_eq_getElem (by rw [HN.out]; omega)⟩
                    have hwm : IntKind.i64.wrap (((k + 1 : Nat) : Int) - 1) = (k : Int) := by rw [IntKind.wrap_i64]; omega
                    have hw0 : IntKind.i64.wrap (k : Int) = (k : Int) := by rw [IntKind.wrap_i64]; omega
                    have hkn1 : k < n := by omega
                    have hkn2 : ¬ ((k : Int) + 1 < 0) := by omega
                    have hxr := HROW.out.2 k x hx
                    have hyr := HROW.out.2 (k + 1) _ HY.out
                    have HX := hid hx
                    obtain ⟨W4, hW4⟩ : ∃ W4, wr.alloc (.cells #[.int .i64 p, .int .i64 q, .int .i64 r] 157) = W4 := ⟨_, rfl⟩
                    have hK4 : Kp No wr W4 := by rw [← hW4]; exact (Kp.refl No wr).alloc _
                    have hz4 : wr.heap.size < W4.heap.size := by rw [← hW4]; simp
                    have HV4 : Hid (∀ V, Kp No W4 V → V.cell? ⟨wr.heap.size, 0, none⟩ = some (.int .i64 p) ∧ V.cell? ⟨wr.heap.size, 1, none⟩ = some (.int .i64 q) ∧ V.cell? ⟨wr.heap.size, 2, none⟩ = some (.int .i64 r)) := fun V hV => by
                      have cc : ∀ j, V.cell? ⟨wr.heap.size, j, none⟩ = W4.cell? ⟨wr.heap.size, j, none⟩ := fun j => hV.cell (p := ⟨wr.heap.size, j, none⟩) hz4 (fun x => x)
                      rw [cc, cc, cc, ← hW4]
                      refine ⟨by simp, by simp, by simp⟩
                    have HLX : Hid (∀ V, Kp No W4 V → V.rangeAt g (o + k * 35) (b8 x.1)) := fun V hV j u hu => ((hK4.andNone hV).cell (p := ⟨g, _, none⟩) hgw (fun x => x)).trans (rng_name hxr.2 j u hu)
                    have HLY : Hid (∀ V, Kp No W4 V → V.rangeAt g (o + (k + 1) * 35) (b8 nm)) := fun V hV j u hu => ((hK4.andNone hV).cell (p := ⟨g, _, none⟩) hgw (fun x => x)).trans (rng_name hyr.2 j u hu)
                    have HI1 : Hid ((Tryz.prog.info? 53).map (·.size) = some (b8 x.1).length) := by rw [Hid, b8_length, hxr.1.1]; exact infH
                    have HI2 : Hid ((Tryz.prog.info? 53).map (·.size) = some (b8 nm).length) := by rw [Hid, b8_length, HYO.out.1]; exact infH
                    have HLE := hid (fun W => less_any x.1 nm W hxr.1.1 HYO.out.1)
                    have HK4 := hid (HK.out.andNone hK4)
                    generalize b8 x.1 = bx at *
                    generalize b8 nm = bY at *
                    clear hxr hyr hx hK4
                    cases hlx : lexB x.1 nm with
                    | false =>
                      have HNR : Hid (¬ RightP d) := notRise HX.out HY.out hlx
                      rw [hlx] at HLE
                      clear hlx
                      go_wp2_with fail
                    
                      clear hW4 c0 c1 c2
                      refine wp_region_held_drew (S := fun V => Kp No W4 V) (by kernel_rfl) ((Kp.refl _ _).drew) (fun hHeld => ?_)
                      refine wpAnyH_take (i := 0) (oi := ⟨some 16, .fieldAddr 157 (.tmp 4) 0, 0, "ref.go:22", #[], none⟩) (v := .pointer (some ⟨wr.heap.size, 0, none⟩)) rfl (by kernel_rfl) (by kernel_rfl) (by kernel_rfl) (fun _ _ _ h => h) (Or.inl ⟨by rfl, fun w' hw' => by (clear hw'; go_simp)⟩) hHeld ?_
                      simp only [Act.put, sjA, sjB, sjC]
                      refine wpAnyH_take (i := 1) (oi := ⟨some 17, .load 3 (.tmp 16), 3, "ref.go:22", #[⟨0, .data⟩], none⟩) (v := .int .i64 p) rfl (by kernel_rfl) (by kernel_rfl) (by kernel_rfl) (fun _ _ _ h => h) (Or.inl ⟨by rfl, fun w' hw' => by (have qq := (HV4.out _ hw').1; clear hw'; go_simp)⟩) hHeld ?_
                      simp only [Act.put, sjA, sjB, sjC]
                      refine wpAnyH_take (i := 2) (oi := ⟨some 18, .binOp BinOp.lss 3 (.tmp 17) (Operand.const (Value.int IntKind.i64 1)) 3, 4, "ref.go:22", #[⟨1, .data⟩], none⟩) (v := .bool false) rfl (by kernel_rfl) (by kernel_rfl) (by kernel_rfl) (fun _ _ _ h => h) (Or.inl ⟨by rfl, fun w' hw' => by (clear hw'; go_simp)⟩) hHeld ?_
                      simp only [Act.put, sjA, sjB, sjC]
                      refine wpAnyH_take (i := 3) (oi := ⟨some 19, .move (.tmp 18), 4, "ref.go:22", #[⟨2, .data⟩], none⟩) (v := .bool false) rfl (by kernel_rfl) (by kernel_rfl) (by kernel_rfl) (fun _ _ _ h => h) (Or.inl ⟨by rfl, fun w' hw' => by (clear hw'; go_simp)⟩) hHeld ?_
                      simp only [Act.put, sjA, sjB, sjC]
                      refine wpAnyH_take (i := 4) (oi := ⟨some 20, .fieldAddr 157 (.tmp 4) 0, 0, "ref.go:22", #[⟨3, .guard⟩], some (3, false)⟩) (v := .pointer (some ⟨wr.heap.size, 0, none⟩)) rfl (by kernel_rfl) (by kernel_rfl) (by kernel_rfl) (fun _ _ _ h => h) (Or.inl ⟨by rfl, fun w' hw' => by (clear hw'; go_simp)⟩) hHeld ?_
                      simp only [Act.put, sjA, sjB, sjC]
                      refine wpAnyH_take (i := 5) (oi := ⟨some 21, .load 3 (.tmp 20), 3, "ref.go:22", #[⟨4, .data⟩, ⟨3, .guard⟩], some (3, false)⟩) (v := .int .i64 p) rfl (by kernel_rfl) (by kernel_rfl) (by kernel_rfl) (fun _ _ _ h => h) (Or.inl ⟨by rfl, fun w' hw' => by (have qq := (HV4.out _ hw').1; clear hw'; go_simp)⟩) hHeld ?_
                      simp only [Act.put, sjA, sjB, sjC]
                      refine wpAnyH_take (i := 6) (oi := ⟨some 22, .binOp BinOp.gtr 3 (.tmp 21) (Operand.const (Value.int IntKind.i64 999999)) 3, 4, "ref.go:22", #[⟨5, .data⟩, ⟨3, .guard⟩], some (3, false)⟩) (v := .bool false) rfl (by kernel_rfl) (by kernel_rfl) (by kernel_rfl) (fun _ _ _ h => h) (Or.inl ⟨by rfl, fun w' hw' => by (clear hw'; go_simp)⟩) hHeld ?_
                      simp only [Act.put, sjA, sjB, sjC]
                      refine wpAnyH_take (i := 7) (oi := ⟨some 23, .pick (.tmp 19) (Operand.const (Value.bool true)) (.tmp 22), 4, "ref.go:22", #[⟨3, .data⟩, ⟨6, .data⟩], none⟩) (v := .bool false) rfl (by kernel_rfl) (by kernel_rfl) (by kernel_rfl) (fun _ _ _ h => h) (Or.inl ⟨by rfl, fun w' hw' => by (clear hw'; go_simp)⟩) hHeld ?_
                      simp only [Act.put, sjA, sjB, sjC]
                      refine wpAnyH_take (i := 8) (oi := ⟨some 24, .move (.tmp 23), 4, "ref.go:22", #[⟨7, .data⟩, ⟨3, .chain⟩], none⟩) (v := .bool false) rfl (by kernel_rfl) (by kernel_rfl) (by kernel_rfl) (fun _ _ _ h => h) (Or.inl ⟨by rfl, fun w' hw' => by (clear hw'; go_simp)⟩) hHeld ?_
                      simp only [Act.put, sjA, sjB, sjC]
                      refine wpAnyH_take (i := 9) (oi := ⟨some 25, .fieldAddr 157 (.tmp 4) 1, 0, "ref.go:22", #[⟨8, .guard⟩], some (8, false)⟩) (v := .pointer (some ⟨wr.heap.size, 1, none⟩)) rfl (by kernel_rfl) (by kernel_rfl) (by kernel_rfl) (fun _ _ _ h => h) (Or.inl ⟨by rfl, fun w' hw' => by (clear hw'; go_simp)⟩) hHeld ?_
                      simp only [Act.put, sjA, sjB, sjC]
                      refine wpAnyH_take (i := 10) (oi := ⟨some 26, .load 3 (.tmp 25), 3, "ref.go:22", #[⟨9, .data⟩, ⟨8, .guard⟩], some (8, false)⟩) (v := .int .i64 q) rfl (by kernel_rfl) (by kernel_rfl) (by kernel_rfl) (fun _ _ _ h => h) (Or.inl ⟨by rfl, fun w' hw' => by (have qq := (HV4.out _ hw').2.1; clear hw'; go_simp)⟩) hHeld ?_
                      simp only [Act.put, sjA, sjB, sjC]
                      refine wpAnyH_take (i := 11) (oi := ⟨some 27, .binOp BinOp.lss 3 (.tmp 26) (Operand.const (Value.int IntKind.i64 0)) 3, 4, "ref.go:22", #[⟨10, .data⟩, ⟨8, .guard⟩], some (8, false)⟩) (v := .bool false) rfl (by kernel_rfl) (by kernel_rfl) (by kernel_rfl) (fun _ _ _ h => h) (Or.inl ⟨by rfl, fun w' hw' => by (clear hw'; go_simp)⟩) hHeld ?_
                      simp only [Act.put, sjA, sjB, sjC]
                      refine wpAnyH_take (i := 12) (oi := ⟨some 28, .pick (.tmp 24) (Operand.const (Value.bool true)) (.tmp 27), 4, "ref.go:22", #[⟨8, .data⟩, ⟨11, .data⟩], none⟩) (v := .bool false) rfl (by kernel_rfl) (by kernel_rfl) (by kernel_rfl) (fun _ _ _ h => h) (Or.inl ⟨by rfl, fun w' hw' => by (clear hw'; go_simp)⟩) hHeld ?_
                      simp only [Act.put, sjA, sjB, sjC]
                      refine wpAnyH_take (i := 13) (oi := ⟨some 29, .move (.tmp 28), 4, "ref.go:22", #[⟨12, .data⟩, ⟨8, .chain⟩], none⟩) (v := .bool false) rfl (by kernel_rfl) (by kernel_rfl) (by kernel_rfl) (fun _ _ _ h => h) (Or.inl ⟨by rfl, fun w' hw' => by (clear hw'; go_simp)⟩) hHeld ?_
                      simp only [Act.put, sjA, sjB, sjC]
                      refine wpAnyH_take (i := 14) (oi := ⟨some 30, .fieldAddr 157 (.tmp 4) 1, 0, "ref.go:22", #[⟨13, .guard⟩], some (13, false)⟩) (v := .pointer (some ⟨wr.heap.size, 1, none⟩)) rfl (by kernel_rfl) (by kernel_rfl) (by kernel_rfl) (fun _ _ _ h => h) (Or.inl ⟨by rfl, fun w' hw' => by (clear hw'; go_simp)⟩) hHeld ?_
                      simp only [Act.put, sjA, sjB, sjC]
                      refine wpAnyH_take (i := 15) (oi := ⟨some 31, .load 3 (.tmp 30), 3, "ref.go:22", #[⟨14, .data⟩, ⟨13, .guard⟩], some (13, false)⟩) (v := .int .i64 q) rfl (by kernel_rfl) (by kernel_rfl) (by kernel_rfl) (fun _ _ _ h => h) (Or.inl ⟨by rfl, fun w' hw' => by (have qq := (HV4.out _ hw').2.1; clear hw'; go_simp)⟩) hHeld ?_
                      simp only [Act.put, sjA, sjB, sjC]
                      refine wpAnyH_take (i := 16) (oi := ⟨some 32, .binOp BinOp.gtr 3 (.tmp 31) (Operand.const (Value.int IntKind.i64 12000)) 3, 4, "ref.go:22", #[⟨15, .data⟩, ⟨13, .guard⟩], some (13, false)⟩) (v := .bool false) rfl (by kernel_rfl) (by kernel_rfl) (by kernel_rfl) (fun _ _ _ h => h) (Or.inl ⟨by rfl, fun w' hw' => by (clear hw'; go_simp)⟩) hHeld ?_
                      simp only [Act.put, sjA, sjB, sjC]
                      refine wpAnyH_take (i := 17) (oi := ⟨some 33, .pick (.tmp 29) (Operand.const (Value.bool true)) (.tmp 32), 4, "ref.go:22", #[⟨13, .data⟩, ⟨16, .data⟩], none⟩) (v := .bool false) rfl (by kernel_rfl) (by kernel_rfl) (by kernel_rfl) (fun _ _ _ h => h) (Or.inl ⟨by rfl, fun w' hw' => by (clear hw'; go_simp)⟩) hHeld ?_
                      simp only [Act.put, sjA, sjB, sjC]
                      refine wpAnyH_take (i := 18) (oi := ⟨some 34, .move (.tmp 33), 4, "ref.go:22", #[⟨17, .data⟩, ⟨13, .chain⟩], none⟩) (v := .bool false) rfl (by kernel_rfl) (by kernel_rfl) (by kernel_rfl) (fun _ _ _ h => h) (Or.inl ⟨by rfl, fun w' hw' => by (clear hw'; go_simp)⟩) hHeld ?_
                      simp only [Act.put, sjA, sjB, sjC]
                      refine wpAnyH_take (i := 19) (oi := ⟨some 35, .fieldAddr 157 (.tmp 4) 2, 0, "ref.go:22", #[⟨18, .guard⟩], some (18, false)⟩) (v := .pointer (some ⟨wr.heap.size, 2, none⟩)) rfl (by kernel_rfl) (by kernel_rfl) (by kernel_rfl) (fun _ _ _ h => h) (Or.inl ⟨by rfl, fun w' hw' => by (clear hw'; go_simp)⟩) hHeld ?_
                      simp only [Act.put, sjA, sjB, sjC]
                      refine wpAnyH_take (i := 20) (oi := ⟨some 36, .load 3 (.tmp 35), 3, "ref.go:22", #[⟨19, .data⟩, ⟨18, .guard⟩], some (18, false)⟩) (v := .int .i64 r) rfl (by kernel_rfl) (by kernel_rfl) (by kernel_rfl) (fun _ _ _ h => h) (Or.inl ⟨by rfl, fun w' hw' => by (have qq := (HV4.out _ hw').2.2; clear hw'; go_simp)⟩) hHeld ?_
                      simp only [Act.put, sjA, sjB, sjC]
                      refine wpAnyH_take (i := 21) (oi := ⟨some 37, .binOp BinOp.lss 3 (.tmp 36) (Operand.const (Value.int IntKind.i64 1)) 3, 4, "ref.go:22", #[⟨20, .data⟩, ⟨18, .guard⟩], some (18, false)⟩) (v := .bool false) rfl (by kernel_rfl) (by kernel_rfl) (by kernel_rfl) (fun _ _ _ h => h) (Or.inl ⟨by rfl, fun w' hw' => by (clear hw'; go_simp)⟩) hHeld ?_
                      simp only [Act.put, sjA, sjB, sjC]
                      refine wpAnyH_take (i := 22) (oi := ⟨some 38, .pick (.tmp 34) (Operand.const (Value.bool true)) (.tmp 37), 4, "ref.go:22", #[⟨18, .data⟩, ⟨21, .data⟩], none⟩) (v := .bool false) rfl (by kernel_rfl) (by kernel_rfl) (by kernel_rfl) (fun _ _ _ h => h) (Or.inl ⟨by rfl, fun w' hw' => by (clear hw'; go_simp)⟩) hHeld ?_
                      simp only [Act.put, sjA, sjB, sjC]
                      refine wpAnyH_take (i := 23) (oi := ⟨some 39, .move (.tmp 38), 4, "ref.go:22", #[⟨22, .data⟩, ⟨18, .chain⟩], none⟩) (v := .bool false) rfl (by kernel_rfl) (by kernel_rfl) (by kernel_rfl) (fun _ _ _ h => h) (Or.inl ⟨by rfl, fun w' hw' => by (clear hw'; go_simp)⟩) hHeld ?_
                      simp only [Act.put, sjA, sjB, sjC]
                      refine wpAnyH_take (i := 24) (oi := ⟨some 40, .fieldAddr 157 (.tmp 4) 2, 0, "ref.go:22", #[⟨23, .guard⟩], some (23, false)⟩) (v := .pointer (some ⟨wr.heap.size, 2, none⟩)) rfl (by kernel_rfl) (by kernel_rfl) (by kernel_rfl) (fun _ _ _ h => h) (Or.inl ⟨by rfl, fun w' hw' => by (clear hw'; go_simp)⟩) hHeld ?_
                      simp only [Act.put, sjA, sjB, sjC]
                      refine wpAnyH_take (i := 25) (oi := ⟨some 41, .load 3 (.tmp 40), 3, "ref.go:22", #[⟨24, .data⟩, ⟨23, .guard⟩], some (23, false)⟩) (v := .int .i64 r) rfl (by kernel_rfl) (by kernel_rfl) (by kernel_rfl) (fun _ _ _ h => h) (Or.inl ⟨by rfl, fun w' hw' => by (have qq := (HV4.out _ hw').2.2; clear hw'; go_simp)⟩) hHeld ?_
                      simp only [Act.put, sjA, sjB, sjC]
                      refine wpAnyH_take (i := 26) (oi := ⟨some 42, .binOp BinOp.gtr 3 (.tmp 41) (Operand.const (Value.int IntKind.i64 12000)) 3, 4, "ref.go:22", #[⟨25, .data⟩, ⟨23, .guard⟩], some (23, false)⟩) (v := .bool false) rfl (by kernel_rfl) (by kernel_rfl) (by kernel_rfl) (fun _ _ _ h => h) (Or.inl ⟨by rfl, fun w' hw' => by (clear hw'; go_simp)⟩) hHeld ?_
                      simp only [Act.put, sjA, sjB, sjC]
                      refine wpAnyH_take (i := 27) (oi := ⟨some 43, .pick (.tmp 39) (Operand.const (Value.bool true)) (.tmp 42), 4, "ref.go:22", #[⟨23, .data⟩, ⟨26, .data⟩], none⟩) (v := .bool false) rfl (by kernel_rfl) (by kernel_rfl) (by kernel_rfl) (fun _ _ _ h => h) (Or.inl ⟨by rfl, fun w' hw' => by (clear hw'; go_simp)⟩) hHeld ?_
                      simp only [Act.put, sjA, sjB, sjC]
                      refine wpAnyH_take (i := 28) (oi := ⟨some 44, .move (.tmp 43), 4, "ref.go:22", #[⟨27, .data⟩, ⟨23, .chain⟩], none⟩) (v := .bool false) rfl (by kernel_rfl) (by kernel_rfl) (by kernel_rfl) (fun _ _ _ h => h) (Or.inl ⟨by rfl, fun w' hw' => by (clear hw'; go_simp)⟩) hHeld ?_
                      simp only [Act.put, sjA, sjB, sjC]
                      refine wpAnyH_take (i := 29) (oi := ⟨some 45, .move (.tmp 3), 3, "ref.go:22", #[⟨28, .guard⟩], some (28, false)⟩) (v := .int .i64 ((k + 1 : Nat) : Int)) rfl (by kernel_rfl) (by kernel_rfl) (by kernel_rfl) (fun _ _ _ h => h) (Or.inl ⟨by rfl, fun w' hw' => by (clear hw'; go_simp)⟩) hHeld ?_
                      simp only [Act.put, sjA, sjB, sjC]
                      refine wpAnyH_take (i := 30) (oi := ⟨some 46, .binOp BinOp.gtr 3 (.tmp 45) (Operand.const (Value.int IntKind.i64 0)) 3, 4, "ref.go:22", #[⟨29, .data⟩, ⟨28, .guard⟩], some (28, false)⟩) (v := .bool true) rfl (by kernel_rfl) (by kernel_rfl) (by kernel_rfl) (fun _ _ _ h => h) (Or.inl ⟨by rfl, fun w' hw' => by (clear hw'; go_simp)⟩) hHeld ?_
                      simp only [Act.put, sjA, sjB, sjC]
                      refine wpAnyH_take (i := 31) (oi := ⟨some 47, .move (.tmp 46), 4, "ref.go:22", #[⟨30, .data⟩, ⟨28, .chain⟩, ⟨28, .guard⟩], some (28, false)⟩) (v := .bool true) rfl (by kernel_rfl) (by kernel_rfl) (by kernel_rfl) (fun _ _ _ h => h) (Or.inl ⟨by rfl, fun w' hw' => by (clear hw'; go_simp)⟩) hHeld ?_
                      simp only [Act.put, sjA, sjB, sjC]
                      refine wpAnyH_take (i := 32) (oi := ⟨some 48, .move (.tmp 0), 77, "ref.go:22", #[⟨31, .guard⟩], some (31, true)⟩) (v := .slice (some ⟨g, o, none⟩) n c) rfl (by kernel_rfl) (by kernel_rfl) (by kernel_rfl) (fun _ _ _ h => h) (Or.inl ⟨by rfl, fun w' hw' => by (clear hw'; go_simp)⟩) hHeld ?_
                      simp only [Act.put, sjA, sjB, sjC]
                      refine wpAnyH_take (i := 33) (oi := ⟨some 49, .move (.tmp 3), 3, "ref.go:22", #[⟨31, .guard⟩], some (31, true)⟩) (v := .int .i64 ((k + 1 : Nat) : Int)) rfl (by kernel_rfl) (by kernel_rfl) (by kernel_rfl) (fun _ _ _ h => h) (Or.inl ⟨by rfl, fun w' hw' => by (clear hw'; go_simp)⟩) hHeld ?_
                      simp only [Act.put, sjA, sjB, sjC]
                      refine wpAnyH_take (i := 34) (oi := ⟨some 50, .binOp BinOp.sub 3 (.tmp 49) (Operand.const (Value.int IntKind.i64 1)) 3, 3, "ref.go:22", #[⟨33, .data⟩, ⟨31, .guard⟩], some (31, true)⟩) (v := .int .i64 (k : Int)) rfl (by kernel_rfl) (by kernel_rfl) (by kernel_rfl) (fun _ _ _ h => h) (Or.inl ⟨by rfl, fun w' hw' => by (clear hw'; go_simp)⟩) hHeld ?_
                      simp only [Act.put, sjA, sjB, sjC]
                      refine wpAnyH_take (i := 35) (oi := ⟨some 51, .indexAddr 77 (.tmp 48) (.tmp 50), 0, "ref.go:22", #[⟨32, .data⟩, ⟨34, .data⟩, ⟨31, .guard⟩], some (31, true)⟩) (v := .pointer (some ⟨g, o + k * 35, none⟩)) rfl (by kernel_rfl) (by kernel_rfl) (by kernel_rfl) (fun _ _ _ h => h) (Or.inl ⟨by rfl, fun w' hw' => by (clear hw'; go_simp)⟩) hHeld ?_
                      simp only [Act.put, sjA, sjB, sjC]
                      refine wpAnyH_take (i := 36) (oi := ⟨some 52, .fieldAddr 159 (.tmp 51) 0, 0, "ref.go:22", #[⟨35, .data⟩, ⟨31, .guard⟩], some (31, true)⟩) (v := .pointer (some ⟨g, o + k * 35, none⟩)) rfl (by kernel_rfl) (by kernel_rfl) (by kernel_rfl) (fun _ _ _ h => h) (Or.inl ⟨by rfl, fun w' hw' => by (clear hw'; go_simp)⟩) hHeld ?_
                      simp only [Act.put, sjA, sjB, sjC]
                      refine wpAnyH_take (i := 37) (oi := ⟨some 53, .load 53 (.tmp 52), 53, "ref.go:22", #[⟨36, .data⟩, ⟨31, .guard⟩], some (31, true)⟩) (v := .agg bx.toArray) rfl (by kernel_rfl) (by kernel_rfl) (by kernel_rfl) (fun _ _ _ h => h) (yieldsIf_load_mid (by rfl) _ _ rfl g (o + k * 35) rfl bx _ (HLX.out) Tryz.underlying53 rfl HI1.out) hHeld ?_
                      simp only [Act.put, sjA, sjB, sjC]
                      refine wpAnyH_take (i := 38) (oi := ⟨some 54, .move (.tmp 0), 77, "ref.go:22", #[⟨31, .guard⟩], some (31, true)⟩) (v := .slice (some ⟨g, o, none⟩) n c) rfl (by kernel_rfl) (by kernel_rfl) (by kernel_rfl) (fun _ _ _ h => h) (Or.inl ⟨by rfl, fun w' hw' => by (clear hw'; go_simp)⟩) hHeld ?_
                      simp only [Act.put, sjA, sjB, sjC]
                      refine wpAnyH_take (i := 39) (oi := ⟨some 55, .move (.tmp 3), 3, "ref.go:22", #[⟨31, .guard⟩], some (31, true)⟩) (v := .int .i64 ((k + 1 : Nat) : Int)) rfl (by kernel_rfl) (by kernel_rfl) (by kernel_rfl) (fun _ _ _ h => h) (Or.inl ⟨by rfl, fun w' hw' => by (clear hw'; go_simp)⟩) hHeld ?_
                      simp only [Act.put, sjA, sjB, sjC]
                      refine wpAnyH_take (i := 40) (oi := ⟨some 56, .indexAddr 77 (.tmp 54) (.tmp 55), 0, "ref.go:22", #[⟨38, .data⟩, ⟨39, .data⟩, ⟨31, .guard⟩], some (31, true)⟩) (v := .pointer (some ⟨g, o + (k + 1) * 35, none⟩)) rfl (by kernel_rfl) (by kernel_rfl) (by kernel_rfl) (fun _ _ _ h => h) (Or.inl ⟨by rfl, fun w' hw' => by (clear hw'; go_simp)⟩) hHeld ?_
                      simp only [Act.put, sjA, sjB, sjC]
                      refine wpAnyH_take (i := 41) (oi := ⟨some 57, .fieldAddr 159 (.tmp 56) 0, 0, "ref.go:22", #[⟨40, .data⟩, ⟨31, .guard⟩], some (31, true)⟩) (v := .pointer (some ⟨g, o + (k + 1) * 35, none⟩)) rfl (by kernel_rfl) (by kernel_rfl) (by kernel_rfl) (fun _ _ _ h => h) (Or.inl ⟨by rfl, fun w' hw' => by (clear hw'; go_simp)⟩) hHeld ?_
                      simp only [Act.put, sjA, sjB, sjC]
                      refine wpAnyH_take (i := 42) (oi := ⟨some 58, .load 53 (.tmp 57), 53, "ref.go:22", #[⟨41, .data⟩, ⟨31, .guard⟩], some (31, true)⟩) (v := .agg bY.toArray) rfl (by kernel_rfl) (by kernel_rfl) (by kernel_rfl) (fun _ _ _ h => h) (yieldsIf_load_mid (by rfl) _ _ rfl g (o + (k + 1) * 35) rfl bY _ (HLY.out) Tryz.underlying53 rfl HI2.out) hHeld ?_
                      simp only [Act.put, sjA, sjB, sjC]
                      refine wpAnyH_ready (rs := [43]) (by kernel_rfl) (by simp) ?_
                      refine AllReadyH.cons (o := ⟨some 59, .call { callee := Callee.value (Operand.func 73), args := #[.tmp 53, .tmp 58], argTypes := #[53, 53] }, 4, "ref.go:22", #[⟨37, .data⟩, ⟨42, .data⟩, ⟨31, .chain⟩, ⟨31, .guard⟩], some (31, true)⟩) rfl (fun K hK => ?_) AllReadyH.nil
                      go_simp
                      refine (HLE.out _).mono ?_
                      rintro e w3 ⟨rfl, hb3⟩
                      have HK3 : Hid (Kp No W4 w3) := ((Kp.refl No W4).drew).andNone hb3
                      clear hb3
                      go_wp2_with fail
                      refine hK.out _ _ (HK3.out) (fun hh => ?_)
                      clear hK K hHeld
                      have hHeld := hh
                      clear hh
                      try simp only [Act.put, sjA, sjB, sjC]
                      refine wpAnyH_take (i := 44) (oi := ⟨some 60, .unOp UnOp.not 4 (.tmp 59), 4, "ref.go:22", #[⟨43, .data⟩, ⟨31, .guard⟩], some (31, true)⟩) (v := .bool true) rfl (by kernel_rfl) (by kernel_rfl) (by kernel_rfl) (fun _ _ _ h => h) (Or.inl ⟨by rfl, fun w' hw' => by (clear hw'; go_simp)⟩) hHeld ?_
                      simp only [Act.put, sjA, sjB, sjC]
                      refine wpAnyH_take (i := 45) (oi := ⟨some 61, .pick (.tmp 47) (.tmp 60) (Operand.const (Value.bool false)), 4, "ref.go:22", #[⟨31, .data⟩, ⟨44, .data⟩, ⟨28, .guard⟩], some (28, false)⟩) (v := .bool true) rfl (by kernel_rfl) (by kernel_rfl) (by kernel_rfl) (fun _ _ _ h => h) (Or.inl ⟨by rfl, fun w' hw' => by (clear hw'; go_simp)⟩) hHeld ?_
                      simp only [Act.put, sjA, sjB, sjC]
                      refine wpAnyH_take (i := 46) (oi := ⟨some 62, .pick (.tmp 44) (Operand.const (Value.bool true)) (.tmp 61), 4, "ref.go:22", #[⟨28, .data⟩, ⟨45, .data⟩], none⟩) (v := .bool true) rfl (by kernel_rfl) (by kernel_rfl) (by kernel_rfl) (fun _ _ _ h => h) (Or.inl ⟨by rfl, fun w' hw' => by (clear hw'; go_simp)⟩) hHeld ?_
                      simp only [Act.put, sjA, sjB, sjC]
                      refine wpAnyH_done (by kernel_rfl) ?_ _
                      clear hHeld
                      go_wp2_with fail
                      go_ret
                      exact ⟨⟨false, rfl, fun e => (by cases e), fun e => absurd e HNR.out⟩, HK4.out.andNone HK3.out⟩
                    | true =>
                      have HNX : Hid (UpTo d (k + 1 + 1)) := HU.out.next HY.out HPB.out (fun j z hj hz => by
                        have : j = k := by omega
                        subst this
                        rw [HX.out] at hz
                        cases hz
                        exact hlx)
                      rw [hlx] at HLE
                      clear hlx
                      go_wp2_with fail
                    
                      clear hW4 c0 c1 c2
                      refine wp_region_held_drew (S := fun V => Kp No W4 V) (by kernel_rfl) ((Kp.refl _ _).drew) (fun hHeld => ?_)
                      refine wpAnyH_take (i := 0) (oi := ⟨some 16, .fieldAddr 157 (.tmp 4) 0, 0, "ref.go:22", #[], none⟩) (v := .pointer (some ⟨wr.heap.size, 0, none⟩)) rfl (by kernel_rfl) (by kernel_rfl) (by kernel_rfl) (fun _ _ _ h => h) (Or.inl ⟨by rfl, fun w' hw' => by (clear hw'; go_simp)⟩) hHeld ?_
                      simp only [Act.put, sjA, sjB, sjC]
                      refine wpAnyH_take (i := 1) (oi := ⟨some 17, .load 3 (.tmp 16), 3, "ref.go:22", #[⟨0, .data⟩], none⟩) (v := .int .i64 p) rfl (by kernel_rfl) (by kernel_rfl) (by kernel_rfl) (fun _ _ _ h => h) (Or.inl ⟨by rfl, fun w' hw' => by (have qq := (HV4.out _ hw').1; clear hw'; go_simp)⟩) hHeld ?_
                      simp only [Act.put, sjA, sjB, sjC]
                      refine wpAnyH_take (i := 2) (oi := ⟨some 18, .binOp BinOp.lss 3 (.tmp 17) (Operand.const (Value.int IntKind.i64 1)) 3, 4, "ref.go:22", #[⟨1, .data⟩], none⟩) (v := .bool false) rfl (by kernel_rfl) (by kernel_rfl) (by kernel_rfl) (fun _ _ _ h => h) (Or.inl ⟨by rfl, fun w' hw' => by (clear hw'; go_simp)⟩) hHeld ?_
                      simp only [Act.put, sjA, sjB, sjC]
                      refine wpAnyH_take (i := 3) (oi := ⟨some 19, .move (.tmp 18), 4, "ref.go:22", #[⟨2, .data⟩], none⟩) (v := .bool false) rfl (by kernel_rfl) (by kernel_rfl) (by kernel_rfl) (fun _ _ _ h => h) (Or.inl ⟨by rfl, fun w' hw' => by (clear hw'; go_simp)⟩) hHeld ?_
                      simp only [Act.put, sjA, sjB, sjC]
                      refine wpAnyH_take (i := 4) (oi := ⟨some 20, .fieldAddr 157 (.tmp 4) 0, 0, "ref.go:22", #[⟨3, .guard⟩], some (3, false)⟩) (v := .pointer (some ⟨wr.heap.size, 0, none⟩)) rfl (by kernel_rfl) (by kernel_rfl) (by kernel_rfl) (fun _ _ _ h => h) (Or.inl ⟨by rfl, fun w' hw' => by (clear hw'; go_simp)⟩) hHeld ?_
                      simp only [Act.put, sjA, sjB, sjC]
                      refine wpAnyH_take (i := 5) (oi := ⟨some 21, .load 3 (.tmp 20), 3, "ref.go:22", #[⟨4, .data⟩, ⟨3, .guard⟩], some (3, false)⟩) (v := .int .i64 p) rfl (by kernel_rfl) (by kernel_rfl) (by kernel_rfl) (fun _ _ _ h => h) (Or.inl ⟨by rfl, fun w' hw' => by (have qq := (HV4.out _ hw').1; clear hw'; go_simp)⟩) hHeld ?_
                      simp only [Act.put, sjA, sjB, sjC]
                      refine wpAnyH_take (i := 6) (oi := ⟨some 22, .binOp BinOp.gtr 3 (.tmp 21) (Operand.const (Value.int IntKind.i64 999999)) 3, 4, "ref.go:22", #[⟨5, .data⟩, ⟨3, .guard⟩], some (3, false)⟩) (v := .bool false) rfl (by kernel_rfl) (by kernel_rfl) (by kernel_rfl) (fun _ _ _ h => h) (Or.inl ⟨by rfl, fun w' hw' => by (clear hw'; go_simp)⟩) hHeld ?_
                      simp only [Act.put, sjA, sjB, sjC]
                      refine wpAnyH_take (i := 7) (oi := ⟨some 23, .pick (.tmp 19) (Operand.const (Value.bool true)) (.tmp 22), 4, "ref.go:22", #[⟨3, .data⟩, ⟨6, .data⟩], none⟩) (v := .bool false) rfl (by kernel_rfl) (by kernel_rfl) (by kernel_rfl) (fun _ _ _ h => h) (Or.inl ⟨by rfl, fun w' hw' => by (clear hw'; go_simp)⟩) hHeld ?_
                      simp only [Act.put, sjA, sjB, sjC]
                      refine wpAnyH_take (i := 8) (oi := ⟨some 24, .move (.tmp 23), 4, "ref.go:22", #[⟨7, .data⟩, ⟨3, .chain⟩], none⟩) (v := .bool false) rfl (by kernel_rfl) (by kernel_rfl) (by kernel_rfl) (fun _ _ _ h => h) (Or.inl ⟨by rfl, fun w' hw' => by (clear hw'; go_simp)⟩) hHeld ?_
                      simp only [Act.put, sjA, sjB, sjC]
                      refine wpAnyH_take (i := 9) (oi := ⟨some 25, .fieldAddr 157 (.tmp 4) 1, 0, "ref.go:22", #[⟨8, .guard⟩], some (8, false)⟩) (v := .pointer (some ⟨wr.heap.size, 1, none⟩)) rfl (by kernel_rfl) (by kernel_rfl) (by kernel_rfl) (fun _ _ _ h => h) (Or.inl ⟨by rfl, fun w' hw' => by (clear hw'; go_simp)⟩) hHeld ?_
                      simp only [Act.put, sjA, sjB, sjC]
                      refine wpAnyH_take (i := 10) (oi := ⟨some 26, .load 3 (.tmp 25), 3, "ref.go:22", #[⟨9, .data⟩, ⟨8, .guard⟩], some (8, false)⟩) (v := .int .i64 q) rfl (by kernel_rfl) (by kernel_rfl) (by kernel_rfl) (fun _ _ _ h => h) (Or.inl ⟨by rfl, fun w' hw' => by (have qq := (HV4.out _ hw').2.1; clear hw'; go_simp)⟩) hHeld ?_
                      simp only [Act.put, sjA, sjB, sjC]
                      refine wpAnyH_take (i := 11) (oi := ⟨some 27, .binOp BinOp.lss 3 (.tmp 26) (Operand.const (Value.int IntKind.i64 0)) 3, 4, "ref.go:22", #[⟨10, .data⟩, ⟨8, .guard⟩], some (8, false)⟩) (v := .bool false) rfl (by kernel_rfl) (by kernel_rfl) (by kernel_rfl) (fun _ _ _ h => h) (Or.inl ⟨by rfl, fun w' hw' => by (clear hw'; go_simp)⟩) hHeld ?_
                      simp only [Act.put, sjA, sjB, sjC]
                      refine wpAnyH_take (i := 12) (oi := ⟨some 28, .pick (.tmp 24) (Operand.const (Value.bool true)) (.tmp 27), 4, "ref.go:22", #[⟨8, .data⟩, ⟨11, .data⟩], none⟩) (v := .bool false) rfl (by kernel_rfl) (by kernel_rfl) (by kernel_rfl) (fun _ _ _ h => h) (Or.inl ⟨by rfl, fun w' hw' => by (clear hw'; go_simp)⟩) hHeld ?_
                      simp only [Act.put, sjA, sjB, sjC]
                      refine wpAnyH_take (i := 13) (oi := ⟨some 29, .move (.tmp 28), 4, "ref.go:22", #[⟨12, .data⟩, ⟨8, .chain⟩], none⟩) (v := .bool false) rfl (by kernel_rfl) (by kernel_rfl) (by kernel_rfl) (fun _ _ _ h => h) (Or.inl ⟨by rfl, fun w' hw' => by (clear hw'; go_simp)⟩) hHeld ?_
                      simp only [Act.put, sjA, sjB, sjC]
                      refine wpAnyH_take (i := 14) (oi := ⟨some 30, .fieldAddr 157 (.tmp 4) 1, 0, "ref.go:22", #[⟨13, .guard⟩], some (13, false)⟩) (v := .pointer (some ⟨wr.heap.size, 1, none⟩)) rfl (by kernel_rfl) (by kernel_rfl) (by kernel_rfl) (fun _ _ _ h => h) (Or.inl ⟨by rfl, fun w' hw' => by (clear hw'; go_simp)⟩) hHeld ?_
                      simp only [Act.put, sjA, sjB, sjC]
                      refine wpAnyH_take (i := 15) (oi := ⟨some 31, .load 3 (.tmp 30), 3, "ref.go:22", #[⟨14, .data⟩, ⟨13, .guard⟩], some (13, false)⟩) (v := .int .i64 q) rfl (by kernel_rfl) (by kernel_rfl) (by kernel_rfl) (fun _ _ _ h => h) (Or.inl ⟨by rfl, fun w' hw' => by (have qq := (HV4.out _ hw').2.1; clear hw'; go_simp)⟩) hHeld ?_
                      simp only [Act.put, sjA, sjB, sjC]
                      refine wpAnyH_take (i := 16) (oi := ⟨some 32, .binOp BinOp.gtr 3 (.tmp 31) (Operand.const (Value.int IntKind.i64 12000)) 3, 4, "ref.go:22", #[⟨15, .data⟩, ⟨13, .guard⟩], some (13, false)⟩) (v := .bool false) rfl (by kernel_rfl) (by kernel_rfl) (by kernel_rfl) (fun _ _ _ h => h) (Or.inl ⟨by rfl, fun w' hw' => by (clear hw'; go_simp)⟩) hHeld ?_
                      simp only [Act.put, sjA, sjB, sjC]
                      refine wpAnyH_take (i := 17) (oi := ⟨some 33, .pick (.tmp 29) (Operand.const (Value.bool true)) (.tmp 32), 4, "ref.go:22", #[⟨13, .data⟩, ⟨16, .data⟩], none⟩) (v := .bool false) rfl (by kernel_rfl) (by kernel_rfl) (by kernel_rfl) (fun _ _ _ h => h) (Or.inl ⟨by rfl, fun w' hw' => by (clear hw'; go_simp)⟩) hHeld ?_
                      simp only [Act.put, sjA, sjB, sjC]
                      refine wpAnyH_take (i := 18) (oi := ⟨some 34, .move (.tmp 33), 4, "ref.go:22", #[⟨17, .data⟩, ⟨13, .chain⟩], none⟩) (v := .bool false) rfl (by kernel_rfl) (by kernel_rfl) (by kernel_rfl) (fun _ _ _ h => h) (Or.inl ⟨by rfl, fun w' hw' => by (clear hw'; go_simp)⟩) hHeld ?_
                      simp only [Act.put, sjA, sjB, sjC]
                      refine wpAnyH_take (i := 19) (oi := ⟨some 35, .fieldAddr 157 (.tmp 4) 2, 0, "ref.go:22", #[⟨18, .guard⟩], some (18, false)⟩) (v := .pointer (some ⟨wr.heap.size, 2, none⟩)) rfl (by kernel_rfl) (by kernel_rfl) (by kernel_rfl) (fun _ _ _ h => h) (Or.inl ⟨by rfl, fun w' hw' => by (clear hw'; go_simp)⟩) hHeld ?_
                      simp only [Act.put, sjA, sjB, sjC]
                      refine wpAnyH_take (i := 20) (oi := ⟨some 36, .load 3 (.tmp 35), 3, "ref.go:22", #[⟨19, .data⟩, ⟨18, .guard⟩], some (18, false)⟩) (v := .int .i64 r) rfl (by kernel_rfl) (by kernel_rfl) (by kernel_rfl) (fun _ _ _ h => h) (Or.inl ⟨by rfl, fun w' hw' => by (have qq := (HV4.out _ hw').2.2; clear hw'; go_simp)⟩) hHeld ?_
                      simp only [Act.put, sjA, sjB, sjC]
                      refine wpAnyH_take (i := 21) (oi := ⟨some 37, .binOp BinOp.lss 3 (.tmp 36) (Operand.const (Value.int IntKind.i64 1)) 3, 4, "ref.go:22", #[⟨20, .data⟩, ⟨18, .guard⟩], some (18, false)⟩) (v := .bool false) rfl (by kernel_rfl) (by kernel_rfl) (by kernel_rfl) (fun _ _ _ h => h) (Or.inl ⟨by rfl, fun w' hw' => by (clear hw'; go_simp)⟩) hHeld ?_
                      simp only [Act.put, sjA, sjB, sjC]
                      refine wpAnyH_take (i := 22) (oi := ⟨some 38, .pick (.tmp 34) (Operand.const (Value.bool true)) (.tmp 37), 4, "ref.go:22", #[⟨18, .data⟩, ⟨21, .data⟩], none⟩) (v := .bool false) rfl (by kernel_rfl) (by kernel_rfl) (by kernel_rfl) (fun _ _ _ h => h) (Or.inl ⟨by rfl, fun w' hw' => by (clear hw'; go_simp)⟩) hHeld ?_
                      simp only [Act.put, sjA, sjB, sjC]
                      refine wpAnyH_take (i := 23) (oi := ⟨some 39, .move (.tmp 38), 4, "ref.go:22", #[⟨22, .data⟩, ⟨18, .chain⟩], none⟩) (v := .bool false) rfl (by kernel_rfl) (by kernel_rfl) (by kernel_rfl) (fun _ _ _ h => h) (Or.inl ⟨by rfl, fun w' hw' => by (clear hw'; go_simp)⟩) hHeld ?_
                      simp only [Act.put, sjA, sjB, sjC]
                      refine wpAnyH_take (i := 24) (oi := ⟨some 40, .fieldAddr 157 (.tmp 4) 2, 0, "ref.go:22", #[⟨23, .guard⟩], some (23, false)⟩) (v := .pointer (some ⟨wr.heap.size, 2, none⟩)) rfl (by kernel_rfl) (by kernel_rfl) (by kernel_rfl) (fun _ _ _ h => h) (Or.inl ⟨by rfl, fun w' hw' => by (clear hw'; go_simp)⟩) hHeld ?_
                      simp only [Act.put, sjA, sjB, sjC]
                      refine wpAnyH_take (i := 25) (oi := ⟨some 41, .load 3 (.tmp 40), 3, "ref.go:22", #[⟨24, .data⟩, ⟨23, .guard⟩], some (23, false)⟩) (v := .int .i64 r) rfl (by kernel_rfl) (by kernel_rfl) (by kernel_rfl) (fun _ _ _ h => h) (Or.inl ⟨by rfl, fun w' hw' => by (have qq := (HV4.out _ hw').2.2; clear hw'; go_simp)⟩) hHeld ?_
                      simp only [Act.put, sjA, sjB, sjC]
                      refine wpAnyH_take (i := 26) (oi := ⟨some 42, .binOp BinOp.gtr 3 (.tmp 41) (Operand.const (Value.int IntKind.i64 12000)) 3, 4, "ref.go:22", #[⟨25, .data⟩, ⟨23, .guard⟩], some (23, false)⟩) (v := .bool false) rfl (by kernel_rfl) (by kernel_rfl) (by kernel_rfl) (fun _ _ _ h => h) (Or.inl ⟨by rfl, fun w' hw' => by (clear hw'; go_simp)⟩) hHeld ?_
                      simp only [Act.put, sjA, sjB, sjC]
                      refine wpAnyH_take (i := 27) (oi := ⟨some 43, .pick (.tmp 39) (Operand.const (Value.bool true)) (.tmp 42), 4, "ref.go:22", #[⟨23, .data⟩, ⟨26, .data⟩], none⟩) (v := .bool false) rfl (by kernel_rfl) (by kernel_rfl) (by kernel_rfl) (fun _ _ _ h => h) (Or.inl ⟨by rfl, fun w' hw' => by (clear hw'; go_simp)⟩) hHeld ?_
                      simp only [Act.put, sjA, sjB, sjC]
                      refine wpAnyH_take (i := 28) (oi := ⟨some 44, .move (.tmp 43), 4, "ref.go:22", #[⟨27, .data⟩, ⟨23, .chain⟩], none⟩) (v := .bool false) rfl (by kernel_rfl) (by kernel_rfl) (by kernel_rfl) (fun _ _ _ h => h) (Or.inl ⟨by rfl, fun w' hw' => by (clear hw'; go_simp)⟩) hHeld ?_
                      simp only [Act.put, sjA, sjB, sjC]
                      refine wpAnyH_take (i := 29) (oi := ⟨some 45, .move (.tmp 3), 3, "ref.go:22", #[⟨28, .guard⟩], some (28, false)⟩) (v := .int .i64 ((k + 1 : Nat) : Int)) rfl (by kernel_rfl) (by kernel_rfl) (by kernel_rfl) (fun _ _ _ h => h) (Or.inl ⟨by rfl, fun w' hw' => by (clear hw'; go_simp)⟩) hHeld ?_
                      simp only [Act.put, sjA, sjB, sjC]
                      refine wpAnyH_take (i := 30) (oi := ⟨some 46, .binOp BinOp.gtr 3 (.tmp 45) (Operand.const (Value.int IntKind.i64 0)) 3, 4, "ref.go:22", #[⟨29, .data⟩, ⟨28, .guard⟩], some (28, false)⟩) (v := .bool true) rfl (by kernel_rfl) (by kernel_rfl) (by kernel_rfl) (fun _ _ _ h => h) (Or.inl ⟨by rfl, fun w' hw' => by (clear hw'; go_simp)⟩) hHeld ?_
                      simp only [Act.put, sjA, sjB, sjC]
                      refine wpAnyH_take (i := 31) (oi := ⟨some 47, .move (.tmp 46), 4, "ref.go:22", #[⟨30, .data⟩, ⟨28, .chain⟩, ⟨28, .guard⟩], some (28, false)⟩) (v := .bool true) rfl (by kernel_rfl) (by kernel_rfl) (by kernel_rfl) (fun _ _ _ h => h) (Or.inl ⟨by rfl, fun w' hw' => by (clear hw'; go_simp)⟩) hHeld ?_
                      simp only [Act.put, sjA, sjB, sjC]
                      refine wpAnyH_take (i := 32) (oi := ⟨some 48, .move (.tmp 0), 77, "ref.go:22", #[⟨31, .guard⟩], some (31, true)⟩) (v := .slice (some ⟨g, o, none⟩) n c) rfl (by kernel_rfl) (by kernel_rfl) (by kernel_rfl) (fun _ _ _ h => h) (Or.inl ⟨by rfl, fun w' hw' => by (clear hw'; go_simp)⟩) hHeld ?_
                      simp only [Act.put, sjA, sjB, sjC]
                      refine wpAnyH_take (i := 33) (oi := ⟨some 49, .move (.tmp 3), 3, "ref.go:22", #[⟨31, .guard⟩], some (31, true)⟩) (v := .int .i64 ((k + 1 : Nat) : Int)) rfl (by kernel_rfl) (by kernel_rfl) (by kernel_rfl) (fun _ _ _ h => h) (Or.inl ⟨by rfl, fun w' hw' => by (clear hw'; go_simp)⟩) hHeld ?_
                      simp only [Act.put, sjA, sjB, sjC]
                      refine wpAnyH_take (i := 34) (oi := ⟨some 50, .binOp BinOp.sub 3 (.tmp 49) (Operand.const (Value.int IntKind.i64 1)) 3, 3, "ref.go:22", #[⟨33, .data⟩, ⟨31, .guard⟩], some (31, true)⟩) (v := .int .i64 (k : Int)) rfl (by kernel_rfl) (by kernel_rfl) (by kernel_rfl) (fun _ _ _ h => h) (Or.inl ⟨by rfl, fun w' hw' => by (clear hw'; go_simp)⟩) hHeld ?_
                      simp only [Act.put, sjA, sjB, sjC]
                      refine wpAnyH_take (i := 35) (oi := ⟨some 51, .indexAddr 77 (.tmp 48) (.tmp 50), 0, "ref.go:22", #[⟨32, .data⟩, ⟨34, .data⟩, ⟨31, .guard⟩], some (31, true)⟩) (v := .pointer (some ⟨g, o + k * 35, none⟩)) rfl (by kernel_rfl) (by kernel_rfl) (by kernel_rfl) (fun _ _ _ h => h) (Or.inl ⟨by rfl, fun w' hw' => by (clear hw'; go_simp)⟩) hHeld ?_
                      simp only [Act.put, sjA, sjB, sjC]
                      refine wpAnyH_take (i := 36) (oi := ⟨some 52, .fieldAddr 159 (.tmp 51) 0, 0, "ref.go:22", #[⟨35, .data⟩, ⟨31, .guard⟩], some (31, true)⟩) (v := .pointer (some ⟨g, o + k * 35, none⟩)) rfl (by kernel_rfl) (by kernel_rfl) (by kernel_rfl) (fun _ _ _ h => h) (Or.inl ⟨by rfl, fun w' hw' => by (clear hw'; go_simp)⟩) hHeld ?_
                      simp only [Act.put, sjA, sjB, sjC]
                      refine wpAnyH_take (i := 37) (oi := ⟨some 53, .load 53 (.tmp 52), 53, "ref.go:22", #[⟨36, .data⟩, ⟨31, .guard⟩], some (31, true)⟩) (v := .agg bx.toArray) rfl (by kernel_rfl) (by kernel_rfl) (by kernel_rfl) (fun _ _ _ h => h) (yieldsIf_load_mid (by rfl) _ _ rfl g (o + k * 35) rfl bx _ (HLX.out) Tryz.underlying53 rfl HI1.out) hHeld ?_
                      simp only [Act.put, sjA, sjB, sjC]
                      refine wpAnyH_take (i := 38) (oi := ⟨some 54, .move (.tmp 0), 77, "ref.go:22", #[⟨31, .guard⟩], some (31, true)⟩) (v := .slice (some ⟨g, o, none⟩) n c) rfl (by kernel_rfl) (by kernel_rfl) (by kernel_rfl) (fun _ _ _ h => h) (Or.inl ⟨by rfl, fun w' hw' => by (clear hw'; go_simp)⟩) hHeld ?_
                      simp only [Act.put, sjA, sjB, sjC]
                      refine wpAnyH_take (i := 39) (oi := ⟨some 55, .move (.tmp 3), 3, "ref.go:22", #[⟨31, .guard⟩], some (31, true)⟩) (v := .int .i64 ((k + 1 : Nat) : Int)) rfl (by kernel_rfl) (by kernel_rfl) (by kernel_rfl) (fun _ _ _ h => h) (Or.inl ⟨by rfl, fun w' hw' => by (clear hw'; go_simp)⟩) hHeld ?_
                      simp only [Act.put, sjA, sjB, sjC]
                      refine wpAnyH_take (i := 40) (oi := ⟨some 56, .indexAddr 77 (.tmp 54) (.tmp 55), 0, "ref.go:22", #[⟨38, .data⟩, ⟨39, .data⟩, ⟨31, .guard⟩], some (31, true)⟩) (v := .pointer (some ⟨g, o + (k + 1) * 35, none⟩)) rfl (by kernel_rfl) (by kernel_rfl) (by kernel_rfl) (fun _ _ _ h => h) (Or.inl ⟨by rfl, fun w' hw' => by (clear hw'; go_simp)⟩) hHeld ?_
                      simp only [Act.put, sjA, sjB, sjC]
                      refine wpAnyH_take (i := 41) (oi := ⟨some 57, .fieldAddr 159 (.tmp 56) 0, 0, "ref.go:22", #[⟨40, .data⟩, ⟨31, .guard⟩], some (31, true)⟩) (v := .pointer (some ⟨g, o + (k + 1) * 35, none⟩)) rfl (by kernel_rfl) (by kernel_rfl) (by kernel_rfl) (fun _ _ _ h => h) (Or.inl ⟨by rfl, fun w' hw' => by (clear hw'; go_simp)⟩) hHeld ?_
                      simp only [Act.put, sjA, sjB, sjC]
                      refine wpAnyH_take (i := 42) (oi := ⟨some 58, .load 53 (.tmp 57), 53, "ref.go:22", #[⟨41, .data⟩, ⟨31, .guard⟩], some (31, true)⟩) (v := .agg bY.toArray) rfl (by kernel_rfl) (by kernel_rfl) (by kernel_rfl) (fun _ _ _ h => h) (yieldsIf_load_mid (by rfl) _ _ rfl g (o + (k + 1) * 35) rfl bY _ (HLY.out) Tryz.underlying53 rfl HI2.out) hHeld ?_
                      simp only [Act.put, sjA, sjB, sjC]
                      refine wpAnyH_ready (rs := [43]) (by kernel_rfl) (by simp) ?_
                      refine AllReadyH.cons (o := ⟨some 59, .call { callee := Callee.value (Operand.func 73), args := #[.tmp 53, .tmp 58], argTypes := #[53, 53] }, 4, "ref.go:22", #[⟨37, .data⟩, ⟨42, .data⟩, ⟨31, .chain⟩, ⟨31, .guard⟩], some (31, true)⟩) rfl (fun K hK => ?_) AllReadyH.nil
                      go_simp
                      refine (HLE.out _).mono ?_
                      rintro e w3 ⟨rfl, hb3⟩
                      have HK3 : Hid (Kp No W4 w3) := ((Kp.refl No W4).drew).andNone hb3
                      clear hb3
                      go_wp2_with fail
                      refine hK.out _ _ (HK3.out) (fun hh => ?_)
                      clear hK K hHeld
                      have hHeld := hh
                      clear hh
                      try simp only [Act.put, sjA, sjB, sjC]
                      refine wpAnyH_take (i := 44) (oi := ⟨some 60, .unOp UnOp.not 4 (.tmp 59), 4, "ref.go:22", #[⟨43, .data⟩, ⟨31, .guard⟩], some (31, true)⟩) (v := .bool false) rfl (by kernel_rfl) (by kernel_rfl) (by kernel_rfl) (fun _ _ _ h => h) (Or.inl ⟨by rfl, fun w' hw' => by (clear hw'; go_simp)⟩) hHeld ?_
                      simp only [Act.put, sjA, sjB, sjC]
                      refine wpAnyH_take (i := 45) (oi := ⟨some 61, .pick (.tmp 47) (.tmp 60) (Operand.const (Value.bool false)), 4, "ref.go:22", #[⟨31, .data⟩, ⟨44, .data⟩, ⟨28, .guard⟩], some (28, false)⟩) (v := .bool false) rfl (by kernel_rfl) (by kernel_rfl) (by kernel_rfl) (fun _ _ _ h => h) (Or.inl ⟨by rfl, fun w' hw' => by (clear hw'; go_simp)⟩) hHeld ?_
                      simp only [Act.put, sjA, sjB, sjC]
                      refine wpAnyH_take (i := 46) (oi := ⟨some 62, .pick (.tmp 44) (Operand.const (Value.bool true)) (.tmp 61), 4, "ref.go:22", #[⟨28, .data⟩, ⟨45, .data⟩], none⟩) (v := .bool false) rfl (by kernel_rfl) (by kernel_rfl) (by kernel_rfl) (fun _ _ _ h => h) (Or.inl ⟨by rfl, fun w' hw' => by (clear hw'; go_simp)⟩) hHeld ?_
                      simp only [Act.put, sjA, sjB, sjC]
                      refine wpAnyH_done (by kernel_rfl) ?_ _
                      clear hHeld
                      go_wp2_with fail
                      go_round
                      case rel => exact ⟨k + 1 + 1, by first | rfl | go_num, by omega, HNX.out, HK4.out.andNone HK3.out⟩
                      case measure => simp [intOf]; omega
    · have hltI : ¬ (k : Int) < (n : Int) := by omega
      have HE : Hid (UpTo d d.length) := by rw [Hid, HN.out, ← show k = n by omega]; exact HU.out
      obtain ⟨z, hz⟩ : ∃ z, decide ((n : Int) ≤ 900) = z := ⟨_, rfl⟩
      have HZ : Hid (z = true ↔ RightP d) := by
        rw [Hid, ← hz, decide_eq_true_eq, RightP, HN.out]
        exact ⟨fun h => ⟨by omega, by rw [← HN.out]; exact HE.out⟩, fun h => by omega⟩
      go_wp2_with fail
      go_ret
      exact ⟨⟨z, by first | (rw [← hz]; rfl) | (simp [← hz]), HZ.out⟩, HK.out⟩
end Go.Proofs.YthmimipoooemjaaGreatDoor.Sg
end
