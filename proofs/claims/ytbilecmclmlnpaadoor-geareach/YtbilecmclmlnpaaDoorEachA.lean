/-
  Each: a function over a copy of the bytes.
-/
import Derived.Test.YtbilecmclmlnpaaDoorFinds
import Derived.Test.YtbilecmclmlnpaaDoorApp
namespace Go.Proofs.YtbilecmclmlnpaaDoor
open Go.RowKit

/-- v is a slice of the bytes bs, in blocks from lo on, below hi. -/
def ByIn (lo hi : Nat) (w : World) (v : Value) (bs : List Nat) : Prop :=
  ∃ a cap, v = .slice a bs.length cap ∧ bs.length ≤ cap ∧ cap ≤ maxLen ∧ (a = none → bs = [] ∧ cap = 0) ∧ bs.length ≤ 140737488355328 ∧ (∀ x ∈ bs, x < 256) ∧
    (bs ≠ [] → ∃ g o, a = some ⟨g, o, none⟩ ∧ lo ≤ g ∧ g < hi ∧ ∀ i, i < bs.length → w.cell? ⟨g, o + i, none⟩ = some (.int .u8 (bs.getD i 0 : Nat)))

theorem ByIn.bySl {lo hi b : Nat} {w : World} {v : Value} {bs : List Nat} (h : ByIn lo hi w v bs) (hb : b < lo) (hh : hi ≤ w.heap.size) : BySl b w v bs := by
  obtain ⟨a, cap, h1, h2, h3, h4, h5, h6, h7⟩ := h
  refine ⟨a, cap, h1, h2, h3, h4, h5, h6, fun hne => ?_⟩
  obtain ⟨g, o, e, hg, hg', hc⟩ := h7 hne
  exact ⟨g, o, e, by omega, by omega, hc⟩
theorem ByIn.same {lo hi : Nat} {w w' : World} {v : Value} {bs : List Nat} (h : ByIn lo hi w v bs) (k : ∀ g, lo ≤ g → g < hi → w'.heap[g]? = w.heap[g]?) : ByIn lo hi w' v bs := by
  obtain ⟨a, cap, h1, h2, h3, h4, h5, h6, h7⟩ := h
  refine ⟨a, cap, h1, h2, h3, h4, h5, h6, fun hne => ?_⟩
  obtain ⟨g, o, e, hg, hg', hc⟩ := h7 hne
  exact ⟨g, o, e, hg, hg', fun i hi => (World.cell?_of_block (w := w) (k g hg hg')).trans (hc i hi)⟩
theorem ByIn.wide {lo hi hi' : Nat} {w : World} {v : Value} {bs : List Nat} (h : ByIn lo hi w v bs) (k : hi ≤ hi') : ByIn lo hi' w v bs := by
  obtain ⟨a, cap, h1, h2, h3, h4, h5, h6, h7⟩ := h
  refine ⟨a, cap, h1, h2, h3, h4, h5, h6, fun hne => ?_⟩
  obtain ⟨g, o, e, hg, hg', hc⟩ := h7 hne
  exact ⟨g, o, e, hg, by omega, hc⟩
theorem OwnR.byIn {w : World} {base hi : Nat} {v : Value} {xs : List Nat} (h : OwnR w base v xs) (hh : w.heap.size ≤ hi) (hl : xs.length ≤ 100000) (hx : ∀ x ∈ xs, x < 256) : ByIn base hi w v xs := by
  rcases h.2 with ⟨rfl, h0⟩ | ⟨g, cap, cur, rfl, hg, hhp, hn, hc, hs, ht⟩
  · have : xs = [] := List.length_eq_zero_iff.1 h0
    subst this
    exact ⟨_, 0, rfl, Nat.le_refl _, Nat.zero_le _, fun _ => ⟨rfl, rfl⟩, by simp, by simp, fun h => absurd rfl h⟩
  · refine ⟨_, cap, rfl, hn, hc, by simp, by omega, hx, fun _ => ⟨g, 0, rfl, hg, by have := (Array.getElem?_eq_some_iff.1 hhp).1; omega, fun i hi => ?_⟩⟩
    have h1 : w.ownsRow base 5 1 (.slice (some ⟨g, 0, none⟩) xs.length cap) xs.length (cl xs) := h
    rw [Nat.zero_add, h1.cellAt i (by omega)]
    exact cl_at xs i hi

/-- The world of a function that Each has handed back: the gear at b, below lo; its own bytes and boxes from lo on, below hi. -/
def TE (lo hi b s p q : Nat) (v : Value) (bs : List Nat) (W : World) : Prop :=
  (hi ≤ W.heap.size ∧ b < lo ∧ lo ≤ p ∧ p < hi ∧ lo ≤ q ∧ q < hi) ∧ GrX W b s ∧ ByIn lo hi W v bs ∧ W.cell? ⟨p, 0, none⟩ = some (.pointer (some ⟨b, 0, none⟩)) ∧ W.cell? ⟨q, 0, none⟩ = some v

theorem TE.below {lo hi b s p q C : Nat} {v : Value} {bs : List Nat} {U V : World} (h : TE lo hi b s p q v bs U) (k : Below C U V) (hC : hi ≤ C) : TE lo hi b s p q v bs V := by
  obtain ⟨⟨h1, h2, h3, h4, h5, h6⟩, hg, hv, hp, hq⟩ := h
  exact ⟨⟨Nat.le_trans h1 k.size, h2, h3, h4, h5, h6⟩, hg.below k (by omega), hv.same (fun g _ hg => k.block g (by omega)), (k.cell (p := ⟨p, 0, none⟩) (by simp; omega)).trans hp, (k.cell (p := ⟨q, 0, none⟩) (by simp; omega)).trans hq⟩
theorem TE.rolled {lo hi b s p q : Nat} {v : Value} {bs : List Nat} {U V : World} (h : TE lo hi b s p q v bs U) (k : Kept b U V) (g : Gr V b s 1) : TE lo hi b s p q v bs V := by
  obtain ⟨⟨h1, h2, h3, h4, h5, h6⟩, _, hv, hp, hq⟩ := h
  exact ⟨⟨Nat.le_trans h1 k.size, h2, h3, h4, h5, h6⟩, ⟨1, .inr rfl, g⟩, hv.same (fun g _ hg => k.block g (by omega) (by omega)), (k.cell (p := ⟨p, 0, none⟩) (by simp; omega) (by simp; omega)).trans hp, (k.cell (p := ⟨q, 0, none⟩) (by simp; omega) (by simp; omega)).trans hq⟩
/-- The caller stores into a block of its own. -/
theorem TE.set {lo hi b s p q : Nat} {v : Value} {bs : List Nat} {U : World} (h : TE lo hi b s p q v bs U) (z : Nat) (x : Value) (hz : z < lo) (hzb : z ≠ b) : TE lo hi b s p q v bs (U.setCell ⟨z, 0, none⟩ x) := by
  obtain ⟨⟨h1, h2, h3, h4, h5, h6⟩, ⟨f, hf, hg⟩, hv, hp, hq⟩ := h
  have k : Kept z U (U.setCell ⟨z, 0, none⟩ x) := (Kept.refl z U).setCell (p := ⟨z, 0, none⟩) rfl x
  exact ⟨⟨Nat.le_trans h1 k.size, h2, h3, h4, h5, h6⟩, ⟨f, hf, hg.kept k (Ne.symm hzb)⟩, hv.same (fun g _ hg => k.block g (by omega) (by omega)), (k.cell (p := ⟨p, 0, none⟩) (by simp; omega) (by simp; omega)).trans hp, (k.cell (p := ⟨q, 0, none⟩) (by simp; omega) (by simp; omega)).trans hq⟩
theorem TE.drew {lo hi b s p q : Nat} {v : Value} {bs : List Nat} {U : World} (h : TE lo hi b s p q v bs U) : TE lo hi b s p q v bs U.drew := h.below (Below.refl hi U).drew (Nat.le_refl _)

theorem tells_each (n lo hi b s p q : Nat) (v : Value) (bs : List Nat) :
    Tells n 29 #[.pointer (some ⟨p, 0, none⟩), .pointer (some ⟨q, 0, none⟩)] b (TE lo hi b s p q v bs) (told s bs) bs.length :=
  tells_of (TE lo hi b s p q v bs) n b s p q v bs (fun _ h => ⟨h.2.1, h.2.2.1.bySl h.1.2.1 h.1.1, h.2.2.2⟩) (fun _ _ h k g => h.rolled k g)

set_option maxHeartbeats 1000000 in
/-- Each. -/
theorem each17_any (b s : Nat) (v : Value) (bs : List Nat) (w : World) (hg : GrX w b s) (hv : BySl b w v bs) (hl : bs.length ≤ 100000) :
    Calls Tryd.prog 17 #[.pointer (some ⟨b, 0, none⟩), v] w fun e w' => ∃ v' p q, e = .returned (.func (.func 29) #[] #[.pointer (some ⟨p, 0, none⟩), .pointer (some ⟨q, 0, none⟩)]) ∧ Below w.heap.size w w' ∧ TE w.heap.size w'.heap.size b s p q v' bs w' := by
  have HX := hid (show ∀ x ∈ bs, x < 256 by obtain ⟨_, _, _, _, _, _, _, h6, _⟩ := hv; exact h6)
  have H := hid hv
  have G := hid hg
  have hb := hg.lt
  obtain ⟨a, cap, rfl, hr⟩ := hv
  clear hr hg
  go_enter Tryd.func17, Tryd.ntmps17
  go_wp2_with fail
  refine (clone_any b _ bs _ H.out hl).mono ?_
  rintro e w1 ⟨v', rfl, hown, hbel⟩
  obtain ⟨a', cap', ev, hr'⟩ := hown.byIn (hi := w1.heap.size) (Nat.le_refl _) hl HX.out
  clear hr'
  subst ev
  have HO := hid hown
  have HB := hid hbel
  clear hown hbel
  go_wp2_with fail
  refine (hashes_any _ _ _ _ _).mono ?_
  rintro e w2 ⟨rfl, hw2⟩
  have k2 : Below w1.heap.size w1 w2 := by rw [hw2]; exact ((Below.refl _ w1).alloc (Nat.le_refl _) _).alloc (by simp) _
  have bp : Boxed w2 w1.heap.size 25 (.pointer (some ⟨b, 0, none⟩)) := by rw [hw2]; exact (Boxed.new w1 25 _).alloc _
  have bq : Boxed w2 (w1.heap.size + 1) 23 (.slice a' bs.length cap') := by
    rw [hw2]
    have h := Boxed.new (w1.alloc (.cells #[.pointer (some ⟨b, 0, none⟩)] 25)) 23 (.slice a' bs.length cap')
    rwa [World.size_alloc] at h
  have HK := hid (HB.out.trans (k2.mono HB.out.size))
  have HT := hid (show TE w.heap.size w2.heap.size b s w1.heap.size (w1.heap.size + 1) (.slice a' bs.length cap') bs w2 from
    ⟨⟨Nat.le_refl _, hb, HB.out.size, bp.lt, by have := HB.out.size; omega, bq.lt⟩, G.out.below HK.out hb, ((HO.out.byIn (hi := w1.heap.size) (Nat.le_refl _) hl HX.out).same (fun g _ h2 => k2.block g h2)).wide k2.size, bp.cell, bq.cell⟩)
  clear k2 bp bq hw2
  go_wp2_with fail
  go_ret
  exact ⟨_, _, _, rfl, HK.out, HT.out⟩

set_option maxHeartbeats 1000000 in
/-- Each of no gear. -/
theorem each17_nil (b : Nat) (v : Value) (bs : List Nat) (w : World) (hv : BySl b w v bs) (hl : bs.length ≤ 100000) :
    Calls Tryd.prog 17 #[.pointer none, v] w fun e w' => ∃ p q, e = .returned (.func (.func 29) #[] #[.pointer (some ⟨p, 0, none⟩), .pointer (some ⟨q, 0, none⟩)]) ∧ Below w.heap.size w w' ∧ (w.heap.size ≤ p ∧ p < w'.heap.size ∧ w.heap.size ≤ q ∧ q < w'.heap.size) ∧ w'.cell? ⟨p, 0, none⟩ = some (.pointer none) := by
  have H := hid hv
  obtain ⟨a, cap, rfl, hr⟩ := hv
  have HX := hid hr.2.2.2.2.1
  clear hr
  go_enter Tryd.func17, Tryd.ntmps17
  go_wp2_with fail
  refine (clone_any b _ bs _ H.out hl).mono ?_
  rintro e w1 ⟨v', rfl, hown, hbel⟩
  obtain ⟨a', cap', ev, hr'⟩ := hown.byIn (hi := w1.heap.size) (Nat.le_refl _) hl HX.out
  clear hr' hown
  subst ev
  have HB := hid hbel
  clear hbel
  go_wp2_with fail
  refine (hashes_any _ _ _ _ _).mono ?_
  rintro e w2 ⟨rfl, hw2⟩
  have k2 : Below w1.heap.size w1 w2 := by rw [hw2]; exact ((Below.refl _ w1).alloc (Nat.le_refl _) _).alloc (by simp) _
  have bp : Boxed w2 w1.heap.size 25 (.pointer none) := by rw [hw2]; exact (Boxed.new w1 25 _).alloc _
  have HK := hid (HB.out.trans (k2.mono HB.out.size))
  have bq : w1.heap.size + 1 < w2.heap.size := by rw [hw2]; simp
  have HQ := hid bq
  have HP := hid bp
  clear k2 bp bq hw2
  go_wp2_with fail
  go_ret
  exact ⟨_, _, rfl, HK.out, ⟨HB.out.size, HP.out.lt, by have := HB.out.size; omega, HQ.out⟩, HP.out.cell⟩

end Go.Proofs.YtbilecmclmlnpaaDoor
