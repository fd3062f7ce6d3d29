/-
  The reference's Up: memory between its loops.
-/
import Derived.Test.YtmiipifhbliamaaGreatSimRApp
namespace Go.Proofs.YtmiipifhbliamaaGreat.Sim
open Go.RowKit Go.Maps

/-- The first loop: the safe directory of the first i changes. -/
structure U1 (D : Nat → Prop) (w : World) (m : Nat) (p : PS) (vF vS vC : Value) (i : Nat) (vA : Value) (wr : World) : Prop where
  kp : Kp (· = m) w wr
  blk : Blk wr m 44 (rfsCells p vF vS vA vC)
  en : EnP (fun x => D x ∨ w.heap.size ≤ x) wr vA ((p.chg.take i).foldl pdo p.safe)

/-! ### The world as it would be with the changes struck -/
def gh (m : Nat) (W : World) : World := W.setCell ⟨m, 4, none⟩ (.slice none 0 0)
theorem gh_size (m : Nat) (W : World) : (gh m W).heap.size = W.heap.size := by unfold gh; simp
theorem gh_cell {m : Nat} {W : World} {b j : Nat} (h : b ≠ m ∨ j ≠ 4) : (gh m W).cell? ⟨b, j, none⟩ = W.cell? ⟨b, j, none⟩ := by
  unfold gh
  refine World.cell?_setCell_other _ _ _ _ (fun e => ?_)
  simp only [Addr.mk.injEq, and_true] at e
  rcases h with h | h
  · exact h e.1.symm
  · exact h e.2.symm
theorem gh_frozen {m : Nat} {W : World} (a : Addr) : (gh m W).frozen? a = W.frozen? a := by unfold gh; simp
theorem gh_kp {L : Nat → Prop} {m : Nat} {u v : World} (k : Kp L u v) (hm : m < u.heap.size) (hL : ¬ L m) : Kp L (gh m u) (gh m v) :=
  ⟨k.os, k.tape, k.output, by rw [gh_size, gh_size]; exact k.size, fun x hx hn => by
    rw [gh_size] at hx
    unfold gh World.setCell
    simp only [Array.getElem?_modify]
    split
    · rename_i e; subst e; rw [k.block m hm hL]
    · exact k.block x hx hn⟩
theorem gh_set {m g i : Nat} {W : World} {u : Value} (hg : g ≠ m) : gh m (W.setCell ⟨g, i, none⟩ u) = (gh m W).setCell ⟨g, i, none⟩ u := by
  unfold gh World.setCell
  simp only [World.mk.injEq, and_true]
  apply Array.ext_getElem?
  intro x
  simp only [Array.getElem?_modify]
  by_cases h1 : m = x
  · have h2 : ¬ g = x := fun e => hg (e.trans h1.symm)
    rw [if_pos h1, if_neg h2, if_neg h2, if_pos h1]
  · rw [if_neg h1]
    split <;> rfl

/-- Behind the first loop. -/
theorem u2_start {Q D : Nat → Prop} {w w1 w2 : World} {m : Nat} {p : PS} {vF vS vA0 vC vA : Value} {us : List Value} {F : List Fl} {K : Nat} (h : Rr Q D w m p vF vS vA0 vC us F) (hu : U1 D w m p vF vS vC K vA w1) (k : Kp No w1 w2) :
    Rr (fun x => Q x ∨ (w.heap.size ≤ x ∧ x < w1.heap.size)) (fun x => D x ∨ (w.heap.size ≤ x ∧ x < w1.heap.size)) (gh m w2) m (settle K p) vF vS vA (.slice none 0 0) us F ∧ Kp (· = m) w (gh m w2) := by
  have hml := h.lt m h.qm
  have ks1 := hu.kp.size
  have ks2 := k.size
  have K1 : Kp (· = m) w (gh m w2) := (hu.kp.andNone k).trans (Kp.set1 _ _ _ _) (fun x hx => .inl hx)
  have K2 : Kp (· = m) w1 (gh m w2) := (k.mono (fun _ h => h.elim)).trans (Kp.set1 _ _ _ _) (fun x hx => .inl hx)
  refine ⟨?_, K1⟩
  exact {
    lt := fun x hx => by
      rw [gh_size]
      rcases hx with hx | hx
      · have := h.lt x hx; omega
      · omega
    qm := .inl h.qm
    dq := fun x hx => by
      rcases hx with hx | hx
      · obtain ⟨h0, h1, h2, _⟩ := h.dq x hx
        exact ⟨.inl h0, h1, h2, by simp [Value.ownBlock]⟩
      · exact ⟨.inr hx, fun e => by omega, fun e => by have := h.lt x (h.qF x e); omega, by simp [Value.ownBlock]⟩
    blk := by
      have := (hu.blk.kp k (fun h => h)).setCell 4 (.slice none 0 0)
      show Blk (gh m w2) m _ (rfsCells p vF vS vA (.slice none 0 0))
      simpa [rfsCells, gh] using this
    files := h.files
    frow := h.frow.kp K1 (fun x hx e => (h.frow.ne h.blk (by decide)) (by rw [hx, e]))
    ulen := h.ulen
    ub := fun i u f hu hf => ⟨((h.ub i u f hu hf).1.kp K1 (fun x hx _ hd => (h.dq x hd).2.1 hx)).mono (fun x _ hx => .inl hx), (h.ub i u f hu hf).2⟩
    seen := (h.seen.kp K1 (fun x hx _ hd => (h.dq x hd).2.1 hx)).mono (fun x _ hx => .inl hx)
    safe := ((hu.en.mono (Q := fun x => (D x ∨ (w.heap.size ≤ x ∧ x < w1.heap.size))) (fun x hx hd => by
      rcases hd with hd | hd
      · exact .inl hd
      · exact .inr ⟨hd, hx⟩)).kp K2 (fun x hx _ hd => by
        rcases hd with hd | hd
        · exact (h.dq x hd).2.1 hx
        · omega))
    ris := h.ris.fold _
    crow := Row.nil _ _ _
    qF := fun x hx => .inl (h.qF x hx)
    qC := by simp [Value.ownBlock] }

/-- A file keeps its first bytes, all safe. -/
theorem u2_step {Q D : Nat → Prop} {w : World} {m : Nat} {r : PS} {vF vS vA : Value} {us : List Value} {F : List Fl} {b g cap uc : Nat} {f : Fl} {ua : Option Addr} (h : Rr Q D (gh m w) m r vF vS vA (.slice none 0 0) us F) (hR : RFileAt D (gh m w) vF us F b f g cap uc ua) (n : Nat) (hn : n ≤ f.b.length) (hs : f.safe ≤ n) :
    ∃ us', Rr Q D (gh m ((w.setCell ⟨g, b * 2, none⟩ (.slice ua n uc)).setCell ⟨g, b * 2 + 1, none⟩ (.int .i64 (n : Int)))) m (setF b ⟨f.b.take n, n⟩ r) vF vS vA (.slice none 0 0) us' (F.set b ⟨f.b.take n, n⟩) ∧ Q g ∧ g ≠ m := by
  obtain ⟨o1, o2, o3, o4⟩ := RFileAt.out h hR
  have hl : (f.b.take n).length = n := List.length_take_of_le hn
  have hby : ByP (fun x => D x ∨ No x) (gh m w) (.slice ua n uc) (f.b.take n) := by
    obtain ⟨a, c, e, q1, q2, q3, q4, q5, q6⟩ := hR.by'
    simp only [Value.slice.injEq] at e
    obtain ⟨rfl, _, rfl⟩ := e
    refine ⟨ua, uc, by rw [hl], by omega, q2, fun ha => ?_, by omega, fun x hx => q5 x (List.mem_of_mem_take hx), fun hne => ?_⟩
    · obtain ⟨e1, e2⟩ := q3 ha
      rw [e1]
      exact ⟨List.take_nil, e2⟩
    · obtain ⟨g', o, e1, e2, e3, e4⟩ := q6 (fun e => hne (by rw [e]; exact List.take_nil))
      refine ⟨g', o, e1, .inl e2, e3, fun i hi => ?_⟩
      rw [hl] at hi
      rw [e4 i (by omega), List.getD_eq_getElem?_getD, List.getD_eq_getElem?_getD, List.getElem?_take_of_lt hi]
  obtain ⟨r1, _⟩ := rr_bytes h hR (Kp.refl No _) (f.b.take n) (.slice ua n uc) No (fun x hx => hx.elim) hby (by rw [hl]; exact hs)
  have hb' : (setF b ⟨f.b.take n, f.safe⟩ r).files b = some ⟨f.b.take n, f.safe⟩ := by
    show (if b = b then some (⟨f.b.take n, f.safe⟩ : Fl) else r.files b) = _
    rw [if_pos rfl]
  obtain ⟨g2, cap2, uc2, ua2, hR2⟩ := r1.file hb'
  have eg : g2 = g := by
    have e := hR2.vF.symm.trans hR.vF
    simp only [Value.slice.injEq, Option.some.injEq, Addr.mk.injEq, and_true] at e
    exact e.1
  subst eg
  obtain ⟨r2, _⟩ := rr_safe r1 hR2 n (by rw [hl]; exact Nat.le_refl _)
  rw [gh_set o2, gh_set o2]
  have es : setF b ⟨f.b.take n, n⟩ (setF b ⟨f.b.take n, f.safe⟩ r) = setF b ⟨f.b.take n, n⟩ r := by
    unfold setF
    simp only [PS.mk.injEq, true_and]
    funext x
    split <;> rfl
  have eF : (F.set b ⟨f.b.take n, f.safe⟩).set b ⟨f.b.take n, n⟩ = F.set b ⟨f.b.take n, n⟩ := by simp
  rw [es, eF] at r2
  refine ⟨us.set b (.slice ua n uc), ?_, o1, o2⟩
  have eQ : (fun x => Q x ∨ ((gh m w).heap.size ≤ x ∧ x < (gh m w).heap.size)) = Q := by
    funext x
    have : ¬ ((gh m w).heap.size ≤ x ∧ x < (gh m w).heap.size) := by omega
    simp [this]
  have eD : (fun x => D x ∨ No x) = D := by
    funext x
    simp [No]
  rw [eQ, eD] at r2
  exact r2

/-- What was safe is seen. -/
theorem rr_up {Q D : Nat → Prop} {w W : World} {m : Nat} {r : PS} {vF vS vA : Value} {us : List Value} {F : List Fl} (h : Rr Q D w m r vF vS vA (.slice none 0 0) us F) (hc : r.chg = []) (k : Kp (· = m) w W)
    (hb : Blk W m 44 (rfsCells { r with seen := r.safe, down := false, armed := false, left := 0 } vF vA vA (.slice none 0 0))) : Rr Q D W m { r with seen := r.safe, down := false, armed := false, left := 0 } vF vA vA (.slice none 0 0) us F where
  lt := fun x hx => Nat.lt_of_lt_of_le (h.lt x hx) k.size
  qm := h.qm
  dq := h.dq
  blk := hb
  files := h.files
  frow := h.frow.kp k (fun x hx e => (h.frow.ne h.blk (by decide)) (by rw [hx, e]))
  ulen := h.ulen
  ub := fun i u f hu hf => ⟨(h.ub i u f hu hf).1.kp k (fun x hx _ hd => (h.dq x hd).2.1 hx), (h.ub i u f hu hf).2⟩
  seen := h.safe.kp k (fun x hx _ hd => (h.dq x hd).2.1 hx)
  safe := h.safe.kp k (fun x hx _ hd => (h.dq x hd).2.1 hx)
  ris := h.ris
  crow := by
    show Row W _ 4 _ r.chg.length (rchgs r.safe r.chg)
    rw [hc]
    exact Row.nil _ _ _
  qF := h.qF
  qC := by simp [Value.ownBlock]

end Go.Proofs.YtmiipifhbliamaaGreat.Sim
