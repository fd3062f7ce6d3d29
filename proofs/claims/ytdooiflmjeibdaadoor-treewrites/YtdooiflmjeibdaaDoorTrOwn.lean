/-
  Rows of items of the call's own.
-/
import Derived.Test.YtdooiflmjeibdaaDoorTrFind3
namespace Go.Proofs.YtdooiflmjeibdaaDoor.Tr
open Go.RowKit

/-- Block g holds cells of that type. -/
def TyAt (w : World) (g : Nat) (t : TypeId) : Prop := ∃ cs fr, w.heap[g]? = some (.cells cs t fr)
theorem TyAt.ne {w : World} {g k : Nat} {s t : TypeId} (h : TyAt w g s) (h' : TyAt w k t) (ne : s ≠ t) : g ≠ k := by
  rintro rfl
  obtain ⟨_, _, h⟩ := h
  obtain ⟨_, _, h'⟩ := h'
  rw [h] at h'
  simp at h'
  exact ne h'.2.1
theorem TyAt.lt {w : World} {g : Nat} {t : TypeId} (h : TyAt w g t) : g < w.heap.size := by
  obtain ⟨_, _, h⟩ := h
  exact (Array.getElem?_eq_some_iff.1 h).1
theorem TyAt.kp {L : Nat → Prop} {w w' : World} {g : Nat} {t : TypeId} (h : TyAt w g t) (k : Kp L w w') (hg : ¬ L g) : TyAt w' g t := by
  have hl := h.lt
  obtain ⟨cs, fr, h⟩ := h
  exact ⟨cs, fr, (k.block g hl hg).trans h⟩
theorem Row.ty {w : World} {e : TypeId} {sz n : Nat} {v : Value} {xs : List Value} (h : Row w e sz v n xs) : ∀ x, v.ownBlock = some x → TyAt w x e := by
  intro x hx
  rcases h.2 with ⟨rfl, _⟩ | ⟨g, cap, cur, rfl, _, hgg, _⟩
  · simp [Value.ownBlock] at hx
  · simp [Value.ownBlock] at hx
    subst hx
    exact ⟨_, _, hgg⟩
theorem Blk.ty {w : World} {b : Nat} {t : TypeId} {cs : List Value} (h : Blk w b t cs) : TyAt w b t := ⟨_, _, h⟩

/-- Bytes in a block of bytes. -/
def ByU (w : World) (v : Value) (bs : List Nat) : Prop := ByP (fun g => TyAt w g 5) w v bs
theorem ByU.any {w : World} {v : Value} {bs : List Nat} (h : ByU w v bs) : ByP Any w v bs := ByP.any h
theorem ByU.kp {L : Nat → Prop} {w w' : World} {v : Value} {bs : List Nat} (h : ByU w v bs) (k : Kp L w w') (hL : ∀ x, L x → x < w.heap.size → ¬ TyAt w x 5) : ByU w' v bs := by
  obtain ⟨a, cap, h1, h2, h3, h4, h5, h6, h7⟩ := h
  refine ⟨a, cap, h1, h2, h3, h4, h5, h6, fun hne => ?_⟩
  obtain ⟨g, o, e, hgb, hg, hc⟩ := h7 hne
  have hn : ¬ L g := fun hx => hL g hx hg hgb
  exact ⟨g, o, e, hgb.kp k hn, Nat.lt_of_lt_of_le hg k.size, fun i hi => (k.cell (p := ⟨g, o + i, none⟩) hg hn).trans (hc i hi)⟩
theorem OwnB.byU {w : World} {v : Value} {xs : List Nat} (h : OwnB w v xs) (hl : xs.length ≤ 20000000) (hx : ∀ x ∈ xs, x < 256) : ByU w v xs := h.byP (fun x e => Row.ty h x e) hl hx
theorem ByP.lt256 {P : Nat → Prop} {w : World} {v : Value} {bs : List Nat} (h : ByP P w v bs) : ∀ x ∈ bs, x < 256 := by obtain ⟨_, _, _, _, _, _, _, h6, _⟩ := h; exact h6

def cellsI : List It → List Value → List Value
  | x :: L, u :: us => itC x u ++ cellsI L us
  | _, _ => []
theorem cellsI_snoc (x : It) (u : Value) : ∀ (L : List It) (us : List Value), us.length = L.length → cellsI (L ++ [x]) (us ++ [u]) = cellsI L us ++ itC x u
  | [], [], _ => by simp [cellsI]
  | [], _ :: _, h => by simp at h
  | _ :: _, [], h => by simp at h
  | y :: L, v :: us, h => by
    simp only [List.cons_append, cellsI, List.append_assoc]
    rw [cellsI_snoc x u L us (by simpa using h)]
theorem cellsI_length : ∀ (L : List It) (us : List Value), us.length = L.length → (cellsI L us).length = L.length * 3
  | [], [], _ => rfl
  | [], _ :: _, h => by simp at h
  | _ :: _, [], h => by simp at h
  | y :: L, v :: us, h => by
    rw [cellsI, List.length_append, cellsI_length L us (by simpa using h)]
    simp [itC]
    omega
theorem cellsI_at : ∀ (L : List It) (us : List Value) (j : Nat) (x : It) (u : Value) (r : Nat), L[j]? = some x → us[j]? = some u → r < 3 → (cellsI L us)[j * 3 + r]? = (itC x u)[r]?
  | [], _, _, _, _, _, h, _, _ => by simp at h
  | _ :: _, [], _, _, _, _, _, h, _ => by simp at h
  | y :: L, v :: us, 0, x, u, r, h1, h2, h3 => by
    simp only [List.getElem?_cons_zero, Option.some.injEq] at h1 h2
    subst h1 h2
    simp only [cellsI, Nat.zero_mul, Nat.zero_add]
    rw [List.getElem?_append_left (by simpa [itC] using h3)]
  | y :: L, v :: us, j + 1, x, u, r, h1, h2, h3 => by
    simp only [List.getElem?_cons_succ] at h1 h2
    simp only [cellsI]
    rw [List.getElem?_append_right (by simp [itC]; omega), ← cellsI_at L us j x u r h1 h2 h3]
    congr 1
    simp [itC]
    omega

/-- v is a row of the call's own, of the items xs, with bytes in blocks of bytes. -/
def IOwn (w : World) (v : Value) (xs : List It) : Prop :=
  ∃ us : List Value, us.length = xs.length ∧ Row w 33 3 v xs.length (cellsI xs us) ∧ ∀ (i : Nat) (x : It) (u : Value), xs[i]? = some x → us[i]? = some u → ByU w u x.2.2 ∧ u.oneCell' = true
theorem IOwn.nil (w : World) : IOwn w (.slice none 0 0) [] := ⟨[], rfl, Row.nil _ _ _, fun i x u h => by simp at h⟩
theorem IOwn.form {w : World} {v : Value} {xs : List It} (h : IOwn w v xs) : ∃ a cap, v = .slice a xs.length cap := by
  obtain ⟨us, _, h, _⟩ := h
  obtain ⟨a, cap, e, _⟩ := Row.shape h
  exact ⟨a, cap, e⟩
theorem IOwn.ty {w : World} {v : Value} {xs : List It} (h : IOwn w v xs) : ∀ x, v.ownBlock = some x → TyAt w x 33 := by
  obtain ⟨us, _, h, _⟩ := h
  exact Row.ty h
theorem IOwn.kp {L : Nat → Prop} {w w' : World} {v : Value} {xs : List It} (h : IOwn w v xs) (k : Kp L w w') (hv : ∀ x, v.ownBlock = some x → ¬ L x) (hL : ∀ x, L x → x < w.heap.size → ¬ TyAt w x 5) : IOwn w' v xs := by
  obtain ⟨us, hl, hr, hb⟩ := h
  exact ⟨us, hl, Row.kp hr k hv, fun i x u hx hu => ⟨(hb i x u hx hu).1.kp k hL, (hb i x u hx hu).2⟩⟩
theorem IOwn.kept {w w' : World} {v : Value} {xs : List It} (h : IOwn w v xs) (k : Kp No w w') : IOwn w' v xs := h.kp k (fun _ _ h => h) (fun _ h => h.elim)
theorem IOwn.row {w : World} {v : Value} {xs : List It} (h : IOwn w v xs) : IRow Any w v xs := by
  obtain ⟨us, hl, hr, hb⟩ := h
  have hr' := hr
  rcases hr.2 with ⟨rfl, h0⟩ | ⟨g, cap, cur, rfl, hg, hh, hn, hc, hs, ht⟩
  · have : xs = [] := List.length_eq_zero_iff.1 h0
    subst this
    exact IRow.nil _ _
  · refine ⟨_, cap, rfl, hn, hc, by simp, fun _ => ⟨g, 0, rfl, trivial, (Array.getElem?_eq_some_iff.1 hh).1, fun i x hi => ?_⟩⟩
    have hil := (List.getElem?_eq_some_iff.1 hi).1
    obtain ⟨u, hu⟩ : ∃ u, us[i]? = some u := ⟨_, List.getElem?_eq_getElem (by omega)⟩
    have hc' := fun r (hr3 : r < 3) => (Row.cellAt hr' (i * 3 + r) (by omega)).trans (cellsI_at xs us i x u r hi hu hr3)
    refine ⟨u, ?_, ?_, ?_, (hb i x u hi hu).1.any⟩
    · rw [Nat.zero_add]; exact hc' 0 (by omega)
    · rw [Nat.zero_add]; exact hc' 1 (by omega)
    · rw [Nat.zero_add]; exact hc' 2 (by omega)

theorem Tryd.infoItem : (Tryd.prog.info? 33).map (fun i => (i.zero, i.size, i.bytes)) = some (some (.agg #[.string ⟨#[]⟩, .bool false, .slice none 0 0]), 3, 48) := by kernel_rfl

/-- What lies behind an append to a row of items. -/
theorem IOwn.push {w w' : World} {v v' : Value} {xs : List It} {us : List Value} {x : It} {u : Value} (hus : us.length = xs.length)
    (hb : ∀ (i : Nat) (x : It) (u : Value), xs[i]? = some x → us[i]? = some u → ByU w u x.2.2 ∧ u.oneCell' = true) (hu : ByU w u x.2.2) (h1 : u.oneCell' = true)
    (hv : ∀ b, v.ownBlock = some b → TyAt w b 33) (hr : Row w' 33 3 v' (xs.length + 1) (cellsI xs us ++ itC x u)) (hg : w.grownBy w' v.ownBlock) : IOwn w' v' (xs ++ [x]) := by
  have k : Kp (fun b => v.ownBlock = some b) w w' := Kp.ofGrown hg
  have hL : ∀ b, v.ownBlock = some b → b < w.heap.size → ¬ TyAt w b 5 := fun b hb _ ht => (hv b hb).ne ht (by decide) rfl
  refine ⟨us ++ [u], by simp [hus], ?_, fun i y q hy hq => ?_⟩
  · rw [cellsI_snoc _ _ _ _ hus, List.length_append]
    exact hr
  · by_cases hlt : i < xs.length
    · rw [List.getElem?_append_left hlt] at hy
      rw [List.getElem?_append_left (by omega)] at hq
      exact ⟨(hb i y q hy hq).1.kp k hL, (hb i y q hy hq).2⟩
    · have e : i = xs.length := by
        have := (List.getElem?_eq_some_iff.1 hy).1
        simp at this
        omega
      subst e
      rw [List.getElem?_append_right (Nat.le_refl _)] at hy
      rw [List.getElem?_append_right (by omega)] at hq
      simp [hus] at hy hq
      subst hy hq
      exact ⟨hu.kp k hL, h1⟩

/-- append of one item. -/
theorem app_item {ops : Array Oper} {rest : List Oper} {o : Oper} {a : Act} {Q : Exit → Act → World → Prop} (w w0 : World) (hgd : o.guard = none) (s q : Operand) (ty : TypeId) (hty : Tryd.prog.underlying ty = some (.slice 33))
    (ho : o.op = .call { callee := .builtin .append, args := #[s, q], argTypes := #[ty, ty] }) (v : Value) (xs : List It) (x : It) (u : Value) (hs : a.eval s = v) (hw : w = w0.alloc (.cells #[.string x.1, .bool x.2.1, u] 33)) (hx : a.eval q = .slice (some ⟨w0.heap.size, 0, none⟩) 1 1)
    (hown : IOwn w0 v xs) (hu : ByU w0 u x.2.2) (h1 : u.oneCell' = true) (hlen : xs.length + 1 ≤ 1000000)
    (h : ∀ ad cap w', IOwn w' (.slice ad (xs.length + 1) cap) (xs ++ [x]) → w.grownBy w' v.ownBlock → ((Value.slice ad (xs.length + 1) cap).ownBlock = v.ownBlock ∨ (Value.slice ad (xs.length + 1) cap).ownBlock = some w.heap.size) → wpList Tryd.prog ops Q rest (a.put o.dst (.slice ad (xs.length + 1) cap)) w') : wpList Tryd.prog ops Q (o :: rest) a w := by
  subst hw
  have hk : Kp No w0 (w0.alloc (.cells #[.string x.1, .bool x.2.1, u] 33)) := (Kp.refl _ _).alloc _
  have hty' := hown.ty
  obtain ⟨us, hl, hr, hb⟩ := hown
  refine app_row _ hgd s q ty 33 (.agg #[.string ⟨#[]⟩, .bool false, .slice none 0 0]) 3 48 ho hty Tryd.infoItem rfl (by decide) v _ xs.length 1 (cellsI xs us) (itC x u) hs hx (Row.kept hr hk) (Src.one w0 (itC x u) 3 _ rfl (by
    intro z hz
    simp only [itC, List.mem_cons, List.not_mem_nil, or_false] at hz
    rcases hz with rfl | rfl | rfl
    · rfl
    · rfl
    · exact h1)) (by omega) (by decide) ?_
  intro ad cap w' g1 g2 g3
  exact h ad cap w' (IOwn.push hl (fun i x u hx hu => ⟨(hb i x u hx hu).1.kp hk (fun _ h => h.elim), (hb i x u hx hu).2⟩) (hu.kp hk (fun _ h => h.elim)) h1 (fun b e => (hty' b e).kp hk (fun h => h)) g1 g2) g2 g3

end Go.Proofs.YtdooiflmjeibdaaDoor.Tr
