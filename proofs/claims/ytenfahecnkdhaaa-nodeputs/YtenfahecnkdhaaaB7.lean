/- Of the proof: the texts NdRSort, one behind the other. -/
import Derived.Test.YtenfahecnkdhaaaB6
import Derived.Deep.DeepCutAuto
section
/-
  The document's Sort of entries.
-/
namespace Go.Proofs.Ytenfahecnkdhaaa.Nd
open Go.RowKit
open Stb (Stab Srt Mrg)
open Sim (hid Kp No)

theorem app_anyR (w : World) (ty : TypeId) (v vx : Value) (n m : Nat) (xs ys : List Value) (hown : Sim.Row w 79 34 v n xs) (hy : Sim.Src w vx m 34 ys) (hlen : n + m ≤ 2000000) :
    ∃ ad cap w', (Builtin.append_ #[25, 25] ty #[v, vx]).run Try.prog w = .ok (.slice ad (n + m) cap) w' ∧ Sim.Row w' 79 34 (.slice ad (n + m) cap) (n + m) (xs ++ ys) ∧ w.grownBy w' v.ownBlock ∧ ((Value.slice ad (n + m) cap).ownBlock = v.ownBlock ∨ (Value.slice ad (n + m) cap).ownBlock = some w.heap.size) := by
  obtain ⟨i0, hi, hz0, hz1', hz2⟩ := info_parts infoR
  rcases hy with ⟨rfl, rfl, rfl⟩ | ⟨ad, c, rfl, hl, hc, h1⟩
  · have hr := run_append_owned_none (P := Try.prog) w 0 25 ty 79 i0 34 Try.underlying25 hi v n xs hown
    obtain ⟨ad, cap, rfl, _⟩ := hown.shape
    exact ⟨ad, cap, w, hr, by rw [List.append_nil]; exact hown, ⟨rfl, rfl, rfl, Nat.le_refl _, fun _ _ _ => rfl⟩, .inl rfl⟩
  · obtain ⟨v', w', hr, h8, h9, _, h10⟩ := run_append_own_at (P := Try.prog) w 0 25 ty 79 i0 (.agg zE.toArray) 34 56 Try.underlying25 hi hz0 hz1' hz2 rfl (by omega) v n xs hown ad m c ys hl hc h1 (by unfold maxLen; omega) (by omega) (Nat.zero_le _)
    have h8' : Sim.Row w' 79 34 v' (n + m) (xs ++ ys) := h8
    obtain ⟨ad', cap', rfl, _⟩ := h8'.shape
    exact ⟨ad', cap', w', hr, h8, h9, h10⟩
/-- A row of the call's own behind u. -/
def RowAt (u w : World) (v : Value) (d : List Ent) : Prop := Sim.Row w 79 34 v d.length (ents d) ∧ (∀ x, v.ownBlock = some x → u.heap.size ≤ x)
/-- A step of three appends: the row grows by what is read in blocks that were there. -/
theorem app_step {u w : World} {v vx : Value} {d x : List Ent} (hu : Kp No u w) (hr : RowAt u w v d) (hs : Sim.Src w vx x.length 34 (ents x)) (hl : d.length + x.length ≤ 2000000) (ty : TypeId) :
    ∃ ad cap w', (Builtin.append_ #[25, 25] ty #[v, vx]).run Try.prog w = .ok (.slice ad (d.length + x.length) cap) w' ∧ RowAt u w' (.slice ad (d.length + x.length) cap) (d ++ x) ∧ Kp No u w' ∧ Kp (fun g => v.ownBlock = some g) w w' := by
  obtain ⟨ad, cap, w', h1, h2, h3, h4⟩ := app_anyR w ty v vx d.length x.length (ents d) (ents x) hr.1 hs hl
  refine ⟨ad, cap, w', h1, ⟨by rw [List.length_append, ents_append]; exact h2, fun g hg => ?_⟩, hu.grown h3 (fun g hg => .inr (hr.2 g hg)), Kp.ofGrown h3⟩
  rcases h4 with e | e
  · exact hr.2 g (by rw [← e]; exact hg)
  · rw [e] at hg
    cases hg
    exact hu.size
theorem run_zeroR (w : World) : (Instr.buildSlice 25 0 #[]).run Try.prog w = .ok (.slice (some ⟨w.heap.size, 0, none⟩) 0 0) (w.alloc (.cells #[] 79)) := by kernel_rfl
theorem exec_slice0 {P : Program} {o : Oper} {a : Act} {w w' : World} (t : TypeId) (ho : o.op = .buildSlice t 0 #[]) (u : Value) (hr : (Instr.buildSlice t 0 #[]).run P w = .ok u w') : (execOp a.eval o).run P w = .ok (.value u) w' := by
  unfold execOp
  simp [ho, hr, Result.andThen]
theorem rowAt_zero {u w : World} (hu : Kp No u w) : RowAt u (w.alloc (.cells #[] 79)) (.slice (some ⟨w.heap.size, 0, none⟩) 0 0) [] :=
  ⟨World.ownsRow_made w #[] 0 (Nat.zero_le _) (Nat.zero_le _) rfl, fun x hx => by simp [Value.ownBlock] at hx; have := hu.size; omega⟩
theorem RowAt.keep {u w w' : World} {v : Value} {d : List Ent} (h : RowAt u w v d) (k : Kp No w w') : RowAt u w' v d := ⟨h.1.kept k, h.2⟩
theorem run_oneRX {e : Ent} (h : EOk e) (w : World) : (Instr.buildSlice 25 1 #[(0, .agg (entC e).toArray)]).run Try.prog w = .ok (.slice (some ⟨w.heap.size, 0, none⟩) 1 1) (w.alloc (.cells (entC e).toArray 79)) := by
  obtain ⟨nm, p, q⟩ := e
  exact run_oneR nm p q h.2.1 w
theorem ents_one' (e : Ent) : ents [e] = entC e := by simp [ents]
theorem src_one {e : Ent} (he : EOk e) (w : World) : Sim.Src (w.alloc (.cells (entC e).toArray 79)) (.slice (some ⟨w.heap.size, 0, none⟩) 1 1) [e].length 34 (ents [e]) := by
  rw [ents_one']
  exact Sim.Src.one w (entC e) 34 79 (entC_length he) (entC_one _)
/-- What is read stays where other blocks are written. -/
theorem src_kp {L : Nat → Prop} {w w' : World} {v : Value} {m : Nat} {ys : List Value} (h : Sim.Src w v m 34 ys) (k : Kp L w w') (hv : ∀ g o s n c, v = .slice (some ⟨g, o, s⟩) n c → g < w.heap.size ∧ ¬ L g) : Sim.Src w' v m 34 ys := by
  rcases h with h | ⟨ad, c, rfl, h2, h3, h4⟩
  · exact .inl h
  · obtain ⟨g, o, s⟩ := ad
    obtain ⟨h5, h6⟩ := hv g o s m c rfl
    exact .inr ⟨_, c, rfl, h2, fun j u hj => by
      rw [← h3 j u hj]
      exact k.cell (p := (⟨g, o, s⟩ : Addr).add j) (by rw [show ((⟨g, o, s⟩ : Addr).add j).block = g by unfold Addr.add; split <;> rfl]; exact h5) (by rw [show ((⟨g, o, s⟩ : Addr).add j).block = g by unfold Addr.add; split <;> rfl]; exact h6), h4⟩
/-- The front of entries, and the rest, as they are read. -/
theorem src_front {w : World} {g cap : Nat} {d : List Ent} (h : ERow w g 0 d) (hd : ∀ e ∈ d, EOk e) (k : Nat) (hk : k ≤ d.length) : Sim.Src w (.slice (some ⟨g, 0, none⟩) k cap) (d.take k).length 34 (ents (d.take k)) := by
  have hl : (d.take k).length = k := by rw [List.length_take]; omega
  have ho : ∀ e ∈ d.take k, EOk e := fun e he => hd e (List.mem_of_mem_take he)
  refine .inr ⟨_, cap, by rw [hl], ents_length _ ho, fun j u hj => ?_, ents_one _⟩
  have hjl := (List.getElem?_eq_some_iff.1 hj).1
  rw [ents_length _ ho, hl] at hjl
  obtain ⟨e, he⟩ : ∃ e, (d.take k)[j / 34]? = some e := ⟨_, List.getElem?_eq_getElem (by rw [hl]; omega)⟩
  have h1 := ents_at _ ho (j / 34) (j % 34) e he (by omega)
  rw [show j / 34 * 34 + j % 34 = j by omega, hj] at h1
  have he2 : d[j / 34]? = some e := by rwa [List.getElem?_take_of_lt (by omega)] at he
  have := (h.2 (j / 34) e he2).2 (j % 34) u h1.symm
  rw [Sim.addr_add]
  rw [show 0 + j / 34 * 34 + j % 34 = 0 + j by omega] at this
  exact this
theorem src_rest {w : World} {g cap m : Nat} {d : List Ent} (h : ERow w g 0 d) (hd : ∀ e ∈ d, EOk e) (k : Nat) (_hk : k ≤ d.length) (hm : d.length = m) (ad : Addr) (had : d.length = k ∨ ad = ⟨g, k * 34, none⟩) : Sim.Src w (.slice (some ad) (m - k) cap) (d.drop k).length 34 (ents (d.drop k)) := by
  have hl : (d.drop k).length = m - k := by rw [List.length_drop, hm]
  have ho : ∀ e ∈ d.drop k, EOk e := fun e he => hd e (List.mem_of_mem_drop he)
  refine .inr ⟨_, cap, by rw [hl], ents_length _ ho, fun j u hj => ?_, ents_one _⟩
  have hjl := (List.getElem?_eq_some_iff.1 hj).1
  rw [ents_length _ ho, hl] at hjl
  rcases had with h0 | rfl
  · omega
  obtain ⟨e, he⟩ : ∃ e, (d.drop k)[j / 34]? = some e := ⟨_, List.getElem?_eq_getElem (by rw [hl]; omega)⟩
  have h1 := ents_at _ ho (j / 34) (j % 34) e he (by omega)
  rw [show j / 34 * 34 + j % 34 = j by omega, hj] at h1
  have he2 : d[k + j / 34]? = some e := by rwa [List.getElem?_drop] at he
  have := (h.2 (k + j / 34) e he2).2 (j % 34) u h1.symm
  rw [Sim.addr_add]
  rw [show 0 + (k + j / 34) * 34 + j % 34 = k * 34 + j by omega] at this
  exact this
theorem Sorted.sub {l out : List Ent} (h : Sorted l out) : ∀ e ∈ out, e ∈ l := fun e he => by
  have h1 := (h.1.get he)
  rw [h.2] at h1
  exact List.mem_of_find?_eq_some h1
theorem Sorted.ok {l out : List Ent} (h : Sorted l out) (hl : ∀ e ∈ l, EOk e) : ∀ e ∈ out, EOk e := fun e he => by
  have h1 := h.1.get he
  rw [h.2] at h1
  exact hl e (List.mem_of_find?_eq_some h1)
theorem Place.zero (out : List Ent) (e : Ent) : ∀ x ∈ out.take 0, lexB x.1 e.1 = true := by simp
theorem take_next {out : List Ent} {e y : Ent} {k : Nat} (h : ∀ x ∈ out.take k, lexB x.1 e.1 = true) (hy : out[k]? = some y) (hl : lexB y.1 e.1 = true) : ∀ x ∈ out.take (k + 1), lexB x.1 e.1 = true := fun x hx => by
  rw [List.take_add_one, hy] at hx
  rcases List.mem_append.1 hx with hx | hx
  · exact h x hx
  · simp at hx
    subst hx
    exact hl

section three
variable {U X : World} {v51 v61 : Value} {out : List Ent} {e : Ent} {k m : Nat}
theorem r9_tail {w1 : World} {ad1 : Option Addr} {cap1 : Nat} {v57 : Value} (h1 : Kp No U w1) (hr : RowAt U w1 (.slice ad1 k cap1) (out.take k)) (hs57 : Sim.Src w1 v57 [e].length 34 (ents [e])) (hs2 : ∀ W, Kp No U W → Sim.Src W v61 (out.drop k).length 34 (ents (out.drop k))) (hk : (out.take k).length = k) (hm : k + 1 + (out.drop k).length = m + 1) (hl : m ≤ 1000) :
    ∃ ad2 cap2 w2 ad3 cap3 w3, (Builtin.append_ #[25, 25] 25 #[.slice ad1 k cap1, v57]).run Try.prog w1 = .ok (.slice ad2 (k + 1) cap2) w2 ∧ Kp No U w2 ∧
      (Builtin.append_ #[25, 25] 25 #[.slice ad2 (k + 1) cap2, v61]).run Try.prog w2 = .ok (.slice ad3 (m + 1) cap3) w3 ∧ Kp No U w3 ∧ RowAt U w3 (.slice ad3 (m + 1) cap3) (out.take k ++ e :: out.drop k) := by
  obtain ⟨ad2, cap2, w2, a1, a2, a3, _⟩ := app_step h1 hr hs57 (by simp; omega) 25
  have e2 : (out.take k).length + [e].length = k + 1 := by rw [hk]; rfl
  rw [e2] at a1 a2
  obtain ⟨ad3, cap3, w3, b1, b2, b3, _⟩ := app_step a3 a2 (hs2 w2 a3) (by rw [List.length_append, e2]; omega) 25
  have e3 : (out.take k ++ [e]).length + (out.drop k).length = m + 1 := by rw [List.length_append, e2]; exact hm
  rw [e3, List.append_assoc, List.singleton_append] at b2
  rw [e3] at b1
  exact ⟨ad2, cap2, w2, ad3, cap3, w3, a1, a3, b1, b3, b2⟩
/-- The first append. -/
theorem r9_one {W : World} {g : Nat} (hW : Kp No U W) (hr : RowAt U W (.slice (some ⟨g, 0, none⟩) 0 0) []) (hs1 : ∀ W, Kp No U W → Sim.Src W v51 (out.take k).length 34 (ents (out.take k))) (hk : (out.take k).length = k) (hl : k ≤ 1000) :
    ∃ ad1 cap1 w1, (Builtin.append_ #[25, 25] 25 #[.slice (some ⟨g, 0, none⟩) 0 0, v51]).run Try.prog W = .ok (.slice ad1 k cap1) w1 ∧ Kp No U w1 ∧ RowAt U w1 (.slice ad1 k cap1) (out.take k) ∧ Kp (fun x => x = g) W w1 := by
  obtain ⟨ad1, cap1, w1, a1, a2, a3, a4⟩ := app_step hW hr (hs1 W hW) (by simp; omega) 25
  have e1 : ([] : List Ent).length + (out.take k).length = k := by rw [hk]; simp
  rw [e1, List.nil_append] at a2
  rw [e1] at a1
  refine ⟨ad1, cap1, w1, a1, a3, a2, ⟨a4.os, a4.tape, a4.output, a4.size, fun j hj hne => a4.block j hj (fun h => hne ?_)⟩⟩
  simp [Value.ownBlock] at h
  exact h.symm
theorem r9a (hX : Kp No U X) (he : EOk e) (hs1 : ∀ W, Kp No U W → Sim.Src W v51 (out.take k).length 34 (ents (out.take k))) (hs2 : ∀ W, Kp No U W → Sim.Src W v61 (out.drop k).length 34 (ents (out.drop k))) (hk : (out.take k).length = k) (hm : k + 1 + (out.drop k).length = m + 1) (hl : m ≤ 1000) (hkm : k ≤ m) :
    ∃ ad1 cap1 w1 ad2 cap2 w2 ad3 cap3 w3, (Builtin.append_ #[25, 25] 25 #[.slice (some ⟨X.heap.size, 0, none⟩) 0 0, v51]).run Try.prog (X.alloc (.cells #[] 79)) = .ok (.slice ad1 k cap1) w1 ∧ Kp No U w1 ∧ (Builtin.append_ #[25, 25] 25 #[.slice ad1 k cap1, .slice (some ⟨w1.heap.size, 0, none⟩) 1 1]).run Try.prog (w1.alloc (.cells (entC e).toArray 79)) = .ok (.slice ad2 (k + 1) cap2) w2 ∧ Kp No U w2 ∧ (Builtin.append_ #[25, 25] 25 #[.slice ad2 (k + 1) cap2, v61]).run Try.prog w2 = .ok (.slice ad3 (m + 1) cap3) w3 ∧ Kp No U w3 ∧ RowAt U w3 (.slice ad3 (m + 1) cap3) (out.take k ++ e :: out.drop k) := by
  obtain ⟨ad1, cap1, w1, a1, a2, a3, _⟩ := r9_one (hX.alloc _) (rowAt_zero hX) hs1 hk (by omega)
  obtain ⟨ad2, cap2, w2, ad3, cap3, w3, b1, b2, b3, b4, b5⟩ := r9_tail (a2.alloc (.cells (entC e).toArray 79)) (a3.keep ((Kp.refl No w1).alloc _)) (src_one he w1) hs2 hk hm hl
  exact ⟨ad1, cap1, w1, ad2, cap2, w2, ad3, cap3, w3, a1, a2, b1, b2, b3, b4, b5⟩
theorem r9b (hX : Kp No U X) (he : EOk e) (hs1 : ∀ W, Kp No U W → Sim.Src W v51 (out.take k).length 34 (ents (out.take k))) (hs2 : ∀ W, Kp No U W → Sim.Src W v61 (out.drop k).length 34 (ents (out.drop k))) (hk : (out.take k).length = k) (hm : k + 1 + (out.drop k).length = m + 1) (hl : m ≤ 1000) (hkm : k ≤ m) :
    ∃ ad1 cap1 w1 ad2 cap2 w2 ad3 cap3 w3, (Builtin.append_ #[25, 25] 25 #[.slice (some ⟨X.heap.size, 0, none⟩) 0 0, v51]).run Try.prog ((X.alloc (.cells #[] 79)).alloc (.cells (entC e).toArray 79)) = .ok (.slice ad1 k cap1) w1 ∧ Kp No U w1 ∧ (Builtin.append_ #[25, 25] 25 #[.slice ad1 k cap1, .slice (some ⟨(X.alloc (.cells #[] 79)).heap.size, 0, none⟩) 1 1]).run Try.prog w1 = .ok (.slice ad2 (k + 1) cap2) w2 ∧ Kp No U w2 ∧ (Builtin.append_ #[25, 25] 25 #[.slice ad2 (k + 1) cap2, v61]).run Try.prog w2 = .ok (.slice ad3 (m + 1) cap3) w3 ∧ Kp No U w3 ∧ RowAt U w3 (.slice ad3 (m + 1) cap3) (out.take k ++ e :: out.drop k) := by
  have hX2 := (hX.alloc (.cells #[] 79)).alloc (.cells (entC e).toArray 79)
  obtain ⟨ad1, cap1, w1, a1, a2, a3, a4⟩ := r9_one hX2 ((rowAt_zero hX).keep ((Kp.refl No _).alloc (.cells (entC e).toArray 79))) hs1 hk (by omega)
  have hs := src_one he (X.alloc (.cells #[] 79))
  obtain ⟨ad2, cap2, w2, ad3, cap3, w3, b1, b2, b3, b4, b5⟩ := r9_tail a2 a3 (src_kp hs a4 (fun g o s n c h => by simp at h; obtain ⟨⟨rfl, _⟩, _⟩ := h; exact ⟨by simp, by simp⟩)) hs2 hk hm hl
  exact ⟨ad1, cap1, w1, ad2, cap2, w2, ad3, cap3, w3, a1, a2, b1, b2, b3, b4, b5⟩
theorem r9c (hX : Kp No U X) (he : EOk e) (hs1 : ∀ W, Kp No U W → Sim.Src W v51 (out.take k).length 34 (ents (out.take k))) (hs2 : ∀ W, Kp No U W → Sim.Src W v61 (out.drop k).length 34 (ents (out.drop k))) (hk : (out.take k).length = k) (hm : k + 1 + (out.drop k).length = m + 1) (hl : m ≤ 1000) (hkm : k ≤ m) :
    ∃ ad1 cap1 w1 ad2 cap2 w2 ad3 cap3 w3, (Builtin.append_ #[25, 25] 25 #[.slice (some ⟨(X.alloc (.cells (entC e).toArray 79)).heap.size, 0, none⟩) 0 0, v51]).run Try.prog ((X.alloc (.cells (entC e).toArray 79)).alloc (.cells #[] 79)) = .ok (.slice ad1 k cap1) w1 ∧ Kp No U w1 ∧ (Builtin.append_ #[25, 25] 25 #[.slice ad1 k cap1, .slice (some ⟨X.heap.size, 0, none⟩) 1 1]).run Try.prog w1 = .ok (.slice ad2 (k + 1) cap2) w2 ∧ Kp No U w2 ∧ (Builtin.append_ #[25, 25] 25 #[.slice ad2 (k + 1) cap2, v61]).run Try.prog w2 = .ok (.slice ad3 (m + 1) cap3) w3 ∧ Kp No U w3 ∧ RowAt U w3 (.slice ad3 (m + 1) cap3) (out.take k ++ e :: out.drop k) := by
  have hX1 := hX.alloc (.cells (entC e).toArray 79)
  have hX2 := hX1.alloc (.cells #[] 79)
  have hz := rowAt_zero hX1
  obtain ⟨ad1, cap1, w1, a1, a2, a3, a4⟩ := r9_one hX2 hz hs1 hk (by omega)
  have hs := src_kp (src_one he X) ((Kp.refl No _).alloc (.cells #[] 79)) (fun g o s n c h => by simp at h; obtain ⟨⟨rfl, _⟩, _⟩ := h; exact ⟨by simp, fun x => x⟩)
  obtain ⟨ad2, cap2, w2, ad3, cap3, w3, b1, b2, b3, b4, b5⟩ := r9_tail a2 a3 (src_kp hs a4 (fun g o s n c h => by simp at h; obtain ⟨⟨rfl, _⟩, _⟩ := h; exact ⟨by simp; omega, by simp⟩)) hs2 hk hm hl
  exact ⟨ad1, cap1, w1, ad2, cap2, w2, ad3, cap3, w3, a1, a2, b1, b2, b3, b4, b5⟩
end three
theorem rowForm {w V : World} {ad : Option Addr} {m cap : Nat} {out : List Ent} (h : MineR w V (.slice ad m cap) out) (hm : out.length = m) (ho : ∀ e ∈ out, EOk e) :
    (ad = none ∧ m = 0 ∧ cap = 0) ∨ ∃ g2, ad = some ⟨g2, 0, none⟩ ∧ ERow V g2 0 out ∧ w.heap.size ≤ g2 ∧ g2 < V.heap.size ∧ m ≤ cap ∧ cap ≤ maxLen := by
  have h1 := h.1
  rw [hm] at h1
  obtain ⟨a, c, e, h2, h3, h4, h5⟩ := h1.shape
  simp only [Value.slice.injEq, true_and] at e
  obtain ⟨rfl, rfl⟩ := e
  cases ad with
  | none => exact .inl ⟨rfl, (h4 rfl).1, (h4 rfl).2⟩
  | some x =>
    obtain ⟨g, o, sp⟩ := x
    obtain ⟨e1, e2⟩ := h5 _ rfl
    cases e1
    cases e2
    have hE := own_rowT h1 hm ho
    exact .inr ⟨g, rfl, hE.1, h.2.1 g rfl, hE.1.1, h2, h3⟩

/-- What the document's Sort answers. -/
def RSAns (w w' : World) (l : List Ent) (e : Ending) : Prop := ∃ r out, e = .returned r ∧ Sorted l out ∧ out.length ≤ l.length ∧ MineR w w' r out

set_option maxHeartbeats 8000000 in
set_option maxRecDepth 100000 in
theorem rsort_any (w : World) (v : Value) (l : List Ent) (P : Nat → Prop) (hv : EV P w v l) (hl : l.length ≤ 1000) (hsz : ∀ e ∈ l, e.1.length ≤ 1000000) :
    Calls Try.prog 31 #[v] w fun e w' => RSAns w w' l e := by
  have HV := hid hv
  have HOK := hid hv.ok
  have HSZ : Hid (∀ e ∈ l, e.1.length ≤ 1000000) := hsz
  clear hsz
  obtain ⟨a, c, e, _⟩ := hv
  subst e
  obtain ⟨n, hn⟩ : ∃ n, l.length = n := ⟨_, rfl⟩
  have HN := hid hn
  rw [hn] at HV hl ⊢
  clear hn
  go_enter Try.func31, Try.ntmps31
  go_wp2_with fail
  go_loopw [3, 4] (fun v3 v4 wr => ∃ (i m : Nat) (ad : Option Addr) (cap : Nat) (out : List Ent), v3 = .slice ad m cap ∧ v4 = .int .i64 (i : Int) ∧ i ≤ n ∧ m ≤ i ∧ Hid (out.length = m) ∧ Hid (Sorted (l.take i) out) ∧ Hid (MineR w wr (.slice ad m cap) out)) (fun _ v4 _ => n - (intOf v4).toNat)
  case atStart => exact ⟨0, 0, none, 0, [], rfl, rfl, Nat.zero_le _, Nat.le_refl _, rfl, Sorted.nil, MineR.nil w⟩
  case round =>
    obtain ⟨i, m, ad, cap, out, rfl, rfl, hin, hmi, HM, HS, HR⟩ := hrel
    obtain ⟨V, rfl⟩ : ∃ V, V = wr := ⟨_, rfl⟩
    by_cases hlt : i < n
    · have hltI : (i : Int) < (n : Int) := by omega
      have hwk : IntKind.i64.wrap ((i : Int) + 1) = ((i + 1 : Nat) : Int) := by rw [IntKind.wrap_i64]; omega
      obtain ⟨e, he⟩ : ∃ e, l[i]? = some e := ⟨_, List.getElem?_eq_getElem (by rw [HN.out]; exact hlt)⟩
      obtain ⟨g, o, rfl, _, hr⟩ := ev_row (HV.out.kept HR.out.2.2) (by intro e; have := HN.out; rw [e] at this; simp at this; omega)
      have hgw : g < V.heap.size := hr.1
      have HROW : Hid (∀ U, Kp No V U → U.rangeAt g (o + i * 34) (entC e)) := fun U hU => ((hr.kp hU (fun x => x)).2 i e he).2
      have HEO := hid (HOK.out e (List.mem_of_getElem? he))
      have HSZE := hid (HSZ.out e (List.mem_of_getElem? he))
      have HOO := hid (HS.out.ok (fun x hx => HOK.out x (List.mem_of_mem_take hx)))
      have HTK : Hid (l.take (i + 1) = l.take i ++ [e]) := by rw [Hid, List.take_add_one, he]; rfl
      have HFORM := hid (rowForm HR.out HM.out HOO.out)
      clear hr he
      go_wp2_with fail
      go_loopw [5] (fun v5 wq => ∃ (k : Nat), v5 = .int .i64 (k : Int) ∧ k ≤ m ∧ Hid (∀ x ∈ out.take k, lexB x.1 e.1 = true) ∧ Hid (Kp No V wq)) (fun v5 _ => m - (intOf v5).toNat)
      case atStart => exact ⟨0, rfl, Nat.zero_le _, Place.zero out e, Kp.refl _ _⟩
      case round =>
        obtain ⟨k, rfl, hkm, HP, HQ⟩ := hrel
        obtain ⟨U, rfl⟩ : ∃ U, U = wr := ⟨_, rfl⟩
        obtain ⟨z, hz⟩ : ∃ z : Bool, (z = true ↔ ∃ y, out[k]? = some y ∧ lexB y.1 e.1 = true) := by
          by_cases h : ∃ y, out[k]? = some y ∧ lexB y.1 e.1 = true
          · exact ⟨true, fun _ => h, fun _ => rfl⟩
          · exact ⟨false, fun e => (by cases e), fun e => absurd e h⟩
        have HZ := hid hz
        clear hz
        have hwk2 : IntKind.i64.wrap ((k : Int) + 1) = ((k + 1 : Nat) : Int) := by rw [IntKind.wrap_i64]; omega
        go_upto_region 6 with fail
        go_cut [28] (fun c wx => c = .bool z ∧ Hid (Kp No V wx))
        case first =>
          by_cases hk : k < m
          · have hkI : (k : Int) < (m : Int) := by omega
            obtain ⟨y, hy⟩ : ∃ y, out[k]? = some y := ⟨_, List.getElem?_eq_getElem (by rw [HM.out]; exact hk)⟩
            have hform := HFORM.out
            rcases hform with ⟨_, h0, _⟩ | ⟨g2, rfl, hrow, hg2, hg2V, _, _⟩
            · omega
            have HYO := hid (HOO.out y (List.mem_of_getElem? hy))
            have hz : z = lexB y.1 e.1 := by
              rw [Bool.eq_iff_iff]
              exact HZ.out.trans ⟨fun ⟨y', h1, h2⟩ => by rw [hy] at h1; cases h1; exact h2, fun h => ⟨y, hy, h⟩⟩
            subst hz
            have hX0 : ∀ W, Kp No U W → W.cell? ⟨g2, k * 34, none⟩ = some (.string (txt y.1)) := fun W hW => by
              have := ((hrow.kp (HQ.out.andNone hW) (fun x => x)).2 k y hy).2 0 _ rfl
              simpa using this
            have hY0 : ∀ W, Kp No U W → W.cell? ⟨g, o + i * 34, none⟩ = some (.string (txt e.1)) := fun W hW => HROW.out W (HQ.out.andNone hW) 0 _ rfl
            have HLE := hid (fun W => less_any y.1 e.1 W HYO.out.1 HEO.out.1 (HSZ.out y (List.mem_of_mem_take (HS.out.sub y (List.mem_of_getElem? hy)))) (HSZE.out))
            generalize lexB y.1 e.1 = z at *
            clear hrow hy
            go_region_held3 (fun W => Kp No U W) (first | (with_reducible exact Kp.refl _ _) | (with_reducible exact (Kp.refl _ _).drew) | (with_reducible exact HK3.out)) (first | (go_at_call 59; refine (HLE.out _).mono ?_; rintro e w3 ⟨rfl, hb3⟩; have HK3 : Hid (Kp No U w3) := ((Kp.refl No U).drew).andNone hb3; clear hb3))
            go_wp2_with fail
            go_meet
            exact ⟨rfl, HQ.out.andNone HK3.out⟩
          · have hkI : ¬ (k : Int) < (m : Int) := by omega
            have hkd : decide ((k : Int) < (m : Int)) = false := by simp; omega
            have hkd2 : decide (k < m) = false := by simp; omega
            have hz : z = false := by
              cases z with
              | false => rfl
              | true =>
                obtain ⟨y, hy, _⟩ := HZ.out.1 rfl
                have := (List.getElem?_eq_some_iff.1 hy).1
                rw [HM.out] at this
                omega
            subst hz
            go_quiet (fail)
            go_wp2_with fail
            go_meet
            exact ⟨rfl, HQ.out.drewN _⟩
        case rest =>
          obtain ⟨rfl, HX⟩ := hcut
          obtain ⟨U2, rfl⟩ : ∃ U2, U2 = wc := ⟨_, rfl⟩
          cases z with
          | true =>
            have hk : k < m := by
              obtain ⟨y, hy, _⟩ := HZ.out.1 rfl
              have := (List.getElem?_eq_some_iff.1 hy).1
              rw [HM.out] at this
              exact this
            have HNX : Hid (∀ x ∈ out.take (k + 1), lexB x.1 e.1 = true) := by
              obtain ⟨y, hy, hly⟩ := HZ.out.1 rfl
              exact take_next HP.out hy hly
            go_wp2_with fail
            go_round
            case rel => exact ⟨k + 1, by first | rfl | go_num, by omega, HNX.out, HX.out⟩
            case measure => simp [intOf]; omega
          | false =>
            have HPL : Hid (Place out e k) := ⟨HP.out, fun y hy => by
              cases hq : lexB y.1 e.1 with
              | false => rfl
              | true => have := HZ.out.2 ⟨y, hy, hq⟩; cases this⟩
            obtain ⟨z2, hz2⟩ : ∃ z2 : Bool, (z2 = true ↔ ∀ y, out[k]? = some y → y.1 ≠ e.1) := by
              by_cases h : ∀ y, out[k]? = some y → y.1 ≠ e.1
              · exact ⟨true, fun _ => h, fun _ => rfl⟩
              · exact ⟨false, fun e => (by cases e), fun e => absurd e h⟩
            have HZ2 := hid hz2
            clear hz2 HZ HP HQ
            go_upto_region 8 with fail
            go_cut [47] (fun c wx => c = .bool z2 ∧ Hid (Kp No V wx))
            case first =>
              by_cases hk : k < m
              · have hkI : (k : Int) < (m : Int) := by omega
                have hkb : ((k : Int) == (m : Int)) = false := by simp; omega
                obtain ⟨y, hy⟩ : ∃ y, out[k]? = some y := ⟨_, List.getElem?_eq_getElem (by rw [HM.out]; exact hk)⟩
                have hform := HFORM.out
                rcases hform with ⟨_, h0, _⟩ | ⟨g2, rfl, hrow, hg2, hg2V, _, _⟩
                · omega
                have HYO := hid (HOO.out y (List.mem_of_getElem? hy))
                have hz : z2 = !decide (y.1 = e.1) := by
                  rw [Bool.eq_iff_iff]
                  refine HZ2.out.trans ?_
                  simp only [Bool.not_eq_true', decide_eq_false_iff_not]
                  exact ⟨fun h => h y hy, fun h y' hy' => by rw [hy] at hy'; cases hy'; exact h⟩
                subst hz
                have hX0 : U2.cell? ⟨g2, k * 34, none⟩ = some (.string (txt y.1)) := by
                  have := ((hrow.kp HX.out (fun x => x)).2 k y hy).2 0 _ rfl
                  simpa using this
                have hY0 : U2.cell? ⟨g, o + i * 34, none⟩ = some (.string (txt e.1)) := HROW.out U2 HX.out 0 _ rfl
                have heq : ((txt y.1).toList == (txt e.1).toList) = decide (y.1 = e.1) := by
                  rw [str_eq8, decide_eq_decide]
                  exact txt_inj HYO.out.1 HEO.out.1
                generalize decide (y.1 = e.1) = zz at *
                clear hrow hy
                go_quiet (fail)
                go_wp2_with fail
                go_meet
                exact ⟨by first | rfl | rw [heq], HX.out.drewN _⟩
              · have hkm' : k = m := by omega
                have hkb : ((k : Int) == (m : Int)) = true := by simp; omega
                have hz : z2 = true := HZ2.out.2 (fun y hy => by
                  have := (List.getElem?_eq_some_iff.1 hy).1
                  rw [HM.out] at this
                  omega)
                subst hz
                clear hkm'
                go_quiet (fail)
                go_wp2_with fail
                go_meet
                exact ⟨rfl, HX.out.drewN _⟩
            case rest =>
              obtain ⟨rfl, HY⟩ := hcut
              obtain ⟨U3, rfl⟩ : ∃ U3, U3 = wc := ⟨_, rfl⟩
              cases z2 with
              | false =>
                have HNS : Hid (Sorted (l.take (i + 1)) out) := by
                  have hh : ¬ ∀ y, out[k]? = some y → y.1 ≠ e.1 := fun h => by have := HZ2.out.2 h; cases this
                  have : ∃ y, out[k]? = some y ∧ y.1 = e.1 := Classical.byContradiction fun hn => hh (fun y hy he => hn ⟨y, hy, he⟩)
                  obtain ⟨y, hy, hye⟩ := this
                  rw [Hid, HTK.out]
                  exact HS.out.has hy hye
                have HNR : Hid (MineR w U3 (.slice ad m cap) out) := ⟨HR.out.1.kept HY.out, HR.out.2.1, HR.out.2.2.andNone HY.out⟩
                go_wp2_with fail
                go_round
                case rel => exact ⟨i + 1, m, ad, cap, out, rfl, by first | rfl | go_num, by omega, by omega, HM.out, HNS.out, HNR.out⟩
                case measure => simp [intOf]; omega
              | true =>
                have HNS : Hid (Sorted (l.take (i + 1)) (out.take k ++ e :: out.drop k)) := by
                  rw [Hid, HTK.out]
                  exact HS.out.ins HPL.out (HZ2.out.1 rfl)
                have hlen : (out.take k ++ e :: out.drop k).length = m + 1 := by
                  have := HM.out
                  simp
                  omega
                have HLEN := hid hlen
                clear hlen
                go_wp2_with fail
                have HLC : Hid (∀ W, Kp No U3 W → W.rangeAt g (o + i * 34) (entC e)) := fun W hW => HROW.out W (HY.out.andNone hW)
                have HIC : Hid ((Try.prog.info? 79).map (·.size) = some (entC e).length) := by rw [Hid, entC_length HEO.out]; kernel_rfl
                have HB2 := hid (run_oneRX HEO.out)
                have HTL : Hid ((out.take k).length = k) := by have := HM.out; rw [Hid, List.length_take]; omega
                have HDL : Hid (k + 1 + (out.drop k).length = m + 1) := by have := HM.out; rw [Hid, List.length_drop]; omega
                have hform := HFORM.out
                rcases hform with ⟨rfl, hm0, rfl⟩ | ⟨g2, rfl, hrow, hg2, hg2V, hmc, hcm⟩
                · have hk0 : k = 0 := by omega
                  have hout : out = [] := List.length_eq_zero_iff.1 (by rw [HM.out, hm0])
                  have HS1 : Hid (∀ W, Kp No U3 W → Sim.Src W (.slice none 0 0) (out.take k).length 34 (ents (out.take k))) := fun W _ => by rw [hout]; simp; exact .inl ⟨rfl, rfl, rfl⟩
                  have HS2 : Hid (∀ W, Kp No U3 W → Sim.Src W (.slice none 0 0) (out.drop k).length 34 (ents (out.drop k))) := fun W _ => by rw [hout]; simp; exact .inl ⟨rfl, rfl, rfl⟩
                  obtain ⟨ad1a, cap1a, w1a, ad2a, cap2a, w2a, ad3a, cap3a, w3a, ha1, hk1, ha2, hk2, ha3, hk3, hr3⟩ := r9a (U := U3) (X := U3.drew) ((Kp.refl No U3).drew) HEO.out HS1.out HS2.out HTL.out HDL.out (by omega) (by omega)
                  have HA1a := hid ha1
                  have HK1a := hid hk1
                  have HA2a := hid ha2
                  have HK2a := hid hk2
                  have HA3a := hid ha3
                  have HK3a := hid hk3
                  have HFINa : Hid (MineR w w3a (.slice ad3a (m + 1) cap3a) (out.take k ++ e :: out.drop k)) := ⟨by rw [HLEN.out]; have h := hr3.1; rw [HLEN.out] at h; exact h, fun x hx => Nat.le_trans (Nat.le_trans HR.out.2.2.size HY.out.size) (hr3.2 x hx), (HR.out.2.2.andNone HY.out).andNone hk3⟩
                  clear ha1 hk1 ha2 hk2 ha3 hk3 hr3
                  obtain ⟨ad1b, cap1b, w1b, ad2b, cap2b, w2b, ad3b, cap3b, w3b, ha1, hk1, ha2, hk2, ha3, hk3, hr3⟩ := r9b (U := U3) (X := U3.drew) ((Kp.refl No U3).drew) HEO.out HS1.out HS2.out HTL.out HDL.out (by omega) (by omega)
                  have HA1b := hid ha1
                  have HK1b := hid hk1
                  have HA2b := hid ha2
                  have HK2b := hid hk2
                  have HA3b := hid ha3
                  have HK3b := hid hk3
                  have HFINb : Hid (MineR w w3b (.slice ad3b (m + 1) cap3b) (out.take k ++ e :: out.drop k)) := ⟨by rw [HLEN.out]; have h := hr3.1; rw [HLEN.out] at h; exact h, fun x hx => Nat.le_trans (Nat.le_trans HR.out.2.2.size HY.out.size) (hr3.2 x hx), (HR.out.2.2.andNone HY.out).andNone hk3⟩
                  clear ha1 hk1 ha2 hk2 ha3 hk3 hr3
                  obtain ⟨ad1c, cap1c, w1c, ad2c, cap2c, w2c, ad3c, cap3c, w3c, ha1, hk1, ha2, hk2, ha3, hk3, hr3⟩ := r9c (U := U3) (X := U3.drew) ((Kp.refl No U3).drew) HEO.out HS1.out HS2.out HTL.out HDL.out (by omega) (by omega)
                  have HA1c := hid ha1
                  have HK1c := hid hk1
                  have HA2c := hid ha2
                  have HK2c := hid hk2
                  have HA3c := hid ha3
                  have HK3c := hid hk3
                  have HFINc : Hid (MineR w w3c (.slice ad3c (m + 1) cap3c) (out.take k ++ e :: out.drop k)) := ⟨by rw [HLEN.out]; have h := hr3.1; rw [HLEN.out] at h; exact h, fun x hx => Nat.le_trans (Nat.le_trans HR.out.2.2.size HY.out.size) (hr3.2 x hx), (HR.out.2.2.andNone HY.out).andNone hk3⟩
                  clear ha1 hk1 ha2 hk2 ha3 hk3 hr3
                  clear HS1 HS2 hout
                  generalize entC e = C at *
                  subst hk0
                  subst hm0
                  refine wp_region_held_drew (S := fun W => Kp No U3 W) (by kernel_rfl) ((Kp.refl _ _).drew) (fun hHeld => ?_)
                  refine wpAnyH_take (i := 1) (oi := { dst := some 49, op := Op.move (Operand.tmp 3), type := 25, pos := "ref.go:183", after := #[], guard := none }) (v := .slice none 0 0) rfl (by kernel_rfl) (by kernel_rfl) (by kernel_rfl) (fun _ _ _ h => h) (Or.inl ⟨by rfl, fun w' hw' => by (clear hw'; go_simp)⟩) hHeld ?_
                  simp only [Act.put, List.setIfInBounds_toArray, List.set_cons_zero, List.set_cons_succ]
                  refine wpAnyH_take (i := 2) (oi := { dst := some 50, op := Op.move (Operand.tmp 5), type := 3, pos := "ref.go:183", after := #[], guard := none }) (v := .int .i64 0) rfl (by kernel_rfl) (by kernel_rfl) (by kernel_rfl) (fun _ _ _ h => h) (Or.inl ⟨by rfl, fun w' hw' => by (clear hw'; go_simp)⟩) hHeld ?_
                  simp only [Act.put, List.setIfInBounds_toArray, List.set_cons_zero, List.set_cons_succ]
                  refine wpAnyH_take (i := 3) (oi := { dst := some 51, op := Op.slice 25 (Operand.tmp 49) none (some (Operand.tmp 50)) none, type := 25, pos := "ref.go:183", after := #[{ on := 1, ground := Ground.data }, { on := 2, ground := Ground.data }], guard := none }) (v := .slice none 0 0) rfl (by kernel_rfl) (by kernel_rfl) (by kernel_rfl) (fun _ _ _ h => h) (Or.inl ⟨by rfl, fun w' hw' => by (clear hw'; go_simp)⟩) hHeld ?_
                  simp only [Act.put, List.setIfInBounds_toArray, List.set_cons_zero, List.set_cons_succ]
                  refine wpAnyH_take (i := 5) (oi := { dst := some 53, op := Op.move (Operand.tmp 0), type := 25, pos := "ref.go:183", after := #[], guard := none }) (v := .slice (some ⟨g, o, none⟩) n c) rfl (by kernel_rfl) (by kernel_rfl) (by kernel_rfl) (fun _ _ _ h => h) (Or.inl ⟨by rfl, fun w' hw' => by (clear hw'; go_simp)⟩) hHeld ?_
                  simp only [Act.put, List.setIfInBounds_toArray, List.set_cons_zero, List.set_cons_succ]
                  refine wpAnyH_take (i := 6) (oi := { dst := some 54, op := Op.move (Operand.tmp 4), type := 3, pos := "ref.go:183", after := #[], guard := none }) (v := .int .i64 (i : Int)) rfl (by kernel_rfl) (by kernel_rfl) (by kernel_rfl) (fun _ _ _ h => h) (Or.inl ⟨by rfl, fun w' hw' => by (clear hw'; go_simp)⟩) hHeld ?_
                  simp only [Act.put, List.setIfInBounds_toArray, List.set_cons_zero, List.set_cons_succ]
                  refine wpAnyH_take (i := 7) (oi := { dst := some 55, op := Op.indexAddr 25 (Operand.tmp 53) (Operand.tmp 54), type := 0, pos := "ref.go:183", after := #[{ on := 5, ground := Ground.data }, { on := 6, ground := Ground.data }], guard := none }) (v := .pointer (some ⟨g, o + i * 34, none⟩)) rfl (by kernel_rfl) (by kernel_rfl) (by kernel_rfl) (fun _ _ _ h => h) (Or.inl ⟨by rfl, fun w' hw' => by (clear hw'; go_simp)⟩) hHeld ?_
                  simp only [Act.put, List.setIfInBounds_toArray, List.set_cons_zero, List.set_cons_succ]
                  refine wpAnyH_take (i := 8) (oi := { dst := some 56, op := Op.load 79 (Operand.tmp 55), type := 79, pos := "ref.go:183", after := #[{ on := 7, ground := Ground.data }], guard := none }) (v := .agg C.toArray) rfl (by kernel_rfl) (by kernel_rfl) (by kernel_rfl) (fun _ _ _ h => h) (yieldsIf_load_mid (by rfl) _ _ rfl g (o + i * 34) rfl C _ (HLC.out) Try.underlying79 rfl HIC.out) hHeld ?_
                  simp only [Act.put, List.setIfInBounds_toArray, List.set_cons_zero, List.set_cons_succ]
                  refine wpAnyH_take (i := 11) (oi := { dst := some 59, op := Op.move (Operand.tmp 3), type := 25, pos := "ref.go:183", after := #[], guard := none }) (v := .slice none 0 0) rfl (by kernel_rfl) (by kernel_rfl) (by kernel_rfl) (fun _ _ _ h => h) (Or.inl ⟨by rfl, fun w' hw' => by (clear hw'; go_simp)⟩) hHeld ?_
                  simp only [Act.put, List.setIfInBounds_toArray, List.set_cons_zero, List.set_cons_succ]
                  refine wpAnyH_take (i := 12) (oi := { dst := some 60, op := Op.move (Operand.tmp 5), type := 3, pos := "ref.go:183", after := #[], guard := none }) (v := .int .i64 0) rfl (by kernel_rfl) (by kernel_rfl) (by kernel_rfl) (fun _ _ _ h => h) (Or.inl ⟨by rfl, fun w' hw' => by (clear hw'; go_simp)⟩) hHeld ?_
                  simp only [Act.put, List.setIfInBounds_toArray, List.set_cons_zero, List.set_cons_succ]
                  refine wpAnyH_take (i := 13) (oi := { dst := some 61, op := Op.slice 25 (Operand.tmp 59) (some (Operand.tmp 60)) none none, type := 25, pos := "ref.go:183", after := #[{ on := 11, ground := Ground.data }, { on := 12, ground := Ground.data }], guard := none }) (v := .slice none 0 0) rfl (by kernel_rfl) (by kernel_rfl) (by kernel_rfl) (fun _ _ _ h => h) (Or.inl ⟨by rfl, fun w' hw' => by (clear hw'; go_simp)⟩) hHeld ?_
                  simp only [Act.put, List.setIfInBounds_toArray, List.set_cons_zero, List.set_cons_succ]
                  refine wpAnyH_ready (rs := [0, 9]) (by kernel_rfl) (by simp) ?_
                  refine (AllReadyH.cons (o := { dst := some 48, op := Op.buildSlice 25 0 #[], type := 25, pos := "ref.go:183", after := #[], guard := none }) rfl (fun K hK => ?_) (AllReadyH.cons (o := { dst := some 57, op := Op.buildSlice 25 1 #[(0, Operand.tmp 56)], type := 25, pos := "ref.go:183", after := #[{ on := 8, ground := Ground.data }], guard := none }) rfl (fun K hK => ?_) AllReadyH.nil))
                  · rw [if_pos (by rfl)]
                    refine wp_valE (exec_slice0 25 rfl _ (run_zeroR _)) ?_
                    refine hK.out _ _ (((Kp.refl No U3).drew).alloc _) (fun hh => ?_)
                    clear hK K hHeld
                    have hHeld := hh
                    clear hh
                    try simp only [Act.put, List.setIfInBounds_toArray, List.set_cons_zero, List.set_cons_succ]
                    refine wpAnyH_ready (rs := [4, 9]) (by kernel_rfl) (by simp) ?_
                    refine (AllReadyH.cons (o := { dst := some 52, op := Op.call { callee := Callee.builtin Builtin.append, args := #[Operand.tmp 48, Operand.tmp 51], argTypes := #[25, 25] }, type := 25, pos := "ref.go:183", after := #[{ on := 0, ground := Ground.data }, { on := 3, ground := Ground.data }], guard := none }) rfl (fun K hK => ?_) (AllReadyH.cons (o := { dst := some 57, op := Op.buildSlice 25 1 #[(0, Operand.tmp 56)], type := 25, pos := "ref.go:183", after := #[{ on := 8, ground := Ground.data }], guard := none }) rfl (fun K hK => ?_) AllReadyH.nil))
                    · rw [if_pos (by rfl)]
                      refine wp_valE (exec_appE _ _ 25 rfl (.slice (some ⟨U3.heap.size, 0, none⟩) 0 0) (.slice none 0 0) _ rfl rfl HA1a.out) ?_
                      refine hK.out _ _ HK1a.out (fun hh => ?_)
                      clear hK K hHeld
                      have hHeld := hh
                      clear hh
                      try simp only [Act.put, List.setIfInBounds_toArray, List.set_cons_zero, List.set_cons_succ]
                      refine wpAnyH_ready (rs := [9]) (by kernel_rfl) (by simp) ?_
                      refine (AllReadyH.cons (o := { dst := some 57, op := Op.buildSlice 25 1 #[(0, Operand.tmp 56)], type := 25, pos := "ref.go:183", after := #[{ on := 8, ground := Ground.data }], guard := none }) rfl (fun K hK => ?_) AllReadyH.nil)
                      rw [if_pos (by rfl)]
                      refine wp_valE (exec_sliceE 25 _ rfl (.agg C.toArray) _ rfl (HB2.out _)) ?_
                      refine hK.out _ _ (HK1a.out.alloc _) (fun hh => ?_)
                      clear hK K hHeld
                      have hHeld := hh
                      clear hh
                      try simp only [Act.put, List.setIfInBounds_toArray, List.set_cons_zero, List.set_cons_succ]
                      refine wpAnyH_ready (rs := [10]) (by kernel_rfl) (by simp) ?_
                      refine (AllReadyH.cons (o := { dst := some 58, op := Op.call { callee := Callee.builtin Builtin.append, args := #[Operand.tmp 52, Operand.tmp 57], argTypes := #[25, 25] }, type := 25, pos := "ref.go:183", after := #[{ on := 4, ground := Ground.data }, { on := 9, ground := Ground.data }, { on := 4, ground := Ground.chain }], guard := none }) rfl (fun K hK => ?_) AllReadyH.nil)
                      rw [if_pos (by rfl)]
                      refine wp_valE (exec_appE _ _ 25 rfl (.slice ad1a 0 cap1a) (.slice (some ⟨w1a.heap.size, 0, none⟩) 1 1) _ rfl rfl HA2a.out) ?_
                      refine hK.out _ _ HK2a.out (fun hh => ?_)
                      clear hK K hHeld
                      have hHeld := hh
                      clear hh
                      try simp only [Act.put, List.setIfInBounds_toArray, List.set_cons_zero, List.set_cons_succ]
                      refine wpAnyH_ready (rs := [14]) (by kernel_rfl) (by simp) ?_
                      refine (AllReadyH.cons (o := { dst := some 62, op := Op.call { callee := Callee.builtin Builtin.append, args := #[Operand.tmp 58, Operand.tmp 61], argTypes := #[25, 25] }, type := 25, pos := "ref.go:183", after := #[{ on := 10, ground := Ground.data }, { on := 13, ground := Ground.data }, { on := 10, ground := Ground.chain }], guard := none }) rfl (fun K hK => ?_) AllReadyH.nil)
                      rw [if_pos (by rfl)]
                      refine wp_valE (exec_appE _ _ 25 rfl (.slice ad2a (1) cap2a) (.slice none 0 0) _ rfl rfl HA3a.out) ?_
                      refine hK.out _ _ HK3a.out (fun hh => ?_)
                      clear hK K hHeld
                      have hHeld := hh
                      clear hh
                      try simp only [Act.put, List.setIfInBounds_toArray, List.set_cons_zero, List.set_cons_succ]
                      refine wpAnyH_take (i := 15) (oi := { dst := some 3, op := Op.assign (Operand.tmp 62), type := 25, pos := "ref.go:183", after := #[{ on := 14, ground := Ground.data }, { on := 14, ground := Ground.chain }, { on := 0, ground := Ground.phase }, { on := 1, ground := Ground.phase }, { on := 2, ground := Ground.phase }, { on := 3, ground := Ground.phase }, { on := 4, ground := Ground.phase }, { on := 5, ground := Ground.phase }, { on := 6, ground := Ground.phase }, { on := 7, ground := Ground.phase }, { on := 8, ground := Ground.phase }, { on := 9, ground := Ground.phase }, { on := 10, ground := Ground.phase }, { on := 11, ground := Ground.phase }, { on := 12, ground := Ground.phase }, { on := 13, ground := Ground.phase }, { on := 14, ground := Ground.phase }], guard := none }) (v := .slice ad3a 1 cap3a) rfl (by kernel_rfl) (by kernel_rfl) (by kernel_rfl) (fun _ _ _ h => h) (Or.inl ⟨by rfl, fun w' hw' => by (clear hw'; go_simp)⟩) hHeld ?_
                      simp only [Act.put, List.setIfInBounds_toArray, List.set_cons_zero, List.set_cons_succ]
                      refine wpAnyH_done (by kernel_rfl) ?_ _
                      clear hHeld
                      go_wp2_with fail
                      go_round
                      case rel => exact ⟨i + 1, 1, _, _, _, rfl, by first | rfl | go_num, by omega, by omega, HLEN.out, HNS.out, HFINa.out⟩
                      case measure => simp [intOf]; omega
                    · rw [if_pos (by rfl)]
                      refine wp_valE (exec_sliceE 25 _ rfl (.agg C.toArray) _ rfl (HB2.out _)) ?_
                      refine hK.out _ _ ((((Kp.refl No U3).drew).alloc _).alloc _) (fun hh => ?_)
                      clear hK K hHeld
                      have hHeld := hh
                      clear hh
                      try simp only [Act.put, List.setIfInBounds_toArray, List.set_cons_zero, List.set_cons_succ]
                      refine wpAnyH_ready (rs := [4]) (by kernel_rfl) (by simp) ?_
                      refine (AllReadyH.cons (o := { dst := some 52, op := Op.call { callee := Callee.builtin Builtin.append, args := #[Operand.tmp 48, Operand.tmp 51], argTypes := #[25, 25] }, type := 25, pos := "ref.go:183", after := #[{ on := 0, ground := Ground.data }, { on := 3, ground := Ground.data }], guard := none }) rfl (fun K hK => ?_) AllReadyH.nil)
                      rw [if_pos (by rfl)]
                      refine wp_valE (exec_appE _ _ 25 rfl (.slice (some ⟨U3.heap.size, 0, none⟩) 0 0) (.slice none 0 0) _ rfl rfl HA1b.out) ?_
                      refine hK.out _ _ HK1b.out (fun hh => ?_)
                      clear hK K hHeld
                      have hHeld := hh
                      clear hh
                      try simp only [Act.put, List.setIfInBounds_toArray, List.set_cons_zero, List.set_cons_succ]
                      refine wpAnyH_ready (rs := [10]) (by kernel_rfl) (by simp) ?_
                      refine (AllReadyH.cons (o := { dst := some 58, op := Op.call { callee := Callee.builtin Builtin.append, args := #[Operand.tmp 52, Operand.tmp 57], argTypes := #[25, 25] }, type := 25, pos := "ref.go:183", after := #[{ on := 4, ground := Ground.data }, { on := 9, ground := Ground.data }, { on := 4, ground := Ground.chain }], guard := none }) rfl (fun K hK => ?_) AllReadyH.nil)
                      rw [if_pos (by rfl)]
                      refine wp_valE (exec_appE _ _ 25 rfl (.slice ad1b 0 cap1b) (.slice (some ⟨(U3.drew.alloc (.cells #[] 79)).heap.size, 0, none⟩) 1 1) _ rfl rfl HA2b.out) ?_
                      refine hK.out _ _ HK2b.out (fun hh => ?_)
                      clear hK K hHeld
                      have hHeld := hh
                      clear hh
                      try simp only [Act.put, List.setIfInBounds_toArray, List.set_cons_zero, List.set_cons_succ]
                      refine wpAnyH_ready (rs := [14]) (by kernel_rfl) (by simp) ?_
                      refine (AllReadyH.cons (o := { dst := some 62, op := Op.call { callee := Callee.builtin Builtin.append, args := #[Operand.tmp 58, Operand.tmp 61], argTypes := #[25, 25] }, type := 25, pos := "ref.go:183", after := #[{ on := 10, ground := Ground.data }, { on := 13, ground := Ground.data }, { on := 10, ground := Ground.chain }], guard := none }) rfl (fun K hK => ?_) AllReadyH.nil)
                      rw [if_pos (by rfl)]
                      refine wp_valE (exec_appE _ _ 25 rfl (.slice ad2b (1) cap2b) (.slice none 0 0) _ rfl rfl HA3b.out) ?_
                      refine hK.out _ _ HK3b.out (fun hh => ?_)
                      clear hK K hHeld
                      have hHeld := hh
                      clear hh
                      try simp only [Act.put, List.setIfInBounds_toArray, List.set_cons_zero, List.set_cons_succ]
                      refine wpAnyH_take (i := 15) (oi := { dst := some 3, op := Op.assign (Operand.tmp 62), type := 25, pos := "ref.go:183", after := #[{ on := 14, ground := Ground.data }, { on := 14, ground := Ground.chain }, { on := 0, ground := Ground.phase }, { on := 1, ground := Ground.phase }, { on := 2, ground := Ground.phase }, { on := 3, ground := Ground.phase }, { on := 4, ground := Ground.phase }, { on := 5, ground := Ground.phase }, { on := 6, ground := Ground.phase }, { on := 7, ground := Ground.phase }, { on := 8, ground := Ground.phase }, { on := 9, ground := Ground.phase }, { on := 10, ground := Ground.phase }, { on := 11, ground := Ground.phase }, { on := 12, ground := Ground.phase }, { on := 13, ground := Ground.phase }, { on := 14, ground := Ground.phase }], guard := none }) (v := .slice ad3b 1 cap3b) rfl (by kernel_rfl) (by kernel_rfl) (by kernel_rfl) (fun _ _ _ h => h) (Or.inl ⟨by rfl, fun w' hw' => by (clear hw'; go_simp)⟩) hHeld ?_
                      simp only [Act.put, List.setIfInBounds_toArray, List.set_cons_zero, List.set_cons_succ]
                      refine wpAnyH_done (by kernel_rfl) ?_ _
                      clear hHeld
                      go_wp2_with fail
                      go_round
                      case rel => exact ⟨i + 1, 1, _, _, _, rfl, by first | rfl | go_num, by omega, by omega, HLEN.out, HNS.out, HFINb.out⟩
                      case measure => simp [intOf]; omega
                  · rw [if_pos (by rfl)]
                    refine wp_valE (exec_sliceE 25 _ rfl (.agg C.toArray) _ rfl (HB2.out _)) ?_
                    refine hK.out _ _ (((Kp.refl No U3).drew).alloc _) (fun hh => ?_)
                    clear hK K hHeld
                    have hHeld := hh
                    clear hh
                    try simp only [Act.put, List.setIfInBounds_toArray, List.set_cons_zero, List.set_cons_succ]
                    refine wpAnyH_ready (rs := [0]) (by kernel_rfl) (by simp) ?_
                    refine (AllReadyH.cons (o := { dst := some 48, op := Op.buildSlice 25 0 #[], type := 25, pos := "ref.go:183", after := #[], guard := none }) rfl (fun K hK => ?_) AllReadyH.nil)
                    rw [if_pos (by rfl)]
                    refine wp_valE (exec_slice0 25 rfl _ (run_zeroR _)) ?_
                    refine hK.out _ _ ((((Kp.refl No U3).drew).alloc _).alloc _) (fun hh => ?_)
                    clear hK K hHeld
                    have hHeld := hh
                    clear hh
                    try simp only [Act.put, List.setIfInBounds_toArray, List.set_cons_zero, List.set_cons_succ]
                    refine wpAnyH_ready (rs := [4]) (by kernel_rfl) (by simp) ?_
                    refine (AllReadyH.cons (o := { dst := some 52, op := Op.call { callee := Callee.builtin Builtin.append, args := #[Operand.tmp 48, Operand.tmp 51], argTypes := #[25, 25] }, type := 25, pos := "ref.go:183", after := #[{ on := 0, ground := Ground.data }, { on := 3, ground := Ground.data }], guard := none }) rfl (fun K hK => ?_) AllReadyH.nil)
                    rw [if_pos (by rfl)]
                    refine wp_valE (exec_appE _ _ 25 rfl (.slice (some ⟨(U3.drew.alloc (.cells C.toArray 79)).heap.size, 0, none⟩) 0 0) (.slice none 0 0) _ rfl rfl HA1c.out) ?_
                    refine hK.out _ _ HK1c.out (fun hh => ?_)
                    clear hK K hHeld
                    have hHeld := hh
                    clear hh
                    try simp only [Act.put, List.setIfInBounds_toArray, List.set_cons_zero, List.set_cons_succ]
                    refine wpAnyH_ready (rs := [10]) (by kernel_rfl) (by simp) ?_
                    refine (AllReadyH.cons (o := { dst := some 58, op := Op.call { callee := Callee.builtin Builtin.append, args := #[Operand.tmp 52, Operand.tmp 57], argTypes := #[25, 25] }, type := 25, pos := "ref.go:183", after := #[{ on := 4, ground := Ground.data }, { on := 9, ground := Ground.data }, { on := 4, ground := Ground.chain }], guard := none }) rfl (fun K hK => ?_) AllReadyH.nil)
                    rw [if_pos (by rfl)]
                    refine wp_valE (exec_appE _ _ 25 rfl (.slice ad1c 0 cap1c) (.slice (some ⟨U3.heap.size, 0, none⟩) 1 1) _ rfl rfl HA2c.out) ?_
                    refine hK.out _ _ HK2c.out (fun hh => ?_)
                    clear hK K hHeld
                    have hHeld := hh
                    clear hh
                    try simp only [Act.put, List.setIfInBounds_toArray, List.set_cons_zero, List.set_cons_succ]
                    refine wpAnyH_ready (rs := [14]) (by kernel_rfl) (by simp) ?_
                    refine (AllReadyH.cons (o := { dst := some 62, op := Op.call { callee := Callee.builtin Builtin.append, args := #[Operand.tmp 58, Operand.tmp 61], argTypes := #[25, 25] }, type := 25, pos := "ref.go:183", after := #[{ on := 10, ground := Ground.data }, { on := 13, ground := Ground.data }, { on := 10, ground := Ground.chain }], guard := none }) rfl (fun K hK => ?_) AllReadyH.nil)
                    rw [if_pos (by rfl)]
                    refine wp_valE (exec_appE _ _ 25 rfl (.slice ad2c (1) cap2c) (.slice none 0 0) _ rfl rfl HA3c.out) ?_
                    refine hK.out _ _ HK3c.out (fun hh => ?_)
                    clear hK K hHeld
                    have hHeld := hh
                    clear hh
                    try simp only [Act.put, List.setIfInBounds_toArray, List.set_cons_zero, List.set_cons_succ]
                    refine wpAnyH_take (i := 15) (oi := { dst := some 3, op := Op.assign (Operand.tmp 62), type := 25, pos := "ref.go:183", after := #[{ on := 14, ground := Ground.data }, { on := 14, ground := Ground.chain }, { on := 0, ground := Ground.phase }, { on := 1, ground := Ground.phase }, { on := 2, ground := Ground.phase }, { on := 3, ground := Ground.phase }, { on := 4, ground := Ground.phase }, { on := 5, ground := Ground.phase }, { on := 6, ground := Ground.phase }, { on := 7, ground := Ground.phase }, { on := 8, ground := Ground.phase }, { on := 9, ground := Ground.phase }, { on := 10, ground := Ground.phase }, { on := 11, ground := Ground.phase }, { on := 12, ground := Ground.phase }, { on := 13, ground := Ground.phase }, { on := 14, ground := Ground.phase }], guard := none }) (v := .slice ad3c 1 cap3c) rfl (by kernel_rfl) (by kernel_rfl) (by kernel_rfl) (fun _ _ _ h => h) (Or.inl ⟨by rfl, fun w' hw' => by (clear hw'; go_simp)⟩) hHeld ?_
                    simp only [Act.put, List.setIfInBounds_toArray, List.set_cons_zero, List.set_cons_succ]
                    refine wpAnyH_done (by kernel_rfl) ?_ _
                    clear hHeld
                    go_wp2_with fail
                    go_round
                    case rel => exact ⟨i + 1, 1, _, _, _, rfl, by first | rfl | go_num, by omega, by omega, HLEN.out, HNS.out, HFINc.out⟩
                    case measure => simp [intOf]; omega
                · have hmcI : m ≤ cap := hmc
                  have hkc : k ≤ cap := by omega
                  have HS1 : Hid (∀ W, Kp No U3 W → Sim.Src W (.slice (some ⟨g2, 0, none⟩) k cap) (out.take k).length 34 (ents (out.take k))) := fun W hW => src_front (hrow.kp (HY.out.andNone hW) (fun x => x)) HOO.out k (by rw [HM.out]; omega)
                  obtain ⟨AD, hAD⟩ : ∃ AD : Addr, (cap = k ∧ AD = ⟨g2, 0, none⟩) ∨ (¬ cap = k ∧ AD = ⟨g2, k * 34, none⟩) := by
                    by_cases hck : cap = k
                    · exact ⟨_, .inl ⟨hck, rfl⟩⟩
                    · exact ⟨_, .inr ⟨hck, rfl⟩⟩
                  have HAD := hid hAD
                  have HS2 : Hid (∀ W, Kp No U3 W → Sim.Src W (.slice (some AD) (m - k) (cap - k)) (out.drop k).length 34 (ents (out.drop k))) := fun W hW => src_rest (hrow.kp (HY.out.andNone hW) (fun x => x)) HOO.out k (by rw [HM.out]; omega) HM.out _ (by rcases hAD with ⟨h1, _⟩ | ⟨_, h1⟩; exact .inl (by rw [HM.out]; omega); exact .inr h1)
                  obtain ⟨ad1a, cap1a, w1a, ad2a, cap2a, w2a, ad3a, cap3a, w3a, ha1, hk1, ha2, hk2, ha3, hk3, hr3⟩ := r9a (U := U3) (X := U3.drew) ((Kp.refl No U3).drew) HEO.out HS1.out HS2.out HTL.out HDL.out (by omega) (by omega)
                  have HA1a := hid ha1
                  have HK1a := hid hk1
                  have HA2a := hid ha2
                  have HK2a := hid hk2
                  have HA3a := hid ha3
                  have HK3a := hid hk3
                  have HFINa : Hid (MineR w w3a (.slice ad3a (m + 1) cap3a) (out.take k ++ e :: out.drop k)) := ⟨by rw [HLEN.out]; have h := hr3.1; rw [HLEN.out] at h; exact h, fun x hx => Nat.le_trans (Nat.le_trans HR.out.2.2.size HY.out.size) (hr3.2 x hx), (HR.out.2.2.andNone HY.out).andNone hk3⟩
                  clear ha1 hk1 ha2 hk2 ha3 hk3 hr3
                  obtain ⟨ad1b, cap1b, w1b, ad2b, cap2b, w2b, ad3b, cap3b, w3b, ha1, hk1, ha2, hk2, ha3, hk3, hr3⟩ := r9b (U := U3) (X := U3.drew) ((Kp.refl No U3).drew) HEO.out HS1.out HS2.out HTL.out HDL.out (by omega) (by omega)
                  have HA1b := hid ha1
                  have HK1b := hid hk1
                  have HA2b := hid ha2
                  have HK2b := hid hk2
                  have HA3b := hid ha3
                  have HK3b := hid hk3
                  have HFINb : Hid (MineR w w3b (.slice ad3b (m + 1) cap3b) (out.take k ++ e :: out.drop k)) := ⟨by rw [HLEN.out]; have h := hr3.1; rw [HLEN.out] at h; exact h, fun x hx => Nat.le_trans (Nat.le_trans HR.out.2.2.size HY.out.size) (hr3.2 x hx), (HR.out.2.2.andNone HY.out).andNone hk3⟩
                  clear ha1 hk1 ha2 hk2 ha3 hk3 hr3
                  obtain ⟨ad1c, cap1c, w1c, ad2c, cap2c, w2c, ad3c, cap3c, w3c, ha1, hk1, ha2, hk2, ha3, hk3, hr3⟩ := r9c (U := U3) (X := U3.drew) ((Kp.refl No U3).drew) HEO.out HS1.out HS2.out HTL.out HDL.out (by omega) (by omega)
                  have HA1c := hid ha1
                  have HK1c := hid hk1
                  have HA2c := hid ha2
                  have HK2c := hid hk2
                  have HA3c := hid ha3
                  have HK3c := hid hk3
                  have HFINc : Hid (MineR w w3c (.slice ad3c (m + 1) cap3c) (out.take k ++ e :: out.drop k)) := ⟨by rw [HLEN.out]; have h := hr3.1; rw [HLEN.out] at h; exact h, fun x hx => Nat.le_trans (Nat.le_trans HR.out.2.2.size HY.out.size) (hr3.2 x hx), (HR.out.2.2.andNone HY.out).andNone hk3⟩
                  clear ha1 hk1 ha2 hk2 ha3 hk3 hr3
                  clear HS1 HS2 hrow hAD
                  generalize entC e = C at *
                  refine wp_region_held_drew (S := fun W => Kp No U3 W) (by kernel_rfl) ((Kp.refl _ _).drew) (fun hHeld => ?_)
                  refine wpAnyH_take (i := 1) (oi := { dst := some 49, op := Op.move (Operand.tmp 3), type := 25, pos := "ref.go:183", after := #[], guard := none }) (v := .slice (some ⟨g2, 0, none⟩) m cap) rfl (by kernel_rfl) (by kernel_rfl) (by kernel_rfl) (fun _ _ _ h => h) (Or.inl ⟨by rfl, fun w' hw' => by (clear hw'; go_simp)⟩) hHeld ?_
                  simp only [Act.put, List.setIfInBounds_toArray, List.set_cons_zero, List.set_cons_succ]
                  refine wpAnyH_take (i := 2) (oi := { dst := some 50, op := Op.move (Operand.tmp 5), type := 3, pos := "ref.go:183", after := #[], guard := none }) (v := .int .i64 (k : Int)) rfl (by kernel_rfl) (by kernel_rfl) (by kernel_rfl) (fun _ _ _ h => h) (Or.inl ⟨by rfl, fun w' hw' => by (clear hw'; go_simp)⟩) hHeld ?_
                  simp only [Act.put, List.setIfInBounds_toArray, List.set_cons_zero, List.set_cons_succ]
                  refine wpAnyH_take (i := 3) (oi := { dst := some 51, op := Op.slice 25 (Operand.tmp 49) none (some (Operand.tmp 50)) none, type := 25, pos := "ref.go:183", after := #[{ on := 1, ground := Ground.data }, { on := 2, ground := Ground.data }], guard := none }) (v := .slice (some ⟨g2, 0, none⟩) k cap) rfl (by kernel_rfl) (by kernel_rfl) (by kernel_rfl) (fun _ _ _ h => h) (Or.inl ⟨by rfl, fun w' hw' => by (clear hw'; go_simp)⟩) hHeld ?_
                  simp only [Act.put, List.setIfInBounds_toArray, List.set_cons_zero, List.set_cons_succ]
                  refine wpAnyH_take (i := 5) (oi := { dst := some 53, op := Op.move (Operand.tmp 0), type := 25, pos := "ref.go:183", after := #[], guard := none }) (v := .slice (some ⟨g, o, none⟩) n c) rfl (by kernel_rfl) (by kernel_rfl) (by kernel_rfl) (fun _ _ _ h => h) (Or.inl ⟨by rfl, fun w' hw' => by (clear hw'; go_simp)⟩) hHeld ?_
                  simp only [Act.put, List.setIfInBounds_toArray, List.set_cons_zero, List.set_cons_succ]
                  refine wpAnyH_take (i := 6) (oi := { dst := some 54, op := Op.move (Operand.tmp 4), type := 3, pos := "ref.go:183", after := #[], guard := none }) (v := .int .i64 (i : Int)) rfl (by kernel_rfl) (by kernel_rfl) (by kernel_rfl) (fun _ _ _ h => h) (Or.inl ⟨by rfl, fun w' hw' => by (clear hw'; go_simp)⟩) hHeld ?_
                  simp only [Act.put, List.setIfInBounds_toArray, List.set_cons_zero, List.set_cons_succ]
                  refine wpAnyH_take (i := 7) (oi := { dst := some 55, op := Op.indexAddr 25 (Operand.tmp 53) (Operand.tmp 54), type := 0, pos := "ref.go:183", after := #[{ on := 5, ground := Ground.data }, { on := 6, ground := Ground.data }], guard := none }) (v := .pointer (some ⟨g, o + i * 34, none⟩)) rfl (by kernel_rfl) (by kernel_rfl) (by kernel_rfl) (fun _ _ _ h => h) (Or.inl ⟨by rfl, fun w' hw' => by (clear hw'; go_simp)⟩) hHeld ?_
                  simp only [Act.put, List.setIfInBounds_toArray, List.set_cons_zero, List.set_cons_succ]
                  refine wpAnyH_take (i := 8) (oi := { dst := some 56, op := Op.load 79 (Operand.tmp 55), type := 79, pos := "ref.go:183", after := #[{ on := 7, ground := Ground.data }], guard := none }) (v := .agg C.toArray) rfl (by kernel_rfl) (by kernel_rfl) (by kernel_rfl) (fun _ _ _ h => h) (yieldsIf_load_mid (by rfl) _ _ rfl g (o + i * 34) rfl C _ (HLC.out) Try.underlying79 rfl HIC.out) hHeld ?_
                  simp only [Act.put, List.setIfInBounds_toArray, List.set_cons_zero, List.set_cons_succ]
                  refine wpAnyH_take (i := 11) (oi := { dst := some 59, op := Op.move (Operand.tmp 3), type := 25, pos := "ref.go:183", after := #[], guard := none }) (v := .slice (some ⟨g2, 0, none⟩) m cap) rfl (by kernel_rfl) (by kernel_rfl) (by kernel_rfl) (fun _ _ _ h => h) (Or.inl ⟨by rfl, fun w' hw' => by (clear hw'; go_simp)⟩) hHeld ?_
                  simp only [Act.put, List.setIfInBounds_toArray, List.set_cons_zero, List.set_cons_succ]
                  refine wpAnyH_take (i := 12) (oi := { dst := some 60, op := Op.move (Operand.tmp 5), type := 3, pos := "ref.go:183", after := #[], guard := none }) (v := .int .i64 (k : Int)) rfl (by kernel_rfl) (by kernel_rfl) (by kernel_rfl) (fun _ _ _ h => h) (Or.inl ⟨by rfl, fun w' hw' => by (clear hw'; go_simp)⟩) hHeld ?_
                  simp only [Act.put, List.setIfInBounds_toArray, List.set_cons_zero, List.set_cons_succ]
                  refine wpAnyH_take (i := 13) (oi := { dst := some 61, op := Op.slice 25 (Operand.tmp 59) (some (Operand.tmp 60)) none none, type := 25, pos := "ref.go:183", after := #[{ on := 11, ground := Ground.data }, { on := 12, ground := Ground.data }], guard := none }) (v := .slice (some AD) (m - k) (cap - k)) rfl (by kernel_rfl) (by kernel_rfl) (by kernel_rfl) (fun _ _ _ h => h) (Or.inl ⟨by rfl, fun w' hw' => by (clear hw'; rcases HAD.out with ⟨hck, rfl⟩ | ⟨hck, rfl⟩ <;> go_simp)⟩) hHeld ?_
                  simp only [Act.put, List.setIfInBounds_toArray, List.set_cons_zero, List.set_cons_succ]
                  refine wpAnyH_ready (rs := [0, 9]) (by kernel_rfl) (by simp) ?_
                  refine (AllReadyH.cons (o := { dst := some 48, op := Op.buildSlice 25 0 #[], type := 25, pos := "ref.go:183", after := #[], guard := none }) rfl (fun K hK => ?_) (AllReadyH.cons (o := { dst := some 57, op := Op.buildSlice 25 1 #[(0, Operand.tmp 56)], type := 25, pos := "ref.go:183", after := #[{ on := 8, ground := Ground.data }], guard := none }) rfl (fun K hK => ?_) AllReadyH.nil))
                  · rw [if_pos (by rfl)]
                    refine wp_valE (exec_slice0 25 rfl _ (run_zeroR _)) ?_
                    refine hK.out _ _ (((Kp.refl No U3).drew).alloc _) (fun hh => ?_)
                    clear hK K hHeld
                    have hHeld := hh
                    clear hh
                    try simp only [Act.put, List.setIfInBounds_toArray, List.set_cons_zero, List.set_cons_succ]
                    refine wpAnyH_ready (rs := [4, 9]) (by kernel_rfl) (by simp) ?_
                    refine (AllReadyH.cons (o := { dst := some 52, op := Op.call { callee := Callee.builtin Builtin.append, args := #[Operand.tmp 48, Operand.tmp 51], argTypes := #[25, 25] }, type := 25, pos := "ref.go:183", after := #[{ on := 0, ground := Ground.data }, { on := 3, ground := Ground.data }], guard := none }) rfl (fun K hK => ?_) (AllReadyH.cons (o := { dst := some 57, op := Op.buildSlice 25 1 #[(0, Operand.tmp 56)], type := 25, pos := "ref.go:183", after := #[{ on := 8, ground := Ground.data }], guard := none }) rfl (fun K hK => ?_) AllReadyH.nil))
                    · rw [if_pos (by rfl)]
                      refine wp_valE (exec_appE _ _ 25 rfl (.slice (some ⟨U3.heap.size, 0, none⟩) 0 0) (.slice (some ⟨g2, 0, none⟩) k cap) _ rfl rfl HA1a.out) ?_
                      refine hK.out _ _ HK1a.out (fun hh => ?_)
                      clear hK K hHeld
                      have hHeld := hh
                      clear hh
                      try simp only [Act.put, List.setIfInBounds_toArray, List.set_cons_zero, List.set_cons_succ]
                      refine wpAnyH_ready (rs := [9]) (by kernel_rfl) (by simp) ?_
                      refine (AllReadyH.cons (o := { dst := some 57, op := Op.buildSlice 25 1 #[(0, Operand.tmp 56)], type := 25, pos := "ref.go:183", after := #[{ on := 8, ground := Ground.data }], guard := none }) rfl (fun K hK => ?_) AllReadyH.nil)
                      rw [if_pos (by rfl)]
                      refine wp_valE (exec_sliceE 25 _ rfl (.agg C.toArray) _ rfl (HB2.out _)) ?_
                      refine hK.out _ _ (HK1a.out.alloc _) (fun hh => ?_)
                      clear hK K hHeld
                      have hHeld := hh
                      clear hh
                      try simp only [Act.put, List.setIfInBounds_toArray, List.set_cons_zero, List.set_cons_succ]
                      refine wpAnyH_ready (rs := [10]) (by kernel_rfl) (by simp) ?_
                      refine (AllReadyH.cons (o := { dst := some 58, op := Op.call { callee := Callee.builtin Builtin.append, args := #[Operand.tmp 52, Operand.tmp 57], argTypes := #[25, 25] }, type := 25, pos := "ref.go:183", after := #[{ on := 4, ground := Ground.data }, { on := 9, ground := Ground.data }, { on := 4, ground := Ground.chain }], guard := none }) rfl (fun K hK => ?_) AllReadyH.nil)
                      rw [if_pos (by rfl)]
                      refine wp_valE (exec_appE _ _ 25 rfl (.slice ad1a k cap1a) (.slice (some ⟨w1a.heap.size, 0, none⟩) 1 1) _ rfl rfl HA2a.out) ?_
                      refine hK.out _ _ HK2a.out (fun hh => ?_)
                      clear hK K hHeld
                      have hHeld := hh
                      clear hh
                      try simp only [Act.put, List.setIfInBounds_toArray, List.set_cons_zero, List.set_cons_succ]
                      refine wpAnyH_ready (rs := [14]) (by kernel_rfl) (by simp) ?_
                      refine (AllReadyH.cons (o := { dst := some 62, op := Op.call { callee := Callee.builtin Builtin.append, args := #[Operand.tmp 58, Operand.tmp 61], argTypes := #[25, 25] }, type := 25, pos := "ref.go:183", after := #[{ on := 10, ground := Ground.data }, { on := 13, ground := Ground.data }, { on := 10, ground := Ground.chain }], guard := none }) rfl (fun K hK => ?_) AllReadyH.nil)
                      rw [if_pos (by rfl)]
                      refine wp_valE (exec_appE _ _ 25 rfl (.slice ad2a (k + 1) cap2a) (.slice (some AD) (m - k) (cap - k)) _ rfl rfl HA3a.out) ?_
                      refine hK.out _ _ HK3a.out (fun hh => ?_)
                      clear hK K hHeld
                      have hHeld := hh
                      clear hh
                      try simp only [Act.put, List.setIfInBounds_toArray, List.set_cons_zero, List.set_cons_succ]
                      refine wpAnyH_take (i := 15) (oi := { dst := some 3, op := Op.assign (Operand.tmp 62), type := 25, pos := "ref.go:183", after := #[{ on := 14, ground := Ground.data }, { on := 14, ground := Ground.chain }, { on := 0, ground := Ground.phase }, { on := 1, ground := Ground.phase }, { on := 2, ground := Ground.phase }, { on := 3, ground := Ground.phase }, { on := 4, ground := Ground.phase }, { on := 5, ground := Ground.phase }, { on := 6, ground := Ground.phase }, { on := 7, ground := Ground.phase }, { on := 8, ground := Ground.phase }, { on := 9, ground := Ground.phase }, { on := 10, ground := Ground.phase }, { on := 11, ground := Ground.phase }, { on := 12, ground := Ground.phase }, { on := 13, ground := Ground.phase }, { on := 14, ground := Ground.phase }], guard := none }) (v := .slice ad3a (m + 1) cap3a) rfl (by kernel_rfl) (by kernel_rfl) (by kernel_rfl) (fun _ _ _ h => h) (Or.inl ⟨by rfl, fun w' hw' => by (clear hw'; go_simp)⟩) hHeld ?_
                      simp only [Act.put, List.setIfInBounds_toArray, List.set_cons_zero, List.set_cons_succ]
                      refine wpAnyH_done (by kernel_rfl) ?_ _
                      clear hHeld
                      go_wp2_with fail
                      go_round
                      case rel => exact ⟨i + 1, m + 1, _, _, _, rfl, by first | rfl | go_num, by omega, by omega, HLEN.out, HNS.out, HFINa.out⟩
                      case measure => simp [intOf]; omega
                    · rw [if_pos (by rfl)]
                      refine wp_valE (exec_sliceE 25 _ rfl (.agg C.toArray) _ rfl (HB2.out _)) ?_
                      refine hK.out _ _ ((((Kp.refl No U3).drew).alloc _).alloc _) (fun hh => ?_)
                      clear hK K hHeld
                      have hHeld := hh
                      clear hh
                      try simp only [Act.put, List.setIfInBounds_toArray, List.set_cons_zero, List.set_cons_succ]
                      refine wpAnyH_ready (rs := [4]) (by kernel_rfl) (by simp) ?_
                      refine (AllReadyH.cons (o := { dst := some 52, op := Op.call { callee := Callee.builtin Builtin.append, args := #[Operand.tmp 48, Operand.tmp 51], argTypes := #[25, 25] }, type := 25, pos := "ref.go:183", after := #[{ on := 0, ground := Ground.data }, { on := 3, ground := Ground.data }], guard := none }) rfl (fun K hK => ?_) AllReadyH.nil)
                      rw [if_pos (by rfl)]
                      refine wp_valE (exec_appE _ _ 25 rfl (.slice (some ⟨U3.heap.size, 0, none⟩) 0 0) (.slice (some ⟨g2, 0, none⟩) k cap) _ rfl rfl HA1b.out) ?_
                      refine hK.out _ _ HK1b.out (fun hh => ?_)
                      clear hK K hHeld
                      have hHeld := hh
                      clear hh
                      try simp only [Act.put, List.setIfInBounds_toArray, List.set_cons_zero, List.set_cons_succ]
                      refine wpAnyH_ready (rs := [10]) (by kernel_rfl) (by simp) ?_
                      refine (AllReadyH.cons (o := { dst := some 58, op := Op.call { callee := Callee.builtin Builtin.append, args := #[Operand.tmp 52, Operand.tmp 57], argTypes := #[25, 25] }, type := 25, pos := "ref.go:183", after := #[{ on := 4, ground := Ground.data }, { on := 9, ground := Ground.data }, { on := 4, ground := Ground.chain }], guard := none }) rfl (fun K hK => ?_) AllReadyH.nil)
                      rw [if_pos (by rfl)]
                      refine wp_valE (exec_appE _ _ 25 rfl (.slice ad1b k cap1b) (.slice (some ⟨(U3.drew.alloc (.cells #[] 79)).heap.size, 0, none⟩) 1 1) _ rfl rfl HA2b.out) ?_
                      refine hK.out _ _ HK2b.out (fun hh => ?_)
                      clear hK K hHeld
                      have hHeld := hh
                      clear hh
                      try simp only [Act.put, List.setIfInBounds_toArray, List.set_cons_zero, List.set_cons_succ]
                      refine wpAnyH_ready (rs := [14]) (by kernel_rfl) (by simp) ?_
                      refine (AllReadyH.cons (o := { dst := some 62, op := Op.call { callee := Callee.builtin Builtin.append, args := #[Operand.tmp 58, Operand.tmp 61], argTypes := #[25, 25] }, type := 25, pos := "ref.go:183", after := #[{ on := 10, ground := Ground.data }, { on := 13, ground := Ground.data }, { on := 10, ground := Ground.chain }], guard := none }) rfl (fun K hK => ?_) AllReadyH.nil)
                      rw [if_pos (by rfl)]
                      refine wp_valE (exec_appE _ _ 25 rfl (.slice ad2b (k + 1) cap2b) (.slice (some AD) (m - k) (cap - k)) _ rfl rfl HA3b.out) ?_
                      refine hK.out _ _ HK3b.out (fun hh => ?_)
                      clear hK K hHeld
                      have hHeld := hh
                      clear hh
                      try simp only [Act.put, List.setIfInBounds_toArray, List.set_cons_zero, List.set_cons_succ]
                      refine wpAnyH_take (i := 15) (oi := { dst := some 3, op := Op.assign (Operand.tmp 62), type := 25, pos := "ref.go:183", after := #[{ on := 14, ground := Ground.data }, { on := 14, ground := Ground.chain }, { on := 0, ground := Ground.phase }, { on := 1, ground := Ground.phase }, { on := 2, ground := Ground.phase }, { on := 3, ground := Ground.phase }, { on := 4, ground := Ground.phase }, { on := 5, ground := Ground.phase }, { on := 6, ground := Ground.phase }, { on := 7, ground := Ground.phase }, { on := 8, ground := Ground.phase }, { on := 9, ground := Ground.phase }, { on := 10, ground := Ground.phase }, { on := 11, ground := Ground.phase }, { on := 12, ground := Ground.phase }, { on := 13, ground := Ground.phase }, { on := 14, ground := Ground.phase }], guard := none }) (v := .slice ad3b (m + 1) cap3b) rfl (by kernel_rfl) (by kernel_rfl) (by kernel_rfl) (fun _ _ _ h => h) (Or.inl ⟨by rfl, fun w' hw' => by (clear hw'; go_simp)⟩) hHeld ?_
                      simp only [Act.put, List.setIfInBounds_toArray, List.set_cons_zero, List.set_cons_succ]
                      refine wpAnyH_done (by kernel_rfl) ?_ _
                      clear hHeld
                      go_wp2_with fail
                      go_round
                      case rel => exact ⟨i + 1, m + 1, _, _, _, rfl, by first | rfl | go_num, by omega, by omega, HLEN.out, HNS.out, HFINb.out⟩
                      case measure => simp [intOf]; omega
                  · rw [if_pos (by rfl)]
                    refine wp_valE (exec_sliceE 25 _ rfl (.agg C.toArray) _ rfl (HB2.out _)) ?_
                    refine hK.out _ _ (((Kp.refl No U3).drew).alloc _) (fun hh => ?_)
                    clear hK K hHeld
                    have hHeld := hh
                    clear hh
                    try simp only [Act.put, List.setIfInBounds_toArray, List.set_cons_zero, List.set_cons_succ]
                    refine wpAnyH_ready (rs := [0]) (by kernel_rfl) (by simp) ?_
                    refine (AllReadyH.cons (o := { dst := some 48, op := Op.buildSlice 25 0 #[], type := 25, pos := "ref.go:183", after := #[], guard := none }) rfl (fun K hK => ?_) AllReadyH.nil)
                    rw [if_pos (by rfl)]
                    refine wp_valE (exec_slice0 25 rfl _ (run_zeroR _)) ?_
                    refine hK.out _ _ ((((Kp.refl No U3).drew).alloc _).alloc _) (fun hh => ?_)
                    clear hK K hHeld
                    have hHeld := hh
                    clear hh
                    try simp only [Act.put, List.setIfInBounds_toArray, List.set_cons_zero, List.set_cons_succ]
                    refine wpAnyH_ready (rs := [4]) (by kernel_rfl) (by simp) ?_
                    refine (AllReadyH.cons (o := { dst := some 52, op := Op.call { callee := Callee.builtin Builtin.append, args := #[Operand.tmp 48, Operand.tmp 51], argTypes := #[25, 25] }, type := 25, pos := "ref.go:183", after := #[{ on := 0, ground := Ground.data }, { on := 3, ground := Ground.data }], guard := none }) rfl (fun K hK => ?_) AllReadyH.nil)
                    rw [if_pos (by rfl)]
                    refine wp_valE (exec_appE _ _ 25 rfl (.slice (some ⟨(U3.drew.alloc (.cells C.toArray 79)).heap.size, 0, none⟩) 0 0) (.slice (some ⟨g2, 0, none⟩) k cap) _ rfl rfl HA1c.out) ?_
                    refine hK.out _ _ HK1c.out (fun hh => ?_)
                    clear hK K hHeld
                    have hHeld := hh
                    clear hh
                    try simp only [Act.put, List.setIfInBounds_toArray, List.set_cons_zero, List.set_cons_succ]
                    refine wpAnyH_ready (rs := [10]) (by kernel_rfl) (by simp) ?_
                    refine (AllReadyH.cons (o := { dst := some 58, op := Op.call { callee := Callee.builtin Builtin.append, args := #[Operand.tmp 52, Operand.tmp 57], argTypes := #[25, 25] }, type := 25, pos := "ref.go:183", after := #[{ on := 4, ground := Ground.data }, { on := 9, ground := Ground.data }, { on := 4, ground := Ground.chain }], guard := none }) rfl (fun K hK => ?_) AllReadyH.nil)
                    rw [if_pos (by rfl)]
                    refine wp_valE (exec_appE _ _ 25 rfl (.slice ad1c k cap1c) (.slice (some ⟨U3.heap.size, 0, none⟩) 1 1) _ rfl rfl HA2c.out) ?_
                    refine hK.out _ _ HK2c.out (fun hh => ?_)
                    clear hK K hHeld
                    have hHeld := hh
                    clear hh
                    try simp only [Act.put, List.setIfInBounds_toArray, List.set_cons_zero, List.set_cons_succ]
                    refine wpAnyH_ready (rs := [14]) (by kernel_rfl) (by simp) ?_
                    refine (AllReadyH.cons (o := { dst := some 62, op := Op.call { callee := Callee.builtin Builtin.append, args := #[Operand.tmp 58, Operand.tmp 61], argTypes := #[25, 25] }, type := 25, pos := "ref.go:183", after := #[{ on := 10, ground := Ground.data }, { on := 13, ground := Ground.data }, { on := 10, ground := Ground.chain }], guard := none }) rfl (fun K hK => ?_) AllReadyH.nil)
                    rw [if_pos (by rfl)]
                    refine wp_valE (exec_appE _ _ 25 rfl (.slice ad2c (k + 1) cap2c) (.slice (some AD) (m - k) (cap - k)) _ rfl rfl HA3c.out) ?_
                    refine hK.out _ _ HK3c.out (fun hh => ?_)
                    clear hK K hHeld
                    have hHeld := hh
                    clear hh
                    try simp only [Act.put, List.setIfInBounds_toArray, List.set_cons_zero, List.set_cons_succ]
                    refine wpAnyH_take (i := 15) (oi := { dst := some 3, op := Op.assign (Operand.tmp 62), type := 25, pos := "ref.go:183", after := #[{ on := 14, ground := Ground.data }, { on := 14, ground := Ground.chain }, { on := 0, ground := Ground.phase }, { on := 1, ground := Ground.phase }, { on := 2, ground := Ground.phase }, { on := 3, ground := Ground.phase }, { on := 4, ground := Ground.phase }, { on := 5, ground := Ground.phase }, { on := 6, ground := Ground.phase }, { on := 7, ground := Ground.phase }, { on := 8, ground := Ground.phase }, { on := 9, ground := Ground.phase }, { on := 10, ground := Ground.phase }, { on := 11, ground := Ground.phase }, { on := 12, ground := Ground.phase }, { on := 13, ground := Ground.phase }, { on := 14, ground := Ground.phase }], guard := none }) (v := .slice ad3c (m + 1) cap3c) rfl (by kernel_rfl) (by kernel_rfl) (by kernel_rfl) (fun _ _ _ h => h) (Or.inl ⟨by rfl, fun w' hw' => by (clear hw'; go_simp)⟩) hHeld ?_
                    simp only [Act.put, List.setIfInBounds_toArray, List.set_cons_zero, List.set_cons_succ]
                    refine wpAnyH_done (by kernel_rfl) ?_ _
                    clear hHeld
                    go_wp2_with fail
                    go_round
                    case rel => exact ⟨i + 1, m + 1, _, _, _, rfl, by first | rfl | go_num, by omega, by omega, HLEN.out, HNS.out, HFINc.out⟩
                    case measure => simp [intOf]; omega
    · have hltI : ¬ (i : Int) < (n : Int) := by omega
      have HFIN : Hid (Sorted l out ∧ out.length ≤ n ∧ MineR w V (.slice ad m cap) out) := by
        have h := HS.out
        rw [List.take_of_length_le (by rw [HN.out]; omega)] at h
        exact ⟨h, by rw [HM.out]; omega, HR.out⟩
      go_wp2_with fail
      go_ret
      exact ⟨_, out, rfl, HFIN.out.1, by rw [HN.out]; exact HFIN.out.2.1, HFIN.out.2.2⟩
end Go.Proofs.Ytenfahecnkdhaaa.Nd
end
