/- Of the proof: the texts SgRPack, SgKeys, one behind the other. -/
import Derived.Test.YtampnikdmgojjaaGreatB10
import Derived.Test.YtampnikdmgojjaaGreatB16
import Derived.BigQuiet
import Derived.Test.YtampnikdmgojjaaGreatSgShelf
section
/-
  The document's Packs: the numbers of packs, rising, each once.
-/
namespace Go.Proofs.YtampnikdmgojjaaGreat.Sg
open Go.RowKit
open Sim (hid Kp No)

/-! ### Plain -/
/-- The packs that entries stand in. -/
def Packed (l : List Ent) (out : List Int) : Prop := out.Pairwise (· < ·) ∧ ∀ z, z ∈ out ↔ ∃ e ∈ l, e.2.1 = z
theorem Packed.nil : Packed [] [] := ⟨List.Pairwise.nil, by simp⟩
theorem rise_ext : ∀ {a b : List Int}, a.Pairwise (· < ·) → b.Pairwise (· < ·) → (∀ z, z ∈ a ↔ z ∈ b) → a = b
  | [], [], _, _, _ => rfl
  | [], y :: b, _, _, h => by have := (h y).2 (by simp); simp at this
  | x :: a, [], _, _, h => by have := (h x).1 (by simp); simp at this
  | x :: a, y :: b, ha, hb, h => by
    obtain ⟨a1, a2⟩ := List.pairwise_cons.1 ha
    obtain ⟨b1, b2⟩ := List.pairwise_cons.1 hb
    have hxy : x = y := by
      rcases List.mem_cons.1 ((h x).1 (by simp)) with e | hx
      · exact e
      · rcases List.mem_cons.1 ((h y).2 (by simp)) with e | hy
        · exact e.symm
        · have := a1 y hy
          have := b1 x hx
          omega
    subst hxy
    refine congrArg _ (rise_ext a2 b2 (fun z => ⟨fun hz => ?_, fun hz => ?_⟩))
    · rcases List.mem_cons.1 ((h z).1 (by simp [hz])) with e | hz'
      · have := a1 z hz; omega
      · exact hz'
    · rcases List.mem_cons.1 ((h z).2 (by simp [hz])) with e | hz'
      · have := b1 z hz; omega
      · exact hz'
theorem Packed.eq {l : List Ent} {a b : List Int} (ha : Packed l a) (hb : Packed l b) : a = b := rise_ext ha.1 hb.1 (fun z => (ha.2 z).trans (hb.2 z).symm)
theorem Packed.has {l : List Ent} {out : List Int} {e : Ent} {k : Nat} (h : Packed l out) (hy : out[k]? = some e.2.1) : Packed (l ++ [e]) out := by
  refine ⟨h.1, fun z => (h.2 z).trans ⟨fun ⟨x, hx, hz⟩ => ⟨x, by simp [hx], hz⟩, fun ⟨x, hx, hz⟩ => ?_⟩⟩
  rcases List.mem_append.1 hx with hx | hx
  · exact ⟨x, hx, hz⟩
  · simp at hx
    subst hx
    exact (h.2 z).1 (by rw [← hz]; exact List.mem_of_getElem? hy)
theorem Packed.ins {l : List Ent} {out : List Int} {e : Ent} {k : Nat} (h : Packed l out) (h1 : ∀ x ∈ out.take k, x < e.2.1) (h2 : ∀ y, out[k]? = some y → e.2.1 < y) : Packed (l ++ [e]) (out.take k ++ e.2.1 :: out.drop k) := by
  have ha : ∀ x ∈ out.drop k, e.2.1 < x := by
    intro x hx
    obtain ⟨i, hi⟩ := List.mem_iff_getElem?.1 hx
    rw [List.getElem?_drop] at hi
    have hkl : k < out.length := by have := (List.getElem?_eq_some_iff.1 hi).1; omega
    obtain ⟨y, hy⟩ : ∃ y, out[k]? = some y := ⟨_, List.getElem?_eq_getElem hkl⟩
    have h3 := h2 y hy
    cases i with
    | zero =>
      rw [Nat.add_zero, hy] at hi
      cases hi
      exact h3
    | succ i =>
      have hlt := (List.getElem?_eq_some_iff.1 hi).1
      have h4 := List.pairwise_iff_getElem.1 h.1 k (k + (i + 1)) hkl hlt (by omega)
      rw [(List.getElem?_eq_some_iff.1 hy).2, (List.getElem?_eq_some_iff.1 hi).2] at h4
      omega
  refine ⟨?_, fun z => ?_⟩
  · have hR : (out.take k ++ out.drop k).Pairwise (· < ·) := by rw [List.take_append_drop]; exact h.1
    obtain ⟨r1, r2, r3⟩ := List.pairwise_append.1 hR
    refine List.pairwise_append.2 ⟨r1, List.pairwise_cons.2 ⟨ha, r2⟩, fun x hx y hy => ?_⟩
    rcases List.mem_cons.1 hy with rfl | hy
    · exact h1 x hx
    · exact r3 x hx y hy
  · have e1 : z ∈ out ↔ z ∈ out.take k ∨ z ∈ out.drop k := by rw [← List.mem_append, List.take_append_drop]
    rw [List.mem_append, List.mem_cons]
    constructor
    · rintro (hz | rfl | hz)
      · obtain ⟨x, hx, hz⟩ := (h.2 z).1 (e1.2 (.inl hz))
        exact ⟨x, by simp [hx], hz⟩
      · exact ⟨e, by simp, rfl⟩
      · obtain ⟨x, hx, hz⟩ := (h.2 z).1 (e1.2 (.inr hz))
        exact ⟨x, by simp [hx], hz⟩
    · rintro ⟨x, hx, hz⟩
      rcases List.mem_append.1 hx with hx | hx
      · rcases e1.1 ((h.2 z).2 ⟨x, hx, hz⟩) with h | h
        · exact .inl h
        · exact .inr (.inr h)
      · simp at hx
        subst hx
        exact .inr (.inl hz.symm)
theorem takeI_next {out : List Int} {z y : Int} {k : Nat} (h : ∀ x ∈ out.take k, x < z) (hy : out[k]? = some y) (hl : y < z) : ∀ x ∈ out.take (k + 1), x < z := fun x hx => by
  rw [List.take_add_one, hy] at hx
  rcases List.mem_append.1 hx with hx | hx
  · exact h x hx
  · simp at hx
    subst hx
    exact hl

/-! ### Rows of numbers -/
def ic (zs : List Int) : List Value := zs.map (Value.int .i64)
theorem ic_length (zs : List Int) : (ic zs).length = zs.length := by simp [ic]
theorem ic_append (a b : List Int) : ic (a ++ b) = ic a ++ ic b := by simp [ic]
theorem ic_one (zs : List Int) : ∀ u ∈ ic zs, u.oneCell' = true := fun u hu => by
  obtain ⟨z, _, rfl⟩ := List.mem_map.1 hu
  rfl
theorem ic_at {zs : List Int} {i : Nat} {u : Value} (h : (ic zs)[i]? = some u) : ∃ z, zs[i]? = some z ∧ u = .int .i64 z := by
  rw [ic, List.getElem?_map] at h
  obtain ⟨z, hz, rfl⟩ := Option.map_eq_some_iff.1 h
  exact ⟨z, hz, rfl⟩
theorem infoI : (Tryz.prog.info? 3).map (fun i => (i.zero, i.size, i.bytes)) = some (some (.int .i64 0), 1, 8) := by kernel_rfl
/-- A row of numbers of the call's own behind u. -/
def RowI (u w : World) (v : Value) (d : List Int) : Prop := Sim.Row w 3 1 v d.length (ic d) ∧ (∀ x, v.ownBlock = some x → u.heap.size ≤ x)
def MineI (u w : World) (v : Value) (d : List Int) : Prop := Sim.Row w 3 1 v d.length (ic d) ∧ (∀ x, v.ownBlock = some x → u.heap.size ≤ x) ∧ Kp No u w
theorem MineI.nil (w : World) : MineI w w (.slice none 0 0) [] := ⟨Sim.Row.nil _ _ _, by intro x hx; simp [Value.ownBlock] at hx, Kp.refl _ _⟩
def IRow (w : World) (g : Nat) (d : List Int) : Prop := g < w.heap.size ∧ ∀ i z, d[i]? = some z → w.cell? ⟨g, i, none⟩ = some (.int .i64 z)
theorem IRow.kp {L : Nat → Prop} {w w' : World} {g : Nat} {d : List Int} (h : IRow w g d) (k : Kp L w w') (hg : ¬ L g) : IRow w' g d := ⟨Nat.lt_of_lt_of_le h.1 k.size, fun i z hz => (k.cell (p := ⟨g, i, none⟩) h.1 hg).trans (h.2 i z hz)⟩
theorem iRow_of {w : World} {g n cap : Nat} {d : List Int} (h : Sim.Row w 3 1 (.slice (some ⟨g, 0, none⟩) n cap) n (ic d)) (hn : d.length = n) : IRow w g d :=
  ⟨h.lt g rfl, fun i z hz => by
    have hil := (List.getElem?_eq_some_iff.1 hz).1
    rw [h.cellAt i (by omega), ic, List.getElem?_map, hz]
    rfl⟩
theorem app_anyI (w : World) (ty : TypeId) (v vx : Value) (n m : Nat) (xs ys : List Value) (hown : Sim.Row w 3 1 v n xs) (hy : Sim.Src w vx m 1 ys) (hlen : n + m ≤ 2000000) :
    ∃ ad cap w', (Builtin.append_ #[47, 47] ty #[v, vx]).run Tryz.prog w = .ok (.slice ad (n + m) cap) w' ∧ Sim.Row w' 3 1 (.slice ad (n + m) cap) (n + m) (xs ++ ys) ∧ w.grownBy w' v.ownBlock ∧ ((Value.slice ad (n + m) cap).ownBlock = v.ownBlock ∨ (Value.slice ad (n + m) cap).ownBlock = some w.heap.size) := by
  obtain ⟨i0, hi, hz0, hz1', hz2⟩ := info_parts infoI
  rcases hy with ⟨rfl, rfl, rfl⟩ | ⟨ad, c, rfl, hl, hc, h1⟩
  · have hr := run_append_owned_none (P := Tryz.prog) w 0 47 ty 3 i0 1 Tryz.underlying47 hi v n xs hown
    obtain ⟨ad, cap, rfl, _⟩ := hown.shape
    exact ⟨ad, cap, w, hr, by rw [List.append_nil]; exact hown, ⟨rfl, rfl, rfl, Nat.le_refl _, fun _ _ _ => rfl⟩, .inl rfl⟩
  · obtain ⟨v', w', hr, h8, h9, _, h10⟩ := run_append_own_at (P := Tryz.prog) w 0 47 ty 3 i0 (.int .i64 0) 1 8 Tryz.underlying47 hi hz0 hz1' hz2 rfl (by omega) v n xs hown ad m c ys hl hc h1 (by unfold maxLen; omega) (by omega) (Nat.zero_le _)
    have h8' : Sim.Row w' 3 1 v' (n + m) (xs ++ ys) := h8
    obtain ⟨ad', cap', rfl, _⟩ := h8'.shape
    exact ⟨ad', cap', w', hr, h8, h9, h10⟩
theorem appI_step {u w : World} {v vx : Value} {d x : List Int} (hu : Kp No u w) (hr : RowI u w v d) (hs : Sim.Src w vx x.length 1 (ic x)) (hl : d.length + x.length ≤ 2000000) (ty : TypeId) :
    ∃ ad cap w', (Builtin.append_ #[47, 47] ty #[v, vx]).run Tryz.prog w = .ok (.slice ad (d.length + x.length) cap) w' ∧ RowI u w' (.slice ad (d.length + x.length) cap) (d ++ x) ∧ Kp No u w' ∧ Kp (fun g => v.ownBlock = some g) w w' := by
  obtain ⟨ad, cap, w', h1, h2, h3, h4⟩ := app_anyI w ty v vx d.length x.length (ic d) (ic x) hr.1 hs hl
  refine ⟨ad, cap, w', h1, ⟨by rw [List.length_append, ic_append]; exact h2, fun g hg => ?_⟩, hu.grown h3 (fun g hg => .inr (hr.2 g hg)), Kp.ofGrown h3⟩
  rcases h4 with e | e
  · exact hr.2 g (by rw [← e]; exact hg)
  · rw [e] at hg
    cases hg
    exact hu.size
theorem run_zeroI (w : World) : (Instr.buildSlice 47 0 #[]).run Tryz.prog w = .ok (.slice (some ⟨w.heap.size, 0, none⟩) 0 0) (w.alloc (.cells #[] 3)) := by kernel_rfl
theorem run_oneI (z : Int) (w : World) : (Instr.buildSlice 47 1 #[(0, .int .i64 z)]).run Tryz.prog w = .ok (.slice (some ⟨w.heap.size, 0, none⟩) 1 1) (w.alloc (.cells #[.int .i64 z] 3)) := by kernel_rfl
theorem rowI_zero {u w : World} (hu : Kp No u w) : RowI u (w.alloc (.cells #[] 3)) (.slice (some ⟨w.heap.size, 0, none⟩) 0 0) [] :=
  ⟨World.ownsRow_made w #[] 0 (Nat.zero_le _) (Nat.zero_le _) rfl, fun x hx => by simp [Value.ownBlock] at hx; have := hu.size; omega⟩
theorem RowI.keep {u w w' : World} {v : Value} {d : List Int} (h : RowI u w v d) (k : Kp No w w') : RowI u w' v d := ⟨h.1.kept k, h.2⟩
theorem srcI_one (z : Int) (w : World) : Sim.Src (w.alloc (.cells #[.int .i64 z] 3)) (.slice (some ⟨w.heap.size, 0, none⟩) 1 1) [z].length 1 (ic [z]) :=
  Sim.Src.one w [.int .i64 z] 1 3 rfl (ic_one [z])
theorem srcI_kp {L : Nat → Prop} {w w' : World} {v : Value} {m : Nat} {ys : List Value} (h : Sim.Src w v m 1 ys) (k : Kp L w w') (hv : ∀ g o s n c, v = .slice (some ⟨g, o, s⟩) n c → g < w.heap.size ∧ ¬ L g) : Sim.Src w' v m 1 ys := by
  rcases h with h | ⟨ad, c, rfl, h2, h3, h4⟩
  · exact .inl h
  · obtain ⟨g, o, s⟩ := ad
    obtain ⟨h5, h6⟩ := hv g o s m c rfl
    exact .inr ⟨_, c, rfl, h2, fun j u hj => by
      rw [← h3 j u hj]
      exact k.cell (p := (⟨g, o, s⟩ : Addr).add j) (by rw [show ((⟨g, o, s⟩ : Addr).add j).block = g by unfold Addr.add; split <;> rfl]; exact h5) (by rw [show ((⟨g, o, s⟩ : Addr).add j).block = g by unfold Addr.add; split <;> rfl]; exact h6), h4⟩
theorem srcI_front {w : World} {g cap : Nat} {d : List Int} (h : IRow w g d) (k : Nat) (hk : k ≤ d.length) : Sim.Src w (.slice (some ⟨g, 0, none⟩) k cap) (d.take k).length 1 (ic (d.take k)) := by
  have hl : (d.take k).length = k := by rw [List.length_take]; omega
  refine .inr ⟨_, cap, by rw [hl], by rw [ic_length]; omega, fun j u hj => ?_, ic_one _⟩
  obtain ⟨z, hz, rfl⟩ := ic_at hj
  have hjk : j < k := by have := (List.getElem?_eq_some_iff.1 hz).1; omega
  rw [List.getElem?_take_of_lt hjk] at hz
  rw [Sim.addr_add, Nat.zero_add]
  exact h.2 j z hz
theorem srcI_rest {w : World} {g cap m : Nat} {d : List Int} (h : IRow w g d) (k : Nat) (_hk : k ≤ d.length) (hm : d.length = m) (ad : Addr) (had : d.length = k ∨ ad = ⟨g, k, none⟩) : Sim.Src w (.slice (some ad) (m - k) cap) (d.drop k).length 1 (ic (d.drop k)) := by
  have hl : (d.drop k).length = m - k := by rw [List.length_drop, hm]
  refine .inr ⟨_, cap, by rw [hl], by rw [ic_length]; omega, fun j u hj => ?_, ic_one _⟩
  obtain ⟨z, hz, rfl⟩ := ic_at hj
  have hjl := (List.getElem?_eq_some_iff.1 hz).1
  rw [hl] at hjl
  rcases had with h0 | rfl
  · omega
  rw [List.getElem?_drop] at hz
  rw [Sim.addr_add]
  exact h.2 (k + j) z hz

section three
variable {U X : World} {v51 v63 : Value} {out : List Int} {z : Int} {k m : Nat}
theorem p9_tail {w1 : World} {ad1 : Option Addr} {cap1 : Nat} {v59 : Value} (h1 : Kp No U w1) (hr : RowI U w1 (.slice ad1 k cap1) (out.take k)) (hs59 : Sim.Src w1 v59 [z].length 1 (ic [z])) (hs2 : ∀ W, Kp No U W → Sim.Src W v63 (out.drop k).length 1 (ic (out.drop k))) (hk : (out.take k).length = k) (hm : k + 1 + (out.drop k).length = m + 1) (hl : m ≤ 1000) :
    ∃ ad2 cap2 w2 ad3 cap3 w3, (Builtin.append_ #[47, 47] 47 #[.slice ad1 k cap1, v59]).run Tryz.prog w1 = .ok (.slice ad2 (k + 1) cap2) w2 ∧ Kp No U w2 ∧
      (Builtin.append_ #[47, 47] 47 #[.slice ad2 (k + 1) cap2, v63]).run Tryz.prog w2 = .ok (.slice ad3 (m + 1) cap3) w3 ∧ Kp No U w3 ∧ RowI U w3 (.slice ad3 (m + 1) cap3) (out.take k ++ z :: out.drop k) := by
  obtain ⟨ad2, cap2, w2, a1, a2, a3, _⟩ := appI_step h1 hr hs59 (by simp; omega) 47
  have e2 : (out.take k).length + [z].length = k + 1 := by rw [hk]; rfl
  rw [e2] at a1 a2
  obtain ⟨ad3, cap3, w3, b1, b2, b3, _⟩ := appI_step a3 a2 (hs2 w2 a3) (by rw [List.length_append, e2]; omega) 47
  have e3 : (out.take k ++ [z]).length + (out.drop k).length = m + 1 := by rw [List.length_append, e2]; exact hm
  rw [e3, List.append_assoc, List.singleton_append] at b2
  rw [e3] at b1
  exact ⟨ad2, cap2, w2, ad3, cap3, w3, a1, a3, b1, b3, b2⟩
theorem p9_one {W : World} {g : Nat} (hW : Kp No U W) (hr : RowI U W (.slice (some ⟨g, 0, none⟩) 0 0) []) (hs1 : ∀ W, Kp No U W → Sim.Src W v51 (out.take k).length 1 (ic (out.take k))) (hk : (out.take k).length = k) (hl : k ≤ 1000) :
    ∃ ad1 cap1 w1, (Builtin.append_ #[47, 47] 47 #[.slice (some ⟨g, 0, none⟩) 0 0, v51]).run Tryz.prog W = .ok (.slice ad1 k cap1) w1 ∧ Kp No U w1 ∧ RowI U w1 (.slice ad1 k cap1) (out.take k) ∧ Kp (fun x => x = g) W w1 := by
  obtain ⟨ad1, cap1, w1, a1, a2, a3, a4⟩ := appI_step hW hr (hs1 W hW) (by simp; omega) 47
  have e1 : ([] : List Int).length + (out.take k).length = k := by rw [hk]; simp
  rw [e1, List.nil_append] at a2
  rw [e1] at a1
  refine ⟨ad1, cap1, w1, a1, a3, a2, ⟨a4.os, a4.tape, a4.output, a4.size, fun j hj hne => a4.block j hj (fun h => hne ?_)⟩⟩
  simp [Value.ownBlock] at h
  exact h.symm
theorem p9a (hX : Kp No U X) (hs1 : ∀ W, Kp No U W → Sim.Src W v51 (out.take k).length 1 (ic (out.take k))) (hs2 : ∀ W, Kp No U W → Sim.Src W v63 (out.drop k).length 1 (ic (out.drop k))) (hk : (out.take k).length = k) (hm : k + 1 + (out.drop k).length = m + 1) (hl : m ≤ 1000) (hkm : k ≤ m) :
    ∃ ad1 cap1 w1 ad2 cap2 w2 ad3 cap3 w3, (Builtin.append_ #[47, 47] 47 #[.slice (some ⟨X.heap.size, 0, none⟩) 0 0, v51]).run Tryz.prog (X.alloc (.cells #[] 3)) = .ok (.slice ad1 k cap1) w1 ∧ Kp No U w1 ∧ (Builtin.append_ #[47, 47] 47 #[.slice ad1 k cap1, .slice (some ⟨w1.heap.size, 0, none⟩) 1 1]).run Tryz.prog (w1.alloc (.cells #[.int .i64 z] 3)) = .ok (.slice ad2 (k + 1) cap2) w2 ∧ Kp No U w2 ∧ (Builtin.append_ #[47, 47] 47 #[.slice ad2 (k + 1) cap2, v63]).run Tryz.prog w2 = .ok (.slice ad3 (m + 1) cap3) w3 ∧ Kp No U w3 ∧ RowI U w3 (.slice ad3 (m + 1) cap3) (out.take k ++ z :: out.drop k) := by
  obtain ⟨ad1, cap1, w1, a1, a2, a3, _⟩ := p9_one (hX.alloc _) (rowI_zero hX) hs1 hk (by omega)
  obtain ⟨ad2, cap2, w2, ad3, cap3, w3, b1, b2, b3, b4, b5⟩ := p9_tail (a2.alloc (.cells #[.int .i64 z] 3)) (a3.keep ((Kp.refl No w1).alloc _)) (srcI_one z w1) hs2 hk hm hl
  exact ⟨ad1, cap1, w1, ad2, cap2, w2, ad3, cap3, w3, a1, a2, b1, b2, b3, b4, b5⟩
theorem p9b (hX : Kp No U X) (hs1 : ∀ W, Kp No U W → Sim.Src W v51 (out.take k).length 1 (ic (out.take k))) (hs2 : ∀ W, Kp No U W → Sim.Src W v63 (out.drop k).length 1 (ic (out.drop k))) (hk : (out.take k).length = k) (hm : k + 1 + (out.drop k).length = m + 1) (hl : m ≤ 1000) (hkm : k ≤ m) :
    ∃ ad1 cap1 w1 ad2 cap2 w2 ad3 cap3 w3, (Builtin.append_ #[47, 47] 47 #[.slice (some ⟨X.heap.size, 0, none⟩) 0 0, v51]).run Tryz.prog ((X.alloc (.cells #[] 3)).alloc (.cells #[.int .i64 z] 3)) = .ok (.slice ad1 k cap1) w1 ∧ Kp No U w1 ∧ (Builtin.append_ #[47, 47] 47 #[.slice ad1 k cap1, .slice (some ⟨(X.alloc (.cells #[] 3)).heap.size, 0, none⟩) 1 1]).run Tryz.prog w1 = .ok (.slice ad2 (k + 1) cap2) w2 ∧ Kp No U w2 ∧ (Builtin.append_ #[47, 47] 47 #[.slice ad2 (k + 1) cap2, v63]).run Tryz.prog w2 = .ok (.slice ad3 (m + 1) cap3) w3 ∧ Kp No U w3 ∧ RowI U w3 (.slice ad3 (m + 1) cap3) (out.take k ++ z :: out.drop k) := by
  have hX2 := (hX.alloc (.cells #[] 3)).alloc (.cells #[.int .i64 z] 3)
  obtain ⟨ad1, cap1, w1, a1, a2, a3, a4⟩ := p9_one hX2 ((rowI_zero hX).keep ((Kp.refl No _).alloc (.cells #[.int .i64 z] 3))) hs1 hk (by omega)
  have hs := srcI_one z (X.alloc (.cells #[] 3))
  obtain ⟨ad2, cap2, w2, ad3, cap3, w3, b1, b2, b3, b4, b5⟩ := p9_tail a2 a3 (srcI_kp hs a4 (fun g o s n c h => by simp at h; obtain ⟨⟨rfl, _⟩, _⟩ := h; exact ⟨by simp, by simp⟩)) hs2 hk hm hl
  exact ⟨ad1, cap1, w1, ad2, cap2, w2, ad3, cap3, w3, a1, a2, b1, b2, b3, b4, b5⟩
theorem p9c (hX : Kp No U X) (hs1 : ∀ W, Kp No U W → Sim.Src W v51 (out.take k).length 1 (ic (out.take k))) (hs2 : ∀ W, Kp No U W → Sim.Src W v63 (out.drop k).length 1 (ic (out.drop k))) (hk : (out.take k).length = k) (hm : k + 1 + (out.drop k).length = m + 1) (hl : m ≤ 1000) (hkm : k ≤ m) :
    ∃ ad1 cap1 w1 ad2 cap2 w2 ad3 cap3 w3, (Builtin.append_ #[47, 47] 47 #[.slice (some ⟨(X.alloc (.cells #[.int .i64 z] 3)).heap.size, 0, none⟩) 0 0, v51]).run Tryz.prog ((X.alloc (.cells #[.int .i64 z] 3)).alloc (.cells #[] 3)) = .ok (.slice ad1 k cap1) w1 ∧ Kp No U w1 ∧ (Builtin.append_ #[47, 47] 47 #[.slice ad1 k cap1, .slice (some ⟨X.heap.size, 0, none⟩) 1 1]).run Tryz.prog w1 = .ok (.slice ad2 (k + 1) cap2) w2 ∧ Kp No U w2 ∧ (Builtin.append_ #[47, 47] 47 #[.slice ad2 (k + 1) cap2, v63]).run Tryz.prog w2 = .ok (.slice ad3 (m + 1) cap3) w3 ∧ Kp No U w3 ∧ RowI U w3 (.slice ad3 (m + 1) cap3) (out.take k ++ z :: out.drop k) := by
  have hX1 := hX.alloc (.cells #[.int .i64 z] 3)
  have hX2 := hX1.alloc (.cells #[] 3)
  have hz := rowI_zero hX1
  obtain ⟨ad1, cap1, w1, a1, a2, a3, a4⟩ := p9_one hX2 hz hs1 hk (by omega)
  have hs := srcI_kp (srcI_one z X) ((Kp.refl No _).alloc (.cells #[] 3)) (fun g o s n c h => by simp at h; obtain ⟨⟨rfl, _⟩, _⟩ := h; exact ⟨by simp, fun x => x⟩)
  obtain ⟨ad2, cap2, w2, ad3, cap3, w3, b1, b2, b3, b4, b5⟩ := p9_tail a2 a3 (srcI_kp hs a4 (fun g o s n c h => by simp at h; obtain ⟨⟨rfl, _⟩, _⟩ := h; exact ⟨by simp; omega, by simp⟩)) hs2 hk hm hl
  exact ⟨ad1, cap1, w1, ad2, cap2, w2, ad3, cap3, w3, a1, a2, b1, b2, b3, b4, b5⟩
end three
theorem rowFormI {w V : World} {ad : Option Addr} {m cap : Nat} {out : List Int} (h : MineI w V (.slice ad m cap) out) (hm : out.length = m) :
    (ad = none ∧ m = 0 ∧ cap = 0) ∨ ∃ g2, ad = some ⟨g2, 0, none⟩ ∧ IRow V g2 out ∧ w.heap.size ≤ g2 ∧ g2 < V.heap.size ∧ m ≤ cap ∧ cap ≤ maxLen := by
  have h1 := h.1
  rw [hm] at h1
  obtain ⟨a, c, e, h2, h3, h4, h5⟩ := h1.shape
  simp only [Value.slice.injEq, true_and] at e
  obtain ⟨rfl, rfl⟩ := e
  cases ad with
  | none => exact .inl ⟨rfl, (h4 rfl).1, (h4 rfl).2⟩
  | some x =>
    obtain ⟨g, o, sp⟩ := x
    obtain ⟨e1, e2⟩ := h5 _ rfl
    cases e1
    cases e2
    have hE := iRow_of h1 hm
    exact .inr ⟨g, rfl, hE, h.2.1 g rfl, hE.1, h2, h3⟩
/-- A row of the call's own is read. -/
theorem MineI.iv {u w : World} {v : Value} {d : List Int} (h : MineI u w v d) : IV (fun g => u.heap.size ≤ g) w v d := by
  obtain ⟨a, cap, rfl, h2, h3, h4, h5⟩ := h.1.shape
  refine ⟨a, cap, rfl, h2, h3, fun e => ⟨List.length_eq_zero_iff.1 (h4 e).1, (h4 e).2⟩, fun hne => ?_⟩
  cases a with
  | none => exact absurd (List.length_eq_zero_iff.1 (h4 rfl).1) hne
  | some x =>
    obtain ⟨g, o, sp⟩ := x
    obtain ⟨e1, e2⟩ := h5 _ rfl
    cases e1
    cases e2
    have hE := iRow_of h.1 rfl
    exact ⟨g, 0, rfl, h.2.1 g rfl, hE.1, fun i z hz => by rw [Nat.zero_add]; exact hE.2 i z hz⟩

/-- What Packs answers. -/
def PAns (w w' : World) (l : List Ent) (e : Ending) : Prop := ∃ r out, e = .returned r ∧ Packed l out ∧ out.length ≤ l.length ∧ MineI w w' r out

set_option maxHeartbeats 8000000 in
set_option maxRecDepth 100000 in
theorem rpacks_any (w : World) (v : Value) (l : List Ent) (P : Nat → Prop) (hv : EV P w v l) (hl : l.length ≤ 1000) :
    Calls Tryz.prog 27 #[v] w fun e w' => PAns w w' l e := by
  have HV := hid hv
  have HOK := hid hv.ok
  obtain ⟨a, c, e, _⟩ := hv
  subst e
  obtain ⟨n, hn⟩ : ∃ n, l.length = n := ⟨_, rfl⟩
  have HN := hid hn
  rw [hn] at HV hl ⊢
  clear hn
  go_enter Tryz.func27, Tryz.ntmps27
  go_wp2_with fail
  go_loopw [3, 4] (fun v3 v4 wr => ∃ (i m : Nat) (ad : Option Addr) (cap : Nat) (out : List Int), v3 = .slice ad m cap ∧ v4 = .int .i64 (i : Int) ∧ i ≤ n ∧ m ≤ i ∧ Hid (out.length = m) ∧ Hid (Packed (l.take i) out) ∧ Hid (MineI w wr (.slice ad m cap) out)) (fun _ v4 _ => n - (intOf v4).toNat)
  case atStart => exact ⟨0, 0, none, 0, [], rfl, rfl, Nat.zero_le _, Nat.le_refl _, rfl, Packed.nil, MineI.nil w⟩
  case round =>
    obtain ⟨i, m, ad, cap, out, rfl, rfl, hin, hmi, HM, HS, HR⟩ := hrel
    obtain ⟨V, rfl⟩ : ∃ V, V = wr := ⟨_, rfl⟩
    by_cases hlt : i < n
    · have hltI : (i : Int) < (n : Int) := by omega
      have hwk : IntKind.i64.wrap ((i : Int) + 1) = ((i + 1 : Nat) : Int) := by rw [IntKind.wrap_i64]; omega
      obtain ⟨e, he⟩ : ∃ e, l[i]? = some e := ⟨_, List.getElem?_eq_getElem (by rw [HN.out]; exact hlt)⟩
      obtain ⟨g, o, rfl, _, hr⟩ := ev_row (HV.out.kept HR.out.2.2) (by intro e; have := HN.out; rw [e] at this; simp at this; omega)
      have hgw : g < V.heap.size := hr.1
      have HEO := hid (HOK.out e (List.mem_of_getElem? he))
      have HTK : Hid (l.take (i + 1) = l.take i ++ [e]) := by rw [Hid, List.take_add_one, he]; rfl
      have HFORM := hid (rowFormI HR.out HM.out)
      obtain ⟨p, hp⟩ : ∃ p, e.2.1 = p := ⟨_, rfl⟩
      have HCP : Hid (∀ U, Kp No V U → U.cell? ⟨g, o + i * 35 + 32, none⟩ = some (.int .i64 p)) := fun U hU => by
        rw [← hp]
        exact (rng_place HEO.out ((hr.kp hU (fun x => x)).2 i e he).2) 0 _ rfl
      have HNO : Hid (∀ k, out[k]? = some p → Packed (l.take (i + 1)) out) := fun k hk => by rw [HTK.out]; exact HS.out.has (by rw [hp]; exact hk)
      have HNI : Hid (∀ k, (∀ x ∈ out.take k, x < p) → (∀ y, out[k]? = some y → p < y) → Packed (l.take (i + 1)) (out.take k ++ p :: out.drop k)) := fun k h1 h2 => by
        rw [HTK.out, ← hp]
        exact HS.out.ins (by rw [hp]; exact h1) (by rw [hp]; exact h2)
      clear hr he hp HTK HEO
      go_wp2_with fail
      go_loopw [5] (fun v5 wq => ∃ (k : Nat), v5 = .int .i64 (k : Int) ∧ k ≤ m ∧ Hid (∀ x ∈ out.take k, x < p) ∧ Hid (Kp No V wq)) (fun v5 _ => m - (intOf v5).toNat)
      case atStart => exact ⟨0, rfl, Nat.zero_le _, by intro x hx; simp at hx, Kp.refl _ _⟩
      case round =>
        obtain ⟨k, rfl, hkm, HP, HQ⟩ := hrel
        obtain ⟨U, rfl⟩ : ∃ U, U = wr := ⟨_, rfl⟩
        obtain ⟨z, hz⟩ : ∃ z : Bool, (z = true ↔ ∃ y, out[k]? = some y ∧ y < p) := by
          by_cases h : ∃ y, out[k]? = some y ∧ y < p
          · exact ⟨true, fun _ => h, fun _ => rfl⟩
          · exact ⟨false, fun e => (by cases e), fun e => absurd e h⟩
        have HZ := hid hz
        clear hz
        have hwk2 : IntKind.i64.wrap ((k : Int) + 1) = ((k + 1 : Nat) : Int) := by rw [IntKind.wrap_i64]; omega
        go_upto_region 6 with fail
        go_cut [28] (fun c wx => c = .bool z ∧ Hid (Kp No V wx))
        case first =>
          by_cases hk : k < m
          · have hkI : (k : Int) < (m : Int) := by omega
            have hkd : decide ((k : Int) < (m : Int)) = true := by simp; omega
            obtain ⟨y, hy⟩ : ∃ y, out[k]? = some y := ⟨_, List.getElem?_eq_getElem (by rw [HM.out]; exact hk)⟩
            have hform := HFORM.out
            rcases hform with ⟨_, h0, _⟩ | ⟨g2, rfl, hrow, hg2, hg2V, _, _⟩
            · omega
            have hz : decide (y < p) = z := by
              rw [Bool.eq_iff_iff, decide_eq_true_eq]
              exact (HZ.out.trans ⟨fun ⟨y', h1, h2⟩ => by rw [hy] at h1; cases h1; exact h2, fun h => ⟨y, hy, h⟩⟩).symm
            have cy := (hrow.kp HQ.out (fun x => x)).2 k y hy
            have cp := HCP.out U HQ.out
            have hgU : g < U.heap.size := Nat.lt_of_lt_of_le hgw HQ.out.size
            clear hrow hy
            go_quiet (fail)
            go_wp2_with fail
            go_meet
            exact ⟨by first | rfl | (rw [← hz]), HQ.out.drewN _⟩
          · have hkI : ¬ (k : Int) < (m : Int) := by omega
            have hkd : decide ((k : Int) < (m : Int)) = false := by simp; omega
            have hkd2 : decide (k < m) = false := by simp; omega
            have hz : z = false := by
              cases z with
              | false => rfl
              | true =>
                obtain ⟨y, hy, _⟩ := HZ.out.1 rfl
                have := (List.getElem?_eq_some_iff.1 hy).1
                rw [HM.out] at this
                omega
            subst hz
            go_quiet (fail)
            go_wp2_with fail
            go_meet
            exact ⟨rfl, HQ.out.drewN _⟩
        case rest =>
          obtain ⟨rfl, HX⟩ := hcut
          obtain ⟨U2, rfl⟩ : ∃ U2, U2 = wc := ⟨_, rfl⟩
          cases z with
          | true =>
            have hk : k < m := by
              obtain ⟨y, hy, _⟩ := HZ.out.1 rfl
              have := (List.getElem?_eq_some_iff.1 hy).1
              rw [HM.out] at this
              exact this
            have HNX : Hid (∀ x ∈ out.take (k + 1), x < p) := by
              obtain ⟨y, hy, hly⟩ := HZ.out.1 rfl
              exact takeI_next HP.out hy hly
            go_wp2_with fail
            go_round
            case rel => exact ⟨k + 1, by first | rfl | go_num, by omega, HNX.out, HX.out⟩
            case measure => simp [intOf]; omega
          | false =>
            have HPL : Hid (∀ y, out[k]? = some y → ¬ y < p) := fun y hy hq => by have := HZ.out.2 ⟨y, hy, hq⟩; cases this
            obtain ⟨z2, hz2⟩ : ∃ z2 : Bool, (z2 = true ↔ ∀ y, out[k]? = some y → y ≠ p) := by
              by_cases h : ∀ y, out[k]? = some y → y ≠ p
              · exact ⟨true, fun _ => h, fun _ => rfl⟩
              · exact ⟨false, fun e => (by cases e), fun e => absurd e h⟩
            have HZ2 := hid hz2
            clear hz2 HZ HQ
            go_upto_region 8 with fail
            go_cut [47] (fun c wx => c = .bool z2 ∧ Hid (Kp No V wx))
            case first =>
              by_cases hk : k < m
              · have hkI : (k : Int) < (m : Int) := by omega
                have hkb : ((k : Int) == (m : Int)) = false := by simp; omega
                obtain ⟨y, hy⟩ : ∃ y, out[k]? = some y := ⟨_, List.getElem?_eq_getElem (by rw [HM.out]; exact hk)⟩
                have hform := HFORM.out
                rcases hform with ⟨_, h0, _⟩ | ⟨g2, rfl, hrow, hg2, hg2V, _, _⟩
                · omega
                have hz : (y != p) = z2 := by
                  rw [Bool.eq_iff_iff]
                  refine Iff.trans ?_ HZ2.out.symm
                  simp only [bne_iff_ne]
                  exact ⟨fun h y' hy' => by rw [hy] at hy'; cases hy'; exact h, fun h => h y hy⟩
                have cy := (hrow.kp HX.out (fun x => x)).2 k y hy
                have cp := HCP.out U2 HX.out
                have hgU : g < U2.heap.size := Nat.lt_of_lt_of_le hgw HX.out.size
                clear hrow hy
                go_quiet (fail)
                go_wp2_with fail
                go_meet
                exact ⟨by first | rfl | (rw [← hz]), HX.out.drewN _⟩
              · have hkm' : k = m := by omega
                have hkb : ((k : Int) == (m : Int)) = true := by simp; omega
                have hz : z2 = true := HZ2.out.2 (fun y hy => by
                  have := (List.getElem?_eq_some_iff.1 hy).1
                  rw [HM.out] at this
                  omega)
                subst hz
                clear hkm'
                go_quiet (fail)
                go_wp2_with fail
                go_meet
                exact ⟨rfl, HX.out.drewN _⟩
            case rest =>
              obtain ⟨rfl, HY⟩ := hcut
              obtain ⟨U3, rfl⟩ : ∃ U3, U3 = wc := ⟨_, rfl⟩
              cases z2 with
              | false =>
                have HNS : Hid (Packed (l.take (i + 1)) out) := by
                  have hh : ¬ ∀ y, out[k]? = some y → y ≠ p := fun h => by have := HZ2.out.2 h; cases this
                  have : ∃ y, out[k]? = some y ∧ y = p := Classical.byContradiction fun hn => hh (fun y hy he => hn ⟨y, hy, he⟩)
                  obtain ⟨y, hy, rfl⟩ := this
                  exact HNO.out k hy
                have HNR : Hid (MineI w U3 (.slice ad m cap) out) := ⟨HR.out.1.kept HY.out, HR.out.2.1, HR.out.2.2.andNone HY.out⟩
                go_wp2_with fail
                go_round
                case rel => exact ⟨i + 1, m, ad, cap, out, rfl, by first | rfl | go_num, by omega, by omega, HM.out, HNS.out, HNR.out⟩
                case measure => simp [intOf]; omega
              | true =>
                have HNS : Hid (Packed (l.take (i + 1)) (out.take k ++ p :: out.drop k)) := HNI.out k HP.out (fun y hy => by
                  have h1 := HZ2.out.1 rfl y hy
                  have h2 := HPL.out y hy
                  omega)
                have hlen : (out.take k ++ p :: out.drop k).length = m + 1 := by
                  have := HM.out
                  simp
                  omega
                have HLEN := hid hlen
                clear hlen
                go_wp2_with fail
                have HLC : Hid (∀ W, Kp No U3 W → W.cell? ⟨g, o + i * 35 + 32, none⟩ = some (.int .i64 p)) := fun W hW => HCP.out W (HY.out.andNone hW)
                have HTL : Hid ((out.take k).length = k) := by have := HM.out; rw [Hid, List.length_take]; omega
                have HDL : Hid (k + 1 + (out.drop k).length = m + 1) := by have := HM.out; rw [Hid, List.length_drop]; omega
                have hform := HFORM.out
                rcases hform with ⟨rfl, hm0, rfl⟩ | ⟨g2, rfl, hrow, hg2, hg2V, hmc, hcm⟩
                · have hk0 : k = 0 := by omega
                  have hout : out = [] := List.length_eq_zero_iff.1 (by rw [HM.out, hm0])
                  have HS1 : Hid (∀ W, Kp No U3 W → Sim.Src W (.slice none 0 0) (out.take k).length 1 (ic (out.take k))) := fun W _ => by rw [hout]; simp; exact .inl ⟨rfl, rfl, rfl⟩
                  have HS2 : Hid (∀ W, Kp No U3 W → Sim.Src W (.slice none 0 0) (out.drop k).length 1 (ic (out.drop k))) := fun W _ => by rw [hout]; simp; exact .inl ⟨rfl, rfl, rfl⟩
                  obtain ⟨ad1a, cap1a, w1a, ad2a, cap2a, w2a, ad3a, cap3a, w3a, ha1, hk1, ha2, hk2, ha3, hk3, hr3⟩ := p9a (U := U3) (X := U3.drew) (z := p) ((Kp.refl No U3).drew) HS1.out HS2.out HTL.out HDL.out (by omega) (by omega)
                  have HA1a := hid ha1
                  have HK1a := hid hk1
                  have HA2a := hid ha2
                  have HK2a := hid hk2
                  have HA3a := hid ha3
                  have HK3a := hid hk3
                  have HFINa : Hid (MineI w w3a (.slice ad3a (m + 1) cap3a) (out.take k ++ p :: out.drop k)) := ⟨by rw [HLEN.out]; have h := hr3.1; rw [HLEN.out] at h; exact h, fun x hx => Nat.le_trans (Nat.le_trans HR.out.2.2.size HY.out.size) (hr3.2 x hx), (HR.out.2.2.andNone HY.out).andNone hk3⟩
                  clear ha1 hk1 ha2 hk2 ha3 hk3 hr3
                  obtain ⟨ad1b, cap1b, w1b, ad2b, cap2b, w2b, ad3b, cap3b, w3b, ha1, hk1, ha2, hk2, ha3, hk3, hr3⟩ := p9b (U := U3) (X := U3.drew) (z := p) ((Kp.refl No U3).drew) HS1.out HS2.out HTL.out HDL.out (by omega) (by omega)
                  have HA1b := hid ha1
                  have HK1b := hid hk1
                  have HA2b := hid ha2
                  have HK2b := hid hk2
                  have HA3b := hid ha3
                  have HK3b := hid hk3
                  have HFINb : Hid (MineI w w3b (.slice ad3b (m + 1) cap3b) (out.take k ++ p :: out.drop k)) := ⟨by rw [HLEN.out]; have h := hr3.1; rw [HLEN.out] at h; exact h, fun x hx => Nat.le_trans (Nat.le_trans HR.out.2.2.size HY.out.size) (hr3.2 x hx), (HR.out.2.2.andNone HY.out).andNone hk3⟩
                  clear ha1 hk1 ha2 hk2 ha3 hk3 hr3
                  obtain ⟨ad1c, cap1c, w1c, ad2c, cap2c, w2c, ad3c, cap3c, w3c, ha1, hk1, ha2, hk2, ha3, hk3, hr3⟩ := p9c (U := U3) (X := U3.drew) (z := p) ((Kp.refl No U3).drew) HS1.out HS2.out HTL.out HDL.out (by omega) (by omega)
                  have HA1c := hid ha1
                  have HK1c := hid hk1
                  have HA2c := hid ha2
                  have HK2c := hid hk2
                  have HA3c := hid ha3
                  have HK3c := hid hk3
                  have HFINc : Hid (MineI w w3c (.slice ad3c (m + 1) cap3c) (out.take k ++ p :: out.drop k)) := ⟨by rw [HLEN.out]; have h := hr3.1; rw [HLEN.out] at h; exact h, fun x hx => Nat.le_trans (Nat.le_trans HR.out.2.2.size HY.out.size) (hr3.2 x hx), (HR.out.2.2.andNone HY.out).andNone hk3⟩
                  clear ha1 hk1 ha2 hk2 ha3 hk3 hr3
                  clear HS1 HS2 hout
                  subst hk0
                  subst hm0
                  refine wp_region_held_drew (S := fun W => Kp No U3 W) (by kernel_rfl) ((Kp.refl _ _).drew) (fun hHeld => ?_)
                  refine wpAnyH_take (i := 1) (oi := { dst := some 49, op := Op.move (Operand.tmp 3), type := 47, pos := "ref.go:136", after := #[], guard := none }) (v := .slice none 0 0) rfl (by kernel_rfl) (by kernel_rfl) (by kernel_rfl) (fun _ _ _ h => h) (Or.inl ⟨by rfl, fun w' hw' => by (clear hw'; go_simp)⟩) hHeld ?_
                  simp only [Act.put, List.setIfInBounds_toArray, List.set_cons_zero, List.set_cons_succ]
                  refine wpAnyH_take (i := 2) (oi := { dst := some 50, op := Op.move (Operand.tmp 5), type := 3, pos := "ref.go:136", after := #[], guard := none }) (v := .int .i64 0) rfl (by kernel_rfl) (by kernel_rfl) (by kernel_rfl) (fun _ _ _ h => h) (Or.inl ⟨by rfl, fun w' hw' => by (clear hw'; go_simp)⟩) hHeld ?_
                  simp only [Act.put, List.setIfInBounds_toArray, List.set_cons_zero, List.set_cons_succ]
                  refine wpAnyH_take (i := 3) (oi := { dst := some 51, op := Op.slice 47 (Operand.tmp 49) none (some (Operand.tmp 50)) none, type := 47, pos := "ref.go:136", after := #[{ on := 1, ground := Ground.data }, { on := 2, ground := Ground.data }], guard := none }) (v := .slice none 0 0) rfl (by kernel_rfl) (by kernel_rfl) (by kernel_rfl) (fun _ _ _ h => h) (Or.inl ⟨by rfl, fun w' hw' => by (clear hw'; go_simp)⟩) hHeld ?_
                  simp only [Act.put, List.setIfInBounds_toArray, List.set_cons_zero, List.set_cons_succ]
                  refine wpAnyH_take (i := 5) (oi := { dst := some 53, op := Op.move (Operand.tmp 0), type := 22, pos := "ref.go:136", after := #[], guard := none }) (v := .slice (some ⟨g, o, none⟩) n c) rfl (by kernel_rfl) (by kernel_rfl) (by kernel_rfl) (fun _ _ _ h => h) (Or.inl ⟨by rfl, fun w' hw' => by (clear hw'; go_simp)⟩) hHeld ?_
                  simp only [Act.put, List.setIfInBounds_toArray, List.set_cons_zero, List.set_cons_succ]
                  refine wpAnyH_take (i := 6) (oi := { dst := some 54, op := Op.move (Operand.tmp 4), type := 3, pos := "ref.go:136", after := #[], guard := none }) (v := .int .i64 (i : Int)) rfl (by kernel_rfl) (by kernel_rfl) (by kernel_rfl) (fun _ _ _ h => h) (Or.inl ⟨by rfl, fun w' hw' => by (clear hw'; go_simp)⟩) hHeld ?_
                  simp only [Act.put, List.setIfInBounds_toArray, List.set_cons_zero, List.set_cons_succ]
                  refine wpAnyH_take (i := 7) (oi := { dst := some 55, op := Op.indexAddr 22 (Operand.tmp 53) (Operand.tmp 54), type := 0, pos := "ref.go:136", after := #[{ on := 5, ground := Ground.data }, { on := 6, ground := Ground.data }], guard := none }) (v := .pointer (some ⟨g, o + i * 35, none⟩)) rfl (by kernel_rfl) (by kernel_rfl) (by kernel_rfl) (fun _ _ _ h => h) (Or.inl ⟨by rfl, fun w' hw' => by (clear hw'; go_simp)⟩) hHeld ?_
                  simp only [Act.put, List.setIfInBounds_toArray, List.set_cons_zero, List.set_cons_succ]
                  refine wpAnyH_take (i := 8) (oi := { dst := some 56, op := Op.fieldAddr 91 (Operand.tmp 55) 1, type := 0, pos := "ref.go:136", after := #[{ on := 7, ground := Ground.data }], guard := none }) (v := .pointer (some ⟨g, o + i * 35 + 32, none⟩)) rfl (by kernel_rfl) (by kernel_rfl) (by kernel_rfl) (fun _ _ _ h => h) (Or.inl ⟨by rfl, fun w' hw' => by (clear hw'; go_simp)⟩) hHeld ?_
                  simp only [Act.put, List.setIfInBounds_toArray, List.set_cons_zero, List.set_cons_succ]
                  refine wpAnyH_take (i := 9) (oi := { dst := some 57, op := Op.fieldAddr 52 (Operand.tmp 56) 0, type := 0, pos := "ref.go:136", after := #[{ on := 8, ground := Ground.data }], guard := none }) (v := .pointer (some ⟨g, o + i * 35 + 32, none⟩)) rfl (by kernel_rfl) (by kernel_rfl) (by kernel_rfl) (fun _ _ _ h => h) (Or.inl ⟨by rfl, fun w' hw' => by (clear hw'; go_simp)⟩) hHeld ?_
                  simp only [Act.put, List.setIfInBounds_toArray, List.set_cons_zero, List.set_cons_succ]
                  refine wpAnyH_take (i := 10) (oi := { dst := some 58, op := Op.load 3 (Operand.tmp 57), type := 3, pos := "ref.go:136", after := #[{ on := 9, ground := Ground.data }], guard := none }) (v := .int .i64 p) rfl (by kernel_rfl) (by kernel_rfl) (by kernel_rfl) (fun _ _ _ h => h) (Or.inl ⟨by rfl, fun w' hw' => by (have q := HLC.out _ hw'; clear hw'; go_simp)⟩) hHeld ?_
                  simp only [Act.put, List.setIfInBounds_toArray, List.set_cons_zero, List.set_cons_succ]
                  refine wpAnyH_take (i := 13) (oi := { dst := some 61, op := Op.move (Operand.tmp 3), type := 47, pos := "ref.go:136", after := #[], guard := none }) (v := .slice none 0 0) rfl (by kernel_rfl) (by kernel_rfl) (by kernel_rfl) (fun _ _ _ h => h) (Or.inl ⟨by rfl, fun w' hw' => by (clear hw'; go_simp)⟩) hHeld ?_
                  simp only [Act.put, List.setIfInBounds_toArray, List.set_cons_zero, List.set_cons_succ]
                  refine wpAnyH_take (i := 14) (oi := { dst := some 62, op := Op.move (Operand.tmp 5), type := 3, pos := "ref.go:136", after := #[], guard := none }) (v := .int .i64 0) rfl (by kernel_rfl) (by kernel_rfl) (by kernel_rfl) (fun _ _ _ h => h) (Or.inl ⟨by rfl, fun w' hw' => by (clear hw'; go_simp)⟩) hHeld ?_
                  simp only [Act.put, List.setIfInBounds_toArray, List.set_cons_zero, List.set_cons_succ]
                  refine wpAnyH_take (i := 15) (oi := { dst := some 63, op := Op.slice 47 (Operand.tmp 61) (some (Operand.tmp 62)) none none, type := 47, pos := "ref.go:136", after := #[{ on := 13, ground := Ground.data }, { on := 14, ground := Ground.data }], guard := none }) (v := .slice none 0 0) rfl (by kernel_rfl) (by kernel_rfl) (by kernel_rfl) (fun _ _ _ h => h) (Or.inl ⟨by rfl, fun w' hw' => by (clear hw'; go_simp)⟩) hHeld ?_
                  simp only [Act.put, List.setIfInBounds_toArray, List.set_cons_zero, List.set_cons_succ]
                  refine wpAnyH_ready (rs := [0, 11]) (by kernel_rfl) (by simp) ?_
                  refine (AllReadyH.cons (o := { dst := some 48, op := Op.buildSlice 47 0 #[], type := 47, pos := "ref.go:136", after := #[], guard := none }) rfl (fun K hK => ?_) (AllReadyH.cons (o := { dst := some 59, op := Op.buildSlice 47 1 #[(0, Operand.tmp 58)], type := 47, pos := "ref.go:136", after := #[{ on := 10, ground := Ground.data }], guard := none }) rfl (fun K hK => ?_) AllReadyH.nil))
                  · rw [if_pos (by rfl)]
                    refine wp_valE (exec_slice0 47 rfl _ (run_zeroI _)) ?_
                    refine hK.out _ _ (((Kp.refl No U3).drew).alloc _) (fun hh => ?_)
                    clear hK K hHeld
                    have hHeld := hh
                    clear hh
                    try simp only [Act.put, List.setIfInBounds_toArray, List.set_cons_zero, List.set_cons_succ]
                    refine wpAnyH_ready (rs := [4, 11]) (by kernel_rfl) (by simp) ?_
                    refine (AllReadyH.cons (o := { dst := some 52, op := Op.call { callee := Callee.builtin Builtin.append, args := #[Operand.tmp 48, Operand.tmp 51], argTypes := #[47, 47] }, type := 47, pos := "ref.go:136", after := #[{ on := 0, ground := Ground.data }, { on := 3, ground := Ground.data }], guard := none }) rfl (fun K hK => ?_) (AllReadyH.cons (o := { dst := some 59, op := Op.buildSlice 47 1 #[(0, Operand.tmp 58)], type := 47, pos := "ref.go:136", after := #[{ on := 10, ground := Ground.data }], guard := none }) rfl (fun K hK => ?_) AllReadyH.nil))
                    · rw [if_pos (by rfl)]
                      refine wp_valE (exec_appE _ _ 47 rfl (.slice (some ⟨U3.heap.size, 0, none⟩) 0 0) (.slice none 0 0) _ rfl rfl HA1a.out) ?_
                      refine hK.out _ _ HK1a.out (fun hh => ?_)
                      clear hK K hHeld
                      have hHeld := hh
                      clear hh
                      try simp only [Act.put, List.setIfInBounds_toArray, List.set_cons_zero, List.set_cons_succ]
                      refine wpAnyH_ready (rs := [11]) (by kernel_rfl) (by simp) ?_
                      refine (AllReadyH.cons (o := { dst := some 59, op := Op.buildSlice 47 1 #[(0, Operand.tmp 58)], type := 47, pos := "ref.go:136", after := #[{ on := 10, ground := Ground.data }], guard := none }) rfl (fun K hK => ?_) AllReadyH.nil)
                      rw [if_pos (by rfl)]
                      refine wp_valE (exec_sliceE 47 _ rfl (.int .i64 p) _ rfl (run_oneI p _)) ?_
                      refine hK.out _ _ (HK1a.out.alloc _) (fun hh => ?_)
                      clear hK K hHeld
                      have hHeld := hh
                      clear hh
                      try simp only [Act.put, List.setIfInBounds_toArray, List.set_cons_zero, List.set_cons_succ]
                      refine wpAnyH_ready (rs := [12]) (by kernel_rfl) (by simp) ?_
                      refine (AllReadyH.cons (o := { dst := some 60, op := Op.call { callee := Callee.builtin Builtin.append, args := #[Operand.tmp 52, Operand.tmp 59], argTypes := #[47, 47] }, type := 47, pos := "ref.go:136", after := #[{ on := 4, ground := Ground.data }, { on := 11, ground := Ground.data }, { on := 4, ground := Ground.chain }], guard := none }) rfl (fun K hK => ?_) AllReadyH.nil)
                      rw [if_pos (by rfl)]
                      refine wp_valE (exec_appE _ _ 47 rfl (.slice ad1a 0 cap1a) (.slice (some ⟨w1a.heap.size, 0, none⟩) 1 1) _ rfl rfl HA2a.out) ?_
                      refine hK.out _ _ HK2a.out (fun hh => ?_)
                      clear hK K hHeld
                      have hHeld := hh
                      clear hh
                      try simp only [Act.put, List.setIfInBounds_toArray, List.set_cons_zero, List.set_cons_succ]
                      refine wpAnyH_ready (rs := [16]) (by kernel_rfl) (by simp) ?_
                      refine (AllReadyH.cons (o := { dst := some 64, op := Op.call { callee := Callee.builtin Builtin.append, args := #[Operand.tmp 60, Operand.tmp 63], argTypes := #[47, 47] }, type := 47, pos := "ref.go:136", after := #[{ on := 12, ground := Ground.data }, { on := 15, ground := Ground.data }, { on := 12, ground := Ground.chain }], guard := none }) rfl (fun K hK => ?_) AllReadyH.nil)
                      rw [if_pos (by rfl)]
                      refine wp_valE (exec_appE _ _ 47 rfl (.slice ad2a (1) cap2a) (.slice none 0 0) _ rfl rfl HA3a.out) ?_
                      refine hK.out _ _ HK3a.out (fun hh => ?_)
                      clear hK K hHeld
                      have hHeld := hh
                      clear hh
                      try simp only [Act.put, List.setIfInBounds_toArray, List.set_cons_zero, List.set_cons_succ]
                      refine wpAnyH_take (i := 17) (oi := { dst := some 3, op := Op.assign (Operand.tmp 64), type := 47, pos := "ref.go:136", after := #[{ on := 16, ground := Ground.data }, { on := 16, ground := Ground.chain }, { on := 0, ground := Ground.phase }, { on := 1, ground := Ground.phase }, { on := 2, ground := Ground.phase }, { on := 3, ground := Ground.phase }, { on := 4, ground := Ground.phase }, { on := 5, ground := Ground.phase }, { on := 6, ground := Ground.phase }, { on := 7, ground := Ground.phase }, { on := 8, ground := Ground.phase }, { on := 9, ground := Ground.phase }, { on := 10, ground := Ground.phase }, { on := 11, ground := Ground.phase }, { on := 12, ground := Ground.phase }, { on := 13, ground := Ground.phase }, { on := 14, ground := Ground.phase }, { on := 15, ground := Ground.phase }, { on := 16, ground := Ground.phase }], guard := none }) (v := .slice ad3a 1 cap3a) rfl (by kernel_rfl) (by kernel_rfl) (by kernel_rfl) (fun _ _ _ h => h) (Or.inl ⟨by rfl, fun w' hw' => by (clear hw'; go_simp)⟩) hHeld ?_
                      simp only [Act.put, List.setIfInBounds_toArray, List.set_cons_zero, List.set_cons_succ]
                      refine wpAnyH_done (by kernel_rfl) ?_ _
                      clear hHeld
                      go_wp2_with fail
                      go_round
                      case rel => exact ⟨i + 1, 1, _, _, _, rfl, by first | rfl | go_num, by omega, by omega, HLEN.out, HNS.out, HFINa.out⟩
                      case measure => simp [intOf]; omega
                    · rw [if_pos (by rfl)]
                      refine wp_valE (exec_sliceE 47 _ rfl (.int .i64 p) _ rfl (run_oneI p _)) ?_
                      refine hK.out _ _ ((((Kp.refl No U3).drew).alloc _).alloc _) (fun hh => ?_)
                      clear hK K hHeld
                      have hHeld := hh
                      clear hh
                      try simp only [Act.put, List.setIfInBounds_toArray, List.set_cons_zero, List.set_cons_succ]
                      refine wpAnyH_ready (rs := [4]) (by kernel_rfl) (by simp) ?_
                      refine (AllReadyH.cons (o := { dst := some 52, op := Op.call { callee := Callee.builtin Builtin.append, args := #[Operand.tmp 48, Operand.tmp 51], argTypes := #[47, 47] }, type := 47, pos := "ref.go:136", after := #[{ on := 0, ground := Ground.data }, { on := 3, ground := Ground.data }], guard := none }) rfl (fun K hK => ?_) AllReadyH.nil)
                      rw [if_pos (by rfl)]
                      refine wp_valE (exec_appE _ _ 47 rfl (.slice (some ⟨U3.heap.size, 0, none⟩) 0 0) (.slice none 0 0) _ rfl rfl HA1b.out) ?_
                      refine hK.out _ _ HK1b.out (fun hh => ?_)
                      clear hK K hHeld
                      have hHeld := hh
                      clear hh
                      try simp only [Act.put, List.setIfInBounds_toArray, List.set_cons_zero, List.set_cons_succ]
                      refine wpAnyH_ready (rs := [12]) (by kernel_rfl) (by simp) ?_
                      refine (AllReadyH.cons (o := { dst := some 60, op := Op.call { callee := Callee.builtin Builtin.append, args := #[Operand.tmp 52, Operand.tmp 59], argTypes := #[47, 47] }, type := 47, pos := "ref.go:136", after := #[{ on := 4, ground := Ground.data }, { on := 11, ground := Ground.data }, { on := 4, ground := Ground.chain }], guard := none }) rfl (fun K hK => ?_) AllReadyH.nil)
                      rw [if_pos (by rfl)]
                      refine wp_valE (exec_appE _ _ 47 rfl (.slice ad1b 0 cap1b) (.slice (some ⟨(U3.drew.alloc (.cells #[] 3)).heap.size, 0, none⟩) 1 1) _ rfl rfl HA2b.out) ?_
                      refine hK.out _ _ HK2b.out (fun hh => ?_)
                      clear hK K hHeld
                      have hHeld := hh
                      clear hh
                      try simp only [Act.put, List.setIfInBounds_toArray, List.set_cons_zero, List.set_cons_succ]
                      refine wpAnyH_ready (rs := [16]) (by kernel_rfl) (by simp) ?_
                      refine (AllReadyH.cons (o := { dst := some 64, op := Op.call { callee := Callee.builtin Builtin.append, args := #[Operand.tmp 60, Operand.tmp 63], argTypes := #[47, 47] }, type := 47, pos := "ref.go:136", after := #[{ on := 12, ground := Ground.data }, { on := 15, ground := Ground.data }, { on := 12, ground := Ground.chain }], guard := none }) rfl (fun K hK => ?_) AllReadyH.nil)
                      rw [if_pos (by rfl)]
                      refine wp_valE (exec_appE _ _ 47 rfl (.slice ad2b (1) cap2b) (.slice none 0 0) _ rfl rfl HA3b.out) ?_
                      refine hK.out _ _ HK3b.out (fun hh => ?_)
                      clear hK K hHeld
                      have hHeld := hh
                      clear hh
                      try simp only [Act.put, List.setIfInBounds_toArray, List.set_cons_zero, List.set_cons_succ]
                      refine wpAnyH_take (i := 17) (oi := { dst := some 3, op := Op.assign (Operand.tmp 64), type := 47, pos := "ref.go:136", after := #[{ on := 16, ground := Ground.data }, { on := 16, ground := Ground.chain }, { on := 0, ground := Ground.phase }, { on := 1, ground := Ground.phase }, { on := 2, ground := Ground.phase }, { on := 3, ground := Ground.phase }, { on := 4, ground := Ground.phase }, { on := 5, ground := Ground.phase }, { on := 6, ground := Ground.phase }, { on := 7, ground := Ground.phase }, { on := 8, ground := Ground.phase }, { on := 9, ground := Ground.phase }, { on := 10, ground := Ground.phase }, { on := 11, ground := Ground.phase }, { on := 12, ground := Ground.phase }, { on := 13, ground := Ground.phase }, { on := 14, ground := Ground.phase }, { on := 15, ground := Ground.phase }, { on := 16, ground := Ground.phase }], guard := none }) (v := .slice ad3b 1 cap3b) rfl (by kernel_rfl) (by kernel_rfl) (by kernel_rfl) (fun _ _ _ h => h) (Or.inl ⟨by rfl, fun w' hw' => by (clear hw'; go_simp)⟩) hHeld ?_
                      simp only [Act.put, List.setIfInBounds_toArray, List.set_cons_zero, List.set_cons_succ]
                      refine wpAnyH_done (by kernel_rfl) ?_ _
                      clear hHeld
                      go_wp2_with fail
                      go_round
                      case rel => exact ⟨i + 1, 1, _, _, _, rfl, by first | rfl | go_num, by omega, by omega, HLEN.out, HNS.out, HFINb.out⟩
                      case measure => simp [intOf]; omega
                  · rw [if_pos (by rfl)]
                    refine wp_valE (exec_sliceE 47 _ rfl (.int .i64 p) _ rfl (run_oneI p _)) ?_
                    refine hK.out _ _ (((Kp.refl No U3).drew).alloc _) (fun hh => ?_)
                    clear hK K hHeld
                    have hHeld := hh
                    clear hh
                    try simp only [Act.put, List.setIfInBounds_toArray, List.set_cons_zero, List.set_cons_succ]
                    refine wpAnyH_ready (rs := [0]) (by kernel_rfl) (by simp) ?_
                    refine (AllReadyH.cons (o := { dst := some 48, op := Op.buildSlice 47 0 #[], type := 47, pos := "ref.go:136", after := #[], guard := none }) rfl (fun K hK => ?_) AllReadyH.nil)
                    rw [if_pos (by rfl)]
                    refine wp_valE (exec_slice0 47 rfl _ (run_zeroI _)) ?_
                    refine hK.out _ _ ((((Kp.refl No U3).drew).alloc _).alloc _) (fun hh => ?_)
                    clear hK K hHeld
                    have hHeld := hh
                    clear hh
                    try simp only [Act.put, List.setIfInBounds_toArray, List.set_cons_zero, List.set_cons_succ]
                    refine wpAnyH_ready (rs := [4]) (by kernel_rfl) (by simp) ?_
                    refine (AllReadyH.cons (o := { dst := some 52, op := Op.call { callee := Callee.builtin Builtin.append, args := #[Operand.tmp 48, Operand.tmp 51], argTypes := #[47, 47] }, type := 47, pos := "ref.go:136", after := #[{ on := 0, ground := Ground.data }, { on := 3, ground := Ground.data }], guard := none }) rfl (fun K hK => ?_) AllReadyH.nil)
                    rw [if_pos (by rfl)]
                    refine wp_valE (exec_appE _ _ 47 rfl (.slice (some ⟨(U3.drew.alloc (.cells #[.int .i64 p] 3)).heap.size, 0, none⟩) 0 0) (.slice none 0 0) _ rfl rfl HA1c.out) ?_
                    refine hK.out _ _ HK1c.out (fun hh => ?_)
                    clear hK K hHeld
                    have hHeld := hh
                    clear hh
                    try simp only [Act.put, List.setIfInBounds_toArray, List.set_cons_zero, List.set_cons_succ]
                    refine wpAnyH_ready (rs := [12]) (by kernel_rfl) (by simp) ?_
                    refine (AllReadyH.cons (o := { dst := some 60, op := Op.call { callee := Callee.builtin Builtin.append, args := #[Operand.tmp 52, Operand.tmp 59], argTypes := #[47, 47] }, type := 47, pos := "ref.go:136", after := #[{ on := 4, ground := Ground.data }, { on := 11, ground := Ground.data }, { on := 4, ground := Ground.chain }], guard := none }) rfl (fun K hK => ?_) AllReadyH.nil)
                    rw [if_pos (by rfl)]
                    refine wp_valE (exec_appE _ _ 47 rfl (.slice ad1c 0 cap1c) (.slice (some ⟨U3.heap.size, 0, none⟩) 1 1) _ rfl rfl HA2c.out) ?_
                    refine hK.out _ _ HK2c.out (fun hh => ?_)
                    clear hK K hHeld
                    have hHeld := hh
                    clear hh
                    try simp only [Act.put, List.setIfInBounds_toArray, List.set_cons_zero, List.set_cons_succ]
                    refine wpAnyH_ready (rs := [16]) (by kernel_rfl) (by simp) ?_
                    refine (AllReadyH.cons (o := { dst := some 64, op := Op.call { callee := Callee.builtin Builtin.append, args := #[Operand.tmp 60, Operand.tmp 63], argTypes := #[47, 47] }, type := 47, pos := "ref.go:136", after := #[{ on := 12, ground := Ground.data }, { on := 15, ground := Ground.data }, { on := 12, ground := Ground.chain }], guard := none }) rfl (fun K hK => ?_) AllReadyH.nil)
                    rw [if_pos (by rfl)]
                    refine wp_valE (exec_appE _ _ 47 rfl (.slice ad2c (1) cap2c) (.slice none 0 0) _ rfl rfl HA3c.out) ?_
                    refine hK.out _ _ HK3c.out (fun hh => ?_)
                    clear hK K hHeld
                    have hHeld := hh
                    clear hh
                    try simp only [Act.put, List.setIfInBounds_toArray, List.set_cons_zero, List.set_cons_succ]
                    refine wpAnyH_take (i := 17) (oi := { dst := some 3, op := Op.assign (Operand.tmp 64), type := 47, pos := "ref.go:136", after := #[{ on := 16, ground := Ground.data }, { on := 16, ground := Ground.chain }, { on := 0, ground := Ground.phase }, { on := 1, ground := Ground.phase }, { on := 2, ground := Ground.phase }, { on := 3, ground := Ground.phase }, { on := 4, ground := Ground.phase }, { on := 5, ground := Ground.phase }, { on := 6, ground := Ground.phase }, { on := 7, ground := Ground.phase }, { on := 8, ground := Ground.phase }, { on := 9, ground := Ground.phase }, { on := 10, ground := Ground.phase }, { on := 11, ground := Ground.phase }, { on := 12, ground := Ground.phase }, { on := 13, ground := Ground.phase }, { on := 14, ground := Ground.phase }, { on := 15, ground := Ground.phase }, { on := 16, ground := Ground.phase }], guard := none }) (v := .slice ad3c 1 cap3c) rfl (by kernel_rfl) (by kernel_rfl) (by kernel_rfl) (fun _ _ _ h => h) (Or.inl ⟨by rfl, fun w' hw' => by (clear hw'; go_simp)⟩) hHeld ?_
                    simp only [Act.put, List.setIfInBounds_toArray, List.set_cons_zero, List.set_cons_succ]
                    refine wpAnyH_done (by kernel_rfl) ?_ _
                    clear hHeld
                    go_wp2_with fail
                    go_round
                    case rel => exact ⟨i + 1, 1, _, _, _, rfl, by first | rfl | go_num, by omega, by omega, HLEN.out, HNS.out, HFINc.out⟩
                    case measure => simp [intOf]; omega
                · have hmcI : m ≤ cap := hmc
                  have hkc : k ≤ cap := by omega
                  have HS1 : Hid (∀ W, Kp No U3 W → Sim.Src W (.slice (some ⟨g2, 0, none⟩) k cap) (out.take k).length 1 (ic (out.take k))) := fun W hW => srcI_front (hrow.kp (HY.out.andNone hW) (fun x => x)) k (by rw [HM.out]; omega)
                  obtain ⟨AD, hAD⟩ : ∃ AD : Addr, (cap = k ∧ AD = ⟨g2, 0, none⟩) ∨ (¬ cap = k ∧ AD = ⟨g2, k, none⟩) := by
                    by_cases hck : cap = k
                    · exact ⟨_, .inl ⟨hck, rfl⟩⟩
                    · exact ⟨_, .inr ⟨hck, rfl⟩⟩
                  have HAD := hid hAD
                  have HS2 : Hid (∀ W, Kp No U3 W → Sim.Src W (.slice (some AD) (m - k) (cap - k)) (out.drop k).length 1 (ic (out.drop k))) := fun W hW => srcI_rest (hrow.kp (HY.out.andNone hW) (fun x => x)) k (by rw [HM.out]; omega) HM.out _ (by rcases hAD with ⟨h1, _⟩ | ⟨_, h1⟩; exact .inl (by rw [HM.out]; omega); exact .inr h1)
                  obtain ⟨ad1a, cap1a, w1a, ad2a, cap2a, w2a, ad3a, cap3a, w3a, ha1, hk1, ha2, hk2, ha3, hk3, hr3⟩ := p9a (U := U3) (X := U3.drew) (z := p) ((Kp.refl No U3).drew) HS1.out HS2.out HTL.out HDL.out (by omega) (by omega)
                  have HA1a := hid ha1
                  have HK1a := hid hk1
                  have HA2a := hid ha2
                  have HK2a := hid hk2
                  have HA3a := hid ha3
                  have HK3a := hid hk3
                  have HFINa : Hid (MineI w w3a (.slice ad3a (m + 1) cap3a) (out.take k ++ p :: out.drop k)) := ⟨by rw [HLEN.out]; have h := hr3.1; rw [HLEN.out] at h; exact h, fun x hx => Nat.le_trans (Nat.le_trans HR.out.2.2.size HY.out.size) (hr3.2 x hx), (HR.out.2.2.andNone HY.out).andNone hk3⟩
                  clear ha1 hk1 ha2 hk2 ha3 hk3 hr3
                  obtain ⟨ad1b, cap1b, w1b, ad2b, cap2b, w2b, ad3b, cap3b, w3b, ha1, hk1, ha2, hk2, ha3, hk3, hr3⟩ := p9b (U := U3) (X := U3.drew) (z := p) ((Kp.refl No U3).drew) HS1.out HS2.out HTL.out HDL.out (by omega) (by omega)
                  have HA1b := hid ha1
                  have HK1b := hid hk1
                  have HA2b := hid ha2
                  have HK2b := hid hk2
                  have HA3b := hid ha3
                  have HK3b := hid hk3
                  have HFINb : Hid (MineI w w3b (.slice ad3b (m + 1) cap3b) (out.take k ++ p :: out.drop k)) := ⟨by rw [HLEN.out]; have h := hr3.1; rw [HLEN.out] at h; exact h, fun x hx => Nat.le_trans (Nat.le_trans HR.out.2.2.size HY.out.size) (hr3.2 x hx), (HR.out.2.2.andNone HY.out).andNone hk3⟩
                  clear ha1 hk1 ha2 hk2 ha3 hk3 hr3
                  obtain ⟨ad1c, cap1c, w1c, ad2c, cap2c, w2c, ad3c, cap3c, w3c, ha1, hk1, ha2, hk2, ha3, hk3, hr3⟩ := p9c (U := U3) (X := U3.drew) (z := p) ((Kp.refl No U3).drew) HS1.out HS2.out HTL.out HDL.out (by omega) (by omega)
                  have HA1c := hid ha1
                  have HK1c := hid hk1
                  have HA2c := hid ha2
                  have HK2c := hid hk2
                  have HA3c := hid ha3
                  have HK3c := hid hk3
                  have HFINc : Hid (MineI w w3c (.slice ad3c (m + 1) cap3c) (out.take k ++ p :: out.drop k)) := ⟨by rw [HLEN.out]; have h := hr3.1; rw [HLEN.out] at h; exact h, fun x hx => Nat.le_trans (Nat.le_trans HR.out.2.2.size HY.out.size) (hr3.2 x hx), (HR.out.2.2.andNone HY.out).andNone hk3⟩
                  clear ha1 hk1 ha2 hk2 ha3 hk3 hr3
                  clear HS1 HS2 hrow hAD
                  refine wp_region_held_drew (S := fun W => Kp No U3 W) (by kernel_rfl) ((Kp.refl _ _).drew) (fun hHeld => ?_)
                  refine wpAnyH_take (i := 1) (oi := { dst := some 49, op := Op.move (Operand.tmp 3), type := 47, pos := "ref.go:136", after := #[], guard := none }) (v := .slice (some ⟨g2, 0, none⟩) m cap) rfl (by kernel_rfl) (by kernel_rfl) (by kernel_rfl) (fun _ _ _ h => h) (Or.inl ⟨by rfl, fun w' hw' => by (clear hw'; go_simp)⟩) hHeld ?_
                  simp only [Act.put, List.setIfInBounds_toArray, List.set_cons_zero, List.set_cons_succ]
                  refine wpAnyH_take (i := 2) (oi := { dst := some 50, op := Op.move (Operand.tmp 5), type := 3, pos := "ref.go:136", after := #[], guard := none }) (v := .int .i64 (k : Int)) rfl (by kernel_rfl) (by kernel_rfl) (by kernel_rfl) (fun _ _ _ h => h) (Or.inl ⟨by rfl, fun w' hw' => by (clear hw'; go_simp)⟩) hHeld ?_
                  simp only [Act.put, List.setIfInBounds_toArray, List.set_cons_zero, List.set_cons_succ]
                  refine wpAnyH_take (i := 3) (oi := { dst := some 51, op := Op.slice 47 (Operand.tmp 49) none (some (Operand.tmp 50)) none, type := 47, pos := "ref.go:136", after := #[{ on := 1, ground := Ground.data }, { on := 2, ground := Ground.data }], guard := none }) (v := .slice (some ⟨g2, 0, none⟩) k cap) rfl (by kernel_rfl) (by kernel_rfl) (by kernel_rfl) (fun _ _ _ h => h) (Or.inl ⟨by rfl, fun w' hw' => by (clear hw'; go_simp)⟩) hHeld ?_
                  simp only [Act.put, List.setIfInBounds_toArray, List.set_cons_zero, List.set_cons_succ]
                  refine wpAnyH_take (i := 5) (oi := { dst := some 53, op := Op.move (Operand.tmp 0), type := 22, pos := "ref.go:136", after := #[], guard := none }) (v := .slice (some ⟨g, o, none⟩) n c) rfl (by kernel_rfl) (by kernel_rfl) (by kernel_rfl) (fun _ _ _ h => h) (Or.inl ⟨by rfl, fun w' hw' => by (clear hw'; go_simp)⟩) hHeld ?_
                  simp only [Act.put, List.setIfInBounds_toArray, List.set_cons_zero, List.set_cons_succ]
                  refine wpAnyH_take (i := 6) (oi := { dst := some 54, op := Op.move (Operand.tmp 4), type := 3, pos := "ref.go:136", after := #[], guard := none }) (v := .int .i64 (i : Int)) rfl (by kernel_rfl) (by kernel_rfl) (by kernel_rfl) (fun _ _ _ h => h) (Or.inl ⟨by rfl, fun w' hw' => by (clear hw'; go_simp)⟩) hHeld ?_
                  simp only [Act.put, List.setIfInBounds_toArray, List.set_cons_zero, List.set_cons_succ]
                  refine wpAnyH_take (i := 7) (oi := { dst := some 55, op := Op.indexAddr 22 (Operand.tmp 53) (Operand.tmp 54), type := 0, pos := "ref.go:136", after := #[{ on := 5, ground := Ground.data }, { on := 6, ground := Ground.data }], guard := none }) (v := .pointer (some ⟨g, o + i * 35, none⟩)) rfl (by kernel_rfl) (by kernel_rfl) (by kernel_rfl) (fun _ _ _ h => h) (Or.inl ⟨by rfl, fun w' hw' => by (clear hw'; go_simp)⟩) hHeld ?_
                  simp only [Act.put, List.setIfInBounds_toArray, List.set_cons_zero, List.set_cons_succ]
                  refine wpAnyH_take (i := 8) (oi := { dst := some 56, op := Op.fieldAddr 91 (Operand.tmp 55) 1, type := 0, pos := "ref.go:136", after := #[{ on := 7, ground := Ground.data }], guard := none }) (v := .pointer (some ⟨g, o + i * 35 + 32, none⟩)) rfl (by kernel_rfl) (by kernel_rfl) (by kernel_rfl) (fun _ _ _ h => h) (Or.inl ⟨by rfl, fun w' hw' => by (clear hw'; go_simp)⟩) hHeld ?_
                  simp only [Act.put, List.setIfInBounds_toArray, List.set_cons_zero, List.set_cons_succ]
                  refine wpAnyH_take (i := 9) (oi := { dst := some 57, op := Op.fieldAddr 52 (Operand.tmp 56) 0, type := 0, pos := "ref.go:136", after := #[{ on := 8, ground := Ground.data }], guard := none }) (v := .pointer (some ⟨g, o + i * 35 + 32, none⟩)) rfl (by kernel_rfl) (by kernel_rfl) (by kernel_rfl) (fun _ _ _ h => h) (Or.inl ⟨by rfl, fun w' hw' => by (clear hw'; go_simp)⟩) hHeld ?_
                  simp only [Act.put, List.setIfInBounds_toArray, List.set_cons_zero, List.set_cons_succ]
                  refine wpAnyH_take (i := 10) (oi := { dst := some 58, op := Op.load 3 (Operand.tmp 57), type := 3, pos := "ref.go:136", after := #[{ on := 9, ground := Ground.data }], guard := none }) (v := .int .i64 p) rfl (by kernel_rfl) (by kernel_rfl) (by kernel_rfl) (fun _ _ _ h => h) (Or.inl ⟨by rfl, fun w' hw' => by (have q := HLC.out _ hw'; clear hw'; go_simp)⟩) hHeld ?_
                  simp only [Act.put, List.setIfInBounds_toArray, List.set_cons_zero, List.set_cons_succ]
                  refine wpAnyH_take (i := 13) (oi := { dst := some 61, op := Op.move (Operand.tmp 3), type := 47, pos := "ref.go:136", after := #[], guard := none }) (v := .slice (some ⟨g2, 0, none⟩) m cap) rfl (by kernel_rfl) (by kernel_rfl) (by kernel_rfl) (fun _ _ _ h => h) (Or.inl ⟨by rfl, fun w' hw' => by (clear hw'; go_simp)⟩) hHeld ?_
                  simp only [Act.put, List.setIfInBounds_toArray, List.set_cons_zero, List.set_cons_succ]
                  refine wpAnyH_take (i := 14) (oi := { dst := some 62, op := Op.move (Operand.tmp 5), type := 3, pos := "ref.go:136", after := #[], guard := none }) (v := .int .i64 (k : Int)) rfl (by kernel_rfl) (by kernel_rfl) (by kernel_rfl) (fun _ _ _ h => h) (Or.inl ⟨by rfl, fun w' hw' => by (clear hw'; go_simp)⟩) hHeld ?_
                  simp only [Act.put, List.setIfInBounds_toArray, List.set_cons_zero, List.set_cons_succ]
                  refine wpAnyH_take (i := 15) (oi := { dst := some 63, op := Op.slice 47 (Operand.tmp 61) (some (Operand.tmp 62)) none none, type := 47, pos := "ref.go:136", after := #[{ on := 13, ground := Ground.data }, { on := 14, ground := Ground.data }], guard := none }) (v := .slice (some AD) (m - k) (cap - k)) rfl (by kernel_rfl) (by kernel_rfl) (by kernel_rfl) (fun _ _ _ h => h) (Or.inl ⟨by rfl, fun w' hw' => by (clear hw'; rcases HAD.out with ⟨hck, rfl⟩ | ⟨hck, rfl⟩ <;> go_simp)⟩) hHeld ?_
                  simp only [Act.put, List.setIfInBounds_toArray, List.set_cons_zero, List.set_cons_succ]
                  refine wpAnyH_ready (rs := [0, 11]) (by kernel_rfl) (by simp) ?_
                  refine (AllReadyH.cons (o := { dst := some 48, op := Op.buildSlice 47 0 #[], type := 47, pos := "ref.go:136", after := #[], guard := none }) rfl (fun K hK => ?_) (AllReadyH.cons (o := { dst := some 59, op := Op.buildSlice 47 1 #[(0, Operand.tmp 58)], type := 47, pos := "ref.go:136", after := #[{ on := 10, ground := Ground.data }], guard := none }) rfl (fun K hK => ?_) AllReadyH.nil))
                  · rw [if_pos (by rfl)]
                    refine wp_valE (exec_slice0 47 rfl _ (run_zeroI _)) ?_
                    refine hK.out _ _ (((Kp.refl No U3).drew).alloc _) (fun hh => ?_)
                    clear hK K hHeld
                    have hHeld := hh
                    clear hh
                    try simp only [Act.put, List.setIfInBounds_toArray, List.set_cons_zero, List.set_cons_succ]
                    refine wpAnyH_ready (rs := [4, 11]) (by kernel_rfl) (by simp) ?_
                    refine (AllReadyH.cons (o := { dst := some 52, op := Op.call { callee := Callee.builtin Builtin.append, args := #[Operand.tmp 48, Operand.tmp 51], argTypes := #[47, 47] }, type := 47, pos := "ref.go:136", after := #[{ on := 0, ground := Ground.data }, { on := 3, ground := Ground.data }], guard := none }) rfl (fun K hK => ?_) (AllReadyH.cons (o := { dst := some 59, op := Op.buildSlice 47 1 #[(0, Operand.tmp 58)], type := 47, pos := "ref.go:136", after := #[{ on := 10, ground := Ground.data }], guard := none }) rfl (fun K hK => ?_) AllReadyH.nil))
                    · rw [if_pos (by rfl)]
                      refine wp_valE (exec_appE _ _ 47 rfl (.slice (some ⟨U3.heap.size, 0, none⟩) 0 0) (.slice (some ⟨g2, 0, none⟩) k cap) _ rfl rfl HA1a.out) ?_
                      refine hK.out _ _ HK1a.out (fun hh => ?_)
                      clear hK K hHeld
                      have hHeld := hh
                      clear hh
                      try simp only [Act.put, List.setIfInBounds_toArray, List.set_cons_zero, List.set_cons_succ]
                      refine wpAnyH_ready (rs := [11]) (by kernel_rfl) (by simp) ?_
                      refine (AllReadyH.cons (o := { dst := some 59, op := Op.buildSlice 47 1 #[(0, Operand.tmp 58)], type := 47, pos := "ref.go:136", after := #[{ on := 10, ground := Ground.data }], guard := none }) rfl (fun K hK => ?_) AllReadyH.nil)
                      rw [if_pos (by rfl)]
                      refine wp_valE (exec_sliceE 47 _ rfl (.int .i64 p) _ rfl (run_oneI p _)) ?_
                      refine hK.out _ _ (HK1a.out.alloc _) (fun hh => ?_)
                      clear hK K hHeld
                      have hHeld := hh
                      clear hh
                      try simp only [Act.put, List.setIfInBounds_toArray, List.set_cons_zero, List.set_cons_succ]
                      refine wpAnyH_ready (rs := [12]) (by kernel_rfl) (by simp) ?_
                      refine (AllReadyH.cons (o := { dst := some 60, op := Op.call { callee := Callee.builtin Builtin.append, args := #[Operand.tmp 52, Operand.tmp 59], argTypes := #[47, 47] }, type := 47, pos := "ref.go:136", after := #[{ on := 4, ground := Ground.data }, { on := 11, ground := Ground.data }, { on := 4, ground := Ground.chain }], guard := none }) rfl (fun K hK => ?_) AllReadyH.nil)
                      rw [if_pos (by rfl)]
                      refine wp_valE (exec_appE _ _ 47 rfl (.slice ad1a k cap1a) (.slice (some ⟨w1a.heap.size, 0, none⟩) 1 1) _ rfl rfl HA2a.out) ?_
                      refine hK.out _ _ HK2a.out (fun hh => ?_)
                      clear hK K hHeld
                      have hHeld := hh
                      clear hh
                      try simp only [Act.put, List.setIfInBounds_toArray, List.set_cons_zero, List.set_cons_succ]
                      refine wpAnyH_ready (rs := [16]) (by kernel_rfl) (by simp) ?_
                      refine (AllReadyH.cons (o := { dst := some 64, op := Op.call { callee := Callee.builtin Builtin.append, args := #[Operand.tmp 60, Operand.tmp 63], argTypes := #[47, 47] }, type := 47, pos := "ref.go:136", after := #[{ on := 12, ground := Ground.data }, { on := 15, ground := Ground.data }, { on := 12, ground := Ground.chain }], guard := none }) rfl (fun K hK => ?_) AllReadyH.nil)
                      rw [if_pos (by rfl)]
                      refine wp_valE (exec_appE _ _ 47 rfl (.slice ad2a (k + 1) cap2a) (.slice (some AD) (m - k) (cap - k)) _ rfl rfl HA3a.out) ?_
                      refine hK.out _ _ HK3a.out (fun hh => ?_)
                      clear hK K hHeld
                      have hHeld := hh
                      clear hh
                      try simp only [Act.put, List.setIfInBounds_toArray, List.set_cons_zero, List.set_cons_succ]
                      refine wpAnyH_take (i := 17) (oi := { dst := some 3, op := Op.assign (Operand.tmp 64), type := 47, pos := "ref.go:136", after := #[{ on := 16, ground := Ground.data }, { on := 16, ground := Ground.chain }, { on := 0, ground := Ground.phase }, { on := 1, ground := Ground.phase }, { on := 2, ground := Ground.phase }, { on := 3, ground := Ground.phase }, { on := 4, ground := Ground.phase }, { on := 5, ground := Ground.phase }, { on := 6, ground := Ground.phase }, { on := 7, ground := Ground.phase }, { on := 8, ground := Ground.phase }, { on := 9, ground := Ground.phase }, { on := 10, ground := Ground.phase }, { on := 11, ground := Ground.phase }, { on := 12, ground := Ground.phase }, { on := 13, ground := Ground.phase }, { on := 14, ground := Ground.phase }, { on := 15, ground := Ground.phase }, { on := 16, ground := Ground.phase }], guard := none }) (v := .slice ad3a (m + 1) cap3a) rfl (by kernel_rfl) (by kernel_rfl) (by kernel_rfl) (fun _ _ _ h => h) (Or.inl ⟨by rfl, fun w' hw' => by (clear hw'; go_simp)⟩) hHeld ?_
                      simp only [Act.put, List.setIfInBounds_toArray, List.set_cons_zero, List.set_cons_succ]
                      refine wpAnyH_done (by kernel_rfl) ?_ _
                      clear hHeld
                      go_wp2_with fail
                      go_round
                      case rel => exact ⟨i + 1, m + 1, _, _, _, rfl, by first | rfl | go_num, by omega, by omega, HLEN.out, HNS.out, HFINa.out⟩
                      case measure => simp [intOf]; omega
                    · rw [if_pos (by rfl)]
                      refine wp_valE (exec_sliceE 47 _ rfl (.int .i64 p) _ rfl (run_oneI p _)) ?_
                      refine hK.out _ _ ((((Kp.refl No U3).drew).alloc _).alloc _) (fun hh => ?_)
                      clear hK K hHeld
                      have hHeld := hh
                      clear hh
                      try simp only [Act.put, List.setIfInBounds_toArray, List.set_cons_zero, List.set_cons_succ]
                      refine wpAnyH_ready (rs := [4]) (by kernel_rfl) (by simp) ?_
                      refine (AllReadyH.cons (o := { dst := some 52, op := Op.call { callee := Callee.builtin Builtin.append, args := #[Operand.tmp 48, Operand.tmp 51], argTypes := #[47, 47] }, type := 47, pos := "ref.go:136", after := #[{ on := 0, ground := Ground.data }, { on := 3, ground := Ground.data }], guard := none }) rfl (fun K hK => ?_) AllReadyH.nil)
                      rw [if_pos (by rfl)]
                      refine wp_valE (exec_appE _ _ 47 rfl (.slice (some ⟨U3.heap.size, 0, none⟩) 0 0) (.slice (some ⟨g2, 0, none⟩) k cap) _ rfl rfl HA1b.out) ?_
                      refine hK.out _ _ HK1b.out (fun hh => ?_)
                      clear hK K hHeld
                      have hHeld := hh
                      clear hh
                      try simp only [Act.put, List.setIfInBounds_toArray, List.set_cons_zero, List.set_cons_succ]
                      refine wpAnyH_ready (rs := [12]) (by kernel_rfl) (by simp) ?_
                      refine (AllReadyH.cons (o := { dst := some 60, op := Op.call { callee := Callee.builtin Builtin.append, args := #[Operand.tmp 52, Operand.tmp 59], argTypes := #[47, 47] }, type := 47, pos := "ref.go:136", after := #[{ on := 4, ground := Ground.data }, { on := 11, ground := Ground.data }, { on := 4, ground := Ground.chain }], guard := none }) rfl (fun K hK => ?_) AllReadyH.nil)
                      rw [if_pos (by rfl)]
                      refine wp_valE (exec_appE _ _ 47 rfl (.slice ad1b k cap1b) (.slice (some ⟨(U3.drew.alloc (.cells #[] 3)).heap.size, 0, none⟩) 1 1) _ rfl rfl HA2b.out) ?_
                      refine hK.out _ _ HK2b.out (fun hh => ?_)
                      clear hK K hHeld
                      have hHeld := hh
                      clear hh
                      try simp only [Act.put, List.setIfInBounds_toArray, List.set_cons_zero, List.set_cons_succ]
                      refine wpAnyH_ready (rs := [16]) (by kernel_rfl) (by simp) ?_
                      refine (AllReadyH.cons (o := { dst := some 64, op := Op.call { callee := Callee.builtin Builtin.append, args := #[Operand.tmp 60, Operand.tmp 63], argTypes := #[47, 47] }, type := 47, pos := "ref.go:136", after := #[{ on := 12, ground := Ground.data }, { on := 15, ground := Ground.data }, { on := 12, ground := Ground.chain }], guard := none }) rfl (fun K hK => ?_) AllReadyH.nil)
                      rw [if_pos (by rfl)]
                      refine wp_valE (exec_appE _ _ 47 rfl (.slice ad2b (k + 1) cap2b) (.slice (some AD) (m - k) (cap - k)) _ rfl rfl HA3b.out) ?_
                      refine hK.out _ _ HK3b.out (fun hh => ?_)
                      clear hK K hHeld
                      have hHeld := hh
                      clear hh
                      try simp only [Act.put, List.setIfInBounds_toArray, List.set_cons_zero, List.set_cons_succ]
                      refine wpAnyH_take (i := 17) (oi := { dst := some 3, op := Op.assign (Operand.tmp 64), type := 47, pos := "ref.go:136", after := #[{ on := 16, ground := Ground.data }, { on := 16, ground := Ground.chain }, { on := 0, ground := Ground.phase }, { on := 1, ground := Ground.phase }, { on := 2, ground := Ground.phase }, { on := 3, ground := Ground.phase }, { on := 4, ground := Ground.phase }, { on := 5, ground := Ground.phase }, { on := 6, ground := Ground.phase }, { on := 7, ground := Ground.phase }, { on := 8, ground := Ground.phase }, { on := 9, ground := Ground.phase }, { on := 10, ground := Ground.phase }, { on := 11, ground := Ground.phase }, { on := 12, ground := Ground.phase }, { on := 13, ground := Ground.phase }, { on := 14, ground := Ground.phase }, { on := 15, ground := Ground.phase }, { on := 16, ground := Ground.phase }], guard := none }) (v := .slice ad3b (m + 1) cap3b) rfl (by kernel_rfl) (by kernel_rfl) (by kernel_rfl) (fun _ _ _ h => h) (Or.inl ⟨by rfl, fun w' hw' => by (clear hw'; go_simp)⟩) hHeld ?_
                      simp only [Act.put, List.setIfInBounds_toArray, List.set_cons_zero, List.set_cons_succ]
                      refine wpAnyH_done (by kernel_rfl) ?_ _
                      clear hHeld
                      go_wp2_with fail
                      go_round
                      case rel => exact ⟨i + 1, m + 1, _, _, _, rfl, by first | rfl | go_num, by omega, by omega, HLEN.out, HNS.out, HFINb.out⟩
                      case measure => simp [intOf]; omega
                  · rw [if_pos (by rfl)]
                    refine wp_valE (exec_sliceE 47 _ rfl (.int .i64 p) _ rfl (run_oneI p _)) ?_
                    refine hK.out _ _ (((Kp.refl No U3).drew).alloc _) (fun hh => ?_)
                    clear hK K hHeld
                    have hHeld := hh
                    clear hh
                    try simp only [Act.put, List.setIfInBounds_toArray, List.set_cons_zero, List.set_cons_succ]
                    refine wpAnyH_ready (rs := [0]) (by kernel_rfl) (by simp) ?_
                    refine (AllReadyH.cons (o := { dst := some 48, op := Op.buildSlice 47 0 #[], type := 47, pos := "ref.go:136", after := #[], guard := none }) rfl (fun K hK => ?_) AllReadyH.nil)
                    rw [if_pos (by rfl)]
                    refine wp_valE (exec_slice0 47 rfl _ (run_zeroI _)) ?_
                    refine hK.out _ _ ((((Kp.refl No U3).drew).alloc _).alloc _) (fun hh => ?_)
                    clear hK K hHeld
                    have hHeld := hh
                    clear hh
                    try simp only [Act.put, List.setIfInBounds_toArray, List.set_cons_zero, List.set_cons_succ]
                    refine wpAnyH_ready (rs := [4]) (by kernel_rfl) (by simp) ?_
                    refine (AllReadyH.cons (o := { dst := some 52, op := Op.call { callee := Callee.builtin Builtin.append, args := #[Operand.tmp 48, Operand.tmp 51], argTypes := #[47, 47] }, type := 47, pos := "ref.go:136", after := #[{ on := 0, ground := Ground.data }, { on := 3, ground := Ground.data }], guard := none }) rfl (fun K hK => ?_) AllReadyH.nil)
                    rw [if_pos (by rfl)]
                    refine wp_valE (exec_appE _ _ 47 rfl (.slice (some ⟨(U3.drew.alloc (.cells #[.int .i64 p] 3)).heap.size, 0, none⟩) 0 0) (.slice (some ⟨g2, 0, none⟩) k cap) _ rfl rfl HA1c.out) ?_
                    refine hK.out _ _ HK1c.out (fun hh => ?_)
                    clear hK K hHeld
                    have hHeld := hh
                    clear hh
                    try simp only [Act.put, List.setIfInBounds_toArray, List.set_cons_zero, List.set_cons_succ]
                    refine wpAnyH_ready (rs := [12]) (by kernel_rfl) (by simp) ?_
                    refine (AllReadyH.cons (o := { dst := some 60, op := Op.call { callee := Callee.builtin Builtin.append, args := #[Operand.tmp 52, Operand.tmp 59], argTypes := #[47, 47] }, type := 47, pos := "ref.go:136", after := #[{ on := 4, ground := Ground.data }, { on := 11, ground := Ground.data }, { on := 4, ground := Ground.chain }], guard := none }) rfl (fun K hK => ?_) AllReadyH.nil)
                    rw [if_pos (by rfl)]
                    refine wp_valE (exec_appE _ _ 47 rfl (.slice ad1c k cap1c) (.slice (some ⟨U3.heap.size, 0, none⟩) 1 1) _ rfl rfl HA2c.out) ?_
                    refine hK.out _ _ HK2c.out (fun hh => ?_)
                    clear hK K hHeld
                    have hHeld := hh
                    clear hh
                    try simp only [Act.put, List.setIfInBounds_toArray, List.set_cons_zero, List.set_cons_succ]
                    refine wpAnyH_ready (rs := [16]) (by kernel_rfl) (by simp) ?_
                    refine (AllReadyH.cons (o := { dst := some 64, op := Op.call { callee := Callee.builtin Builtin.append, args := #[Operand.tmp 60, Operand.tmp 63], argTypes := #[47, 47] }, type := 47, pos := "ref.go:136", after := #[{ on := 12, ground := Ground.data }, { on := 15, ground := Ground.data }, { on := 12, ground := Ground.chain }], guard := none }) rfl (fun K hK => ?_) AllReadyH.nil)
                    rw [if_pos (by rfl)]
                    refine wp_valE (exec_appE _ _ 47 rfl (.slice ad2c (k + 1) cap2c) (.slice (some AD) (m - k) (cap - k)) _ rfl rfl HA3c.out) ?_
                    refine hK.out _ _ HK3c.out (fun hh => ?_)
                    clear hK K hHeld
                    have hHeld := hh
                    clear hh
                    try simp only [Act.put, List.setIfInBounds_toArray, List.set_cons_zero, List.set_cons_succ]
                    refine wpAnyH_take (i := 17) (oi := { dst := some 3, op := Op.assign (Operand.tmp 64), type := 47, pos := "ref.go:136", after := #[{ on := 16, ground := Ground.data }, { on := 16, ground := Ground.chain }, { on := 0, ground := Ground.phase }, { on := 1, ground := Ground.phase }, { on := 2, ground := Ground.phase }, { on := 3, ground := Ground.phase }, { on := 4, ground := Ground.phase }, { on := 5, ground := Ground.phase }, { on := 6, ground := Ground.phase }, { on := 7, ground := Ground.phase }, { on := 8, ground := Ground.phase }, { on := 9, ground := Ground.phase }, { on := 10, ground := Ground.phase }, { on := 11, ground := Ground.phase }, { on := 12, ground := Ground.phase }, { on := 13, ground := Ground.phase }, { on := 14, ground := Ground.phase }, { on := 15, ground := Ground.phase }, { on := 16, ground := Ground.phase }], guard := none }) (v := .slice ad3c (m + 1) cap3c) rfl (by kernel_rfl) (by kernel_rfl) (by kernel_rfl) (fun _ _ _ h => h) (Or.inl ⟨by rfl, fun w' hw' => by (clear hw'; go_simp)⟩) hHeld ?_
                    simp only [Act.put, List.setIfInBounds_toArray, List.set_cons_zero, List.set_cons_succ]
                    refine wpAnyH_done (by kernel_rfl) ?_ _
                    clear hHeld
                    go_wp2_with fail
                    go_round
                    case rel => exact ⟨i + 1, m + 1, _, _, _, rfl, by first | rfl | go_num, by omega, by omega, HLEN.out, HNS.out, HFINc.out⟩
                    case measure => simp [intOf]; omega
    · have hltI : ¬ (i : Int) < (n : Int) := by omega
      have HFIN : Hid (Packed l out ∧ out.length ≤ n ∧ MineI w V (.slice ad m cap) out) := by
        have h := HS.out
        rw [List.take_of_length_le (by rw [HN.out]; omega)] at h
        exact ⟨h, by rw [HM.out]; omega, HR.out⟩
      go_wp2_with fail
      go_ret
      exact ⟨_, out, rfl, HFIN.out.1, by rw [HN.out]; exact HFIN.out.2.1, HFIN.out.2.2⟩
end Go.Proofs.YtampnikdmgojjaaGreat.Sg
end

section
/-
  The numbers of a set, sorted: slices.Sorted(maps.Keys(m)).
-/
namespace Go.Proofs.YtampnikdmgojjaaGreat.Sg
open Go.RowKit Go.Maps Go.Sort Go.Shelf
open Sim (hid Kp No)

theorem distinct : ∀ zs : List Int, ∃ d : List Int, d.Nodup ∧ (∀ x, x ∈ d ↔ x ∈ zs) ∧ d.length ≤ zs.length
  | [] => ⟨[], List.nodup_nil, by simp, Nat.le_refl _⟩
  | z :: zs => by
    obtain ⟨d, h1, h2, h3⟩ := distinct zs
    by_cases h : z ∈ d
    · refine ⟨d, h1, fun x => ?_, by simp; omega⟩
      rw [h2, List.mem_cons]
      exact ⟨.inr, fun h' => by rcases h' with rfl | h'; exact (h2 _).1 h; exact h'⟩
    · exact ⟨z :: d, List.nodup_cons.2 ⟨h, h1⟩, fun x => by rw [List.mem_cons, List.mem_cons, h2], by simp; omega⟩
/-- What is collected of a set and sorted: the numbers, rising, each once. -/
theorem keys_packed {w : World} {b : Nat} {l : List Ent} {ss : List Int} (h : SetAt w b (l.map (·.2.1))) (hp : ss.Perm (intKeys (setD (l.map (·.2.1))))) : Packed l (ss.mergeSort leI) ∧ (ss.mergeSort leI).length ≤ l.length := by
  obtain ⟨d, d1, d2, d3⟩ := distinct (l.map (·.2.1))
  have hc : CollectedI (setD (l.map (·.2.1))) (fun _ => false) d := ⟨d1, fun x => by rw [has_set, d2]; simp [List.contains_eq_mem]⟩
  have hp2 := hc.perm h keyedI Tryz.underlying3 (fun _ => rfl)
  have hsd : ss.Perm d := hp.trans hp2.symm
  have hms : (ss.mergeSort leI).Perm d := (List.mergeSort_perm ss leI).trans hsd
  have hnd : (ss.mergeSort leI).Nodup := hms.nodup_iff.2 d1
  have hle : (ss.mergeSort leI).Pairwise (fun a b => leI a b = true) := List.pairwise_mergeSort (fun a b c h1 h2 => by simp only [leI, decide_eq_true_eq] at *; exact Int.le_trans h1 h2) (fun a b => by simp only [leI, Bool.or_eq_true, decide_eq_true_eq]; exact Int.le_total a b) ss
  refine ⟨⟨?_, fun z => ?_⟩, by rw [hms.length_eq]; simpa using d3⟩
  · refine List.Pairwise.imp₂ (fun a b h1 h2 => ?_) hle hnd
    simp only [leI, decide_eq_true_eq] at h1
    have : a ≠ b := h2
    omega
  · rw [hms.mem_iff, d2, List.mem_map]
theorem sortsN (m : Nat) : AnyZI.SortsIn Tryz.prog Tryz.sortedN_ren Fence.wide m :=
  ⟨fun blk off cap ss W hH hblk hsz => callsIn_wide.2 (Any.slices_Sort_int Tryz.sortN blk off cap ss W hH hblk hsz),
   fun p cap W => callsIn_wide.2 (Any.slices_Sort_int_none Tryz.sortN p cap W)⟩
theorem keys_any (mb : Option Nat) (W : World) : Calls Tryz.prog 49 #[.map mb] W fun e w' => e = .returned (.func (.func 69) #[] #[.pointer (some ⟨W.heap.size, 0, none⟩)]) ∧ w' = W.alloc (.cells #[.map mb] 115) :=
  (callsIn_wide (n := 5)).1 (AnyZI.keys_in Tryz.keysN Fence.wide 5 trivial rfl mb W)
set_option maxHeartbeats 1000000 in
theorem sorted_any (w : World) (b : Nat) (l : List Ent) (h : SetAt w b (l.map (·.2.1))) (hl : l.length ≤ 1000) :
    Calls Tryz.prog 48 #[.func (.func 69) #[] #[.pointer (some ⟨w.heap.size, 0, none⟩)]] (w.alloc (.cells #[.map (some b)] 115)) fun e w' => PAns w w' l e := by
  have hbl := h.lt
  have hsz : Maps.size (setD (l.map (·.2.1))) ≤ l.length := by
    have := World.ownsMap.size_le h
    rwa [List.length_map] at this
  have hseq : SeqGives Fence.wide 2 Tryz.prog 69 #[.pointer (some ⟨w.heap.size, 0, none⟩)] encZ (fun ss => ss.Perm (intKeys (setD (l.map (·.2.1))))) (Maps.size (setD (l.map (·.2.1)))) (w.alloc (.cells #[.map (some b)] 115)) :=
    AnyZI.keys_gives (ρ := Tryz.keysN_ren) { Tryz.keysN with } Fence.wide _ trivial rfl (by omega) w.heap.size b (l.map (·.2.1)).length _ _ (by simp) (by simp) (by
      obtain ⟨es, clock, hb, Ft, hs, hD⟩ := h
      exact ⟨es, clock, (Below.heap_alloc _ _ b hbl).trans hb, Ft, hs, hD⟩)
  have hc := AnyZI.sorted_in Tryz.sortedN Fence.wide 5 trivial trivial trivial trivial rfl (by omega) (sortsN _) (enters_of Tryz.func68 (by kernel_rfl) rfl) 69 #[.pointer (some ⟨w.heap.size, 0, none⟩)] trivial (enters_of Tryz.func69 (by kernel_rfl) rfl) _ _ (by unfold maxLen; omega) (by omega) _ hseq
  refine ((callsIn_wide (n := 5)).1 hc).mono ?_
  rintro e w' ⟨v, ss, rfl, hS, hrow, _, hb⟩
  obtain ⟨hpk, hln⟩ := keys_packed h hS
  have e2 : ss.length = (ss.mergeSort leI).length := (List.mergeSort_perm ss leI).length_eq.symm
  have hrow' : w'.ownsRow (w.alloc (.cells #[.map (some b)] 115)).heap.size 3 1 v ss.length (ic (ss.mergeSort leI)) := hrow
  rw [e2] at hrow'
  refine ⟨v, ss.mergeSort leI, rfl, hpk, hln, ?_, fun x hx => ?_, ?_⟩
  · refine ⟨hrow'.1, ?_⟩
    rcases hrow'.2 with h | ⟨g, cap, cur, rfl, hb, r⟩
    · exact .inl h
    · exact .inr ⟨g, cap, cur, rfl, Nat.zero_le _, r⟩
  · have := (hrow'.lt x hx).1
    simp at this
    omega
  · exact ((Kp.refl _ _).alloc _).andNone (Kp.below hb)

end Go.Proofs.YtampnikdmgojjaaGreat.Sg
end
