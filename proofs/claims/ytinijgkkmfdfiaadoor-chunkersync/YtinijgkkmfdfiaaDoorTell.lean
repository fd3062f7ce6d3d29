/-
  What is told chunks: Split's, Write's, Ends', Cut's and Close's functions.
-/
import Derived.Test.YtinijgkkmfdfiaaDoorFeedAny
import Derived.Shelf.Abstract
namespace Go.Proofs.YtinijgkkmfdfiaaDoor
open Go.RowKit

/-! ### A list of chunks -/
/-- A variable at p has the chunks, in a row of the call's own, their bytes in the blocks le. -/
def TL (p : Nat) (w : World) (l : List Nat) (cs : List (List Nat)) : Prop :=
  ∃ v le vals, w.heap[p]? = some (.cells #[v] 27 (0, 0)) ∧ Row w 25 v vals ∧ vals.length = cs.length ∧ (∀ i, i < cs.length → ∃ u, vals[i]? = some u ∧ ByP (· ∈ le) w u (cs.getD i [])) ∧
    p ∉ le ∧ (∀ x, v.ownBlock = some x → x ∉ le) ∧ l = p :: (v.ownBlock.toList ++ le) ∧ ∀ x ∈ l, x < w.heap.size
theorem TL.kp {p : Nat} {w w' : World} {l m : List Nat} {cs : List (List Nat)} (h : TL p w l cs) (k : Kp m w w') (hm : ∀ x ∈ m, x ∉ l) : TL p w' l cs := by
  obtain ⟨v, le, vals, h1, h2, h3, h4, h5, h6, rfl, h8⟩ := h
  refine ⟨v, le, vals, by rw [k.block p (h8 p (by simp)) (fun hx => hm p hx (by simp))]; exact h1, h2.kp k (fun x hx hx' => hm x hx' (by simp [hx])), h3, fun i hi => ?_, h5, h6, rfl, fun x hx => Nat.lt_of_lt_of_le (h8 x hx) k.size⟩
  obtain ⟨u, hu, hb⟩ := h4 i hi
  exact ⟨u, hu, hb.kp k (fun x hx _ hl => hm x hx (by simp [hl]))⟩
theorem TL.ls {p : Nat} {w : World} {l : List Nat} {cs : List (List Nat)} (h : TL p w l cs) : ∃ v, w.cell? ⟨p, 0, none⟩ = some v ∧ OwnL (· ∈ l) w v cs := by
  obtain ⟨v, le, vals, h1, h2, h3, h4, h5, h6, rfl, h8⟩ := h
  refine ⟨v, cell_of_one h1, vals, h2, h3, fun i hi => ?_, fun k hk => by simp [hk]⟩
  obtain ⟨u, hu, hb⟩ := h4 i hi
  exact ⟨u, hu, hb.mono (fun x _ hx => by simp [hx])⟩
theorem TL.new (w : World) : TL w.heap.size (w.alloc (.cells #[.slice none 0 0] 27)) [w.heap.size] [] :=
  ⟨.slice none 0 0, [], [], heap_alloc_new _ _, Row.nil _ _, rfl, fun i hi => by simp at hi, by simp, by simp, rfl, by simp⟩

/-- One chunk more: in memory. -/
theorem TL.push {p : Nat} {w w1 : World} {l le : List Nat} {cs : List (List Nat)} {c : List Nat} {v u v' : Value} {vals : List Value} (o : Obj) (h1 : w.heap[p]? = some (.cells #[v] 27 (0, 0))) (hr : Row w 25 v vals) (hl : vals.length = cs.length)
    (h3 : ∀ i, i < cs.length → ∃ u, vals[i]? = some u ∧ ByP (· ∈ le) w u (cs.getD i [])) (h5 : p ∉ le) (h6 : ∀ x, v.ownBlock = some x → x ∉ le) (hll : l = p :: (v.ownBlock.toList ++ le)) (hlt : ∀ x ∈ l, x < w.heap.size)
    (hu : OwnB w u c) (hul : ∀ x, u.ownBlock = some x → x ∉ l) (hc : c.length ≤ 100000) (hb : ∀ x ∈ c, x < 256)
    (hrow : Row w1 25 v' (vals ++ [u])) (hg : (w.alloc o).grownBy w1 v.ownBlock) (hv' : v'.ownBlock = v.ownBlock ∨ v'.ownBlock = some (w.alloc o).heap.size) :
    ∃ l', TL p (w1.setCell ⟨p, 0, none⟩ v') l' (cs ++ [c]) ∧ Kp l w (w1.setCell ⟨p, 0, none⟩ v') ∧ ∀ x ∈ l', x ∈ l ∨ u.ownBlock = some x ∨ w.heap.size ≤ x := by
  have ka : Kp [] w (w.alloc o) := (Kp.refl _ _).alloc o
  have hne : v.ownBlock ≠ some p := hr.ne h1 (by decide)
  have kg : Kp v.ownBlock.toList (w.alloc o) w1 := (Kp.refl _ _).grown hg (fun x hx => .inl (by simp [hx]))
  have kw : Kp v.ownBlock.toList w w1 := (ka.mono (m := v.ownBlock.toList) (by simp)).trans kg (fun x hx => .inl hx)
  have hpl := hlt p (by simp [hll])
  have b1 : w1.heap[p]? = some (.cells #[v] 27 (0, 0)) := by rw [kw.block p hpl (fun hx => hne (by simpa using hx))]; exact h1
  have ks : Kp [p] w1 (w1.setCell ⟨p, 0, none⟩ v') := (Kp.refl _ _).setCell (p := ⟨p, 0, none⟩) (.inl (by simp)) _
  have kk : Kp (p :: v.ownBlock.toList) w (w1.setCell ⟨p, 0, none⟩ v') := (kw.mono (m := p :: v.ownBlock.toList) (fun x hx => .inl (by simp only [List.mem_cons]; exact .inr hx))).trans ks (fun x hx => .inl (by simp only [List.mem_cons, List.not_mem_nil, or_false] at hx; simp [hx]))
  have kall : Kp l w (w1.setCell ⟨p, 0, none⟩ v') := kk.mono (fun x hx => .inl (by rw [hll]; simp only [List.mem_cons, List.mem_append] at hx ⊢; rcases hx with h | h; exact .inl h; exact .inr (.inl h)))
  have hne' : v'.ownBlock ≠ some p := hrow.ne b1 (by decide)
  have hle : ∀ x ∈ le, x ∈ l := fun x hx => by simp [hll, hx]
  have hvl : ∀ x, v.ownBlock = some x → x ∈ l := fun x hx => by simp [hll, hx]
  have hpin : p ∈ l := by simp [hll]
  have hsz := kall.size
  refine ⟨p :: (v'.ownBlock.toList ++ (le ++ u.ownBlock.toList)), ⟨v', le ++ u.ownBlock.toList, vals ++ [u], one_setCell b1, hrow.kp ks (fun x hx hm => hne' (by simp only [List.mem_cons, List.not_mem_nil, or_false] at hm; rw [hx, hm])), by simp [hl], fun i hi => ?_, ?_, ?_, rfl, ?_⟩, kall, ?_⟩
  · by_cases e : i < cs.length
    · obtain ⟨x, hx, hbx⟩ := h3 i e
      refine ⟨x, by rw [List.getElem?_append_left (by omega)]; exact hx, ?_⟩
      rw [List.getD_eq_getElem?_getD, List.getElem?_append_left e, ← List.getD_eq_getElem?_getD]
      refine (hbx.kp kk (fun y hy _ hm => ?_)).mono (fun y _ hy => List.mem_append_left _ hy)
      simp only [List.mem_cons] at hy
      rcases hy with h | h
      · exact h5 (h ▸ hm)
      · exact h6 y (by simpa using h) hm
    · have hi' : i = cs.length := by simp at hi; omega
      subst hi'
      refine ⟨u, by rw [List.getElem?_append_right (by omega), hl]; simp, ?_⟩
      rw [List.getD_eq_getElem?_getD, List.getElem?_append_right (by omega), Nat.sub_self]
      refine ((hu.byP (P := fun x => u.ownBlock = some x) (fun _ h => h) (by omega) hb).kp kk (fun x hx _ h => ?_)).mono (fun x _ h => List.mem_append_right _ (by simp [h]))
      simp only [List.mem_cons] at hx
      rcases hx with hx | hx
      · exact hul x h (hx ▸ hpin)
      · exact hul x h (hvl x (by simpa using hx))
  · intro hm
    rcases List.mem_append.1 hm with h | h
    · exact h5 h
    · exact hul p (by simpa using h) hpin
  · intro x hx hm
    rcases List.mem_append.1 hm with h | h
    · rcases hv' with e | e
      · exact h6 x (by rw [← e]; exact hx) h
      · rw [e] at hx
        have e1 := Option.some.inj hx
        have := hlt x (hle x h)
        have := ka.size
        omega
    · have hx2 : u.ownBlock = some x := by simpa using h
      rcases hv' with e | e
      · exact hul x hx2 (hvl x (by rw [← e]; exact hx))
      · rw [e] at hx
        have e1 := Option.some.inj hx
        have := hu.row.lt x hx2
        have := ka.size
        omega
  · intro x hx
    simp only [List.mem_cons, List.mem_append] at hx
    rcases hx with h | h | h | h
    · exact Nat.lt_of_lt_of_le (h ▸ hpl) hsz
    · have := hrow.lt x (by simpa using h)
      simpa using this
    · exact Nat.lt_of_lt_of_le (hlt x (hle x h)) hsz
    · exact Nat.lt_of_lt_of_le (hu.row.lt x (by simpa using h)) hsz
  · intro x hx
    simp only [List.mem_cons, List.mem_append] at hx
    rcases hx with h | h | h | h
    · exact .inl (h ▸ hpin)
    · rcases hv' with e | e
      · exact .inl (hvl x (by rw [← e]; simpa using h))
      · have h1 : v'.ownBlock = some x := by simpa using h
        rw [e] at h1
        have := Option.some.inj h1
        have := ka.size
        exact .inr (.inr (by omega))
    · exact .inl (hle x h)
    · exact .inr (.inl (by simpa using h))

set_option maxHeartbeats 1000000 in
theorem tell27 (p : Nat) : Teller 27 #[.pointer (some ⟨p, 0, none⟩)] (TL p) where
  ent := enters_of Tryd.func27 (by kernel_rfl) rfl
  lt := fun w l cs h => by
    obtain ⟨v, le, vals, _, _, _, _, _, _, _, h8⟩ := h
    exact h8
  keep := fun w w' l m cs h k hm => h.kp k hm
  tell := fun w l cs v c h hv hvl hne hlen hb hcs => by
    obtain ⟨v0, le, vals, h1, h2, h3, h4, h5, h6, h7, h8⟩ := h
    obtain ⟨a, cap, rfl, _, _, _⟩ := hv.slice
    obtain ⟨a0, cap0, rfl, _, _, _, _⟩ := h2.shape
    have hp : p < w.heap.size := h8 p (by simp [h7])
    have c0 := cell_of_one h1
    have hr0 : Hid (Row (w.alloc (.cells #[.slice a c.length cap] 25)) 25 (.slice a0 vals.length cap0) vals) := h2.kp (m := []) ((Kp.refl _ _).alloc _) (by simp)
    have hne0 := hid (h2.ne h1 (by decide))
    have HP := hid (fun (w1 : World) (v' : Value) => TL.push (w1 := w1) (v' := v') (.cells #[.slice a c.length cap] 25) h1 h2 h3 h4 h5 h6 h7 h8 hv hvl hlen hb)
    have hb1 := hid h1
    have hl3 := hid h3
    clear h1 h2 h3 h4 h5 h6 h7 h8 hv hvl
    show Calls Tryd.prog 27 #[.slice a c.length cap, .pointer (some ⟨p, 0, none⟩)] w _
    go_enter Tryd.func27, Tryd.ntmps27
    go_wp2_with (at_builtin; refine app_rowS _ rfl _ _ 27 25 (.slice none 0 0) 24 rfl Tryd.underlying27 Tryd.info25 rfl (.slice a0 vals.length cap0) _ vals [.slice a c.length cap] (vals.length + 1) rfl rfl rfl hr0.out (Src.one _ _ _ rfl) (by have := hl3.out; omega) (by decide) ?_; intro a2 cap2 w1 hrow hg hv2; have kg : Kp (Value.slice a0 vals.length cap0).ownBlock.toList (w.alloc (.cells #[.slice a c.length cap] 25)) w1 := (Kp.refl _ _).grown hg (fun x hx => .inl (by simp [hx])); have hb2 : w1.heap[p]? = some (.cells #[.slice a0 vals.length cap0] 27 (0, 0)) := (kg.block p (by simp; omega) (fun hx => hne0.out (by simpa using hx))).trans ((Below.heap_alloc _ _ _ hp).trans hb1.out); have d0 := cell_of_one hb2; have g0 := free_of_one hb2; have HROW := hid hrow; have HG := hid hg; have HV := hid hv2; clear kg hb2 hrow hg hv2)
    go_end0
    exact ⟨rfl, HP.out _ _ HROW.out HG.out HV.out⟩

set_option maxHeartbeats 1000000 in
theorem tell36 (p : Nat) : Teller 36 #[.pointer (some ⟨p, 0, none⟩)] (TL p) where
  ent := enters_of Tryd.func36 (by kernel_rfl) rfl
  lt := fun w l cs h => by
    obtain ⟨v, le, vals, _, _, _, _, _, _, _, h8⟩ := h
    exact h8
  keep := fun w w' l m cs h k hm => h.kp k hm
  tell := fun w l cs v c h hv hvl hne hlen hb hcs => by
    obtain ⟨v0, le, vals, h1, h2, h3, h4, h5, h6, h7, h8⟩ := h
    obtain ⟨a, cap, rfl, _, _, _⟩ := hv.slice
    obtain ⟨a0, cap0, rfl, _, _, _, _⟩ := h2.shape
    have hp : p < w.heap.size := h8 p (by simp [h7])
    have c0 := cell_of_one h1
    have hr0 : Hid (Row (w.alloc (.cells #[.slice a c.length cap] 25)) 25 (.slice a0 vals.length cap0) vals) := h2.kp (m := []) ((Kp.refl _ _).alloc _) (by simp)
    have hne0 := hid (h2.ne h1 (by decide))
    have HP := hid (fun (w1 : World) (v' : Value) => TL.push (w1 := w1) (v' := v') (.cells #[.slice a c.length cap] 25) h1 h2 h3 h4 h5 h6 h7 h8 hv hvl hlen hb)
    have hb1 := hid h1
    have hl3 := hid h3
    clear h1 h2 h3 h4 h5 h6 h7 h8 hv hvl
    show Calls Tryd.prog 36 #[.slice a c.length cap, .pointer (some ⟨p, 0, none⟩)] w _
    go_enter Tryd.func36, Tryd.ntmps36
    go_wp2_with (at_builtin; refine app_rowS _ rfl _ _ 27 25 (.slice none 0 0) 24 rfl Tryd.underlying27 Tryd.info25 rfl (.slice a0 vals.length cap0) _ vals [.slice a c.length cap] (vals.length + 1) rfl rfl rfl hr0.out (Src.one _ _ _ rfl) (by have := hl3.out; omega) (by decide) ?_; intro a2 cap2 w1 hrow hg hv2; have kg : Kp (Value.slice a0 vals.length cap0).ownBlock.toList (w.alloc (.cells #[.slice a c.length cap] 25)) w1 := (Kp.refl _ _).grown hg (fun x hx => .inl (by simp [hx])); have hb2 : w1.heap[p]? = some (.cells #[.slice a0 vals.length cap0] 27 (0, 0)) := (kg.block p (by simp; omega) (fun hx => hne0.out (by simpa using hx))).trans ((Below.heap_alloc _ _ _ hp).trans hb1.out); have d0 := cell_of_one hb2; have g0 := free_of_one hb2; have HROW := hid hrow; have HG := hid hg; have HV := hid hv2; clear kg hb2 hrow hg hv2)
    go_end0
    exact ⟨rfl, HP.out _ _ HROW.out HG.out HV.out⟩

end Go.Proofs.YtinijgkkmfdfiaaDoor
