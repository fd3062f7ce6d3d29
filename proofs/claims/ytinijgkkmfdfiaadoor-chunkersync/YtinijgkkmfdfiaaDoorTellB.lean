/-
  What is told chunks: Ends', Cut's and Close's functions.
-/
import Derived.Test.YtinijgkkmfdfiaaDoorTell
namespace Go.Proofs.YtinijgkkmfdfiaaDoor
open Go.RowKit

/-! ### Where each chunk ends -/
def endsN (cs : List (List Nat)) : List Nat := (List.range cs.length).map fun i => (cs.take (i + 1)).flatten.length
theorem endsN_length (cs : List (List Nat)) : (endsN cs).length = cs.length := by simp [endsN]
theorem endsN_snoc (cs : List (List Nat)) (c : List Nat) : endsN (cs ++ [c]) = endsN cs ++ [cs.flatten.length + c.length] := by
  unfold endsN
  rw [List.length_append, List.length_cons, List.length_nil, Nat.zero_add, List.range_succ, List.map_append]
  congr 1
  · apply List.map_congr_left
    intro i hi
    rw [List.take_append_of_le_length (by simp at hi; omega)]
  · rw [List.map_cons, List.map_nil, List.take_of_length_le (by simp), List.flatten_append, List.length_append]
    simp
theorem endsN_at (cs : List (List Nat)) (i : Nat) (hi : i < cs.length) : (endsN cs)[i]? = some (cs.take (i + 1)).flatten.length := by simp [endsN, hi]
/-- Numbers as cells. -/
def il (xs : List Nat) : List Value := xs.map fun x : Nat => .int .i64 (x : Int)
theorem il_length (xs : List Nat) : (il xs).length = xs.length := by simp [il]
theorem il_append (xs ys : List Nat) : il (xs ++ ys) = il xs ++ il ys := by simp [il]

/-- Variables at pe and pl have where the last chunk ends, and where each does. -/
def TE (pe pl : Nat) (w : World) (l : List Nat) (cs : List (List Nat)) : Prop :=
  ∃ v, w.heap[pe]? = some (.cells #[.int .i64 (cs.flatten.length : Nat)] 3 (0, 0)) ∧ w.heap[pl]? = some (.cells #[v] 34 (0, 0)) ∧ Row w 3 v (il (endsN cs)) ∧ v.ownBlock ≠ some pe ∧
    l = pe :: pl :: v.ownBlock.toList ∧ (∀ x ∈ l, x < w.heap.size) ∧ cs.flatten.length ≤ 100000 * cs.length
theorem TE.kp {pe pl : Nat} {w w' : World} {l m : List Nat} {cs : List (List Nat)} (h : TE pe pl w l cs) (k : Kp m w w') (hm : ∀ x ∈ m, x ∉ l) : TE pe pl w' l cs := by
  obtain ⟨v, h1, h2, h3, h4, rfl, h6, h7⟩ := h
  exact ⟨v, by rw [k.block pe (h6 pe (by simp)) (fun hx => hm pe hx (by simp))]; exact h1, by rw [k.block pl (h6 pl (by simp)) (fun hx => hm pl hx (by simp))]; exact h2, h3.kp k (fun x hx hx' => hm x hx' (by simp [hx])), h4, rfl, fun x hx => Nat.lt_of_lt_of_le (h6 x hx) k.size, h7⟩

set_option maxHeartbeats 2000000 in
theorem tell28 (pe pl : Nat) : Teller 28 #[.pointer (some ⟨pe, 0, none⟩), .pointer (some ⟨pl, 0, none⟩)] (TE pe pl) where
  ent := enters_of Tryd.func28 (by kernel_rfl) rfl
  lt := fun w l cs h => by
    obtain ⟨v, _, _, _, _, _, h6, _⟩ := h
    exact h6
  keep := fun w w' l m cs h k hm => h.kp k hm
  tell := fun w l cs v c h hv hvl hne hlen hb hcs => by
    obtain ⟨v0, h1, h2, h3, h4, h5, h6, h7⟩ := h
    obtain ⟨a, cap, rfl, _, _, _⟩ := hv.slice
    obtain ⟨a0, cap0, rfl, _, _, _, _⟩ := h3.shape
    have hpe : pe < w.heap.size := h6 pe (by simp [h5])
    have hpl : pl < w.heap.size := h6 pl (by simp [h5])
    have hpp : pe ≠ pl := by
      intro e
      rw [e, h2] at h1
      simp at h1
    have c0 := cell_of_one h1
    have c1 := cell_of_one h2
    have f0 := free_of_one h1
    have hF : cs.flatten.length ≤ 10000000000 := by have : 100000 * cs.length ≤ 100000 * 100000 := Nat.mul_le_mul_left _ hcs; omega
    have he := hid (endsN_snoc cs c)
    have hfl : Hid ((cs ++ [c]).flatten.length = cs.flatten.length + c.length) := by rw [Hid]; simp
    have hNx : (il (endsN cs)).length ≤ 100000 := by rw [il_length, endsN_length]; exact hcs
    generalize hFg : cs.flatten.length = F at *
    generalize hLg : c.length = L at *
    generalize hNg : (il (endsN cs)).length = N at *
    have HNN := hid hNg
    have hN : N ≤ 100000 := hNx
    have H1 := hid h1
    have H2 := hid h2
    have H3 := hid h3
    have H4 := hid h4
    have H5 := hid h5
    have H6 := hid h6
    have H7 := hid h7
    clear h1 h2 h3 h4 h5 h6 h7 hv hvl hFg hLg hNg
    have b1 : Hid ((w.setCell ⟨pe, 0, none⟩ (.int .i64 ((F + L : Nat) : Int))).heap[pe]? = some (.cells #[.int .i64 ((F + L : Nat) : Int)] 3 (0, 0))) := one_setCell H1.out
    obtain ⟨W1, hW1⟩ : ∃ W1, w.setCell ⟨pe, 0, none⟩ (.int .i64 ((F : Int) + (L : Int))) = W1 := ⟨_, rfl⟩
    have HW1 := hid hW1
    have k1 : Hid (Kp [pe] w W1) := by rw [Hid, ← hW1]; exact (Kp.refl _ _).setCell (p := ⟨pe, 0, none⟩) (.inl (by simp)) _
    have b1' : Hid (W1.heap[pe]? = some (.cells #[.int .i64 ((F : Int) + (L : Int))] 3 (0, 0))) := by rw [Hid, ← hW1]; exact one_setCell H1.out
    have b2 : Hid (W1.heap[pl]? = some (.cells #[.slice a0 N cap0] 34 (0, 0))) := by rw [Hid, k1.out.block pl hpl (by simp only [List.mem_cons, List.not_mem_nil, or_false]; exact Ne.symm hpp)]; exact H2.out
    have r1 : Hid (Row W1 3 (.slice a0 N cap0) (il (endsN cs))) := H3.out.kp k1.out (fun x hx hm => H4.out (by simp only [List.mem_cons, List.not_mem_nil, or_false] at hm; rw [hx, hm]))
    clear hW1 b1
    have d0 := cell_of_one b1'.out
    have d1 := cell_of_one b2.out
    show Calls Tryd.prog 28 #[.slice a L cap, .pointer (some ⟨pe, 0, none⟩), .pointer (some ⟨pl, 0, none⟩)] w _
    go_enter Tryd.func28, Tryd.ntmps28
    go_upto_region 1 with fail
    rw [HW1.out]
    clear c0 c1 f0
    have hrA : Hid (Row (W1.alloc (.cells #[.int .i64 ((F : Int) + (L : Int))] 3)) 3 (.slice a0 N cap0) (il (endsN cs))) := r1.out.kp (m := []) ((Kp.refl _ _).alloc _) (by simp)
    have hsz := k1.out.size
    have hne2 := hid (r1.out.ne b2.out (by decide))
    go_wp2_with (at_builtin; refine app_rowS _ rfl _ _ 34 3 (.int .i64 0) 8 rfl Tryd.underlying34 Tryd.info3 rfl (.slice a0 N cap0) _ (il (endsN cs)) [.int .i64 ((F : Int) + (L : Int))] (N + 1) (by rw [List.length_cons, List.length_nil, HNN.out]) rfl rfl hrA.out (Src.one _ _ _ rfl) (by omega) (by decide) ?_; intro a2 cap2 w1 hrow hg hv2; have kg : Kp (Value.slice a0 N cap0).ownBlock.toList (W1.alloc (.cells #[.int .i64 ((F : Int) + (L : Int))] 3)) w1 := (Kp.refl _ _).grown hg (fun x hx => .inl (by simp [hx])); have hb2 : w1.heap[pl]? = some (.cells #[.slice a0 N cap0] 34 (0, 0)) := (kg.block pl (by simp; omega) (fun hx => hne2.out (by simpa using hx))).trans ((Below.heap_alloc _ _ _ (by omega)).trans b2.out); have d0 := cell_of_one hb2; have g0 := free_of_one hb2; have HROW := hid hrow; have HG := hid hg; have HV := hid hv2; have HB2 := hid hb2; clear kg hb2 hrow hg hv2)
    go_end0
    have ka : Kp [] W1 (W1.alloc (.cells #[.int .i64 ((F : Int) + (L : Int))] 3)) := (Kp.refl _ _).alloc _
    have kg : Kp (Value.slice a0 N cap0).ownBlock.toList (W1.alloc (.cells #[.int .i64 ((F : Int) + (L : Int))] 3)) w1 := (Kp.refl _ _).grown HG.out (fun x hx => .inl (by simp [hx]))
    have kw : Kp (Value.slice a0 N cap0).ownBlock.toList W1 w1 := (ka.mono (m := (Value.slice a0 N cap0).ownBlock.toList) (by simp)).trans kg (fun x hx => .inl hx)
    have ks : Kp [pl] w1 (w1.setCell ⟨pl, 0, none⟩ (.slice a2 (N + 1) cap2)) := (Kp.refl _ _).setCell (p := ⟨pl, 0, none⟩) (.inl (by simp)) _
    have hl5 := H5.out
    have kall : Kp l w (w1.setCell ⟨pl, 0, none⟩ (.slice a2 (N + 1) cap2)) := ((k1.out.mono (m := l) (fun x hx => .inl (by simp only [List.mem_cons, List.not_mem_nil, or_false] at hx; simp [hl5, hx]))).trans kw (fun x hx => .inl (by rw [hl5]; simp only [List.mem_cons]; exact .inr (.inr hx)))).trans ks (fun x hx => .inl (by simp only [List.mem_cons, List.not_mem_nil, or_false] at hx; simp [hl5, hx]))
    have hsz1 := kall.size
    have hnew : ∀ x, (Value.slice a2 (N + 1) cap2).ownBlock = some x → (Value.slice a0 N cap0).ownBlock = some x ∨ W1.heap.size ≤ x := fun x hx => by
      rcases HV.out with e | e
      · exact .inl (e ▸ hx)
      · rw [e] at hx
        have e1 := Option.some.inj hx
        have := ka.size
        exact .inr (by omega)
    have hne3 : (Value.slice a2 (N + 1) cap2).ownBlock ≠ some pl := HROW.out.ne HB2.out (by decide)
    have hne4 : (Value.slice a2 (N + 1) cap2).ownBlock ≠ some pe := fun hx => by
      rcases hnew pe hx with h | h
      · exact H4.out h
      · omega
    have bpe : (w1.setCell ⟨pl, 0, none⟩ (.slice a2 (N + 1) cap2)).heap[pe]? = some (.cells #[.int .i64 ((F : Int) + (L : Int))] 3 (0, 0)) := by
      rw [ks.block pe (by have := kw.size; omega) (by simp only [List.mem_cons, List.not_mem_nil, or_false]; exact hpp), kw.block pe (by omega) (fun hx => H4.out (by simpa using hx))]
      exact b1'.out
    refine ⟨rfl, pe :: pl :: (Value.slice a2 (N + 1) cap2).ownBlock.toList, ⟨.slice a2 (N + 1) cap2, ?_, one_setCell HB2.out, ?_, hne4, rfl, ?_, ?_⟩, kall, ?_⟩
    · rw [hfl.out, Int.natCast_add]
      exact bpe
    · rw [he.out, il_append]
      have e : il [F + L] = [.int .i64 ((F : Int) + (L : Int))] := by simp [il]
      rw [e]
      exact HROW.out.kp ks (fun x hx hm => hne3 (by simp only [List.mem_cons, List.not_mem_nil, or_false] at hm; rw [hx, hm]))
    · intro x hx
      simp only [List.mem_cons] at hx
      rcases hx with h | h | h
      · omega
      · omega
      · have := HROW.out.lt x (by simpa using h)
        simpa using this
    · rw [hfl.out, List.length_append, List.length_cons, List.length_nil]
      have := H7.out
      omega
    · intro x hx
      simp only [List.mem_cons] at hx
      rcases hx with h | h | h
      · exact .inl (by simp [hl5, h])
      · exact .inl (by simp [hl5, h])
      · rcases hnew x (by simpa using h) with e | e
        · exact .inl (by simp [hl5, e])
        · exact .inr (.inr (by omega))
theorem TE.new (w : World) (hw : w.heap[w.heap.size - 1]? = some (.cells #[.slice none 0 0] 34 (0, 0))) (h0 : 0 < w.heap.size) : TE w.heap.size (w.heap.size - 1) (w.alloc (.cells #[.int .i64 0] 3)) [w.heap.size, w.heap.size - 1] [] := by
  refine ⟨.slice none 0 0, heap_alloc_new _ _, ?_, Row.nil _ _, by simp [Value.ownBlock], rfl, ?_, by simp⟩
  · rw [Below.heap_alloc _ _ _ (by omega)]
    exact hw
  · intro x hx
    simp only [List.mem_cons, List.not_mem_nil, or_false] at hx
    simp
    omega

/-! ### The first one's length -/
/-- A variable at p has it. -/
def TC (p : Nat) (w : World) (l : List Nat) (cs : List (List Nat)) : Prop :=
  w.heap[p]? = some (.cells #[.int .i64 ((cs.headD []).length : Nat)] 3 (0, 0)) ∧ l = [p] ∧ (∀ c ∈ cs, c ≠ []) ∧ (cs.headD []).length ≤ 100000
set_option maxHeartbeats 1000000 in
theorem tell30 (p : Nat) : Teller 30 #[.pointer (some ⟨p, 0, none⟩)] (TC p) where
  ent := enters_of Tryd.func30 (by kernel_rfl) rfl
  lt := fun w l cs h => by
    obtain ⟨h1, rfl, _⟩ := h
    intro x hx
    simp only [List.mem_cons, List.not_mem_nil, or_false] at hx
    rw [hx]
    exact lt_of_block h1
  keep := fun w w' l m cs h k hm => by
    obtain ⟨h1, rfl, h3⟩ := h
    exact ⟨by rw [k.block p (lt_of_block h1) (fun hx => hm p hx (by simp))]; exact h1, rfl, h3⟩
  tell := fun w l cs v c h hv hvl hne hlen hb hcs => by
    obtain ⟨h1, rfl, h3, h4⟩ := h
    obtain ⟨a, cap, rfl, _, _, _⟩ := hv.slice
    have hcl : c.length ≠ 0 := by simpa using hne
    have c0 := cell_of_one h1
    have f0 := free_of_one h1
    have H1 := hid h1
    have H3 := hid h3
    clear h1 h3 hv hvl
    show Calls Tryd.prog 30 #[.slice a c.length cap, .pointer (some ⟨p, 0, none⟩)] w _
    have hall : Hid (∀ d ∈ cs ++ [c], d ≠ []) := by
      intro d hd
      rcases List.mem_append.1 hd with h | h
      · exact H3.out d h
      · obtain rfl : d = c := by simpa using h
        exact hne
    cases cs with
    | nil =>
      simp only [List.headD_nil, List.length_nil] at c0 H1
      go_enter Tryd.func30, Tryd.ntmps30
      go_wp2
      go_end0
      exact ⟨rfl, [p], ⟨one_setCell H1.out, rfl, hall.out, hlen⟩, (Kp.refl _ _).setCell (p := ⟨p, 0, none⟩) (.inl (by simp)) _, fun x hx => .inl hx⟩
    | cons d r =>
      simp only [List.headD_cons] at c0 H1 h4
      have hd0 : ((d.length : Int) == 0) = false := by
        have : d ≠ [] := H3.out d (by simp)
        have := List.length_pos_iff.2 this
        simp only [beq_eq_false_iff_ne, ne_eq]
        omega
      generalize hD : d.length = D at *
      have HD := hid hD
      clear hD
      go_enter Tryd.func30, Tryd.ntmps30
      go_wp2
      go_end0
      exact ⟨rfl, [p], ⟨by simp only [List.headD_cons]; rw [HD.out]; exact H1.out, rfl, hall.out, by simp only [List.headD_cons]; rw [HD.out]; exact h4⟩, Kp.refl _ _, fun x hx => .inl hx⟩
theorem TC.new (w : World) : TC w.heap.size (w.alloc (.cells #[.int .i64 0] 3)) [w.heap.size] [] := ⟨heap_alloc_new _ _, rfl, by simp, by simp⟩

/-! ### The last one -/
/-- A variable at p has it. -/
def TX (p : Nat) (w : World) (l : List Nat) (cs : List (List Nat)) : Prop :=
  ∃ v, w.heap[p]? = some (.cells #[v] 25 (0, 0)) ∧ OwnB w v (cs.getLastD []) ∧ (∀ x ∈ cs.getLastD [], x < 256) ∧ (cs.getLastD []).length ≤ 100000 ∧ v.ownBlock ≠ some p ∧ l = p :: v.ownBlock.toList
set_option maxHeartbeats 1000000 in
theorem tell37 (p : Nat) : Teller 37 #[.pointer (some ⟨p, 0, none⟩)] (TX p) where
  ent := enters_of Tryd.func37 (by kernel_rfl) rfl
  lt := fun w l cs h => by
    obtain ⟨v, h1, h2, h3, h4, h5, rfl⟩ := h
    intro x hx
    simp only [List.mem_cons] at hx
    rcases hx with h | h
    · rw [h]; exact lt_of_block h1
    · exact h2.row.lt x (by simpa using h)
  keep := fun w w' l m cs h k hm => by
    obtain ⟨v, h1, h2, h3, h4, h5, rfl⟩ := h
    exact ⟨v, by rw [k.block p (lt_of_block h1) (fun hx => hm p hx (by simp))]; exact h1, h2.row.kp k (fun x hx hx' => hm x hx' (by simp [hx])), h3, h4, h5, rfl⟩
  tell := fun w l cs v c h hv hvl hne hlen hb hcs => by
    obtain ⟨v0, h1, h2, h3, h4, h5, rfl⟩ := h
    have HV := hid hv
    obtain ⟨a, cap, rfl, _, _, _⟩ := hv.slice
    have c0 := cell_of_one h1
    have f0 := free_of_one h1
    have H1 := hid h1
    have HVL := hid hvl
    clear h1 h2 hv hvl
    show Calls Tryd.prog 37 #[.slice a c.length cap, .pointer (some ⟨p, 0, none⟩)] w _
    go_enter Tryd.func37, Tryd.ntmps37
    go_wp2
    go_end0
    have ks : Kp [p] w (w.setCell ⟨p, 0, none⟩ (.slice a c.length cap)) := (Kp.refl _ _).setCell (p := ⟨p, 0, none⟩) (.inl (by simp)) _
    have hnp : (Value.slice a c.length cap).ownBlock ≠ some p := fun hx => HVL.out p hx (by simp)
    have e : (cs ++ [c]).getLastD [] = c := by simp
    refine ⟨rfl, p :: (Value.slice a c.length cap).ownBlock.toList, ⟨_, one_setCell H1.out, ?_, by rw [e]; exact hb, by rw [e]; exact hlen, hnp, rfl⟩, ks.mono (fun x hx => .inl (by simp only [List.mem_cons, List.not_mem_nil, or_false] at hx; simp [hx])), fun x hx => ?_⟩
    · rw [e]
      exact HV.out.row.kp ks (fun x hx hm => hnp (by simp only [List.mem_cons, List.not_mem_nil, or_false] at hm; rw [hx, hm]))
    · simp only [List.mem_cons] at hx
      rcases hx with h | h
      · exact .inl (by simp [h])
      · exact .inr (.inl (by simpa using h))
theorem TX.new (w : World) : TX w.heap.size (w.alloc (.cells #[.slice none 0 0] 25)) [w.heap.size] [] := ⟨.slice none 0 0, heap_alloc_new _ _, OwnB.nil _, by simp, by simp, by simp [Value.ownBlock], rfl⟩

end Go.Proofs.YtinijgkkmfdfiaaDoor
