/-
  slices.Insert of one item.
-/
import Derived.Test.YtdooiflmjeibdaaDoorTrInsM
namespace Go.Proofs.YtdooiflmjeibdaaDoor.Tr
open Go.RowKit

/-- What Insert leaves. -/
structure InsP (w w' : World) (r : Option Nat) (v' : Value) (ys : List It) : Prop where
  own : IOwn w' v' ys
  at' : v'.ownBlock = r ∨ ∃ b, v'.ownBlock = some b ∧ w.heap.size ≤ b
  k : Kp (fun b => r = some b) w w'

set_option maxHeartbeats 4000000 in
set_option maxRecDepth 100000 in
theorem insert_end (w : World) (v : Value) (xs : List It) (x : It) (u : Value) (vb : Nat) (h : IOwn w v xs) (hvb : Blk w vb 33 (itC x u)) (hu : ByU w u x.2.2) (h1 : u.oneCell' = true) (hl : xs.length ≤ 1000) :
    Calls Tryd.prog 37 #[v, .int .i64 (xs.length : Int), .slice (some ⟨vb, 0, none⟩) 1 1] w fun e w' => ∃ v', e = .returned v' ∧ InsP w w' v.ownBlock v' (xs ++ [x]) := by
  have hty := h.ty
  obtain ⟨us, hus, hr, hb⟩ := h
  obtain ⟨i0, hi0, hz0, hz1', hz2⟩ := info_parts Tryd.infoItem
  obtain ⟨v', w', hrun, r1, r2, _, r4⟩ := run_append_own_at (P := Tryd.prog) w 0 27 27 33 i0 _ 3 48 Tryd.underlying27 hi0 hz0 hz1' hz2 rfl (by decide) v xs.length (cellsI xs us) hr
    ⟨vb, 0, none⟩ 1 1 (itC x u) (by simp [itC]) (fun j q hj => by rw [addr_add, Nat.zero_add, hvb.cell]; exact hj) (by
      intro z hz
      simp only [itC, List.mem_cons, List.not_mem_nil, or_false] at hz
      rcases hz with rfl | rfl | rfl
      · rfl
      · rfl
      · exact h1) (by unfold maxLen; omega) (by omega) (Nat.zero_le _)
  have HI : Hid (InsP w w' v.ownBlock v' (xs ++ [x])) := by
    have ho := IOwn.push hus hb hu h1 hty r1 r2
    refine ⟨ho, ?_, Kp.ofGrown r2⟩
    rcases r4 with e | e
    · exact .inl e
    · exact .inr ⟨_, e, Nat.le_refl _⟩
  generalize v.ownBlock = r at *
  obtain ⟨a, cap, rfl, hnc, hc, hnil, hsp⟩ := hr.shape
  have hrun2 : (Builtin.append_ #[27, 26] 27 #[.slice a xs.length cap, .slice (some ⟨vb, 0, none⟩) 1 1]).run Tryd.prog w = .ok v' w' := by
    rw [append_types 27 26 33 _ Tryd.underlying27 Tryd.underlying26]
    exact hrun
  generalize xs.length = n at *
  clear r1 r2 r4 hb hr hrun hus hvb hu h1 hty hi0 hz0 hz1' hz2
  have hncI : (n : Int) ≤ (cap : Int) := by omega
  have hn0 : (0 : Int) ≤ (n : Int) := by omega
  unfold maxLen at hc
  cases a with
  | none =>
    obtain ⟨rfl, rfl⟩ := hnil rfl
    go_enter Tryd.func37, Tryd.ntmps37
    go_wp2_with (at_builtin; refine Lib.wpList_append_run _ rfl _ _ _ _ rfl _ _ rfl rfl _ _ hrun2 ?_)
    all_goals (go_ret; exact ⟨v', rfl, HI.out⟩)
  | some ad =>
    obtain ⟨g, o, sp⟩ := ad
    obtain ⟨e1, e2⟩ := hsp _ rfl
    simp only at e1 e2
    subst e1 e2
    go_enter Tryd.func37, Tryd.ntmps37
    go_wp2_with (at_builtin; refine Lib.wpList_append_run _ rfl _ _ _ _ rfl _ _ rfl rfl _ _ hrun2 ?_)
    all_goals (go_ret; exact ⟨v', rfl, HI.out⟩)

theorem set_bytes {w w' : World} {g : Nat} {xs : List It} {us : List Value} {x : It} {u : Value} {i : Nat} (hus : us.length = xs.length) (hi : i ≤ xs.length)
    (hb : ∀ (i : Nat) (x : It) (u : Value), xs[i]? = some x → us[i]? = some u → ByU w u x.2.2 ∧ u.oneCell' = true) (hu : ByU w u x.2.2 ∧ u.oneCell' = true) (k : Kp (· = g) w w') (hg : ∀ b, b = g → b < w.heap.size → ¬ TyAt w b 5) :
    ∀ (j : Nat) (y : It) (q : Value), (xs.take i ++ x :: xs.drop i)[j]? = some y → (us.take i ++ u :: us.drop i)[j]? = some q → ByU w' q y.2.2 ∧ q.oneCell' = true := by
  intro j y q hy hq
  have l1 : (xs.take i).length = i := by rw [List.length_take]; omega
  have l2 : (us.take i).length = i := by rw [List.length_take]; omega
  by_cases h1 : j < i
  · rw [List.getElem?_append_left (by omega), List.getElem?_take_of_lt h1] at hy hq
    exact ⟨(hb j y q hy hq).1.kp k hg, (hb j y q hy hq).2⟩
  · rw [List.getElem?_append_right (by omega)] at hy hq
    rw [l1] at hy
    rw [l2] at hq
    by_cases h2 : j = i
    · subst h2
      simp at hy hq
      subst hy hq
      exact ⟨hu.1.kp k hg, hu.2⟩
    · obtain ⟨m, hm⟩ : ∃ m, j - i = m + 1 := ⟨j - i - 1, by omega⟩
      rw [hm] at hy hq
      simp only [List.getElem?_cons_succ, List.getElem?_drop] at hy hq
      exact ⟨(hb _ y q hy hq).1.kp k hg, (hb _ y q hy hq).2⟩
theorem cells_ins {xs : List It} {us : List Value} {x : It} {u : Value} {i : Nat} (hus : us.length = xs.length) (hi : i ≤ xs.length) :
    cellsI (xs.take i ++ x :: xs.drop i) (us.take i ++ u :: us.drop i) = (cellsI xs us).take (i * 3) ++ itC x u ++ (cellsI xs us).drop (i * 3) := by
  rw [cellsI_append _ _ _ _ (by rw [List.length_take, List.length_take]; omega), (cellsI_cut xs us i hus hi).1, cellsI, (cellsI_cut xs us i hus hi).2]
  simp

theorem drop_src {w : World} {g cap i n : Nat} {cur xs : List Value} (hh : w.heap[g]? = some (.cells cur.toArray 33 (0, 0))) (ht : cur.take (n * 3) = xs) (_hc : n ≤ cap) :
    ∀ j v, (xs.drop (i * 3))[j]? = some v → w.cell? ((⟨g, i * 3, none⟩ : Addr).add j) = some v := by
  intro j v hj
  rw [addr_add]
  rw [List.getElem?_drop, ← ht, List.getElem?_take] at hj
  split at hj
  · have hb : Blk w g 33 cur := hh
    rw [hb.cell]
    exact hj
  · cases hj
theorem Tryd.sizeItem : (Tryd.prog.info? 33).map (·.size) = some 3 := by kernel_rfl
theorem itC_one {x : It} {u : Value} (h1 : u.oneCell' = true) : ∀ z ∈ itC x u, z.oneCell' = true := by
  intro z hz
  simp only [itC, List.mem_cons, List.not_mem_nil, or_false] at hz
  rcases hz with rfl | rfl | rfl
  · rfl
  · rfl
  · exact h1
theorem cellsI_one {xs : List It} {us : List Value} (hus : us.length = xs.length) (h : ∀ (i : Nat) (x : It) (u : Value), xs[i]? = some x → us[i]? = some u → u.oneCell' = true) : ∀ z ∈ cellsI xs us, z.oneCell' = true := by
  induction xs generalizing us with
  | nil => intro z hz; cases us <;> simp [cellsI] at hz
  | cons x xs ih =>
    cases us with
    | nil => simp at hus
    | cons u us =>
      intro z hz
      rw [cellsI, List.mem_append] at hz
      rcases hz with hz | hz
      · exact itC_one (h 0 x u rfl rfl) z hz
      · exact ih (us := us) (by simpa using hus) (fun i y q hy hq => h (i + 1) y q (by simpa using hy) (by simpa using hq)) z hz

set_option maxHeartbeats 4000000 in
set_option maxRecDepth 100000 in
theorem insert_room (w : World) (xs : List It) (us : List Value) (x : It) (u : Value) (vb g cap i : Nat) (cur : List Value) (hh : w.heap[g]? = some (.cells cur.toArray 33 (0, 0))) (hc : cap ≤ maxLen) (hs : cur.length = cap * 3)
    (ht : cur.take (xs.length * 3) = cellsI xs us) (hus : us.length = xs.length) (hb : ∀ (i : Nat) (x : It) (u : Value), xs[i]? = some x → us[i]? = some u → ByU w u x.2.2 ∧ u.oneCell' = true)
    (hvb : Blk w vb 33 (itC x u)) (hne : vb ≠ g) (hu : ByU w u x.2.2) (h1 : u.oneCell' = true) (hl : xs.length ≤ 1000) (hi : i < xs.length) (hroom : xs.length + 1 ≤ cap) :
    Calls Tryd.prog 37 #[.slice (some ⟨g, 0, none⟩) xs.length cap, .int .i64 (i : Int), .slice (some ⟨vb, 0, none⟩) 1 1] w fun e w' => ∃ v', e = .returned v' ∧ InsP w w' (some g) v' (xs.take i ++ x :: xs.drop i) := by
  have hB : Blk w g 33 cur := hh
  have hsplice := splice_room cur (itC x u) ((cellsI xs us).drop (i * 3)) (i * 3) rfl (by rw [List.length_drop, cellsI_length _ _ hus, hs]; omega)
  have hDl : ((cellsI xs us).drop (i * 3)).length = (xs.length - i) * 3 := by rw [List.length_drop, cellsI_length _ _ hus]; omega
  have hDs := drop_src (i := i) hh ht (by omega : xs.length ≤ cap)
  have hD1 : ∀ z ∈ (cellsI xs us).drop (i * 3), z.oneCell' = true := fun z hz => cellsI_one hus (fun i x u hx hu => (hb i x u hx hu).2) z (List.mem_of_mem_drop hz)
  have hci := cells_ins (x := x) (u := u) hus (Nat.le_of_lt hi)
  rw [← ht, List.take_take, Nat.min_eq_left (by omega), ht] at hci
  have hbs := fun w' (k : Kp (· = g) w w') => set_bytes (x := x) (u := u) hus (Nat.le_of_lt hi) hb ⟨hu, h1⟩ k (fun b e _ ty => by subst e; exact ty.ne hB.ty (by decide) rfl)
  generalize (cellsI xs us).drop (i * 3) = D at *
  obtain ⟨C1, hC1⟩ : ∃ C1, C1 = cur.take (i * 3 + 3) ++ D ++ cur.drop (i * 3 + 3 + D.length) := ⟨_, rfl⟩
  obtain ⟨C2, hC2⟩ : ∃ C2, C2 = C1.take (i * 3) ++ itC x u ++ C1.drop (i * 3 + (itC x u).length) := ⟨_, rfl⟩
  simp only at hsplice
  rw [← hC1, ← hC2] at hsplice
  obtain ⟨hl1, hl2, htk⟩ := hsplice
  have hcp1 : ∀ ty dc sc, (Builtin.copy_ #[27, 27] ty #[.slice (some ⟨g, (i + 1) * 3, none⟩) (xs.length - i) dc, .slice (some ⟨g, i * 3, none⟩) (xs.length + 1 - i) sc]).run Tryd.prog w.drew = .ok (goInt ((xs.length - i : Nat) : Int)) (w.drew.setRow g C1.toArray) := fun ty dc sc => by
    have hm : Nat.min (xs.length + 1 - i) (xs.length - i) = xs.length - i := by simp only [Nat.min_def]; split <;> omega
    have h := run_copyK w.drew 27 27 ty 33 3 g (i * 3 + 3) (xs.length - i) dc ⟨g, i * 3, none⟩ (xs.length + 1 - i) sc cur 33 D Tryd.underlying27 Tryd.sizeItem hh (by rw [hm, hDl]) hDs (by rw [hDl, hs]; omega) hD1
    rw [hm, ← hC1] at h
    rw [show (i + 1) * 3 = i * 3 + 3 by omega]
    exact h
  have hcp2 : ∀ ty dc, (Builtin.copy_ #[27, 26] ty #[.slice (some ⟨g, i * 3, none⟩) (xs.length + 1 - i) dc, .slice (some ⟨vb, 0, none⟩) 1 1]).run Tryd.prog (w.drew.setRow g C1.toArray) = .ok (goInt 1) ((w.drew.setRow g C1.toArray).setRow g C2.toArray) := fun ty dc => by
    have hm : Nat.min 1 (xs.length + 1 - i) = 1 := by simp only [Nat.min_def]; split <;> omega
    have h := run_copyK (w.drew.setRow g C1.toArray) 27 26 ty 33 3 g (i * 3) (xs.length + 1 - i) dc ⟨vb, 0, none⟩ 1 1 C1 33 (itC x u) Tryd.underlying27 Tryd.sizeItem (setRow_heap w.drew g _ _ _ _ hh) (by rw [hm]; rfl) (fun j q hj => by
      have hb2 : Blk (w.drew.setRow g C1.toArray) vb 33 (itC x u) := (show (w.drew.setRow g C1.toArray).heap[vb]? = _ by rw [setRow_other _ _ _ _ hne]; exact hvb)
      rw [addr_add, Nat.zero_add, hb2.cell]
      exact hj) (by rw [hl1, hs]; show i * 3 + 3 ≤ _; omega) (itC_one h1)
    rw [hm, ← hC2] at h
    exact h
  have hov : ∀ lb cb, (callFunc 48 #[.slice (some ⟨vb, 0, none⟩) 1 1, .slice (some ⟨g, (i + 1) * 3, none⟩) lb cb]).run Tryd.prog w = .ok (.value (.bool false)) w := fun lb cb => by
    rw [run_callFunc_extern Tryd.func48 (by kernel_rfl) (by kernel_rfl) (by kernel_rfl) (e := Extern.SlicesOverlaps.overlaps #[26, 26] #[4]) (by kernel_rfl),
      Lib.run_overlaps_apart w 26 4 33 Tryd.underlying26 3 Tryd.sizeOf33 ⟨vb, 0, none⟩ ⟨g, (i + 1) * 3, none⟩ 1 1 lb cb hne 33 33 3 cur.length (by unfold Blk at hvb; simp [World.shape?, hvb, itC]) (by simp [World.shape?, hh]) (by omega) (hvb.frozen 0) (hvb.frozen 3)]
    rfl
  have HI : Hid (InsP w ((w.drew.setRow g C1.toArray).setRow g C2.toArray) (some g) (.slice (some ⟨g, 0, none⟩) (xs.length + 1) cap) (xs.take i ++ x :: xs.drop i)) := by
    have k : Kp (· = g) w ((w.drew.setRow g C1.toArray).setRow g C2.toArray) := (((Kp.refl (· = g) w).drew).trans (setRow_kp _ g _) (fun _ h => .inl h)).trans (setRow_kp _ g _) (fun _ h => .inl h)
    have hlen : (xs.take i ++ x :: xs.drop i).length = xs.length + 1 := by simp; omega
    refine ⟨?_, .inl rfl, k.mono (fun b e => .inl (by rw [e]))⟩
    rw [← hlen]
    refine IOwn.closed (cur := C2) (us := us.take i ++ u :: us.drop i) (setRow_heap _ g _ _ _ _ (setRow_heap w.drew g _ _ _ _ hh)) (by omega) hc (by rw [hl2, hs]) ?_ (by simp; omega) (hbs _ k)
    rw [hci, hlen]
    rw [← htk]
    congr 1
    rw [hDl]
    omega
  generalize xs.length = n at *
  clear hbs hci hDs hD1 hb hus ht htk hl1 hl2 hC1 hC2 hs hB hvb hu h1 hh hDl
  have hcc : (n : Int) ≤ (cap : Int) := by omega
  have hb1 : (0 : Int) ≤ (i : Int) + 1 := by omega
  have hz2 : ¬ ((i : Int) = (n : Int)) := by omega
  have hw1 : IntKind.i64.wrap ((i : Int) + 1) = (i : Int) + 1 := by rw [IntKind.wrap_i64]; omega
  have htn : ((i : Int) + 1).toNat = i + 1 := by omega
  have hb2 : ¬ (cap = i + 1) := by omega
  have hb3 : (i : Int) ≤ (n : Int) + 1 := by omega
  have hb4 : ¬ (cap = i) := by omega
  have hin : i ≤ n := by omega
  unfold maxLen at hc
  have mixed := Tryd.gsplit.mixed
  go_enter Tryd.func37, Tryd.ntmps37
  go_wp2_with (simp only [hov])
  go_region_law_o (refine step_copy_runI rfl _ _ 27 27 rfl _ _ (by simp [Act.eval, Act.put]) (by simp [Act.eval, Act.put]) (hcp1 _ _ _) ?_)
  go_wp2_with (at_builtin; refine wpList_copy_runI _ rfl _ _ 27 26 rfl _ _ rfl rfl (hcp2 _ _) ?_)
  go_ret
  exact ⟨_, rfl, HI.out⟩

theorem arr3 (A : List Value) (X Y : Array Value) : A.toArray ++ X ++ Y = (A ++ (X.toList ++ Y.toList)).toArray := by
  rw [← Array.toList_inj]
  simp only [Array.toList_append, List.append_assoc]
theorem Tryd.mixed : Tryd.prog.follows Departure.mixedOrders = true := Tryd.gsplit.mixed

set_option maxHeartbeats 4000000 in
set_option maxRecDepth 100000 in
theorem insert_grow (w : World) (xs : List It) (us : List Value) (x : It) (u : Value) (vb g cap i : Nat) (cur : List Value) (hh : w.heap[g]? = some (.cells cur.toArray 33 (0, 0))) (hnc : xs.length ≤ cap)
    (ht : cur.take (xs.length * 3) = cellsI xs us) (hus : us.length = xs.length) (hb : ∀ (i : Nat) (x : It) (u : Value), xs[i]? = some x → us[i]? = some u → ByU w u x.2.2 ∧ u.oneCell' = true)
    (hvb : Blk w vb 33 (itC x u)) (hu : ByU w u x.2.2) (h1 : u.oneCell' = true) (hl : xs.length ≤ 1000) (hi : i < xs.length) (hroom : cap < xs.length + 1) :
    Calls Tryd.prog 37 #[.slice (some ⟨g, 0, none⟩) xs.length cap, .int .i64 (i : Int), .slice (some ⟨vb, 0, none⟩) 1 1] w fun e w' => ∃ v', e = .returned v' ∧ InsP w w' (some g) v' (xs.take i ++ x :: xs.drop i) := by
  obtain ⟨i0, hi0, hz0, hz1', hz2⟩ := info_parts Tryd.infoItem
  have hgw : g < w.heap.size := (Array.getElem?_eq_some_iff.1 hh).1
  have hvw : vb < w.heap.size := hvb.lt
  have hDl : ((cellsI xs us).drop (i * 3)).length = (xs.length - i) * 3 := by rw [List.length_drop, cellsI_length _ _ hus]; omega
  have hAl : ((cellsI xs us).take (i * 3)).length = i * 3 := by rw [List.length_take, cellsI_length _ _ hus]; omega
  have hDs := drop_src (i := i) hh ht hnc
  have hAs : ∀ j v, ((cellsI xs us).take (i * 3))[j]? = some v → w.cell? ((⟨g, 0, none⟩ : Addr).add j) = some v := fun j v hj => by
    have h0 := drop_src (i := 0) hh ht hnc j v
    rw [Nat.zero_mul, List.drop_zero] at h0
    refine h0 ?_
    rw [List.getElem?_take] at hj
    split at hj
    · exact hj
    · cases hj
  have hD1 : ∀ z ∈ (cellsI xs us).drop (i * 3), z.oneCell' = true := fun z hz => cellsI_one hus (fun i x u hx hu => (hb i x u hx hu).2) z (List.mem_of_mem_drop hz)
  have hci := cells_ins (x := x) (u := u) hus (Nat.le_of_lt hi)
  have hbs := fun w' (k : Kp (· = w.heap.size) w w') => set_bytes (x := x) (u := u) hus (Nat.le_of_lt hi) hb ⟨hu, h1⟩ k (fun b e hlt => absurd hlt (by omega))
  generalize (cellsI xs us).drop (i * 3) = D at *
  generalize (cellsI xs us).take (i * 3) = A at *
  obtain ⟨G, hG⟩ : ∃ G, G = grownCap w (xs.length + 1) cap 33 := ⟨_, rfl⟩
  have hGn : xs.length + 1 ≤ G := by rw [hG]; exact grownCap_ge w _ _ _
  have hGm : G ≤ maxLen := by
    have := grownCap_le_maxLen w (xs.length + 1) cap 33 (by unfold maxLen; omega)
    rwa [← hG] at this
  obtain ⟨Z, hZ⟩ : ∃ Z : List Value, Z = (Builtin.zeroCells (Value.agg #[.string ⟨#[]⟩, .bool false, .slice none 0 0]).cells (xs.length + 1 - i)).toList ++ (Builtin.zeroCells (Value.agg #[.string ⟨#[]⟩, .bool false, .slice none 0 0]).cells (G - (xs.length + 1))).toList := ⟨_, rfl⟩
  have hZl : Z.length = (G - i) * 3 := by
    rw [hZ]
    simp [Builtin.zeroCells, Value.cells]
    omega
  have hsplice := splice_grow A Z (itC x u) D rfl (by rw [hZl, hDl]; omega)
  obtain ⟨R, hR⟩ : ∃ R, R = A ++ Z := ⟨_, rfl⟩
  obtain ⟨R1, hR1⟩ : ∃ R1, R1 = R.take A.length ++ itC x u ++ R.drop (A.length + (itC x u).length) := ⟨_, rfl⟩
  obtain ⟨R2, hR2⟩ : ∃ R2, R2 = R1.take (A.length + 3) ++ D ++ R1.drop (A.length + 3 + D.length) := ⟨_, rfl⟩
  simp only at hsplice
  rw [← hR, ← hR1, ← hR2] at hsplice
  obtain ⟨hl1, hl2, htk⟩ := hsplice
  have hRl : R.length = G * 3 := by rw [hR, List.length_append, hAl, hZl]; omega
  obtain ⟨W1, hW1⟩ : ∃ W1, W1 = w.drew.alloc (.cells R.toArray 33) := ⟨_, rfl⟩
  have hrz : ∀ ty, (Builtin.append_ #[27, 3] ty #[.slice (some ⟨g, 0, none⟩) i cap, .int .i64 ((xs.length : Int) + 1 - (i : Int))]).run Tryd.prog w = .ok (.slice (some ⟨w.heap.size, 0, none⟩) (xs.length + 1) G) W1 := fun ty => by
    have hold : (Builtin.firstCells i0.size i (.slice (some ⟨g, 0, none⟩) i cap)).run Tryd.prog w.drew = .ok A.toArray w.drew := by
      rw [hz1']
      exact run_firstCells_some w.drew 3 i ⟨g, 0, none⟩ i cap A hAl hAs
    have hik : i + (xs.length + 1 - i) = xs.length + 1 := by omega
    have h := Lib.run_append_grow_zeros w 27 3 ty 33 i0 _ .i64 .i64 Tryd.underlying27 Tryd.underlying3 hi0 hz0 (some ⟨g, 0, none⟩) i cap A hold (xs.length + 1 - i) (by omega) (by rw [hz1']; omega) (by omega) (by omega) (by rw [hz2]; omega) (by rw [hz2, hik]; exact growslice_fits hroom (by omega))
    rw [hik, ← hG] at h
    rw [show ((xs.length : Int) + 1 - (i : Int)) = ((xs.length + 1 - i : Nat) : Int) by omega, h, hW1, hR, hZ]
    rw [arr3]
  have hN1 : W1.heap[w.heap.size]? = some (.cells R.toArray 33 (0, 0)) := by rw [hW1]; exact (MapKept.heap_alloc w.drew _).1
  have hk1 : Kp No w W1 := by rw [hW1]; exact ((Kp.refl No w).drew).alloc _
  have hcpA : ∀ W : World, W.heap = W1.heap → ∀ ty dc, (Builtin.copy_ #[27, 26] ty #[.slice (some ⟨w.heap.size, i * 3, none⟩) (xs.length + 1 - i) dc, .slice (some ⟨vb, 0, none⟩) 1 1]).run Tryd.prog W = .ok (goInt 1) (W.setRow w.heap.size R1.toArray) := fun W hW ty dc => by
    have hm : Nat.min 1 (xs.length + 1 - i) = 1 := by simp only [Nat.min_def]; split <;> omega
    have h := run_copyK W 27 26 ty 33 3 w.heap.size (i * 3) (xs.length + 1 - i) dc ⟨vb, 0, none⟩ 1 1 R 33 (itC x u) Tryd.underlying27 Tryd.sizeItem (by rw [hW]; exact hN1) (by rw [hm]; rfl) (fun j q hj => by
      have hb2 : Blk W vb 33 (itC x u) := (show W.heap[vb]? = _ by rw [hW]; exact hvb.kp hk1 (fun h => h))
      rw [addr_add, Nat.zero_add, hb2.cell]
      exact hj) (by rw [hRl]; show i * 3 + 3 ≤ _; omega) (itC_one h1)
    rw [hm] at h
    rw [h, hR1, hAl]
    rfl
  have hN2 : (W1.setRow w.heap.size R1.toArray).heap[w.heap.size]? = some (.cells R1.toArray 33 (0, 0)) := setRow_heap _ _ _ _ _ _ hN1
  have hcpB : ∀ W : World, W.heap = (W1.setRow w.heap.size R1.toArray).heap → ∀ ty dc sc, (Builtin.copy_ #[27, 27] ty #[.slice (some ⟨w.heap.size, (i + 1) * 3, none⟩) (xs.length - i) dc, .slice (some ⟨g, i * 3, none⟩) (xs.length - i) sc]).run Tryd.prog W = .ok (goInt ((xs.length - i : Nat) : Int)) (W.setRow w.heap.size R2.toArray) := fun W hW ty dc sc => by
    have hm : Nat.min (xs.length - i) (xs.length - i) = xs.length - i := Nat.min_self _
    have h := run_copyK W 27 27 ty 33 3 w.heap.size (i * 3 + 3) (xs.length - i) dc ⟨g, i * 3, none⟩ (xs.length - i) sc R1 33 D Tryd.underlying27 Tryd.sizeItem (by rw [hW]; exact hN2) (by rw [hm, hDl]) (fun j q hj => by
      have hb2 : W.heap[g]? = w.heap[g]? := by rw [hW, setRow_other _ _ _ _ (by omega)]; exact hk1.block g hgw (fun h => h)
      have hc : W.cell? ((⟨g, i * 3, none⟩ : Addr).add j) = w.cell? ((⟨g, i * 3, none⟩ : Addr).add j) := by
        rw [addr_add]
        exact World.cell?_of_block (w := w) hb2
      rw [hc]
      exact hDs j q hj) (by rw [hDl, hl1, hRl]; omega) hD1
    rw [hm] at h
    rw [show (i + 1) * 3 = i * 3 + 3 by omega, h, hR2, hAl]
  have HI : ∀ W : World, Kp No w W → W.heap = ((W1.setRow w.heap.size R1.toArray).setRow w.heap.size R2.toArray).heap → InsP w W (some g) (.slice (some ⟨w.heap.size, 0, none⟩) (xs.length + 1) G) (xs.take i ++ x :: xs.drop i) := fun W k hW => by
    have hlen : (xs.take i ++ x :: xs.drop i).length = xs.length + 1 := by simp; omega
    refine ⟨?_, .inr ⟨_, rfl, Nat.le_refl _⟩, k.ofNo⟩
    rw [← hlen]
    refine IOwn.closed (cur := R2) (us := us.take i ++ u :: us.drop i) (by rw [hW]; exact setRow_heap _ _ _ _ _ _ hN2) (by omega) hGm (by rw [hl2, hRl]) ?_ (by simp; omega) (hbs _ k.ofNo)
    rw [hci, hlen, ← htk]
    congr 1
    rw [hDl, hAl]
    omega
  have HII := hid HI
  have HK3 : Hid (∀ W : World, W.heap = W1.heap → W.os = w.os → W.tape = w.tape → W.output = w.output → ∀ V : World, V = ((W.setRow w.heap.size R1.toArray).drew).setRow w.heap.size R2.toArray → Kp No w V ∧ V.heap = ((W1.setRow w.heap.size R1.toArray).setRow w.heap.size R2.toArray).heap) := fun W h1 h2 h3 h4 V hV => by
    subst hV
    have hk : Kp No w W := ⟨h2, h3, h4, by rw [h1]; exact hk1.size, fun b hb hn => by rw [h1]; exact hk1.block b hb hn⟩
    refine ⟨(((hk.trans (M := (· = w.heap.size)) (setRow_kp W _ _) (fun b e => .inr (by omega))).drew).trans (M := (· = w.heap.size)) (setRow_kp _ _ _) (fun b e => .inr (by omega))), ?_⟩
    simp only [World.setRow, World.drew, h1]
  generalize xs.length = n at *
  clear HI hbs hci hDs hAs hD1 hb hus ht htk hl1 hl2 hR1 hR2 hR hRl hZ hZl hvb hu h1 hh hDl hAl hN1 hN2 hk1 hi0 hz0 hz1' hz2 hG
  have hcc : (n : Int) ≤ (cap : Int) := by omega
  have hz2 : ¬ ((i : Int) = (n : Int)) := by omega
  have hz3 : (cap : Int) < (n : Int) + 1 := by omega
  have hb1 : (0 : Int) ≤ (i : Int) + 1 := by omega
  have hw1 : IntKind.i64.wrap ((i : Int) + 1) = (i : Int) + 1 := by rw [IntKind.wrap_i64]; omega
  have htn : ((i : Int) + 1).toNat = i + 1 := by omega
  have hGi : ¬ (G = i) := by omega
  have hGim : ¬ (G = i + 1) := by omega
  have hci : ¬ (cap = i) := by omega
  have hin : i ≤ n := by omega
  have hb3 : (i : Int) ≤ (n : Int) := by omega
  unfold maxLen at hGm
  have mixed := Tryd.mixed
  subst hW1
  have hcA := hcpA ((w.alloc (.cells R.toArray 33)).drew) rfl
  have hcB := hcpB ((((w.alloc (.cells R.toArray 33)).drew).setRow w.heap.size R1.toArray).drew) rfl
  clear hcpA hcpB
  go_enter Tryd.func37, Tryd.ntmps37
  go_wp2_with (at_builtin; refine Lib.wpList_append_run _ rfl _ _ _ _ rfl _ _ rfl rfl _ _ (hrz _) ?_)
  go_region_law_o (refine step_copy_runI rfl _ _ 27 27 rfl _ _ (by simp [Act.eval, Act.put]) (by simp [Act.eval, Act.put]) (hcB _ _ _) ?_)
  go_wp2
  go_ret
  have h := HK3.out ((w.alloc (.cells R.toArray 33)).drew) rfl rfl rfl rfl _ rfl
  exact ⟨_, rfl, HII.out _ h.1 h.2⟩

/-- slices.Insert of one item that lies in a block of its own. -/
theorem insert_any (w : World) (v : Value) (xs : List It) (x : It) (u : Value) (vb i : Nat) (h : IOwn w v xs) (hvb : Blk w vb 33 (itC x u)) (hne : v.ownBlock ≠ some vb) (hu : ByU w u x.2.2) (h1 : u.oneCell' = true) (hl : xs.length ≤ 1000) (hi : i ≤ xs.length) :
    Calls Tryd.prog 37 #[v, .int .i64 (i : Int), .slice (some ⟨vb, 0, none⟩) 1 1] w fun e w' => ∃ v', e = .returned v' ∧ InsP w w' v.ownBlock v' (xs.take i ++ x :: xs.drop i) := by
  by_cases hie : i = xs.length
  · subst hie
    rw [List.take_length, List.drop_length]
    exact insert_end w v xs x u vb h hvb hu h1 hl
  · obtain ⟨g, cap, cur, us, rfl, hh, hnc, hc, hs, ht, hus, hb⟩ := h.opened (fun e => hie (by rw [e] at hi ⊢; simpa using hi))
    by_cases hr : xs.length + 1 ≤ cap
    · exact insert_room w xs us x u vb g cap i cur hh hc hs ht hus hb hvb (by rintro rfl; exact hne rfl) hu h1 hl (by omega) hr
    · exact insert_grow w xs us x u vb g cap i cur hh hnc ht hus hb hvb hu h1 hl (by omega) (by omega)

end Go.Proofs.YtdooiflmjeibdaaDoor.Tr
