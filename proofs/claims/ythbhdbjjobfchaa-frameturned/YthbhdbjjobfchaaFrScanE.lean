/-
  Scan of no table, and of no byte; Take and At of no table.
-/
import Derived.Test.YthbhdbjjobfchaaFrTells
import Derived.RangeFuncBox
namespace Go.Proofs.Ythbhdbjjobfchaa
open Go.RowKit Go.Shelf
open Tlv (Tr BySlS AgreeS Agree)
open Crc (hid Kept Tab)
attribute [local go_sem] Oper.semAt_some

set_option maxHeartbeats 1000000 in
set_option maxRecDepth 100000 in
theorem take_nil (a : Option Addr) (l c : Nat) (w : World) :
    Calls Try.prog 19 #[.pointer none, .slice a l c] w fun e w' => e = .returned (.tuple #[.agg zRec.toArray, .int .i64 0, .int .i64 18]) ∧ Below w.heap.size w w' := by
  have hz := zero35
  obtain ⟨Z, hZ⟩ : ∃ Z, zRec = Z := ⟨_, rfl⟩
  have HZ := hid hZ
  rw [hZ] at hz
  rw [hZ]
  clear hZ
  have HZS : Hid (Z.toArray.size = 34) := by rw [← HZ.out]; rfl
  have HI2 : Hid ((Try.prog.info? 35).map (·.size) = some Z.toArray.size) := by rw [← HZ.out]; exact Try.info35
  have H1 : Hid (Z.toArray.all (·.oneCell') = true) := by rw [← HZ.out]; exact all_oneCell_toArray zRec_one
  have HT : Hid (World.there (w.alloc (.cells Z.toArray 35)) w.heap.size 0 Z.toArray.size) := there_new w Z 35
  go_enter Try.func19, Try.ntmps19
  go_wp2_with (refine wpList_store_mid (by rfl) 35 _ _ (by rfl) w.heap.size 0 Z.toArray (by rfl) (by rfl) HT.out HI2.out H1.out ?_)
  have hr : World.rangeAt ((w.alloc (.cells Z.toArray 35)).setCells w.heap.size 0 Z) w.heap.size 0 Z := World.rangeAt_setCells_same _ _ _ _ HT.out
  exact bodyPost_ret (v := .tuple #[.agg Z.toArray, .int .i64 0, .int .i64 18]) (results_cell_mid3 Try.results19 _ _ w.heap.size 0 _ _ rfl hr Try.underlying35 rfl HI2.out) rfl ⟨rfl, ((Below.refl _ _).alloc (Nat.le_refl _) _).trans (setCells_below (Nat.le_refl _) _ _ _)⟩

set_option maxHeartbeats 1000000 in
set_option maxRecDepth 100000 in
theorem at_nil (a : Option Addr) (l c : Nat) (z : Int) (w : World) :
    Calls Try.prog 26 #[.pointer none, .slice a l c, .int .i64 z] w fun e w' => e = .returned (.tuple #[.agg zRec.toArray, .int .i64 18]) ∧ Below w.heap.size w w' := by
  have hz := zero35
  obtain ⟨Z, hZ⟩ : ∃ Z, zRec = Z := ⟨_, rfl⟩
  have HZ := hid hZ
  rw [hZ] at hz
  rw [hZ]
  clear hZ
  have HI2 : Hid ((Try.prog.info? 35).map (·.size) = some Z.toArray.size) := by rw [← HZ.out]; exact Try.info35
  have H1 : Hid (Z.toArray.all (·.oneCell') = true) := by rw [← HZ.out]; exact all_oneCell_toArray zRec_one
  have HT : Hid (World.there (w.alloc (.cells Z.toArray 35)) w.heap.size 0 Z.toArray.size) := there_new w Z 35
  go_enter Try.func26, Try.ntmps26
  go_wp2_with (refine wpList_store_mid (by rfl) 35 _ _ (by rfl) w.heap.size 0 Z.toArray (by rfl) (by rfl) HT.out HI2.out H1.out ?_)
  have hr : World.rangeAt ((w.alloc (.cells Z.toArray 35)).setCells w.heap.size 0 Z) w.heap.size 0 Z := World.rangeAt_setCells_same _ _ _ _ HT.out
  exact bodyPost_ret (v := .tuple #[.agg Z.toArray, .int .i64 18]) (results_cell_mid2 Try.results26 _ _ w.heap.size 0 _ _ rfl hr Try.underlying35 rfl HI2.out) rfl ⟨rfl, ((Below.refl _ _).alloc (Nat.le_refl _) _).trans (setCells_below (Nat.le_refl _) _ _ _)⟩

set_option maxHeartbeats 1000000 in
set_option maxRecDepth 100000 in
theorem scan_nil (a : Option Addr) (l c : Nat) (w : World) :
    Calls Try.prog 21 #[.pointer none, .slice a l c] w fun e w' => e = .returned (.tuple #[.slice none 0 0, .int .i64 0, .int .i64 18]) ∧ Below w.heap.size w w' := by
  go_enter Try.func21, Try.ntmps21
  go_wp2
  refine bodyPost_ret (v := .tuple #[.slice none 0 0, .int .i64 0, .int .i64 18]) (by simp [results, Try.results21, go_sem]) rfl ⟨rfl, ?_⟩
  exact (((Below.refl _ _).alloc (Nat.le_refl _) _).alloc (by simp) _).alloc (by simp; omega) _

/-- The three results are stored. -/
theorem scan_set {W F : World} {s D : Nat} {t0 t1 t2 : TypeId} {u0 u1 u2 v0 v1 v2 : Value} (h0 : Boxed W s t0 u0) (h1 : Boxed W (s + 1) t1 u1) (h2 : Boxed W (s + 2) t2 u2) (hd : W.heap[D]? = some (.deferred (some []))) (hD : s + 3 ≤ D)
    (hF : (((W.setCell ⟨s, 0, none⟩ v0).setCell ⟨s + 1, 0, none⟩ v1).setCell ⟨s + 1 + 1, 0, none⟩ v2).drew = F) :
    Boxed F s t0 v0 ∧ Boxed F (s + 1) t1 v1 ∧ Boxed F (s + 2) t2 v2 ∧ F.heap[D]? = some (.deferred (some [])) ∧ Below s W F ∧ F.heap.size = W.heap.size := by
  have o : ∀ (U : World) (g k : Nat) (u : Value), k ≠ g → (U.setCell ⟨g, 0, none⟩ u).heap[k]? = U.heap[k]? := fun U g k u h => Below.heap_setCell _ _ _ _ (by simp; omega)
  subst hF
  refine ⟨?_, ?_, ?_, ?_, ?_, ?_⟩
  · show (((W.setCell ⟨s, 0, none⟩ v0).setCell ⟨s + 1, 0, none⟩ v1).setCell ⟨s + 1 + 1, 0, none⟩ v2).heap[s]? = _
    rw [o _ _ _ _ (by omega), o _ _ _ _ (by omega)]
    exact h0.set v0
  · show (((W.setCell ⟨s, 0, none⟩ v0).setCell ⟨s + 1, 0, none⟩ v1).setCell ⟨s + 1 + 1, 0, none⟩ v2).heap[s + 1]? = _
    rw [o _ _ _ _ (by omega)]
    have h : Boxed (W.setCell ⟨s, 0, none⟩ v0) (s + 1) t1 u1 := (o _ _ _ _ (by omega)).trans h1
    exact h.set v1
  · have h : Boxed ((W.setCell ⟨s, 0, none⟩ v0).setCell ⟨s + 1, 0, none⟩ v1) (s + 1 + 1) t2 u2 := ((o _ _ _ _ (by omega)).trans (o _ _ _ _ (by omega))).trans h2
    exact h.set v2
  · show (((W.setCell ⟨s, 0, none⟩ v0).setCell ⟨s + 1, 0, none⟩ v1).setCell ⟨s + 1 + 1, 0, none⟩ v2).heap[D]? = _
    rw [o _ _ _ _ (by omega), o _ _ _ _ (by omega), o _ _ _ _ (by omega)]
    exact hd
  · exact ((((Below.refl s W).setCell (p := ⟨s, 0, none⟩) (Nat.le_refl _) _).setCell (p := ⟨s + 1, 0, none⟩) (by simp) _).setCell (p := ⟨s + 1 + 1, 0, none⟩) (by simp; omega) _).drew
  · simp

set_option maxHeartbeats 2000000 in
set_option maxRecDepth 100000 in
theorem scan_empty (b : Nat) (w : World) (hT : TabX w b) :
    Calls Try.prog 21 #[.pointer (some ⟨b, 0, none⟩), .slice none 0 0] w fun e w' => e = .returned (.tuple #[.slice none 0 0, .int .i64 0, .int .i64 0]) ∧ Kept b w w' ∧ TabX w' b := by
  have HT := hid hT
  have hb := hT.lt
  clear hT
  refine (callsIn_wide (n := 3)).1 ?_
  refine callsIn_of_wp_marks Try.func21 rfl trivial ?_ rfl
  simp only [Try.ntmps21, List.size_toArray, List.length_cons, List.length_nil, Nat.reduceAdd, Nat.reduceSub, Array.replicate_succ, Array.replicate_zero, List.push_toArray, List.append_toArray, List.nil_append, List.cons_append]
  gi_wp2_with fail
  refine ⟨trivial, (callsIn_wide.2 (frames_any _ _ _ _ _)).mono ?_⟩
  rintro e w' ⟨rfl, rfl⟩
  gi_wp2_with fail
  obtain ⟨W0, hW0⟩ : ∃ W0, ((((w.alloc (.cells #[.slice none 0 0] 48)).alloc (.cells #[.int .i64 0] 3)).alloc (.cells #[.int .i64 0] 32)).alloc (.cells #[.pointer (some ⟨b, 0, none⟩)] 30)).alloc (.cells #[.slice none 0 0] 24) = W0 := ⟨_, rfl⟩
  have bel : Below w.heap.size w W0 := by rw [← hW0]; exact (((((Below.refl _ w).alloc (Nat.le_refl _) _).alloc (by simp) _).alloc (by simp; omega) _).alloc (by simp; omega) _).alloc (by simp; omega) _
  have hsz : W0.heap.size = w.heap.size + 5 := by rw [← hW0]; simp
  have b0 : Boxed W0 w.heap.size 48 (.slice none 0 0) := by rw [← hW0]; exact ((((Boxed.new w 48 (.slice none 0 0)).alloc _).alloc _).alloc _).alloc _
  have b1 : Boxed W0 (w.heap.size + 1) 3 (.int .i64 0) := by
    rw [← hW0]
    have h := (((Boxed.new (w.alloc (.cells #[.slice none 0 0] 48)) 3 (.int .i64 0)).alloc (.cells #[.int .i64 0] 32)).alloc (.cells #[.pointer (some ⟨b, 0, none⟩)] 30)).alloc (.cells #[.slice none 0 0] 24)
    simpa only [World.size_alloc] using h
  have b2 : Boxed W0 (w.heap.size + 2) 32 (.int .i64 0) := by
    rw [← hW0]
    have h := ((Boxed.new ((w.alloc (.cells #[.slice none 0 0] 48)).alloc (.cells #[.int .i64 0] 3)) 32 (.int .i64 0)).alloc (.cells #[.pointer (some ⟨b, 0, none⟩)] 30)).alloc (.cells #[.slice none 0 0] 24)
    simpa only [World.size_alloc] using h
  have bq : Boxed W0 (w.heap.size + 3) 30 (.pointer (some ⟨b, 0, none⟩)) := by
    rw [← hW0]
    have h := (Boxed.new (((w.alloc (.cells #[.slice none 0 0] 48)).alloc (.cells #[.int .i64 0] 3)).alloc (.cells #[.int .i64 0] 32)) 30 (.pointer (some ⟨b, 0, none⟩))).alloc (.cells #[.slice none 0 0] 24)
    simpa only [World.size_alloc] using h
  have bp : Boxed W0 (w.heap.size + 4) 24 (.slice none 0 0) := by
    rw [← hW0]
    have h := Boxed.new ((((w.alloc (.cells #[.slice none 0 0] 48)).alloc (.cells #[.int .i64 0] 3)).alloc (.cells #[.int .i64 0] 32)).alloc (.cells #[.pointer (some ⟨b, 0, none⟩)] 30)) 24 (.slice none 0 0)
    simpa only [World.size_alloc] using h
  rw [hW0]
  clear hW0
  have hT0 : Ts W0.heap.size b (w.heap.size + 4) (w.heap.size + 3) (.slice none 0 0) [] W0 := ⟨⟨Nat.le_refl _, by omega, by omega, by omega, by omega, by omega⟩, HT.out.below bel, Tlv.BySlS.none _ _, bp.cell, bq.cell⟩
  have hno : ∀ k vs U, ¬ Vs W0.heap.size b [] k vs U := by
    rintro k vs U ⟨x, a, c, h, _⟩
    rw [tl_end (by simp)] at h
    simp at h
  refine over_func (gf := 55) (lb := #[.pointer (some ⟨w.heap.size + 4, 0, none⟩), .pointer (some ⟨w.heap.size + 3, 0, none⟩)]) rfl (enters_of Try.func55 (by kernel_rfl) rfl)
    (tells_frames 2 W0.heap.size b (w.heap.size + 4) (w.heap.size + 3) (.slice none 0 0) []) (fun k vs U h => absurd h (hno k vs U)) (by omega) (fun U W h k => h.below k) hT0
    (fun _ W => Boxed W w.heap.size 48 (.slice none 0 0) ∧ Boxed W (w.heap.size + 1) 3 (.int .i64 0) ∧ Boxed W (w.heap.size + 2) 32 (.int .i64 0) ∧ Kept b w W) (fun _ _ _ => False)
    ?ik ?ii (fun _ _ _ _ h _ => h) ?i0 (fun _ W => W) (fun _ W => Below.refl _ W) (fun k vs U h => h) (fun k vs U h _ => absurd h (hno k vs U)) (fun _ _ _ => { tmps := #[], defers := [] }) (fun k vs U W h _ => absurd h (hno k vs U)) ?assign ?body ?done ?stop
  case ik =>
    rintro k U W ⟨h0, h1, h2, h3⟩ _ hk
    have hz := h3.size
    have lt : ∀ g, g < w.heap.size + 3 → w.heap.size ≤ g → (∃ ty v, Boxed U g ty v) → W.heap[g]? = U.heap[g]? := fun g h1 h2 ⟨ty, v, hb'⟩ => hk.block g (Array.getElem?_eq_some_iff.1 hb').1 (by omega)
    exact ⟨(lt _ (by omega) (by omega) ⟨_, _, h0⟩).trans h0, (lt _ (by omega) (by omega) ⟨_, _, h1⟩).trans h1, (lt _ (by omega) (by omega) ⟨_, _, h2⟩).trans h2, h3.trans hk⟩
  case ii =>
    rintro k U W ⟨h0, h1, h2, h3⟩ hp
    exact ⟨hp.block h0, hp.block h1, hp.block h2, Kept.then h3 (hp.below.mono (by omega))⟩
  case i0 =>
    intro W hB _
    exact ⟨(hB.block _ (by omega)).trans b0, (hB.block _ (by omega)).trans b1, (hB.block _ (by omega)).trans b2, Kept.then (Kept.below bel) (hB.mono (by omega))⟩
  case assign => exact fun l k vs W K _ h _ => absurd h (hno k vs W)
  case body => exact fun l k vs U W _ h _ _ _ _ _ => absurd h (hno k vs W)
  case stop => exact fun D c k W _ _ h _ => h.elim
  case done =>
    rintro D W hD ⟨h0, h1, h2, h3⟩ hT hd
    have c0 := h0.cell
    have c1 := h1.cell
    have c2 := h2.cell
    have f0 := h0.frozen
    have f1 := h1.frozen
    have f2 := h2.frozen
    change W.cell? ⟨w.heap.size + 1 + 1, 0, none⟩ = _ at c2
    change W.frozen? ⟨w.heap.size + 1 + 1, 0, none⟩ = _ at f2
    gi_wp2_with fail
    refine wpIn_wide.2 ?_
    go_region
    gi_wp2_with fail
    obtain ⟨F, hF⟩ : ∃ F, (((W.setCell ⟨w.heap.size, 0, none⟩ (.slice none 0 0)).setCell ⟨w.heap.size + 1, 0, none⟩ (.int .i64 0)).setCell ⟨w.heap.size + 1 + 1, 0, none⟩ (.int .i64 0)).drew = F := ⟨_, rfl⟩
    rw [hF]
    obtain ⟨g0, g1, g2, gd, gk, gs⟩ := scan_set (v0 := .slice none 0 0) (v1 := .int .i64 0) (v2 := .int .i64 0) h0 h1 h2 hd (by omega) hF
    refine ⟨by simp, .inl ⟨_, _, rfl, run_takeDeferred gd, ?_⟩⟩
    have hpb := put_below (B := w.heap.size + 3) F (.deferred none) (l := D) (by omega) (by rw [gs]; exact (Array.getElem?_eq_some_iff.1 hd).1)
    have e0 := (hpb.cell (p := ⟨w.heap.size, 0, none⟩) (by simp)).trans g0.cell
    have e1 := (hpb.cell (p := ⟨w.heap.size + 1, 0, none⟩) (by simp)).trans g1.cell
    have e2 := (hpb.cell (p := ⟨w.heap.size + 1 + 1, 0, none⟩) (by simp)).trans g2.cell
    refine ⟨.tuple #[.slice none 0 0, .int .i64 0, .int .i64 0], by simp [results, Try.results21, go_sem, e0, e1, e2], rfl, Kept.then h3 (gk.trans (hpb.mono (by omega))), ?_⟩
    exact tabX_below hT.2.1 (gk.trans (hpb.mono (by omega))) hb
end Go.Proofs.Ythbhdbjjobfchaa
