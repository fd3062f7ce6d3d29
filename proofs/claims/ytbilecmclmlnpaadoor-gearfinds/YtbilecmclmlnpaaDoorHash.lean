/-
  Hash and Find of a gear, and of none.
-/
import Derived.Test.YtbilecmclmlnpaaDoorTells
import Derived.RangeFuncBox
namespace Go.Proofs.YtbilecmclmlnpaaDoor
open Go.RowKit Go.Shelf
attribute [local go_sem] Oper.semAt_some

theorem boxed_to {B b z : Nat} {U V : World} {t : TypeId} {v : Value} (h : Boxed U z t v) (k : KeptTo B b U V) (h1 : z < B) (h2 : z ≠ b) : Boxed V z t v := (k.block z h1 h2).trans h
theorem Kept.then {b : Nat} {w W V : World} (h : Kept b w W) (k : Below w.heap.size W V) : Kept b w V :=
  ⟨k.os.trans h.os, k.tape.trans h.tape, k.output.trans h.output, Nat.le_trans h.size k.size, fun i hi hb => (k.block i hi).trans (h.block i hi hb)⟩
theorem shut {D n : Nat} {W : World} (hd : W.heap[D]? = some (.deferred (some []))) (hD : n ≤ D) (o : Obj) : Below n W (W.putObj D o) := put_below W o hD (Array.getElem?_eq_some_iff.1 hd).1

set_option maxHeartbeats 1000000 in
/-- Hash. -/
theorem hash13_any (b s : Nat) (v : Value) (bs : List Nat) (w : World) (hg : GrX w b s) (hv : BySl b w v bs) :
    Calls Tryd.prog 13 #[.pointer (some ⟨b, 0, none⟩), v] w fun e w' => e = .returned (.int .u64 (hashOf s bs : Nat)) ∧ Kept b w w' ∧ GrX w' b s := by
  obtain ⟨a, cap, rfl, hr⟩ := id hv
  clear hr
  have H := hid hv
  have T := hid hg
  clear hv hg
  refine (callsIn_wide (n := 3)).1 ?_
  refine callsIn_of_wp_marks Tryd.func13 rfl trivial ?_ rfl
  simp only [Tryd.ntmps13, List.size_toArray, List.length_cons, List.length_nil, Nat.reduceAdd, Nat.reduceSub, Array.replicate_succ, Array.replicate_zero, List.push_toArray, List.append_toArray, List.nil_append, List.cons_append]
  gi_wp2_with fail
  refine ⟨trivial, (callsIn_wide.2 (hashes_any _ _ _ _ _)).mono ?_⟩
  rintro e w' ⟨rfl, rfl⟩
  gi_wp2_with fail
  have bz := ((Boxed.new w 22 (.int .u64 0)).alloc (.cells #[.pointer (some ⟨b, 0, none⟩)] 25)).alloc (.cells #[.slice a bs.length cap] 23)
  have bp := (Boxed.new (w.alloc (.cells #[.int .u64 0] 22)) 25 (.pointer (some ⟨b, 0, none⟩))).alloc (.cells #[.slice a bs.length cap] 23)
  have bq := Boxed.new ((w.alloc (.cells #[.int .u64 0] 22)).alloc (.cells #[.pointer (some ⟨b, 0, none⟩)] 25)) 23 (.slice a bs.length cap)
  have bel : Below w.heap.size w (((w.alloc (.cells #[.int .u64 0] 22)).alloc (.cells #[.pointer (some ⟨b, 0, none⟩)] 25)).alloc (.cells #[.slice a bs.length cap] 23)) := (((Below.refl _ w).alloc (Nat.le_refl _) _).alloc (by simp) _).alloc (by simp; omega) _
  have hsz : (((w.alloc (.cells #[.int .u64 0] 22)).alloc (.cells #[.pointer (some ⟨b, 0, none⟩)] 25)).alloc (.cells #[.slice a bs.length cap] 23)).heap.size = w.heap.size + 3 := by simp
  simp only [World.size_alloc] at bp bq
  generalize ((w.alloc (.cells #[.int .u64 0] 22)).alloc (.cells #[.pointer (some ⟨b, 0, none⟩)] 25)).alloc (.cells #[.slice a bs.length cap] 23) = W0 at *
  have hb := T.out.lt
  have hT0 : Tw w.heap.size b s (w.heap.size + 1) (w.heap.size + 1 + 1) (.slice a bs.length cap) bs W0 := ⟨⟨bel.size, hb, by omega, by omega⟩, T.out.below bel hb, H.out.to.kept (.of_below bel), bp.cell, bq.cell⟩
  refine over_func (gf := 29) (lb := #[.pointer (some ⟨w.heap.size + 1, 0, none⟩), .pointer (some ⟨w.heap.size + 1 + 1, 0, none⟩)]) rfl (enters_of Tryd.func29 (by kernel_rfl) rfl)
    (tells_any 2 w.heap.size b s (w.heap.size + 1) (w.heap.size + 1 + 1) (.slice a bs.length cap) bs) (fun _ => rfl) (by omega) (fun U V h k => h.below k (by omega) (by omega) (by omega)) hT0
    (fun k W => Boxed W w.heap.size 22 (.int .u64 (hashOf s (bs.take k) : Nat)) ∧ Kept b w W) (fun _ _ _ => False)
    (fun k U V h kk => ⟨boxed_to h.1 kk (by omega) (by omega), KeptTo.since h.2 kk (by omega)⟩) (fun _ _ _ _ h _ => h)
    ⟨by rw [List.take_zero, hashOf, hashFrom_nil]; exact bz, Kept.below bel⟩
    (fun k => { tmps := #[.pointer (some ⟨b, 0, none⟩), .slice a bs.length cap, undef, undef, .int .u64 0, .pointer (some ⟨w.heap.size, 0, none⟩), undef, .int .u64 (hashOf s (bs.take (k + 1)) : Nat), .pointer (some ⟨b, 0, none⟩), .slice a bs.length cap, .func (.func 29) #[] #[.pointer (some ⟨w.heap.size + 1, 0, none⟩), .pointer (some ⟨w.heap.size + 1 + 1, 0, none⟩)], .int .i64 k, .int .u64 (hashOf s (bs.take (k + 1)) : Nat), undef, undef], defers := [] }) ?assign ?body ?done ?stop
  case assign =>
    intro l k W K _ hK
    rw [told]
    generalize hashOf s (bs.take (k + 1)) = x at *
    gi_wp2
    exact hK
  case body =>
    rintro l k W hk ⟨hz, hK⟩ hT
    have hc := hz.cell
    have hf := hz.frozen
    generalize hx : hashOf s (bs.take (k + 1)) = x at *
    have HX := hid hx
    clear hx
    gi_wp2
    exact ⟨(KeepsOthers.setCell _ _ _).from _, ⟨by rw [HX.out]; exact hz.set _, hK.then ((Below.refl _ _).setCell (p := ⟨w.heap.size, 0, none⟩) (Nat.le_refl _) _)⟩, hT.set _ _ (Nat.le_refl _) (by omega) (by omega)⟩
  case done =>
    rintro D W hD ⟨hz, hK⟩ hT hd
    have hc := hz.cell
    gi_wp2
    refine ⟨by simp, .inl ⟨_, _, rfl, run_takeDeferred hd, ?_⟩⟩
    exact ⟨_, results_tmp rfl _ _ _, rfl, hK.then (shut hd (by omega) _), hT.2.1.below (shut hd (n := w.heap.size) (by omega) _) hb⟩
  case stop =>
    rintro D c k W _ _ h _
    exact h.elim

set_option maxHeartbeats 1000000 in
/-- .. of no gear. -/
theorem hash13_nil (a : Option Addr) (len cap : Nat) (w : World) :
    Calls Tryd.prog 13 #[.pointer none, .slice a len cap] w fun e w' => e = .returned (.int .u64 0) ∧ Below w.heap.size w w' := by
  refine (callsIn_wide (n := 3)).1 ?_
  refine callsIn_of_wp_marks Tryd.func13 rfl trivial ?_ rfl
  simp only [Tryd.ntmps13, List.size_toArray, List.length_cons, List.length_nil, Nat.reduceAdd, Nat.reduceSub, Array.replicate_succ, Array.replicate_zero, List.push_toArray, List.append_toArray, List.nil_append, List.cons_append]
  gi_wp2_with fail
  refine ⟨trivial, (callsIn_wide.2 (hashes_any _ _ _ _ _)).mono ?_⟩
  rintro e w' ⟨rfl, rfl⟩
  gi_wp2_with fail
  have bz := ((Boxed.new w 22 (.int .u64 0)).alloc (.cells #[.pointer none] 25)).alloc (.cells #[.slice a len cap] 23)
  have bp := (Boxed.new (w.alloc (.cells #[.int .u64 0] 22)) 25 (.pointer none)).alloc (.cells #[.slice a len cap] 23)
  have bel : Below w.heap.size w (((w.alloc (.cells #[.int .u64 0] 22)).alloc (.cells #[.pointer none] 25)).alloc (.cells #[.slice a len cap] 23)) := (((Below.refl _ w).alloc (Nat.le_refl _) _).alloc (by simp) _).alloc (by simp; omega) _
  have hsz : (((w.alloc (.cells #[.int .u64 0] 22)).alloc (.cells #[.pointer none] 25)).alloc (.cells #[.slice a len cap] 23)).heap.size = w.heap.size + 3 := by simp
  simp only [World.size_alloc] at bp
  generalize ((w.alloc (.cells #[.int .u64 0] 22)).alloc (.cells #[.pointer none] 25)).alloc (.cells #[.slice a len cap] 23) = W0 at *
  refine over_func (gf := 29) (lb := #[.pointer (some ⟨w.heap.size + 1, 0, none⟩), .pointer (some ⟨w.heap.size + 1 + 1, 0, none⟩)]) rfl (enters_of Tryd.func29 (by kernel_rfl) rfl)
    (tells_nil 2 (w.heap.size + 2) (w.heap.size + 1) _ (fun _ => #[undef, undef])) (fun _ => rfl) (by omega) (fun U V h k => (k.cell (p := ⟨w.heap.size + 1, 0, none⟩) (by simp; omega)).trans h) bp.cell
    (fun _ W => Boxed W w.heap.size 22 (.int .u64 0) ∧ Below w.heap.size w W) (fun _ _ _ => False)
    (fun k U V h kk => ⟨boxed_to h.1 kk (by omega) (by omega), h.2.trans ⟨kk.os, kk.tape, kk.output, kk.size, fun i hi => kk.block i (by omega) (by omega)⟩⟩) (fun _ _ _ _ h _ => h)
    ⟨bz, bel⟩
    (fun _ => { tmps := #[.pointer none, .slice a len cap, undef, undef, .int .u64 0, .pointer (some ⟨w.heap.size, 0, none⟩), undef, undef, .pointer none, .slice a len cap, .func (.func 29) #[] #[.pointer (some ⟨w.heap.size + 1, 0, none⟩), .pointer (some ⟨w.heap.size + 1 + 1, 0, none⟩)], undef, undef, undef, undef], defers := [] }) ?assign ?body ?done ?stop
  case assign =>
    intro l k W K _ hK
    gi_wp2
    exact hK
  case body =>
    rintro l k W hk
    exact absurd hk (by omega)
  case done =>
    rintro D W hD ⟨hz, hB⟩ _ hd
    have hc := hz.cell
    gi_wp2
    refine ⟨by simp, .inl ⟨_, _, rfl, run_takeDeferred hd, ?_⟩⟩
    exact ⟨_, results_tmp rfl _ _ _, rfl, hB.trans (shut hd (by omega) _)⟩
  case stop =>
    rintro D c k W _ _ h _
    exact h.elim

set_option maxHeartbeats 1000000 in
/-- Find. -/
theorem find15_any (b s m : Nat) (hm : m < M64) (v : Value) (bs : List Nat) (w : World) (hg : GrX w b s) (hv : BySl b w v bs) :
    Calls Tryd.prog 15 #[.pointer (some ⟨b, 0, none⟩), v, .int .u64 m] w fun e w' => (∃ z, e = .returned (.int .i64 z) ∧ Found s m bs z) ∧ Kept b w w' ∧ GrX w' b s := by
  obtain ⟨a, cap, rfl, hr⟩ := id hv
  clear hr
  have H := hid hv
  have T := hid hg
  clear hv hg
  refine (callsIn_wide (n := 3)).1 ?_
  refine callsIn_of_wp_marks Tryd.func15 rfl trivial ?_ rfl
  simp only [Tryd.ntmps15, List.size_toArray, List.length_cons, List.length_nil, Nat.reduceAdd, Nat.reduceSub, Array.replicate_succ, Array.replicate_zero, List.push_toArray, List.append_toArray, List.nil_append, List.cons_append]
  gi_wp2_with fail
  refine ⟨trivial, (callsIn_wide.2 (hashes_any _ _ _ _ _)).mono ?_⟩
  rintro e w' ⟨rfl, rfl⟩
  gi_wp2_with fail
  have bm := (((Boxed.new w 22 (.int .u64 m)).alloc (.cells #[.int .i64 0] 3)).alloc (.cells #[.pointer (some ⟨b, 0, none⟩)] 25)).alloc (.cells #[.slice a bs.length cap] 23)
  have bz := ((Boxed.new (w.alloc (.cells #[.int .u64 m] 22)) 3 (.int .i64 0)).alloc (.cells #[.pointer (some ⟨b, 0, none⟩)] 25)).alloc (.cells #[.slice a bs.length cap] 23)
  have bp := (Boxed.new ((w.alloc (.cells #[.int .u64 m] 22)).alloc (.cells #[.int .i64 0] 3)) 25 (.pointer (some ⟨b, 0, none⟩))).alloc (.cells #[.slice a bs.length cap] 23)
  have bq := Boxed.new (((w.alloc (.cells #[.int .u64 m] 22)).alloc (.cells #[.int .i64 0] 3)).alloc (.cells #[.pointer (some ⟨b, 0, none⟩)] 25)) 23 (.slice a bs.length cap)
  have bel : Below w.heap.size w ((((w.alloc (.cells #[.int .u64 m] 22)).alloc (.cells #[.int .i64 0] 3)).alloc (.cells #[.pointer (some ⟨b, 0, none⟩)] 25)).alloc (.cells #[.slice a bs.length cap] 23)) := ((((Below.refl _ w).alloc (Nat.le_refl _) _).alloc (by simp) _).alloc (by simp; omega) _).alloc (by simp; omega) _
  have hsz : ((((w.alloc (.cells #[.int .u64 m] 22)).alloc (.cells #[.int .i64 0] 3)).alloc (.cells #[.pointer (some ⟨b, 0, none⟩)] 25)).alloc (.cells #[.slice a bs.length cap] 23)).heap.size = w.heap.size + 4 := by simp
  simp only [World.size_alloc] at bz bp bq
  generalize (((w.alloc (.cells #[.int .u64 m] 22)).alloc (.cells #[.int .i64 0] 3)).alloc (.cells #[.pointer (some ⟨b, 0, none⟩)] 25)).alloc (.cells #[.slice a bs.length cap] 23) = W0 at *
  have hb := T.out.lt
  have hT0 : Tw w.heap.size b s (w.heap.size + 1 + 1) (w.heap.size + 1 + 1 + 1) (.slice a bs.length cap) bs W0 := ⟨⟨bel.size, hb, by omega, by omega⟩, T.out.below bel hb, H.out.to.kept (.of_below bel), bp.cell, bq.cell⟩
  refine over_func (gf := 29) (lb := #[.pointer (some ⟨w.heap.size + 1 + 1, 0, none⟩), .pointer (some ⟨w.heap.size + 1 + 1 + 1, 0, none⟩)]) rfl (enters_of Tryd.func29 (by kernel_rfl) rfl)
    (tells_any 2 w.heap.size b s (w.heap.size + 1 + 1) (w.heap.size + 1 + 1 + 1) (.slice a bs.length cap) bs) (fun _ => rfl) (by omega) (fun U V h k => h.below k (by omega) (by omega) (by omega)) hT0
    (fun k W => NoneTo s m bs k ∧ Boxed W w.heap.size 22 (.int .u64 m) ∧ Boxed W (w.heap.size + 1) 3 (.int .i64 0) ∧ Kept b w W)
    (fun c k W => c = .ret ∧ (∃ j : Nat, j < bs.length ∧ NoneTo s m bs j ∧ hashOf s (bs.take (j + 1)) &&& m = 0 ∧ Boxed W (w.heap.size + 1) 3 (.int .i64 j)) ∧ Kept b w W ∧ GrX W b s)
    (fun k U V h kk => ⟨h.1, boxed_to h.2.1 kk (by omega) (by omega), boxed_to h.2.2.1 kk (by omega) (by omega), KeptTo.since h.2.2.2 kk (by omega)⟩)
    (fun c k U V h kk => ⟨h.1, by obtain ⟨j, h1, h2, h3, h4⟩ := h.2.1; exact ⟨j, h1, h2, h3, (kk.block _ (by omega)).trans h4⟩, h.2.2.1.then (kk.mono (by omega)), h.2.2.2.below kk (by omega)⟩)
    ⟨fun j hj => absurd hj (by omega), bm, bz, Kept.below bel⟩
    (fun k => { tmps := #[.pointer (some ⟨b, 0, none⟩), .slice a bs.length cap, .int .u64 m, undef, undef, .pointer (some ⟨w.heap.size, 0, none⟩), .pointer (some ⟨w.heap.size + 1, 0, none⟩), .int .i64 k, .int .u64 (hashOf s (bs.take (k + 1)) : Nat), .pointer (some ⟨b, 0, none⟩), .slice a bs.length cap, .func (.func 29) #[] #[.pointer (some ⟨w.heap.size + 1 + 1, 0, none⟩), .pointer (some ⟨w.heap.size + 1 + 1 + 1, 0, none⟩)], .int .i64 k, .int .u64 (hashOf s (bs.take (k + 1)) : Nat), undef, undef, undef, undef, undef], defers := [] }) ?assign ?body ?done ?stop
  case assign =>
    intro l k W K _ hK
    rw [told]
    generalize hashOf s (bs.take (k + 1)) = x at *
    gi_wp2
    exact hK
  case body =>
    rintro l k W hk ⟨hN, hbm, hz, hK⟩ hT
    have hc := hz.cell
    have hf := hz.frozen
    have hcm := hbm.cell
    have hl := hashOf_lt s (bs.take (k + 1))
    have HN := hid hN
    clear hN
    generalize hx : hashOf s (bs.take (k + 1)) = x at *
    have HX := hid hx
    clear hx
    have ha := and_i x m hl hm
    by_cases hy : x &&& m = 0
    · have HY := hid hy
      have hy' : (((x &&& m : Nat) : Int) == 0) = true := by rw [hy]; rfl
      clear hy
      gi_wp2
      exact ⟨(KeepsOthers.setCell _ _ _).from _, rfl, ⟨k, hk, HN.out, by rw [HX.out]; exact HY.out, hz.set _⟩, hK.then ((Below.refl _ _).setCell (p := ⟨w.heap.size + 1, 0, none⟩) (by simp) _), (hT.set (w.heap.size + 1) _ (by omega) (by omega) (by omega)).2.1⟩
    · have HY := hid hy
      have hy' : (((x &&& m : Nat) : Int) == 0) = false := by simp; omega
      clear hy
      gi_wp2
      exact ⟨KeepsFrom.refl _ _, ⟨HN.out.next (by rw [HX.out]; exact HY.out), hbm, hz, hK⟩, hT⟩
  case done =>
    rintro D W hD ⟨hN, hbm, hz, hK⟩ hT hd
    have hc := hz.cell
    have hf := hz.frozen
    gi_wp2
    have hd' := (KeepsOthers.setCell W ⟨w.heap.size + 1, 0, none⟩ (.int .i64 (-1))).same D _ hd rfl
    have hz' := (hz.set (.int .i64 (-1)))
    have hc5 := ((shut hd' (n := w.heap.size + 2) (by omega) (.deferred none)).cell (p := ⟨w.heap.size + 1, 0, none⟩) (by simp)).trans hz'.cell
    refine ⟨by simp, .inl ⟨_, _, rfl, run_takeDeferred hd', ?_⟩⟩
    refine ⟨.int .i64 (-1), by simp [results, Tryd.f15, go_sem, hc5], ⟨_, rfl, .inl ⟨rfl, hN⟩⟩, (hK.then ((Below.refl _ _).setCell (p := ⟨w.heap.size + 1, 0, none⟩) (by simp) _)).then (shut hd' (by omega) _), (hT.set (w.heap.size + 1) _ (by omega) (by omega) (by omega)).2.1.below (shut hd' (n := w.heap.size) (by omega) _) hb⟩
  case stop =>
    rintro D c k W hD hk ⟨rfl, ⟨j, hj, hN, h0, hz⟩, hK, hG⟩ hd
    gi_wp2
    have hc5 := ((shut hd (n := w.heap.size + 2) (by omega) (.deferred none)).cell (p := ⟨w.heap.size + 1, 0, none⟩) (by simp)).trans hz.cell
    refine ⟨by simp, .inl ⟨_, _, rfl, run_takeDeferred hd, ?_⟩⟩
    exact ⟨.int .i64 j, by simp [results, Tryd.f15, go_sem, hc5], ⟨_, rfl, .inr ⟨j, rfl, hj, hN, h0⟩⟩, hK.then (shut hd (by omega) _), hG.below (shut hd (n := w.heap.size) (by omega) _) hb⟩

set_option maxHeartbeats 1000000 in
/-- .. of no gear. -/
theorem find15_nil (a : Option Addr) (len cap m : Nat) (w : World) :
    Calls Tryd.prog 15 #[.pointer none, .slice a len cap, .int .u64 m] w fun e w' => e = .returned (.int .i64 (-1)) ∧ Below w.heap.size w w' := by
  refine (callsIn_wide (n := 3)).1 ?_
  refine callsIn_of_wp_marks Tryd.func15 rfl trivial ?_ rfl
  simp only [Tryd.ntmps15, List.size_toArray, List.length_cons, List.length_nil, Nat.reduceAdd, Nat.reduceSub, Array.replicate_succ, Array.replicate_zero, List.push_toArray, List.append_toArray, List.nil_append, List.cons_append]
  gi_wp2_with fail
  refine ⟨trivial, (callsIn_wide.2 (hashes_any _ _ _ _ _)).mono ?_⟩
  rintro e w' ⟨rfl, rfl⟩
  gi_wp2_with fail
  have bz := ((Boxed.new (w.alloc (.cells #[.int .u64 m] 22)) 3 (.int .i64 0)).alloc (.cells #[.pointer none] 25)).alloc (.cells #[.slice a len cap] 23)
  have bp := (Boxed.new ((w.alloc (.cells #[.int .u64 m] 22)).alloc (.cells #[.int .i64 0] 3)) 25 (.pointer none)).alloc (.cells #[.slice a len cap] 23)
  have bel : Below w.heap.size w ((((w.alloc (.cells #[.int .u64 m] 22)).alloc (.cells #[.int .i64 0] 3)).alloc (.cells #[.pointer none] 25)).alloc (.cells #[.slice a len cap] 23)) := ((((Below.refl _ w).alloc (Nat.le_refl _) _).alloc (by simp) _).alloc (by simp; omega) _).alloc (by simp; omega) _
  have hsz : ((((w.alloc (.cells #[.int .u64 m] 22)).alloc (.cells #[.int .i64 0] 3)).alloc (.cells #[.pointer none] 25)).alloc (.cells #[.slice a len cap] 23)).heap.size = w.heap.size + 4 := by simp
  simp only [World.size_alloc] at bz bp
  generalize (((w.alloc (.cells #[.int .u64 m] 22)).alloc (.cells #[.int .i64 0] 3)).alloc (.cells #[.pointer none] 25)).alloc (.cells #[.slice a len cap] 23) = W0 at *
  refine over_func (gf := 29) (lb := #[.pointer (some ⟨w.heap.size + 1 + 1, 0, none⟩), .pointer (some ⟨w.heap.size + 1 + 1 + 1, 0, none⟩)]) rfl (enters_of Tryd.func29 (by kernel_rfl) rfl)
    (tells_nil 2 (w.heap.size + 3) (w.heap.size + 1 + 1) _ (fun _ => #[undef, undef])) (fun _ => rfl) (by omega) (fun U V h k => (k.cell (p := ⟨w.heap.size + 1 + 1, 0, none⟩) (by simp; omega)).trans h) bp.cell
    (fun _ W => Boxed W (w.heap.size + 1) 3 (.int .i64 0) ∧ Below w.heap.size w W) (fun _ _ _ => False)
    (fun k U V h kk => ⟨boxed_to h.1 kk (by omega) (by omega), h.2.trans ⟨kk.os, kk.tape, kk.output, kk.size, fun i hi => kk.block i (by omega) (by omega)⟩⟩) (fun _ _ _ _ h _ => h)
    ⟨bz, bel⟩
    (fun _ => { tmps := #[.pointer none, .slice a len cap, .int .u64 m, undef, undef, .pointer (some ⟨w.heap.size, 0, none⟩), .pointer (some ⟨w.heap.size + 1, 0, none⟩), undef, undef, .pointer none, .slice a len cap, .func (.func 29) #[] #[.pointer (some ⟨w.heap.size + 1 + 1, 0, none⟩), .pointer (some ⟨w.heap.size + 1 + 1 + 1, 0, none⟩)], undef, undef, undef, undef, undef, undef, undef], defers := [] }) ?assign ?body ?done ?stop
  case assign =>
    intro l k W K _ hK
    gi_wp2
    exact hK
  case body =>
    rintro l k W hk
    exact absurd hk (by omega)
  case done =>
    rintro D W hD ⟨hz, hB⟩ _ hd
    have hc := hz.cell
    have hf := hz.frozen
    gi_wp2
    have hd' := (KeepsOthers.setCell W ⟨w.heap.size + 1, 0, none⟩ (.int .i64 (-1))).same D _ hd rfl
    have hz' := (hz.set (.int .i64 (-1)))
    have hc5 := ((shut hd' (n := w.heap.size + 2) (by omega) (.deferred none)).cell (p := ⟨w.heap.size + 1, 0, none⟩) (by simp)).trans hz'.cell
    refine ⟨by simp, .inl ⟨_, _, rfl, run_takeDeferred hd', ?_⟩⟩
    exact ⟨.int .i64 (-1), by simp [results, Tryd.f15, go_sem, hc5], rfl, (hB.setCell (p := ⟨w.heap.size + 1, 0, none⟩) (by simp) _).trans (shut hd' (by omega) _)⟩
  case stop =>
    rintro D c k W _ _ h _
    exact h.elim

end Go.Proofs.YtbilecmclmlnpaaDoor
