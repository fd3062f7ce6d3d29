/-
  Find.
-/
import Derived.Test.YtdooiflmjeibdaaDoorTrFind2
namespace Go.Proofs.YtdooiflmjeibdaaDoor.Tr
open Go.RowKit

abbrev zeroC : List Value := [.string ⟨#[]⟩, .bool false, .slice none 0 0]
theorem find_box (w : World) (p : ByteArray) (t1 t2 : TypeId) : ∀ V, Kp No ((w.alloc (.cells #[.string p] t1)).alloc (.cells #[.string ⟨#[]⟩, .bool false, .slice none 0 0] t2)) V →
    V.cell? ⟨w.heap.size, 0, none⟩ = some (.string p) ∧ Blk V (w.heap.size + 1) t2 zeroC := fun V k => by
  have h1 : Blk (w.alloc (.cells #[.string p] t1)) w.heap.size t1 [.string p] := Blk.new w t1 [.string p]
  have h2 := h1.kp (((Kp.refl No _).alloc _).andNone k) (fun h => h)
  have h3 : Blk ((w.alloc (.cells #[.string p] t1)).alloc (.cells #[.string ⟨#[]⟩, .bool false, .slice none 0 0] t2)) (w.alloc (.cells #[.string p] t1)).heap.size t2 zeroC := Blk.new _ t2 zeroC
  have h4 := h3.kp k (fun h => h)
  refine ⟨h2.cell 0, ?_⟩
  simpa using h4
theorem rets2 (b : Nat) (V : World) (t : TypeId) (x y z : Value) (h : Blk V b t [x, y, z]) : V.cell? ⟨b, 0, none⟩ = some x ∧ V.cell? ⟨b, 1, none⟩ = some y ∧ V.cell? ⟨b, 2, none⟩ = some z := ⟨h.cell 0, h.cell 1, h.cell 2⟩


set_option maxHeartbeats 4000000 in
theorem find_no_r (w : World) (v : Value) (t : List It) (p : ByteArray) (h : IRow Any w v t) (hl : t.length ≤ 100000) (hn : look t p = none) (hr : risesB t = true) :
    Calls Tryd.prog 8 #[v, .string p] w fun e w' => e = .returned (.tuple #[.agg #[.string ⟨#[]⟩, .bool false, .slice none 0 0], .bool false]) ∧ Kp No w w' := by
  have HA := hid (fun (V : World) (k : Kp No w V) => at_no V v t p (h.kept k) hl hr hn)
  have HRS := hid (fun (V : World) (k : Kp No w V) => rises_any V v t (h.kept k) hl)
  have HB0 := hid (find_box w p 9 33)
  have HK0 : Hid (Kp No w ((w.alloc (.cells #[.string p] 9)).alloc (.cells #[.string ⟨#[]⟩, .bool false, .slice none 0 0] 33))) := ((Kp.refl No w).alloc _).alloc _
  obtain ⟨a, cap, rfl, _⟩ := h.form
  obtain ⟨n, hN⟩ : ∃ n, t.length = n := ⟨_, rfl⟩
  have HNN := hid hN
  simp only [hr] at HRS
  rw [hN] at hl HA HRS ⊢
  have HNO := hid hn
  clear h hn hr hN
  go_enter Tryd.func8, Tryd.ntmps8
  go_wp2_with (first | (go_at_call 18; refine (HA.out _ HK0.out).mono ?_; rintro e w1 ⟨i, rfl, _, hk⟩; have HK1 := hid (HK0.out.andNone hk); have HB1 := hid (HB0.out _ hk); have d1 := HB1.out.1; have HJ1 := hid hk; clear hk) | (go_at_call 20; refine (HRS.out _ HK1.out).mono ?_; rintro e w2 ⟨rfl, hk⟩; have HK2 := hid (HK1.out.andNone hk); have HB2 := hid (HB0.out _ (HJ1.out.andNone hk)); have HJ2 := hid (HJ1.out.andNone hk); obtain ⟨q0, q1, q2⟩ := rets2 _ _ _ _ _ _ HB2.out.2; have f0 := HB2.out.2.frozen 0; have f1 := HB2.out.2.frozen 1; have f2 := HB2.out.2.frozen 2; have z0 := HB2.out.1; clear hk))
  have HW := hid ((((HB2.out.2).setCell 0 (.string ⟨#[]⟩)).setCell 1 (.bool false)).setCell 2 (.slice none 0 0))
  have HKW := hid (Kp.set3 w2 (w.heap.size + 1) (.string ⟨#[]⟩) (.bool false) (.slice none 0 0))
  generalize (((w2.setCell ⟨w.heap.size + 1, 0, none⟩ (.string ⟨#[]⟩)).setCell ⟨w.heap.size + 1, 1, none⟩ (.bool false)).setCell ⟨w.heap.size + 1, 2, none⟩ (.slice none 0 0)) = w9 at *
  obtain ⟨y0, y1, y2⟩ := rets2 _ _ _ _ _ _ HW.out
  have HEND : Hid (Kp No w w9) := HK2.out.trans HKW.out (fun b hb => .inr (by omega))
  clear q0 q1 q2 f0 f1 f2
  exact bodyPost_ret (v := .tuple #[.agg #[.string ⟨#[]⟩, .bool false, .slice none 0 0], .bool false]) (by simp [results, Tryd.results8, go_sem, y0, y1, y2]) rfl ⟨rfl, HEND.out⟩

set_option maxHeartbeats 4000000 in
theorem find_no_n (w : World) (v : Value) (t : List It) (p : ByteArray) (h : IRow Any w v t) (hl : t.length ≤ 100000) (hn : look t p = none) (hr : risesB t = false) :
    Calls Tryd.prog 8 #[v, .string p] w fun e w' => e = .returned (.tuple #[.agg #[.string ⟨#[]⟩, .bool false, .slice none 0 0], .bool false]) ∧ Kp No w w' := by
  have HA := hid (fun (V : World) (k : Kp No w V) => at_any V v t p (h.kept k) hl)
  have HRS := hid (fun (V : World) (k : Kp No w V) => rises_any V v t (h.kept k) hl)
  have HIX := hid (fun (V : World) (k : Kp No w V) (hb : V.cell? ⟨w.heap.size, 0, none⟩ = some (.string p)) => index_find V v t p w.heap.size (h.kept k) hl (fun V' x u k' _ _ => find1_any V' x.1 p x.2.1 u w.heap.size ((k'.cell (p := ⟨w.heap.size, 0, none⟩) (World.block_lt_of_cell? _ _ hb) (fun h => h)).trans hb)))
  have HB0 := hid (find_box w p 9 33)
  have HK0 : Hid (Kp No w ((w.alloc (.cells #[.string p] 9)).alloc (.cells #[.string ⟨#[]⟩, .bool false, .slice none 0 0] 33))) := ((Kp.refl No w).alloc _).alloc _
  obtain ⟨a, cap, rfl, _⟩ := h.form
  obtain ⟨n, hN⟩ : ∃ n, t.length = n := ⟨_, rfl⟩
  have HNN := hid hN
  simp only [hr] at HRS
  rw [hN] at hl HA HRS HIX ⊢
  have HNO := hid hn
  clear h hn hr hN
  go_enter Tryd.func8, Tryd.ntmps8
  go_wp2_with (first | (go_at_call 18; refine (HA.out _ HK0.out).mono ?_; rintro e w1 ⟨⟨i0, b0, rfl, _⟩, hk⟩; have HK1 := hid (HK0.out.andNone hk); have HB1 := hid (HB0.out _ hk); have d1 := HB1.out.1; have HJ1 := hid hk; clear hk) | (go_at_call 20; refine (HRS.out _ HK1.out).mono ?_; rintro e w2 ⟨rfl, hk⟩; have HK2 := hid (HK1.out.andNone hk); have HB2 := hid (HB0.out _ (HJ1.out.andNone hk)); have HJ2 := hid (HJ1.out.andNone hk); obtain ⟨q0, q1, q2⟩ := rets2 _ _ _ _ _ _ HB2.out.2; have f0 := HB2.out.2.frozen 0; have f1 := HB2.out.2.frozen 1; have f2 := HB2.out.2.frozen 2; have z0 := HB2.out.1; clear hk) | (go_at_call 21; refine (HIX.out _ HK2.out HB2.out.1).mono ?_; rintro e w3 ⟨⟨r, rfl, hr⟩, hk⟩; have HK3 := hid (HK2.out.andNone hk); have HB3 := hid (HB0.out _ (HJ2.out.andNone hk)); have HJ3 := hid (HJ2.out.andNone hk); clear q0 q1 q2 f0 f1 f2 z0; obtain ⟨q0, q1, q2⟩ := rets2 _ _ _ _ _ _ HB3.out.2; have f0 := HB3.out.2.frozen 0; have f1 := HB3.out.2.frozen 1; have f2 := HB3.out.2.frozen 2; have hr3 : r = -1 := (by (rcases hr.find with ⟨e, _⟩ | ⟨_, _, _, _, e⟩; exact e; (rw [HNO.out] at e; cases e))); subst hr3; clear hk))
  have HW := hid ((((HB3.out.2).setCell 0 (.string ⟨#[]⟩)).setCell 1 (.bool false)).setCell 2 (.slice none 0 0))
  have HKW := hid (Kp.set3 w3 (w.heap.size + 1) (.string ⟨#[]⟩) (.bool false) (.slice none 0 0))
  generalize (((w3.setCell ⟨w.heap.size + 1, 0, none⟩ (.string ⟨#[]⟩)).setCell ⟨w.heap.size + 1, 1, none⟩ (.bool false)).setCell ⟨w.heap.size + 1, 2, none⟩ (.slice none 0 0)) = w9 at *
  obtain ⟨y0, y1, y2⟩ := rets2 _ _ _ _ _ _ HW.out
  have HEND : Hid (Kp No w w9) := HK3.out.trans HKW.out (fun b hb => .inr (by omega))
  clear q0 q1 q2 f0 f1 f2
  exact bodyPost_ret (v := .tuple #[.agg #[.string ⟨#[]⟩, .bool false, .slice none 0 0], .bool false]) (by simp [results, Tryd.results8, go_sem, y0, y1, y2]) rfl ⟨rfl, HEND.out⟩

set_option maxHeartbeats 4000000 in
theorem find_yes_r (w : World) (v : Value) (t : List It) (p : ByteArray) (x : It) (hx : ShortI x) (h : IRow Any w v t) (hl : t.length ≤ 100000) (hn : look t p = some x) (hr : risesB t = true) :
    Calls Tryd.prog 8 #[v, .string p] w fun e w' => ∃ u, e = .returned (.tuple #[.agg #[.string x.1, .bool x.2.1, u], .bool true]) ∧ ByP Any w' u x.2.2 ∧ Kp No w w' := by
  have HA := hid (fun (V : World) (k : Kp No w V) => at_yes V v t p x (h.kept k) hl hr hn)
  have HRS := hid (fun (V : World) (k : Kp No w V) => rises_any V v t (h.kept k) hl)
  have HB0 := hid (find_box w p 9 33)
  have HK0 : Hid (Kp No w ((w.alloc (.cells #[.string p] 9)).alloc (.cells #[.string ⟨#[]⟩, .bool false, .slice none 0 0] 33))) := ((Kp.refl No w).alloc _).alloc _
  have HL : Hid (x.2.2.length ≤ 20000000) := by have := hx.2; unfold Hid; omega
  obtain ⟨g, o, cap, rfl, hc⟩ := h.cells (by rintro rfl; simp [look] at hn)
  have HC := hid hc
  clear hc hx
  obtain ⟨n, hN⟩ : ∃ n, t.length = n := ⟨_, rfl⟩
  have HNN := hid hN
  simp only [hr] at HRS
  rw [hN] at hl HA HRS ⊢
  have HNO := hid hn
  clear h hn hr hN
  go_enter Tryd.func8, Tryd.ntmps8
  go_wp2_with (first | (go_at_call 18; refine (HA.out _ HK0.out).mono ?_; rintro e w1 ⟨i, rfl, ⟨hi, hxi⟩, hk⟩; have HK1 := hid (HK0.out.andNone hk); have HB1 := hid (HB0.out _ hk); have d1 := HB1.out.1; have HJ1 := hid hk; clear hk) | (go_at_call 20; refine (HRS.out _ HK1.out).mono ?_; rintro e w2 ⟨rfl, hk⟩; have HK2 := hid (HK1.out.andNone hk); have HB2 := hid (HB0.out _ (HJ1.out.andNone hk)); have HJ2 := hid (HJ1.out.andNone hk); obtain ⟨q0, q1, q2⟩ := rets2 _ _ _ _ _ _ HB2.out.2; have f0 := HB2.out.2.frozen 0; have f1 := HB2.out.2.frozen 1; have f2 := HB2.out.2.frozen 2; have z0 := HB2.out.1; have hiI : (i : Int) < (n : Int) := (by omega); have hi0 : (0 : Int) ≤ (i : Int) := (by omega); obtain ⟨u, c0, c1, c2, hu⟩ := HC.out _ HK2.out i x hxi; have HU := hid hu; clear hu; clear hk) | (go_at_call 23; refine (clone_it _ _ _ HU.out HL.out).mono ?_; rintro e w4 ⟨u', rfl, ho, hn, hk⟩; obtain ⟨a4, cp4, hu4, _⟩ := ho.shape; subst hu4; have HO := hid ho; have HN4 := hid hn; have HK4 := hid (HK2.out.andNone hk); have HB4 := hid (HB0.out _ (HJ2.out.andNone hk)); have HJ4 := hid (HJ2.out.andNone hk); clear ho hn hk q0 q1 q2 f0 f1 f2; obtain ⟨q0, q1, q2⟩ := rets2 _ _ _ _ _ _ HB4.out.2; have f0 := HB4.out.2.frozen 0; have f1 := HB4.out.2.frozen 1; have f2 := HB4.out.2.frozen 2))
  have HW := hid ((((HB4.out.2).setCell 0 (.string x.1)).setCell 1 (.bool x.2.1)).setCell 2 (.slice a4 x.2.2.length cp4))
  have HKW := hid (Kp.set3 w4 (w.heap.size + 1) (.string x.1) (.bool x.2.1) (.slice a4 x.2.2.length cp4))
  generalize (((w4.setCell ⟨w.heap.size + 1, 0, none⟩ (.string x.1)).setCell ⟨w.heap.size + 1, 1, none⟩ (.bool x.2.1)).setCell ⟨w.heap.size + 1, 2, none⟩ (.slice a4 x.2.2.length cp4)) = w9 at *
  obtain ⟨y0, y1, y2⟩ := rets2 _ _ _ _ _ _ HW.out
  have HEND : Hid (Kp No w w9) := HK4.out.trans HKW.out (fun b hb => .inr (by omega))
  clear q0 q1 q2 f0 f1 f2
  refine bodyPost_ret (v := .tuple #[.agg #[.string x.1, .bool x.2.1, .slice a4 x.2.2.length cp4], .bool true]) (by simp [results, Tryd.results8, go_sem, y0, y1, y2]) rfl ⟨_, rfl, ?_, HEND.out⟩
  have hp := OwnB.byP (P := fun b => b ≠ w.heap.size + 1) HO.out (fun b hb e => by
    have h1 := HN4.out b hb
    have h2 := HJ2.out.size
    have h3 : (w.alloc (.cells #[.string p] 9)).heap.size < ((w.alloc (.cells #[.string p] 9)).alloc (.cells #[.string ⟨#[]⟩, .bool false, .slice none 0 0] 33)).heap.size := by simp
    have h4 : w.heap.size + 1 = (w.alloc (.cells #[.string p] 9)).heap.size := by simp
    omega) HL.out (by obtain ⟨_, _, _, _, _, _, _, h6, _⟩ := HU.out; exact h6)
  exact ByP.any (hp.kp HKW.out (fun b hb _ e => e hb))

set_option maxHeartbeats 4000000 in
theorem find_yes_n (w : World) (v : Value) (t : List It) (p : ByteArray) (x : It) (hx : ShortI x) (h : IRow Any w v t) (hl : t.length ≤ 100000) (hn : look t p = some x) (hr : risesB t = false) :
    Calls Tryd.prog 8 #[v, .string p] w fun e w' => ∃ u, e = .returned (.tuple #[.agg #[.string x.1, .bool x.2.1, u], .bool true]) ∧ ByP Any w' u x.2.2 ∧ Kp No w w' := by
  have HA := hid (fun (V : World) (k : Kp No w V) => at_any V v t p (h.kept k) hl)
  have HRS := hid (fun (V : World) (k : Kp No w V) => rises_any V v t (h.kept k) hl)
  have HIX := hid (fun (V : World) (k : Kp No w V) (hb : V.cell? ⟨w.heap.size, 0, none⟩ = some (.string p)) => index_find V v t p w.heap.size (h.kept k) hl (fun V' x u k' _ _ => find1_any V' x.1 p x.2.1 u w.heap.size ((k'.cell (p := ⟨w.heap.size, 0, none⟩) (World.block_lt_of_cell? _ _ hb) (fun h => h)).trans hb)))
  have HB0 := hid (find_box w p 9 33)
  have HK0 : Hid (Kp No w ((w.alloc (.cells #[.string p] 9)).alloc (.cells #[.string ⟨#[]⟩, .bool false, .slice none 0 0] 33))) := ((Kp.refl No w).alloc _).alloc _
  have HL : Hid (x.2.2.length ≤ 20000000) := by have := hx.2; unfold Hid; omega
  obtain ⟨g, o, cap, rfl, hc⟩ := h.cells (by rintro rfl; simp [look] at hn)
  have HC := hid hc
  clear hc hx
  obtain ⟨n, hN⟩ : ∃ n, t.length = n := ⟨_, rfl⟩
  have HNN := hid hN
  simp only [hr] at HRS
  rw [hN] at hl HA HRS HIX ⊢
  have HNO := hid hn
  clear h hn hr hN
  go_enter Tryd.func8, Tryd.ntmps8
  go_wp2_with (first | (go_at_call 18; refine (HA.out _ HK0.out).mono ?_; rintro e w1 ⟨⟨i0, b0, rfl, _⟩, hk⟩; have HK1 := hid (HK0.out.andNone hk); have HB1 := hid (HB0.out _ hk); have d1 := HB1.out.1; have HJ1 := hid hk; clear hk) | (go_at_call 20; refine (HRS.out _ HK1.out).mono ?_; rintro e w2 ⟨rfl, hk⟩; have HK2 := hid (HK1.out.andNone hk); have HB2 := hid (HB0.out _ (HJ1.out.andNone hk)); have HJ2 := hid (HJ1.out.andNone hk); obtain ⟨q0, q1, q2⟩ := rets2 _ _ _ _ _ _ HB2.out.2; have f0 := HB2.out.2.frozen 0; have f1 := HB2.out.2.frozen 1; have f2 := HB2.out.2.frozen 2; have z0 := HB2.out.1; clear hk) | (go_at_call 21; refine (HIX.out _ HK2.out HB2.out.1).mono ?_; rintro e w3 ⟨⟨r, rfl, hr⟩, hk⟩; have HK3 := hid (HK2.out.andNone hk); have HB3 := hid (HB0.out _ (HJ2.out.andNone hk)); have HJ3 := hid (HJ2.out.andNone hk); clear q0 q1 q2 f0 f1 f2 z0; obtain ⟨q0, q1, q2⟩ := rets2 _ _ _ _ _ _ HB3.out.2; have f0 := HB3.out.2.frozen 0; have f1 := HB3.out.2.frozen 1; have f2 := HB3.out.2.frozen 2; obtain ⟨i, hri, hi, hxi⟩ : ∃ i : Nat, r = (i : Int) ∧ i < n ∧ t[i]? = some x := (by (rcases hr.find with ⟨_, e⟩ | ⟨i, y, e1, e2, e3⟩; (rw [HNO.out] at e; cases e); (rw [HNO.out] at e3; cases e3; exact ⟨i, e1, (by have := (List.getElem?_eq_some_iff.1 e2).1; have := HNN.out; omega), e2⟩))); subst hri; have hiI : (i : Int) < (n : Int) := (by omega); have hi0 : (0 : Int) ≤ (i : Int) := (by omega); obtain ⟨u, c0, c1, c2, hu⟩ := HC.out _ HK3.out i x hxi; have HU := hid hu; clear hu; clear hk) | (go_at_call 23; refine (clone_it _ _ _ HU.out HL.out).mono ?_; rintro e w4 ⟨u', rfl, ho, hn, hk⟩; obtain ⟨a4, cp4, hu4, _⟩ := ho.shape; subst hu4; have HO := hid ho; have HN4 := hid hn; have HK4 := hid (HK3.out.andNone hk); have HB4 := hid (HB0.out _ (HJ3.out.andNone hk)); have HJ4 := hid (HJ3.out.andNone hk); clear ho hn hk q0 q1 q2 f0 f1 f2; obtain ⟨q0, q1, q2⟩ := rets2 _ _ _ _ _ _ HB4.out.2; have f0 := HB4.out.2.frozen 0; have f1 := HB4.out.2.frozen 1; have f2 := HB4.out.2.frozen 2))
  have HW := hid ((((HB4.out.2).setCell 0 (.string x.1)).setCell 1 (.bool x.2.1)).setCell 2 (.slice a4 x.2.2.length cp4))
  have HKW := hid (Kp.set3 w4 (w.heap.size + 1) (.string x.1) (.bool x.2.1) (.slice a4 x.2.2.length cp4))
  generalize (((w4.setCell ⟨w.heap.size + 1, 0, none⟩ (.string x.1)).setCell ⟨w.heap.size + 1, 1, none⟩ (.bool x.2.1)).setCell ⟨w.heap.size + 1, 2, none⟩ (.slice a4 x.2.2.length cp4)) = w9 at *
  obtain ⟨y0, y1, y2⟩ := rets2 _ _ _ _ _ _ HW.out
  have HEND : Hid (Kp No w w9) := HK4.out.trans HKW.out (fun b hb => .inr (by omega))
  clear q0 q1 q2 f0 f1 f2
  refine bodyPost_ret (v := .tuple #[.agg #[.string x.1, .bool x.2.1, .slice a4 x.2.2.length cp4], .bool true]) (by simp [results, Tryd.results8, go_sem, y0, y1, y2]) rfl ⟨_, rfl, ?_, HEND.out⟩
  have hp := OwnB.byP (P := fun b => b ≠ w.heap.size + 1) HO.out (fun b hb e => by
    have h1 := HN4.out b hb
    have h2 := HJ3.out.size
    have h3 : (w.alloc (.cells #[.string p] 9)).heap.size < ((w.alloc (.cells #[.string p] 9)).alloc (.cells #[.string ⟨#[]⟩, .bool false, .slice none 0 0] 33)).heap.size := by simp
    have h4 : w.heap.size + 1 = (w.alloc (.cells #[.string p] 9)).heap.size := by simp
    omega) HL.out (by obtain ⟨_, _, _, _, _, _, _, h6, _⟩ := HU.out; exact h6)
  exact ByP.any (hp.kp HKW.out (fun b hb _ e => e hb))

/-- What Find answers of a path that is there, or not. -/
theorem find_no (w : World) (v : Value) (t : List It) (p : ByteArray) (h : IRow Any w v t) (hl : t.length ≤ 100000) (hn : look t p = none) :
    Calls Tryd.prog 8 #[v, .string p] w fun e w' => e = .returned (.tuple #[.agg #[.string ⟨#[]⟩, .bool false, .slice none 0 0], .bool false]) ∧ Kp No w w' := by
  cases hr : risesB t with
  | true => exact find_no_r w v t p h hl hn hr
  | false => exact find_no_n w v t p h hl hn hr
theorem find_yes (w : World) (v : Value) (t : List It) (p : ByteArray) (x : It) (hx : ShortI x) (h : IRow Any w v t) (hl : t.length ≤ 100000) (hn : look t p = some x) :
    Calls Tryd.prog 8 #[v, .string p] w fun e w' => ∃ u, e = .returned (.tuple #[.agg #[.string x.1, .bool x.2.1, u], .bool true]) ∧ ByP Any w' u x.2.2 ∧ Kp No w w' := by
  cases hr : risesB t with
  | true => exact find_yes_r w v t p x hx h hl hn hr
  | false => exact find_yes_n w v t p x hx h hl hn hr

end Go.Proofs.YtdooiflmjeibdaaDoor.Tr
