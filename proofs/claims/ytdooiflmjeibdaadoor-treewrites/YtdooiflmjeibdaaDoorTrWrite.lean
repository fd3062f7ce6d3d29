/-
  Write.
-/
import Derived.Test.YtdooiflmjeibdaaDoorTrMk
namespace Go.Proofs.YtdooiflmjeibdaaDoor.Tr
open Go.RowKit

theorem dirAt_none {t : List It} {p : ByteArray} (h : look t p = none) : dirAt t p = false := by unfold dirAt; rw [h]
theorem dirAt_some {t : List It} {p : ByteArray} {x : It} (h : look t p = some x) : dirAt t p = x.2.1 := by unfold dirAt; rw [h]

set_option maxHeartbeats 4000000 in
theorem write_no (w : World) (v vb : Value) (t : List It) (p : ByteArray) (h : IRow Any w v t) (hl : t.length ≤ 1000) (hs : ∀ y ∈ t, ShortI y) (hp : p.size ≤ 10000) (hf : barsF t p ≠ 0) :
    Calls Tryd.prog 7 #[v, .string p, vb] w fun e w' => Chd w (barsF t p, []) e w' := by
  have HB := hid (bars_any w v t p h hl hs (by omega))
  have hf' : (barsF t p != 0) = true := by simpa using hf
  generalize barsF t p = f at *
  clear h hs
  go_enter Tryd.func7, Tryd.ntmps7
  go_wp2_with (go_at_call 17; refine HB.out.mono ?_; rintro e w1 ⟨rfl, hk⟩; have HK := hid hk; clear hk)
  go_ret2
  exact Chd.no rfl HK.out

set_option maxHeartbeats 4000000 in
theorem write_dir (w : World) (v vb : Value) (t : List It) (p : ByteArray) (x : It) (h : IRow Any w v t) (hl : t.length ≤ 1000) (hs : ∀ y ∈ t, ShortI y) (hp : p.size ≤ 10000) (hf : barsF t p = 0) (hx : look t p = some x) (hd : x.2.1 = true) :
    Calls Tryd.prog 7 #[v, .string p, vb] w fun e w' => Chd w (8, []) e w' := by
  have HB := hid (bars_any w v t p h hl hs (by omega))
  rw [hf] at HB
  have hr := right_rises (bars_right hf)
  have HA := hid (fun (V : World) (k : Kp No w V) => at_yes V v t p x (h.kept k) (by omega) hr.1 hx)
  obtain ⟨g, o, cap, rfl, hc⟩ := h.cells (by rintro rfl; simp [look] at hx)
  have HC := hid hc
  obtain ⟨n, hn⟩ : ∃ n, t.length = n := ⟨_, rfl⟩
  rw [hn] at HA HB ⊢
  clear h hs hx hr hf hc
  go_enter Tryd.func7, Tryd.ntmps7
  go_wp2_with (first | (go_at_call 17; refine HB.out.mono ?_; rintro e w1 ⟨rfl, hk⟩; have HK := hid hk; clear hk) | (go_at_call 18; refine (HA.out _ HK.out).mono ?_; rintro e w2 ⟨i, rfl, ⟨hi, hxi⟩, hk⟩; have HK2 := hid (HK.out.andNone hk); obtain ⟨u, c0, c1, c2, _⟩ := HC.out _ HK2.out i x hxi; rw [hd] at c1; have hiI : (i : Int) < (n : Int) := (by omega); clear hk))
  go_ret2
  exact Chd.no rfl HK2.out

set_option maxHeartbeats 4000000 in
/-- of a file that is there, or of nothing: too many bytes. -/
theorem write_large (w : World) (v vb : Value) (t : List It) (p : ByteArray) (b : List Nat) (h : IRow Any w v t) (hl : t.length ≤ 1000) (hs : ∀ y ∈ t, ShortI y) (hp : p.size ≤ 10000) (hf : barsF t p = 0) (hd : dirAt t p = false) (hb : ByP Any w vb b) (h2 : 2000 < b.length) :
    Calls Tryd.prog 7 #[v, .string p, vb] w fun e w' => Chd w (2, []) e w' := by
  have HB := hid (bars_any w v t p h hl hs (by omega))
  rw [hf] at HB
  have hr := right_rises (bars_right hf)
  obtain ⟨ab, cb, rfl⟩ := hb.form
  have h2I : (2000 : Int) < (b.length : Int) := by omega
  clear hb
  generalize b.length = m at *
  cases hx : look t p with
  | none =>
    have HA := hid (fun (V : World) (k : Kp No w V) => at_no V v t p (h.kept k) (by omega) hr.1 hx)
    clear h hs hx hr hf hd
    go_enter Tryd.func7, Tryd.ntmps7
    go_wp2_with (first | (go_at_call 17; refine HB.out.mono ?_; rintro e w1 ⟨rfl, hk⟩; have HK := hid hk; clear hk) | (go_at_call 18; refine (HA.out _ HK.out).mono ?_; rintro e w2 ⟨i, rfl, _, hk⟩; have HK2 := hid (HK.out.andNone hk); clear hk))
    go_ret2
    exact Chd.no rfl HK2.out
  | some x =>
    have hdx : x.2.1 = false := (dirAt_some hx).symm.trans hd
    have HA := hid (fun (V : World) (k : Kp No w V) => at_yes V v t p x (h.kept k) (by omega) hr.1 hx)
    obtain ⟨g, o, cap, rfl, hc⟩ := h.cells (by rintro rfl; simp [look] at hx)
    have HC := hid hc
    obtain ⟨n, hn⟩ : ∃ n, t.length = n := ⟨_, rfl⟩
    rw [hn] at HA HB ⊢
    clear h hs hx hr hf hc hd
    go_enter Tryd.func7, Tryd.ntmps7
    go_wp2_with (first | (go_at_call 17; refine HB.out.mono ?_; rintro e w1 ⟨rfl, hk⟩; have HK := hid hk; clear hk) | (go_at_call 18; refine (HA.out _ HK.out).mono ?_; rintro e w2 ⟨i, rfl, ⟨hi, hxi⟩, hk⟩; have HK2 := hid (HK.out.andNone hk); obtain ⟨u, c0, c1, c2, _⟩ := HC.out _ HK2.out i x hxi; rw [hdx] at c1; have hiI : (i : Int) < (n : Int) := (by omega); clear hk))
    go_ret2
    exact Chd.no rfl HK2.out

set_option maxHeartbeats 4000000 in
theorem write_full (w : World) (v vb : Value) (t : List It) (p : ByteArray) (b : List Nat) (h : IRow Any w v t) (hs : ∀ y ∈ t, ShortI y) (hp : p.size ≤ 10000) (hf : barsF t p = 0) (hb : ByP Any w vb b) (h2 : ¬ 2000 < b.length) (hx : look t p = none) (h60 : 60 ≤ t.length) :
    Calls Tryd.prog 7 #[v, .string p, vb] w fun e w' => Chd w (2, []) e w' := by
  have hr := right_rises (bars_right hf)
  have HB := hid (bars_any w v t p h (by omega) hs (by omega))
  rw [hf] at HB
  have HA := hid (fun (V : World) (k : Kp No w V) => at_no V v t p (h.kept k) (by omega) hr.1 hx)
  have HW := hid (fun (V : World) (k : Kp No w V) => with_full V v vb t (p, false, b) (h.kept k) hs hr.1 (by omega) hx)
  obtain ⟨ab, cb, rfl⟩ := hb.form
  have h2I : ¬ (2000 : Int) < (b.length : Int) := by omega
  simp only at HW
  clear h hs hx hr hf hb
  generalize b.length = m at *
  go_enter Tryd.func7, Tryd.ntmps7
  go_wp2_with (first | (go_at_call 17; refine HB.out.mono ?_; rintro e w1 ⟨rfl, hk⟩; have HK := hid hk; clear hk) | (go_at_call 18; refine (HA.out _ HK.out).mono ?_; rintro e w2 ⟨i, rfl, _, hk⟩; have HK2 := hid (HK.out.andNone hk); clear hk) | (go_at_call 19; refine (HW.out _ HK2.out).mono ?_; rintro e w3 ⟨rfl, hk⟩; have HK3 := hid (HK2.out.andNone hk); clear hk))
  go_ret2
  exact Chd.no rfl HK3.out

set_option maxHeartbeats 4000000 in
theorem write_ok (w : World) (v vb : Value) (t : List It) (p : ByteArray) (b : List Nat) (h : IRow Any w v t) (hs : ∀ y ∈ t, ShortI y) (hp : p.size ≤ 10000) (hf : barsF t p = 0) (hd : dirAt t p = false) (hb : ByP Any w vb b) (h2 : ¬ 2000 < b.length) (h60 : look t p = none → t.length < 60) :
    Calls Tryd.prog 7 #[v, .string p, vb] w fun e w' => Chd w (0, putL t (p, false, b)) e w' := by
  have hr := right_rises (bars_right hf)
  have HB := hid (bars_any w v t p h (by omega) hs (by omega))
  rw [hf] at HB
  have HBY := hid hb
  have hsh : ShortI (p, false, b) := ⟨hp, by show b.length ≤ 10000; omega⟩
  cases hx : look t p with
  | none =>
    have HA := hid (fun (V : World) (k : Kp No w V) => at_no V v t p (h.kept k) (by omega) hr.1 hx)
    have HW := hid (fun (V : World) (k : Kp No w V) => with_ins V v vb t (p, false, b) (h.kept k) hs hr.1 (h60 hx) hx (HBY.out.kept k) hsh)
    obtain ⟨ab, cb, rfl⟩ := hb.form
    have h2I : ¬ (2000 : Int) < (b.length : Int) := by omega
    simp only at HW
    clear h hs hx hr hf hb hd h60 hsh HBY
    generalize putL t (p, false, b) = ys at *
    generalize b.length = m at *
    go_enter Tryd.func7, Tryd.ntmps7
    go_wp2_with (first | (go_at_call 17; refine HB.out.mono ?_; rintro e w1 ⟨rfl, hk⟩; have HK := hid hk; clear hk) | (go_at_call 18; refine (HA.out _ HK.out).mono ?_; rintro e w2 ⟨i, rfl, _, hk⟩; have HK2 := hid (HK.out.andNone hk); clear hk) | (go_at_call 19; refine (HW.out _ HK2.out).mono ?_; rintro e w3 ⟨v', rfl, ho, hbb, hk⟩; have HO := hid ho; have HBB := hid hbb; have HK3 := hid (HK2.out.andNone hk); have HZ := hid HK2.out.size; clear ho hbb hk))
    go_ret2
    exact Chd.mk v' rfl HO.out (fun b e => Nat.le_trans HZ.out (HBB.out b e)) HK3.out
  | some x =>
    have hdx : x.2.1 = false := (dirAt_some hx).symm.trans hd
    have HA := hid (fun (V : World) (k : Kp No w V) => at_yes V v t p x (h.kept k) (by omega) hr.1 hx)
    have HW := hid (fun (V : World) (k : Kp No w V) => with_set V v vb t (p, false, b) x (h.kept k) hs hr.1 hr.2 hx (HBY.out.kept k) hsh)
    obtain ⟨ab, cb, rfl⟩ := hb.form
    have h2I : ¬ (2000 : Int) < (b.length : Int) := by omega
    obtain ⟨g, o, cap, rfl, hc⟩ := h.cells (by rintro rfl; simp [look] at hx)
    have HC := hid hc
    obtain ⟨n, hn⟩ : ∃ n, t.length = n := ⟨_, rfl⟩
    simp only at HW
    rw [hn] at HA HB HW ⊢
    clear h hs hx hr hf hb hd h60 hsh HBY hc
    generalize putL t (p, false, b) = ys at *
    generalize b.length = m at *
    go_enter Tryd.func7, Tryd.ntmps7
    go_wp2_with (first | (go_at_call 17; refine HB.out.mono ?_; rintro e w1 ⟨rfl, hk⟩; have HK := hid hk; clear hk) | (go_at_call 18; refine (HA.out _ HK.out).mono ?_; rintro e w2 ⟨i, rfl, ⟨hi, hxi⟩, hk⟩; have HK2 := hid (HK.out.andNone hk); obtain ⟨u, c0, c1, c2, _⟩ := HC.out _ HK2.out i x hxi; rw [hdx] at c1; have hiI : (i : Int) < (n : Int) := (by omega); clear hk) | (go_at_call 19; refine (HW.out _ HK2.out).mono ?_; rintro e w3 ⟨v', rfl, ho, hbb, hk⟩; have HO := hid ho; have HBB := hid hbb; have HK3 := hid (HK2.out.andNone hk); have HZ := hid HK2.out.size; clear ho hbb hk))
    go_ret2
    exact Chd.mk v' rfl HO.out (fun b e => Nat.le_trans HZ.out (HBB.out b e)) HK3.out

/-- Write. -/
theorem write_any (w : World) (v vb : Value) (t : List It) (p : ByteArray) (b : List Nat) (h : IRow Any w v t) (hl : t.length ≤ 1000) (hs : ∀ y ∈ t, ShortI y) (hp : p.size ≤ 10000) (hb : ByP Any w vb b) :
    Calls Tryd.prog 7 #[v, .string p, vb] w fun e w' => Chd w (writeR t p b) e w' := by
  unfold writeR
  by_cases hf : barsF t p = 0
  · rw [if_pos hf]
    cases hd : dirAt t p with
    | true =>
      rw [if_pos rfl]
      cases hx : look t p with
      | none => rw [dirAt_none hx] at hd; cases hd
      | some x => exact write_dir w v vb t p x h hl hs hp hf hx ((dirAt_some hx).symm.trans hd)
    | false =>
      rw [if_neg (by simp)]
      by_cases h2 : 2000 < b.length
      · rw [if_pos h2]
        exact write_large w v vb t p b h hl hs hp hf hd hb h2
      · rw [if_neg h2]
        cases hx : look t p with
        | none =>
          by_cases h60 : 60 ≤ t.length
          · rw [if_pos (by simpa using h60)]
            exact write_full w v vb t p b h hs hp hf hb h2 hx h60
          · rw [if_neg (by simpa using h60)]
            exact write_ok w v vb t p b h hs hp hf hd hb h2 (fun _ => by omega)
        | some x =>
          rw [if_neg (by simp)]
          exact write_ok w v vb t p b h hs hp hf hd hb h2 (fun e => by rw [hx] at e; cases e)
  · rw [if_neg hf]
    exact write_no w v vb t p h hl hs hp hf

end Go.Proofs.YtdooiflmjeibdaaDoor.Tr
