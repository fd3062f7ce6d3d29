/-
  What keeps a directory from holding a path; which items are wrong; which trees are right; Find.
-/
import Derived.Test.YtdooiflmjeibdaaDoorTrAt
namespace Go.Proofs.YtdooiflmjeibdaaDoor.Tr
open Go.RowKit

theorem extract_le (s : ByteArray) (a b : Nat) : (s.extract a b).size ≤ s.size := by
  rw [ByteArray.size_extract]
  omega
theorem splitS_le (s : ByteArray) : (splitS s).1.size ≤ s.size := by
  unfold splitS
  split
  · exact extract_le _ _ _
  · exact Nat.zero_le _
theorem isEmpty_no {s : ByteArray} (h : s ≠ ⟨#[]⟩) : s.toList.isEmpty = false := by rw [List.isEmpty_eq_false_iff]; exact fun e => h (tl_eq.2 e)
/-- What stands in a row that is read. -/
def Cells (w : World) (g o : Nat) (t : List It) : Prop := ∀ V, Kp No w V → ∀ i x, t[i]? = some x → ∃ u, V.cell? ⟨g, o + i * 3, none⟩ = some (.string x.1) ∧ V.cell? ⟨g, o + i * 3 + 1, none⟩ = some (.bool x.2.1) ∧ V.cell? ⟨g, o + i * 3 + 2, none⟩ = some u ∧ ByP Any V u x.2.2
theorem IRow.cells {w : World} {v : Value} {t : List It} (h : IRow Any w v t) (hne : t ≠ []) : ∃ g o cap, v = .slice (some ⟨g, o, none⟩) t.length cap ∧ Cells w g o t := by
  obtain ⟨a, cap, rfl, h1, h2, h3, h4⟩ := h
  obtain ⟨g, o, rfl, hg, hl, hc⟩ := h4 hne
  refine ⟨g, o, cap, rfl, fun V k i x hx => ?_⟩
  obtain ⟨u, c0, c1, c2, hb⟩ := (hc i x hx).kp k (fun _ h => h.elim) hg hl
  exact ⟨u, c0, c1, c2, hb⟩

theorem at_no (w : World) (v : Value) (t : List It) (p : ByteArray) (h : IRow Any w v t) (hl : t.length ≤ 100000) (hr : risesB t = true) (hn : look t p = none) :
    Calls Tryd.prog 18 #[v, .string p] w fun e w' => ∃ i : Nat, e = .returned (.tuple #[.int .i64 (i : Int), .bool false]) ∧ (i ≤ t.length ∧ Half t p i i) ∧ Kp No w w' :=
  (at_any w v t p h hl).mono (fun e w' ⟨⟨i, b, he, ha⟩, hk⟩ => by
    cases b with
    | false => exact ⟨i, he, ⟨ha.1, ha.2.2 hr⟩, hk⟩
    | true =>
      obtain ⟨x, _, _, hx⟩ := ha.found hr
      rw [hn] at hx
      cases hx)
theorem at_yes (w : World) (v : Value) (t : List It) (p : ByteArray) (x : It) (h : IRow Any w v t) (hl : t.length ≤ 100000) (hr : risesB t = true) (hn : look t p = some x) :
    Calls Tryd.prog 18 #[v, .string p] w fun e w' => ∃ i : Nat, e = .returned (.tuple #[.int .i64 (i : Int), .bool true]) ∧ (i < t.length ∧ t[i]? = some x) ∧ Kp No w w' :=
  (at_any w v t p h hl).mono (fun e w' ⟨⟨i, b, he, ha⟩, hk⟩ => by
    cases b with
    | false =>
      rw [ha.lost hr] at hn
      cases hn
    | true =>
      obtain ⟨y, hy, _, hx⟩ := ha.found hr
      rw [hn] at hx
      cases hx
      exact ⟨i, he, ⟨(List.getElem?_eq_some_iff.1 hy).1, hy⟩, hk⟩)

set_option maxHeartbeats 2000000 in
theorem home_any (w : World) (v : Value) (t : List It) (p : ByteArray) (h : IRow Any w v t) (hl : t.length ≤ 100000) (hp : p.size ≤ 1000000) (hr : risesB t = true) :
    Calls Tryd.prog 34 #[v, .string p] w fun e w' => e = .returned (.int .i64 (homeF t p)) ∧ Kp No w w' := by
  have HI := hid h
  have HS := fun W => split_any p hp W
  have HF : Hid (homeF t p = if (splitS p).1 = ⟨#[]⟩ then 0 else match look t (splitS p).1 with | none => 5 | some x => if x.2.1 then 0 else 7) := rfl
  generalize (splitS p).1 = d at *
  generalize (splitS p).2 = e at *
  by_cases hd : d = ⟨#[]⟩
  · subst hd
    rw [HF.out, if_pos rfl]
    go_enter Tryd.func34, Tryd.ntmps34
    go_wp2_with (go_at_call 47; refine (HS _).mono ?_; rintro e w1 ⟨rfl, hk⟩; have HK := hid hk; clear hk)
    go_ret
    exact ⟨rfl, HK.out⟩
  · have b0 := isEmpty_no hd
    rw [HF.out, if_neg hd]
    cases e : look t d with
    | none =>
      have HA := hid (fun (V : World) (k : Kp No w V) => at_no V v t d (h.kept k) hl hr e)
      clear HF h e hd
      go_enter Tryd.func34, Tryd.ntmps34
      go_wp2_with (first | (go_at_call 47; refine (HS _).mono ?_; rintro e w1 ⟨rfl, hk⟩; have HK := hid hk; clear hk) | (go_at_call 18; refine (HA.out _ HK.out).mono ?_; rintro e w2 ⟨i, rfl, _, hk⟩; have HK2 := hid hk; clear hk))
      go_ret
      exact ⟨rfl, HK.out.andNone HK2.out⟩
    | some x =>
      have HA := hid (fun (V : World) (k : Kp No w V) => at_yes V v t d x (h.kept k) hl hr e)
      obtain ⟨g, o, cap, rfl, hc⟩ := h.cells (by rintro rfl; simp [look] at e)
      have HC := hid hc
      obtain ⟨n, hn⟩ : ∃ n, t.length = n := ⟨_, rfl⟩
      rw [hn] at hl HI HA ⊢
      clear HF h e hd hc hn
      cases hx : x.2.1
      all_goals
        simp only [hx, if_true, if_false, Bool.false_eq_true]
        go_enter Tryd.func34, Tryd.ntmps34
        go_wp2_with (first | (go_at_call 47; refine (HS _).mono ?_; rintro e w1 ⟨rfl, hk⟩; have HK := hid hk; clear hk) | (go_at_call 18; refine (HA.out _ HK.out).mono ?_; rintro e w2 ⟨i, rfl, ⟨hi, hxi⟩, hk⟩; have HK2 := hid (HK.out.andNone hk); obtain ⟨u, c0, c1, c2, _⟩ := HC.out _ HK2.out i x hxi; rw [hx] at c1; have hiI : (i : Int) < (n : Int) := by omega))
        go_ret
        exact ⟨rfl, HK2.out⟩

set_option maxHeartbeats 1000000 in
theorem has_no (w : World) (v : Value) (t : List It) (p : ByteArray) (h : IRow Any w v t) (hl : t.length ≤ 100000) (hr : risesB t = true) (e : look t p = none) :
    Calls Tryd.prog 33 #[v, .string p] w fun e w' => e = .returned (.bool false) ∧ Kp No w w' := by
  have HA := hid (at_no w v t p h hl hr e)
  clear e h hr
  go_enter Tryd.func33, Tryd.ntmps33
  go_wp2_with (go_at_call 18; refine HA.out.mono ?_; rintro e w2 ⟨i, rfl, _, hk⟩; have HK2 := hid hk; clear hk)
  go_ret
  exact ⟨rfl, HK2.out⟩
set_option maxHeartbeats 1000000 in
theorem has_yes (w : World) (v : Value) (t : List It) (p : ByteArray) (x : It) (h : IRow Any w v t) (hl : t.length ≤ 100000) (hr : risesB t = true) (e : look t p = some x) :
    Calls Tryd.prog 33 #[v, .string p] w fun e w' => e = .returned (.bool true) ∧ Kp No w w' := by
  have HA := hid (at_yes w v t p x h hl hr e)
  clear e h hr
  go_enter Tryd.func33, Tryd.ntmps33
  go_wp2_with (go_at_call 18; refine HA.out.mono ?_; rintro e w2 ⟨i, rfl, _, hk⟩; have HK2 := hid hk; clear hk)
  go_ret
  exact ⟨rfl, HK2.out⟩

/-- A short item. -/
def ShortI (x : It) : Prop := x.1.size ≤ 10000 ∧ x.2.2.length ≤ 10000

set_option maxHeartbeats 2000000 in
theorem wrong_any (w : World) (v u : Value) (t : List It) (x : It) (h : IRow Any w v t) (hl : t.length ≤ 100000) (hr : risesB t = true) (hu : ByP Any w u x.2.2) (hx : ShortI x) :
    Calls Tryd.prog 64 #[v, .agg #[.string x.1, .bool x.2.1, u]] w fun e w' => e = .returned (.bool (wrongB t x)) ∧ Kp No w w' := by
  obtain ⟨s, d, bs⟩ := x
  have HP := fun W => path_any s (by have := hx.1; simp only at this; omega) W
  have HH := hid (fun (V : World) (k : Kp No w V) => home_any V v t s (h.kept k) hl (by have := hx.1; simp only at this; omega) hr)
  have HW : Hid (wrongB t (s, d, bs) = (!(pathB (tx s)) || !(decide (homeF t s = 0)) || decide ((if d then 0 else 2000) < bs.length))) := rfl
  rw [HW.out]
  obtain ⟨a, cap, rfl, h2, h3, h4, h5, h6, h7⟩ := hu
  clear h h4 h5 h6 h7 HW
  have hbl : bs.length ≤ 10000 := hx.2
  generalize homeF t s = f at *
  obtain ⟨n, hn⟩ : ∃ n, bs.length = n := ⟨_, rfl⟩
  simp only at h2
  rw [hn] at h2 hbl ⊢
  clear hn hx
  cases hb : pathB (tx s) with
  | false =>
    simp only [hb] at HP
    cases d <;>
    · go_enter Tryd.func64, Tryd.ntmps64
      go_wp2_with (go_at_call 26; refine (HP _).mono ?_; rintro e w1 ⟨rfl, hk⟩; have HK := hid (((Kp.refl No _).alloc _).andNone hk); obtain ⟨c0, c1, c2⟩ := box_it w (s, _, bs) _ _ _ hk; have HJ := hid hk; clear hk)
      go_ret
      exact ⟨rfl, HK.out⟩
  | true =>
    simp only [hb] at HP
    by_cases hf : f = 0
    · subst hf
      have e0 : (!decide ((0 : Int) = 0)) = false := rfl
      obtain ⟨m, hm⟩ : ∃ m : Nat, (if d then 0 else 2000) = m := ⟨_, rfl⟩
      rw [hm, e0]
      by_cases hmn : m < n
      · have hmI : (m : Int) < (n : Int) := by omega
        rw [decide_eq_true hmn]
        cases d <;>
        · have hm2 := hm.symm
          simp at hm2
          subst hm2
          clear hm
          go_enter Tryd.func64, Tryd.ntmps64
          go_wp2_with (first | (go_at_call 26; refine (HP _).mono ?_; rintro e w1 ⟨rfl, hk⟩; have HK := hid (((Kp.refl No _).alloc _).andNone hk); obtain ⟨c0, c1, c2⟩ := box_it w (s, _, bs) _ _ _ hk; have HJ := hid hk; clear hk) | (go_at_call 34; refine (HH.out _ HK.out).mono ?_; rintro e w2 ⟨rfl, hk⟩; have HK2 := hid (HK.out.andNone hk); obtain ⟨d0, d1, d2⟩ := box_it w (s, _, bs) _ _ _ (HJ.out.andNone hk); clear hk))
          go_ret
          refine ⟨?_, HK2.out⟩
          first | rfl | exact congrArg (fun b => Ending.returned (.bool b)) (decide_eq_true (show (2000 : Int) < (n : Int) by omega)) | exact congrArg (fun b => Ending.returned (.bool b)) (decide_eq_true (show 0 < n by omega))
      · have hmI : ¬ (m : Int) < (n : Int) := by omega
        rw [decide_eq_false hmn]
        cases d <;>
        · have hm2 := hm.symm
          simp at hm2
          subst hm2
          clear hm
          go_enter Tryd.func64, Tryd.ntmps64
          go_wp2_with (first | (go_at_call 26; refine (HP _).mono ?_; rintro e w1 ⟨rfl, hk⟩; have HK := hid (((Kp.refl No _).alloc _).andNone hk); obtain ⟨c0, c1, c2⟩ := box_it w (s, _, bs) _ _ _ hk; have HJ := hid hk; clear hk) | (go_at_call 34; refine (HH.out _ HK.out).mono ?_; rintro e w2 ⟨rfl, hk⟩; have HK2 := hid (HK.out.andNone hk); obtain ⟨d0, d1, d2⟩ := box_it w (s, _, bs) _ _ _ (HJ.out.andNone hk); clear hk))
          go_ret
          refine ⟨?_, HK2.out⟩
          first | rfl | exact congrArg (fun b => Ending.returned (.bool b)) (decide_eq_false (show ¬ (2000 : Int) < (n : Int) by omega)) | exact congrArg (fun b => Ending.returned (.bool b)) (decide_eq_false (show ¬ 0 < n by omega))
    · have hf' : (f != 0) = true := by simpa using hf
      have e1 : decide (f = 0) = false := decide_eq_false hf
      rw [e1]
      cases d <;>
      · go_enter Tryd.func64, Tryd.ntmps64
        go_wp2_with (first | (go_at_call 26; refine (HP _).mono ?_; rintro e w1 ⟨rfl, hk⟩; have HK := hid (((Kp.refl No _).alloc _).andNone hk); obtain ⟨c0, c1, c2⟩ := box_it w (s, _, bs) _ _ _ hk; have HJ := hid hk; clear hk) | (go_at_call 34; refine (HH.out _ HK.out).mono ?_; rintro e w2 ⟨rfl, hk⟩; have HK2 := hid (HK.out.andNone hk); obtain ⟨d0, d1, d2⟩ := box_it w (s, _, bs) _ _ _ (HJ.out.andNone hk); clear hk))
        go_ret
        exact ⟨rfl, HK2.out⟩

end Go.Proofs.YtdooiflmjeibdaaDoor.Tr
