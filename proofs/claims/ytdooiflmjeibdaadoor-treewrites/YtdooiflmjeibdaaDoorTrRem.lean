/-
  Remove.
-/
import Derived.Test.YtdooiflmjeibdaaDoorTrMk
namespace Go.Proofs.YtdooiflmjeibdaaDoor.Tr
open Go.RowKit

def removeR (t : List It) (p : ByteArray) (deep : Bool) : Int × List It :=
  if askedF t [p] = 0 then (if underL t p = [] then (5, []) else if 1 < (underL t p).length ∧ deep = false then (9, []) else (0, outL t p)) else (askedF t [p], [])

set_option maxHeartbeats 4000000 in
/-- Remove. -/
theorem remove_any (w : World) (v : Value) (t : List It) (p : ByteArray) (deep : Bool) (h : IRow Any w v t) (hl : t.length ≤ 1000) (hs : ∀ y ∈ t, ShortI y) (hp : p.size ≤ 10000) :
    Calls Tryd.prog 14 #[v, .string p, .bool deep] w fun e w' => Chd w (removeR t p deep) e w' := by
  have hk0 : Kp No w (w.alloc (.cells #[.string p] 9)) := (Kp.refl _ _).alloc _
  have HA := hid (asked_any (w.alloc (.cells #[.string p] 9)) v t w.heap.size [p] (h.kept hk0) hl hs (Blk.new w 9 [.string p]) (by simp) (by simpa using (by omega : p.size ≤ 1000000)))
  have HP := hid (fun (V : World) (k : Kp No w V) => apart_any V v t p (h.kept k) (by omega) hs)
  have HM : Hid (removeR t p deep = if askedF t [p] = 0 then (if underL t p = [] then (5, []) else if 1 < (underL t p).length ∧ deep = false then (9, []) else (0, outL t p)) else (askedF t [p], [])) := rfl
  simp only [List.length_cons, List.length_nil, Nat.zero_add] at HA
  generalize removeR t p deep = R at *
  generalize outL t p = os at *
  have hul : (underL t p).length ≤ 1000 := Nat.le_trans (List.length_filter_le _ _) hl
  generalize underL t p = us at *
  obtain ⟨n, hn⟩ : ∃ n, us.length = n := ⟨_, rfl⟩
  have HN := hid hn
  have h0 : us = [] ↔ n = 0 := by rw [← hn]; exact List.length_eq_zero_iff.symm
  have H0 := hid h0
  clear h hs h0
  by_cases hf : askedF t [p] = 0
  · rw [hf] at HA
    rw [if_pos hf, hn] at HM
    rw [hn] at hul
    clear hf hn hl
    by_cases hz : n = 0
    · subst hz
      rw [if_pos (H0.out.2 rfl)] at HM
      rw [HM.out]
      clear HM
      go_enter Tryd.func14, Tryd.ntmps14
      go_wp2_with (first | (go_at_call 25; refine (HP.out _ HK.out).mono ?_; rintro e w2 ⟨a, n0, c, a', n', c', rfl, ht⟩; obtain ⟨_, _, e0⟩ := ht.a.form; rw [HN.out] at e0; cases e0; have HT := hid ht; clear ht) | (go_at_call 32; refine HA.out.mono ?_; rintro e w1 ⟨rfl, hk⟩; have HK := hid (((Kp.refl No _).alloc _).andNone hk); clear hk))
      go_ret2
      exact Chd.no rfl (HK.out.andNone HT.out.k)
    · rw [if_neg (fun h => hz (H0.out.1 h))] at HM
      have hzI : (n : Int) ≠ 0 := by omega
      have hz0 : ((n : Int) == 0) = false := by simpa using hz
      clear H0
      cases deep with
      | true =>
        rw [if_neg (by simp)] at HM
        rw [HM.out]
        clear HM
        by_cases h1 : (1 : Int) < (n : Int)
        · go_enter Tryd.func14, Tryd.ntmps14
          go_wp2_with (first | (go_at_call 25; refine (HP.out _ HK.out).mono ?_; rintro e w2 ⟨a, n0, c, a', n', c', rfl, ht⟩; obtain ⟨_, _, e0⟩ := ht.a.form; rw [HN.out] at e0; cases e0; have HT := hid ht; clear ht) | (go_at_call 32; refine HA.out.mono ?_; rintro e w1 ⟨rfl, hk⟩; have HK := hid (((Kp.refl No _).alloc _).andNone hk); clear hk))
          go_ret2
          exact Chd.mk _ rfl HT.out.b (fun b e => Nat.le_trans HK.out.size (HT.out.lb b e)) (HK.out.andNone HT.out.k)
        · go_enter Tryd.func14, Tryd.ntmps14
          go_wp2_with (first | (go_at_call 25; refine (HP.out _ HK.out).mono ?_; rintro e w2 ⟨a, n0, c, a', n', c', rfl, ht⟩; obtain ⟨_, _, e0⟩ := ht.a.form; rw [HN.out] at e0; cases e0; have HT := hid ht; clear ht) | (go_at_call 32; refine HA.out.mono ?_; rintro e w1 ⟨rfl, hk⟩; have HK := hid (((Kp.refl No _).alloc _).andNone hk); clear hk))
          go_ret2
          exact Chd.mk _ rfl HT.out.b (fun b e => Nat.le_trans HK.out.size (HT.out.lb b e)) (HK.out.andNone HT.out.k)
      | false =>
        by_cases h1 : (1 : Int) < (n : Int)
        · rw [if_pos ⟨(by omega), rfl⟩] at HM
          rw [HM.out]
          clear HM
          go_enter Tryd.func14, Tryd.ntmps14
          go_wp2_with (first | (go_at_call 25; refine (HP.out _ HK.out).mono ?_; rintro e w2 ⟨a, n0, c, a', n', c', rfl, ht⟩; obtain ⟨_, _, e0⟩ := ht.a.form; rw [HN.out] at e0; cases e0; have HT := hid ht; clear ht) | (go_at_call 32; refine HA.out.mono ?_; rintro e w1 ⟨rfl, hk⟩; have HK := hid (((Kp.refl No _).alloc _).andNone hk); clear hk))
          go_ret2
          exact Chd.no rfl (HK.out.andNone HT.out.k)
        · rw [if_neg (fun h => h1 (by omega))] at HM
          rw [HM.out]
          clear HM
          go_enter Tryd.func14, Tryd.ntmps14
          go_wp2_with (first | (go_at_call 25; refine (HP.out _ HK.out).mono ?_; rintro e w2 ⟨a, n0, c, a', n', c', rfl, ht⟩; obtain ⟨_, _, e0⟩ := ht.a.form; rw [HN.out] at e0; cases e0; have HT := hid ht; clear ht) | (go_at_call 32; refine HA.out.mono ?_; rintro e w1 ⟨rfl, hk⟩; have HK := hid (((Kp.refl No _).alloc _).andNone hk); clear hk))
          go_ret2
          exact Chd.mk _ rfl HT.out.b (fun b e => Nat.le_trans HK.out.size (HT.out.lb b e)) (HK.out.andNone HT.out.k)
  · rw [if_neg hf] at HM
    rw [HM.out]
    have hf' : (askedF t [p] != 0) = true := by simpa using hf
    generalize askedF t [p] = f at *
    clear HM hf
    go_enter Tryd.func14, Tryd.ntmps14
    go_wp2_with (go_at_call 32; refine HA.out.mono ?_; rintro e w1 ⟨rfl, hk⟩; have HK := hid (((Kp.refl No _).alloc _).andNone hk); clear hk)
    go_ret2
    exact Chd.no rfl HK.out

end Go.Proofs.YtdooiflmjeibdaaDoor.Tr
