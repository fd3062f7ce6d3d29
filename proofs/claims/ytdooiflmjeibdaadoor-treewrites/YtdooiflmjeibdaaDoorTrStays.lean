/-
  stays.
-/
import Derived.Test.YtdooiflmjeibdaaDoorTrRem
namespace Go.Proofs.YtdooiflmjeibdaaDoor.Tr
open Go.RowKit

theorem str_eqP (s p : ByteArray) : (s.toList == p.toList) = decide (s = p) := by
  rw [Bool.eq_iff_iff, beq_iff_eq, decide_eq_true_eq, ByteArray.toList_eq, ByteArray.toList_eq, ba_eq]
def staysF (t : List It) (p q : ByteArray) : Int :=
  if askedF t [p, q] = 0 then (match look t p with
    | none => 5
    | some _ => if homeF t q = 0 then (if p = q then 0 else match look t q with
        | some _ => 6
        | none => if withinB (tx p) (tx q) then 1 else 0) else homeF t q) else askedF t [p, q]
theorem asked_right {t : List It} {ps : List ByteArray} (h : askedF t ps = 0) : rightB t = true := by
  unfold askedF at h
  cases e : rightB t with
  | true => rfl
  | false => rw [e] at h; simp at h

set_option maxHeartbeats 4000000 in
theorem stays_any (w : World) (v : Value) (t : List It) (p q : ByteArray) (h : IRow Any w v t) (hl : t.length ≤ 1000) (hs : ∀ y ∈ t, ShortI y) (hp : p.size ≤ 10000) (hq : q.size ≤ 10000) :
    Calls Tryd.prog 24 #[v, .string p, .string q] w fun e w' => e = .returned (.int .i64 (staysF t p q)) ∧ Kp No w w' := by
  have hk0 : Kp No w (w.alloc (.cells #[.string p, .string q] 9)) := (Kp.refl _ _).alloc _
  have HA := hid (asked_any (w.alloc (.cells #[.string p, .string q] 9)) v t w.heap.size [p, q] (h.kept hk0) hl hs (Blk.new w 9 [.string p, .string q]) (by simp) (by intro x hx; simp only [List.mem_cons, List.not_mem_nil, or_false] at hx; rcases hx with rfl | rfl <;> omega))
  simp only [List.length_cons, List.length_nil, Nat.zero_add, Nat.reduceAdd] at HA
  have HM : Hid (staysF t p q = if askedF t [p, q] = 0 then (match look t p with
    | none => 5
    | some _ => if homeF t q = 0 then (if p = q then 0 else match look t q with
        | some _ => 6
        | none => if withinB (tx p) (tx q) then 1 else 0) else homeF t q) else askedF t [p, q]) := rfl
  generalize staysF t p q = R at *
  by_cases hf : askedF t [p, q] = 0
  · have hr := (right_rises (asked_right hf)).1
    rw [hf] at HA
    rw [if_pos hf] at HM
    clear hf
    cases hx : look t p with
    | none =>
      have HH := hid (fun (V : World) (k : Kp No w V) => has_no V v t p (h.kept k) (by omega) hr hx)
      rw [hx] at HM
      simp only at HM
      rw [HM.out]
      clear h hs hx hr HM
      go_enter Tryd.func24, Tryd.ntmps24
      go_wp2_with (first | (go_at_call 33; refine (HH.out _ HK.out).mono ?_; rintro e w2 ⟨rfl, hk⟩; have HK2 := hid (HK.out.andNone hk); clear hk) | (go_at_call 32; refine HA.out.mono ?_; rintro e w1 ⟨rfl, hk⟩; have HK := hid (((Kp.refl No _).alloc _).andNone hk); clear hk))
      go_ret
      exact ⟨rfl, HK2.out⟩
    | some x =>
      have HH := hid (fun (V : World) (k : Kp No w V) => has_yes V v t p x (h.kept k) (by omega) hr hx)
      have HO := hid (fun (V : World) (k : Kp No w V) => home_any V v t q (h.kept k) (by omega) (by omega) hr)
      rw [hx] at HM
      simp only at HM
      by_cases ho : homeF t q = 0
      · rw [ho] at HO
        rw [if_pos ho] at HM
        clear ho
        by_cases hpq : p = q
        · rw [if_pos hpq] at HM
          rw [HM.out]
          have hpq' : (p.toList == q.toList) = true := by rw [str_eqP]; exact decide_eq_true hpq
          clear h hs hx hr HM hpq
          go_enter Tryd.func24, Tryd.ntmps24
          go_wp2_with (first | (go_at_call 34; refine (HO.out _ HK2.out).mono ?_; rintro e w3 ⟨rfl, hk⟩; have HK3 := hid (HK2.out.andNone hk); clear hk) | (go_at_call 33; refine (HH.out _ HK.out).mono ?_; rintro e w2 ⟨rfl, hk⟩; have HK2 := hid (HK.out.andNone hk); clear hk) | (go_at_call 32; refine HA.out.mono ?_; rintro e w1 ⟨rfl, hk⟩; have HK := hid (((Kp.refl No _).alloc _).andNone hk); clear hk))
          go_ret
          exact ⟨rfl, HK3.out⟩
        · rw [if_neg hpq] at HM
          have hpq' : (p.toList == q.toList) = false := by rw [str_eqP]; exact decide_eq_false hpq
          cases hy : look t q with
          | some y =>
            have HH2 := hid (fun (V : World) (k : Kp No w V) => has_yes V v t q y (h.kept k) (by omega) hr hy)
            rw [hy] at HM
            simp only at HM
            rw [HM.out]
            clear h hs hx hy hr HM hpq
            go_enter Tryd.func24, Tryd.ntmps24
            go_wp2_with (first | (go_at_call 33; refine (HH2.out _ HK3.out).mono ?_; rintro e w4 ⟨rfl, hk⟩; have HK4 := hid (HK3.out.andNone hk); clear hk) | (go_at_call 34; refine (HO.out _ HK2.out).mono ?_; rintro e w3 ⟨rfl, hk⟩; have HK3 := hid (HK2.out.andNone hk); clear hk) | (go_at_call 33; refine (HH.out _ HK.out).mono ?_; rintro e w2 ⟨rfl, hk⟩; have HK2 := hid (HK.out.andNone hk); clear hk) | (go_at_call 32; refine HA.out.mono ?_; rintro e w1 ⟨rfl, hk⟩; have HK := hid (((Kp.refl No _).alloc _).andNone hk); clear hk))
            go_ret
            exact ⟨rfl, HK4.out⟩
          | none =>
            have HH2 := hid (fun (V : World) (k : Kp No w V) => has_no V v t q (h.kept k) (by omega) hr hy)
            have HW := hid (fun V => within_any q p V)
            rw [hy] at HM
            simp only at HM
            cases hw : withinB (tx p) (tx q) with
            | true =>
              have hw' : withinB p.data.toList q.data.toList = true := hw
              rw [hw'] at HW
              rw [if_pos hw] at HM
              rw [HM.out]
              clear h hs hx hy hr HM hpq hw hw'
              go_enter Tryd.func24, Tryd.ntmps24
              go_wp2_with (first | (go_at_call 39; refine (HW.out _).mono ?_; rintro e w5 ⟨rfl, rfl⟩) | (go_at_call 33; refine (HH2.out _ HK3.out).mono ?_; rintro e w4 ⟨rfl, hk⟩; have HK4 := hid (HK3.out.andNone hk); clear hk) | (go_at_call 34; refine (HO.out _ HK2.out).mono ?_; rintro e w3 ⟨rfl, hk⟩; have HK3 := hid (HK2.out.andNone hk); clear hk) | (go_at_call 33; refine (HH.out _ HK.out).mono ?_; rintro e w2 ⟨rfl, hk⟩; have HK2 := hid (HK.out.andNone hk); clear hk) | (go_at_call 32; refine HA.out.mono ?_; rintro e w1 ⟨rfl, hk⟩; have HK := hid (((Kp.refl No _).alloc _).andNone hk); clear hk))
              go_ret
              exact ⟨rfl, HK4.out⟩
            | false =>
              have hw' : withinB p.data.toList q.data.toList = false := hw
              rw [hw'] at HW
              rw [if_neg (by rw [hw]; simp)] at HM
              rw [HM.out]
              clear h hs hx hy hr HM hpq hw hw'
              go_enter Tryd.func24, Tryd.ntmps24
              go_wp2_with (first | (go_at_call 39; refine (HW.out _).mono ?_; rintro e w5 ⟨rfl, rfl⟩) | (go_at_call 33; refine (HH2.out _ HK3.out).mono ?_; rintro e w4 ⟨rfl, hk⟩; have HK4 := hid (HK3.out.andNone hk); clear hk) | (go_at_call 34; refine (HO.out _ HK2.out).mono ?_; rintro e w3 ⟨rfl, hk⟩; have HK3 := hid (HK2.out.andNone hk); clear hk) | (go_at_call 33; refine (HH.out _ HK.out).mono ?_; rintro e w2 ⟨rfl, hk⟩; have HK2 := hid (HK.out.andNone hk); clear hk) | (go_at_call 32; refine HA.out.mono ?_; rintro e w1 ⟨rfl, hk⟩; have HK := hid (((Kp.refl No _).alloc _).andNone hk); clear hk))
              go_ret
              exact ⟨rfl, HK4.out⟩
      · rw [if_neg ho] at HM
        rw [HM.out]
        have ho' : (homeF t q != 0) = true := by simpa using ho
        generalize homeF t q = f at *
        clear h hs hx hr HM ho
        go_enter Tryd.func24, Tryd.ntmps24
        go_wp2_with (first | (go_at_call 34; refine (HO.out _ HK2.out).mono ?_; rintro e w3 ⟨rfl, hk⟩; have HK3 := hid (HK2.out.andNone hk); clear hk) | (go_at_call 33; refine (HH.out _ HK.out).mono ?_; rintro e w2 ⟨rfl, hk⟩; have HK2 := hid (HK.out.andNone hk); clear hk) | (go_at_call 32; refine HA.out.mono ?_; rintro e w1 ⟨rfl, hk⟩; have HK := hid (((Kp.refl No _).alloc _).andNone hk); clear hk))
        go_ret
        exact ⟨rfl, HK3.out⟩
  · rw [if_neg hf] at HM
    rw [HM.out]
    have hf' : (askedF t [p, q] != 0) = true := by simpa using hf
    generalize askedF t [p, q] = f at *
    clear HM hf h hs
    go_enter Tryd.func24, Tryd.ntmps24
    go_wp2_with (first | (go_at_call 32; refine HA.out.mono ?_; rintro e w1 ⟨rfl, hk⟩; have HK := hid (((Kp.refl No _).alloc _).andNone hk); clear hk))
    go_ret
    exact ⟨rfl, HK.out⟩

end Go.Proofs.YtdooiflmjeibdaaDoor.Tr
