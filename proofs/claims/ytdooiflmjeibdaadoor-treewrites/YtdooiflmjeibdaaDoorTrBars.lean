/-
  bars.
-/
import Derived.Test.YtdooiflmjeibdaaDoorTrAsked
namespace Go.Proofs.YtdooiflmjeibdaaDoor.Tr
open Go.RowKit

set_option maxHeartbeats 4000000 in
theorem bars_any (w : World) (v : Value) (t : List It) (p : ByteArray) (h : IRow Any w v t) (hl : t.length ≤ 1000) (hs : ∀ y ∈ t, ShortI y) (hp : p.size ≤ 1000000) :
    Calls Tryd.prog 17 #[v, .string p] w fun e w' => e = .returned (.int .i64 (barsF t p)) ∧ Kp No w w' := by
  have hk0 : Kp No w (w.alloc (.cells #[.string p] 9)) := (Kp.refl _ _).alloc _
  have HA := hid (asked_any (w.alloc (.cells #[.string p] 9)) v t w.heap.size [p] (h.kept hk0) hl hs (Blk.new w 9 [.string p]) (by simp) (by simpa using hp))
  have HH := hid (fun (V : World) (k : Kp No w V) (hr : risesB t = true) => home_any V v t p (h.kept k) (by omega) hp hr)
  have HB : Hid (barsF t p = if rightB t then (if pathB (tx p) then homeF t p else 10) else 1) := rfl
  have HAF : Hid (askedF t [p] = if rightB t then (if pathB (tx p) then 0 else 10) else 1) := by unfold Hid askedF; simp
  have HRI := hid (fun h : rightB t = true => (right_rises h).1)
  simp only [List.length_cons, List.length_nil, Nat.zero_add] at HA
  clear h hs
  cases hr : rightB t with
  | false =>
    simp only [hr] at HAF HB
    rw [HB.out]
    rw [HAF.out] at HA
    go_enter Tryd.func17, Tryd.ntmps17
    go_wp2_with (go_at_call 32; refine HA.out.mono ?_; rintro e w1 ⟨rfl, hk⟩; have HK := hid (((Kp.refl No _).alloc _).andNone hk); clear hk)
    go_ret
    exact ⟨rfl, HK.out⟩
  | true =>
    have HH2 := hid (fun V k => HH.out V k (HRI.out hr))
    simp only [hr, if_true] at HAF HB
    rw [HB.out]
    rw [HAF.out] at HA
    clear HAF HB HRI HH
    cases hb : pathB (tx p) with
    | false =>
      simp only [hb] at HA ⊢
      go_enter Tryd.func17, Tryd.ntmps17
      go_wp2_with (go_at_call 32; refine HA.out.mono ?_; rintro e w1 ⟨rfl, hk⟩; have HK := hid (((Kp.refl No _).alloc _).andNone hk); clear hk)
      go_ret
      exact ⟨rfl, HK.out⟩
    | true =>
      simp only [hb, if_true] at HA ⊢
      go_enter Tryd.func17, Tryd.ntmps17
      go_wp2_with (first | (go_at_call 32; refine HA.out.mono ?_; rintro e w1 ⟨rfl, hk⟩; have HK := hid (((Kp.refl No _).alloc _).andNone hk); clear hk) | (go_at_call 34; refine (HH2.out _ HK.out).mono ?_; rintro e w2 ⟨rfl, hk⟩; have HK2 := hid (HK.out.andNone hk); clear hk))
      go_ret
      exact ⟨rfl, HK2.out⟩

end Go.Proofs.YtdooiflmjeibdaaDoor.Tr
