/-
  Do, of the law: each change of a tree of the call's own.
-/
import Derived.Test.YtdooiflmjeibdaaDoorTrKeepM
namespace Go.Proofs.YtdooiflmjeibdaaDoor.Tr
open Go.RowKit

/-- What a change leaves of a tree: a tree of the call's own that is right, if it may be. -/
def Done (w : World) (e : Ending) (w' : World) : Prop := ∃ v' f ys, e = .returned (.tuple #[v', .int .i64 f]) ∧ Kp No w w' ∧ (f = 0 → IOwn w' v' ys ∧ rightB ys = true)
theorem Chd.done {w w' : World} {e : Ending} {r : Int × List It} (h : Chd w r e w') (hr : r.1 = 0 → rightB r.2 = true) : Done w e w' := by
  obtain ⟨v', he, ho, _, k⟩ := h
  exact ⟨v', r.1, r.2, he, k, fun h0 => ⟨ho, hr h0⟩⟩

set_option maxHeartbeats 4000000 in
theorem do_any (w : World) (v vb : Value) (t : List It) (k n : Int) (p q : ByteArray) (b : List Nat) (h : IOwn w v t) (ht : rightB t = true) (hs : ∀ y ∈ t, ShortI y) (hp : p.size ≤ 10000) (hq : q.size ≤ 10000) (hb : ByP Any w vb b) :
    Calls Tryd.prog 16 #[v, .agg #[.int .i64 k, .int .i64 n, .string p, .string q, vb]] w fun e w' => Done w e w' := by
  have hl := (right_rises ht).2
  have hk0 : Kp No w (w.alloc (.cells #[.int .i64 k, .int .i64 n, .string p, .string q, vb] 44)) := (Kp.refl _ _).alloc _
  have hr := h.row.kept hk0
  have HD0 : Hid (∀ w2, Kp No w w2 → Done w (.returned (.tuple #[v, .int .i64 0])) w2) := fun w2 k2 => ⟨v, 0, t, rfl, k2, fun _ => ⟨h.kept k2, ht⟩⟩
  have HM := hid (mkdir_any _ v t p hr (by omega) hs hp)
  have HW := hid (write_any _ v vb t p b hr (by omega) hs hp (hb.kept hk0))
  have HR := hid (remove_any _ v t p (n == 1) hr (by omega) hs hp)
  have HN := hid (rename_any _ v t p q hr (by omega) hs hp hq)
  have up : ∀ (e : Ending) (w' : World), Done (w.alloc (.cells #[.int .i64 k, .int .i64 n, .string p, .string q, vb] 44)) e w' → Done w e w' := by
    rintro e w' ⟨v', f, ys, he, hk, hh⟩
    exact ⟨v', f, ys, he, hk0.andNone hk, hh⟩
  have HUP := hid up
  obtain ⟨ab, cb, rfl⟩ := hb.form
  clear h hs hb ht hr up
  by_cases k0 : k = 0
  · subst k0
    go_enter Tryd.func16, Tryd.ntmps16
    go_wp2_with (go_at_call 15; refine HM.out.mono ?_; rintro e w2 hc; have HC := hid (HUP.out _ _ (hc.done mkdir_right)); obtain ⟨v', rfl, _⟩ := hc)
    go_ret2
    exact HC.out
  by_cases k1 : k = 1
  · subst k1
    go_enter Tryd.func16, Tryd.ntmps16
    go_wp2_with (go_at_call 7; refine HW.out.mono ?_; rintro e w2 hc; have HC := hid (HUP.out _ _ (hc.done (fun h => (write_right h).1))); obtain ⟨v', rfl, _⟩ := hc)
    go_ret2
    exact HC.out
  by_cases k2 : k = 2
  · subst k2
    go_enter Tryd.func16, Tryd.ntmps16
    go_wp2_with (go_at_call 14; refine HR.out.mono ?_; rintro e w2 hc; have HC := hid (HUP.out _ _ (hc.done (fun h => (remove_right h).1))); obtain ⟨v', rfl, _⟩ := hc)
    go_ret2
    exact HC.out
  by_cases k3 : k = 3
  · subst k3
    go_enter Tryd.func16, Tryd.ntmps16
    go_wp2_with (go_at_call 11; refine HN.out.mono ?_; rintro e w2 ⟨r, hr, hc⟩; have HC := hid (HUP.out _ _ (hc.done (fun h => (rename_right hr h).1))); obtain ⟨v', rfl, _⟩ := hc)
    go_ret2
    exact HC.out
  have b0 : (k == 0) = false := by simpa using k0
  have b1 : (k == 1) = false := by simpa using k1
  have b2 : (k == 2) = false := by simpa using k2
  have b3 : (k == 3) = false := by simpa using k3
  go_enter Tryd.func16, Tryd.ntmps16
  go_wp2
  go_ret2
  exact HD0.out _ hk0

end Go.Proofs.YtdooiflmjeibdaaDoor.Tr
