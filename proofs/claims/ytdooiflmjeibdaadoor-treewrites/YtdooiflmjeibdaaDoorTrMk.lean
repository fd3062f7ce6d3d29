/-
  Mkdir.
-/
import Derived.Test.YtdooiflmjeibdaaDoorTrBars
namespace Go.Proofs.YtdooiflmjeibdaaDoor.Tr
open Go.RowKit

/-- What a change of a tree leaves: the fault, and the tree, in new memory. -/
def Chd (w : World) (r : Int × List It) (e : Ending) (w' : World) : Prop := ∃ v', e = .returned (.tuple #[v', .int .i64 r.1]) ∧ IOwn w' v' r.2 ∧ (∀ b, v'.ownBlock = some b → w.heap.size ≤ b) ∧ Kp No w w'
theorem Chd.no {w w' : World} {e : Ending} {f : Int} (h : e = .returned (.tuple #[.slice none 0 0, .int .i64 f])) (k : Kp No w w') : Chd w (f, []) e w' := ⟨_, h, IOwn.nil _, by simp [Value.ownBlock], k⟩
theorem Chd.mk {w w' : World} {e : Ending} {f : Int} {ys : List It} (v' : Value) (h : e = .returned (.tuple #[v', .int .i64 f])) (ho : IOwn w' v' ys) (hb : ∀ b, v'.ownBlock = some b → w.heap.size ≤ b) (k : Kp No w w') : Chd w (f, ys) e w' := ⟨v', h, ho, hb, k⟩

set_option maxHeartbeats 4000000 in
/-- Mkdir. -/
theorem mkdir_any (w : World) (v : Value) (t : List It) (p : ByteArray) (h : IRow Any w v t) (hl : t.length ≤ 1000) (hs : ∀ y ∈ t, ShortI y) (hp : p.size ≤ 10000) :
    Calls Tryd.prog 15 #[v, .string p] w fun e w' => Chd w (mkdirR t p) e w' := by
  have HB := hid (bars_any w v t p h hl hs (by omega))
  have HM : Hid (mkdirR t p = if barsF t p = 0 then (if (look t p).isSome then (6, []) else if 60 ≤ t.length then (2, []) else (0, putL t (p, true, []))) else (barsF t p, [])) := rfl
  by_cases hf : barsF t p = 0
  · rw [if_pos hf] at HM
    have hr := right_rises (bars_right hf)
    rw [hf] at HB
    cases hx : look t p with
    | some x =>
      have HH := hid (fun (V : World) (k : Kp No w V) => has_yes V v t p x (h.kept k) (by omega) hr.1 hx)
      simp only [hx, Option.isSome_some, if_true] at HM
      rw [HM.out]
      clear h hs hx hr hf HM
      go_enter Tryd.func15, Tryd.ntmps15
      go_wp2_with (first | (go_at_call 17; refine HB.out.mono ?_; rintro e w1 ⟨rfl, hk⟩; have HK := hid hk; clear hk) | (go_at_call 33; refine (HH.out _ HK.out).mono ?_; rintro e w2 ⟨rfl, hk⟩; have HK2 := hid (HK.out.andNone hk); clear hk))
      go_ret2
      exact Chd.no rfl HK2.out
    | none =>
      have HH := hid (fun (V : World) (k : Kp No w V) => has_no V v t p (h.kept k) (by omega) hr.1 hx)
      by_cases h60 : 60 ≤ t.length
      · have HW := hid (fun (V : World) (k : Kp No w V) => with_full V v (.slice none 0 0) t (p, true, []) (h.kept k) hs hr.1 (by omega) hx)
        simp only [hx, Option.isSome_none, Bool.false_eq_true, if_false, if_pos h60] at HM
        rw [HM.out]
        clear h hs hx hr hf HM
        go_enter Tryd.func15, Tryd.ntmps15
        go_wp2_with (first | (go_at_call 17; refine HB.out.mono ?_; rintro e w1 ⟨rfl, hk⟩; have HK := hid hk; clear hk) | (go_at_call 33; refine (HH.out _ HK.out).mono ?_; rintro e w2 ⟨rfl, hk⟩; have HK2 := hid (HK.out.andNone hk); clear hk) | (go_at_call 19; refine (HW.out _ HK2.out).mono ?_; rintro e w3 ⟨rfl, hk⟩; have HK3 := hid (HK2.out.andNone hk); clear hk))
        go_ret2
        exact Chd.no rfl HK3.out
      · have HW := hid (fun (V : World) (k : Kp No w V) => with_ins V v (.slice none 0 0) t (p, true, []) (h.kept k) hs hr.1 (by omega) hx (ByP.nil _ _) ⟨hp, by simp⟩)
        simp only [hx, Option.isSome_none, Bool.false_eq_true, if_false, if_neg h60] at HM
        rw [HM.out]
        clear h hs hx hr hf HM
        go_enter Tryd.func15, Tryd.ntmps15
        go_wp2_with (first | (go_at_call 17; refine HB.out.mono ?_; rintro e w1 ⟨rfl, hk⟩; have HK := hid hk; clear hk) | (go_at_call 33; refine (HH.out _ HK.out).mono ?_; rintro e w2 ⟨rfl, hk⟩; have HK2 := hid (HK.out.andNone hk); clear hk) | (go_at_call 19; refine (HW.out _ HK2.out).mono ?_; rintro e w3 ⟨v', rfl, ho, hb, hk⟩; have HO := hid ho; have HBB := hid hb; have HK3 := hid (HK2.out.andNone hk); have HZ := hid HK2.out.size; clear ho hb hk))
        go_ret2
        exact Chd.mk v' rfl HO.out (fun b e => Nat.le_trans HZ.out (HBB.out b e)) HK3.out
  · rw [if_neg hf] at HM
    rw [HM.out]
    have hf' : (barsF t p != 0) = true := by simpa using hf
    generalize barsF t p = f at *
    clear h hs HM
    go_enter Tryd.func15, Tryd.ntmps15
    go_wp2_with (go_at_call 17; refine HB.out.mono ?_; rintro e w1 ⟨rfl, hk⟩; have HK := hid hk; clear hk)
    go_ret2
    exact Chd.no rfl HK.out

end Go.Proofs.YtdooiflmjeibdaaDoor.Tr
