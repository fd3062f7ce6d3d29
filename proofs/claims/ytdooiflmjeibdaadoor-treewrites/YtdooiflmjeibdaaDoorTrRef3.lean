/-
  Same, Bytes, Light.
-/
import Derived.Test.YtdooiflmjeibdaaDoorTrRef2
namespace Go.Proofs.YtdooiflmjeibdaaDoor.Tr
open Go.RowKit

/-- Up to i both are alike. -/
def SameTo (a b : List It) (i : Nat) : Prop := ∀ j, j < i → a[j]? = b[j]?
theorem sameTo_done {a b : List It} {i : Nat} (h : SameTo a b i) (ha : a.length ≤ i) (hb : b.length = a.length) : a = b := by
  apply List.ext_getElem?
  intro j
  by_cases hj : j < i
  · exact h j hj
  · rw [List.getElem?_eq_none (by omega), List.getElem?_eq_none (by omega)]
theorem sameTo_step {a b : List It} {i : Nat} {x : It} (h : SameTo a b i) (hx : a[i]? = some x) (hy : b[i]? = some x) : SameTo a b (i + 1) := fun j hj => by
  by_cases e : j = i
  · rw [e, hx, hy]
  · exact h j (by omega)
theorem same_no {a b : List It} {i : Nat} {x y : It} (hx : a[i]? = some x) (hy : b[i]? = some y) (hne : x ≠ y) : a ≠ b := by
  rintro rfl
  rw [hx] at hy
  exact hne (Option.some.inj hy)

set_option maxHeartbeats 4000000 in
theorem eqfunc_any (w : World) (v q : Value) (a b : List It) (hv : IRow Any w v a) (hq : IRow Any w q b) (hl : a.length ≤ 100000) (hs : ∀ x ∈ a, ShortI x) :
    Calls Tryd.prog 30 #[v, q, .func (.func 31) #[] #[]] w fun e w' => e = .returned (.bool (decide (a = b))) ∧ Kp No w w' := by
  have HD : Hid (∀ q : Bool, (q = true ↔ a = b) → decide (a = b) = q) := fun q hq => by
    rw [Bool.eq_iff_iff, decide_eq_true_eq]
    exact hq.symm
  generalize decide (a = b) = r at *
  have ha := hid (fun (hne : a ≠ []) => hv.cells hne)
  have hb := hid (fun (hne : b ≠ []) => hq.cells hne)
  obtain ⟨a1, c1, rfl, _⟩ := hv.form
  obtain ⟨a2, c2, rfl, _⟩ := hq.form
  have HSH := hid hs
  obtain ⟨n, hn⟩ : ∃ n, a.length = n := ⟨_, rfl⟩
  obtain ⟨m, hm⟩ : ∃ m, b.length = m := ⟨_, rfl⟩
  have HN := hid hn
  have HM := hid hm
  rw [hn] at hl ha ⊢
  rw [hm] at hb ⊢
  clear hv hq hn hm hs
  by_cases hnm : n = m
  · subst hnm
    have e0 : ((n : Int) != (n : Int)) = false := by simp
    go_enter Tryd.func30, Tryd.ntmps30
    go_wp2_with fail
    go_loopw [17] (fun x wr => ∃ i : Nat, x = .int .i64 i ∧ i ≤ n ∧ Hid (SameTo a b i ∧ Kp No w wr)) (fun x _ => n - (intOf x).toNat)
    case atStart => exact ⟨0, rfl, Nat.zero_le _, fun j h => absurd h (Nat.not_lt_zero _), Kp.refl _ _⟩
    case round =>
      obtain ⟨i, rfl, hi, HS⟩ := hrel
      by_cases hlt : i < n
      · have hltI : (i : Int) < (n : Int) := by omega
        have hi0 : (0 : Int) ≤ (i : Int) := by omega
        obtain ⟨x, hx⟩ : ∃ x, a[i]? = some x := ⟨_, List.getElem?_eq_getElem (by rw [HN.out]; omega)⟩
        obtain ⟨y, hy⟩ : ∃ y, b[i]? = some y := ⟨_, List.getElem?_eq_getElem (by rw [HM.out]; omega)⟩
        obtain ⟨g, o, c', e, hca⟩ := ha.out (by rintro rfl; simp at hx)
        cases e
        obtain ⟨g', o', c'', e, hcb⟩ := hb.out (by rintro rfl; simp at hy)
        cases e
        obtain ⟨u, x0, x1, x2, hu⟩ := hca _ HS.out.2 i x hx
        have hk1 : Kp No w (wr.alloc (.cells #[.string x.1, .bool x.2.1, u] 33)) := HS.out.2.alloc _
        obtain ⟨u', y0, y1, y2, hu'⟩ := hcb _ hk1 i y hy
        obtain ⟨au, cu, rfl⟩ := hu.form
        obtain ⟨au', cu', rfl⟩ := hu'.form
        have HX := hid hx
        have HY := hid hy
        have HAL := hid (fun (V : World) (k : Kp No wr V) => alike_any V x y (.slice au x.2.2.length cu) (.slice au' y.2.2.length cu'))
        have HU := hid hu
        have HU' := hid hu'
        have HSX := hid (HSH.out x (List.mem_of_getElem? hx))
        clear hca hcb hx hy hu hu' hk1
        have HCALL : Hid (∀ V, Kp No (wr.alloc (.cells #[.string x.1, .bool x.2.1, .slice au x.2.2.length cu] 33)) V → Calls Tryd.prog 31 #[.agg #[.string x.1, .bool x.2.1, .slice au x.2.2.length cu], .agg #[.string y.1, .bool y.2.1, .slice au' y.2.2.length cu']] V fun e w' => e = .returned (.bool (decide (x = y))) ∧ Kp No V w') := fun V k => alike_any V x y _ _ ((HU.out.kept ((Kp.refl _ _).alloc _)).kept k) (HU'.out.kept k) HSX.out
        have HKV := hid (fun (V : World) (k : Kp No (wr.alloc (.cells #[.string x.1, .bool x.2.1, .slice au x.2.2.length cu] 33)) V) => (HS.out.2.alloc _).andNone k)
        by_cases hxy : x = y
        · simp only [decide_eq_true hxy] at HCALL
          have HXY := hid hxy
          clear hxy
          go_wp2_with (go_at_call 31; refine (HCALL.out _ ((Kp.refl _ _).alloc _)).mono ?_; rintro e w2 ⟨rfl, hk⟩; have HK2 := hid (HKV.out _ (((Kp.refl No _).alloc _).andNone hk)); clear hk)
          go_roundw
          case rel => exact ⟨i + 1, by go_num, by omega, sameTo_step HS.out.1 HX.out (by rw [HXY.out]; exact HY.out), HK2.out⟩
          case measure => simp [intOf] <;> omega
        · simp only [decide_eq_false hxy] at HCALL
          go_wp2_with (go_at_call 31; refine (HCALL.out _ ((Kp.refl _ _).alloc _)).mono ?_; rintro e w2 ⟨rfl, hk⟩; have HK2 := hid (HKV.out _ (((Kp.refl No _).alloc _).andNone hk)); clear hk)
          go_ret
          refine ⟨?_, HK2.out⟩
          rw [HD.out false ⟨fun h => (by cases h), fun h => absurd h (same_no HX.out HY.out hxy)⟩]
          rfl
      · have hltI : ¬ (i : Int) < (n : Int) := by omega
        go_wp2
        go_ret
        refine ⟨?_, HS.out.2⟩
        rw [HD.out true ⟨fun _ => sameTo_done HS.out.1 (by rw [HN.out]; omega) (by rw [HN.out, HM.out]), fun _ => rfl⟩]
        rfl
  · have e0 : ((n : Int) != (m : Int)) = true := by simp; omega
    rw [HD.out false ⟨fun h => (by cases h), fun h => (by have h1 := HN.out; rw [h, HM.out] at h1; exact absurd h1.symm hnm)⟩]
    go_enter Tryd.func30, Tryd.ntmps30
    go_wp2
    go_ret
    exact ⟨rfl, Kp.refl _ _⟩

set_option maxHeartbeats 1000000 in
theorem same_any (w : World) (v q : Value) (a b : List It) (hv : IRow Any w v a) (hq : IRow Any w q b) (hl : a.length ≤ 100000) (hs : ∀ x ∈ a, ShortI x) :
    Calls Tryd.prog 12 #[v, q] w fun e w' => e = .returned (.bool (decide (a = b))) ∧ Kp No w w' := by
  have HE := hid (eqfunc_any w v q a b hv hq hl hs)
  clear hv hq hs
  generalize decide (a = b) = r at *
  go_enter Tryd.func12, Tryd.ntmps12
  go_wp2_with (go_at_call 30; refine HE.out.mono ?_; rintro e w2 ⟨rfl, hk⟩; have HK2 := hid hk; clear hk)
  go_ret
  exact ⟨rfl, HK2.out⟩


end Go.Proofs.YtdooiflmjeibdaaDoor.Tr
