/-
  rises; where an item stands (slices.BinarySearchFunc by strings.Compare); Bytes; Light.
-/
import Derived.Test.YtdooiflmjeibdaaDoorTrModel
namespace Go.Proofs.YtdooiflmjeibdaaDoor.Tr
open Go.RowKit

theorem IRow.get {P : Nat → Prop} {w : World} {v : Value} {xs : List It} (h : IRow P w v xs) {i : Nat} {x : It} (hx : xs[i]? = some x) : ∃ g o cap u, v = .slice (some ⟨g, o, none⟩) xs.length cap ∧ P g ∧ g < w.heap.size ∧
    w.cell? ⟨g, o + i * 3, none⟩ = some (.string x.1) ∧ w.cell? ⟨g, o + i * 3 + 1, none⟩ = some (.bool x.2.1) ∧ w.cell? ⟨g, o + i * 3 + 2, none⟩ = some u ∧ ByP P w u x.2.2 := by
  obtain ⟨a, cap, rfl, h1, h2, h3, h4⟩ := h
  obtain ⟨g, o, rfl, hg, hl, hc⟩ := h4 (by rintro rfl; simp at hx)
  obtain ⟨u, c0, c1, c2, hb⟩ := hc i x hx
  exact ⟨g, o, cap, u, rfl, hg, hl, c0, c1, c2, hb⟩
theorem IRow.form {P : Nat → Prop} {w : World} {v : Value} {xs : List It} (h : IRow P w v xs) : ∃ a cap, v = .slice a xs.length cap ∧ (xs ≠ [] → ∃ g o, a = some ⟨g, o, none⟩) := by
  obtain ⟨a, cap, rfl, h1, h2, h3, h4⟩ := h
  refine ⟨a, cap, rfl, fun hne => ?_⟩
  obtain ⟨g, o, e, _⟩ := h4 hne
  exact ⟨g, o, e⟩

theorem bl_bb : ∀ a b : Tx, Op.bytesLess a b = bytesBefore a b
  | [], [] => rfl
  | _ :: _, [] => rfl
  | [], _ :: _ => rfl
  | a :: x, b :: y => by rw [Op.bytesLess, bytesBefore, bl_bb x y]
theorem bless (a b : ByteArray) : Op.bytesLess a.toList b.toList = bytesBefore (tx a) (tx b) := by rw [bl_bb, ByteArray.toList_eq, ByteArray.toList_eq]

set_option maxHeartbeats 2000000 in
theorem rises_any (w : World) (v : Value) (t : List It) (h : IRow Any w v t) (hl : t.length ≤ 100000) : Calls Tryd.prog 20 #[v] w fun e w' => e = .returned (.bool (risesB t)) ∧ Kp No w w' := by
  have HI := hid h
  obtain ⟨a, cap, rfl, _⟩ := h.form
  clear h
  obtain ⟨n, hn⟩ : ∃ n, t.length = n := ⟨_, rfl⟩
  have HN := hid hn
  rw [hn] at hl HI ⊢
  clear hn
  go_enter Tryd.func20, Tryd.ntmps20
  go_wp2
  go_loopw [3] (fun x wr => ∃ i : Nat, x = .int .i64 i ∧ 1 ≤ i ∧ Hid (∀ j x y, j + 1 < i → t[j]? = some x → t[j + 1]? = some y → bytesBefore (tx x.1) (tx y.1) = true) ∧ Hid (Kp No w wr)) (fun x _ => n - (intOf x).toNat)
  case atStart => exact ⟨1, rfl, Nat.le_refl _, fun j x y h => by omega, Kp.refl _ _⟩
  case round =>
    obtain ⟨i, rfl, hi, HR, HK⟩ := hrel
    by_cases hlt : i < n
    · have hltI : (i : Int) < (n : Int) := by omega
      obtain ⟨k, rfl⟩ : ∃ k, i = k + 1 := ⟨i - 1, by omega⟩
      obtain ⟨x, hx⟩ : ∃ x, t[k]? = some x := ⟨_, List.getElem?_eq_getElem (by rw [HN.out]; omega)⟩
      obtain ⟨y, hy⟩ : ∃ y, t[k + 1]? = some y := ⟨_, List.getElem?_eq_getElem (by rw [HN.out]; omega)⟩
      have HX := hid hx
      have HY := hid hy
      have hrow := HI.out.kept HK.out
      rw [← HN.out] at hrow
      obtain ⟨g, o, c', u, e, _, _, x0, x1, x2, _⟩ := hrow.get hx
      obtain ⟨g', o', c'', u', e', _, _, y0, y1, y2, _⟩ := hrow.get hy
      cases e
      cases e'
      have e1 : ((k + 1 : Nat) : Int) - 1 = (k : Int) := by omega
      have hk0 : (0 : Int) ≤ (k : Int) := by omega
      have hk1 : (k : Int) < (n : Int) := by omega
      have hL := bless x.1 y.1
      clear hx hy hrow x1 x2 y1 y2
      cases hb : bytesBefore (tx x.1) (tx y.1) with
      | false =>
        rw [hb] at hL
        have HB := hid hb
        clear hb
        go_wp2_with fail
        go_quiet (fail)
        go_wp2
        go_ret
        refine ⟨?_, HK.out.drewN nq⟩
        have : risesB t = false := by
          cases e : risesB t with
          | false => rfl
          | true =>
            have := (rises_adj t).1 e k x y HX.out HY.out
            rw [HB.out] at this
            cases this
        rw [this]
        rfl
      | true =>
        rw [hb] at hL
        have HB := hid hb
        clear hb
        go_wp2_with fail
        go_quiet (fail)
        go_wp2
        go_roundw
        case rel => exact ⟨k + 1 + 1, by go_num, by omega, fun j a b hj ha hb => by
          by_cases e : j = k
          · subst e
            have h1 := HX.out
            have h2 := HY.out
            rw [ha] at h1
            rw [hb] at h2
            cases h1
            cases h2
            exact HB.out
          · exact HR.out j a b (by omega) ha hb, HK.out.drewN nq⟩
        case measure => simp [intOf] <;> omega
    · have hltI : ¬ (i : Int) < (n : Int) := by omega
      go_wp2
      go_ret
      refine ⟨?_, HK.out⟩
      have : risesB t = true := (rises_adj t).2 (fun j x y hx hy => HR.out j x y (by have := (List.getElem?_eq_some_iff.1 hy).1; have := HN.out; omega) hx hy)
      rw [this]
      rfl

set_option maxHeartbeats 1000000 in
theorem at1_any (w : World) (s p : ByteArray) (d : Bool) (v : Value) : Calls Tryd.prog 36 #[.agg #[.string s, .bool d, v], .string p] w fun e w' => e = .returned (.int .i64 (Lib.compareBytes (tx s) (tx p))) ∧ Kp No w w' := by
  go_enter Tryd.func36, Tryd.ntmps36
  go_wp2_with (go_at_call 29; refine (compare_any _ _ _).mono ?_; rintro e w1 ⟨rfl, hw⟩; subst hw)
  go_ret
  exact ⟨rfl, (Kp.refl _ _).alloc _⟩

def AtAns (t : List It) (p : ByteArray) (e : Ending) : Prop := ∃ (i : Nat) (b : Bool), e = .returned (.tuple #[.int .i64 (i : Int), .bool b]) ∧ AtP t p i b
theorem AtAns.mk {t : List It} {p : ByteArray} {e : Ending} (i : Nat) (b : Bool) (h : e = .returned (.tuple #[.int .i64 (i : Int), .bool b])) (ha : AtP t p i b) : AtAns t p e := ⟨i, b, h, ha⟩

set_option maxHeartbeats 4000000 in
theorem bsearch_any (w : World) (v : Value) (t : List It) (p : ByteArray) (h : IRow Any w v t) (hl : t.length ≤ 100000) :
    Calls Tryd.prog 35 #[v, .string p, .func (.func 36) #[] #[]] w fun e w' => AtAns t p e ∧ Kp No w w' := by
  have HI := hid h
  obtain ⟨a, cap, rfl, _⟩ := h.form
  clear h
  obtain ⟨n, hn⟩ : ∃ n, t.length = n := ⟨_, rfl⟩
  have HN := hid hn
  rw [hn] at hl HI ⊢
  have HH0 : Hid (risesB t = true → Half t p 0 n) := fun _ => by rw [← hn]; exact Half.begin _ _
  clear hn
  go_enter Tryd.func35, Tryd.ntmps35
  go_wp2_with fail
  go_loopw [9, 10] (fun v9 v10 wr => ∃ (i j : Nat), v9 = .int .i64 (i : Int) ∧ v10 = .int .i64 (j : Int) ∧ i ≤ j ∧ j ≤ n ∧ Hid ((risesB t = true → Half t p i j) ∧ Kp No w wr)) (fun v9 v10 _ => (intOf v10).toNat - (intOf v9).toNat)
  case atStart => exact ⟨0, n, rfl, rfl, Nat.zero_le _, Nat.le_refl _, HH0.out, Kp.refl _ _⟩
  case round =>
    obtain ⟨i, j, rfl, rfl, hij, hjn, HS⟩ := hrel
    by_cases hlt : i < j
    · have hltI : (i : Int) < (j : Int) := by omega
      obtain ⟨h, hh⟩ : ∃ h, (i + j) / 2 = h := ⟨_, rfl⟩
      have hhI : ((i : Int) + (j : Int)) / 2 = (h : Int) := by omega
      have hih : i ≤ h ∧ h < j := by omega
      obtain ⟨x, hx⟩ : ∃ x, t[h]? = some x := ⟨_, List.getElem?_eq_getElem (by rw [HN.out]; omega)⟩
      have HX := hid hx
      have hrow := HI.out.kept HS.out.2
      rw [← HN.out] at hrow
      obtain ⟨g, o, c', u, e, _, _, x0, x1, x2, _⟩ := hrow.get hx
      cases e
      have hhN : (h : Int) < (n : Int) := by omega
      have hh0 : (0 : Int) ≤ (h : Int) := by omega
      have hwh : IntKind.i64.wrap ((h : Int) + 1) = ((h + 1 : Nat) : Int) := by rw [IntKind.wrap_i64]; omega
      have hcn := hid (cmp_neg (tx x.1) (tx p))
      obtain ⟨z, hz⟩ : ∃ z, Lib.compareBytes (tx x.1) (tx p) = z := ⟨_, rfl⟩
      have hA := fun W => at1_any W x.1 p x.2.1 u
      rw [hz] at hcn
      simp only [hz] at hA
      clear hx hrow hz
      by_cases hneg : z < 0
      · go_wp2_with (go_at_call 36; refine (hA _).mono ?_; rintro e w1 ⟨rfl, hk⟩; have HK1 := hid hk; clear hk)
        go_roundw
        case rel => exact ⟨h + 1, j, by go_num, rfl, by omega, by omega, fun hr => (HS.out.1 hr).yes (rises_pair _ hr) HX.out (hcn.out.1 hneg), HS.out.2.andNone HK1.out⟩
        case measure => simp [intOf] <;> omega
      · go_wp2_with (go_at_call 36; refine (hA _).mono ?_; rintro e w1 ⟨rfl, hk⟩; have HK1 := hid hk; clear hk)
        go_roundw
        case rel => exact ⟨i, h, rfl, rfl, by omega, by omega, fun hr => (HS.out.1 hr).no (rises_pair _ hr) HX.out (by
          cases hb : bytesBefore (tx x.1) (tx p) with
          | false => rfl
          | true => exact absurd (hcn.out.2 hb) (by omega)), HS.out.2.andNone HK1.out⟩
        case measure => simp [intOf] <;> omega
    · obtain rfl : i = j := by omega
      have hltI : ¬ (i : Int) < (i : Int) := by omega
      by_cases hin : i < n
      · have hinI : (i : Int) < (n : Int) := by omega
        have hi0 : (0 : Int) ≤ (i : Int) := by omega
        obtain ⟨x, hx⟩ : ∃ x, t[i]? = some x := ⟨_, List.getElem?_eq_getElem (by rw [HN.out]; omega)⟩
        have HX := hid hx
        have hrow := HI.out.kept HS.out.2
        rw [← HN.out] at hrow
        obtain ⟨g, o, c', u, e, _, _, x0, x1, x2, _⟩ := hrow.get hx
        cases e
        have hcn := hid (cmp_zero (tx x.1) (tx p))
        obtain ⟨z, hz⟩ : ∃ z, Lib.compareBytes (tx x.1) (tx p) = z := ⟨_, rfl⟩
        have hA := fun W => at1_any W x.1 p x.2.1 u
        rw [hz] at hcn
        simp only [hz] at hA
        clear hx hrow hz
        by_cases h0 : z = 0
        · subst h0
          go_wp2_with (go_at_call 36; refine (hA _).mono ?_; rintro e w1 ⟨rfl, hk⟩; have HK1 := hid hk; clear hk)
          go_ret2
          exact ⟨AtAns.mk i true rfl (And.intro (by have := HN.out; omega) ⟨⟨fun _ => ⟨x, HX.out, ba_eq.2 (hcn.out.1 (by first | rfl | trivial))⟩, fun _ => rfl⟩, HS.out.1⟩), HS.out.2.andNone HK1.out⟩
        · have h0' : (z == 0) = false := by simpa using h0
          go_wp2_with (go_at_call 36; refine (hA _).mono ?_; rintro e w1 ⟨rfl, hk⟩; have HK1 := hid hk; clear hk)
          go_ret2
          refine ⟨AtAns.mk i false rfl (And.intro (by have := HN.out; omega) ⟨⟨fun h => (by cases h), fun ⟨y, hy, ey⟩ => ?_⟩, HS.out.1⟩), HS.out.2.andNone HK1.out⟩
          rw [HX.out] at hy
          cases hy
          exact absurd (hcn.out.2 (by rw [ey])) h0
      · have hinI : ¬ (i : Int) < (n : Int) := by omega
        go_wp2
        go_ret2
        exact ⟨AtAns.mk i false rfl (And.intro (by have := HN.out; omega) ⟨⟨fun h => (by cases h), fun ⟨x, hx, _⟩ => (by have := (List.getElem?_eq_some_iff.1 hx).1; have := HN.out; omega)⟩, HS.out.1⟩), HS.out.2⟩

set_option maxHeartbeats 1000000 in
theorem at_any (w : World) (v : Value) (t : List It) (p : ByteArray) (h : IRow Any w v t) (hl : t.length ≤ 100000) :
    Calls Tryd.prog 18 #[v, .string p] w fun e w' => AtAns t p e ∧ Kp No w w' := by
  have HB := hid (bsearch_any w v t p h hl)
  clear h
  go_enter Tryd.func18, Tryd.ntmps18
  go_wp2_with (go_at_call 35; refine HB.out.mono ?_; rintro e w1 ⟨⟨i, b, rfl, ha⟩, hk⟩; have HA := hid ha; have HK := hid hk; clear ha hk)
  go_ret2
  exact ⟨AtAns.mk i b rfl HA.out, HK.out⟩

end Go.Proofs.YtdooiflmjeibdaaDoor.Tr
