/-
  slices.IndexFunc and ContainsFunc over trees; Right; Find.
-/
import Derived.Test.YtdooiflmjeibdaaDoorTrFind
namespace Go.Proofs.YtdooiflmjeibdaaDoor.Tr
open Go.RowKit

/-- The place of the first one of which pr. -/
def IdxP (t : List It) (pr : It → Bool) (r : Int) : Prop := (r = -1 ∧ ∀ x ∈ t, pr x = false) ∨ ∃ (i : Nat) (x : It), r = (i : Int) ∧ t[i]? = some x ∧ pr x = true ∧ ∀ j y, j < i → t[j]? = some y → pr y = false
def IdxAns (t : List It) (pr : It → Bool) (e : Ending) : Prop := ∃ r : Int, e = .returned (.int .i64 r) ∧ IdxP t pr r
theorem IdxAns.mk {t : List It} {pr : It → Bool} {e : Ending} (r : Int) (h : e = .returned (.int .i64 r)) (ha : IdxP t pr r) : IdxAns t pr e := ⟨r, h, ha⟩
theorem idx_some {t : List It} {pr : It → Bool} {i : Nat} {x : It} (hx : t[i]? = some x) (h1 : pr x = true) (h : ∀ j y, j < i → t[j]? = some y → pr y = false) : IdxP t pr i := .inr ⟨i, x, rfl, hx, h1, h⟩
theorem idx_none {t : List It} {pr : It → Bool} {n : Nat} (hn : t.length ≤ n) (h : ∀ j y, j < n → t[j]? = some y → pr y = false) : IdxP t pr (-1) := .inl ⟨rfl, fun x hx => by
  obtain ⟨j, hj⟩ := List.mem_iff_getElem?.1 hx
  exact h j x (by have := (List.getElem?_eq_some_iff.1 hj).1; omega) hj⟩
theorem IdxP.any {t : List It} {pr : It → Bool} {r : Int} (h : IdxP t pr r) : decide (0 ≤ r) = t.any pr := by
  rcases h with ⟨rfl, h⟩ | ⟨i, x, rfl, hx, h1, _⟩
  · have : t.any pr = false := List.any_eq_false.2 (fun x hx => by rw [h x hx]; simp)
    rw [this]
    rfl
  · have : t.any pr = true := List.any_eq_true.2 ⟨x, List.mem_of_getElem? hx, h1⟩
    rw [this]
    exact decide_eq_true (by omega)
theorem IdxP.find {t : List It} {p : ByteArray} {r : Int} (h : IdxP t (fun x => decide (x.1 = p)) r) : (r = -1 ∧ look t p = none) ∨ ∃ (i : Nat) (x : It), r = (i : Int) ∧ t[i]? = some x ∧ look t p = some x := by
  rcases h with ⟨rfl, h⟩ | ⟨i, x, rfl, hx, h1, h2⟩
  · exact .inl ⟨rfl, List.find?_eq_none.2 (fun x hx => by have := h x hx; simpa using this)⟩
  · refine .inr ⟨i, x, rfl, hx, ?_⟩
    obtain ⟨hi, rfl⟩ := List.getElem?_eq_some_iff.1 hx
    rw [look, List.find?_eq_some_iff_append]
    refine ⟨h1, t.take i, t.drop (i + 1), ?_, fun y hy => ?_⟩
    · rw [← List.drop_eq_getElem_cons hi, List.take_append_drop]
    · obtain ⟨j, hj⟩ := List.mem_iff_getElem?.1 hy
      have hji : j < i := by
        have := (List.getElem?_eq_some_iff.1 hj).1
        rw [List.length_take] at this
        omega
      rw [List.getElem?_take_of_lt hji] at hj
      have := h2 j y hji hj
      simpa using this


set_option maxHeartbeats 4000000 in
theorem index_wrong (w : World) (v : Value) (t : List It)  (h : IRow Any w v t) (hl : t.length ≤ 100000)
    (hf : ∀ (V : World) (x : It) (u : Value), Kp No w V → x ∈ t → ByP Any V u x.2.2 → Calls Tryd.prog 64 #[v, .agg #[.string x.1, .bool x.2.1, u]] V fun e w' => e = .returned (.bool (wrongB t x)) ∧ Kp No V w') :
    Calls Tryd.prog 21 #[v, .func (.func 64) #[v] #[]] w fun e w' => IdxAns t (wrongB t) e ∧ Kp No w w' := by
  have HF := hid hf
  obtain ⟨pr, hpr⟩ : ∃ pr : It → Bool, (wrongB t) = pr := ⟨_, rfl⟩
  rw [hpr] at HF ⊢
  have HI := hid h
  obtain ⟨a, cap, rfl, hform⟩ := h.form
  obtain ⟨n, hn⟩ : ∃ n, t.length = n := ⟨_, rfl⟩
  have HN := hid hn
  rw [hn] at hl HI ⊢
  try rw [hn] at HF
  have hcl := hid (fun (hne : t ≠ []) => h.cells hne)
  rw [hn] at hcl
  clear hn h hf hpr hform
  go_enter Tryd.func21, Tryd.ntmps21
  go_wp2_with fail
  go_loopw [8] (fun x wr => ∃ i : Nat, x = .int .i64 i ∧ i ≤ n ∧ Hid ((∀ j y, j < i → t[j]? = some y → pr y = false) ∧ Kp No w wr)) (fun x _ => n - (intOf x).toNat)
  case atStart => exact ⟨0, rfl, Nat.zero_le _, fun j y h => absurd h (Nat.not_lt_zero _), Kp.refl _ _⟩
  case round =>
    obtain ⟨i, rfl, hi, HS⟩ := hrel
    by_cases hlt : i < n
    · have hltI : (i : Int) < (n : Int) := by omega
      have hi0 : (0 : Int) ≤ (i : Int) := by omega
      obtain ⟨x, hx⟩ : ∃ x, t[i]? = some x := ⟨_, List.getElem?_eq_getElem (by rw [HN.out]; omega)⟩
      have HX := hid hx
      obtain ⟨g, o, c', e, hc⟩ := hcl.out (by rintro rfl; simp at hx)
      cases e
      obtain ⟨u, c0, c1, c2, hb⟩ := hc _ HS.out.2 i x hx
      have HC := hid (HF.out wr x u HS.out.2 (List.mem_of_getElem? hx) hb)
      clear hx hc hb
      cases hp : pr x with
      | true =>
        rw [hp] at HC
        have HP := hid hp
        clear hp
        go_wp2_with (go_at_call 64; refine HC.out.mono ?_; rintro e w1 ⟨rfl, hk⟩; have HK1 := hid hk; clear hk)
        go_ret
        exact ⟨IdxAns.mk i rfl (idx_some HX.out HP.out HS.out.1), HS.out.2.andNone HK1.out⟩
      | false =>
        rw [hp] at HC
        have HP := hid hp
        clear hp
        go_wp2_with (go_at_call 64; refine HC.out.mono ?_; rintro e w1 ⟨rfl, hk⟩; have HK1 := hid hk; clear hk)
        go_roundw
        case rel => exact ⟨i + 1, by go_num, by omega, fun j y hj hy => by
          by_cases e : j = i
          · subst e
            have := HX.out
            rw [hy] at this
            cases this
            exact HP.out
          · exact HS.out.1 j y (by omega) hy, HS.out.2.andNone HK1.out⟩
        case measure => simp [intOf] <;> omega
    · have hltI : ¬ (i : Int) < (n : Int) := by omega
      go_wp2
      go_ret
      exact ⟨IdxAns.mk (-1) rfl (idx_none (n := i) (by rw [HN.out]; omega) HS.out.1), HS.out.2⟩

set_option maxHeartbeats 1000000 in
theorem find1_any (w : World) (s p : ByteArray) (d : Bool) (v : Value) (b : Nat) (hb : w.cell? ⟨b, 0, none⟩ = some (.string p)) :
    Calls Tryd.prog 22 #[.agg #[.string s, .bool d, v], .pointer (some ⟨b, 0, none⟩)] w fun e w' => e = .returned (.bool (decide (s = p))) ∧ Kp No w w' := by
  have hbl : b < w.heap.size := World.block_lt_of_cell? _ _ hb
  have e1 : (s.toList == p.toList) = decide (s = p) := by
    rw [Bool.eq_iff_iff, beq_iff_eq, decide_eq_true_eq, ByteArray.toList_eq, ByteArray.toList_eq, ba_eq]
  go_enter Tryd.func22, Tryd.ntmps22
  go_wp2
  go_ret
  refine ⟨?_, (Kp.refl _ _).alloc _⟩
  first | rfl | (rw [← e1]; rfl)

set_option maxHeartbeats 4000000 in
theorem index_find (w : World) (v : Value) (t : List It) (p : ByteArray) (b : Nat) (h : IRow Any w v t) (hl : t.length ≤ 100000)
    (hf : ∀ (V : World) (x : It) (u : Value), Kp No w V → x ∈ t → ByP Any V u x.2.2 → Calls Tryd.prog 22 #[.agg #[.string x.1, .bool x.2.1, u], .pointer (some ⟨b, 0, none⟩)] V fun e w' => e = .returned (.bool ((fun x : It => decide (x.1 = p)) x)) ∧ Kp No V w') :
    Calls Tryd.prog 21 #[v, .func (.func 22) #[] #[.pointer (some ⟨b, 0, none⟩)]] w fun e w' => IdxAns t (fun x => decide (x.1 = p)) e ∧ Kp No w w' := by
  have HF := hid hf
  obtain ⟨pr, hpr⟩ : ∃ pr : It → Bool, (fun x => decide (x.1 = p)) = pr := ⟨_, rfl⟩
  rw [hpr] at HF ⊢
  have HI := hid h
  obtain ⟨a, cap, rfl, hform⟩ := h.form
  obtain ⟨n, hn⟩ : ∃ n, t.length = n := ⟨_, rfl⟩
  have HN := hid hn
  rw [hn] at hl HI ⊢
  try rw [hn] at HF
  have hcl := hid (fun (hne : t ≠ []) => h.cells hne)
  rw [hn] at hcl
  clear hn h hf hpr hform
  go_enter Tryd.func21, Tryd.ntmps21
  go_wp2_with fail
  go_loopw [8] (fun x wr => ∃ i : Nat, x = .int .i64 i ∧ i ≤ n ∧ Hid ((∀ j y, j < i → t[j]? = some y → pr y = false) ∧ Kp No w wr)) (fun x _ => n - (intOf x).toNat)
  case atStart => exact ⟨0, rfl, Nat.zero_le _, fun j y h => absurd h (Nat.not_lt_zero _), Kp.refl _ _⟩
  case round =>
    obtain ⟨i, rfl, hi, HS⟩ := hrel
    by_cases hlt : i < n
    · have hltI : (i : Int) < (n : Int) := by omega
      have hi0 : (0 : Int) ≤ (i : Int) := by omega
      obtain ⟨x, hx⟩ : ∃ x, t[i]? = some x := ⟨_, List.getElem?_eq_getElem (by rw [HN.out]; omega)⟩
      have HX := hid hx
      obtain ⟨g, o, c', e, hc⟩ := hcl.out (by rintro rfl; simp at hx)
      cases e
      obtain ⟨u, c0, c1, c2, hb⟩ := hc _ HS.out.2 i x hx
      have HC := hid (HF.out wr x u HS.out.2 (List.mem_of_getElem? hx) hb)
      clear hx hc hb
      cases hp : pr x with
      | true =>
        rw [hp] at HC
        have HP := hid hp
        clear hp
        go_wp2_with (go_at_call 22; refine HC.out.mono ?_; rintro e w1 ⟨rfl, hk⟩; have HK1 := hid hk; clear hk)
        go_ret
        exact ⟨IdxAns.mk i rfl (idx_some HX.out HP.out HS.out.1), HS.out.2.andNone HK1.out⟩
      | false =>
        rw [hp] at HC
        have HP := hid hp
        clear hp
        go_wp2_with (go_at_call 22; refine HC.out.mono ?_; rintro e w1 ⟨rfl, hk⟩; have HK1 := hid hk; clear hk)
        go_roundw
        case rel => exact ⟨i + 1, by go_num, by omega, fun j y hj hy => by
          by_cases e : j = i
          · subst e
            have := HX.out
            rw [hy] at this
            cases this
            exact HP.out
          · exact HS.out.1 j y (by omega) hy, HS.out.2.andNone HK1.out⟩
        case measure => simp [intOf] <;> omega
    · have hltI : ¬ (i : Int) < (n : Int) := by omega
      go_wp2
      go_ret
      exact ⟨IdxAns.mk (-1) rfl (idx_none (n := i) (by rw [HN.out]; omega) HS.out.1), HS.out.2⟩

set_option maxHeartbeats 1000000 in
theorem contains_any (w : World) (v : Value) (t : List It) (h : IRow Any w v t) (hl : t.length ≤ 100000)
    (hf : ∀ (V : World) (x : It) (u : Value), Kp No w V → x ∈ t → ByP Any V u x.2.2 → Calls Tryd.prog 64 #[v, .agg #[.string x.1, .bool x.2.1, u]] V fun e w' => e = .returned (.bool (wrongB t x)) ∧ Kp No V w') :
    Calls Tryd.prog 63 #[v, .func (.func 64) #[v] #[]] w fun e w' => e = .returned (.bool (t.any (wrongB t))) ∧ Kp No w w' := by
  have HA := hid (index_wrong w v t h hl hf)
  clear h hf
  go_enter Tryd.func63, Tryd.ntmps63
  go_wp2_with (go_at_call 21; refine HA.out.mono ?_; rintro e w2 ⟨⟨r, rfl, hr⟩, hk⟩; have HK2 := hid hk; have HR := hid hr; clear hk hr)
  go_ret
  exact ⟨congrArg (fun b => Ending.returned (.bool b)) HR.out.any, HK2.out⟩

set_option maxHeartbeats 2000000 in
/-- Right. -/
theorem right_any (w : World) (v : Value) (t : List It) (h : IRow Any w v t) (hl : t.length ≤ 100000) (hs : ∀ x ∈ t, ShortI x) :
    Calls Tryd.prog 46 #[v] w fun e w' => e = .returned (.bool (rightB t)) ∧ Kp No w w' := by
  have HR : Hid (rightB t = (decide (t.length ≤ 60) && risesB t && !(t.any (wrongB t)))) := rfl
  have HRS := hid (fun (V : World) (k : Kp No w V) => rises_any V v t (h.kept k) hl)
  have HCF := hid (fun (V : World) (k : Kp No w V) (hr : risesB t = true) => contains_any V v t (h.kept k) hl (fun V' x u k' hx hu => wrong_any V' v u t x ((h.kept k).kept k') hl hr hu (hs x hx)))
  obtain ⟨a, cap, rfl, _⟩ := h.form
  obtain ⟨n, hn⟩ : ∃ n, t.length = n := ⟨_, rfl⟩
  rw [HR.out]
  rw [hn] at hl HRS HCF ⊢
  clear h hs HR hn
  by_cases h60 : n ≤ 60
  · have h60I : (n : Int) ≤ 60 := by omega
    rw [decide_eq_true h60]
    cases hr : risesB t with
    | false =>
      simp only [hr] at HRS
      go_enter Tryd.func46, Tryd.ntmps46
      go_wp2_with (go_at_call 20; refine (HRS.out _ (Kp.refl _ _)).mono ?_; rintro e w1 ⟨rfl, hk⟩; have HK := hid hk; clear hk)
      go_ret
      exact ⟨rfl, HK.out⟩
    | true =>
      have HC2 := hid (fun V k => HCF.out V k hr)
      simp only [hr] at HRS
      clear HCF
      generalize t.any (wrongB t) = q at *
      go_enter Tryd.func46, Tryd.ntmps46
      go_wp2_with (first | (go_at_call 20; refine (HRS.out _ (Kp.refl _ _)).mono ?_; rintro e w1 ⟨rfl, hk⟩; have HK := hid hk; clear hk) | (go_at_call 63; refine (HC2.out _ HK.out).mono ?_; rintro e w2 ⟨rfl, hk⟩; have HK2 := hid (HK.out.andNone hk); clear hk))
      go_ret
      exact ⟨rfl, HK2.out⟩
  · have h60I : ¬ (n : Int) ≤ 60 := by omega
    rw [decide_eq_false h60]
    go_enter Tryd.func46, Tryd.ntmps46
    go_wp2
    go_ret
    exact ⟨rfl, Kp.refl _ _⟩

end Go.Proofs.YtdooiflmjeibdaaDoor.Tr
