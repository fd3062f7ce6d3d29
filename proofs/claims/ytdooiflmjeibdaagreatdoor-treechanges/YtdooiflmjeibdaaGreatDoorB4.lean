/- Of the proof: the texts TrEdit, TrWith, TrAsked, TrBars, TrMk, TrRem, TrStays, TrSort, TrSort2, TrRen, TrMovM, TrMovP, TrMovR, TrMovB, one behind the other. -/
import Derived.Test.YtdooiflmjeibdaaGreatDoorAbb
import Derived.Test.YtdooiflmjeibdaaGreatDoorB3
import Derived.Test.YtdooiflmjeibdaaGreatDoorTrSShelf
import Derived.Shelf.SlSortCmp.WholeK
section
/-
  with, asked, bars, Mkdir, Write, Remove.
-/
namespace Go.Proofs.YtdooiflmjeibdaaGreatDoor.Tr
open Go.RowKit

/-- A tree with x, in the place of what had its path. -/
def withL (t : List It) (x : It) (i : Nat) : List It := if (look t x.1).isSome then t.set i x else t.take i ++ x :: t.drop i
/-- An item's place in a row is written over. -/
theorem IOwn.set {w : World} {v : Value} {xs : List It} (h : IOwn w v xs) {i : Nat} {x : It} {u : Value} (hi : i < xs.length) (hu : ByU w u x.2.2) (h1 : u.oneCell' = true) :
    ∃ g cap, v = .slice (some ⟨g, 0, none⟩) xs.length cap ∧ g < w.heap.size ∧ TyAt w g 41 ∧
      (∀ j, j < 3 → ∃ c, w.cell? ⟨g, i * 3 + j, none⟩ = some c) ∧ (∀ j, j < 3 → w.frozen? ⟨g, i * 3 + j, none⟩ = false) ∧
      ∀ w', w' = ((w.setCell ⟨g, i * 3, none⟩ (.string x.1)).setCell ⟨g, i * 3 + 1, none⟩ (.bool x.2.1)).setCell ⟨g, i * 3 + 2, none⟩ u → IOwn w' v (xs.set i x) ∧ Kp (· = g) w w' := by
  obtain ⟨g, cap, cur, us, rfl, hh, hnc, hc, hs, ht, hus, hb⟩ := h.opened (by rintro rfl; simp at hi)
  have hB : Blk w g 41 cur := hh
  refine ⟨g, cap, rfl, hB.lt, hB.ty, fun j hj => ?_, fun j _ => hB.frozen _, fun w' hw' => ?_⟩
  · rw [hB.cell]
    exact ⟨_, List.getElem?_eq_getElem (by omega)⟩
  · have h3 := ((hB.setCell (i * 3) (.string x.1)).setCell (i * 3 + 1) (.bool x.2.1)).setCell (i * 3 + 2) u
    rw [← hw'] at h3
    have k : Kp (· = g) w w' := by
      rw [hw']
      exact (((Kp.refl (· = g) w).setCell (p := ⟨g, i * 3, none⟩) (.inl rfl) _).setCell (p := ⟨g, i * 3 + 1, none⟩) (.inl rfl) _).setCell (p := ⟨g, i * 3 + 2, none⟩) (.inl rfl) _
    have hL : ∀ b, b = g → b < w.heap.size → ¬ TyAt w b 5 := fun b e _ ty => by subst e; exact ty.ne hB.ty (by decide) rfl
    refine ⟨?_, k⟩
    have hl : (xs.set i x).length = xs.length := List.length_set
    rw [← hl]
    have hci : cellsI (xs.set i x) (us.set i u) = (((cellsI xs us).set (i * 3) (.string x.1)).set (i * 3 + 1) (.bool x.2.1)).set (i * 3 + 2) u := by
      apply List.ext_getElem?
      intro j
      by_cases hjl : j < xs.length * 3
      · have e : j = (j / 3) * 3 + j % 3 := by omega
        obtain ⟨q, r, hr, rfl⟩ : ∃ q r, r < 3 ∧ j = q * 3 + r := ⟨j / 3, j % 3, Nat.mod_lt _ (by decide), e⟩
        have hq : q < xs.length := by omega
        by_cases hqi : q = i
        · subst hqi
          rw [cellsI_at _ _ q x u r (by rw [List.getElem?_set_self hi]) (by rw [List.getElem?_set_self (by omega)]) hr]
          have hlc := cellsI_length xs us hus
          match r, hr with
          | 0, _ => rw [List.getElem?_set_ne (by omega), List.getElem?_set_ne (by omega), Nat.add_zero, List.getElem?_set_self (by omega)]; rfl
          | 1, _ => rw [List.getElem?_set_ne (by omega), List.getElem?_set_self (by rw [List.length_set]; omega)]; rfl
          | 2, _ => rw [List.getElem?_set_self (by rw [List.length_set, List.length_set]; omega)]; rfl
        · obtain ⟨y, hy⟩ : ∃ y, xs[q]? = some y := ⟨_, List.getElem?_eq_getElem hq⟩
          obtain ⟨p, hp⟩ : ∃ p, us[q]? = some p := ⟨_, List.getElem?_eq_getElem (by omega)⟩
          rw [cellsI_at _ _ q y p r (by rw [List.getElem?_set_ne (by omega)]; exact hy) (by rw [List.getElem?_set_ne (by omega)]; exact hp) hr,
            List.getElem?_set_ne (by omega), List.getElem?_set_ne (by omega), List.getElem?_set_ne (by omega), cellsI_at _ _ q y p r hy hp hr]
      · have h1 : (cellsI (xs.set i x) (us.set i u)).length ≤ j := by rw [cellsI_length _ _ (by rw [List.length_set, List.length_set]; exact hus), List.length_set]; omega
        have h2 : ((((cellsI xs us).set (i * 3) (.string x.1)).set (i * 3 + 1) (.bool x.2.1)).set (i * 3 + 2) u).length ≤ j := by rw [List.length_set, List.length_set, List.length_set, cellsI_length _ _ hus]; omega
        rw [List.getElem?_eq_none h1, List.getElem?_eq_none h2]
    refine IOwn.closed (us := us.set i u) h3 (by omega) hc (by simp [hs]) ?_ (by rw [List.length_set, List.length_set]; exact hus) (fun j y q hy hq => ?_)
    · rw [hl, hci, ← ht, List.take_set, List.take_set, List.take_set]
    · by_cases e : j = i
      · subst e
        rw [List.getElem?_set_self hi] at hy
        rw [List.getElem?_set_self (by omega)] at hq
        cases hy
        cases hq
        exact ⟨hu.kp k hL, h1⟩
      · rw [List.getElem?_set_ne (by omega)] at hy hq
        exact ⟨(hb j y q hy hq).1.kp k hL, (hb j y q hy hq).2⟩

end Go.Proofs.YtdooiflmjeibdaaGreatDoor.Tr
end

section
/-
  with.
-/
namespace Go.Proofs.YtdooiflmjeibdaaGreatDoor.Tr
open Go.RowKit

theorem under_all (t : List It) : underL t ⟨#[]⟩ = t := by
  rw [underL, List.filter_eq_self]
  intro x _
  simp [withinB, tx]
theorem putR_true (x : It) : ∀ t : List It, (∀ y ∈ t, y.1 ≠ x.1) → putR x t true = t
  | [], _ => rfl
  | y :: r, h => by
    rw [putR, if_neg (h y (List.mem_cons_self ..))]
    simp [putR_true x r (fun z hz => h z (List.mem_cons_of_mem _ hz))]
theorem putR_lead (x : It) : ∀ (a b : List It), (∀ y ∈ a, bytesBefore (tx y.1) (tx x.1) = true) → putR x (a ++ b) false = a ++ putR x b false
  | [], _, _ => rfl
  | y :: r, b, h => by
    have hy := h y (List.mem_cons_self ..)
    have hne : y.1 ≠ x.1 := fun e => by rw [e, bb_irr] at hy; cases hy
    rw [List.cons_append, putR, hy, if_neg hne]
    simp [putR_lead x r b (fun z hz => h z (List.mem_cons_of_mem _ hz))]
theorem half_take {t : List It} {p : ByteArray} {i j : Nat} (h : Half t p i j) : ∀ y ∈ t.take i, bytesBefore (tx y.1) (tx p) = true := by
  intro y hy
  obtain ⟨u, hu⟩ := List.mem_iff_getElem?.1 hy
  have hui : u < i := by
    have := (List.getElem?_eq_some_iff.1 hu).1
    rw [List.length_take] at this
    omega
  rw [List.getElem?_take_of_lt hui] at hu
  exact h.1 u y hui hu
theorem half_drop {t : List It} {p : ByteArray} {i j : Nat} (h : Half t p i j) : ∀ y ∈ t.drop j, bytesBefore (tx y.1) (tx p) = false := by
  intro y hy
  obtain ⟨u, hu⟩ := List.mem_iff_getElem?.1 hy
  rw [List.getElem?_drop] at hu
  exact h.2 (j + u) y (by omega) hu
theorem put_ins {t : List It} {x : It} {i : Nat} (h : Half t x.1 i i) (hn : look t x.1 = none) : t.take i ++ x :: t.drop i = putL t x := by
  have h1 : putL t x = putR x (t.take i ++ t.drop i) false := by rw [List.take_append_drop]; rfl
  rw [h1, putR_lead x _ _ (half_take h)]
  congr 1
  have hd := half_drop h
  have hne : ∀ y ∈ t.drop i, y.1 ≠ x.1 := fun y hy => look_none hn y (List.mem_of_mem_drop hy)
  cases hb : t.drop i with
  | nil => rfl
  | cons y r =>
    rw [hb] at hd hne
    rw [putR, hd y (List.mem_cons_self ..), if_neg (hne y (List.mem_cons_self ..))]
    simp [putR_true x r (fun z hz => hne z (List.mem_cons_of_mem _ hz))]
theorem put_set {t : List It} {x y : It} {i : Nat} (hr : Rises t) (hy : t[i]? = some y) (e : y.1 = x.1) : t.set i x = putL t x := by
  obtain ⟨hi, rfl⟩ := List.getElem?_eq_some_iff.1 hy
  have h1 : putL t x = putR x (t.take i ++ t.drop i) false := by rw [List.take_append_drop]; rfl
  have hlead : ∀ z ∈ t.take i, bytesBefore (tx z.1) (tx x.1) = true := by
    intro z hz
    obtain ⟨u, hu⟩ := List.mem_iff_getElem?.1 hz
    have hui : u < i := by
      have := (List.getElem?_eq_some_iff.1 hu).1
      rw [List.length_take] at this
      omega
    rw [List.getElem?_take_of_lt hui] at hu
    rw [← e]
    exact hr.lt hui hu hy
  have hbehind : ∀ z ∈ t.drop (i + 1), z.1 ≠ x.1 := by
    intro z hz ez
    obtain ⟨u, hu⟩ := List.mem_iff_getElem?.1 hz
    rw [List.getElem?_drop] at hu
    have := hr.lt (by omega : i < i + 1 + u) hy hu
    rw [e, ez, bb_irr] at this
    cases this
  rw [h1, putR_lead x _ _ hlead, List.set_eq_take_append_cons_drop, if_pos hi]
  congr 1
  rw [List.drop_eq_getElem_cons hi, putR, e, bb_irr]
  simp [putR_true x _ hbehind]

set_option maxHeartbeats 4000000 in
theorem with_full (w : World) (v u : Value) (t : List It) (x : It) (h : IRow Any w v t) (hs : ∀ y ∈ t, ShortI y) (hr : risesB t = true) (hl : t.length = 60) (hn : look t x.1 = none) :
    Calls Tryz.prog 28 #[v, .agg #[.string x.1, .bool x.2.1, u]] w fun e w' => e = .returned (.tuple #[.slice none 0 0, .int .i64 2]) ∧ Kp No w w' := by
  have HU := hid (fun (V : World) (k : Kp No w V) => under_any V v t ⟨#[]⟩ (h.kept k) (by omega) hs)
  rw [under_all] at HU
  have HA := hid (fun (V : World) (q : Value) (ho : IOwn V q t) => at_no V q t x.1 ho.row (by omega) hr hn)
  obtain ⟨s, d, bs⟩ := x
  simp only at HA hn
  clear h
  go_enter Tryz.func28, Tryz.ntmps28
  go_wp2_with (first
    | (go_at_call 15; refine (HU.out _ ((Kp.refl _ _).alloc _)).mono ?_; rintro e w1 ⟨a, n, c, rfl, ho, _, hk⟩; obtain ⟨a2, c2, e2⟩ := ho.form; rw [hl] at e2; cases e2; have HO := hid ho; have HK1 := hid (((Kp.refl No _).alloc _).andNone hk); obtain ⟨c0, c1, c2⟩ := box_it w (s, d, bs) u _ _ hk; have HJ := hid hk; clear ho hk)
    | (go_at_call 29; refine (HA.out _ _ HO.out).mono ?_; rintro e w2 ⟨i, rfl, _, hk⟩; have HK2 := hid (HK1.out.andNone hk); clear hk))
  go_ret2
  exact ⟨rfl, HK2.out⟩

set_option maxHeartbeats 4000000 in
theorem with_ins (w : World) (v u : Value) (t : List It) (x : It) (h : IRow Any w v t) (hs : ∀ y ∈ t, ShortI y) (hr : risesB t = true) (hl : t.length < 60) (hn : look t x.1 = none) (hu : ByP Any w u x.2.2) (hx : ShortI x) :
    Calls Tryz.prog 28 #[v, .agg #[.string x.1, .bool x.2.1, u]] w fun e w' => ∃ v', e = .returned (.tuple #[v', .int .i64 0]) ∧ IOwn w' v' (putL t x) ∧ (∀ b, v'.ownBlock = some b → w.heap.size ≤ b) ∧ Kp No w w' := by
  have HU := hid (fun (V : World) (k : Kp No w V) => under_any V v t ⟨#[]⟩ (h.kept k) (by omega) hs)
  rw [under_all] at HU
  have HA := hid (fun (V : World) (q : Value) (ho : IOwn V q t) => at_no V q t x.1 ho.row (by omega) hr hn)
  have HP := hid (fun (i : Nat) (hh : Half t x.1 i i) => put_ins hh hn)
  have HX : Hid (x.2.2.length ≤ 20000000) := by have := hx.2; unfold Hid; omega
  have HBU := hid hu
  have H256 := hid hu.lt256
  have HIN := hid (fun (V : World) (q p : Value) (vb i : Nat) (ho : IOwn V q t) (hvb : Blk V vb 41 (itC x p)) (hne : q.ownBlock ≠ some vb) (hpu : ByU V p x.2.2) (h1 : p.oneCell' = true) (hi : i ≤ t.length) => insert_any V q t x p vb i ho hvb hne hpu h1 (by omega) hi)
  have HC := hid (fun (V : World) (k : Kp No w V) => clone_it V x u (hu.kept k) HX.out)
  obtain ⟨s, d, bs⟩ := x
  obtain ⟨n, hN⟩ : ∃ n, t.length = n := ⟨_, rfl⟩
  have HNN := hid hN
  have hl60 : ¬ ((n : Int) == 60) = true := by simp; omega
  have hl60' : ((n : Int) == 60) = false := by simp; omega
  simp only at HA hn HP HIN HC HX
  clear h hu hx
  go_enter Tryz.func28, Tryz.ntmps28
  go_wp2_with (first
    | (go_at_call 15; refine (HU.out _ ((Kp.refl _ _).alloc _)).mono ?_; rintro e w1 ⟨a, n1, c, rfl, ho, hob, hk⟩; obtain ⟨a2, c2, e2⟩ := ho.form; rw [hN] at e2; cases e2; have HO := hid ho; have HOB := hid hob; have HK1 := hid (((Kp.refl No _).alloc _).andNone hk); obtain ⟨c0, c1, c2⟩ := box_it w (s, d, bs) u _ _ hk; have HJ := hid hk; clear ho hk hob)
    | (go_at_call 29; refine (HA.out _ _ HO.out).mono ?_; rintro e w2 ⟨i, rfl, hih, hk⟩; have HI := hid hih; have HK2 := hid (HK1.out.andNone hk); have HO2 := hid (HO.out.kept hk); have HJ2 := hid (HJ.out.andNone hk); obtain ⟨d0, d1, d2⟩ := box_it w (s, d, bs) u _ _ HJ2.out; clear hk hih)
    | (go_at_call 32; refine (HC.out _ HK2.out).mono ?_; rintro e w3 ⟨u', rfl, ho, hn3, hk⟩; have HUO := hid ho; have HUN := hid hn3; have HK3 := hid (HK2.out.andNone hk); have HO3 := hid (HO2.out.kept hk); clear ho hn3 hk)
    | (go_at_call 50; refine (HIN.out _ _ u' _ _ (HO3.out.kept ((Kp.refl No _).alloc _)) (Blk.new _ _ _) (fun e => absurd (own_lt HO3.out _ e) (Nat.lt_irrefl _)) ((HUO.out.byU HX.out H256.out).kp ((Kp.refl No _).alloc _) (fun _ h => h.elim)) HUO.out.one HI.out.1).mono ?_; rintro e w4 ⟨v', rfl, hI⟩; have HINS := hid hI; clear hI))
  go_ret2
  have hsz : (w.alloc (.cells #[.string s, .bool d, u] 41)).heap.size = w.heap.size + 1 := by simp
  have hsz3 := HK3.out.size
  have hsz4 : (w3.alloc (.cells (itC (s, d, bs) u').toArray 41)).heap.size = w3.heap.size + 1 := by simp
  have hI := HINS.out
  refine ⟨v', rfl, ?_, fun b hb => ?_, ?_⟩
  · rw [← HP.out i HI.out.2]
    exact hI.own
  · rcases hI.at' with e | ⟨c, e, hc⟩
    · have := HOB.out b (e ▸ hb)
      omega
    · rw [e] at hb
      cases hb
      omega
  · exact (HK3.out.alloc _).trans hI.k (fun b hb => .inr (by have := HOB.out b hb; omega))

set_option maxHeartbeats 4000000 in
theorem with_set (w : World) (v u : Value) (t : List It) (x y : It) (h : IRow Any w v t) (hs : ∀ y ∈ t, ShortI y) (hr : risesB t = true) (hl : t.length ≤ 60) (hn : look t x.1 = some y) (hu : ByP Any w u x.2.2) (hx : ShortI x) :
    Calls Tryz.prog 28 #[v, .agg #[.string x.1, .bool x.2.1, u]] w fun e w' => ∃ v', e = .returned (.tuple #[v', .int .i64 0]) ∧ IOwn w' v' (putL t x) ∧ (∀ b, v'.ownBlock = some b → w.heap.size ≤ b) ∧ Kp No w w' := by
  have HU := hid (fun (V : World) (k : Kp No w V) => under_any V v t ⟨#[]⟩ (h.kept k) (by omega) hs)
  rw [under_all] at HU
  have HA := hid (fun (V : World) (q : Value) (ho : IOwn V q t) => at_yes V q t x.1 y ho.row (by omega) hr hn)
  have HP := hid (fun (i : Nat) (hh : t[i]? = some y) => put_set (x := x) (rises_pair _ hr) hh (look_mem hn).2)
  have HX : Hid (x.2.2.length ≤ 20000000) := by have := hx.2; unfold Hid; omega
  have H256 := hid hu.lt256
  have HC := hid (fun (V : World) (k : Kp No w V) => clone_it V x u (hu.kept k) HX.out)
  have HST := hid (fun (V : World) (q p : Value) (i : Nat) (ho : IOwn V q t) (hi : i < t.length) (hpu : ByU V p x.2.2) (h1 : p.oneCell' = true) => IOwn.set ho hi hpu h1)
  obtain ⟨s, d, bs⟩ := x
  obtain ⟨n, hN⟩ : ∃ n, t.length = n := ⟨_, rfl⟩
  have HNN := hid hN
  simp only at HA hn HP HC HX HST
  clear h hu hx
  go_enter Tryz.func28, Tryz.ntmps28
  go_wp2_with (first
    | (go_at_call 15; refine (HU.out _ ((Kp.refl _ _).alloc _)).mono ?_; rintro e w1 ⟨a, n1, c, rfl, ho, hob, hk⟩; obtain ⟨a2, c2, e2⟩ := ho.form; rw [hN] at e2; cases e2; have HO := hid ho; have HOB := hid hob; have HK1 := hid (((Kp.refl No _).alloc _).andNone hk); obtain ⟨c0, c1, c2⟩ := box_it w (s, d, bs) u _ _ hk; have HJ := hid hk; clear ho hk hob)
    | (go_at_call 29; refine (HA.out _ _ HO.out).mono ?_; rintro e w2 ⟨i, rfl, ⟨hin, hix⟩, hk⟩; have HI := hid hix; have hinI : (i : Int) < (n : Int) := (by omega); have hi0 : (0 : Int) ≤ (i : Int) := (by omega); have HK2 := hid (HK1.out.andNone hk); have HO2 := hid (HO.out.kept hk); have HJ2 := hid (HJ.out.andNone hk); obtain ⟨d0, d1, d2⟩ := box_it w (s, d, bs) u _ _ HJ2.out; clear hk hix)
    | (go_at_call 32; refine (HC.out _ HK2.out).mono ?_; rintro e w3 ⟨u', rfl, ho, hn3, hk⟩; obtain ⟨au, cu, hau, _⟩ := ho.shape; subst hau; have HUO := hid ho; have HK3 := hid (HK2.out.andNone hk); have HO3 := hid (HO2.out.kept hk); obtain ⟨g, cp, eg, hg1, hg2, hg3, hg4, hg5⟩ := HST.out _ _ _ _ HO3.out hin (HUO.out.byU HX.out H256.out) HUO.out.one; rw [hN] at eg; cases eg; obtain ⟨y0, hy0⟩ := hg3 0 (by omega); obtain ⟨y1, hy1⟩ := hg3 1 (by omega); obtain ⟨y2, hy2⟩ := hg3 2 (by omega); have z0 := hg4 0 (by omega); have z1 := hg4 1 (by omega); have z2 := hg4 2 (by omega); rw [Nat.add_zero] at hy0 z0; have HG1 := hid (And.intro hg1 hg2); have HG5 := hid hg5; clear ho hn3 hk hg3 hg4 hg1 hg2 hg5))
  go_ret2
  obtain ⟨ho, hk⟩ := HG5.out _ rfl
  have hsz : (w.alloc (.cells #[.string s, .bool d, u] 41)).heap.size = w.heap.size + 1 := by simp
  refine ⟨_, rfl, ?_, fun b hb => ?_, ?_⟩
  · rw [← HP.out i HI.out]
    exact ho
  · have := HOB.out b hb
    omega
  · exact HK3.out.trans hk (fun b hb => .inr (by have := HOB.out g rfl; omega))

end Go.Proofs.YtdooiflmjeibdaaGreatDoor.Tr
end

section
/-
  asked.
-/
namespace Go.Proofs.YtdooiflmjeibdaaGreatDoor.Tr
open Go.RowKit

def askedF (t : List It) (ps : List ByteArray) : Int := if rightB t then (if ps.all (fun p => pathB (tx p)) then 0 else 10) else 1
def barsF (t : List It) (p : ByteArray) : Int := if rightB t then (if pathB (tx p) then homeF t p else 10) else 1
def mkdirR (t : List It) (p : ByteArray) : Int × List It :=
  if barsF t p = 0 then (if (look t p).isSome then (6, []) else if 60 ≤ t.length then (2, []) else (0, putL t (p, true, []))) else (barsF t p, [])
def dirAt (t : List It) (p : ByteArray) : Bool := match look t p with
  | some x => x.2.1
  | none => false
def writeR (t : List It) (p : ByteArray) (b : List Nat) : Int × List It :=
  if barsF t p = 0 then (if dirAt t p then (8, []) else if 2000 < b.length then (2, []) else if (look t p).isNone && decide (60 ≤ t.length) then (2, []) else (0, putL t (p, false, b))) else (barsF t p, [])
theorem right_rises {t : List It} (h : rightB t = true) : risesB t = true ∧ t.length ≤ 60 := by
  simp only [rightB, Bool.and_eq_true, decide_eq_true_eq] at h
  exact ⟨h.1.2, h.1.1⟩
theorem bars_right {t : List It} {p : ByteArray} (h : barsF t p = 0) : rightB t = true := by
  unfold barsF at h
  split at h
  · assumption
  · omega

set_option maxHeartbeats 4000000 in
theorem asked_any (w : World) (v : Value) (t : List It) (g : Nat) (ps : List ByteArray) (h : IRow Any w v t) (hl : t.length ≤ 1000) (hs : ∀ y ∈ t, ShortI y) (hg : Blk w g 9 (tc ps)) (hpl : ps.length ≤ 2) (hp : ∀ p ∈ ps, p.size ≤ 1000000) :
    Calls Tryz.prog 34 #[v, .slice (some ⟨g, 0, none⟩) ps.length ps.length] w fun e w' => e = .returned (.int .i64 (askedF t ps)) ∧ Kp No w w' := by
  have HR := hid (right_any w v t h (by omega) hs)
  have HF : Hid (askedF t ps = if rightB t then (if ps.all (fun p => pathB (tx p)) then 0 else 10) else 1) := rfl
  clear h hs
  cases hr : rightB t with
  | false =>
    simp only [hr] at HR HF
    rw [HF.out]
    go_enter Tryz.func34, Tryz.ntmps34
    go_wp2_with (go_at_call 11; refine HR.out.mono ?_; rintro e w1 ⟨rfl, hk⟩; have HK := hid hk; clear hk)
    go_ret
    exact ⟨rfl, HK.out⟩
  | true =>
    simp only [hr, if_true] at HR HF
    rw [HF.out]
    have HG := hid hg
    have HP := hid hp
    have HQ1 : Hid (∀ p ∈ ps, pathB (tx p) = false → (if ps.all (fun p => pathB (tx p)) then (0 : Int) else 10) = 10) := fun p hp hb => by
      have : ps.all (fun p => pathB (tx p)) = false := List.all_eq_false.2 ⟨p, hp, by rw [hb]; simp⟩
      rw [this]
      rfl
    have HQ2 : Hid ((∀ p ∈ ps, pathB (tx p) = true) → (if ps.all (fun p => pathB (tx p)) then (0 : Int) else 10) = 0) := fun hb => by
      have : ps.all (fun p => pathB (tx p)) = true := List.all_eq_true.2 hb
      rw [this]
      rfl
    generalize (if ps.all (fun p => pathB (tx p)) then (0 : Int) else 10) = q at *
    obtain ⟨n, hn⟩ : ∃ n, ps.length = n := ⟨_, rfl⟩
    have HN := hid hn
    rw [hn] at hpl ⊢
    clear hg hp hn HF
    go_enter Tryz.func34, Tryz.ntmps34
    go_wp2_with (go_at_call 11; refine HR.out.mono ?_; rintro e w1 ⟨rfl, hk⟩; have HK := hid hk; clear hk)
    go_loopw [12] (fun x wr => ∃ i : Nat, x = .int .i64 i ∧ i ≤ n ∧ Hid ((∀ j p, j < i → ps[j]? = some p → pathB (tx p) = true) ∧ Kp No w wr)) (fun x _ => n - (intOf x).toNat)
    case atStart => exact ⟨0, rfl, Nat.zero_le _, fun j p h => absurd h (Nat.not_lt_zero _), HK.out⟩
    case round =>
      obtain ⟨i, rfl, hi, HS⟩ := hrel
      by_cases hlt : i < n
      · have hltI : (i : Int) < (n : Int) := by omega
        obtain ⟨p, hp⟩ : ∃ p, ps[i]? = some p := ⟨_, List.getElem?_eq_getElem (by rw [HN.out]; omega)⟩
        have HX := hid hp
        have c0 : wr.cell? ⟨g, i, none⟩ = some (.string p) := ((HG.out.kp HS.out.2 (fun h => h)).cell i).trans (tc_at ps i p hp)
        have HPA := hid (path_any p (HP.out p (List.mem_of_getElem? hp)) wr)
        clear hp
        cases hb : pathB (tx p) with
        | false =>
          simp only [hb] at HPA
          have HB := hid hb
          clear hb
          go_wp2_with (go_at_call 36; refine HPA.out.mono ?_; rintro e w2 ⟨rfl, hk⟩; have HK2 := hid hk; clear hk)
          go_ret
          refine ⟨?_, HS.out.2.andNone HK2.out⟩
          rw [HQ1.out p (List.mem_of_getElem? HX.out) HB.out]
          rfl
        | true =>
          simp only [hb] at HPA
          have HB := hid hb
          clear hb
          go_wp2_with (go_at_call 36; refine HPA.out.mono ?_; rintro e w2 ⟨rfl, hk⟩; have HK2 := hid hk; clear hk)
          go_roundw
          case rel => exact ⟨i + 1, by go_num, by omega, fun j q hj hq => by
            by_cases e : j = i
            · subst e
              have := HX.out
              rw [hq] at this
              cases this
              exact HB.out
            · exact HS.out.1 j q (by omega) hq, HS.out.2.andNone HK2.out⟩
          case measure => simp [intOf] <;> omega
      · have hltI : ¬ (i : Int) < (n : Int) := by omega
        go_wp2
        go_ret
        refine ⟨?_, HS.out.2⟩
        rw [HQ2.out (fun p hp => by
          obtain ⟨j, hj⟩ := List.mem_iff_getElem?.1 hp
          exact HS.out.1 j p (by have := (List.getElem?_eq_some_iff.1 hj).1; have := HN.out; omega) hj)]
        rfl

end Go.Proofs.YtdooiflmjeibdaaGreatDoor.Tr
end

section
/-
  bars.
-/
namespace Go.Proofs.YtdooiflmjeibdaaGreatDoor.Tr
open Go.RowKit

set_option maxHeartbeats 4000000 in
theorem bars_any (w : World) (v : Value) (t : List It) (p : ByteArray) (h : IRow Any w v t) (hl : t.length ≤ 1000) (hs : ∀ y ∈ t, ShortI y) (hp : p.size ≤ 1000000) :
    Calls Tryz.prog 26 #[v, .string p] w fun e w' => e = .returned (.int .i64 (barsF t p)) ∧ Kp No w w' := by
  have hk0 : Kp No w (w.alloc (.cells #[.string p] 9)) := (Kp.refl _ _).alloc _
  have HA := hid (asked_any (w.alloc (.cells #[.string p] 9)) v t w.heap.size [p] (h.kept hk0) hl hs (Blk.new w 9 [.string p]) (by simp) (by simpa using hp))
  have HH := hid (fun (V : World) (k : Kp No w V) (hr : risesB t = true) => home_any V v t p (h.kept k) (by omega) hp hr)
  have HB : Hid (barsF t p = if rightB t then (if pathB (tx p) then homeF t p else 10) else 1) := rfl
  have HAF : Hid (askedF t [p] = if rightB t then (if pathB (tx p) then 0 else 10) else 1) := by unfold Hid askedF; simp
  have HRI := hid (fun h : rightB t = true => (right_rises h).1)
  simp only [List.length_cons, List.length_nil, Nat.zero_add] at HA
  clear h hs
  cases hr : rightB t with
  | false =>
    simp only [hr] at HAF HB
    rw [HB.out]
    rw [HAF.out] at HA
    go_enter Tryz.func26, Tryz.ntmps26
    go_wp2_with (go_at_call 34; refine HA.out.mono ?_; rintro e w1 ⟨rfl, hk⟩; have HK := hid (((Kp.refl No _).alloc _).andNone hk); clear hk)
    go_ret
    exact ⟨rfl, HK.out⟩
  | true =>
    have HH2 := hid (fun V k => HH.out V k (HRI.out hr))
    simp only [hr, if_true] at HAF HB
    rw [HB.out]
    rw [HAF.out] at HA
    clear HAF HB HRI HH
    cases hb : pathB (tx p) with
    | false =>
      simp only [hb] at HA ⊢
      go_enter Tryz.func26, Tryz.ntmps26
      go_wp2_with (go_at_call 34; refine HA.out.mono ?_; rintro e w1 ⟨rfl, hk⟩; have HK := hid (((Kp.refl No _).alloc _).andNone hk); clear hk)
      go_ret
      exact ⟨rfl, HK.out⟩
    | true =>
      simp only [hb, if_true] at HA ⊢
      go_enter Tryz.func26, Tryz.ntmps26
      go_wp2_with (first | (go_at_call 34; refine HA.out.mono ?_; rintro e w1 ⟨rfl, hk⟩; have HK := hid (((Kp.refl No _).alloc _).andNone hk); clear hk) | (go_at_call 49; refine (HH2.out _ HK.out).mono ?_; rintro e w2 ⟨rfl, hk⟩; have HK2 := hid (HK.out.andNone hk); clear hk))
      go_ret
      exact ⟨rfl, HK2.out⟩

end Go.Proofs.YtdooiflmjeibdaaGreatDoor.Tr
end

section
/-
  Mkdir.
-/
namespace Go.Proofs.YtdooiflmjeibdaaGreatDoor.Tr
open Go.RowKit

/-- What a change of a tree leaves: the fault, and the tree, in new memory. -/
def Chd (w : World) (r : Int × List It) (e : Ending) (w' : World) : Prop := ∃ v', e = .returned (.tuple #[v', .int .i64 r.1]) ∧ IOwn w' v' r.2 ∧ (∀ b, v'.ownBlock = some b → w.heap.size ≤ b) ∧ Kp No w w'
theorem Chd.no {w w' : World} {e : Ending} {f : Int} (h : e = .returned (.tuple #[.slice none 0 0, .int .i64 f])) (k : Kp No w w') : Chd w (f, []) e w' := ⟨_, h, IOwn.nil _, by simp [Value.ownBlock], k⟩
theorem Chd.mk {w w' : World} {e : Ending} {f : Int} {ys : List It} (v' : Value) (h : e = .returned (.tuple #[v', .int .i64 f])) (ho : IOwn w' v' ys) (hb : ∀ b, v'.ownBlock = some b → w.heap.size ≤ b) (k : Kp No w w') : Chd w (f, ys) e w' := ⟨v', h, ho, hb, k⟩

set_option maxHeartbeats 4000000 in
/-- Mkdir. -/
theorem mkdir_any (w : World) (v : Value) (t : List It) (p : ByteArray) (h : IRow Any w v t) (hl : t.length ≤ 1000) (hs : ∀ y ∈ t, ShortI y) (hp : p.size ≤ 10000) :
    Calls Tryz.prog 12 #[v, .string p] w fun e w' => Chd w (mkdirR t p) e w' := by
  have HB := hid (bars_any w v t p h hl hs (by omega))
  have HM : Hid (mkdirR t p = if barsF t p = 0 then (if (look t p).isSome then (6, []) else if 60 ≤ t.length then (2, []) else (0, putL t (p, true, []))) else (barsF t p, [])) := rfl
  by_cases hf : barsF t p = 0
  · rw [if_pos hf] at HM
    have hr := right_rises (bars_right hf)
    rw [hf] at HB
    cases hx : look t p with
    | some x =>
      have HH := hid (fun (V : World) (k : Kp No w V) => has_yes V v t p x (h.kept k) (by omega) hr.1 hx)
      simp only [hx, Option.isSome_some, if_true] at HM
      rw [HM.out]
      clear h hs hx hr hf HM
      go_enter Tryz.func12, Tryz.ntmps12
      go_wp2_with (first | (go_at_call 26; refine HB.out.mono ?_; rintro e w1 ⟨rfl, hk⟩; have HK := hid hk; clear hk) | (go_at_call 27; refine (HH.out _ HK.out).mono ?_; rintro e w2 ⟨rfl, hk⟩; have HK2 := hid (HK.out.andNone hk); clear hk))
      go_ret2
      exact Chd.no rfl HK2.out
    | none =>
      have HH := hid (fun (V : World) (k : Kp No w V) => has_no V v t p (h.kept k) (by omega) hr.1 hx)
      by_cases h60 : 60 ≤ t.length
      · have HW := hid (fun (V : World) (k : Kp No w V) => with_full V v (.slice none 0 0) t (p, true, []) (h.kept k) hs hr.1 (by omega) hx)
        simp only [hx, Option.isSome_none, Bool.false_eq_true, if_false, if_pos h60] at HM
        rw [HM.out]
        clear h hs hx hr hf HM
        go_enter Tryz.func12, Tryz.ntmps12
        go_wp2_with (first | (go_at_call 26; refine HB.out.mono ?_; rintro e w1 ⟨rfl, hk⟩; have HK := hid hk; clear hk) | (go_at_call 27; refine (HH.out _ HK.out).mono ?_; rintro e w2 ⟨rfl, hk⟩; have HK2 := hid (HK.out.andNone hk); clear hk) | (go_at_call 28; refine (HW.out _ HK2.out).mono ?_; rintro e w3 ⟨rfl, hk⟩; have HK3 := hid (HK2.out.andNone hk); clear hk))
        go_ret2
        exact Chd.no rfl HK3.out
      · have HW := hid (fun (V : World) (k : Kp No w V) => with_ins V v (.slice none 0 0) t (p, true, []) (h.kept k) hs hr.1 (by omega) hx (ByP.nil _ _) ⟨hp, by simp⟩)
        simp only [hx, Option.isSome_none, Bool.false_eq_true, if_false, if_neg h60] at HM
        rw [HM.out]
        clear h hs hx hr hf HM
        go_enter Tryz.func12, Tryz.ntmps12
        go_wp2_with (first | (go_at_call 26; refine HB.out.mono ?_; rintro e w1 ⟨rfl, hk⟩; have HK := hid hk; clear hk) | (go_at_call 27; refine (HH.out _ HK.out).mono ?_; rintro e w2 ⟨rfl, hk⟩; have HK2 := hid (HK.out.andNone hk); clear hk) | (go_at_call 28; refine (HW.out _ HK2.out).mono ?_; rintro e w3 ⟨v', rfl, ho, hb, hk⟩; have HO := hid ho; have HBB := hid hb; have HK3 := hid (HK2.out.andNone hk); have HZ := hid HK2.out.size; clear ho hb hk))
        go_ret2
        exact Chd.mk v' rfl HO.out (fun b e => Nat.le_trans HZ.out (HBB.out b e)) HK3.out
  · rw [if_neg hf] at HM
    rw [HM.out]
    have hf' : (barsF t p != 0) = true := by simpa using hf
    generalize barsF t p = f at *
    clear h hs HM
    go_enter Tryz.func12, Tryz.ntmps12
    go_wp2_with (go_at_call 26; refine HB.out.mono ?_; rintro e w1 ⟨rfl, hk⟩; have HK := hid hk; clear hk)
    go_ret2
    exact Chd.no rfl HK.out

end Go.Proofs.YtdooiflmjeibdaaGreatDoor.Tr
end

section
/-
  Remove.
-/
namespace Go.Proofs.YtdooiflmjeibdaaGreatDoor.Tr
open Go.RowKit

def removeR (t : List It) (p : ByteArray) (deep : Bool) : Int × List It :=
  if askedF t [p] = 0 then (if underL t p = [] then (5, []) else if 1 < (underL t p).length ∧ deep = false then (9, []) else (0, outL t p)) else (askedF t [p], [])

set_option maxHeartbeats 4000000 in
/-- Remove. -/
theorem remove_any (w : World) (v : Value) (t : List It) (p : ByteArray) (deep : Bool) (h : IRow Any w v t) (hl : t.length ≤ 1000) (hs : ∀ y ∈ t, ShortI y) (hp : p.size ≤ 10000) :
    Calls Tryz.prog 16 #[v, .string p, .bool deep] w fun e w' => Chd w (removeR t p deep) e w' := by
  have hk0 : Kp No w (w.alloc (.cells #[.string p] 9)) := (Kp.refl _ _).alloc _
  have HA := hid (asked_any (w.alloc (.cells #[.string p] 9)) v t w.heap.size [p] (h.kept hk0) hl hs (Blk.new w 9 [.string p]) (by simp) (by simpa using (by omega : p.size ≤ 1000000)))
  have HP := hid (fun (V : World) (k : Kp No w V) => apart_any V v t p (h.kept k) (by omega) hs)
  have HM : Hid (removeR t p deep = if askedF t [p] = 0 then (if underL t p = [] then (5, []) else if 1 < (underL t p).length ∧ deep = false then (9, []) else (0, outL t p)) else (askedF t [p], [])) := rfl
  simp only [List.length_cons, List.length_nil, Nat.zero_add] at HA
  generalize removeR t p deep = R at *
  generalize outL t p = os at *
  have hul : (underL t p).length ≤ 1000 := Nat.le_trans (List.length_filter_le _ _) hl
  generalize underL t p = us at *
  obtain ⟨n, hn⟩ : ∃ n, us.length = n := ⟨_, rfl⟩
  have HN := hid hn
  have h0 : us = [] ↔ n = 0 := by rw [← hn]; exact List.length_eq_zero_iff.symm
  have H0 := hid h0
  clear h hs h0
  by_cases hf : askedF t [p] = 0
  · rw [hf] at HA
    rw [if_pos hf, hn] at HM
    rw [hn] at hul
    clear hf hn hl
    by_cases hz : n = 0
    · subst hz
      rw [if_pos (H0.out.2 rfl)] at HM
      rw [HM.out]
      clear HM
      go_enter Tryz.func16, Tryz.ntmps16
      go_wp2_with (first | (go_at_call 33; refine (HP.out _ HK.out).mono ?_; rintro e w2 ⟨a, n0, c, a', n', c', rfl, ht⟩; obtain ⟨_, _, e0⟩ := ht.a.form; rw [HN.out] at e0; cases e0; have HT := hid ht; clear ht) | (go_at_call 34; refine HA.out.mono ?_; rintro e w1 ⟨rfl, hk⟩; have HK := hid (((Kp.refl No _).alloc _).andNone hk); clear hk))
      go_ret2
      exact Chd.no rfl (HK.out.andNone HT.out.k)
    · rw [if_neg (fun h => hz (H0.out.1 h))] at HM
      have hzI : (n : Int) ≠ 0 := by omega
      have hz0 : ((n : Int) == 0) = false := by simpa using hz
      clear H0
      cases deep with
      | true =>
        rw [if_neg (by simp)] at HM
        rw [HM.out]
        clear HM
        by_cases h1 : (1 : Int) < (n : Int)
        · go_enter Tryz.func16, Tryz.ntmps16
          go_wp2_with (first | (go_at_call 33; refine (HP.out _ HK.out).mono ?_; rintro e w2 ⟨a, n0, c, a', n', c', rfl, ht⟩; obtain ⟨_, _, e0⟩ := ht.a.form; rw [HN.out] at e0; cases e0; have HT := hid ht; clear ht) | (go_at_call 34; refine HA.out.mono ?_; rintro e w1 ⟨rfl, hk⟩; have HK := hid (((Kp.refl No _).alloc _).andNone hk); clear hk))
          go_ret2
          exact Chd.mk _ rfl HT.out.b (fun b e => Nat.le_trans HK.out.size (HT.out.lb b e)) (HK.out.andNone HT.out.k)
        · go_enter Tryz.func16, Tryz.ntmps16
          go_wp2_with (first | (go_at_call 33; refine (HP.out _ HK.out).mono ?_; rintro e w2 ⟨a, n0, c, a', n', c', rfl, ht⟩; obtain ⟨_, _, e0⟩ := ht.a.form; rw [HN.out] at e0; cases e0; have HT := hid ht; clear ht) | (go_at_call 34; refine HA.out.mono ?_; rintro e w1 ⟨rfl, hk⟩; have HK := hid (((Kp.refl No _).alloc _).andNone hk); clear hk))
          go_ret2
          exact Chd.mk _ rfl HT.out.b (fun b e => Nat.le_trans HK.out.size (HT.out.lb b e)) (HK.out.andNone HT.out.k)
      | false =>
        by_cases h1 : (1 : Int) < (n : Int)
        · rw [if_pos ⟨(by omega), rfl⟩] at HM
          rw [HM.out]
          clear HM
          go_enter Tryz.func16, Tryz.ntmps16
          go_wp2_with (first | (go_at_call 33; refine (HP.out _ HK.out).mono ?_; rintro e w2 ⟨a, n0, c, a', n', c', rfl, ht⟩; obtain ⟨_, _, e0⟩ := ht.a.form; rw [HN.out] at e0; cases e0; have HT := hid ht; clear ht) | (go_at_call 34; refine HA.out.mono ?_; rintro e w1 ⟨rfl, hk⟩; have HK := hid (((Kp.refl No _).alloc _).andNone hk); clear hk))
          go_ret2
          exact Chd.no rfl (HK.out.andNone HT.out.k)
        · rw [if_neg (fun h => h1 (by omega))] at HM
          rw [HM.out]
          clear HM
          go_enter Tryz.func16, Tryz.ntmps16
          go_wp2_with (first | (go_at_call 33; refine (HP.out _ HK.out).mono ?_; rintro e w2 ⟨a, n0, c, a', n', c', rfl, ht⟩; obtain ⟨_, _, e0⟩ := ht.a.form; rw [HN.out] at e0; cases e0; have HT := hid ht; clear ht) | (go_at_call 34; refine HA.out.mono ?_; rintro e w1 ⟨rfl, hk⟩; have HK := hid (((Kp.refl No _).alloc _).andNone hk); clear hk))
          go_ret2
          exact Chd.mk _ rfl HT.out.b (fun b e => Nat.le_trans HK.out.size (HT.out.lb b e)) (HK.out.andNone HT.out.k)
  · rw [if_neg hf] at HM
    rw [HM.out]
    have hf' : (askedF t [p] != 0) = true := by simpa using hf
    generalize askedF t [p] = f at *
    clear HM hf
    go_enter Tryz.func16, Tryz.ntmps16
    go_wp2_with (go_at_call 34; refine HA.out.mono ?_; rintro e w1 ⟨rfl, hk⟩; have HK := hid (((Kp.refl No _).alloc _).andNone hk); clear hk)
    go_ret2
    exact Chd.no rfl HK.out

end Go.Proofs.YtdooiflmjeibdaaGreatDoor.Tr
end

section
/-
  stays.
-/
namespace Go.Proofs.YtdooiflmjeibdaaGreatDoor.Tr
open Go.RowKit

theorem str_eqP (s p : ByteArray) : (s.toList == p.toList) = decide (s = p) := by
  rw [Bool.eq_iff_iff, beq_iff_eq, decide_eq_true_eq, ByteArray.toList_eq, ByteArray.toList_eq, ba_eq]
def staysF (t : List It) (p q : ByteArray) : Int :=
  if askedF t [p, q] = 0 then (match look t p with
    | none => 5
    | some _ => if homeF t q = 0 then (if p = q then 0 else match look t q with
        | some _ => 6
        | none => if withinB (tx p) (tx q) then 1 else 0) else homeF t q) else askedF t [p, q]
theorem asked_right {t : List It} {ps : List ByteArray} (h : askedF t ps = 0) : rightB t = true := by
  unfold askedF at h
  cases e : rightB t with
  | true => rfl
  | false => rw [e] at h; simp at h

set_option maxHeartbeats 4000000 in
theorem stays_any (w : World) (v : Value) (t : List It) (p q : ByteArray) (h : IRow Any w v t) (hl : t.length ≤ 1000) (hs : ∀ y ∈ t, ShortI y) (hp : p.size ≤ 10000) (hq : q.size ≤ 10000) :
    Calls Tryz.prog 35 #[v, .string p, .string q] w fun e w' => e = .returned (.int .i64 (staysF t p q)) ∧ Kp No w w' := by
  have hk0 : Kp No w (w.alloc (.cells #[.string p, .string q] 9)) := (Kp.refl _ _).alloc _
  have HA := hid (asked_any (w.alloc (.cells #[.string p, .string q] 9)) v t w.heap.size [p, q] (h.kept hk0) hl hs (Blk.new w 9 [.string p, .string q]) (by simp) (by intro x hx; simp only [List.mem_cons, List.not_mem_nil, or_false] at hx; rcases hx with rfl | rfl <;> omega))
  simp only [List.length_cons, List.length_nil, Nat.zero_add, Nat.reduceAdd] at HA
  have HM : Hid (staysF t p q = if askedF t [p, q] = 0 then (match look t p with
    | none => 5
    | some _ => if homeF t q = 0 then (if p = q then 0 else match look t q with
        | some _ => 6
        | none => if withinB (tx p) (tx q) then 1 else 0) else homeF t q) else askedF t [p, q]) := rfl
  generalize staysF t p q = R at *
  by_cases hf : askedF t [p, q] = 0
  · have hr := (right_rises (asked_right hf)).1
    rw [hf] at HA
    rw [if_pos hf] at HM
    clear hf
    cases hx : look t p with
    | none =>
      have HH := hid (fun (V : World) (k : Kp No w V) => has_no V v t p (h.kept k) (by omega) hr hx)
      rw [hx] at HM
      simp only at HM
      rw [HM.out]
      clear h hs hx hr HM
      go_enter Tryz.func35, Tryz.ntmps35
      go_wp2_with (first | (go_at_call 27; refine (HH.out _ HK.out).mono ?_; rintro e w2 ⟨rfl, hk⟩; have HK2 := hid (HK.out.andNone hk); clear hk) | (go_at_call 34; refine HA.out.mono ?_; rintro e w1 ⟨rfl, hk⟩; have HK := hid (((Kp.refl No _).alloc _).andNone hk); clear hk))
      go_ret
      exact ⟨rfl, HK2.out⟩
    | some x =>
      have HH := hid (fun (V : World) (k : Kp No w V) => has_yes V v t p x (h.kept k) (by omega) hr hx)
      have HO := hid (fun (V : World) (k : Kp No w V) => home_any V v t q (h.kept k) (by omega) (by omega) hr)
      rw [hx] at HM
      simp only at HM
      by_cases ho : homeF t q = 0
      · rw [ho] at HO
        rw [if_pos ho] at HM
        clear ho
        by_cases hpq : p = q
        · rw [if_pos hpq] at HM
          rw [HM.out]
          have hpq' : (p.toList == q.toList) = true := by rw [str_eqP]; exact decide_eq_true hpq
          clear h hs hx hr HM hpq
          go_enter Tryz.func35, Tryz.ntmps35
          go_wp2_with (first | (go_at_call 49; refine (HO.out _ HK2.out).mono ?_; rintro e w3 ⟨rfl, hk⟩; have HK3 := hid (HK2.out.andNone hk); clear hk) | (go_at_call 27; refine (HH.out _ HK.out).mono ?_; rintro e w2 ⟨rfl, hk⟩; have HK2 := hid (HK.out.andNone hk); clear hk) | (go_at_call 34; refine HA.out.mono ?_; rintro e w1 ⟨rfl, hk⟩; have HK := hid (((Kp.refl No _).alloc _).andNone hk); clear hk))
          go_ret
          exact ⟨rfl, HK3.out⟩
        · rw [if_neg hpq] at HM
          have hpq' : (p.toList == q.toList) = false := by rw [str_eqP]; exact decide_eq_false hpq
          cases hy : look t q with
          | some y =>
            have HH2 := hid (fun (V : World) (k : Kp No w V) => has_yes V v t q y (h.kept k) (by omega) hr hy)
            rw [hy] at HM
            simp only at HM
            rw [HM.out]
            clear h hs hx hy hr HM hpq
            go_enter Tryz.func35, Tryz.ntmps35
            go_wp2_with (first | (go_at_call 27; refine (HH2.out _ HK3.out).mono ?_; rintro e w4 ⟨rfl, hk⟩; have HK4 := hid (HK3.out.andNone hk); clear hk) | (go_at_call 49; refine (HO.out _ HK2.out).mono ?_; rintro e w3 ⟨rfl, hk⟩; have HK3 := hid (HK2.out.andNone hk); clear hk) | (go_at_call 27; refine (HH.out _ HK.out).mono ?_; rintro e w2 ⟨rfl, hk⟩; have HK2 := hid (HK.out.andNone hk); clear hk) | (go_at_call 34; refine HA.out.mono ?_; rintro e w1 ⟨rfl, hk⟩; have HK := hid (((Kp.refl No _).alloc _).andNone hk); clear hk))
            go_ret
            exact ⟨rfl, HK4.out⟩
          | none =>
            have HH2 := hid (fun (V : World) (k : Kp No w V) => has_no V v t q (h.kept k) (by omega) hr hy)
            have HW := hid (fun V => within_any q p V)
            rw [hy] at HM
            simp only at HM
            cases hw : withinB (tx p) (tx q) with
            | true =>
              have hw' : withinB p.data.toList q.data.toList = true := hw
              rw [hw'] at HW
              rw [if_pos hw] at HM
              rw [HM.out]
              clear h hs hx hy hr HM hpq hw hw'
              go_enter Tryz.func35, Tryz.ntmps35
              go_wp2_with (first | (go_at_call 54; refine (HW.out _).mono ?_; rintro e w5 ⟨rfl, rfl⟩) | (go_at_call 27; refine (HH2.out _ HK3.out).mono ?_; rintro e w4 ⟨rfl, hk⟩; have HK4 := hid (HK3.out.andNone hk); clear hk) | (go_at_call 49; refine (HO.out _ HK2.out).mono ?_; rintro e w3 ⟨rfl, hk⟩; have HK3 := hid (HK2.out.andNone hk); clear hk) | (go_at_call 27; refine (HH.out _ HK.out).mono ?_; rintro e w2 ⟨rfl, hk⟩; have HK2 := hid (HK.out.andNone hk); clear hk) | (go_at_call 34; refine HA.out.mono ?_; rintro e w1 ⟨rfl, hk⟩; have HK := hid (((Kp.refl No _).alloc _).andNone hk); clear hk))
              go_ret
              exact ⟨rfl, HK4.out⟩
            | false =>
              have hw' : withinB p.data.toList q.data.toList = false := hw
              rw [hw'] at HW
              rw [if_neg (by rw [hw]; simp)] at HM
              rw [HM.out]
              clear h hs hx hy hr HM hpq hw hw'
              go_enter Tryz.func35, Tryz.ntmps35
              go_wp2_with (first | (go_at_call 54; refine (HW.out _).mono ?_; rintro e w5 ⟨rfl, rfl⟩) | (go_at_call 27; refine (HH2.out _ HK3.out).mono ?_; rintro e w4 ⟨rfl, hk⟩; have HK4 := hid (HK3.out.andNone hk); clear hk) | (go_at_call 49; refine (HO.out _ HK2.out).mono ?_; rintro e w3 ⟨rfl, hk⟩; have HK3 := hid (HK2.out.andNone hk); clear hk) | (go_at_call 27; refine (HH.out _ HK.out).mono ?_; rintro e w2 ⟨rfl, hk⟩; have HK2 := hid (HK.out.andNone hk); clear hk) | (go_at_call 34; refine HA.out.mono ?_; rintro e w1 ⟨rfl, hk⟩; have HK := hid (((Kp.refl No _).alloc _).andNone hk); clear hk))
              go_ret
              exact ⟨rfl, HK4.out⟩
      · rw [if_neg ho] at HM
        rw [HM.out]
        have ho' : (homeF t q != 0) = true := by simpa using ho
        generalize homeF t q = f at *
        clear h hs hx hr HM ho
        go_enter Tryz.func35, Tryz.ntmps35
        go_wp2_with (first | (go_at_call 49; refine (HO.out _ HK2.out).mono ?_; rintro e w3 ⟨rfl, hk⟩; have HK3 := hid (HK2.out.andNone hk); clear hk) | (go_at_call 27; refine (HH.out _ HK.out).mono ?_; rintro e w2 ⟨rfl, hk⟩; have HK2 := hid (HK.out.andNone hk); clear hk) | (go_at_call 34; refine HA.out.mono ?_; rintro e w1 ⟨rfl, hk⟩; have HK := hid (((Kp.refl No _).alloc _).andNone hk); clear hk))
        go_ret
        exact ⟨rfl, HK3.out⟩
  · rw [if_neg hf] at HM
    rw [HM.out]
    have hf' : (askedF t [p, q] != 0) = true := by simpa using hf
    generalize askedF t [p, q] = f at *
    clear HM hf h hs
    go_enter Tryz.func35, Tryz.ntmps35
    go_wp2_with (first | (go_at_call 34; refine HA.out.mono ?_; rintro e w1 ⟨rfl, hk⟩; have HK := hid (((Kp.refl No _).alloc _).andNone hk); clear hk))
    go_ret
    exact ⟨rfl, HK.out⟩

end Go.Proofs.YtdooiflmjeibdaaGreatDoor.Tr
end

section
/-
  slices.SortFunc of items, by their paths.
-/
namespace Go.Proofs.YtdooiflmjeibdaaGreatDoor.Tr
open Go.RowKit Go.Lib Go.Sort Go.Shelf

/-- An item with the slice of its bytes. -/
abbrev Sl := It × (Option Addr × Nat × Nat)
def encS (z : Sl) : List Value := [.string z.1.1, .bool z.1.2.1, .slice z.2.1 z.2.2.1 z.2.2.2]
def cmpS (x y : Sl) : Int := Lib.compareBytes (tx x.1.1) (tx y.1.1)

set_option maxHeartbeats 1000000 in
theorem closure_any (x y : Sl) (W : World) : Calls Tryz.prog 38 #[.agg #[.string x.1.1, .bool x.1.2.1, .slice x.2.1 x.2.2.1 x.2.2.2], .agg #[.string y.1.1, .bool y.1.2.1, .slice y.2.1 y.2.2.1 y.2.2.2]] W fun e w' => e = .returned (.int .i64 (cmpS x y)) ∧ ∃ q os', w' = grow (W.drewN q) os' := by
  have hcon := fun W' => compare_any x.1.1 y.1.1 W'
  have HC : Hid (cmpS x y = Lib.compareBytes (tx x.1.1) (tx y.1.1)) := rfl
  rw [HC.out]
  unfold tx
  generalize Lib.compareBytes x.1.1.data.toList y.1.1.data.toList = r at hcon ⊢
  obtain ⟨⟨xp, xd, xb⟩, xa, xn, xc⟩ := x
  obtain ⟨⟨yp, yd, yb⟩, ya, yn, yc⟩ := y
  simp only at hcon ⊢
  clear HC
  go_enter Tryz.func38, Tryz.ntmps38
  go_wp2_with (go_at_call 39; refine (hcon _).mono ?_; rintro e w' ⟨rfl, rfl⟩)
  go_ret
  exact ⟨rfl, 0, _, by rw [alloc_eq_grow, alloc_eq_grow, grow_grow]; rfl⟩

theorem cmpLaysS (blk off size : Nat) (w : World) : CmpLays Tryz.prog 38 #[] encS 3 cmpS blk off size w :=
  fun _ _ _ _ x y => closure_any x y _

set_option maxHeartbeats 2000000 in
theorem sortF_any (hO : SWO (ltOf cmpS)) (blk off cap : Nat) (d : Array Sl) (w : World) (hH : HoldsK encS 3 w blk off d) (hblk : blk < w.heap.size) (hsz : d.size < 4611686018427387904) :
    Calls Tryz.prog 37 #[.slice (some ⟨blk, off, none⟩) d.size cap, .func (.func 38) #[] #[]] w fun e w' => e = .returned (.tuple #[]) ∧ ∃ d' n os, PermIn 0 d.size d d' ∧ SortedIn (ltOf cmpS) 0 d.size d' ∧ w' = sortWorldK encS 3 w blk off n d' os := by
  have eg : ∀ args w, (callFunc 38 args).run Tryz.prog w = .ok (.enter 38 args) w := enters_of Tryz.func38 (by kernel_rfl) rfl
  have hlim : Lib.bitLen d.size < 4611686018427387904 := Nat.lt_of_le_of_lt (Lib.bitLen_le d.size 62 (by omega) (by omega)) (by omega)
  have hp := AnyQ.pdqsortCmpFunc_all Tryz.pdqF 3 Tryz.isAgg41 Tryz.sizeOf41 encS cmpS 38 #[] hO blk off cap d w eg (cmpLaysS blk off d.size w) ⟨fun _ => rfl, fun x v hv => by simp [encS] at hv; rcases hv with rfl | rfl | rfl <;> rfl, hH, hblk⟩ (d.size + 1) 0 d.size (Lib.bitLen d.size) d w (by omega) rfl (SWK.start hH) (Nat.zero_le _) (Nat.le_refl _) hsz hlim (Or.inl rfl)
  have hl : Calls Tryz.prog 58 #[.int .u64 (d.size : Int)] w fun e w' => e = .returned (.int .i64 (Lib.bitLen d.size : Nat)) ∧ w' = w := by
    have h := Any.bits_Len (SlLaysF0.n15.bits Tryz.lenF) (d.size : Int) w (by omega) (by omega)
    rwa [Int.toNat_natCast] at h
  change Calls Tryz.prog 57 _ _ _ at hp
  have wr : IntKind.u64.wrap (d.size : Int) = d.size := by simp [IntKind.wrap, IntKind.bits, IntKind.signed]; omega
  have HPD := hid (pdq_sorts (ltOf cmpS) hO d 0 d.size (Lib.bitLen d.size) true true (Nat.zero_le _) (Nat.le_refl _) (Or.inl rfl))
  clear hH eg hO hblk
  generalize pdq (ltOf cmpS) d 0 d.size (Lib.bitLen d.size) true true = d' at *
  go_enter Tryz.func37, Tryz.ntmps37
  go_wp2_with (first | (go_at_call 58; refine hl.mono ?_; rintro e w' ⟨rfl, rfl⟩) | (go_at_call 57; refine hp.mono ?_; rintro e w' ⟨rfl, n, os, rfl⟩))
  go_end0
  exact ⟨rfl, d', n, os, HPD.out.1, HPD.out.2, rfl⟩

end Go.Proofs.YtdooiflmjeibdaaGreatDoor.Tr
end

section
/-
  slices.SortFunc of items: what a row of the call's own holds behind it.
-/
namespace Go.Proofs.YtdooiflmjeibdaaGreatDoor.Tr
open Go.RowKit Go.Lib Go.Sort Go.Shelf

theorem ltS (x y : Sl) : ltOf cmpS x y = bytesBefore (tx x.1.1) (tx y.1.1) := by
  unfold ltOf cmpS
  cases h : bytesBefore (tx x.1.1) (tx y.1.1) with
  | true => exact decide_eq_true ((cmp_neg _ _).2 h)
  | false => exact decide_eq_false (fun e => by rw [(cmp_neg _ _).1 e] at h; cases h)
theorem swoS : SWO (ltOf cmpS) where
  irrefl x := by rw [ltS]; exact bb_irr _
  trans x y z h1 h2 := by rw [ltS] at *; exact bb_trans _ _ _ h1 h2
  ntrans x y z h1 h2 := by
    rw [ltS] at *
    cases h : bytesBefore (tx x.1.1) (tx z.1.1) with
    | false => rfl
    | true =>
      exfalso
      cases h3 : bytesBefore (tx y.1.1) (tx x.1.1) with
      | true => rw [bb_trans _ _ _ h3 h] at h2; cases h2
      | false =>
        have e := bb_tri _ _ h1 h3
        rw [e, h2] at h
        cases h

def tri : Value → Option Addr × Nat × Nat
  | .slice a n c => (a, n, c)
  | _ => (none, 0, 0)
def unt (z : Option Addr × Nat × Nat) : Value := .slice z.1 z.2.1 z.2.2
theorem encS_itC (z : Sl) : encS z = itC z.1 (unt z.2) := rfl

/-- Items in the order of their paths. -/
def Srt (zs : List It) : Prop := zs.Pairwise (fun a b => bytesBefore (tx b.1) (tx a.1) = false)

theorem cells_of (zs : List Sl) (j : Nat) (hj : j < zs.length * 3) : (cellsI (zs.map (·.1)) (zs.map (fun z => unt z.2)))[j]? = some (encS zs.toArray[j / 3]!)[j % 3]! := by
  have hi : j / 3 < zs.length := by omega
  have h := cellsI_at (zs.map (·.1)) (zs.map (fun z => unt z.2)) (j / 3) zs[j / 3].1 (unt zs[j / 3].2) (j % 3) (by rw [List.getElem?_map, List.getElem?_eq_getElem hi]; rfl) (by rw [List.getElem?_map, List.getElem?_eq_getElem hi]; rfl) (by omega)
  rw [show j / 3 * 3 + j % 3 = j by omega] at h
  rw [h, ← encS_itC]
  have e : zs.toArray[j / 3]! = zs[j / 3] := by rw [getElem!_pos _ _ (by simpa using hi)]; simp
  rw [e]
  have hr : j % 3 < (encS zs[j / 3]).length := by show j % 3 < 3; omega
  rw [List.getElem?_eq_getElem hr, getElem!_pos (encS zs[j / 3]) (j % 3) hr]

theorem sorted_cells (zs : List Sl) (cur : Array Value) (cap : Nat) (h : cur.size = cap * 3) (hc : zs.length ≤ cap) : (putCells id 0 (flatK encS 3 zs.toArray) cur).toList.take (zs.length * 3) = cellsI (zs.map (·.1)) (zs.map (fun z => unt z.2)) := by
  have hl : (cellsI (zs.map (·.1)) (zs.map (fun z => unt z.2))).length = zs.length * 3 := by rw [cellsI_length _ _ (by simp), List.length_map]
  apply List.ext_getElem?
  intro j
  by_cases hj : j < zs.length * 3
  · rw [cells_of zs j hj, List.getElem?_take_of_lt hj, Array.getElem?_toList]
    unfold putCells
    have hjc : j < cur.size := by omega
    rw [Array.getElem?_mapIdx, Array.getElem?_eq_getElem hjc, Option.map_some, if_pos ⟨Nat.zero_le _, by rw [size_flatK]; simpa using hj⟩, Nat.sub_zero, id, get_flatK _ _ _ _ (by simpa using hj)]
  · rw [List.getElem?_eq_none (by rw [List.length_take]; omega), List.getElem?_eq_none (by omega)]

set_option maxHeartbeats 1000000 in
/-- A row of the call's own, sorted. -/
theorem sort_own (w : World) (v : Value) (ys : List It) (h : IOwn w v ys) (hne : ys ≠ []) (hl : ys.length ≤ 1000000) :
    Calls Tryz.prog 37 #[v, .func (.func 38) #[] #[]] w fun e w' => e = .returned (.tuple #[]) ∧ ∃ zs, zs.Perm ys ∧ Srt zs ∧ IOwn w' v zs ∧ Kp (fun b => v.ownBlock = some b) w w' := by
  obtain ⟨us, hul, hr, hb⟩ := h
  have hr' := hr
  rcases hr.2 with ⟨rfl, h0⟩ | ⟨g, cap, cur, rfl, hg, hh, hn, hc, hs, ht⟩
  · exact absurd (List.length_eq_zero_iff.1 h0) hne
  have hlt : g < w.heap.size := (Array.getElem?_eq_some_iff.1 hh).1
  obtain ⟨ds, hds⟩ : ∃ ds : List Sl, ds = List.zipWith (fun x u => (x, tri u)) ys us := ⟨_, rfl⟩
  have hdl : ds.length = ys.length := by rw [hds, List.length_zipWith, hul, Nat.min_self]
  have hd1 : ds.map (·.1) = ys := by
    apply List.ext_getElem (by rw [List.length_map, hdl])
    intro i h1 h2
    simp [hds]
  have hd2 : ds.map (fun z => unt z.2) = us := by
    apply List.ext_getElem (by rw [List.length_map, hdl, hul])
    intro i h1 h2
    have hy : i < ys.length := by rw [← hul]; exact h2
    obtain ⟨a, c, e⟩ := (hb i ys[i] us[i] (List.getElem?_eq_getElem hy) (List.getElem?_eq_getElem h2)).1.form
    simp only [hds, List.getElem_map, List.getElem_zipWith]
    rw [e]
    rfl
  have hH : HoldsK encS 3 w g 0 ds.toArray := by
    intro j hj
    rw [size_flatK] at hj
    have hj' : j < ds.length * 3 := by simpa using hj
    have h1 := cells_of ds j hj'
    rw [hd1, hd2] at h1
    rw [Nat.zero_add, id, get_flatK _ _ _ _ hj]
    exact ⟨(Row.cellAt hr' j (by omega)).trans h1, Blk.frozen (w := w) (b := g) (t := 41) (cs := cur.toList) (by unfold Blk; simpa using hh) j⟩
  have e : ds.toArray.size = ys.length := by simpa using hdl
  have HS := sortF_any swoS g 0 cap ds.toArray w hH hlt (by omega)
  rw [e] at HS
  refine HS.mono ?_
  rintro e' w' ⟨rfl, d', n, os, hp, hso, rfl⟩
  obtain ⟨hsz, _, hperm⟩ := hp
  obtain ⟨zs, rfl⟩ : ∃ zs : List Sl, d' = zs.toArray := ⟨d'.toList, by simp⟩
  have hzl : zs.length = ys.length := by simpa [e] using hsz
  have x1 : (zs.toArray.extract 0 ys.length).toList = zs := by rw [← hzl]; simp
  have x2 : (ds.toArray.extract 0 ys.length).toList = ds := by rw [← hdl]; simp
  rw [x1, x2] at hperm
  have hw : ∀ k, (sortWorldK encS 3 w g 0 n zs.toArray os).heap[k]? = if k = g then some (.cells (putCells id 0 (flatK encS 3 zs.toArray) cur) 41 (0, 0)) else if k < w.heap.size then w.heap[k]? else os[k - w.heap.size]? := by
    intro k
    show (w.heap.modify g (onCells (putCells id 0 (flatK encS 3 zs.toArray))) ++ os)[k]? = _
    by_cases hk : k = g
    · subst hk
      rw [if_pos rfl, Array.getElem?_append_left (by simpa using hlt), Array.getElem?_modify, if_pos rfl, hh]
      rfl
    · rw [if_neg hk]
      by_cases hk2 : k < w.heap.size
      · rw [if_pos hk2, Array.getElem?_append_left (by simpa using hk2), Array.getElem?_modify, if_neg (fun h => hk h.symm)]
      · rw [if_neg hk2, Array.getElem?_append_right (by simpa using hk2)]
        simp
  have hk : Kp (fun b => (Value.slice (some ⟨g, 0, none⟩) ys.length cap).ownBlock = some b) w (sortWorldK encS 3 w g 0 n zs.toArray os) := ⟨rfl, rfl, rfl, by
    show w.heap.size ≤ (w.heap.modify g _ ++ os).size
    simp, fun k h1 h2 => by
    rw [hw k, if_neg (by rintro rfl; exact h2 rfl), if_pos h1]⟩
  have hmem : ∀ z ∈ zs, ByU w (unt z.2) z.1.2.2 := by
    intro z hz
    obtain ⟨i, hi⟩ := List.mem_iff_getElem?.1 (hperm.mem_iff.1 hz)
    refine (hb i z.1 (unt z.2) ?_ ?_).1
    · rw [← hd1, List.getElem?_map, hi]; rfl
    · rw [← hd2, List.getElem?_map, hi]; rfl
  refine ⟨rfl, zs.map (·.1), hd1 ▸ hperm.map _, ?_, ⟨zs.map (fun z => unt z.2), by simp, ⟨?_, .inr ⟨g, cap, putCells id 0 (flatK encS 3 zs.toArray) cur, ?_, Nat.zero_le _, ?_, ?_, hc, ?_, ?_⟩⟩, ?_⟩, hk⟩
  · refine List.pairwise_iff_getElem.2 (fun i j hi hj hij => ?_)
    rw [List.length_map] at hi hj
    have h1 := hso i j (Nat.zero_le _) hij (by omega)
    rw [ltS, getElem!_pos _ _ (by simpa using hj), getElem!_pos _ _ (by simpa using hi)] at h1
    simpa using h1
  · rw [cellsI_length _ _ (by simp), List.length_map]
  · rw [List.length_map, hzl]
  · rw [hw g, if_pos rfl]
  · rw [List.length_map, hzl]; exact hn
  · rw [← hs]; simp [putCells]
  · rw [List.length_map]; exact sorted_cells zs cur cap hs (by omega)
  · intro i x u hx hu
    rw [List.getElem?_map] at hx hu
    cases hz : zs[i]? with
    | none => rw [hz] at hx; cases hx
    | some z =>
      rw [hz] at hx hu
      cases hx
      cases hu
      exact ⟨(hmem z (List.mem_of_getElem? hz)).kp hk (fun x hx _ ht => by
        have e2 : g = x := by simpa [Value.ownBlock] using hx
        subst e2
        exact (Row.ty hr' g rfl).ne ht (by decide) rfl), rfl⟩

end Go.Proofs.YtdooiflmjeibdaaGreatDoor.Tr
end

section
/-
  Rename.
-/
namespace Go.Proofs.YtdooiflmjeibdaaGreatDoor.Tr
open Go.RowKit

/-- x, moved from p to q. -/
def mvP (p q : ByteArray) (x : It) : It := (q ++ x.1.extract p.size x.1.size, x.2.1, x.2.2)
theorem within_len {p s : ByteArray} (h : withinB (tx p) (tx s) = true) : p.size ≤ s.size := by
  have e : ∀ b : ByteArray, (tx b).length = b.size := fun b => Array.length_toList
  rw [← e p, ← e s]
  unfold withinB at h
  simp only [Bool.or_eq_true, beq_iff_eq] at h
  rcases h with (h | h) | h
  · rw [h]; exact Nat.le_refl _
  · rw [h]; exact Nat.zero_le _
  · have := (List.isPrefixOf_iff_prefix.1 h).length_le
    rw [List.length_append] at this
    omega
theorem IOwn.at {w : World} {v : Value} {xs : List It} (h : IOwn w v xs) (hne : xs ≠ []) :
    ∃ g cap, v = .slice (some ⟨g, 0, none⟩) xs.length cap ∧ ∀ V, Kp No w V → ∀ i x, xs[i]? = some x → ∃ u, V.cell? ⟨g, i * 3, none⟩ = some (.string x.1) ∧ V.cell? ⟨g, i * 3 + 1, none⟩ = some (.bool x.2.1) ∧ V.cell? ⟨g, i * 3 + 2, none⟩ = some u ∧ ByU V u x.2.2 ∧ u.oneCell' = true := by
  obtain ⟨us, hl, hr, hb⟩ := h
  have hr' := hr
  rcases hr.2 with ⟨rfl, h0⟩ | ⟨g, cap, cur, rfl, hg, hh, hn, hc, hs, ht⟩
  · exact absurd (List.length_eq_zero_iff.1 h0) hne
  · refine ⟨g, cap, rfl, fun V k i x hi => ?_⟩
    have hil := (List.getElem?_eq_some_iff.1 hi).1
    obtain ⟨u, hu⟩ : ∃ u, us[i]? = some u := ⟨_, List.getElem?_eq_getElem (by omega)⟩
    have hc' := fun r (hr3 : r < 3) => (Row.cellAt (Row.kept hr' k) (i * 3 + r) (by omega)).trans (cellsI_at xs us i x u r hi hu hr3)
    exact ⟨u, hc' 0 (by omega), hc' 1 (by omega), hc' 2 (by omega), (hb i x u hi hu).1.kp k (fun _ h => h.elim), (hb i x u hi hu).2⟩

/-- What Rename makes: the fault, and the tree. -/
def RenR (t : List It) (p q : ByteArray) (r : Int × List It) : Prop :=
  if staysF t p q = 0 then (if (underL t p).all (fun x => pathB (tx (mvP p q x).1)) then ∃ zs, zs.Perm (outL t p ++ (underL t p).map (mvP p q)) ∧ Srt zs ∧ r = (0, zs) else r = (10, [])) else r = (staysF t p q, [])
theorem stays_has {t : List It} {p q : ByteArray} (h : staysF t p q = 0) : underL t p ≠ [] := by
  intro e
  unfold staysF at h
  split at h
  · cases hx : look t p with
    | none => rw [hx] at h; simp at h
    | some x =>
      obtain ⟨hm, hp⟩ := look_mem hx
      have : x ∈ underL t p := List.mem_filter.2 ⟨hm, by rw [hp]; simp [withinB]⟩
      rw [e] at this
      cases this
  · rename_i hn
    exact hn h

set_option maxHeartbeats 8000000 in
theorem rename_any (w : World) (v : Value) (t : List It) (p q : ByteArray) (h : IRow Any w v t) (hl : t.length ≤ 1000) (hs : ∀ y ∈ t, ShortI y) (hp : p.size ≤ 10000) (hq : q.size ≤ 10000) :
    Calls Tryz.prog 17 #[v, .string p, .string q] w fun e w' => ∃ r, RenR t p q r ∧ Chd w r e w' := by
  have HS := hid (stays_any w v t p q h hl hs hp hq)
  have HP := hid (fun (V : World) (k : Kp No w V) => apart_any V v t p (h.kept k) (by omega) hs)
  have HM : Hid (∀ r, RenR t p q r = if staysF t p q = 0 then (if (underL t p).all (fun x => pathB (tx (mvP p q x).1)) then ∃ zs, zs.Perm (outL t p ++ (underL t p).map (mvP p q)) ∧ Srt zs ∧ r = (0, zs) else r = (10, [])) else r = (staysF t p q, [])) := fun _ => rfl
  have HW : Hid (∀ x ∈ underL t p, p.size ≤ x.1.size) := fun x hx => within_len (List.mem_filter.1 hx).2
  have HSH : Hid (∀ x ∈ underL t p, ShortI x) := fun x hx => hs x (List.mem_filter.1 hx).1
  have hul : Hid ((underL t p).length ≤ 1000) := Nat.le_trans (List.length_filter_le _ _) hl
  have hol : Hid ((outL t p).length ≤ 1000) := Nat.le_trans (List.length_filter_le _ _) hl
  generalize RenR t p q = R at *
  clear h hs hl
  by_cases hf : staysF t p q = 0
  · have HNE := hid (stays_has hf)
    rw [hf] at HS HM
    simp only [if_true] at HM
    clear hf
    generalize outL t p = os at *
    generalize underL t p = us at *
    obtain ⟨n, hn⟩ : ∃ n, us.length = n := ⟨_, rfl⟩
    have HN := hid hn
    have hnb : n ≤ 1000 := by rw [← hn]; exact hul.out
    clear hn
    go_enter Tryz.func17, Tryz.ntmps17
    go_wp2_with (first | (go_at_call 33; refine (HP.out _ HK.out).mono ?_; rintro e w2 ⟨a, n0, c, a', n', c', rfl, ht⟩; obtain ⟨_, _, e0⟩ := ht.a.form; rw [HN.out] at e0; cases e0; have HT := hid ht; clear ht) | (go_at_call 35; refine HS.out.mono ?_; rintro e w1 ⟨rfl, hk⟩; have HK := hid hk; clear hk))
    go_loopw [10, 28] (fun v10 x wr => ∃ (i : Nat) (a1 : Option Addr) (n1 c1 : Nat), v10 = .slice a1 n1 c1 ∧ x = .int .i64 i ∧ i ≤ n ∧ Hid (Two w1 wr (.slice a n c) (.slice a1 n1 c1) us (os ++ (us.take i).map (mvP p q))) ∧ Hid ((us.take i).all (fun x => pathB (tx (mvP p q x).1)) = true)) (fun _ x _ => n - (intOf x).toNat)
    case atStart => exact ⟨0, a', n', c', rfl, rfl, Nat.zero_le _, by simpa [Hid] using HT.out, by simp [Hid]⟩
    case round =>
      obtain ⟨i, a1, n1, c1, rfl, rfl, hi, HTR, HALL⟩ := hrel
      by_cases hlt : i < n
      · have hltI : (i : Int) < (n : Int) := by omega
        have hi0 : (0 : Int) ≤ (i : Int) := by omega
        obtain ⟨x, hx⟩ : ∃ x, us[i]? = some x := ⟨_, List.getElem?_eq_getElem (by rw [HN.out]; omega)⟩
        have HX := hid hx
        have HWX := hid (HW.out x (List.mem_of_getElem? hx))
        have HSX := hid (HSH.out x (List.mem_of_getElem? hx))
        obtain ⟨g, cap, e, hc⟩ := HTR.out.a.at (by rintro rfl; simp at hx)
        rw [HN.out] at e
        cases e
        obtain ⟨u, k0, k1, k2, hb, h1⟩ := hc _ (Kp.refl _ _) i x hx
        obtain ⟨au, cu, hu⟩ := hb.form
        subst hu
        have HU := hid hb
        have HC0 := hid k0
        have hpx : (p.size : Int) ≤ (x.1.size : Int) := by have := HWX.out; omega
        have HXS : Hid (x.1.size ≤ 10000) := HSX.out.1
        clear hx hb hc
        have hbig : ¬ (9223372036854775807 < q.size + (x.1.size - p.size)) := by have := HXS.out; omega
        have HPT := hid (fun W => path_any (q ++ x.1.extract p.size x.1.size) (by have := HXS.out; rw [ByteArray.size_append, ByteArray.size_extract]; omega) W)
        have HLEN : Hid ((os ++ (us.take i).map (mvP p q)).length + 1 ≤ 1000000) := by
          have h1 := List.length_take_le i us
          have h2 := hol.out
          have h3 := hul.out
          have h4 := HN.out
          unfold Hid
          rw [List.length_append, List.length_map]
          omega
        cases hpa : pathB (tx (mvP p q x).1) with
        | false =>
          have hpa' : pathB (q ++ x.1.extract p.size x.1.size).data.toList = false := hpa
          rw [hpa'] at HPT
          have HPA := hid hpa
          clear hpa hpa'
          go_wp2_with (go_at_call 36; refine (HPT.out _).mono ?_; rintro e w3 ⟨rfl, hk⟩; have HK3 := hid (((Kp.refl No _).alloc _).andNone hk); have HB3 := hid ((Blk.new wr 41 [.string (q ++ x.1.extract p.size x.1.size), .bool x.2.1, .slice au x.2.2.length cu]).kp hk (fun h => h)); have b0 := HB3.out.cell 0; have b1 := HB3.out.cell 1; have b2 := HB3.out.cell 2; simp only [List.getElem?_cons_zero, List.getElem?_cons_succ] at b0 b1 b2; clear hk)
          go_ret2
          refine ⟨(10, []), ?_, Chd.no rfl ?_⟩
          · rw [HM.out, if_neg (by
              intro hall
              have := List.all_eq_true.1 hall x (List.mem_of_getElem? HX.out)
              rw [HPA.out] at this
              cases this)]
          exact ((HK.out.andNone HTR.out.k).andNone HK3.out)
        | true =>
          have hpa' : pathB (q ++ x.1.extract p.size x.1.size).data.toList = true := hpa
          rw [hpa'] at HPT
          have HPA := hid hpa
          clear hpa hpa'
          go_wp2_with (first | (go_at_call 36; refine (HPT.out _).mono ?_; rintro e w3 ⟨rfl, hk⟩; have HK3 := hid (((Kp.refl No _).alloc _).andNone hk); have HB3 := hid ((Blk.new wr 41 [.string (q ++ x.1.extract p.size x.1.size), .bool x.2.1, .slice au x.2.2.length cu]).kp hk (fun h => h)); have b0 := HB3.out.cell 0; have b1 := HB3.out.cell 1; have b2 := HB3.out.cell 2; simp only [List.getElem?_cons_zero, List.getElem?_cons_succ] at b0 b1 b2; clear hk) | (at_builtin; refine app_item _ w3 rfl _ _ 30 Tryz.underlying30 rfl _ _ (mvP p q x) (.slice au x.2.2.length cu) rfl rfl rfl (HTR.out.b.kept HK3.out) (HU.out.kp HK3.out (fun _ h => h.elim)) rfl (by have := HLEN.out; omega) ?_; intro ad cap2 w4 hown hg hbk))
          have HTN := hid ((HTR.out.swap.push (HK3.out.andNone ((Kp.refl No _).alloc _)) hg hown hbk).swap)
          have elen : (os ++ (us.take i).map (mvP p q)).length + 1 = os.length + min i us.length + 1 := by simp
          rw [elen] at HTN
          clear hown hg hbk elen
          go_roundw
          case rel => exact ⟨i + 1, ad, _, cap2, rfl, by go_num, by omega, by
            rw [Hid, take_next HX.out, List.map_append, ← List.append_assoc, List.map_cons, List.map_nil]
            exact HTN.out, by
            rw [Hid, take_next HX.out, List.all_append, HALL.out]
            simpa using HPA.out⟩
          case measure => simp [intOf] <;> omega
      · have hltI : ¬ (i : Int) < (n : Int) := by omega
        have ei : us.take i = us := List.take_of_length_le (by have := HN.out; omega)
        rw [ei] at HTR HALL
        have HSO2 := hid (sort_own wr (.slice a1 n1 c1) (os ++ us.map (mvP p q)) HTR.out.b (by have := HNE.out; simp [this]) (by rw [List.length_append, List.length_map]; have := hul.out; have := hol.out; omega))
        clear ei
        go_wp2_with (go_at_call 37; refine HSO2.out.mono ?_; rintro e w4 ⟨rfl, zs, hz1, hz2, ho, hk⟩; have HZ := hid (And.intro hz1 hz2); have HO := hid ho; have HK4 := hid hk; clear ho hk hz1 hz2)
        go_ret2
        refine ⟨(0, zs), ?_, ?_⟩
        · rw [HM.out, if_pos HALL.out]
          exact ⟨zs, HZ.out.1, HZ.out.2, rfl⟩
        exact Chd.mk _ rfl HO.out (fun b e => Nat.le_trans HK.out.size (HTR.out.lb b e)) (HK.out.andNone (HTR.out.k.trans HK4.out (fun b e => .inr (HTR.out.lb b e))))
  · simp only [if_neg hf] at HM
    have hf' : (staysF t p q != 0) = true := by simpa using hf
    generalize staysF t p q = f at *
    clear hf
    go_enter Tryz.func17, Tryz.ntmps17
    go_wp2_with (go_at_call 35; refine HS.out.mono ?_; rintro e w1 ⟨rfl, hk⟩; have HK := hid hk; clear hk)
    go_ret2
    exact ⟨(f, []), by rw [HM.out], Chd.no rfl HK.out⟩

end Go.Proofs.YtdooiflmjeibdaaGreatDoor.Tr
end

section
/-
  What a rename leaves right: purely.
-/
namespace Go.Proofs.YtdooiflmjeibdaaGreatDoor.Tr
open Go.RowKit

theorem tx_len (b : ByteArray) : (tx b).length = b.size := Array.length_toList
theorem tx_take (s : ByteArray) (i : Nat) : tx (s.extract 0 i) = (tx s).take i := by
  show (s.extract 0 i).data.toList = _
  rw [ByteArray.data_extract, Array.toList_extract, List.extract_eq_take_drop]
  simp
theorem right_each {t : List It} (h : rightB t = true) {x : It} (hx : x ∈ t) : pathB (tx x.1) = true ∧ homeF t x.1 = 0 := by
  simp only [rightB, Bool.and_eq_true] at h
  cases hw : wrongB t x with
  | true =>
    have := List.any_eq_true.2 ⟨x, hx, hw⟩
    rw [this] at h
    simp at h
  | false =>
    simp only [wrongB, Bool.or_eq_false_iff, Bool.not_eq_false', decide_eq_true_eq] at hw
    exact hw.1
/-- What is within q, but is not q, has its directory within q. -/
theorem under_dir {q s : ByteArray} (hq : tx q ≠ []) (hs : pathB (tx s) = true) (h : withinB (tx q) (tx s) = true) (hne : s ≠ q) :
    withinB (tx q) (tx (splitS s).1) = true ∧ (splitS s).1.size < s.size ∧ (splitS s).1 ≠ ⟨#[]⟩ := by
  have h1 : (tx s == tx q) = false := beq_eq_false_iff_ne.2 (fun e => hne (ba_eq.2 e))
  have h2 : (tx q == []) = false := beq_eq_false_iff_ne.2 hq
  unfold withinB at h
  rw [h1, h2, Bool.false_or, Bool.false_or] at h
  obtain ⟨r, hr⟩ := List.isPrefixOf_iff_prefix.1 h
  rw [List.append_assoc, List.singleton_append] at hr
  have hl : s.size = q.size + (r.length + 1) := by rw [← tx_len s, ← tx_len q, ← hr]; simp
  have h47 : (s.data[q.size]!).toNat = 47 := by
    rw [getBang s q.size (by omega), byt]
    show (((tx s).getD q.size 0).toNat) = 47
    rw [← hr, List.getD_eq_getElem?_getD, List.getElem?_append_right (by rw [tx_len]; exact Nat.le_refl _), tx_len, Nat.sub_self]
    rfl
  rw [splitS_yes hs]
  rcases Lib.lastIndexByte_spec s 47 with ⟨_, h3⟩ | ⟨i, hi, h3, _, h4⟩
  · exact absurd (by omega) (h3 q.size (by omega))
  have hqi : q.size ≤ i := by
    rcases Nat.lt_or_ge i q.size with h5 | h5
    · exact absurd (by omega) (h4 q.size h5 (by omega))
    · exact h5
  have hd : dirS s = s.extract 0 i := by
    unfold dirS lastI
    rw [h3]
    congr 1
    omega
  have ht : tx (dirS s) = tx q ++ (47 :: r).take (i - q.size) := by
    rw [hd, tx_take, ← hr, List.take_append, tx_len, List.take_of_length_le (by rw [tx_len]; exact hqi)]
  have hsz : (dirS s).size = i := by rw [hd, ByteArray.size_extract]; omega
  refine ⟨?_, by show (dirS s).size < _; omega, ?_⟩
  · show withinB (tx q) (tx (dirS s)) = true
    rw [ht, within_pre]
    cases hk : i - q.size with
    | zero => simp
    | succ k => simp
  · intro e
    have e' : dirS s = ⟨#[]⟩ := e
    rw [e'] at ht
    have h7 := congrArg List.length ht
    rw [List.length_append] at h7
    have h6 : 0 < (tx q).length := List.length_pos_iff.2 hq
    have h8 : (tx (⟨#[]⟩ : ByteArray)).length = 0 := rfl
    omega
/-- Nothing is within a path that is not there. -/
theorem under_none {t : List It} (hr : rightB t = true) {q : ByteArray} (hq : tx q ≠ []) (hn : look t q = none) : ∀ (n : Nat) (x : It), x ∈ t → x.1.size ≤ n → withinB (tx q) (tx x.1) = false
  | n, x, hx, hl => by
    cases hw : withinB (tx q) (tx x.1) with
    | false => rfl
    | true =>
      exfalso
      obtain ⟨hp, hh⟩ := right_each hr hx
      obtain ⟨d1, d2, d3⟩ := under_dir hq hp hw (look_none hn x hx)
      unfold homeF at hh
      rw [if_neg d3] at hh
      cases hy : look t (splitS x.1).1 with
      | none => rw [hy] at hh; simp at hh
      | some y =>
        obtain ⟨hm, he⟩ := look_mem hy
        cases n with
        | zero => omega
        | succ n =>
          have := under_none hr hq hn n y hm (by rw [he]; omega)
          rw [he, d1] at this
          cases this

end Go.Proofs.YtdooiflmjeibdaaGreatDoor.Tr
end

section
/-
  There and back: purely.
-/
namespace Go.Proofs.YtdooiflmjeibdaaGreatDoor.Tr
open Go.RowKit

theorem tx_app (a b : ByteArray) : tx (a ++ b) = tx a ++ tx b := by
  show (a ++ b).data.toList = _
  rw [ByteArray.data_append, Array.toList_append]
theorem tx_drop (s : ByteArray) (i : Nat) : tx (s.extract i s.size) = (tx s).drop i := by
  show (s.extract i s.size).data.toList = _
  rw [ByteArray.data_extract, Array.toList_extract, List.extract_eq_take_drop, List.take_of_length_le]
  rw [List.length_drop, len_data]
  exact Nat.le_refl _
theorem within_split {p s : ByteArray} (hp : tx p ≠ []) (h : withinB (tx p) (tx s) = true) : ∃ r, tx s = tx p ++ r ∧ (r = [] ∨ r.head? = some 47) := by
  have h2 : (tx p == []) = false := beq_eq_false_iff_ne.2 hp
  unfold withinB at h
  rw [h2, Bool.or_false, Bool.or_eq_true, beq_iff_eq] at h
  rcases h with h | h
  · exact ⟨[], by rw [h, List.append_nil], .inl rfl⟩
  · obtain ⟨r, hr⟩ := List.isPrefixOf_iff_prefix.1 h
    exact ⟨47 :: r, by rw [← hr, List.append_assoc, List.singleton_append], .inr rfl⟩
theorem mv_tx {p q : ByteArray} {x : It} {r : Tx} (h : tx x.1 = tx p ++ r) : tx (mvP p q x).1 = tx q ++ r := by
  show tx (q ++ x.1.extract p.size x.1.size) = _
  rw [tx_app, tx_drop, h, List.drop_append, tx_len, Nat.sub_self, List.drop_zero, List.drop_of_length_le (by rw [tx_len]; exact Nat.le_refl _), List.nil_append]
theorem mv_back {p q : ByteArray} {x : It} (hp : tx p ≠ []) (h : withinB (tx p) (tx x.1) = true) : mvP q p (mvP p q x) = x := by
  obtain ⟨r, hr, _⟩ := within_split hp h
  have h1 := mv_tx (q := q) hr
  have h2 := mv_tx (x := mvP p q x) (p := q) (q := p) h1
  obtain ⟨a, b, c⟩ := x
  show ((mvP q p (mvP p q (a, b, c))).1, b, c) = (a, b, c)
  rw [ba_eq.2 (h2.trans hr.symm)]
theorem mv_within {p q : ByteArray} {x : It} (hp : tx p ≠ []) (h : withinB (tx p) (tx x.1) = true) : withinB (tx q) (tx (mvP p q x).1) = true := by
  obtain ⟨r, hr, he⟩ := within_split hp h
  rw [mv_tx hr, within_pre]
  rcases he with rfl | he
  · simp
  · simp [he]

/-- What is moved, and what stays: of the list that a rename sorts. -/
theorem moved_under {t : List It} {p q : ByteArray} (hp : tx p ≠ []) (hn : ∀ x ∈ t, withinB (tx q) (tx x.1) = false) :
    underL (outL t p ++ (underL t p).map (mvP p q)) q = (underL t p).map (mvP p q) ∧ outL (outL t p ++ (underL t p).map (mvP p q)) q = outL t p := by
  have h1 : ∀ x ∈ outL t p, withinB (tx q) (tx x.1) = false := fun x hx => hn x (List.mem_filter.1 hx).1
  have h2 : ∀ x ∈ (underL t p).map (mvP p q), withinB (tx q) (tx x.1) = true := by
    intro x hx
    obtain ⟨y, hy, rfl⟩ := List.mem_map.1 hx
    exact mv_within hp (List.mem_filter.1 hy).2
  constructor
  · unfold underL at h2 ⊢
    rw [List.filter_append, List.filter_eq_nil_iff.2 (fun x hx => by rw [h1 x hx]; simp), List.nil_append, List.filter_eq_self.2 h2]
  · generalize outL t p = a at h1 ⊢
    generalize (underL t p).map (mvP p q) = b at h2 ⊢
    unfold outL
    rw [List.filter_append, List.filter_eq_self.2 (fun x hx => by rw [h1 x hx]; rfl), List.filter_eq_nil_iff.2 (fun x hx => by rw [h2 x hx]; simp), List.append_nil]
theorem Perm.underL {a b : List It} (h : a.Perm b) (p : ByteArray) : (underL a p).Perm (underL b p) := h.filter _
theorem Perm.outL {a b : List It} (h : a.Perm b) (p : ByteArray) : (outL a p).Perm (outL b p) := h.filter _
/-- The parts of a list make it up. -/
theorem parts_perm (t : List It) (p : ByteArray) : (outL t p ++ underL t p).Perm t := by
  have h := List.filter_append_perm (fun x : It => !withinB (tx p) (tx x.1)) t
  simp only [Bool.not_not] at h
  exact h
/-- There and back: the same items. -/
theorem back_perm {t zs ws : List It} {p q : ByteArray} (hp : tx p ≠ []) (hn : ∀ x ∈ t, withinB (tx q) (tx x.1) = false)
    (hz : zs.Perm (outL t p ++ (underL t p).map (mvP p q))) (hw : ws.Perm (outL zs q ++ (underL zs q).map (mvP q p))) : ws.Perm t := by
  obtain ⟨h1, h2⟩ := moved_under hp hn
  have h3 := Perm.underL hz q
  have h4 := Perm.outL hz q
  rw [h1] at h3
  rw [h2] at h4
  refine hw.trans ((h4.append (h3.map _)).trans ?_)
  rw [List.map_map]
  have h5 : (underL t p).map (mvP q p ∘ mvP p q) = underL t p := by
    refine (List.map_congr_left (fun x hx => ?_)).trans (List.map_id _)
    exact mv_back hp (List.mem_filter.1 hx).2
  rw [h5]
  exact parts_perm t p
/-- Sorted lists of the same items, with no path twice, are the same. -/
theorem srt_unique {a t : List It} (h : a.Perm t) (ha : Srt a) (ht : Rises t) : a = t := by
  have hs : Srt t := ht.imp (fun h => bb_asym h)
  refine List.Perm.eq_of_pairwise (le := fun x y : It => bytesBefore (tx y.1) (tx x.1) = false) (fun x y hx hy h1 h2 => ?_) ha hs h
  have e : tx x.1 = tx y.1 := bb_tri _ _ h2 h1
  have hx' := look_rises ht (h.mem_iff.1 hx)
  have hy' := look_rises ht hy
  rw [ba_eq.2 e, hy'] at hx'
  cases hx'
  rfl

end Go.Proofs.YtdooiflmjeibdaaGreatDoor.Tr
end

section
/-
  A rename leaves a tree right: purely.
-/
namespace Go.Proofs.YtdooiflmjeibdaaGreatDoor.Tr
open Go.RowKit

/-- The place of the last /. -/
def LastAt (r : Tx) (k : Nat) : Prop := r[k]? = some 47 ∧ ∀ j, k < j → r[j]? ≠ some 47
theorem LastAt.one {r : Tx} {k l : Nat} (h : LastAt r k) (h' : LastAt r l) : k = l := by
  rcases Nat.lt_trichotomy k l with e | e | e
  · exact absurd h'.1 (h.2 l e)
  · exact e
  · exact absurd h.1 (h'.2 k e)
theorem at_tx (s : ByteArray) (i : Nat) (h : i < s.size) : (((s.data[i]!).toNat : Int) = 47) ↔ (tx s)[i]? = some 47 := by
  have h2 : i < (tx s).length := by rw [tx_len]; exact h
  rw [getBang s i h, byt]
  show ((((tx s).getD i 0).toNat : Int) = 47) ↔ _
  rw [List.getD_eq_getElem?_getD, List.getElem?_eq_getElem h2, Option.getD_some, Option.some.injEq]
  constructor
  · intro e
    have e' : ((tx s)[i]).toNat = 47 := by omega
    exact UInt8.toNat_inj.1 e'
  · intro e
    rw [e]
    rfl
/-- The directory of a path in which there is a /. -/
theorem dir_last {s : ByteArray} {k : Nat} (hs : pathB (tx s) = true) (h : LastAt (tx s) k) : tx (splitS s).1 = (tx s).take k := by
  have hk : k < s.size := by rw [← tx_len]; exact (List.getElem?_eq_some_iff.1 h.1).1
  rw [splitS_yes hs]
  rcases Lib.lastIndexByte_spec s 47 with ⟨_, h3⟩ | ⟨i, hi, h3, h5, h4⟩
  · exact absurd ((at_tx s k hk).2 h.1) (h3 k hk)
  have hl : LastAt (tx s) i := ⟨(at_tx s i hi).1 h5, fun j hj e => by
    have hj2 : j < s.size := by rw [← tx_len]; exact (List.getElem?_eq_some_iff.1 e).1
    exact h4 j hj hj2 ((at_tx s j hj2).2 e)⟩
  rw [h.one hl]
  show tx (dirS s) = _
  have hd : dirS s = s.extract 0 i := by
    unfold dirS lastI
    rw [h3]
    congr 1
    omega
  rw [hd, tx_take]
/-- A path has a directory: a / is in it. -/
theorem dir_has {s : ByteArray} (hs : pathB (tx s) = true) (hne : (splitS s).1 ≠ ⟨#[]⟩) : ∃ k, LastAt (tx s) k := by
  rcases Lib.lastIndexByte_spec s 47 with ⟨h3, _⟩ | ⟨i, hi, h3, h5, h4⟩
  · exfalso
    apply hne
    rw [splitS_yes hs]
    show dirS s = _
    unfold dirS lastI
    rw [h3]
    apply ba_eq.2
    show tx (s.extract 0 0) = _
    rw [tx_take]
    rfl
  · exact ⟨i, (at_tx s i hi).1 h5, fun j hj e => by
      have hj2 : j < s.size := by rw [← tx_len]; exact (List.getElem?_eq_some_iff.1 e).1
      exact h4 j hj hj2 ((at_tx s j hj2).2 e)⟩
theorem LastAt.app {a r : Tx} {k : Nat} (h : LastAt r k) : LastAt (a ++ r) (a.length + k) := by
  refine ⟨by rw [List.getElem?_append_right (by omega), Nat.add_sub_cancel_left]; exact h.1, fun j hj => ?_⟩
  rw [List.getElem?_append_right (by omega)]
  exact h.2 _ (by omega)
theorem last_of : ∀ r : Tx, (∃ i : Nat, r[i]? = some 47) → ∃ k, LastAt r k
  | [], ⟨i, h⟩ => by simp at h
  | c :: r, h => by
    by_cases h' : ∃ i : Nat, r[i]? = some 47
    · obtain ⟨k, hk⟩ := last_of r h'
      refine ⟨k + 1, by rw [List.getElem?_cons_succ]; exact hk.1, fun j hj => ?_⟩
      cases j with
      | zero => omega
      | succ j => rw [List.getElem?_cons_succ]; exact hk.2 j (by omega)
    · obtain ⟨i, hi⟩ := h
      cases i with
      | succ i => exact absurd ⟨i, by rw [List.getElem?_cons_succ] at hi; exact hi⟩ h'
      | zero =>
        refine ⟨0, hi, fun j hj => ?_⟩
        cases j with
        | zero => omega
        | succ j => rw [List.getElem?_cons_succ]; exact fun e => h' ⟨j, e⟩

/-- What has its directory within p, is within p. -/
theorem within_up {p s : ByteArray} (hp : tx p ≠ []) (hs : pathB (tx s) = true) (hne : (splitS s).1 ≠ ⟨#[]⟩) (h : withinB (tx p) (tx (splitS s).1) = true) : withinB (tx p) (tx s) = true := by
  obtain ⟨k, hk⟩ := dir_has hs hne
  obtain ⟨r, hr, he⟩ := within_split hp h
  rw [dir_last hs hk] at hr
  have hkl := (List.getElem?_eq_some_iff.1 hk.1).1
  have h1 : tx s = (tx s).take k ++ (tx s).drop k := (List.take_append_drop _ _).symm
  have h2 : (tx s).drop k = 47 :: (tx s).drop (k + 1) := by
    rw [List.drop_eq_getElem_cons hkl]
    congr 1
    exact (List.getElem?_eq_some_iff.1 hk.1).2
  rw [h1, hr, h2, List.append_assoc, within_pre]
  rcases he with rfl | he
  · simp
  · cases r with
    | nil => simp
    | cons c r => simp at he; simp [he]
/-- The directory of what is moved is what its directory is moved to. -/
theorem dir_mv {p q : ByteArray} {x y : It} (hp : tx p ≠ []) (h : withinB (tx p) (tx x.1) = true) (hne : x.1 ≠ p) (hx : pathB (tx x.1) = true) (hm : pathB (tx (mvP p q x).1) = true) (hy : y.1 = (splitS x.1).1) : (splitS (mvP p q x).1).1 = (mvP p q y).1 := by
  obtain ⟨r, hr, he⟩ := within_split hp h
  have hr0 : r.head? = some 47 := by
    rcases he with rfl | he
    · exact absurd (ba_eq.2 (hr.trans (List.append_nil _))) hne
    · exact he
  obtain ⟨k, hk⟩ := last_of r ⟨0, by rw [← List.head?_eq_getElem?]; exact hr0⟩
  have h1 := dir_last hx (by rw [hr]; exact hk.app)
  have h2 := dir_last hm (by rw [mv_tx hr]; exact hk.app)
  rw [hr, List.take_append, List.take_of_length_le (by omega), Nat.add_sub_cancel_left] at h1
  rw [mv_tx hr, List.take_append, List.take_of_length_le (by omega), Nat.add_sub_cancel_left] at h2
  apply ba_eq.2
  exact h2.trans (mv_tx (x := y) (by rw [hy]; exact h1)).symm

theorem right_size {t : List It} (h : rightB t = true) {x : It} (hx : x ∈ t) : ¬ (if x.2.1 then 0 else 2000) < x.2.2.length := by
  simp only [rightB, Bool.and_eq_true] at h
  cases hw : wrongB t x with
  | true =>
    have := List.any_eq_true.2 ⟨x, hx, hw⟩
    rw [this] at h
    simp at h
  | false =>
    simp only [wrongB, Bool.or_eq_false_iff, decide_eq_false_iff_not] at hw
    exact hw.2
theorem right_mk {t : List It} (hl : t.length ≤ 60) (hr : Rises t) (h : ∀ x ∈ t, pathB (tx x.1) = true ∧ homeF t x.1 = 0 ∧ ¬ (if x.2.1 then 0 else 2000) < x.2.2.length) : rightB t = true := by
  have h1 : risesB t = true := (rises_adj t).2 (fun i x y hx hy => by
    obtain ⟨hi, rfl⟩ := List.getElem?_eq_some_iff.1 hx
    obtain ⟨hj, rfl⟩ := List.getElem?_eq_some_iff.1 hy
    exact List.pairwise_iff_getElem.1 hr i (i + 1) hi hj (by omega))
  have h2 : t.any (wrongB t) = false := List.any_eq_false.2 (fun x hx => by
    obtain ⟨a, b, c⟩ := h x hx
    unfold wrongB
    rw [a, b, decide_eq_false c]
    simp)
  rw [rightB, decide_eq_true hl, h1, h2]
  rfl
/-- What staysF tells of a rename that may be. -/
theorem stays_facts {t : List It} {p q : ByteArray} (h : staysF t p q = 0) (hpq : p ≠ q) : rightB t = true ∧ pathB (tx p) = true ∧ pathB (tx q) = true ∧ (∃ x, look t p = some x) ∧ homeF t q = 0 ∧ look t q = none ∧ withinB (tx p) (tx q) = false := by
  unfold staysF at h
  split at h
  · rename_i ha
    have hr := asked_right ha
    unfold askedF at ha
    rw [hr, if_pos rfl] at ha
    have hpq2 : pathB (tx p) = true ∧ pathB (tx q) = true := by
      split at ha
      · rename_i hh
        simpa using hh
      · simp at ha
    refine ⟨hr, hpq2.1, hpq2.2, ?_⟩
    cases hx : look t p with
    | none => rw [hx] at h; simp at h
    | some x =>
      rw [hx] at h
      simp only at h
      split at h
      · rename_i ho
        refine ⟨⟨x, rfl⟩, ho, ?_⟩
        cases hy : look t q with
        | some y => rw [hy] at h; simp at h
        | none =>
          rw [hy] at h
          simp only at h
          cases hw : withinB (tx p) (tx q) with
          | true => rw [hw] at h; simp at h
          | false => exact ⟨rfl, rfl⟩
      · rename_i ho
        exact absurd h ho
  · rename_i hn
    exact absurd h hn

theorem path_ne {p : ByteArray} (h : pathB (tx p) = true) : tx p ≠ [] := by
  intro e
  rw [e] at h
  revert h
  decide
/-- Rename leaves a tree right. -/
theorem ren_right {t zs : List It} {p q : ByteArray} (h : staysF t p q = 0) (hpq : p ≠ q) (hall : (underL t p).all (fun x => pathB (tx (mvP p q x).1)) = true) (hz : zs.Perm (outL t p ++ (underL t p).map (mvP p q))) (hs : Srt zs) : rightB zs = true := by
  obtain ⟨hr, hpp, hqp, ⟨xp, hxp⟩, hhome, hlq, hwq⟩ := stays_facts h hpq
  have hp := path_ne hpp
  have hq := path_ne hqp
  have hn : ∀ x ∈ t, withinB (tx q) (tx x.1) = false := fun x hx => under_none hr hq hlq _ x hx (Nat.le_refl _)
  have hri := rises_pair t (right_rises hr).1
  have hmo : ∀ z ∈ outL t p, z ∈ t ∧ withinB (tx p) (tx z.1) = false := fun z hz => ⟨(List.mem_filter.1 hz).1, by simpa using (List.mem_filter.1 hz).2⟩
  have hmu : ∀ z ∈ underL t p, z ∈ t ∧ withinB (tx p) (tx z.1) = true := fun z hz => ⟨(List.mem_filter.1 hz).1, (List.mem_filter.1 hz).2⟩
  have hdist : zs.Pairwise (fun a b => a.1 ≠ b.1) := by
    refine (hz.pairwise_iff (fun h e => h e.symm)).2 (List.pairwise_append.2 ⟨?_, ?_, ?_⟩)
    · exact (hri.filter _).imp (fun {a b} h e => by rw [e, bb_irr] at h; cases h)
    · refine List.pairwise_map.2 ((hri.filter _).imp_of_mem (fun {a b} ha hb hab e => ?_))
      obtain ⟨r, h1, _⟩ := within_split hp (hmu a ha).2
      obtain ⟨r', h2, _⟩ := within_split hp (hmu b hb).2
      have h3 := mv_tx (q := q) h1
      have h4 := mv_tx (q := q) h2
      rw [e, h4] at h3
      have h5 := List.append_cancel_left h3
      rw [h1, h2, h5, bb_irr] at hab
      cases hab
    · intro a ha b hb e
      obtain ⟨y, hy, rfl⟩ := List.mem_map.1 hb
      have h1 := hn a (hmo a ha).1
      rw [e, mv_within hp (hmu y hy).2] at h1
      cases h1
  have hzr : Rises zs := by
    refine (hs.and hdist).imp (fun {a b} h => ?_)
    cases hb : bytesBefore (tx a.1) (tx b.1) with
    | true => rfl
    | false => exact absurd (ba_eq.2 (bb_tri _ _ hb h.1)) h.2
  have hlen : zs.length ≤ 60 := by
    rw [hz.length_eq, List.length_append, List.length_map, ← List.length_append, (parts_perm t p).length_eq]
    exact (right_rises hr).2
  -- a home outside of p stays
  have hstay : ∀ s : ByteArray, pathB (tx s) = true → homeF t s = 0 → withinB (tx p) (tx s) = false → homeF zs s = 0 := by
    intro s hsp hsh hsw
    unfold homeF at hsh ⊢
    by_cases he : (splitS s).1 = ⟨#[]⟩
    · rw [if_pos he]
    · rw [if_neg he] at hsh ⊢
      cases hy : look t (splitS s).1 with
      | none => rw [hy] at hsh; simp at hsh
      | some y =>
        rw [hy] at hsh
        obtain ⟨hm, hye⟩ := look_mem hy
        have hyo : y ∈ outL t p := List.mem_filter.2 ⟨hm, by
          cases hw : withinB (tx p) (tx y.1) with
          | false => rfl
          | true =>
            rw [hye] at hw
            rw [within_up hp hsp he hw] at hsw
            cases hsw⟩
        have := look_rises hzr (hz.mem_iff.2 (List.mem_append_left _ hyo))
        rw [hye] at this
        rw [this]
        exact hsh
  refine right_mk hlen hzr (fun z hzz => ?_)
  rcases List.mem_append.1 (hz.mem_iff.1 hzz) with ho | hu
  · obtain ⟨h1, h2⟩ := right_each hr (hmo z ho).1
    exact ⟨h1, hstay _ h1 h2 (hmo z ho).2, right_size hr (hmo z ho).1⟩
  · obtain ⟨x, hx, rfl⟩ := List.mem_map.1 hu
    obtain ⟨h1, h2⟩ := right_each hr (hmu x hx).1
    have hmp := List.all_eq_true.1 hall x hx
    have hsz := right_size hr (hmu x hx).1
    refine ⟨hmp, ?_, hsz⟩
    by_cases hxe : x.1 = p
    · have e : (mvP p q x).1 = q := by
        apply ba_eq.2
        have := mv_tx (q := q) (x := x) (p := p) (r := []) (by rw [hxe, List.append_nil])
        rw [List.append_nil] at this
        exact this
      rw [e]
      exact hstay q hqp hhome hwq
    · obtain ⟨d1, d2, d3⟩ := under_dir hp h1 (hmu x hx).2 hxe
      unfold homeF at h2
      rw [if_neg d3] at h2
      cases hy : look t (splitS x.1).1 with
      | none => rw [hy] at h2; simp at h2
      | some y =>
        rw [hy] at h2
        obtain ⟨hm, hye⟩ := look_mem hy
        have hyu : y ∈ underL t p := List.mem_filter.2 ⟨hm, by rw [hye]; exact d1⟩
        have hl := look_rises hzr (hz.mem_iff.2 (List.mem_append_right _ (List.mem_map.2 ⟨y, hyu, rfl⟩)))
        unfold homeF
        rw [dir_mv hp (hmu x hx).2 hxe h1 hmp hye, hl]
        split
        · rfl
        · exact h2

end Go.Proofs.YtdooiflmjeibdaaGreatDoor.Tr
end

section
/-
  A rename back: purely.
-/
namespace Go.Proofs.YtdooiflmjeibdaaGreatDoor.Tr
open Go.RowKit

/-- Behind a rename to another path that may be: the one back may be, and what is moved is as much. -/
theorem ren_back {t zs : List It} {p q : ByteArray} (h : staysF t p q = 0) (hpq : p ≠ q) (hall : (underL t p).all (fun x => pathB (tx (mvP p q x).1)) = true) (hz : zs.Perm (outL t p ++ (underL t p).map (mvP p q))) (hs : Srt zs) :
    staysF zs q p = 0 ∧ (underL zs q).all (fun x => pathB (tx (mvP q p x).1)) = true ∧ (∀ ws, ws.Perm (outL zs q ++ (underL zs q).map (mvP q p)) → Srt ws → ws = t) ∧ (underL zs q).length = (underL t p).length := by
  have hzr := ren_right h hpq hall hz hs
  obtain ⟨hr, hpp, hqp, ⟨xp, hxp⟩, hhome, hlq, hwq⟩ := stays_facts h hpq
  obtain ⟨hxm, hxe⟩ := look_mem hxp
  have hp := path_ne hpp
  have hq := path_ne hqp
  have hn : ∀ x ∈ t, withinB (tx q) (tx x.1) = false := fun x hx => under_none hr hq hlq _ x hx (Nat.le_refl _)
  have hri := rises_pair t (right_rises hr).1
  have hzri := rises_pair zs (right_rises hzr).1
  have hpw : withinB (tx p) (tx p) = true := by simp [withinB]
  have hqpw : withinB (tx q) (tx p) = false := by have := hn xp hxm; rwa [hxe] at this
  have hu := Perm.underL hz q
  rw [(moved_under hp hn).1] at hu
  have hxu : xp ∈ underL t p := List.mem_filter.2 ⟨hxm, by rw [hxe]; exact hpw⟩
  have hmq : (mvP p q xp).1 = q := by
    apply ba_eq.2
    have := mv_tx (q := q) (x := xp) (p := p) (r := []) (by rw [hxe, List.append_nil])
    rw [List.append_nil] at this
    exact this
  have hlook : look zs q = some (mvP p q xp) := by
    have := look_rises hzri (hz.mem_iff.2 (List.mem_append_right _ (List.mem_map.2 ⟨xp, hxu, rfl⟩)))
    rwa [hmq] at this
  have hlookp : look zs p = none := look_none' (fun z hzm e => by
    rcases List.mem_append.1 (hz.mem_iff.1 hzm) with ho | hm
    · have := (List.mem_filter.1 ho).2
      rw [e, hpw] at this
      cases this
    · obtain ⟨y, hy, rfl⟩ := List.mem_map.1 hm
      have := mv_within (q := q) hp (List.mem_filter.1 hy).2
      rw [e, hqpw] at this
      cases this)
  have hhp : homeF zs p = 0 := by
    have hh := (right_each hr hxm).2
    rw [hxe] at hh
    unfold homeF at hh ⊢
    by_cases he : (splitS p).1 = ⟨#[]⟩
    · rw [if_pos he]
    · rw [if_neg he] at hh ⊢
      cases hy : look t (splitS p).1 with
      | none => rw [hy] at hh; simp at hh
      | some y =>
        rw [hy] at hh
        obtain ⟨hm, hye⟩ := look_mem hy
        have hyo : y ∈ outL t p := List.mem_filter.2 ⟨hm, by
          cases hw : withinB (tx p) (tx y.1) with
          | false => rfl
          | true =>
            exfalso
            obtain ⟨k, hk⟩ := dir_has hpp he
            have h1 := within_len hw
            have h2 := congrArg List.length (dir_last hpp hk)
            have h3 := (List.getElem?_eq_some_iff.1 hk.1).1
            rw [List.length_take, tx_len, tx_len] at h2
            rw [tx_len] at h3
            rw [hye] at h1
            omega⟩
        have := look_rises hzri (hz.mem_iff.2 (List.mem_append_left _ hyo))
        rw [hye] at this
        rw [this]
        exact hh
  refine ⟨?_, ?_, ?_, by rw [hu.length_eq, List.length_map]⟩
  · have ha : askedF zs [q, p] = 0 := by
      unfold askedF
      rw [hzr, if_pos rfl, if_pos]
      simp [hpp, hqp]
    unfold staysF
    rw [if_pos ha, hlook]
    simp only
    rw [if_pos hhp, if_neg (fun e => hpq e.symm), hlookp]
    simp only
    rw [hqpw]
    rfl
  · refine List.all_eq_true.2 (fun x hx => ?_)
    obtain ⟨y, hy, rfl⟩ := List.mem_map.1 (hu.mem_iff.1 hx)
    rw [mv_back hp (List.mem_filter.1 hy).2]
    exact (right_each hr (List.mem_filter.1 hy).1).1
  · intro ws hw hsw
    exact srt_unique (back_perm hp hn hz hw) hsw hri
/-- A rename of a path to itself. -/
theorem ren_self {t zs : List It} {p : ByteArray} (hr : rightB t = true) (hpp : pathB (tx p) = true) (hz : zs.Perm (outL t p ++ (underL t p).map (mvP p p))) (hs : Srt zs) : zs = t := by
  have hp := path_ne hpp
  have e : (underL t p).map (mvP p p) = underL t p := by
    refine (List.map_congr_left (fun x hx => ?_)).trans (List.map_id _)
    obtain ⟨r, h1, _⟩ := within_split hp (List.mem_filter.1 hx).2
    have h2 := mv_tx (q := p) h1
    obtain ⟨a, b, c⟩ := x
    show ((mvP p p (a, b, c)).1, b, c) = (a, b, c)
    rw [ba_eq.2 (h2.trans h1.symm)]
  rw [e] at hz
  exact srt_unique (hz.trans (parts_perm t p)) hs (rises_pair t (right_rises hr).1)

end Go.Proofs.YtdooiflmjeibdaaGreatDoor.Tr
end
