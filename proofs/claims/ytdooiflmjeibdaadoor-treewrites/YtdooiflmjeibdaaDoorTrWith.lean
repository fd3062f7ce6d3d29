/-
  with.
-/
import Derived.Test.YtdooiflmjeibdaaDoorTrEdit
namespace Go.Proofs.YtdooiflmjeibdaaDoor.Tr
open Go.RowKit

theorem under_all (t : List It) : underL t ⟨#[]⟩ = t := by
  rw [underL, List.filter_eq_self]
  intro x _
  simp [withinB, tx]
theorem putR_true (x : It) : ∀ t : List It, (∀ y ∈ t, y.1 ≠ x.1) → putR x t true = t
  | [], _ => rfl
  | y :: r, h => by
    rw [putR, if_neg (h y (List.mem_cons_self ..))]
    simp [putR_true x r (fun z hz => h z (List.mem_cons_of_mem _ hz))]
theorem putR_lead (x : It) : ∀ (a b : List It), (∀ y ∈ a, bytesBefore (tx y.1) (tx x.1) = true) → putR x (a ++ b) false = a ++ putR x b false
  | [], _, _ => rfl
  | y :: r, b, h => by
    have hy := h y (List.mem_cons_self ..)
    have hne : y.1 ≠ x.1 := fun e => by rw [e, bb_irr] at hy; cases hy
    rw [List.cons_append, putR, hy, if_neg hne]
    simp [putR_lead x r b (fun z hz => h z (List.mem_cons_of_mem _ hz))]
theorem half_take {t : List It} {p : ByteArray} {i j : Nat} (h : Half t p i j) : ∀ y ∈ t.take i, bytesBefore (tx y.1) (tx p) = true := by
  intro y hy
  obtain ⟨u, hu⟩ := List.mem_iff_getElem?.1 hy
  have hui : u < i := by
    have := (List.getElem?_eq_some_iff.1 hu).1
    rw [List.length_take] at this
    omega
  rw [List.getElem?_take_of_lt hui] at hu
  exact h.1 u y hui hu
theorem half_drop {t : List It} {p : ByteArray} {i j : Nat} (h : Half t p i j) : ∀ y ∈ t.drop j, bytesBefore (tx y.1) (tx p) = false := by
  intro y hy
  obtain ⟨u, hu⟩ := List.mem_iff_getElem?.1 hy
  rw [List.getElem?_drop] at hu
  exact h.2 (j + u) y (by omega) hu
theorem put_ins {t : List It} {x : It} {i : Nat} (h : Half t x.1 i i) (hn : look t x.1 = none) : t.take i ++ x :: t.drop i = putL t x := by
  have h1 : putL t x = putR x (t.take i ++ t.drop i) false := by rw [List.take_append_drop]; rfl
  rw [h1, putR_lead x _ _ (half_take h)]
  congr 1
  have hd := half_drop h
  have hne : ∀ y ∈ t.drop i, y.1 ≠ x.1 := fun y hy => look_none hn y (List.mem_of_mem_drop hy)
  cases hb : t.drop i with
  | nil => rfl
  | cons y r =>
    rw [hb] at hd hne
    rw [putR, hd y (List.mem_cons_self ..), if_neg (hne y (List.mem_cons_self ..))]
    simp [putR_true x r (fun z hz => hne z (List.mem_cons_of_mem _ hz))]
theorem put_set {t : List It} {x y : It} {i : Nat} (hr : Rises t) (hy : t[i]? = some y) (e : y.1 = x.1) : t.set i x = putL t x := by
  obtain ⟨hi, rfl⟩ := List.getElem?_eq_some_iff.1 hy
  have h1 : putL t x = putR x (t.take i ++ t.drop i) false := by rw [List.take_append_drop]; rfl
  have hlead : ∀ z ∈ t.take i, bytesBefore (tx z.1) (tx x.1) = true := by
    intro z hz
    obtain ⟨u, hu⟩ := List.mem_iff_getElem?.1 hz
    have hui : u < i := by
      have := (List.getElem?_eq_some_iff.1 hu).1
      rw [List.length_take] at this
      omega
    rw [List.getElem?_take_of_lt hui] at hu
    rw [← e]
    exact hr.lt hui hu hy
  have hbehind : ∀ z ∈ t.drop (i + 1), z.1 ≠ x.1 := by
    intro z hz ez
    obtain ⟨u, hu⟩ := List.mem_iff_getElem?.1 hz
    rw [List.getElem?_drop] at hu
    have := hr.lt (by omega : i < i + 1 + u) hy hu
    rw [e, ez, bb_irr] at this
    cases this
  rw [h1, putR_lead x _ _ hlead, List.set_eq_take_append_cons_drop, if_pos hi]
  congr 1
  rw [List.drop_eq_getElem_cons hi, putR, e, bb_irr]
  simp [putR_true x _ hbehind]

set_option maxHeartbeats 4000000 in
theorem with_full (w : World) (v u : Value) (t : List It) (x : It) (h : IRow Any w v t) (hs : ∀ y ∈ t, ShortI y) (hr : risesB t = true) (hl : t.length = 60) (hn : look t x.1 = none) :
    Calls Tryd.prog 19 #[v, .agg #[.string x.1, .bool x.2.1, u]] w fun e w' => e = .returned (.tuple #[.slice none 0 0, .int .i64 2]) ∧ Kp No w w' := by
  have HU := hid (fun (V : World) (k : Kp No w V) => under_any V v t ⟨#[]⟩ (h.kept k) (by omega) hs)
  rw [under_all] at HU
  have HA := hid (fun (V : World) (q : Value) (ho : IOwn V q t) => at_no V q t x.1 ho.row (by omega) hr hn)
  obtain ⟨s, d, bs⟩ := x
  simp only at HA hn
  clear h
  go_enter Tryd.func19, Tryd.ntmps19
  go_wp2_with (first
    | (go_at_call 13; refine (HU.out _ ((Kp.refl _ _).alloc _)).mono ?_; rintro e w1 ⟨a, n, c, rfl, ho, _, hk⟩; obtain ⟨a2, c2, e2⟩ := ho.form; rw [hl] at e2; cases e2; have HO := hid ho; have HK1 := hid (((Kp.refl No _).alloc _).andNone hk); obtain ⟨c0, c1, c2⟩ := box_it w (s, d, bs) u _ _ hk; have HJ := hid hk; clear ho hk)
    | (go_at_call 18; refine (HA.out _ _ HO.out).mono ?_; rintro e w2 ⟨i, rfl, _, hk⟩; have HK2 := hid (HK1.out.andNone hk); clear hk))
  go_ret2
  exact ⟨rfl, HK2.out⟩

set_option maxHeartbeats 4000000 in
theorem with_ins (w : World) (v u : Value) (t : List It) (x : It) (h : IRow Any w v t) (hs : ∀ y ∈ t, ShortI y) (hr : risesB t = true) (hl : t.length < 60) (hn : look t x.1 = none) (hu : ByP Any w u x.2.2) (hx : ShortI x) :
    Calls Tryd.prog 19 #[v, .agg #[.string x.1, .bool x.2.1, u]] w fun e w' => ∃ v', e = .returned (.tuple #[v', .int .i64 0]) ∧ IOwn w' v' (putL t x) ∧ (∀ b, v'.ownBlock = some b → w.heap.size ≤ b) ∧ Kp No w w' := by
  have HU := hid (fun (V : World) (k : Kp No w V) => under_any V v t ⟨#[]⟩ (h.kept k) (by omega) hs)
  rw [under_all] at HU
  have HA := hid (fun (V : World) (q : Value) (ho : IOwn V q t) => at_no V q t x.1 ho.row (by omega) hr hn)
  have HP := hid (fun (i : Nat) (hh : Half t x.1 i i) => put_ins hh hn)
  have HX : Hid (x.2.2.length ≤ 20000000) := by have := hx.2; unfold Hid; omega
  have HBU := hid hu
  have H256 := hid hu.lt256
  have HIN := hid (fun (V : World) (q p : Value) (vb i : Nat) (ho : IOwn V q t) (hvb : Blk V vb 33 (itC x p)) (hne : q.ownBlock ≠ some vb) (hpu : ByU V p x.2.2) (h1 : p.oneCell' = true) (hi : i ≤ t.length) => insert_any V q t x p vb i ho hvb hne hpu h1 (by omega) hi)
  have HC := hid (fun (V : World) (k : Kp No w V) => clone_it V x u (hu.kept k) HX.out)
  obtain ⟨s, d, bs⟩ := x
  obtain ⟨n, hN⟩ : ∃ n, t.length = n := ⟨_, rfl⟩
  have HNN := hid hN
  have hl60 : ¬ ((n : Int) == 60) = true := by simp; omega
  have hl60' : ((n : Int) == 60) = false := by simp; omega
  simp only at HA hn HP HIN HC HX
  clear h hu hx
  go_enter Tryd.func19, Tryd.ntmps19
  go_wp2_with (first
    | (go_at_call 13; refine (HU.out _ ((Kp.refl _ _).alloc _)).mono ?_; rintro e w1 ⟨a, n1, c, rfl, ho, hob, hk⟩; obtain ⟨a2, c2, e2⟩ := ho.form; rw [hN] at e2; cases e2; have HO := hid ho; have HOB := hid hob; have HK1 := hid (((Kp.refl No _).alloc _).andNone hk); obtain ⟨c0, c1, c2⟩ := box_it w (s, d, bs) u _ _ hk; have HJ := hid hk; clear ho hk hob)
    | (go_at_call 18; refine (HA.out _ _ HO.out).mono ?_; rintro e w2 ⟨i, rfl, hih, hk⟩; have HI := hid hih; have HK2 := hid (HK1.out.andNone hk); have HO2 := hid (HO.out.kept hk); have HJ2 := hid (HJ.out.andNone hk); obtain ⟨d0, d1, d2⟩ := box_it w (s, d, bs) u _ _ HJ2.out; clear hk hih)
    | (go_at_call 23; refine (HC.out _ HK2.out).mono ?_; rintro e w3 ⟨u', rfl, ho, hn3, hk⟩; have HUO := hid ho; have HUN := hid hn3; have HK3 := hid (HK2.out.andNone hk); have HO3 := hid (HO2.out.kept hk); clear ho hn3 hk)
    | (go_at_call 37; refine (HIN.out _ _ u' _ _ (HO3.out.kept ((Kp.refl No _).alloc _)) (Blk.new _ _ _) (fun e => absurd (own_lt HO3.out _ e) (Nat.lt_irrefl _)) ((HUO.out.byU HX.out H256.out).kp ((Kp.refl No _).alloc _) (fun _ h => h.elim)) HUO.out.one HI.out.1).mono ?_; rintro e w4 ⟨v', rfl, hI⟩; have HINS := hid hI; clear hI))
  go_ret2
  have hsz : (w.alloc (.cells #[.string s, .bool d, u] 33)).heap.size = w.heap.size + 1 := by simp
  have hsz3 := HK3.out.size
  have hsz4 : (w3.alloc (.cells (itC (s, d, bs) u').toArray 33)).heap.size = w3.heap.size + 1 := by simp
  have hI := HINS.out
  refine ⟨v', rfl, ?_, fun b hb => ?_, ?_⟩
  · rw [← HP.out i HI.out.2]
    exact hI.own
  · rcases hI.at' with e | ⟨c, e, hc⟩
    · have := HOB.out b (e ▸ hb)
      omega
    · rw [e] at hb
      cases hb
      omega
  · exact (HK3.out.alloc _).trans hI.k (fun b hb => .inr (by have := HOB.out b hb; omega))

set_option maxHeartbeats 4000000 in
theorem with_set (w : World) (v u : Value) (t : List It) (x y : It) (h : IRow Any w v t) (hs : ∀ y ∈ t, ShortI y) (hr : risesB t = true) (hl : t.length ≤ 60) (hn : look t x.1 = some y) (hu : ByP Any w u x.2.2) (hx : ShortI x) :
    Calls Tryd.prog 19 #[v, .agg #[.string x.1, .bool x.2.1, u]] w fun e w' => ∃ v', e = .returned (.tuple #[v', .int .i64 0]) ∧ IOwn w' v' (putL t x) ∧ (∀ b, v'.ownBlock = some b → w.heap.size ≤ b) ∧ Kp No w w' := by
  have HU := hid (fun (V : World) (k : Kp No w V) => under_any V v t ⟨#[]⟩ (h.kept k) (by omega) hs)
  rw [under_all] at HU
  have HA := hid (fun (V : World) (q : Value) (ho : IOwn V q t) => at_yes V q t x.1 y ho.row (by omega) hr hn)
  have HP := hid (fun (i : Nat) (hh : t[i]? = some y) => put_set (x := x) (rises_pair _ hr) hh (look_mem hn).2)
  have HX : Hid (x.2.2.length ≤ 20000000) := by have := hx.2; unfold Hid; omega
  have H256 := hid hu.lt256
  have HC := hid (fun (V : World) (k : Kp No w V) => clone_it V x u (hu.kept k) HX.out)
  have HST := hid (fun (V : World) (q p : Value) (i : Nat) (ho : IOwn V q t) (hi : i < t.length) (hpu : ByU V p x.2.2) (h1 : p.oneCell' = true) => IOwn.set ho hi hpu h1)
  obtain ⟨s, d, bs⟩ := x
  obtain ⟨n, hN⟩ : ∃ n, t.length = n := ⟨_, rfl⟩
  have HNN := hid hN
  simp only at HA hn HP HC HX HST
  clear h hu hx
  go_enter Tryd.func19, Tryd.ntmps19
  go_wp2_with (first
    | (go_at_call 13; refine (HU.out _ ((Kp.refl _ _).alloc _)).mono ?_; rintro e w1 ⟨a, n1, c, rfl, ho, hob, hk⟩; obtain ⟨a2, c2, e2⟩ := ho.form; rw [hN] at e2; cases e2; have HO := hid ho; have HOB := hid hob; have HK1 := hid (((Kp.refl No _).alloc _).andNone hk); obtain ⟨c0, c1, c2⟩ := box_it w (s, d, bs) u _ _ hk; have HJ := hid hk; clear ho hk hob)
    | (go_at_call 18; refine (HA.out _ _ HO.out).mono ?_; rintro e w2 ⟨i, rfl, ⟨hin, hix⟩, hk⟩; have HI := hid hix; have hinI : (i : Int) < (n : Int) := (by omega); have hi0 : (0 : Int) ≤ (i : Int) := (by omega); have HK2 := hid (HK1.out.andNone hk); have HO2 := hid (HO.out.kept hk); have HJ2 := hid (HJ.out.andNone hk); obtain ⟨d0, d1, d2⟩ := box_it w (s, d, bs) u _ _ HJ2.out; clear hk hix)
    | (go_at_call 23; refine (HC.out _ HK2.out).mono ?_; rintro e w3 ⟨u', rfl, ho, hn3, hk⟩; obtain ⟨au, cu, hau, _⟩ := ho.shape; subst hau; have HUO := hid ho; have HK3 := hid (HK2.out.andNone hk); have HO3 := hid (HO2.out.kept hk); obtain ⟨g, cp, eg, hg1, hg2, hg3, hg4, hg5⟩ := HST.out _ _ _ _ HO3.out hin (HUO.out.byU HX.out H256.out) HUO.out.one; rw [hN] at eg; cases eg; obtain ⟨y0, hy0⟩ := hg3 0 (by omega); obtain ⟨y1, hy1⟩ := hg3 1 (by omega); obtain ⟨y2, hy2⟩ := hg3 2 (by omega); have z0 := hg4 0 (by omega); have z1 := hg4 1 (by omega); have z2 := hg4 2 (by omega); rw [Nat.add_zero] at hy0 z0; have HG1 := hid (And.intro hg1 hg2); have HG5 := hid hg5; clear ho hn3 hk hg3 hg4 hg1 hg2 hg5))
  go_ret2
  obtain ⟨ho, hk⟩ := HG5.out _ rfl
  have hsz : (w.alloc (.cells #[.string s, .bool d, u] 33)).heap.size = w.heap.size + 1 := by simp
  refine ⟨_, rfl, ?_, fun b hb => ?_, ?_⟩
  · rw [← HP.out i HI.out]
    exact ho
  · have := HOB.out b hb
    omega
  · exact HK3.out.trans hk (fun b hb => .inr (by have := HOB.out g rfl; omega))

end Go.Proofs.YtdooiflmjeibdaaDoor.Tr
