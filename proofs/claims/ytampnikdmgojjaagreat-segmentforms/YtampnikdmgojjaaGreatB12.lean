/- Of the proof: the texts SgJoin, SgCmpM, SgOwn, SgValue, SgPut, SgGetM, FrFirst, FrRecord, one behind the other. -/
import Derived.Test.YtampnikdmgojjaaGreatB11
import Derived.Lib.AppendZerosOnto
import Derived.Test.YtampnikdmgojjaaGreatB10
import Derived.Deep.RegionLaw
import Derived.Deep.RegionHeld3
section
/-
  slices.Concat of two rows of entries, and segment.Join.
-/
namespace Go.Proofs.YtampnikdmgojjaaGreat.Sg
open Go.RowKit
open Stb (Stab Srt Mrg)
open Sim (hid Kp No)

theorem ev_of_row {w : World} {v : Value} {d : List Ent} {P : Nat → Prop} (h : Sim.Row w 64 35 v d.length (ents d)) (hd : ∀ e ∈ d, EOk e) (hP : ∀ x, v.ownBlock = some x → P x) : EV P w v d := by
  obtain ⟨a, cap, rfl, h2, h3, h4, h5⟩ := h.shape
  refine ⟨a, cap, rfl, h2, h3, fun e => ⟨List.length_eq_zero_iff.1 (h4 e).1, (h4 e).2⟩, hd, fun hne => ?_⟩
  cases a with
  | none => exact absurd (List.length_eq_zero_iff.1 (h4 rfl).1) hne
  | some x =>
    obtain ⟨g, o, sp⟩ := x
    obtain ⟨e1, e2⟩ := h5 _ rfl
    cases e1
    cases e2
    exact ⟨g, 0, rfl, hP g rfl, (own_row h rfl hd).1⟩

/-- A row of the call's own that began at u. -/
def Mine (u w : World) (v : Value) (d : List Ent) : Prop := Sim.Row w 64 35 v d.length (ents d) ∧ (∀ x, v.ownBlock = some x → u.heap.size ≤ x) ∧ Kp No u w
theorem Mine.more {u w w' : World} {v v' : Value} {d d' : List Ent} (h : Mine u w v d) (hr : Sim.Row w' 64 35 v' (d.length + d'.length) (ents d ++ ents d')) (hg : w.grownBy w' v.ownBlock) (ho : v'.ownBlock = v.ownBlock ∨ v'.ownBlock = some w.heap.size) : Mine u w' v' (d ++ d') := by
  refine ⟨by rw [List.length_append, ents_append]; exact hr, fun x hx => ?_, h.2.2.grown hg (fun x hx => .inr (h.2.1 x hx))⟩
  rcases ho with e | e
  · exact h.2.1 x (by rw [← e]; exact hx)
  · rw [e] at hx
    cases hx
    exact h.2.2.size

theorem grown35 (w : World) (n G : Nat) (hG : n ≤ G) (hm : G ≤ maxLen) : Sim.Row (w.drew.alloc (.cells (Builtin.zeroCells (Value.agg zE.toArray).cells n ++ Builtin.zeroCells (Value.agg zE.toArray).cells (G - n)) 64)) 64 35 (.slice (some ⟨w.heap.size, 0, none⟩) 0 G) 0 [] := by
  exact World.ownsRow_made w.drew _ G (Nat.zero_le _) hm (by rw [Array.size_append, size_zeroCells, size_zeroCells]; simp [Value.cells, zE, entC, b8]; omega)

set_option maxHeartbeats 1000000 in
theorem growE_any (n : Nat) (w : World) (h0 : 0 < n) (hn : n ≤ 2000000) :
    Calls Tryz.prog 66 #[.slice none 0 0, .int .i64 n] w fun e w' => ∃ v, e = .returned v ∧ Mine w w' v [] := by
  obtain ⟨i0, hi, hz0, hz1, hz2⟩ := info_parts infoE
  have hrz : ∀ ty, (Builtin.append_ #[30, 3] ty #[.slice none 0 0, .int .i64 n]).run Tryz.prog w = _ := fun ty => Lib.run_append_nil_zeros w 30 3 ty 64 i0 (.agg zE.toArray) .i64 .i64 Tryz.underlying30 Tryz.underlying3 hi hz0 n h0 (by omega) (by omega) (by rw [hz2]; omega)
  have hGn : n ≤ grownCap w n 0 64 := grownCap_ge w _ _ _
  have hGm := grownCap_le_maxLen w n 0 64 (by unfold maxLen; omega)
  generalize grownCap w n 0 64 = G at *
  have hG63 : G ≤ 9223372036854775807 := by unfold maxLen at hGm; omega
  have HF : Hid (Mine w (w.drew.alloc (.cells (Builtin.zeroCells (Value.agg zE.toArray).cells n ++ Builtin.zeroCells (Value.agg zE.toArray).cells (G - n)) 64)) (.slice (some ⟨w.heap.size, 0, none⟩) 0 G) []) := ⟨grown35 w n G hGn hGm, fun x hx => by simp [Value.ownBlock] at hx; omega, (Kp.refl No w).drew.alloc _⟩
  clear hGm hz0 hz1 hz2 hi
  have hnn : ¬ ((n : Int) < 0) := by omega
  have hn2 : (n : Int) > 0 := by omega
  go_enter Tryz.func66, Tryz.ntmps66
  go_wp2_with (at_builtin; refine Lib.wpList_append_run _ rfl _ _ _ _ rfl _ _ rfl rfl _ _ (hrz _) ?_)
  all_goals (go_ret; exact ⟨_, rfl, HF.out⟩)
theorem growE_zero (w : World) :
    Calls Tryz.prog 66 #[.slice none 0 0, .int .i64 0] w fun e w' => ∃ v, e = .returned v ∧ Mine w w' v [] := by
  have HF : Hid (Mine w w (.slice none 0 0) []) := ⟨Sim.Row.nil _ _ _, by intro x hx; simp [Value.ownBlock] at hx, Kp.refl _ _⟩
  go_enter Tryz.func66, Tryz.ntmps66
  go_wp2_with fail
  go_ret
  exact ⟨_, rfl, HF.out⟩
theorem growE (z : Int) (n : Nat) (w : World) (hz : z = n) (hn : n ≤ 2000000) :
    Calls Tryz.prog 66 #[.slice none 0 0, .int .i64 z] w fun e w' => ∃ v, e = .returned v ∧ Mine w w' v [] := by
  subst hz
  by_cases h : n = 0
  · subst h
    exact growE_zero w
  · exact growE_any n w (by omega) hn

set_option maxHeartbeats 4000000 in
set_option maxRecDepth 100000 in
/-- slices.Concat of two. -/
theorem concatE (w : World) (g : Nat) (v1 v2 : Value) (xs ys : List Ent) (P1 P2 : Nat → Prop) (c0 : w.cell? ⟨g, 0, none⟩ = some v1) (c1 : w.cell? ⟨g, 1, none⟩ = some v2) (hg : g < w.heap.size) (h1 : EV P1 w v1 xs) (h2 : EV P2 w v2 ys) (hl : xs.length + ys.length ≤ 1000000) :
    Calls Tryz.prog 47 #[.slice (some ⟨g, 0, none⟩) 2 2] w fun e w' => ∃ v, e = .returned v ∧ Mine w w' v (xs ++ ys) := by
  have H1 := hid h1
  have H2 := hid h2
  obtain ⟨a1, k1, rfl, r1⟩ := h1
  obtain ⟨a2, k2, rfl, r2⟩ := h2
  clear r1 r2
  obtain ⟨L1, hL1⟩ : ∃ L, xs.length = L := ⟨_, rfl⟩
  obtain ⟨L2, hL2⟩ : ∃ L, ys.length = L := ⟨_, rfl⟩
  rw [hL1] at H1 c0 hl
  rw [hL2] at H2 c1 hl
  have HL1 := hid hL1
  have HL2 := hid hL2
  clear hL1 hL2
  go_enter Tryz.func47, Tryz.ntmps47
  go_wp2
  refine wp_loop_rounds 3 ?_
  rw [rounds_succ]
  go_wp2
  rw [rounds_succ]
  go_wp2
  rw [rounds_succ]
  go_wp2_with fail
  refine (growE _ (L1 + L2) w (by omega) (by omega)).mono ?_
  rintro e w1 ⟨v, rfl, hM⟩
  obtain ⟨aN, cN, rfl, _⟩ := hM.1.shape
  have HM := hid hM
  have HR1 := hid hM.1
  have HS1 := hid (H1.out.kept hM.2.2).src
  have hk1 := hM.2.2
  have d0 : w1.cell? ⟨g, 0, none⟩ = some (.slice a1 L1 k1) := (hk1.cell (p := ⟨g, 0, none⟩) hg (fun x => x)).trans c0
  have d1 : w1.cell? ⟨g, 1, none⟩ = some (.slice a2 L2 k2) := (hk1.cell (p := ⟨g, 1, none⟩) hg (fun x => x)).trans c1
  rw [HL1.out] at HS1
  clear hM hk1 c0 c1
  go_wp2
  refine wp_loop_rounds 3 ?_
  rw [rounds_succ]
  go_wp2_with (refine Sim.app_row _ (by rfl) _ _ 30 64 (.agg zE.toArray) 35 56 (by rfl) Tryz.underlying30 infoE rfl (by omega) (.slice aN 0 cN) (.slice a1 L1 k1) 0 L1 [] (ents xs) (by rfl) (by rfl) HR1.out HS1.out (by omega) (by omega) ?_; intro ad2 cap2 w2 hrow2 hgr2 hown2)
  have hM2 : Mine w w2 (.slice ad2 L1 cap2) ([] ++ xs) := by
    rw [Nat.zero_add] at hrow2 hown2
    exact HM.out.more (by rw [HL1.out]; simpa [ents] using hrow2) hgr2 hown2
  rw [List.nil_append] at hM2
  have HM2 := hid hM2
  have HR2 := hid hM2.1
  rw [HL1.out] at HR2
  have HS2 := hid (H2.out.kept hM2.2.2).src
  rw [HL2.out] at HS2
  have e0 : w2.cell? ⟨g, 0, none⟩ = some (.slice a1 L1 k1) := by
    refine ((Kp.refl (fun x => (Value.slice aN 0 cN).ownBlock = some x) w1).grown hgr2 (fun _ h => .inl h)).cell (p := ⟨g, 0, none⟩) (Nat.lt_of_lt_of_le hg HM.out.2.2.size) (fun hx => ?_) |>.trans d0
    have := HM.out.2.1 g hx
    omega
  have e1 : w2.cell? ⟨g, 1, none⟩ = some (.slice a2 L2 k2) := by
    refine ((Kp.refl (fun x => (Value.slice aN 0 cN).ownBlock = some x) w1).grown hgr2 (fun _ h => .inl h)).cell (p := ⟨g, 1, none⟩) (Nat.lt_of_lt_of_le hg HM.out.2.2.size) (fun hx => ?_) |>.trans d1
    have := HM.out.2.1 g hx
    omega
  clear hM2 hrow2 hgr2 hown2 d0 d1 HM HR1 HS1
  go_wp2
  rw [rounds_succ]
  go_wp2_with (refine Sim.app_row _ (by rfl) _ _ 30 64 (.agg zE.toArray) 35 56 (by rfl) Tryz.underlying30 infoE rfl (by omega) (.slice ad2 L1 cap2) (.slice a2 L2 k2) L1 L2 (ents xs) (ents ys) (by rfl) (by rfl) HR2.out HS2.out (by omega) (by omega) ?_; intro ad3 cap3 w3 hrow3 hgr3 hown3)
  have HF : Hid (Mine w w3 (.slice ad3 (L1 + L2) cap3) (xs ++ ys)) := HM2.out.more (by rw [HL1.out, HL2.out]; exact hrow3) hgr3 hown3
  clear hrow3 hgr3 hown3 HM2 HR2 HS2 e0 e1
  go_wp2
  rw [rounds_succ]
  go_wp2
  go_ret
  exact ⟨_, rfl, HF.out⟩

set_option maxHeartbeats 4000000 in
set_option maxRecDepth 100000 in
theorem join_any (w : World) (v1 v2 : Value) (xs ys : List Ent) (P1 P2 : Nat → Prop) (h1 : EV P1 w v1 xs) (h2 : EV P2 w v2 ys) (hl : xs.length + ys.length ≤ 1000000) :
    Calls Tryz.prog 22 #[v1, v2] w fun e w' => ∃ r X, e = .returned r ∧ Stab ky (xs ++ ys) X ∧ Srt ky lexB X ∧ Kp No w w' ∧ EV (fun g => w.heap.size ≤ g) w' r (cmpct X) := by
  have HC : Hid (∀ t, Calls Tryz.prog 47 #[.slice (some ⟨w.heap.size, 0, none⟩) 2 2] (w.alloc (.cells #[v1, v2] t)) fun e w' => ∃ v, e = .returned v ∧ Mine (w.alloc (.cells #[v1, v2] t)) w' v (xs ++ ys)) := fun t => by
    have hk : Kp No w (w.alloc (.cells #[v1, v2] t)) := (Kp.refl No w).alloc _
    exact concatE _ w.heap.size v1 v2 xs ys P1 P2 (by rw [World.cell?_alloc_at _ _ _ _ rfl]; rfl) (by rw [World.cell?_alloc_at _ _ _ _ rfl]; rfl) (by simp) (h1.kept hk) (h2.kept hk) hl
  have HOK : Hid (∀ e ∈ xs ++ ys, EOk e) := fun e he => by
    rcases List.mem_append.1 he with he | he
    · exact h1.ok e he
    · exact h2.ok e he
  have HL : Hid ((xs ++ ys).length ≤ 1000000) := by rw [Hid, List.length_append]; exact hl
  obtain ⟨a1, k1, rfl, r1⟩ := h1
  obtain ⟨a2, k2, rfl, r2⟩ := h2
  clear r1 r2
  go_enter Tryz.func22, Tryz.ntmps22
  go_wp2_with fail
  refine (HC.out _).mono ?_
  rintro e w2 ⟨v, rfl, hM⟩
  have HSO := hid (sort_any w2 v (xs ++ ys) _ (ev_of_row hM.1 HOK.out hM.2.1) HL.out)
  have HK2 : Hid (Kp No w w2) := ((Kp.refl No w).alloc _).andNone hM.2.2
  obtain ⟨a3, k3, rfl, _⟩ := hM.1.shape
  rw [List.length_append] at HSO
  clear hM
  go_wp2_with fail
  refine HSO.out.mono ?_
  rintro e w3 ⟨r, X, rfl, h1, h2, h3, h4⟩
  have HF : Hid (Stab ky (xs ++ ys) X ∧ Srt ky lexB X ∧ Kp No w w3 ∧ EV (fun g => w.heap.size ≤ g) w3 r (cmpct X)) := ⟨h1, h2, HK2.out.andNone h3, h4.mono (fun g hg => Nat.le_trans HK2.out.size hg)⟩
  clear h1 h2 h3 h4
  go_wp2_with fail
  go_ret
  exact ⟨_, X, rfl, HF.out⟩
end Go.Proofs.YtampnikdmgojjaaGreat.Sg
end

section
/-
  Of a stable sort the first of each name: strictly rising names, and of each name the first of what was sorted.
-/
namespace Go.Proofs.YtampnikdmgojjaaGreat.Sg
open Go.RowKit
open Stb (Stab Srt Mrg)
open Sim (hid Kp No)

/-- Names that rise strictly. -/
def Rise (d : List Ent) : Prop := d.Pairwise (fun a b => lexB a.1 b.1 = true)

theorem kept_rise : ∀ (r : List Ent) (p : Ent), Srt ky lexB (p :: r) → Rise (p :: kept p r)
  | [], p, _ => by simp [kept, Rise]
  | y :: r, p, h => by
    have hyr : Srt ky lexB (y :: r) := (List.pairwise_cons.1 h).2
    have ih := kept_rise r y hyr
    have hpy : lexB y.1 p.1 = false := (List.pairwise_cons.1 h).1 y (by simp)
    rw [kept]
    by_cases e : y.1 = p.1
    · rw [if_pos e]
      refine List.pairwise_cons.2 ⟨fun z hz => ?_, (List.pairwise_cons.1 ih).2⟩
      rw [← e]
      exact (List.pairwise_cons.1 ih).1 z hz
    · rw [if_neg e]
      have hlt : lexB p.1 y.1 = true := by
        rcases lexB_tot y.1 p.1 e with h | h
        · rw [h] at hpy
          cases hpy
        · exact h
      refine List.pairwise_cons.2 ⟨fun z hz => ?_, ih⟩
      rcases List.mem_cons.1 hz with rfl | hz
      · exact hlt
      · exact lexB_trans _ _ _ hlt ((List.pairwise_cons.1 ih).1 z hz)
theorem cmpct_rise {X : List Ent} (h : Srt ky lexB X) : Rise (cmpct X) := by
  cases X with
  | nil => exact List.Pairwise.nil
  | cons x r => exact kept_rise r x h

theorem kept_find (k : List Int) : ∀ (r : List Ent) (p : Ent), p.1 ≠ k → (kept p r).find? (fun x => decide (x.1 = k)) = r.find? (fun x => decide (x.1 = k))
  | [], p, _ => rfl
  | y :: r, p, h => by
    rw [kept]
    by_cases e : y.1 = p.1
    · have hy : y.1 ≠ k := by rw [e]; exact h
      rw [if_pos e, kept_find k r y hy, List.find?_cons_of_neg (by simpa using hy)]
    · rw [if_neg e]
      by_cases hy : y.1 = k
      · rw [List.find?_cons_of_pos (by simpa using hy), List.find?_cons_of_pos (by simpa using hy)]
      · rw [List.find?_cons_of_neg (by simpa using hy), List.find?_cons_of_neg (by simpa using hy), kept_find k r y hy]
theorem cmpct_find (k : List Int) (X : List Ent) : (cmpct X).find? (fun x => decide (x.1 = k)) = X.find? (fun x => decide (x.1 = k)) := by
  cases X with
  | nil => rfl
  | cons x r =>
    rw [cmpct]
    by_cases hx : x.1 = k
    · rw [List.find?_cons_of_pos (by simpa using hx), List.find?_cons_of_pos (by simpa using hx)]
    · rw [List.find?_cons_of_neg (by simpa using hx), List.find?_cons_of_neg (by simpa using hx), kept_find k r x hx]
/-- Of each name the first of what was sorted. -/
theorem sort_find {l X : List Ent} (h : Stab ky l X) (k : List Int) : (cmpct X).find? (fun x => decide (x.1 = k)) = l.find? (fun x => decide (x.1 = k)) := by
  rw [cmpct_find, ← List.head?_filter, ← List.head?_filter]
  exact congrArg List.head? (h k)

theorem Rise.get {d : List Ent} (h : Rise d) {y : Ent} (hy : y ∈ d) : d.find? (fun x => decide (x.1 = y.1)) = some y := by
  induction d with
  | nil => cases hy
  | cons x r ih =>
    obtain ⟨h1, h2⟩ := List.pairwise_cons.1 h
    rcases List.mem_cons.1 hy with rfl | hy
    · rw [List.find?_cons_of_pos (by simp)]
    · have hx : x.1 ≠ y.1 := fun e => by
        have := h1 y hy
        rw [e, lexB_irr] at this
        cases this
      rw [List.find?_cons_of_neg (by simpa using hx)]
      exact ih h2 hy
theorem Rise.mem {d : List Ent} (h : Rise d) {y : Ent} {k : List Int} : d.find? (fun x => decide (x.1 = k)) = some y ↔ y ∈ d ∧ y.1 = k := by
  refine ⟨fun e => ⟨List.mem_of_find?_eq_some e, by simpa using List.find?_some e⟩, fun ⟨hy, e⟩ => ?_⟩
  rw [← e]
  exact h.get hy
theorem Rise.upTo {d : List Ent} (h : Rise d) (hp : ∀ e ∈ d, plB e = true) : UpTo d d.length := fun i e hi he => by
  refine ⟨hp e (List.mem_of_getElem? he), fun j x hj hx => ?_⟩
  obtain ⟨h1, h2⟩ := List.getElem?_eq_some_iff.1 he
  obtain ⟨h3, h4⟩ := List.getElem?_eq_some_iff.1 hx
  have := List.pairwise_iff_getElem.1 h j i h3 h1 (by omega)
  rw [h2, h4] at this
  exact this
theorem UpTo.rise {d : List Ent} (h : UpTo d d.length) : Rise d := List.pairwise_iff_getElem.2 fun i j hi hj hij => h.lt (j - i - 1) i j _ _ (by omega) (List.getElem?_eq_getElem hi) (List.getElem?_eq_getElem hj)
/-- Right lists are joined to a right list, if there are not too many. -/
theorem join_right {a b X : List Ent} (ha : RightP a) (hb : RightP b) (hs : Stab ky (a ++ b) X) (hr : Srt ky lexB X) (hl : a.length + b.length ≤ 900) : RightP (cmpct X) := by
  have hsub : ∀ e ∈ cmpct X, e ∈ a ∨ e ∈ b := fun e he => by
    have h1 := (cmpct_rise hr).get he
    rw [sort_find hs] at h1
    exact List.mem_append.1 (List.mem_of_find?_eq_some h1)
  refine ⟨?_, (cmpct_rise hr).upTo (fun e he => ?_)⟩
  · have h1 := cmpct_length X
    have h2 := hs.length
    rw [List.length_append] at h2
    omega
  · rcases hsub e he with he | he
    · obtain ⟨i, hi⟩ := List.mem_iff_getElem?.1 he
      exact (ha.2 i e (List.getElem?_eq_some_iff.1 hi).1 hi).1
    · obtain ⟨i, hi⟩ := List.mem_iff_getElem?.1 he
      exact (hb.2 i e (List.getElem?_eq_some_iff.1 hi).1 hi).1
end Go.Proofs.YtampnikdmgojjaaGreat.Sg
end

section
/-
  Own of the tenth law: entries of the document's type as the program's.
-/
namespace Go.Proofs.YtampnikdmgojjaaGreat.Sg
open Go.RowKit
open Stb (Stab Srt Mrg)
open Sim (hid Kp No)

theorem x32 {nm : List Int} (h : nm.length = 32) : ∃ x0 x1 x2 x3 x4 x5 x6 x7 x8 x9 x10 x11 x12 x13 x14 x15 x16 x17 x18 x19 x20 x21 x22 x23 x24 x25 x26 x27 x28 x29 x30 x31,
    nm = [x0, x1, x2, x3, x4, x5, x6, x7, x8, x9, x10, x11, x12, x13, x14, x15, x16, x17, x18, x19, x20, x21, x22, x23, x24, x25, x26, x27, x28, x29, x30, x31] := by
  match nm, h with
  | [x0, x1, x2, x3, x4, x5, x6, x7, x8, x9, x10, x11, x12, x13, x14, x15, x16, x17, x18, x19, x20, x21, x22, x23, x24, x25, x26, x27, x28, x29, x30, x31], _ => exact ⟨_, _, _, _, _, _, _, _, _, _, _, _, _, _, _, _, _, _, _, _, _, _, _, _, _, _, _, _, _, _, _, _, rfl⟩
theorem built48b (nm : List Int) (p q r : Int) (h : nm.length = 32) : Tryz.prog.built 64 [(0, .agg (b8 nm).toArray), (1, .agg #[.int .i64 p, .int .i64 q, .int .i64 r])] = some (entC (nm, p, q, r)).toArray := by
  obtain ⟨x0, x1, x2, x3, x4, x5, x6, x7, x8, x9, x10, x11, x12, x13, x14, x15, x16, x17, x18, x19, x20, x21, x22, x23, x24, x25, x26, x27, x28, x29, x30, x31, rfl⟩ := x32 h
  kernel_rfl
theorem run_oneE (nm : List Int) (p q r : Int) (h : nm.length = 32) (w : World) : (Instr.buildSlice 30 1 #[(0, .agg (entC (nm, p, q, r)).toArray)]).run Tryz.prog w = .ok (.slice (some ⟨w.heap.size, 0, none⟩) 1 1) (w.alloc (.cells (entC (nm, p, q, r)).toArray 64)) := by
  obtain ⟨x0, x1, x2, x3, x4, x5, x6, x7, x8, x9, x10, x11, x12, x13, x14, x15, x16, x17, x18, x19, x20, x21, x22, x23, x24, x25, x26, x27, x28, x29, x30, x31, rfl⟩ := x32 h
  kernel_rfl
theorem yields_two {P : Program} {ops : Array Oper} {S : World → Prop} {o : Oper} {a : Act} (hw : Region.wanted o (yielded ops a.tmps) = true) (t : TypeId) (i j : Nat) (x y : Operand) (ho : o.op = .build t #[(i, x), (j, y)])
    (vx vy : Value) (hx : a.eval x = vx) (hy : a.eval y = vy) (C : Array Value) (hb : P.built t [(i, vx), (j, vy)] = some C) : YieldsIf P ops S o (.agg C) a :=
  .inl ⟨hw, fun w _ => by
    have e : P.built t ((#[(i, x), (j, y)] : Array (Nat × Operand)).map fun (i, x) => (i, a.eval x)).toList = some C := by
      rw [← hb]
      simp only [List.map_toArray, List.map_cons, List.map_nil, hx, hy]
    unfold execOp
    simp only [ho, Sem.run_bind, run_build w t _ C e, Result.andThen_ok]
    rfl⟩
theorem exec_sliceE {P : Program} {o : Oper} {a : Act} {w w' : World} (t : TypeId) (x : Operand) (ho : o.op = .buildSlice t 1 #[(0, x)]) (v u : Value) (hx : a.eval x = v) (hr : (Instr.buildSlice t 1 #[(0, v)]).run P w = .ok u w') : (execOp a.eval o).run P w = .ok (.value u) w' := by
  unfold execOp
  simp [ho, hx, hr, Result.andThen]
theorem exec_appE {P : Program} {o : Oper} {a : Act} {w w' : World} (s x : Operand) (t : TypeId) (ho : o.op = .call { callee := .builtin .append, args := #[s, x], argTypes := #[t, t] }) (vs vx v : Value) (hs : a.eval s = vs) (hx : a.eval x = vx)
    (hr : (Builtin.append_ #[t, t] o.type #[vs, vx]).run P w = .ok v w') : (execOp a.eval o).run P w = .ok (.value v) w' := by
  unfold execOp
  simp [ho, resolve, invoke, builtin, hs, hx, hr, Result.andThen]
theorem wp_valE {P : Program} {o : Oper} {a : Act} {K : Act → World → Prop} {Q : Exit → Act → World → Prop} {w w' : World} {v : Value} (hr : (execOp a.eval o).run P w = .ok (.value v) w') (h : K (a.put o.dst v) w') : Oper.wp P o a w K Q := by
  unfold Oper.wp
  rw [hr]
  exact h
/-- append of a row of the call's own, with its world. -/
theorem app_run (w : World) (ty : TypeId) (v vx : Value) (n m : Nat) (xs ys : List Value) (hown : Sim.Row w 64 35 v n xs) (hy : Sim.Src w vx m 35 ys) (hm : 0 < m) (hlen : n + m ≤ 2000000) :
    ∃ ad cap w', (Builtin.append_ #[30, 30] ty #[v, vx]).run Tryz.prog w = .ok (.slice ad (n + m) cap) w' ∧ Sim.Row w' 64 35 (.slice ad (n + m) cap) (n + m) (xs ++ ys) ∧ w.grownBy w' v.ownBlock ∧ ((Value.slice ad (n + m) cap).ownBlock = v.ownBlock ∨ (Value.slice ad (n + m) cap).ownBlock = some w.heap.size) := by
  obtain ⟨i0, hi, hz0, hz1', hz2⟩ := info_parts infoE
  rcases hy with ⟨rfl, rfl, rfl⟩ | ⟨ad, c, rfl, hl, hc, h1⟩
  · omega
  · obtain ⟨v', w', hr, h8, h9, _, h10⟩ := run_append_own_at (P := Tryz.prog) w 0 30 ty 64 i0 (.agg zE.toArray) 35 56 Tryz.underlying30 hi hz0 hz1' hz2 rfl (by omega) v n xs hown ad m c ys hl hc h1 (by unfold maxLen; omega) (by omega) (Nat.zero_le _)
    have h8' : Sim.Row w' 64 35 v' (n + m) (xs ++ ys) := h8
    obtain ⟨ad', cap', rfl, _⟩ := h8'.shape
    exact ⟨ad', cap', w', hr, h8, h9, h10⟩

set_option maxHeartbeats 4000000 in
set_option maxRecDepth 100000 in
theorem own_any (w : World) (v : Value) (d : List Ent) (P : Nat → Prop) (hv : EV P w v d) (hl : d.length ≤ 1000000) :
    Calls Tryz.prog 8 #[v] w fun e w' => ∃ r, e = .returned r ∧ Mine w w' r d := by
  obtain ⟨a, c, rfl, h2, h3, h4, h5, h6⟩ := hv
  obtain ⟨n, hn⟩ : ∃ n, d.length = n := ⟨_, rfl⟩
  have HN := hid hn
  rw [hn] at hl ⊢
  have H6 := hid h6
  have HM0 : Hid (Mine w w (.slice none 0 0) (d.take 0)) := ⟨Sim.Row.nil _ _ _, by intro x hx; simp [Value.ownBlock] at hx, Kp.refl _ _⟩
  clear hn h2 h3 h4 h5 h6
  go_enter Tryz.func8, Tryz.ntmps8
  go_wp2_with fail
  go_loopw [3, 4] (fun v3 v4 wr => ∃ (k : Nat) (ad : Option Addr) (cap : Nat), v3 = .slice ad k cap ∧ v4 = .int .i64 (k : Int) ∧ k ≤ n ∧ Hid (Mine w wr (.slice ad k cap) (d.take k))) (fun _ v4 _ => n - (intOf v4).toNat)
  case atStart => exact ⟨0, none, 0, rfl, rfl, Nat.zero_le _, HM0.out⟩
  case round =>
    obtain ⟨k, ad, cap, rfl, rfl, hkn, HS⟩ := hrel
    by_cases hlt : k < n
    · have hltI : (k : Int) < (n : Int) := by omega
      have hwk : IntKind.i64.wrap ((k : Int) + 1) = ((k + 1 : Nat) : Int) := by rw [IntKind.wrap_i64]; omega
      obtain ⟨g, o, rfl, _, hr⟩ := H6.out (by intro e; have := HN.out; rw [e] at this; simp at this; omega)
      obtain ⟨e, he⟩ : ∃ e, d[k]? = some e := ⟨_, List.getElem?_eq_getElem (by rw [HN.out]; exact hlt)⟩
      obtain ⟨heo, _⟩ := hr.2 k e he
      obtain ⟨nm, p, q, r⟩ := e
      have hnm : nm.length = 32 := heo.1
      have hgO : (Value.slice ad k cap).ownBlock ≠ some g := fun e => by have := HS.out.2.1 g e; have := hr.1; omega
      have hgw : g < wr.heap.size := Nat.lt_of_lt_of_le hr.1 HS.out.2.2.size
      have hrow : ∀ V, Kp (fun x => (Value.slice ad k cap).ownBlock = some x) wr V → V.rangeAt g (o + k * 35) (entC (nm, p, q, r)) := fun V hV j u hu => (hV.cell (p := ⟨g, _, none⟩) hgw hgO).trans (((hr.kp HS.out.2.2 (fun x => x)).2 k _ he).2 j u hu)
      have HLX : Hid (∀ V, Kp (fun x => (Value.slice ad k cap).ownBlock = some x) wr V → V.rangeAt g (o + k * 35) (b8 nm)) := fun V hV => rng_name (hrow V hV)
      have HLP : Hid (∀ V, Kp (fun x => (Value.slice ad k cap).ownBlock = some x) wr V → V.cell? ⟨g, o + k * 35 + 32, none⟩ = some (.int .i64 p) ∧ V.cell? ⟨g, o + k * 35 + 32 + 1, none⟩ = some (.int .i64 q) ∧ V.cell? ⟨g, o + k * 35 + 32 + 2, none⟩ = some (.int .i64 r)) := fun V hV => by
        have h := rng_place heo (hrow V hV)
        exact ⟨h 0 _ rfl, h 1 _ rfl, h 2 _ rfl⟩
      have HI1 : Hid ((Tryz.prog.info? 46).map (·.size) = some (b8 nm).length) := by rw [Hid, b8_length, hnm]; exact infH
      have HB1 := hid (built48b nm p q r hnm)
      have HB2 := hid (fun W => run_oneE nm p q r hnm W)
      have hkl : (d.take k).length = k := by rw [List.length_take, HN.out]; omega
      have HNX : Hid (d.take (k + 1) = d.take k ++ [(nm, p, q, r)]) := by rw [Hid, List.take_add_one, he]; rfl
      obtain ⟨C, hC⟩ : ∃ C, entC (nm, p, q, r) = C := ⟨_, rfl⟩
      have hRA : Sim.Row (wr.drew.alloc (.cells C.toArray 64)) 64 35 (.slice ad k cap) k (ents (d.take k)) := by
        have := HS.out.1
        rw [hkl] at this
        exact this.kept (((Kp.refl No wr).drew).alloc _)
      have hSC : Sim.Src (wr.drew.alloc (.cells C.toArray 64)) (.slice (some ⟨wr.heap.size, 0, none⟩) 1 1) 1 35 C := Sim.Src.one wr.drew C 35 64 (by rw [← hC]; exact entC_length heo) (by rw [← hC]; exact entC_one _)
      obtain ⟨ad2, cap2, w2, hap, hrow2, hgr2, hown2⟩ := app_run _ 30 (.slice ad k cap) (.slice (some ⟨wr.heap.size, 0, none⟩) 1 1) k 1 _ _ hRA hSC (by omega) (by omega)
      have hgr : wr.grownBy w2 (Value.slice ad k cap).ownBlock → True := fun _ => trivial
      have HKA : Hid (Kp (fun x => (Value.slice ad k cap).ownBlock = some x) wr (wr.drew.alloc (.cells C.toArray 64))) := ((Kp.refl _ wr).drew).alloc _
      have HK2 : Hid (Kp (fun x => (Value.slice ad k cap).ownBlock = some x) wr w2) := HKA.out.grown hgr2 (fun x hx => .inl hx)
      have HF : Hid (Mine w w2 (.slice ad2 (k + 1) cap2) (d.take (k + 1))) := by
        rw [HNX.out]
        refine ⟨?_, fun x hx => ?_, HS.out.2.2.trans HK2.out (fun x hx => .inr (HS.out.2.1 x hx))⟩
        · rw [List.length_append, hkl, ents_append]
          have : ents [(nm, p, q, r)] = C := by simp [ents, hC]
          rw [this]
          exact hrow2
        · rcases hown2 with e | e
          · exact HS.out.2.1 x (by rw [← e]; exact hx)
          · rw [e] at hx
            cases hx
            exact Nat.le_trans HS.out.2.2.size HKA.out.size
      have HAP := hid hap
      rw [hC] at HB1 HB2
      clear hC hRA hSC hap hrow2 hgr2 hown2 hkl hrow hr he heo hgO hgw hgr HNX HS
      generalize b8 nm = bx at *
      go_wp2_with fail
      refine wp_region_held_drew (S := fun V => Kp (fun x => (Value.slice ad k cap).ownBlock = some x) wr V) (by kernel_rfl) ((Kp.refl _ _).drew) (fun hHeld => ?_)
      refine wpAnyH_take (i := 0) (oi := { dst := some 11, op := Op.move (Operand.tmp 3), type := 30, pos := "law.go:19", after := #[], guard := none }) (v := .slice ad k cap) rfl (by kernel_rfl) (by kernel_rfl) (by kernel_rfl) (fun _ _ _ h => h) (Or.inl ⟨by rfl, fun w' hw' => by (clear hw'; go_simp)⟩) hHeld ?_
      simp only [Act.put, List.setIfInBounds_toArray, List.set_cons_zero, List.set_cons_succ]
      refine wpAnyH_take (i := 1) (oi := { dst := some 12, op := Op.move (Operand.tmp 0), type := 22, pos := "law.go:19", after := #[], guard := none }) (v := .slice (some ⟨g, o, none⟩) n c) rfl (by kernel_rfl) (by kernel_rfl) (by kernel_rfl) (fun _ _ _ h => h) (Or.inl ⟨by rfl, fun w' hw' => by (clear hw'; go_simp)⟩) hHeld ?_
      simp only [Act.put, List.setIfInBounds_toArray, List.set_cons_zero, List.set_cons_succ]
      refine wpAnyH_take (i := 2) (oi := { dst := some 13, op := Op.move (Operand.tmp 4), type := 3, pos := "law.go:19", after := #[], guard := none }) (v := .int .i64 (k : Int)) rfl (by kernel_rfl) (by kernel_rfl) (by kernel_rfl) (fun _ _ _ h => h) (Or.inl ⟨by rfl, fun w' hw' => by (clear hw'; go_simp)⟩) hHeld ?_
      simp only [Act.put, List.setIfInBounds_toArray, List.set_cons_zero, List.set_cons_succ]
      refine wpAnyH_take (i := 3) (oi := { dst := some 14, op := Op.indexAddr 22 (Operand.tmp 12) (Operand.tmp 13), type := 0, pos := "law.go:19", after := #[{ on := 1, ground := Ground.data }, { on := 2, ground := Ground.data }], guard := none }) (v := .pointer (some ⟨g, o + k * 35, none⟩)) rfl (by kernel_rfl) (by kernel_rfl) (by kernel_rfl) (fun _ _ _ h => h) (Or.inl ⟨by rfl, fun w' hw' => by (clear hw'; go_simp)⟩) hHeld ?_
      simp only [Act.put, List.setIfInBounds_toArray, List.set_cons_zero, List.set_cons_succ]
      refine wpAnyH_take (i := 4) (oi := { dst := some 15, op := Op.fieldAddr 91 (Operand.tmp 14) 0, type := 0, pos := "law.go:19", after := #[{ on := 3, ground := Ground.data }], guard := none }) (v := .pointer (some ⟨g, o + k * 35, none⟩)) rfl (by kernel_rfl) (by kernel_rfl) (by kernel_rfl) (fun _ _ _ h => h) (Or.inl ⟨by rfl, fun w' hw' => by (clear hw'; go_simp)⟩) hHeld ?_
      simp only [Act.put, List.setIfInBounds_toArray, List.set_cons_zero, List.set_cons_succ]
      refine wpAnyH_take (i := 5) (oi := { dst := some 16, op := Op.load 46 (Operand.tmp 15), type := 46, pos := "law.go:19", after := #[{ on := 4, ground := Ground.data }], guard := none }) (v := .agg bx.toArray) rfl (by kernel_rfl) (by kernel_rfl) (by kernel_rfl) (fun _ _ _ h => h) (yieldsIf_load_mid (by rfl) _ _ rfl g (o + k * 35) rfl bx _ (HLX.out) Tryz.underlying46 rfl HI1.out) hHeld ?_
      simp only [Act.put, List.setIfInBounds_toArray, List.set_cons_zero, List.set_cons_succ]
      refine wpAnyH_take (i := 6) (oi := { dst := some 17, op := Op.move (Operand.tmp 0), type := 22, pos := "law.go:19", after := #[], guard := none }) (v := .slice (some ⟨g, o, none⟩) n c) rfl (by kernel_rfl) (by kernel_rfl) (by kernel_rfl) (fun _ _ _ h => h) (Or.inl ⟨by rfl, fun w' hw' => by (clear hw'; go_simp)⟩) hHeld ?_
      simp only [Act.put, List.setIfInBounds_toArray, List.set_cons_zero, List.set_cons_succ]
      refine wpAnyH_take (i := 7) (oi := { dst := some 18, op := Op.move (Operand.tmp 4), type := 3, pos := "law.go:19", after := #[], guard := none }) (v := .int .i64 (k : Int)) rfl (by kernel_rfl) (by kernel_rfl) (by kernel_rfl) (fun _ _ _ h => h) (Or.inl ⟨by rfl, fun w' hw' => by (clear hw'; go_simp)⟩) hHeld ?_
      simp only [Act.put, List.setIfInBounds_toArray, List.set_cons_zero, List.set_cons_succ]
      refine wpAnyH_take (i := 8) (oi := { dst := some 19, op := Op.indexAddr 22 (Operand.tmp 17) (Operand.tmp 18), type := 0, pos := "law.go:19", after := #[{ on := 6, ground := Ground.data }, { on := 7, ground := Ground.data }], guard := none }) (v := .pointer (some ⟨g, o + k * 35, none⟩)) rfl (by kernel_rfl) (by kernel_rfl) (by kernel_rfl) (fun _ _ _ h => h) (Or.inl ⟨by rfl, fun w' hw' => by (clear hw'; go_simp)⟩) hHeld ?_
      simp only [Act.put, List.setIfInBounds_toArray, List.set_cons_zero, List.set_cons_succ]
      refine wpAnyH_take (i := 9) (oi := { dst := some 20, op := Op.fieldAddr 91 (Operand.tmp 19) 1, type := 0, pos := "law.go:19", after := #[{ on := 8, ground := Ground.data }], guard := none }) (v := .pointer (some ⟨g, o + k * 35 + 32, none⟩)) rfl (by kernel_rfl) (by kernel_rfl) (by kernel_rfl) (fun _ _ _ h => h) (Or.inl ⟨by rfl, fun w' hw' => by (clear hw'; go_simp)⟩) hHeld ?_
      simp only [Act.put, List.setIfInBounds_toArray, List.set_cons_zero, List.set_cons_succ]
      refine wpAnyH_take (i := 10) (oi := { dst := some 21, op := Op.fieldAddr 52 (Operand.tmp 20) 0, type := 0, pos := "law.go:19", after := #[{ on := 9, ground := Ground.data }], guard := none }) (v := .pointer (some ⟨g, o + k * 35 + 32, none⟩)) rfl (by kernel_rfl) (by kernel_rfl) (by kernel_rfl) (fun _ _ _ h => h) (Or.inl ⟨by rfl, fun w' hw' => by (clear hw'; go_simp)⟩) hHeld ?_
      simp only [Act.put, List.setIfInBounds_toArray, List.set_cons_zero, List.set_cons_succ]
      refine wpAnyH_take (i := 11) (oi := { dst := some 22, op := Op.load 3 (Operand.tmp 21), type := 3, pos := "law.go:19", after := #[{ on := 10, ground := Ground.data }], guard := none }) (v := .int .i64 p) rfl (by kernel_rfl) (by kernel_rfl) (by kernel_rfl) (fun _ _ _ h => h) (Or.inl ⟨by rfl, fun w' hw' => by (have q := (HLP.out _ hw').1; clear hw'; go_simp)⟩) hHeld ?_
      simp only [Act.put, List.setIfInBounds_toArray, List.set_cons_zero, List.set_cons_succ]
      refine wpAnyH_take (i := 12) (oi := { dst := some 23, op := Op.move (Operand.tmp 0), type := 22, pos := "law.go:19", after := #[], guard := none }) (v := .slice (some ⟨g, o, none⟩) n c) rfl (by kernel_rfl) (by kernel_rfl) (by kernel_rfl) (fun _ _ _ h => h) (Or.inl ⟨by rfl, fun w' hw' => by (clear hw'; go_simp)⟩) hHeld ?_
      simp only [Act.put, List.setIfInBounds_toArray, List.set_cons_zero, List.set_cons_succ]
      refine wpAnyH_take (i := 13) (oi := { dst := some 24, op := Op.move (Operand.tmp 4), type := 3, pos := "law.go:19", after := #[], guard := none }) (v := .int .i64 (k : Int)) rfl (by kernel_rfl) (by kernel_rfl) (by kernel_rfl) (fun _ _ _ h => h) (Or.inl ⟨by rfl, fun w' hw' => by (clear hw'; go_simp)⟩) hHeld ?_
      simp only [Act.put, List.setIfInBounds_toArray, List.set_cons_zero, List.set_cons_succ]
      refine wpAnyH_take (i := 14) (oi := { dst := some 25, op := Op.indexAddr 22 (Operand.tmp 23) (Operand.tmp 24), type := 0, pos := "law.go:19", after := #[{ on := 12, ground := Ground.data }, { on := 13, ground := Ground.data }], guard := none }) (v := .pointer (some ⟨g, o + k * 35, none⟩)) rfl (by kernel_rfl) (by kernel_rfl) (by kernel_rfl) (fun _ _ _ h => h) (Or.inl ⟨by rfl, fun w' hw' => by (clear hw'; go_simp)⟩) hHeld ?_
      simp only [Act.put, List.setIfInBounds_toArray, List.set_cons_zero, List.set_cons_succ]
      refine wpAnyH_take (i := 15) (oi := { dst := some 26, op := Op.fieldAddr 91 (Operand.tmp 25) 1, type := 0, pos := "law.go:19", after := #[{ on := 14, ground := Ground.data }], guard := none }) (v := .pointer (some ⟨g, o + k * 35 + 32, none⟩)) rfl (by kernel_rfl) (by kernel_rfl) (by kernel_rfl) (fun _ _ _ h => h) (Or.inl ⟨by rfl, fun w' hw' => by (clear hw'; go_simp)⟩) hHeld ?_
      simp only [Act.put, List.setIfInBounds_toArray, List.set_cons_zero, List.set_cons_succ]
      refine wpAnyH_take (i := 16) (oi := { dst := some 27, op := Op.fieldAddr 52 (Operand.tmp 26) 1, type := 0, pos := "law.go:19", after := #[{ on := 15, ground := Ground.data }], guard := none }) (v := .pointer (some ⟨g, o + k * 35 + 32 + 1, none⟩)) rfl (by kernel_rfl) (by kernel_rfl) (by kernel_rfl) (fun _ _ _ h => h) (Or.inl ⟨by rfl, fun w' hw' => by (clear hw'; go_simp)⟩) hHeld ?_
      simp only [Act.put, List.setIfInBounds_toArray, List.set_cons_zero, List.set_cons_succ]
      refine wpAnyH_take (i := 17) (oi := { dst := some 28, op := Op.load 3 (Operand.tmp 27), type := 3, pos := "law.go:19", after := #[{ on := 16, ground := Ground.data }], guard := none }) (v := .int .i64 q) rfl (by kernel_rfl) (by kernel_rfl) (by kernel_rfl) (fun _ _ _ h => h) (Or.inl ⟨by rfl, fun w' hw' => by (have q := (HLP.out _ hw').2.1; clear hw'; go_simp)⟩) hHeld ?_
      simp only [Act.put, List.setIfInBounds_toArray, List.set_cons_zero, List.set_cons_succ]
      refine wpAnyH_take (i := 18) (oi := { dst := some 29, op := Op.move (Operand.tmp 0), type := 22, pos := "law.go:19", after := #[], guard := none }) (v := .slice (some ⟨g, o, none⟩) n c) rfl (by kernel_rfl) (by kernel_rfl) (by kernel_rfl) (fun _ _ _ h => h) (Or.inl ⟨by rfl, fun w' hw' => by (clear hw'; go_simp)⟩) hHeld ?_
      simp only [Act.put, List.setIfInBounds_toArray, List.set_cons_zero, List.set_cons_succ]
      refine wpAnyH_take (i := 19) (oi := { dst := some 30, op := Op.move (Operand.tmp 4), type := 3, pos := "law.go:19", after := #[], guard := none }) (v := .int .i64 (k : Int)) rfl (by kernel_rfl) (by kernel_rfl) (by kernel_rfl) (fun _ _ _ h => h) (Or.inl ⟨by rfl, fun w' hw' => by (clear hw'; go_simp)⟩) hHeld ?_
      simp only [Act.put, List.setIfInBounds_toArray, List.set_cons_zero, List.set_cons_succ]
      refine wpAnyH_take (i := 20) (oi := { dst := some 31, op := Op.indexAddr 22 (Operand.tmp 29) (Operand.tmp 30), type := 0, pos := "law.go:19", after := #[{ on := 18, ground := Ground.data }, { on := 19, ground := Ground.data }], guard := none }) (v := .pointer (some ⟨g, o + k * 35, none⟩)) rfl (by kernel_rfl) (by kernel_rfl) (by kernel_rfl) (fun _ _ _ h => h) (Or.inl ⟨by rfl, fun w' hw' => by (clear hw'; go_simp)⟩) hHeld ?_
      simp only [Act.put, List.setIfInBounds_toArray, List.set_cons_zero, List.set_cons_succ]
      refine wpAnyH_take (i := 21) (oi := { dst := some 32, op := Op.fieldAddr 91 (Operand.tmp 31) 1, type := 0, pos := "law.go:19", after := #[{ on := 20, ground := Ground.data }], guard := none }) (v := .pointer (some ⟨g, o + k * 35 + 32, none⟩)) rfl (by kernel_rfl) (by kernel_rfl) (by kernel_rfl) (fun _ _ _ h => h) (Or.inl ⟨by rfl, fun w' hw' => by (clear hw'; go_simp)⟩) hHeld ?_
      simp only [Act.put, List.setIfInBounds_toArray, List.set_cons_zero, List.set_cons_succ]
      refine wpAnyH_take (i := 22) (oi := { dst := some 33, op := Op.fieldAddr 52 (Operand.tmp 32) 2, type := 0, pos := "law.go:19", after := #[{ on := 21, ground := Ground.data }], guard := none }) (v := .pointer (some ⟨g, o + k * 35 + 32 + 2, none⟩)) rfl (by kernel_rfl) (by kernel_rfl) (by kernel_rfl) (fun _ _ _ h => h) (Or.inl ⟨by rfl, fun w' hw' => by (clear hw'; go_simp)⟩) hHeld ?_
      simp only [Act.put, List.setIfInBounds_toArray, List.set_cons_zero, List.set_cons_succ]
      refine wpAnyH_take (i := 23) (oi := { dst := some 34, op := Op.load 3 (Operand.tmp 33), type := 3, pos := "law.go:19", after := #[{ on := 22, ground := Ground.data }], guard := none }) (v := .int .i64 r) rfl (by kernel_rfl) (by kernel_rfl) (by kernel_rfl) (fun _ _ _ h => h) (Or.inl ⟨by rfl, fun w' hw' => by (have q := (HLP.out _ hw').2.2; clear hw'; go_simp)⟩) hHeld ?_
      simp only [Act.put, List.setIfInBounds_toArray, List.set_cons_zero, List.set_cons_succ]
      refine wpAnyH_take (i := 24) (oi := { dst := some 35, op := Op.build 49 #[(0, Operand.tmp 22), (1, Operand.tmp 28), (2, Operand.tmp 34)], type := 49, pos := "law.go:19", after := #[{ on := 11, ground := Ground.data }, { on := 17, ground := Ground.data }, { on := 23, ground := Ground.data }], guard := none }) (v := .agg #[.int .i64 p, .int .i64 q, .int .i64 r]) rfl (by kernel_rfl) (by kernel_rfl) (by kernel_rfl) (fun _ _ _ h => h) (Or.inl ⟨by rfl, fun w' hw' => by (clear hw'; go_simp)⟩) hHeld ?_
      simp only [Act.put, List.setIfInBounds_toArray, List.set_cons_zero, List.set_cons_succ]
      refine wpAnyH_take (i := 25) (oi := { dst := some 36, op := Op.build 64 #[(0, Operand.tmp 16), (1, Operand.tmp 35)], type := 64, pos := "law.go:19", after := #[{ on := 5, ground := Ground.data }, { on := 24, ground := Ground.data }], guard := none }) (v := .agg C.toArray) rfl (by kernel_rfl) (by kernel_rfl) (by kernel_rfl) (fun _ _ _ h => h) (yields_two (by rfl) 64 0 1 (.tmp 16) (.tmp 35) rfl (.agg bx.toArray) (.agg #[.int .i64 p, .int .i64 q, .int .i64 r]) rfl rfl _ HB1.out) hHeld ?_
      simp only [Act.put, List.setIfInBounds_toArray, List.set_cons_zero, List.set_cons_succ]
      refine wpAnyH_ready (rs := [26]) (by kernel_rfl) (by simp) ?_
      refine AllReadyH.cons (o := { dst := some 37, op := Op.buildSlice 30 1 #[(0, Operand.tmp 36)], type := 30, pos := "law.go:19", after := #[{ on := 25, ground := Ground.data }], guard := none }) rfl (fun K hK => ?_) AllReadyH.nil
      rw [if_pos (by rfl)]
      refine wp_valE (exec_sliceE 30 _ rfl (.agg C.toArray) _ rfl (HB2.out _)) ?_
      refine hK.out _ _ HKA.out (fun hh => ?_)
      clear hK K hHeld
      have hHeld := hh
      clear hh
      try simp only [Act.put, List.setIfInBounds_toArray, List.set_cons_zero, List.set_cons_succ]
      refine wpAnyH_ready (rs := [27]) (by kernel_rfl) (by simp) ?_
      refine AllReadyH.cons (o := { dst := some 38, op := Op.call { callee := Callee.builtin Builtin.append, args := #[Operand.tmp 11, Operand.tmp 37], argTypes := #[30, 30] }, type := 30, pos := "law.go:19", after := #[{ on := 0, ground := Ground.data }, { on := 26, ground := Ground.data }], guard := none }) rfl (fun K hK => ?_) AllReadyH.nil
      rw [if_pos (by rfl)]
      refine wp_valE (exec_appE _ _ 30 rfl (.slice ad k cap) (.slice (some ⟨wr.heap.size, 0, none⟩) 1 1) _ rfl rfl HAP.out) ?_
      refine hK.out _ _ HK2.out (fun hh => ?_)
      clear hK K hHeld
      have hHeld := hh
      clear hh
      try simp only [Act.put, List.setIfInBounds_toArray, List.set_cons_zero, List.set_cons_succ]
      refine wpAnyH_take (i := 28) (oi := { dst := some 3, op := Op.assign (Operand.tmp 38), type := 30, pos := "law.go:19", after := #[{ on := 27, ground := Ground.data }, { on := 27, ground := Ground.chain }, { on := 0, ground := Ground.phase }, { on := 1, ground := Ground.phase }, { on := 2, ground := Ground.phase }, { on := 3, ground := Ground.phase }, { on := 4, ground := Ground.phase }, { on := 5, ground := Ground.phase }, { on := 6, ground := Ground.phase }, { on := 7, ground := Ground.phase }, { on := 8, ground := Ground.phase }, { on := 9, ground := Ground.phase }, { on := 10, ground := Ground.phase }, { on := 11, ground := Ground.phase }, { on := 12, ground := Ground.phase }, { on := 13, ground := Ground.phase }, { on := 14, ground := Ground.phase }, { on := 15, ground := Ground.phase }, { on := 16, ground := Ground.phase }, { on := 17, ground := Ground.phase }, { on := 18, ground := Ground.phase }, { on := 19, ground := Ground.phase }, { on := 20, ground := Ground.phase }, { on := 21, ground := Ground.phase }, { on := 22, ground := Ground.phase }, { on := 23, ground := Ground.phase }, { on := 24, ground := Ground.phase }, { on := 25, ground := Ground.phase }, { on := 26, ground := Ground.phase }, { on := 27, ground := Ground.phase }], guard := none }) (v := .slice ad2 (k + 1) cap2) rfl (by kernel_rfl) (by kernel_rfl) (by kernel_rfl) (fun _ _ _ h => h) (Or.inl ⟨by rfl, fun w' hw' => by (clear hw'; go_simp)⟩) hHeld ?_
      simp only [Act.put, List.setIfInBounds_toArray, List.set_cons_zero, List.set_cons_succ]
      refine wpAnyH_done (by kernel_rfl) ?_ _
      clear hHeld
      go_wp2_with fail
      go_round
      case rel => exact ⟨k + 1, ad2, cap2, rfl, by first | rfl | go_num, by omega, HF.out⟩
      case measure => simp [intOf]; omega
    · have hltI : ¬ (k : Int) < (n : Int) := by omega
      have hkn' : k = n := by omega
      have HF : Hid (Mine w wr (.slice ad k cap) d) := by
        have := HS.out
        rw [hkn', ← HN.out, List.take_length] at this
        rw [Hid, hkn', ← HN.out]
        exact this
      clear hkn'
      go_wp2_with fail
      go_ret
      exact ⟨_, rfl, HF.out⟩
end Go.Proofs.YtampnikdmgojjaaGreat.Sg
end

section
/-
  The value of entries in tlv's words.
-/
namespace Go.Proofs.YtampnikdmgojjaaGreat.Sg
open Go.RowKit
open Tlv (Tr Agree)
open Sim (hid Kp No)

theorem run_oneV (t n : Int) (sb sk : Value) (w : World) : (Instr.buildSlice 85 1 #[(0, .agg #[.int .i64 t, .int .u64 n, sb, sk])]).run Tryz.prog w = .ok (.slice (some ⟨w.heap.size, 0, none⟩) 1 1) (w.alloc (.cells #[.int .i64 t, .int .u64 n, sb, sk] 87)) := by kernel_rfl
theorem plB_bd {e : Ent} (h : plB e = true) : (0 ≤ e.2.1 ∧ e.2.1 ≤ 1000000) ∧ (0 ≤ e.2.2.1 ∧ e.2.2.1 ≤ 1000000) ∧ (0 ≤ e.2.2.2 ∧ e.2.2.2 ≤ 1000000) := by
  simp [plB] at h
  omega

set_option maxHeartbeats 4000000 in
set_option maxRecDepth 100000 in
theorem value_any (w : World) (v : Value) (d : List Ent) (P : Nat → Prop) (hv : EV P w v d) (hp : ∀ e ∈ d, plB e = true) (hl : d.length ≤ 1000000) :
    Calls Tryz.prog 29 #[v] w fun e w' => ∃ a3 l3 p3 a4 l4 p4, e = .returned (.agg #[.int .i64 3, .int .u64 0, .slice a3 l3 p3, .slice a4 l4 p4]) ∧ Tlv.Rep w.heap.size w'.heap.size w' 3 (entsT d) (.slice a3 l3 p3) (.slice a4 l4 p4) ∧ Below w.heap.size w w' := by
  obtain ⟨a, c, rfl, h2, h3, h4, h5, h6⟩ := hv
  obtain ⟨n, hn⟩ : ∃ n, d.length = n := ⟨_, rfl⟩
  have HN := hid hn
  have HP := hid hp
  rw [hn] at hl h2 ⊢
  have H6 := hid h6
  have HM := hid many_none
  clear hn h2 h3 h4 h5 h6 hp
  go_enter Tryz.func29, Tryz.ntmps29
  go_wp2_with fail
  refine (HM.out _).mono ?_
  rintro e w1 ⟨rfl, hb1⟩
  have HB1 := hid hb1
  have HW : Hid (Below w.heap.size w w1) := ((Below.refl _ _).alloc (Nat.le_refl _) _).trans (hb1.mono (by simp))
  have hzw : w.heap.size < w1.heap.size := by have := hb1.size; simp at this; omega
  clear hb1 HM
  go_wp2_with fail
  go_loopw [9] (fun i wr => ∃ (k : Nat) (av : Option Addr) (cv : Nat), i = .int .i64 (k : Int) ∧ k ≤ n ∧ Hid (VI w1 d k (.slice av k cv) wr)) (fun i _ => n - (intOf i).toNat)
  case atStart => exact ⟨0, none, 0, rfl, Nat.zero_le _, VI.start w1 d⟩
  case round =>
    obtain ⟨k, av, cv, rfl, hkn, HS⟩ := hrel
    have hKw : Kp No w wr := Kp.below (HW.out.trans (HS.out.2.2.2.2.2.2.2.mono (by omega)))
    by_cases hlt : k < n
    · have hltI : (k : Int) < (n : Int) := by omega
      have hwk : IntKind.i64.wrap ((k : Int) + 1) = ((k + 1 : Nat) : Int) := by rw [IntKind.wrap_i64]; omega
      obtain ⟨e, he⟩ : ∃ e, d[k]? = some e := ⟨_, List.getElem?_eq_getElem (by rw [HN.out]; exact hlt)⟩
      have HE := hid he
      obtain ⟨g, o, rfl, _, hr⟩ := H6.out (by intro e; have := HN.out; rw [e] at this; simp at this; omega)
      have hrow := hr.kp hKw (fun x => x)
      have HX := hid (hrow.2 k e he)
      have HI := hid (inf HX.out.1)
      have HVAL : Hid (∀ V, Calls Tryz.prog 53 #[.agg (entC e).toArray] V fun e' w' => ∃ a3 l3 p3 a4 l4 p4, e' = .returned (.agg #[.int .i64 3, .int .u64 0, .slice a3 l3 p3, .slice a4 l4 p4]) ∧ Tlv.Rep V.heap.size w'.heap.size w' 2 (entT e) (.slice a3 l3 p3) (.slice a4 l4 p4) ∧ Below V.heap.size V w') := fun V => by
        obtain ⟨q0, q1, q2⟩ := plB_bd (HP.out e (List.mem_of_getElem? he))
        obtain ⟨nm, p, q, r⟩ := e
        exact entval_any nm p q r V HX.out.1 q0 q1 q2
      obtain ⟨cx, hcx⟩ : ∃ cx, entC e = cx := ⟨_, rfl⟩
      have HRX : Hid (wr.rangeAt g (o + k * 35) cx) := by rw [← hcx]; exact HX.out.2
      rw [hcx] at HI HVAL
      have hcl : cx.length = 35 := by rw [← hcx]; exact entC_length HX.out.1
      have HO1 : Hid (cx.toArray.all (·.oneCell') = true) := by rw [← hcx]; exact all_oneCell_toArray (entC_one e)
      have HC0 : Hid (∃ v0, cx[0]? = some v0) := ⟨_, List.getElem?_eq_getElem (by omega)⟩
      clear hcx hr hrow he hKw
      go_wp2_with (first
        | (refine wpList_load_mid (by rfl) 64 _ (by rfl) g (o + k * 35) (by rfl) cx _ HRX.out Tryz.underlying64 rfl HI.out ?_)
        | (refine wpList_store_box (fun W => ∀ V, Kp No W V → V.rangeAt wr.heap.size 0 cx ∧ Kp No wr V) (by rfl) 64 _ _ (by rfl) wr.heap.size 0 cx.toArray (by rfl) (by rfl) (thereE wr _ _ _ (by rw [List.size_toArray, hcl]; exact Nat.le_refl _)) HI.out HO1.out (boxE wr _ cx rfl hcl) ?_; intro W1 hW1; have HW1 := hid hW1; clear hW1))
      have HKW := hid (HW1.out W1 (Kp.refl _ _)).2
      have hbx : wr.heap.size < W1.heap.size := by
        obtain ⟨v0, hv0⟩ := HC0.out
        exact World.block_lt_of_cell? _ _ ((HW1.out W1 (Kp.refl _ _)).1 0 v0 hv0)
      have HLX : Hid (∀ V, Kp (fun x => x = w1.heap.size ∨ (Value.slice av k cv).ownBlock = some x) W1 V → V.rangeAt wr.heap.size 0 cx) := fun V hV j u hu => by
        refine (hV.cell (p := ⟨wr.heap.size, _, none⟩) hbx (fun hx => ?_)).trans ((HW1.out W1 (Kp.refl _ _)).1 j u hu)
        rcases hx with hx | hx
        · have h1 := HS.out.2.2.2.2.2.1
          have h2 : wr.heap.size = w1.heap.size := hx
          omega
        · have h1 := (HS.out.2.2.2.2.2.2.1.lt wr.heap.size hx).2
          omega
      have c3 : ∀ V, Kp No W1 V → V.cell? ⟨w1.heap.size, 3, none⟩ = some (.slice av k cv) := fun V hV => ((HW1.out V hV).2.cell (p := ⟨w1.heap.size, 3, none⟩) HS.out.2.2.2.2.2.1 (fun x => x)).trans HS.out.2.2.2.1
      clear hcl hbx
      refine wp_region_held_drew (S := fun V => Kp (fun x => x = w1.heap.size ∨ (Value.slice av k cv).ownBlock = some x) W1 V) (by kernel_rfl) ((Kp.refl _ _).drew) (fun hHeld => ?_)
      refine wpAnyH_take (i := 0) (oi := { dst := some 13, op := Op.fieldAddr 87 (Operand.tmp 3) 3, type := 0, pos := "sealed.go:53", after := #[], guard := none }) (v := .pointer (some ⟨w1.heap.size, 3, none⟩)) rfl (by kernel_rfl) (by kernel_rfl) (by kernel_rfl) (fun _ _ _ h => h) (Or.inl ⟨by rfl, fun w' hw' => by (clear hw'; go_simp)⟩) hHeld ?_
      simp only [Act.put, List.setIfInBounds_toArray, List.set_cons_zero, List.set_cons_succ]
      refine wpAnyH_take (i := 2) (oi := { dst := some 15, op := Op.load 64 (Operand.tmp 5), type := 64, pos := "sealed.go:53", after := #[], guard := none }) (v := .agg cx.toArray) rfl (by kernel_rfl) (by kernel_rfl) (by kernel_rfl) (fun _ _ _ h => h) (yieldsIf_load_mid (by rfl) _ _ rfl wr.heap.size 0 rfl cx _ (HLX.out) Tryz.underlying64 rfl HI.out) hHeld ?_
      simp only [Act.put, List.setIfInBounds_toArray, List.set_cons_zero, List.set_cons_succ]
      refine wpAnyH_ready (rs := [1, 3]) (by kernel_rfl) (by simp) ?_
      refine (AllReadyH.cons (o := { dst := some 14, op := Op.load 85 (Operand.tmp 13), type := 85, pos := "sealed.go:53", after := #[{ on := 0, ground := Ground.data }], guard := none }) rfl (fun K hK => ?_) (AllReadyH.cons (o := { dst := some 16, op := Op.call { callee := Callee.value (Operand.func 53), args := #[Operand.tmp 15], argTypes := #[64] }, type := 87, pos := "sealed.go:53", after := #[{ on := 2, ground := Ground.data }], guard := none }) rfl (fun K hK => ?_) AllReadyH.nil))
      · have q3 := c3 (W1.drew) ((Kp.refl No W1).drew)
        go_simp
        refine hK.out _ _ ((((Kp.refl No W1).drew).ofNo)) (fun hh => ?_)
        clear hK K hHeld
        have hHeld := hh
        clear hh
        try simp only [Act.put, List.setIfInBounds_toArray, List.set_cons_zero, List.set_cons_succ]
        refine wpAnyH_ready (rs := [3]) (by kernel_rfl) (by simp) ?_
        refine (AllReadyH.cons (o := { dst := some 16, op := Op.call { callee := Callee.value (Operand.func 53), args := #[Operand.tmp 15], argTypes := #[64] }, type := 87, pos := "sealed.go:53", after := #[{ on := 2, ground := Ground.data }], guard := none }) rfl (fun K hK => ?_) AllReadyH.nil)
        go_simp
        refine (HVAL.out _).mono ?_
        rintro e' w2 ⟨a3, l3, p3, a4, l4, p4, rfl, hr2, hb2⟩
        have hb2' : Below W1.heap.size W1 w2 := (Below.refl _ _).drew.trans hb2
        obtain ⟨g', cap, w4, hap, k3, kf, ks, hvi, hkp⟩ := HS.out.step HKW.out hb2' hr2 HE.out (by omega) 85
        have HK2 : Hid (Kp No W1 w2) := Kp.below hb2'
        have HAP := hid hap
        have HVI := hid hvi
        have HKP := hid hkp
        clear hap hvi hkp hr2 hb2 hb2'
        go_wp2_with fail
        refine hK.out _ _ (HK2.out.ofNo) (fun hh => ?_)
        clear hK K hHeld
        have hHeld := hh
        clear hh
        try simp only [Act.put, List.setIfInBounds_toArray, List.set_cons_zero, List.set_cons_succ]
        refine wpAnyH_ready (rs := [4]) (by kernel_rfl) (by simp) ?_
        refine (AllReadyH.cons (o := { dst := some 17, op := Op.buildSlice 85 1 #[(0, Operand.tmp 16)], type := 85, pos := "sealed.go:53", after := #[{ on := 3, ground := Ground.data }], guard := none }) rfl (fun K hK => ?_) AllReadyH.nil)
        rw [if_pos (by rfl)]
        refine wp_valE (exec_sliceE 85 _ rfl (.agg #[.int .i64 3, .int .u64 0, .slice a3 l3 p3, .slice a4 l4 p4]) _ rfl (run_oneV _ _ _ _ _)) ?_
        refine hK.out _ _ ((HK2.out.alloc _).ofNo) (fun hh => ?_)
        clear hK K hHeld
        have hHeld := hh
        clear hh
        try simp only [Act.put, List.setIfInBounds_toArray, List.set_cons_zero, List.set_cons_succ]
        refine wpAnyH_ready (rs := [5]) (by kernel_rfl) (by simp) ?_
        refine (AllReadyH.cons (o := { dst := some 18, op := Op.call { callee := Callee.builtin Builtin.append, args := #[Operand.tmp 14, Operand.tmp 17], argTypes := #[85, 85] }, type := 85, pos := "sealed.go:53", after := #[{ on := 1, ground := Ground.data }, { on := 4, ground := Ground.data }, { on := 3, ground := Ground.chain }], guard := none }) rfl (fun K hK => ?_) AllReadyH.nil)
        rw [if_pos (by rfl)]
        refine wp_valE (exec_appE _ _ 85 rfl (.slice av k cv) (.slice (some ⟨w2.heap.size, 0, none⟩) 1 1) _ rfl rfl HAP.out) ?_
        refine hK.out _ _ (HKP.out) (fun hh => ?_)
        clear hK K hHeld
        have hHeld := hh
        clear hh
        try simp only [Act.put, List.setIfInBounds_toArray, List.set_cons_zero, List.set_cons_succ]
        refine wpAnyH_take (i := 6) (oi := { dst := some 19, op := Op.fieldAddr 87 (Operand.tmp 3) 3, type := 0, pos := "sealed.go:53", after := #[{ on := 0, ground := Ground.phase }, { on := 1, ground := Ground.phase }, { on := 2, ground := Ground.phase }, { on := 3, ground := Ground.phase }, { on := 4, ground := Ground.phase }, { on := 5, ground := Ground.phase }], guard := none }) (v := .pointer (some ⟨w1.heap.size, 3, none⟩)) rfl (by kernel_rfl) (by kernel_rfl) (by kernel_rfl) (fun _ _ _ h => h) (Or.inl ⟨by rfl, fun w' hw' => by (clear hw'; go_simp)⟩) hHeld ?_
        simp only [Act.put, List.setIfInBounds_toArray, List.set_cons_zero, List.set_cons_succ]
        refine wpAnyH_ready (rs := [7]) (by kernel_rfl) (by simp) ?_
        refine (AllReadyH.cons (o := { dst := none, op := Op.store 85 (Operand.tmp 19) (Operand.tmp 18), type := 0, pos := "sealed.go:53", after := #[{ on := 6, ground := Ground.data }, { on := 5, ground := Ground.data }, { on := 5, ground := Ground.chain }, { on := 0, ground := Ground.phase }, { on := 1, ground := Ground.phase }, { on := 2, ground := Ground.phase }, { on := 3, ground := Ground.phase }, { on := 4, ground := Ground.phase }, { on := 5, ground := Ground.phase }], guard := none }) rfl (fun K hK => ?_) AllReadyH.nil)
        go_simp
        refine hK.out _ _ ((HKP.out.setCell (p := ⟨w1.heap.size, 3, none⟩) (.inl (.inl rfl)) _)) (fun hh => ?_)
        clear hK K hHeld
        have hHeld := hh
        clear hh
        try simp only [Act.put, List.setIfInBounds_toArray, List.set_cons_zero, List.set_cons_succ]
        refine wpAnyH_done (by kernel_rfl) ?_ _
        clear hHeld
        go_wp2_with fail
        go_round
        case rel => exact ⟨k + 1, some ⟨g', 0, none⟩, cap, by first | rfl | go_num, by omega, HVI.out⟩
        case measure => simp [intOf]; omega
      · go_simp
        refine (HVAL.out _).mono ?_
        rintro e' w2 ⟨a3, l3, p3, a4, l4, p4, rfl, hr2, hb2⟩
        have hb2' : Below W1.heap.size W1 w2 := (Below.refl _ _).drew.trans hb2
        obtain ⟨g', cap, w4, hap, k3, kf, ks, hvi, hkp⟩ := HS.out.step HKW.out hb2' hr2 HE.out (by omega) 85
        have HK2 : Hid (Kp No W1 w2) := Kp.below hb2'
        have HAP := hid hap
        have HVI := hid hvi
        have HKP := hid hkp
        clear hap hvi hkp hr2 hb2 hb2'
        go_wp2_with fail
        refine hK.out _ _ (HK2.out.ofNo) (fun hh => ?_)
        clear hK K hHeld
        have hHeld := hh
        clear hh
        try simp only [Act.put, List.setIfInBounds_toArray, List.set_cons_zero, List.set_cons_succ]
        refine wpAnyH_ready (rs := [1, 4]) (by kernel_rfl) (by simp) ?_
        refine (AllReadyH.cons (o := { dst := some 14, op := Op.load 85 (Operand.tmp 13), type := 85, pos := "sealed.go:53", after := #[{ on := 0, ground := Ground.data }], guard := none }) rfl (fun K hK => ?_) (AllReadyH.cons (o := { dst := some 17, op := Op.buildSlice 85 1 #[(0, Operand.tmp 16)], type := 85, pos := "sealed.go:53", after := #[{ on := 3, ground := Ground.data }], guard := none }) rfl (fun K hK => ?_) AllReadyH.nil))
        · have q3 := c3 (w2) HK2.out
          go_simp
          refine hK.out _ _ ((HK2.out.ofNo)) (fun hh => ?_)
          clear hK K hHeld
          have hHeld := hh
          clear hh
          try simp only [Act.put, List.setIfInBounds_toArray, List.set_cons_zero, List.set_cons_succ]
          refine wpAnyH_ready (rs := [4]) (by kernel_rfl) (by simp) ?_
          refine (AllReadyH.cons (o := { dst := some 17, op := Op.buildSlice 85 1 #[(0, Operand.tmp 16)], type := 85, pos := "sealed.go:53", after := #[{ on := 3, ground := Ground.data }], guard := none }) rfl (fun K hK => ?_) AllReadyH.nil)
          rw [if_pos (by rfl)]
          refine wp_valE (exec_sliceE 85 _ rfl (.agg #[.int .i64 3, .int .u64 0, .slice a3 l3 p3, .slice a4 l4 p4]) _ rfl (run_oneV _ _ _ _ _)) ?_
          refine hK.out _ _ ((HK2.out.alloc _).ofNo) (fun hh => ?_)
          clear hK K hHeld
          have hHeld := hh
          clear hh
          try simp only [Act.put, List.setIfInBounds_toArray, List.set_cons_zero, List.set_cons_succ]
          refine wpAnyH_ready (rs := [5]) (by kernel_rfl) (by simp) ?_
          refine (AllReadyH.cons (o := { dst := some 18, op := Op.call { callee := Callee.builtin Builtin.append, args := #[Operand.tmp 14, Operand.tmp 17], argTypes := #[85, 85] }, type := 85, pos := "sealed.go:53", after := #[{ on := 1, ground := Ground.data }, { on := 4, ground := Ground.data }, { on := 3, ground := Ground.chain }], guard := none }) rfl (fun K hK => ?_) AllReadyH.nil)
          rw [if_pos (by rfl)]
          refine wp_valE (exec_appE _ _ 85 rfl (.slice av k cv) (.slice (some ⟨w2.heap.size, 0, none⟩) 1 1) _ rfl rfl HAP.out) ?_
          refine hK.out _ _ (HKP.out) (fun hh => ?_)
          clear hK K hHeld
          have hHeld := hh
          clear hh
          try simp only [Act.put, List.setIfInBounds_toArray, List.set_cons_zero, List.set_cons_succ]
          refine wpAnyH_take (i := 6) (oi := { dst := some 19, op := Op.fieldAddr 87 (Operand.tmp 3) 3, type := 0, pos := "sealed.go:53", after := #[{ on := 0, ground := Ground.phase }, { on := 1, ground := Ground.phase }, { on := 2, ground := Ground.phase }, { on := 3, ground := Ground.phase }, { on := 4, ground := Ground.phase }, { on := 5, ground := Ground.phase }], guard := none }) (v := .pointer (some ⟨w1.heap.size, 3, none⟩)) rfl (by kernel_rfl) (by kernel_rfl) (by kernel_rfl) (fun _ _ _ h => h) (Or.inl ⟨by rfl, fun w' hw' => by (clear hw'; go_simp)⟩) hHeld ?_
          simp only [Act.put, List.setIfInBounds_toArray, List.set_cons_zero, List.set_cons_succ]
          refine wpAnyH_ready (rs := [7]) (by kernel_rfl) (by simp) ?_
          refine (AllReadyH.cons (o := { dst := none, op := Op.store 85 (Operand.tmp 19) (Operand.tmp 18), type := 0, pos := "sealed.go:53", after := #[{ on := 6, ground := Ground.data }, { on := 5, ground := Ground.data }, { on := 5, ground := Ground.chain }, { on := 0, ground := Ground.phase }, { on := 1, ground := Ground.phase }, { on := 2, ground := Ground.phase }, { on := 3, ground := Ground.phase }, { on := 4, ground := Ground.phase }, { on := 5, ground := Ground.phase }], guard := none }) rfl (fun K hK => ?_) AllReadyH.nil)
          go_simp
          refine hK.out _ _ ((HKP.out.setCell (p := ⟨w1.heap.size, 3, none⟩) (.inl (.inl rfl)) _)) (fun hh => ?_)
          clear hK K hHeld
          have hHeld := hh
          clear hh
          try simp only [Act.put, List.setIfInBounds_toArray, List.set_cons_zero, List.set_cons_succ]
          refine wpAnyH_done (by kernel_rfl) ?_ _
          clear hHeld
          go_wp2_with fail
          go_round
          case rel => exact ⟨k + 1, some ⟨g', 0, none⟩, cap, by first | rfl | go_num, by omega, HVI.out⟩
          case measure => simp [intOf]; omega
        · rw [if_pos (by rfl)]
          refine wp_valE (exec_sliceE 85 _ rfl (.agg #[.int .i64 3, .int .u64 0, .slice a3 l3 p3, .slice a4 l4 p4]) _ rfl (run_oneV _ _ _ _ _)) ?_
          refine hK.out _ _ ((HK2.out.alloc _).ofNo) (fun hh => ?_)
          clear hK K hHeld
          have hHeld := hh
          clear hh
          try simp only [Act.put, List.setIfInBounds_toArray, List.set_cons_zero, List.set_cons_succ]
          refine wpAnyH_ready (rs := [1]) (by kernel_rfl) (by simp) ?_
          refine (AllReadyH.cons (o := { dst := some 14, op := Op.load 85 (Operand.tmp 13), type := 85, pos := "sealed.go:53", after := #[{ on := 0, ground := Ground.data }], guard := none }) rfl (fun K hK => ?_) AllReadyH.nil)
          have q3 := c3 (w2.alloc (.cells #[.int .i64 3, .int .u64 0, .slice a3 l3 p3, .slice a4 l4 p4] 87)) (HK2.out.alloc _)
          go_simp
          refine hK.out _ _ (((HK2.out.alloc _).ofNo)) (fun hh => ?_)
          clear hK K hHeld
          have hHeld := hh
          clear hh
          try simp only [Act.put, List.setIfInBounds_toArray, List.set_cons_zero, List.set_cons_succ]
          refine wpAnyH_ready (rs := [5]) (by kernel_rfl) (by simp) ?_
          refine (AllReadyH.cons (o := { dst := some 18, op := Op.call { callee := Callee.builtin Builtin.append, args := #[Operand.tmp 14, Operand.tmp 17], argTypes := #[85, 85] }, type := 85, pos := "sealed.go:53", after := #[{ on := 1, ground := Ground.data }, { on := 4, ground := Ground.data }, { on := 3, ground := Ground.chain }], guard := none }) rfl (fun K hK => ?_) AllReadyH.nil)
          rw [if_pos (by rfl)]
          refine wp_valE (exec_appE _ _ 85 rfl (.slice av k cv) (.slice (some ⟨w2.heap.size, 0, none⟩) 1 1) _ rfl rfl HAP.out) ?_
          refine hK.out _ _ (HKP.out) (fun hh => ?_)
          clear hK K hHeld
          have hHeld := hh
          clear hh
          try simp only [Act.put, List.setIfInBounds_toArray, List.set_cons_zero, List.set_cons_succ]
          refine wpAnyH_take (i := 6) (oi := { dst := some 19, op := Op.fieldAddr 87 (Operand.tmp 3) 3, type := 0, pos := "sealed.go:53", after := #[{ on := 0, ground := Ground.phase }, { on := 1, ground := Ground.phase }, { on := 2, ground := Ground.phase }, { on := 3, ground := Ground.phase }, { on := 4, ground := Ground.phase }, { on := 5, ground := Ground.phase }], guard := none }) (v := .pointer (some ⟨w1.heap.size, 3, none⟩)) rfl (by kernel_rfl) (by kernel_rfl) (by kernel_rfl) (fun _ _ _ h => h) (Or.inl ⟨by rfl, fun w' hw' => by (clear hw'; go_simp)⟩) hHeld ?_
          simp only [Act.put, List.setIfInBounds_toArray, List.set_cons_zero, List.set_cons_succ]
          refine wpAnyH_ready (rs := [7]) (by kernel_rfl) (by simp) ?_
          refine (AllReadyH.cons (o := { dst := none, op := Op.store 85 (Operand.tmp 19) (Operand.tmp 18), type := 0, pos := "sealed.go:53", after := #[{ on := 6, ground := Ground.data }, { on := 5, ground := Ground.data }, { on := 5, ground := Ground.chain }, { on := 0, ground := Ground.phase }, { on := 1, ground := Ground.phase }, { on := 2, ground := Ground.phase }, { on := 3, ground := Ground.phase }, { on := 4, ground := Ground.phase }, { on := 5, ground := Ground.phase }], guard := none }) rfl (fun K hK => ?_) AllReadyH.nil)
          go_simp
          refine hK.out _ _ ((HKP.out.setCell (p := ⟨w1.heap.size, 3, none⟩) (.inl (.inl rfl)) _)) (fun hh => ?_)
          clear hK K hHeld
          have hHeld := hh
          clear hh
          try simp only [Act.put, List.setIfInBounds_toArray, List.set_cons_zero, List.set_cons_succ]
          refine wpAnyH_done (by kernel_rfl) ?_ _
          clear hHeld
          go_wp2_with fail
          go_round
          case rel => exact ⟨k + 1, some ⟨g', 0, none⟩, cap, by first | rfl | go_num, by omega, HVI.out⟩
          case measure => simp [intOf]; omega
    · have hltI : ¬ (k : Int) < (n : Int) := by omega
      have hkn' : k = n := by omega
      have hS := HS.out
      obtain ⟨f0, f1, f2, f3, hf, hs, hc, hw⟩ := hS
      have hc' := hc.done (by rw [List.length_take, List.length_map, HN.out]; omega)
      rw [List.take_of_length_le (by rw [List.length_map, HN.out]; omega)] at hc'
      have HC := hid hc'
      have HBW := hid hw
      have xr : ∀ o, wr.cell? ⟨w.heap.size, o, none⟩ = (#[.int .i64 0, .int .u64 0, .slice none 0 0, .slice none 0 0] : Array Value)[o]? := fun o => by
        rw [hw.cell (p := ⟨w.heap.size, o, none⟩) (by simp; omega), HB1.out.cell (p := ⟨w.heap.size, o, none⟩) (by simp), World.cell?_alloc_at _ _ _ _ rfl]
      have xf : ∀ o, wr.frozen? ⟨w.heap.size, o, none⟩ = false := fun o => by
        rw [hw.frozen (p := ⟨w.heap.size, o, none⟩) (by simp; omega), HB1.out.frozen (p := ⟨w.heap.size, o, none⟩) (by simp), World.frozen?_alloc_at _ _ _ _ rfl]
      have r0 : wr.cell? ⟨w.heap.size, 0, none⟩ = some (.int .i64 0) := xr 0
      have r1 : wr.cell? ⟨w.heap.size, 1, none⟩ = some (.int .u64 0) := xr 1
      have r2 : wr.cell? ⟨w.heap.size, 2, none⟩ = some (.slice none 0 0) := xr 2
      have r3 : wr.cell? ⟨w.heap.size, 3, none⟩ = some (.slice none 0 0) := xr 3
      clear xr hc hc' hw hKw HS hkn'
      go_wp2_with fail
      obtain ⟨q0, q1, q2, q3⟩ := Tlv.set4_read (u0 := .int .i64 3) (u1 := .int .u64 0) (u2 := .slice none 0 0) (u3 := .slice av k cv) r0 r1 r2 r3
      refine bodyPost_ret (v := .agg #[.int .i64 3, .int .u64 0, .slice none 0 0, .slice av k cv]) (by simp [results, Tryz.results29, go_sem, q0, q1, q2, q3]) rfl ⟨_, _, _, _, _, _, rfl, ⟨by simp [entsT, Tr.mk, Tlv.Tr.hd], by simp [entsT, Tr.mk, Tlv.Tr.hd], Tlv.BySl.none _ _ _, ?_⟩, ?_⟩
      · have A4 := Agree.set4 (L := w1.heap.size + 1) (B := wr.heap.size) wr (b := w.heap.size) (o0 := 0) (o1 := 1) (o2 := 2) (o3 := 3) (.inl (by omega)) (.int .i64 3) (.int .u64 0) (.slice none 0 0) (.slice av k cv)
        exact HC.out.agree (L' := w.heap.size) (fun _ _ _ r => Tlv.Rep.agree (L' := w.heap.size) A4 (by omega) (by simp) r) A4 (by omega) (by simp)
      · exact (HW.out.trans (HBW.out.mono (by omega))).trans (Tlv.bset4 (Nat.le_refl _) _ _ _ _)
end Go.Proofs.YtampnikdmgojjaaGreat.Sg
end

section
/-
  The form of entries, and segment.Put.
-/
namespace Go.Proofs.YtampnikdmgojjaaGreat.Sg
open Go.RowKit
open Tlv (Tr Agree)
open Crc (Kept)
open Sim (hid Kp No)

theorem ent_bsz {e : Ent} (hn : e.1.length = 32) {room deep : Int} (hr : 68 ≤ room) (hd : 0 < deep) : (Tlv.bsz 2 (entT e) room deep).2 = true ∧ 0 ≤ (Tlv.bsz 2 (entT e) room deep).1 ∧ (Tlv.bsz 2 (entT e) room deep).1 ≤ 68 := by
  have b1 := Tlv.nsz_bd e.2.1
  have b2 := Tlv.nsz_bd e.2.2.1
  have b3 := Tlv.nsz_bd e.2.2.2
  rw [entT, Tlv.bsz_3 _ _ _ (by omega), Tlv.lsz_go hd]
  simp only [Tlv.lszGo]
  rw [Tlv.bsz_2 _ _ _ (by omega), hn, Tlv.bsz_1 _ _ _ (by simp; omega)]
  have d1 : decide (((32 : Nat) : Int) ≤ room - 0 - 3) = true := by simp; omega
  simp only [d1, if_true]
  have d2 : decide (Tlv.nsz e.2.1 ≤ room - (0 + (3 + ((32 : Nat) : Int))) - 3) = true := by simp; omega
  simp only [d2, if_true]
  rw [Tlv.bsz_1 _ _ _ (by simp; omega)]
  have d3 : decide (Tlv.nsz e.2.2.1 ≤ room - (0 + (3 + ((32 : Nat) : Int)) + (3 + Tlv.nsz e.2.1)) - 3) = true := by simp; omega
  simp only [d3, if_true]
  rw [Tlv.bsz_1 _ _ _ (by simp; omega)]
  have d4 : decide (Tlv.nsz e.2.2.2 ≤ room - (0 + (3 + ((32 : Nat) : Int)) + (3 + Tlv.nsz e.2.1) + (3 + Tlv.nsz e.2.2.1)) - 3) = true := by simp; omega
  simp only [d4, if_true]
  refine ⟨trivial, ?_, ?_⟩ <;> simp <;> omega

theorem ents_bsz : ∀ (d : List Ent), (∀ e ∈ d, e.1.length = 32) → ∀ (room acc : Int), 0 ≤ acc → acc + 71 * (d.length : Int) ≤ room → (Tlv.lszGo (Tlv.bsz 2) room 8 acc (d.map entT)).2 = true
  | [], _, _, _, _, _ => rfl
  | e :: d, h, room, acc, h0, h1 => by
    rw [List.map_cons, Tlv.lszGo]
    simp only [List.length_cons] at h1
    obtain ⟨b1, b2, b3⟩ := ent_bsz (h e (by simp)) (room := room - acc - 3) (deep := 8 - 1) (by omega) (by omega)
    rw [if_pos b1]
    exact ents_bsz d (fun x hx => h x (by simp [hx])) room _ (by omega) (by omega)

theorem entsT_right {d : List Ent} (h : ∀ e ∈ d, e.1.length = 32) (hl : d.length ≤ 900) : (Tlv.bsz 3 (entsT d) 65535 8).2 = true := by
  rw [entsT, Tlv.bsz_3 _ _ _ (by omega), Tlv.lsz_go (by omega)]
  exact ents_bsz d h _ _ (by omega) (by omega)

/-- The form of entries, and what it is sealed. -/
def formE (d : List Ent) : List Int := Tlv.formOf 3 (entsT d)
def sealE (d : List Ent) : List Int := sealI (formE d)

theorem szT_ents {d : List Ent} (h : ∀ e ∈ d, e.1.length = 32) (hl : d.length ≤ 900) : Tlv.szT 3 (entsT d) ≠ 0 := by
  have h1 := entsT_right h hl
  have h2 := Tlv.bsz_fits 3 _ _ _ h1
  rw [Tlv.szT, if_pos h1]
  omega
theorem formE_length {d : List Ent} (h : ∀ e ∈ d, e.1.length = 32) (hl : d.length ≤ 900) : (formE d).length ≤ 65538 := by
  have h1 := entsT_right h hl
  have h2 := Tlv.bsz_fits 3 _ _ _ h1
  have h3 := Tlv.bsz_len 3 _ _ _ h1
  have h4 : (formE d).length = 3 + (Tlv.bodyOf 3 (entsT d)).length := by rw [formE]; simp [Tlv.formOf]; omega
  omega

theorem RightP.places {d : List Ent} (h : RightP d) : ∀ e ∈ d, plB e = true := fun e he => by
  obtain ⟨i, hi⟩ := List.mem_iff_getElem?.1 he
  exact (h.2 i e (List.getElem?_eq_some_iff.1 hi).1 hi).1

set_option maxHeartbeats 1000000 in
set_option maxRecDepth 100000 in
theorem put_no (ad : Addr) (w : World) (v : Value) (d : List Ent) (P : Nat → Prop) (hv : EV P w v d) (hl : d.length ≤ 1000000) (hR : ¬ RightP d) :
    Calls Tryz.prog 7 #[.pointer (some ad), v] w fun e w' => e = .returned (.tuple #[.slice none 0 0, .int .i64 1]) ∧ Kp No w w' := by
  have HR := hid (right_any w v d P hv hl)
  have HN := hid hR
  obtain ⟨a, c, rfl, _⟩ := hv
  clear hR hl
  go_enter Tryz.func7, Tryz.ntmps7
  go_wp2_with fail
  refine HR.out.mono ?_
  rintro e w1 ⟨⟨b, rfl, hb⟩, hk⟩
  have hbf : b = false := by
    cases b with
    | false => rfl
    | true => exact absurd (hb.1 rfl) HN.out
  subst hbf
  have HK := hid hk
  clear hb hk
  go_wp2_with fail
  go_ret2
  exact ⟨rfl, HK.out⟩

set_option maxHeartbeats 2000000 in
set_option maxRecDepth 100000 in
theorem put_yes (b : Nat) (w : World) (v : Value) (d : List Ent) (P : Nat → Prop) (hT : TabX w b) (hv : EV P w v d) (hR : RightP d) :
    Calls Tryz.prog 7 #[.pointer (some ⟨b, 0, none⟩), v] w fun e w' => ∃ v', e = .returned (.tuple #[v', .int .i64 0]) ∧ Crc.Own w' w.heap.size v' (nats (sealE d)) ∧ Kept b w w' ∧ TabX w' b := by
  have hok := hv.ok
  have HOK : Hid (∀ e ∈ d, e.1.length = 32) := fun e he => (hok e he).1
  have HR := hid (right_any w v d P hv (by have := hR.1; omega))
  have HRR := hid hR
  have HV := hid hv
  have HT := hid hT
  have hbw := hT.lt
  obtain ⟨a, c, rfl, _⟩ := hv
  clear hR hT hok
  go_enter Tryz.func7, Tryz.ntmps7
  go_wp2_with fail
  refine HR.out.mono ?_
  rintro e w1 ⟨⟨bb, rfl, hb⟩, hk⟩
  have hbt : bb = true := hb.2 HRR.out
  subst hbt
  have HB1 : Hid (Below w.heap.size w w1) := ⟨hk.os, hk.tape, hk.output, hk.size, fun j hj => hk.block j hj (fun x => x)⟩
  have HV1 := hid (HV.out.kept hk)
  clear hb hk
  go_wp2_with fail
  refine (value_any w1 _ d P HV1.out HRR.out.places (by have := HRR.out.1; omega)).mono ?_
  rintro e w2 ⟨a3, l3, p3, a4, l4, p4, rfl, hr2, hb2⟩
  have HR2 := hid hr2
  have HB2 : Hid (Below w.heap.size w w2) := HB1.out.trans (hb2.mono HB1.out.size)
  clear hr2 hb2
  go_wp2_with fail
  refine (Tlv.Put_yes (entsT d) _ _ _ (HR2.out.agree (Agree.refl _ _ _) (Nat.zero_le _) (Nat.le_refl _)) (szT_ents HOK.out HRR.out.1)).mono ?_
  rintro e w3 ⟨vf, rfl, hf3, hb3⟩
  obtain ⟨af, cf, rfl, hrf⟩ := id hf3
  clear hrf
  have HF3 := hid hf3
  have HB3 : Hid (Below w.heap.size w w3) := HB2.out.trans (hb3.mono HB2.out.size)
  have hz2 : w.heap.size ≤ w2.heap.size := HB2.out.size
  clear hf3 hb3
  go_wp2_with fail
  obtain ⟨f, n, hf, ht⟩ := (HT.out.below HB3.out)
  have hcf : Crc.BySl b w3 (.slice af (Tlv.formOf 3 (entsT d)).length cf) (nats (formE d)) := toCrc HF3.out.toS (fun g hg => ⟨by omega, hg.2⟩)
  refine (Crc.seal_any b f n _ (nats (formE d)) _ hf ht hcf (by rw [nats_length]; have := formE_length HOK.out HRR.out.1; omega)).mono ?_
  rintro e w4 ⟨v', rfl, ho, hk4, ht4⟩
  have HO := hid ho
  have HK4 := hid hk4
  have HT4 := hid ht4
  clear ho hk4 ht4 ht hcf hf
  go_wp2_with fail
  go_ret2
  refine ⟨v', rfl, ?_, (Kept.below HB3.out).trans HK4.out, TabX.of HT4.out⟩
  rw [sealE, sealI_nats]
  exact HO.out.mono HB3.out.size
end Go.Proofs.YtampnikdmgojjaaGreat.Sg
end

section
/-
  Plain mathematics of segment's Get: which trees are entries' values, and what bytes answer.
-/
namespace Go.Proofs.YtampnikdmgojjaaGreat.Sg
open Go.RowKit
open Tlv (Tr)

/-- What the fields of a value tell, whatever is in them. -/
def entOf (k : Tr 8) : Ent := match k.kd with
  | [a, b, c, e] => (pad32 a.hd.2.2, wrap64 b.hd.2.1, wrap64 c.hd.2.1, wrap64 e.hd.2.1)
  | _ => ([], 0, 0, 0)
/-- A value that is one of right entries. -/
def GoodT (t : Tr 9) : Prop := (∀ k ∈ t.kd, k.kd.length = 4) ∧ RightP (t.kd.map entOf) ∧ Tlv.sameT 9 t 3 (entsT (t.kd.map entOf)) = true

theorem kd4 {k : Tr 8} (h : k.kd.length = 4) : ∃ a b c e, k.kd = [a, b, c, e] := by
  match hq : k.kd with
  | [a, b, c, e] => exact ⟨a, b, c, e, rfl⟩
  | [] => rw [hq] at h; simp at h
  | [_] => rw [hq] at h; simp at h
  | [_, _] => rw [hq] at h; simp at h
  | [_, _, _] => rw [hq] at h; simp at h
  | _ :: _ :: _ :: _ :: _ :: _ => rw [hq] at h; simp at h

theorem leaf7 {a : Tr 7} {tag x : Int} {ys : List Int} : Tlv.sameT 7 a 1 (Tr.mk tag x ys []) = true → a.hd = (tag, x, ys) := by
  simp only [Tlv.sameT, Bool.and_eq_true, decide_eq_true_eq]
  exact fun h => h.1

theorem same_ent {k : Tr 8} {e : Ent} (he : EOk e) (hp : plB e = true) (h : Tlv.sameT 8 k 2 (entT e) = true) : k.kd.length = 4 ∧ entOf k = e := by
  have q : Tlv.sameT 8 k 2 (entT e) = (decide (k.hd = (3, 0, [])) && Tlv.sameL (fun a b => Tlv.sameT 7 a 1 b) k.kd [Tr.mk 2 0 e.1 [], Tr.mk 1 e.2.1 [] [], Tr.mk 1 e.2.2.1 [] [], Tr.mk 1 e.2.2.2 [] []]) := rfl
  rw [q] at h
  simp only [Bool.and_eq_true, decide_eq_true_eq] at h
  have hl := Tlv.sameL_len h.2
  have hl4 : k.kd.length = 4 := hl
  refine ⟨hl4, ?_⟩
  obtain ⟨a, b, c, d, hk⟩ := kd4 hl4
  rw [hk] at h
  simp only [Tlv.sameL, Bool.and_eq_true] at h
  obtain ⟨_, h1, h2, h3, h4, _⟩ := h
  have l1 := leaf7 h1
  have l2 := leaf7 h2
  have l3 := leaf7 h3
  have l4 := leaf7 h4
  have b := plB_bd hp
  obtain ⟨nm, p, q, r⟩ := e
  rw [entOf, hk]
  dsimp only at *
  rw [l1, l2, l3, l4]
  dsimp only
  rw [← (pad32_same nm).2 he.1, IntWalk.wrap64_in _ ⟨by omega, by omega⟩, IntWalk.wrap64_in _ ⟨by omega, by omega⟩, IntWalk.wrap64_in _ ⟨by omega, by omega⟩]

theorem same_ents : ∀ (ks : List (Tr 8)) (d : List Ent), (∀ e ∈ d, EOk e) → (∀ e ∈ d, plB e = true) → Tlv.sameL (fun a b => Tlv.sameT 8 a 2 b) ks (d.map entT) = true → (∀ k ∈ ks, k.kd.length = 4) ∧ ks.map entOf = d
  | [], [], _, _, _ => ⟨by simp, rfl⟩
  | [], _ :: _, _, _, h => by simp [Tlv.sameL] at h
  | _ :: _, [], _, _, h => by simp [Tlv.sameL] at h
  | k :: ks, e :: d, ho, hp, h => by
    simp only [List.map_cons, Tlv.sameL, Bool.and_eq_true] at h
    obtain ⟨h1, h2⟩ := same_ent (ho e (by simp)) (hp e (by simp)) h.1
    obtain ⟨h3, h4⟩ := same_ents ks d (fun x hx => ho x (by simp [hx])) (fun x hx => hp x (by simp [hx])) h.2
    refine ⟨fun x hx => ?_, by rw [List.map_cons, h2, h4]⟩
    rcases List.mem_cons.1 hx with rfl | hx
    · exact h1
    · exact h3 x hx

theorem good_same {t : Tr 9} {d : List Ent} (ho : ∀ e ∈ d, EOk e) (hr : RightP d) (h : Tlv.sameT 9 t 3 (entsT d) = true) : GoodT t ∧ t.kd.map entOf = d := by
  have q : Tlv.sameT 9 t 3 (entsT d) = (decide (t.hd = (3, 0, [])) && Tlv.sameL (fun a b => Tlv.sameT 8 a 2 b) t.kd (d.map entT)) := rfl
  rw [q] at h
  simp only [Bool.and_eq_true, decide_eq_true_eq] at h
  obtain ⟨h1, h2⟩ := same_ents t.kd d ho hr.places h.2
  refine ⟨⟨h1, by rw [h2]; exact hr, ?_⟩, h2⟩
  rw [h2, q]
  simp [h.1, h.2]

/-- The numbers of entries are numbers. -/
theorem entsT_num {d : List Ent} (hp : ∀ e ∈ d, plB e = true) : Tlv.NumOk 3 (entsT d) := by
  refine ⟨Int.le_refl 0, (by decide : (0 : Int) ≤ 18446744073709551615), fun k hk => ?_⟩
  obtain ⟨e, he, rfl⟩ := List.mem_map.1 hk
  have b := plB_bd (hp e he)
  refine ⟨Int.le_refl 0, (by decide : (0 : Int) ≤ 18446744073709551615), fun j hj => ?_⟩
  have hj' : j ∈ ([Tr.mk 2 0 e.1 [], Tr.mk 1 e.2.1 [] [], Tr.mk 1 e.2.2.1 [] [], Tr.mk 1 e.2.2.2 [] []] : List (Tr 1)) := hj
  rcases List.mem_cons.1 hj' with rfl | hj1
  · exact ⟨Int.le_refl 0, (by decide : (0 : Int) ≤ 18446744073709551615), fun x hx => by cases hx⟩
  rcases List.mem_cons.1 hj1 with rfl | hj2
  · exact ⟨b.1.1, Int.le_trans b.1.2 (by decide), fun x hx => by cases hx⟩
  rcases List.mem_cons.1 hj2 with rfl | hj3
  · exact ⟨b.2.1.1, Int.le_trans b.2.1.2 (by decide), fun x hx => by cases hx⟩
  rcases List.mem_cons.1 hj3 with rfl | hj4
  · exact ⟨b.2.2.1, Int.le_trans b.2.2.2 (by decide), fun x hx => by cases hx⟩
  · cases hj4

theorem get_form {d : List Ent} (ho : ∀ e ∈ d, EOk e) (hr : RightP d) : ∃ t, Tlv.getT (formE d) = some t ∧ GoodT t ∧ t.kd.map entOf = d := by
  obtain ⟨t, h1, h2⟩ := Tlv.form_rd 3 8 (entsT d) 65535 [] (entsT_num hr.places) (by omega) (entsT_right (fun e he => (ho e he).1) hr.1)
  rw [List.append_nil] at h1
  obtain ⟨g1, g2⟩ := good_same ho hr h2
  exact ⟨t, by rw [Tlv.getT, formE, h1]; simp, g1, g2⟩

theorem form_get {bs : List Int} {t : Tr 9} (hb : ∀ x ∈ bs, 0 ≤ x ∧ x ≤ 255) (h : Tlv.getT bs = some t) (hg : GoodT t) : formE (t.kd.map entOf) = bs := by
  rw [Tlv.getT] at h
  cases hq : Tlv.rd 8 bs with
  | none => rw [hq] at h; simp at h
  | some p =>
    obtain ⟨u, m⟩ := p
    rw [hq] at h
    simp only at h
    split at h
    · rename_i hm
      cases h
      have h1 := (Tlv.rd_form 8 bs t m hb hq).1
      have h2 := Tlv.sameT_form 9 t 3 _ hg.2.2
      rw [formE, ← h2, h1, hm, List.take_length]
    · cases h

/-- What Get answers. -/
def GAns (bs : List Int) (f : Int) (d : List Ent) : Prop :=
  (bs.length < 4 ∧ f = 3 ∧ d = []) ∨ (4 ≤ bs.length ∧ sealI (bs.take (bs.length - 4)) ≠ bs ∧ f = 4 ∧ d = []) ∨
  (4 ≤ bs.length ∧ sealI (bs.take (bs.length - 4)) = bs ∧ (∀ t, Tlv.getT (bs.take (bs.length - 4)) = some t → ¬ GoodT t) ∧ f = 3 ∧ d = []) ∨
  (4 ≤ bs.length ∧ sealI (bs.take (bs.length - 4)) = bs ∧ ∃ t, Tlv.getT (bs.take (bs.length - 4)) = some t ∧ GoodT t ∧ f = 0 ∧ d = t.kd.map entOf)

theorem sealI_take (xs : List Int) : (sealI xs).take ((sealI xs).length - 4) = xs := by
  rw [sealI_length, Nat.add_sub_cancel, sealI, List.take_left']
  rfl
theorem gans_back {d d' : List Ent} {f : Int} (ho : ∀ e ∈ d, EOk e) (hr : RightP d) (h : GAns (sealE d) f d') : f = 0 ∧ d' = d := by
  have hl : 4 ≤ (sealE d).length := by rw [sealE, sealI_length]; omega
  have ht : (sealE d).take ((sealE d).length - 4) = formE d := sealI_take _
  obtain ⟨t, g1, g2, g3⟩ := get_form ho hr
  rw [GAns, ht] at h
  rcases h with ⟨h1, _⟩ | ⟨_, h1, _⟩ | ⟨_, _, h1, _⟩ | ⟨_, _, u, h1, _, h3, h4⟩
  · omega
  · exact absurd rfl h1
  · exact absurd g2 (h1 t g1)
  · rw [g1] at h1
    cases h1
    exact ⟨h3, by rw [h4, g3]⟩
theorem gans_zero {bs : List Int} {d : List Ent} (hb : ∀ x ∈ bs, 0 ≤ x ∧ x ≤ 255) (h : GAns bs 0 d) : RightP d ∧ sealE d = bs := by
  rcases h with ⟨_, h1, _⟩ | ⟨_, _, h1, _⟩ | ⟨_, _, _, h1, _⟩ | ⟨_, h0, t, h1, h2, _, rfl⟩
  · cases h1
  · cases h1
  · cases h1
  · refine ⟨h2.2.1, ?_⟩
    rw [sealE, form_get (fun x hx => hb x (List.mem_of_mem_take hx)) h1 h2, h0]
theorem gans_none {bs : List Int} {f : Int} {d : List Ent} (h : GAns bs f d) (hf : f ≠ 0) : d = [] := by
  rcases h with ⟨_, _, h1⟩ | ⟨_, _, _, h1⟩ | ⟨_, _, _, _, h1⟩ | ⟨_, _, t, _, _, h1, _⟩
  · exact h1
  · exact h1
  · exact h1
  · exact absurd h1 hf
end Go.Proofs.YtampnikdmgojjaaGreat.Sg
end

section
/-
  The form that bytes begin with, cut out by its own head.
-/
namespace Go.Proofs.YtampnikdmgojjaaGreat
open Go.RowKit
open Tlv (Tr BySlS AgreeS Agree)
open Crc (hid Kept Tab)

theorem bySl_take {L B : Nat} {w : World} {a : Option Addr} {cap E : Nat} {xs : List Int} (h : Tlv.BySl L B w (.slice a xs.length cap) xs) (hE : E ≤ xs.length) : Tlv.BySl L B w (.slice a E cap) (xs.take E) := by
  obtain ⟨a', cap', e, h2, h3, h4, h5, h6, h7⟩ := h
  simp only [Value.slice.injEq, true_and] at e
  obtain ⟨rfl, rfl⟩ := e
  have hl : (xs.take E).length = E := by rw [List.length_take]; omega
  refine ⟨a, cap, by rw [hl], by rw [hl]; omega, h3, fun e => ⟨by rw [(h4 e).1]; simp, (h4 e).2⟩, by rw [hl]; omega, fun x hx => h6 x (List.mem_of_mem_take hx), fun hne => ?_⟩
  obtain ⟨b, o, e, hL, hB, hc⟩ := h7 (fun e => hne (by rw [e]; simp))
  refine ⟨b, o, e, hL, hB, fun i hi => ?_⟩
  rw [hl] at hi
  rw [hc i (by omega)]
  simp [List.getElem?_take_of_lt hi]

end Go.Proofs.YtampnikdmgojjaaGreat
end

section
/-
  The record whose value a tree is, as the program finds it.
-/
namespace Go.Proofs.YtampnikdmgojjaaGreat
open Go.RowKit
open Tlv (Tr BySlS AgreeS Agree)
open Crc (hid Kept Tab)

theorem step_copy {P : Program} {ops : Array Oper} {o : Oper} {a : Act} {K : Act → World → Prop} {Q : Exit → Act → World → Prop} {E : Prop} (w : World) (hgd : o.guard = none) (d s : Operand) (dT sT : TypeId)
    (ho : o.op = .call { callee := .builtin .copy, args := #[d, s], argTypes := #[dT, sT] }) (elem : TypeId) (hu : P.underlying dT = some (.slice elem)) (hsz : (P.info? elem).map (·.size) = some 1)
    (g off dLen dCap : Nat) (ad : Addr) (sLen sCap : Nat) (hd : a.eval d = .slice (some ⟨g, off, none⟩) dLen dCap) (hs : a.eval s = .slice (some ad) sLen sCap)
    (cs : List Value) (hn : cs.length = Nat.min sLen dLen)
    (hsrc : ∀ j v, cs[j]? = some v → w.cell? (ad.add j) = some v) (ht : w.there g off cs.length) (h1 : ∀ v ∈ cs, v.oneCell' = true)
    (h : K (a.put o.dst (goInt cs.length)) (w.setCells g off cs)) : if Region.wanted o (yielded ops a.tmps) = true then Oper.wp P o a w K Q else E := by
  have hw : Region.wanted o (yielded ops a.tmps) = true := by simp [Region.wanted, hgd]
  rw [if_pos hw]
  have hrun := run_copy_cells (P := P) w dT sT o.type elem g off dLen dCap ad sLen sCap cs hu hsz hn hsrc (fun j hj => (ht j hj).1) (fun j hj => (ht j hj).2) h1
  unfold Oper.wp
  simp [execOp, ho, resolve, invoke, builtin, hd, hs, hrun, Result.andThen]
  exact h

theorem yields_build2 {P : Program} {ops : Array Oper} {S : World → Prop} {o : Oper} {a : Act} (hw : Region.wanted o (yielded ops a.tmps) = true) (t : TypeId) (i j : Nat) (x y : Operand) (ho : o.op = .build t #[(i, x), (j, y)])
    (vx vy : Value) (hx : a.eval x = vx) (hy : a.eval y = vy) (C : Array Value) (hb : P.built t [(i, vx), (j, vy)] = some C) : YieldsIf P ops S o (.agg C) a :=
  .inl ⟨hw, fun w _ => by
    have e : P.built t ((#[(i, x), (j, y)] : Array (Nat × Operand)).map fun (i, x) => (i, a.eval x)).toList = some C := by
      rw [← hb]
      simp only [List.map_toArray, List.map_cons, List.map_nil, hx, hy]
    unfold execOp
    simp only [ho, Sem.run_bind, run_build w t _ C e, Result.andThen_ok]
    rfl⟩


/-- What lies at g: a record of kind k, of no name yet, with the body v. -/
def Half (w W : World) (k : Int) (nm : List Int) (v : Value) (g : Nat) : Prop := Below w.heap.size w W ∧ w.heap.size ≤ g ∧ g < W.heap.size ∧ W.rangeAt g 0 (recA k nm v) ∧ W.there g 0 34

theorem Half.drew {w W : World} {k : Int} {nm : List Int} {v : Value} {g : Nat} (h : Half w W k nm v g) : Half w W.drew k nm v g := by
  obtain ⟨h1, h2, h3, h4, h5⟩ := h
  exact ⟨h1.drew, h2, h3, by rwa [World.rangeAt_drew], by rwa [World.there_drew]⟩

theorem app_right {A A0 T : List Value} {i : Nat} (h : A.length = A0.length) (hi : A.length ≤ i) : (A ++ T)[i]? = (A0 ++ T)[i]? := by
  rw [List.getElem?_append_right hi, List.getElem?_append_right (by omega), h]

theorem Half.named {w W : World} {k : Int} {bn : List Int} {v : Value} {g : Nat} (h : Half w W k (List.replicate 32 0) v g) (ht : W.there g 1 (u8s (bn.take 32)).length) : Half w (W.setCells g 1 (u8s (bn.take 32))) k (pad32 bn) v g := by
  obtain ⟨h1, h2, h3, h4, h5⟩ := h
  refine ⟨h1.trans (setCells_below h2 _ _ _), h2, by rw [setCells_size]; exact h3, fun j u hj => ?_, World.there_setCells h5 _ _ _⟩
  have hl : (u8s (bn.take 32)).length = (bn.take 32).length := u8s_length _
  have hl2 : (bn.take 32).length ≤ 32 := by rw [List.length_take]; omega
  have key : j = 0 ∨ (1 ≤ j ∧ j < 1 + (bn.take 32).length) ∨ 1 + (bn.take 32).length ≤ j := by omega
  rcases key with rfl | ⟨j1, j2⟩ | j3
  · rw [Nat.zero_add, World.cell?_setCells_out g _ 1 W ⟨g, 0, none⟩ (fun _ _ => .inl (by simp))]
    exact h4 0 u hj
  · obtain ⟨i, rfl⟩ : ∃ i, j = 1 + i := ⟨j - 1, by omega⟩
    have hi : i < (u8s (bn.take 32)).length := by omega
    rw [Nat.zero_add, World.cell?_setCells_in g _ 1 W (fun i hi => (ht i hi).1) i hi, ← hj, recA, Nat.add_comm, List.getElem?_cons_succ, show u8s (pad32 bn) = u8s (bn.take 32) ++ u8s (List.replicate (32 - bn.length) 0) by simp [pad32, u8s], List.append_assoc, List.getElem?_append_left hi]
    exact (List.getElem?_eq_getElem hi).symm
  · rw [Nat.zero_add, World.cell?_setCells_out g _ 1 W ⟨g, j, none⟩ (fun _ _ => .inr (by show 1 + _ ≤ j; omega))]
    have h6 := h4 j u (by
      rw [← hj]
      obtain ⟨i, rfl⟩ : ∃ i, j = i + 1 := ⟨j - 1, by omega⟩
      rw [recA, recA, List.getElem?_cons_succ, List.getElem?_cons_succ]
      have e1 : u8s (pad32 bn) = u8s (bn.take 32) ++ u8s (List.replicate (32 - bn.length) 0) := by simp [pad32, u8s]
      have e2 : u8s (List.replicate 32 0) = u8s (List.replicate (bn.take 32).length 0) ++ u8s (List.replicate (32 - bn.length) 0) := by
        simp only [u8s, List.map_replicate, List.replicate_append_replicate]
        congr 1
        rw [List.length_take]
        omega
      rw [e1, e2, List.append_assoc, List.append_assoc]
      exact app_right (by rw [u8s_length, u8s_length]; simp) (by rw [u8s_length, List.length_replicate]; omega))
    rw [Nat.zero_add] at h6
    exact h6

end Go.Proofs.YtampnikdmgojjaaGreat
end
