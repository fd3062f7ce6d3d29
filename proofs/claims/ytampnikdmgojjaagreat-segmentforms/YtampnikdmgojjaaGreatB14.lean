/- Of the proof: the texts SgSame, SgWhere, SgBack, SgNil, SgAlive, SgBackM, SgRGetM, SgRSortM, SgLess, one behind the other. -/
import Derived.Test.YtampnikdmgojjaaGreatB5
import Derived.Deep.DeepCutAuto
import Derived.Test.YtampnikdmgojjaaGreatB12
import Derived.Test.YtampnikdmgojjaaGreatB9
import Derived.Test.YtampnikdmgojjaaGreatB13
import Derived.Test.YtampnikdmgojjaaGreatB2
import Derived.BigQuiet
section
/-
  Two lists of the document's entries: are they the same?
-/
namespace Go.Proofs.YtampnikdmgojjaaGreat.Sg
open Go.RowKit
open Sim (hid Kp No)

theorem eqHashAt (D : Nat) (xs ys : List Int) (hx : xs.length = 32) (hy : ys.length = 32) (bx : ∀ x ∈ xs, 0 ≤ x ∧ x ≤ 255) (bY : ∀ x ∈ ys, 0 ≤ x ∧ x ≤ 255) (w : World) :
    (Op.equalIn (D + 2) 46 (.agg (b8 xs).toArray) (.agg (b8 ys).toArray)).run Tryz.prog w = .ok (decide (xs = ys)) w := by
  have h := run_equalIn_bytes (P := Tryz.prog) w D 46 5 32 Tryz.underlying46 Tryz.underlying5 Tryz.sizeOf5 (xs.map fun x => x.toNat.toUInt8) (ys.map fun x => x.toNat.toUInt8) (by simpa using hx) (by simpa using hy)
  rw [cells_b8 xs bx, cells_b8 ys bY] at h
  have e : ((xs.map fun x => x.toNat.toUInt8) == (ys.map fun x => x.toNat.toUInt8)) = decide (xs = ys) := by
    rw [Bool.eq_iff_iff]
    simp only [beq_iff_eq, decide_eq_true_eq]
    exact ⟨map_inj8 xs ys bx bY, fun e => by rw [e]⟩
  rw [e] at h
  exact h
theorem ent_take {x : Ent} (hx : EOk x) : (entC x).take 32 = b8 x.1 := by
  unfold entC
  rw [List.take_append_of_le_length (by rw [b8_length, hx.1]; omega), List.take_of_length_le (by rw [b8_length, hx.1]; omega)]
theorem ent_at {x : Ent} (hx : EOk x) (j : Nat) : (entC x)[32 + j]? = [Value.int .i64 x.2.1, .int .i64 x.2.2.1, .int .i64 x.2.2.2][j]? := by
  unfold entC
  rw [List.getElem?_append_right (by rw [b8_length, hx.1]; omega), b8_length, hx.1, Nat.add_sub_cancel_left]
theorem eqEnt {x y : Ent} (hx : EOk x) (hy : EOk y) (w : World) : (Op.equalIn 10000 91 (.agg (entC x).toArray) (.agg (entC y).toArray)).run Tryz.prog w = .ok (decide (x = y)) w := by
  have p1 := ent_take hx
  have p2 := ent_take hy
  have c0 : (entC x)[32]? = some (.int .i64 x.2.1) := ent_at hx 0
  have c1 : (entC x)[33]? = some (.int .i64 x.2.2.1) := ent_at hx 1
  have c2 : (entC x)[34]? = some (.int .i64 x.2.2.2) := ent_at hx 2
  have d0 : (entC y)[32]? = some (.int .i64 y.2.1) := ent_at hy 0
  have d1 : (entC y)[33]? = some (.int .i64 y.2.2.1) := ent_at hy 1
  have d2 : (entC y)[34]? = some (.int .i64 y.2.2.2) := ent_at hy 2
  have q1 : (Op.equalIn 9999 46 (.agg (b8 x.1).toArray) (.agg (b8 y.1).toArray)).run Tryz.prog w = .ok (decide (x.1 = y.1)) w := eqHashAt 9997 x.1 y.1 hx.1 hy.1 hx.2 hy.2 w
  generalize entC x = X at *
  generalize entC y = Y at *
  generalize b8 x.1 = bx at *
  generalize b8 y.1 = bY at *
  rw [show (10000 : Nat) = 9999 + 1 from rfl, Op.equalIn]
  go_simp
  clear hx hy c0 c1 c2 d0 d1 d2 q1 p1 p2
  obtain ⟨nm, p, q, r⟩ := x
  obtain ⟨nm', p', q', r'⟩ := y
  simp only [Prod.mk.injEq]
  by_cases e0 : nm = nm' <;> by_cases e1 : p = p' <;> by_cases e2 : q = q' <;> by_cases e3 : r = r' <;> simp [e0, e1, e2, e3]

theorem ev_row {P : Nat → Prop} {w : World} {a : Option Addr} {n c : Nat} {d : List Ent} (h : EV P w (.slice a n c) d) (hd : d ≠ []) : ∃ g o, a = some ⟨g, o, none⟩ ∧ P g ∧ ERow w g o d := by
  obtain ⟨a', c', e, _, _, _, _, h6⟩ := h
  simp only [Value.slice.injEq] at e
  rw [e.1]
  exact h6 hd

set_option maxHeartbeats 2000000 in
set_option maxRecDepth 100000 in
theorem same_any (w : World) (v v' : Value) (a b : List Ent) (P P' : Nat → Prop) (hv : EV P w v a) (hv' : EV P' w v' b) (hl : a.length ≤ 1000000) :
    Calls Tryz.prog 14 #[v, v'] w fun e w' => e = .returned (.bool (decide (a = b))) ∧ Kp No w w' := by
  have HV := hid hv
  have HV' := hid hv'
  obtain ⟨x1, c1, e1, _⟩ := hv
  obtain ⟨x2, c2, e2, _⟩ := hv'
  subst e1
  subst e2
  obtain ⟨n, hn⟩ : ∃ n, a.length = n := ⟨_, rfl⟩
  obtain ⟨m, hm⟩ : ∃ m, b.length = m := ⟨_, rfl⟩
  have HN := hid hn
  have HM := hid hm
  rw [hn] at HV hl ⊢
  rw [hm] at HV' ⊢
  clear hn hm
  obtain ⟨z, hz⟩ : ∃ z, decide (a = b) = z := ⟨_, rfl⟩
  rw [hz]
  have HZ := hid hz
  clear hz
  by_cases hnm : n = m
  · subst hnm
    go_enter Tryz.func14, Tryz.ntmps14
    go_wp2_with fail
    go_loopw [5] (fun v5 wr => ∃ (k : Nat), v5 = .int .i64 (k : Int) ∧ k ≤ n ∧ Hid (a.take k = b.take k) ∧ Hid (Kp No w wr)) (fun v5 _ => n - (intOf v5).toNat)
    case atStart => exact ⟨0, rfl, Nat.zero_le _, rfl, Kp.refl _ _⟩
    case round =>
      obtain ⟨k, rfl, hkn, HS, HK⟩ := hrel
      by_cases hlt : k < n
      · have hltI : (k : Int) < (n : Int) := by omega
        have hwk : IntKind.i64.wrap ((k : Int) + 1) = ((k + 1 : Nat) : Int) := by rw [IntKind.wrap_i64]; omega
        obtain ⟨x, hx⟩ : ∃ x, a[k]? = some x := ⟨_, List.getElem?_eq_getElem (by rw [HN.out]; exact hlt)⟩
        obtain ⟨y, hy⟩ : ∃ y, b[k]? = some y := ⟨_, List.getElem?_eq_getElem (by rw [HM.out]; exact hlt)⟩
        obtain ⟨g, o, rfl, _, hr⟩ := ev_row (HV.out.kept HK.out) (by intro e; have := HN.out; rw [e] at this; simp at this; omega)
        obtain ⟨g', o', rfl, _, hr'⟩ := ev_row (HV'.out.kept HK.out) (by intro e; have := HM.out; rw [e] at this; simp at this; omega)
        obtain ⟨hxo, hxr⟩ := hr.2 k x hx
        obtain ⟨hyo, hyr⟩ := hr'.2 k y hy
        have HQ := hid (fun W => eqEnt hxo hyo W)
        have hq := HQ.out
        have HX := hid hxr
        have HY := hid hyr
        have HI1 : Hid ((Tryz.prog.info? 91).map (·.size) = some (entC x).length) := by rw [Hid, entC_length hxo]; kernel_rfl
        have HI2 : Hid ((Tryz.prog.info? 91).map (·.size) = some (entC y).length) := by rw [Hid, entC_length hyo]; kernel_rfl
        have HGW := hid hr.1
        have HGW' := hid hr'.1
        have HGX := hid hx
        have HGY := hid hy
        clear hr hr' hxo hyo hxr hyr hx hy HQ
        obtain ⟨zz, hzz⟩ : ∃ zz, decide (x = y) = zz := ⟨_, rfl⟩
        rw [hzz] at hq
        have HZZ := hid hzz
        clear hzz
        generalize entC x = X at *
        generalize entC y = Y at *
        have HLX : Hid (∀ V, Kp No wr V → V.rangeAt g (o + k * 35) X) := fun V hV j u hj => (hV.cell (p := ⟨g, _, none⟩) HGW.out (fun x => x)).trans (HX.out j u hj)
        have HLY : Hid (∀ V, Kp No wr V → V.rangeAt g' (o' + k * 35) Y) := fun V hV j u hj => (hV.cell (p := ⟨g', _, none⟩) HGW'.out (fun x => x)).trans (HY.out j u hj)
        cases zz with
        | true =>
          have HN2 : Hid (a.take (k + 1) = b.take (k + 1)) := by
            rw [Hid, List.take_add_one, List.take_add_one, HS.out, HGX.out, HGY.out, of_decide_eq_true HZZ.out]
          go_wp2_with fail
          refine wp_region_held_drew (S := fun V => Kp No wr V) (by kernel_rfl) ((Kp.refl _ _).drew) (fun hHeld => ?_)
          refine wpAnyH_take (i := 0) (oi := { dst := some 17, op := Op.move (Operand.tmp 0), type := 22, pos := "ref.go:148", after := #[], guard := none }) (v := .slice (some ⟨g, o, none⟩) n c1) rfl (by kernel_rfl) (by kernel_rfl) (by kernel_rfl) (fun _ _ _ h => h) (Or.inl ⟨by rfl, fun w' hw' => by (clear hw'; go_simp)⟩) hHeld ?_
          simp only [Act.put, List.setIfInBounds_toArray, List.set_cons_zero, List.set_cons_succ]
          refine wpAnyH_take (i := 1) (oi := { dst := some 18, op := Op.move (Operand.tmp 5), type := 3, pos := "ref.go:148", after := #[], guard := none }) (v := .int .i64 (k : Int)) rfl (by kernel_rfl) (by kernel_rfl) (by kernel_rfl) (fun _ _ _ h => h) (Or.inl ⟨by rfl, fun w' hw' => by (clear hw'; go_simp)⟩) hHeld ?_
          simp only [Act.put, List.setIfInBounds_toArray, List.set_cons_zero, List.set_cons_succ]
          refine wpAnyH_take (i := 2) (oi := { dst := some 19, op := Op.indexAddr 22 (Operand.tmp 17) (Operand.tmp 18), type := 0, pos := "ref.go:148", after := #[{ on := 0, ground := Ground.data }, { on := 1, ground := Ground.data }], guard := none }) (v := .pointer (some ⟨g, o + k * 35, none⟩)) rfl (by kernel_rfl) (by kernel_rfl) (by kernel_rfl) (fun _ _ _ h => h) (Or.inl ⟨by rfl, fun w' hw' => by (clear hw'; go_simp)⟩) hHeld ?_
          simp only [Act.put, List.setIfInBounds_toArray, List.set_cons_zero, List.set_cons_succ]
          refine wpAnyH_take (i := 3) (oi := { dst := some 20, op := Op.load 91 (Operand.tmp 19), type := 91, pos := "ref.go:148", after := #[{ on := 2, ground := Ground.data }], guard := none }) (v := .agg X.toArray) rfl (by kernel_rfl) (by kernel_rfl) (by kernel_rfl) (fun _ _ _ h => h) (yieldsIf_load_mid (by rfl) _ _ rfl g (o + k * 35) rfl X _ (HLX.out) Tryz.underlying91 rfl HI1.out) hHeld ?_
          simp only [Act.put, List.setIfInBounds_toArray, List.set_cons_zero, List.set_cons_succ]
          refine wpAnyH_take (i := 4) (oi := { dst := some 21, op := Op.move (Operand.tmp 1), type := 22, pos := "ref.go:148", after := #[], guard := none }) (v := .slice (some ⟨g', o', none⟩) n c2) rfl (by kernel_rfl) (by kernel_rfl) (by kernel_rfl) (fun _ _ _ h => h) (Or.inl ⟨by rfl, fun w' hw' => by (clear hw'; go_simp)⟩) hHeld ?_
          simp only [Act.put, List.setIfInBounds_toArray, List.set_cons_zero, List.set_cons_succ]
          refine wpAnyH_take (i := 5) (oi := { dst := some 22, op := Op.move (Operand.tmp 5), type := 3, pos := "ref.go:148", after := #[], guard := none }) (v := .int .i64 (k : Int)) rfl (by kernel_rfl) (by kernel_rfl) (by kernel_rfl) (fun _ _ _ h => h) (Or.inl ⟨by rfl, fun w' hw' => by (clear hw'; go_simp)⟩) hHeld ?_
          simp only [Act.put, List.setIfInBounds_toArray, List.set_cons_zero, List.set_cons_succ]
          refine wpAnyH_take (i := 6) (oi := { dst := some 23, op := Op.indexAddr 22 (Operand.tmp 21) (Operand.tmp 22), type := 0, pos := "ref.go:148", after := #[{ on := 4, ground := Ground.data }, { on := 5, ground := Ground.data }], guard := none }) (v := .pointer (some ⟨g', o' + k * 35, none⟩)) rfl (by kernel_rfl) (by kernel_rfl) (by kernel_rfl) (fun _ _ _ h => h) (Or.inl ⟨by rfl, fun w' hw' => by (clear hw'; go_simp)⟩) hHeld ?_
          simp only [Act.put, List.setIfInBounds_toArray, List.set_cons_zero, List.set_cons_succ]
          refine wpAnyH_take (i := 7) (oi := { dst := some 24, op := Op.load 91 (Operand.tmp 23), type := 91, pos := "ref.go:148", after := #[{ on := 6, ground := Ground.data }], guard := none }) (v := .agg Y.toArray) rfl (by kernel_rfl) (by kernel_rfl) (by kernel_rfl) (fun _ _ _ h => h) (yieldsIf_load_mid (by rfl) _ _ rfl g' (o' + k * 35) rfl Y _ (HLY.out) Tryz.underlying91 rfl HI2.out) hHeld ?_
          simp only [Act.put, List.setIfInBounds_toArray, List.set_cons_zero, List.set_cons_succ]
          refine wpAnyH_take (i := 8) (oi := { dst := some 25, op := Op.binOp BinOp.neq 91 (Operand.tmp 20) (Operand.tmp 24) 91, type := 4, pos := "ref.go:148", after := #[{ on := 3, ground := Ground.data }, { on := 7, ground := Ground.data }], guard := none }) (v := .bool false) rfl (by kernel_rfl) (by kernel_rfl) (by kernel_rfl) (fun _ _ _ h => h) (Or.inl ⟨by rfl, fun w' hw' => by (clear hw'; go_simp)⟩) hHeld ?_
          simp only [Act.put, List.setIfInBounds_toArray, List.set_cons_zero, List.set_cons_succ]
          refine wpAnyH_done (by kernel_rfl) ?_ _
          clear hHeld
          go_wp2_with fail
          go_round
          case rel => exact ⟨k + 1, by first | rfl | go_num, by omega, HN2.out, HK.out.drew⟩
          case measure => simp [intOf]; omega
        | false =>
          have HNO : Hid (z = false) := by
            rw [Hid, ← HZ.out, decide_eq_false_iff_not]
            intro e
            have h1 := HGX.out
            rw [e, HGY.out] at h1
            cases h1
            have h2 := HZZ.out
            simp at h2
          go_wp2_with fail
          refine wp_region_held_drew (S := fun V => Kp No wr V) (by kernel_rfl) ((Kp.refl _ _).drew) (fun hHeld => ?_)
          refine wpAnyH_take (i := 0) (oi := { dst := some 17, op := Op.move (Operand.tmp 0), type := 22, pos := "ref.go:148", after := #[], guard := none }) (v := .slice (some ⟨g, o, none⟩) n c1) rfl (by kernel_rfl) (by kernel_rfl) (by kernel_rfl) (fun _ _ _ h => h) (Or.inl ⟨by rfl, fun w' hw' => by (clear hw'; go_simp)⟩) hHeld ?_
          simp only [Act.put, List.setIfInBounds_toArray, List.set_cons_zero, List.set_cons_succ]
          refine wpAnyH_take (i := 1) (oi := { dst := some 18, op := Op.move (Operand.tmp 5), type := 3, pos := "ref.go:148", after := #[], guard := none }) (v := .int .i64 (k : Int)) rfl (by kernel_rfl) (by kernel_rfl) (by kernel_rfl) (fun _ _ _ h => h) (Or.inl ⟨by rfl, fun w' hw' => by (clear hw'; go_simp)⟩) hHeld ?_
          simp only [Act.put, List.setIfInBounds_toArray, List.set_cons_zero, List.set_cons_succ]
          refine wpAnyH_take (i := 2) (oi := { dst := some 19, op := Op.indexAddr 22 (Operand.tmp 17) (Operand.tmp 18), type := 0, pos := "ref.go:148", after := #[{ on := 0, ground := Ground.data }, { on := 1, ground := Ground.data }], guard := none }) (v := .pointer (some ⟨g, o + k * 35, none⟩)) rfl (by kernel_rfl) (by kernel_rfl) (by kernel_rfl) (fun _ _ _ h => h) (Or.inl ⟨by rfl, fun w' hw' => by (clear hw'; go_simp)⟩) hHeld ?_
          simp only [Act.put, List.setIfInBounds_toArray, List.set_cons_zero, List.set_cons_succ]
          refine wpAnyH_take (i := 3) (oi := { dst := some 20, op := Op.load 91 (Operand.tmp 19), type := 91, pos := "ref.go:148", after := #[{ on := 2, ground := Ground.data }], guard := none }) (v := .agg X.toArray) rfl (by kernel_rfl) (by kernel_rfl) (by kernel_rfl) (fun _ _ _ h => h) (yieldsIf_load_mid (by rfl) _ _ rfl g (o + k * 35) rfl X _ (HLX.out) Tryz.underlying91 rfl HI1.out) hHeld ?_
          simp only [Act.put, List.setIfInBounds_toArray, List.set_cons_zero, List.set_cons_succ]
          refine wpAnyH_take (i := 4) (oi := { dst := some 21, op := Op.move (Operand.tmp 1), type := 22, pos := "ref.go:148", after := #[], guard := none }) (v := .slice (some ⟨g', o', none⟩) n c2) rfl (by kernel_rfl) (by kernel_rfl) (by kernel_rfl) (fun _ _ _ h => h) (Or.inl ⟨by rfl, fun w' hw' => by (clear hw'; go_simp)⟩) hHeld ?_
          simp only [Act.put, List.setIfInBounds_toArray, List.set_cons_zero, List.set_cons_succ]
          refine wpAnyH_take (i := 5) (oi := { dst := some 22, op := Op.move (Operand.tmp 5), type := 3, pos := "ref.go:148", after := #[], guard := none }) (v := .int .i64 (k : Int)) rfl (by kernel_rfl) (by kernel_rfl) (by kernel_rfl) (fun _ _ _ h => h) (Or.inl ⟨by rfl, fun w' hw' => by (clear hw'; go_simp)⟩) hHeld ?_
          simp only [Act.put, List.setIfInBounds_toArray, List.set_cons_zero, List.set_cons_succ]
          refine wpAnyH_take (i := 6) (oi := { dst := some 23, op := Op.indexAddr 22 (Operand.tmp 21) (Operand.tmp 22), type := 0, pos := "ref.go:148", after := #[{ on := 4, ground := Ground.data }, { on := 5, ground := Ground.data }], guard := none }) (v := .pointer (some ⟨g', o' + k * 35, none⟩)) rfl (by kernel_rfl) (by kernel_rfl) (by kernel_rfl) (fun _ _ _ h => h) (Or.inl ⟨by rfl, fun w' hw' => by (clear hw'; go_simp)⟩) hHeld ?_
          simp only [Act.put, List.setIfInBounds_toArray, List.set_cons_zero, List.set_cons_succ]
          refine wpAnyH_take (i := 7) (oi := { dst := some 24, op := Op.load 91 (Operand.tmp 23), type := 91, pos := "ref.go:148", after := #[{ on := 6, ground := Ground.data }], guard := none }) (v := .agg Y.toArray) rfl (by kernel_rfl) (by kernel_rfl) (by kernel_rfl) (fun _ _ _ h => h) (yieldsIf_load_mid (by rfl) _ _ rfl g' (o' + k * 35) rfl Y _ (HLY.out) Tryz.underlying91 rfl HI2.out) hHeld ?_
          simp only [Act.put, List.setIfInBounds_toArray, List.set_cons_zero, List.set_cons_succ]
          refine wpAnyH_take (i := 8) (oi := { dst := some 25, op := Op.binOp BinOp.neq 91 (Operand.tmp 20) (Operand.tmp 24) 91, type := 4, pos := "ref.go:148", after := #[{ on := 3, ground := Ground.data }, { on := 7, ground := Ground.data }], guard := none }) (v := .bool true) rfl (by kernel_rfl) (by kernel_rfl) (by kernel_rfl) (fun _ _ _ h => h) (Or.inl ⟨by rfl, fun w' hw' => by (clear hw'; go_simp)⟩) hHeld ?_
          simp only [Act.put, List.setIfInBounds_toArray, List.set_cons_zero, List.set_cons_succ]
          refine wpAnyH_done (by kernel_rfl) ?_ _
          clear hHeld
          go_wp2_with fail
          go_ret
          exact ⟨by rw [HNO.out]; rfl, HK.out.drew⟩
      · have hltI : ¬ (k : Int) < (n : Int) := by omega
        have HYE : Hid (z = true) := by
          rw [Hid, ← HZ.out, decide_eq_true_eq]
          have h := HS.out
          rwa [List.take_of_length_le (by rw [HN.out]; omega), List.take_of_length_le (by rw [HM.out]; omega)] at h
        go_wp2_with fail
        go_ret
        exact ⟨by rw [HYE.out]; rfl, HK.out⟩
  · have hne : ((n : Int) != (m : Int)) = true := by simp; omega
    have HNO : Hid (z = false) := by
      rw [Hid, ← HZ.out, decide_eq_false_iff_not]
      intro e
      exact hnm (by rw [← HN.out, ← HM.out, e])
    go_enter Tryz.func14, Tryz.ntmps14
    go_wp2_with fail
    go_ret
    exact ⟨by rw [HNO.out]; rfl, Kp.refl _ _⟩
end Go.Proofs.YtampnikdmgojjaaGreat.Sg
end

section
/-
  Where of the tenth law: a place of the program's type as the document's.
-/
namespace Go.Proofs.YtampnikdmgojjaaGreat.Sg
open Go.RowKit
open Sim (hid Kp No)

set_option maxHeartbeats 1000000 in
set_option maxRecDepth 100000 in
theorem where_any (p q r : Int) (w : World) :
    Calls Tryz.prog 21 #[.agg #[.int .i64 p, .int .i64 q, .int .i64 r]] w fun e w' => e = .returned (.agg #[.int .i64 p, .int .i64 q, .int .i64 r]) ∧ Kp No w w' := by
  go_enter Tryz.func21, Tryz.ntmps21
  go_wp2
  refine bodyPost_ret (v := .agg #[.int .i64 p, .int .i64 q, .int .i64 r]) (by simp [results, Tryz.results21, go_sem]) rfl ⟨rfl, ?_⟩
  exact ((Kp.refl No w).alloc _).alloc _
end Go.Proofs.YtampnikdmgojjaaGreat.Sg
end

section
/-
  Back of the tenth law: entries of the program's type as the document's.
-/
namespace Go.Proofs.YtampnikdmgojjaaGreat.Sg
open Go.RowKit
open Stb (Stab Srt Mrg)
open Sim (hid Kp No)

theorem infoR : (Tryz.prog.info? 91).map (fun i => (i.zero, i.size, i.bytes)) = some (some (.agg zE.toArray), 35, 56) := by kernel_rfl
theorem builtR (nm : List Int) (p q r : Int) (h : nm.length = 32) : Tryz.prog.built 91 [(0, .agg (b8 nm).toArray), (1, .agg #[.int .i64 p, .int .i64 q, .int .i64 r])] = some (entC (nm, p, q, r)).toArray := by
  obtain ⟨x0, x1, x2, x3, x4, x5, x6, x7, x8, x9, x10, x11, x12, x13, x14, x15, x16, x17, x18, x19, x20, x21, x22, x23, x24, x25, x26, x27, x28, x29, x30, x31, rfl⟩ := x32 h
  kernel_rfl
theorem run_oneR (nm : List Int) (p q r : Int) (h : nm.length = 32) (w : World) : (Instr.buildSlice 22 1 #[(0, .agg (entC (nm, p, q, r)).toArray)]).run Tryz.prog w = .ok (.slice (some ⟨w.heap.size, 0, none⟩) 1 1) (w.alloc (.cells (entC (nm, p, q, r)).toArray 91)) := by
  obtain ⟨x0, x1, x2, x3, x4, x5, x6, x7, x8, x9, x10, x11, x12, x13, x14, x15, x16, x17, x18, x19, x20, x21, x22, x23, x24, x25, x26, x27, x28, x29, x30, x31, rfl⟩ := x32 h
  kernel_rfl
theorem own_rowT {ty : TypeId} {w : World} {g n cap : Nat} {d : List Ent} (h : Sim.Row w ty 35 (.slice (some ⟨g, 0, none⟩) n cap) n (ents d)) (hn : d.length = n) (hd : ∀ e ∈ d, EOk e) : EOwn w g 0 d := by
  have hg : g < w.heap.size := h.lt g rfl
  refine ⟨⟨hg, fun i e hi => ⟨hd e (List.mem_of_getElem? hi), fun j u hj => ?_⟩⟩, fun i hi j hj => ?_⟩
  · have hil := (List.getElem?_eq_some_iff.1 hi).1
    have hjl := (List.getElem?_eq_some_iff.1 hj).1
    rw [entC_length (hd e (List.mem_of_getElem? hi))] at hjl
    rw [Nat.zero_add, h.cellAt (i * 35 + j) (by omega), ents_at d hd i j e hi hjl]
    exact hj
  · have hx : ∃ u, (ents d)[i * 35 + j]? = some u := ⟨_, List.getElem?_eq_getElem (by rw [ents_length d hd]; omega)⟩
    obtain ⟨u, hu⟩ := hx
    rw [Nat.zero_add, h.cellAt (i * 35 + j) (by omega), hu]
    exact ⟨rfl, World.ownsRow.frozenAt h _⟩
theorem ev_of_rowT {ty : TypeId} {w : World} {v : Value} {d : List Ent} {P : Nat → Prop} (h : Sim.Row w ty 35 v d.length (ents d)) (hd : ∀ e ∈ d, EOk e) (hP : ∀ x, v.ownBlock = some x → P x) : EV P w v d := by
  obtain ⟨a, cap, rfl, h2, h3, h4, h5⟩ := h.shape
  refine ⟨a, cap, rfl, h2, h3, fun e => ⟨List.length_eq_zero_iff.1 (h4 e).1, (h4 e).2⟩, hd, fun hne => ?_⟩
  cases a with
  | none => exact absurd (List.length_eq_zero_iff.1 (h4 rfl).1) hne
  | some x =>
    obtain ⟨g, o, sp⟩ := x
    obtain ⟨e1, e2⟩ := h5 _ rfl
    cases e1
    cases e2
    exact ⟨g, 0, rfl, hP g rfl, (own_rowT h rfl hd).1⟩

/-- A row of the document's entries, of the call's own, that began at u. -/
def MineR (u w : World) (v : Value) (d : List Ent) : Prop := Sim.Row w 91 35 v d.length (ents d) ∧ (∀ x, v.ownBlock = some x → u.heap.size ≤ x) ∧ Kp No u w
theorem MineR.nil (w : World) : MineR w w (.slice none 0 0) [] := ⟨Sim.Row.nil _ _ _, by intro x hx; simp [Value.ownBlock] at hx, Kp.refl _ _⟩
theorem app_runR (w : World) (ty : TypeId) (v vx : Value) (n m : Nat) (xs ys : List Value) (hown : Sim.Row w 91 35 v n xs) (hy : Sim.Src w vx m 35 ys) (hm : 0 < m) (hlen : n + m ≤ 2000000) :
    ∃ ad cap w', (Builtin.append_ #[22, 22] ty #[v, vx]).run Tryz.prog w = .ok (.slice ad (n + m) cap) w' ∧ Sim.Row w' 91 35 (.slice ad (n + m) cap) (n + m) (xs ++ ys) ∧ w.grownBy w' v.ownBlock ∧ ((Value.slice ad (n + m) cap).ownBlock = v.ownBlock ∨ (Value.slice ad (n + m) cap).ownBlock = some w.heap.size) := by
  obtain ⟨i0, hi, hz0, hz1', hz2⟩ := info_parts infoR
  rcases hy with ⟨rfl, rfl, rfl⟩ | ⟨ad, c, rfl, hl, hc, h1⟩
  · omega
  · obtain ⟨v', w', hr, h8, h9, _, h10⟩ := run_append_own_at (P := Tryz.prog) w 0 22 ty 91 i0 (.agg zE.toArray) 35 56 Tryz.underlying22 hi hz0 hz1' hz2 rfl (by omega) v n xs hown ad m c ys hl hc h1 (by unfold maxLen; omega) (by omega) (Nat.zero_le _)
    have h8' : Sim.Row w' 91 35 v' (n + m) (xs ++ ys) := h8
    obtain ⟨ad', cap', rfl, _⟩ := h8'.shape
    exact ⟨ad', cap', w', hr, h8, h9, h10⟩

/-- One more of the document's entries behind those that there are. -/
theorem next_R {w wr W1 : World} {ad : Option Addr} {k cap : Nat} {xs : List Ent} {e : Ent} (hM : MineR w wr (.slice ad k cap) xs) (hxk : xs.length = k) (hW : Kp No wr W1) (heo : EOk e) (hk : k ≤ 1000000) (ty : TypeId) :
    ∃ ad2 cap2 w2, (Builtin.append_ #[22, 22] ty #[.slice ad k cap, .slice (some ⟨W1.heap.size, 0, none⟩) 1 1]).run Tryz.prog (W1.alloc (.cells (entC e).toArray 91)) = .ok (.slice ad2 (k + 1) cap2) w2 ∧
      Kp (fun x => (Value.slice ad k cap).ownBlock = some x) wr w2 ∧ MineR w w2 (.slice ad2 (k + 1) cap2) (xs ++ [e]) := by
  have hRA : Sim.Row (W1.alloc (.cells (entC e).toArray 91)) 91 35 (.slice ad k cap) k (ents xs) := by
    have := hM.1
    rw [hxk] at this
    exact this.kept (hW.alloc _)
  have hSC : Sim.Src (W1.alloc (.cells (entC e).toArray 91)) (.slice (some ⟨W1.heap.size, 0, none⟩) 1 1) 1 35 (entC e) := Sim.Src.one W1 (entC e) 35 91 (entC_length heo) (entC_one _)
  obtain ⟨ad2, cap2, w2, hap, hrow2, hgr2, hown2⟩ := app_runR _ ty (.slice ad k cap) (.slice (some ⟨W1.heap.size, 0, none⟩) 1 1) k 1 _ _ hRA hSC (by omega) (by omega)
  have HKA : Kp (fun x => (Value.slice ad k cap).ownBlock = some x) wr (W1.alloc (.cells (entC e).toArray 91)) := (hW.ofNo).alloc _
  have HK2 : Kp (fun x => (Value.slice ad k cap).ownBlock = some x) wr w2 := HKA.grown hgr2 (fun x hx => .inl hx)
  refine ⟨ad2, cap2, w2, hap, HK2, ?_, fun x hx => ?_, hM.2.2.trans HK2 (fun x hx => .inr (hM.2.1 x hx))⟩
  · rw [List.length_append, hxk, ents_append]
    have : ents [e] = entC e := by simp [ents]
    rw [this]
    exact hrow2
  · rcases hown2 with e1 | e1
    · exact hM.2.1 x (by rw [← e1]; exact hx)
    · rw [e1] at hx
      cases hx
      exact Nat.le_trans hM.2.2.size HKA.size

set_option maxHeartbeats 4000000 in
set_option maxRecDepth 100000 in
theorem back_any (w : World) (v : Value) (d : List Ent) (P : Nat → Prop) (hv : EV P w v d) (hl : d.length ≤ 1000000) :
    Calls Tryz.prog 15 #[v] w fun e w' => ∃ r, e = .returned r ∧ MineR w w' r d := by
  obtain ⟨a, c, rfl, h2, h3, h4, h5, h6⟩ := hv
  obtain ⟨n, hn⟩ : ∃ n, d.length = n := ⟨_, rfl⟩
  have HN := hid hn
  rw [hn] at hl ⊢
  have H6 := hid h6
  have HM0 : Hid (MineR w w (.slice none 0 0) (d.take 0)) := MineR.nil w
  clear hn h2 h3 h4 h5 h6
  go_enter Tryz.func15, Tryz.ntmps15
  go_wp2_with fail
  go_loopw [3, 4] (fun v3 v4 wr => ∃ (k : Nat) (ad : Option Addr) (cap : Nat), v3 = .slice ad k cap ∧ v4 = .int .i64 (k : Int) ∧ k ≤ n ∧ Hid (MineR w wr (.slice ad k cap) (d.take k))) (fun _ v4 _ => n - (intOf v4).toNat)
  case atStart => exact ⟨0, none, 0, rfl, rfl, Nat.zero_le _, HM0.out⟩
  case round =>
    obtain ⟨k, ad, cap, rfl, rfl, hkn, HS⟩ := hrel
    by_cases hlt : k < n
    · have hltI : (k : Int) < (n : Int) := by omega
      have hwk : IntKind.i64.wrap ((k : Int) + 1) = ((k + 1 : Nat) : Int) := by rw [IntKind.wrap_i64]; omega
      obtain ⟨g, o, rfl, _, hr⟩ := H6.out (by intro e; have := HN.out; rw [e] at this; simp at this; omega)
      obtain ⟨e, he⟩ : ∃ e, d[k]? = some e := ⟨_, List.getElem?_eq_getElem (by rw [HN.out]; exact hlt)⟩
      obtain ⟨heo, _⟩ := hr.2 k e he
      obtain ⟨nm, p, q, r⟩ := e
      have hnm : nm.length = 32 := heo.1
      have hgO : (Value.slice ad k cap).ownBlock ≠ some g := fun e => by have := HS.out.2.1 g e; have := hr.1; omega
      have hgw : g < wr.heap.size := Nat.lt_of_lt_of_le hr.1 HS.out.2.2.size
      have hrow : ∀ V, Kp (fun x => (Value.slice ad k cap).ownBlock = some x) wr V → V.rangeAt g (o + k * 35) (entC (nm, p, q, r)) := fun V hV j u hu => (hV.cell (p := ⟨g, _, none⟩) hgw hgO).trans (((hr.kp HS.out.2.2 (fun x => x)).2 k _ he).2 j u hu)
      have HLX : Hid (∀ V, Kp (fun x => (Value.slice ad k cap).ownBlock = some x) wr V → V.rangeAt g (o + k * 35) (b8 nm)) := fun V hV => rng_name (hrow V hV)
      have HLP : Hid (∀ V, Kp (fun x => (Value.slice ad k cap).ownBlock = some x) wr V → V.rangeAt g (o + k * 35 + 32) [.int .i64 p, .int .i64 q, .int .i64 r]) := fun V hV => rng_place heo (hrow V hV)
      have HI1 : Hid ((Tryz.prog.info? 46).map (·.size) = some (b8 nm).length) := by rw [Hid, b8_length, hnm]; exact infH
      have HIW : Hid ((Tryz.prog.info? 49).map (·.size) = some [Value.int .i64 p, .int .i64 q, .int .i64 r].length) := infW (nm, p, q, r)
      have HB1 := hid (builtR nm p q r hnm)
      have HB2 := hid (fun W => run_oneR nm p q r hnm W)
      have hkl : (d.take k).length = k := by rw [List.length_take, HN.out]; omega
      have HNX : Hid (d.take (k + 1) = d.take k ++ [(nm, p, q, r)]) := by rw [Hid, List.take_add_one, he]; rfl
      have HNE : Hid (∀ W1, Kp No wr W1 → ∃ ad2 cap2 w2, (Builtin.append_ #[22, 22] 22 #[.slice ad k cap, .slice (some ⟨W1.heap.size, 0, none⟩) 1 1]).run Tryz.prog (W1.alloc (.cells (entC (nm, p, q, r)).toArray 91)) = .ok (.slice ad2 (k + 1) cap2) w2 ∧
          Kp (fun x => (Value.slice ad k cap).ownBlock = some x) wr w2 ∧ MineR w w2 (.slice ad2 (k + 1) cap2) (d.take (k + 1))) := fun W1 hW => by
        rw [HNX.out]
        exact next_R HS.out hkl hW heo (by omega) _
      obtain ⟨C, hC⟩ : ∃ C, entC (nm, p, q, r) = C := ⟨_, rfl⟩
      rw [hC] at HB1 HB2 HNE
      clear hC hkl hrow hr he heo hgO hgw HNX HS
      generalize b8 nm = bx at *
      go_wp2_with fail
      refine wp_region_held_drew (S := fun V => Kp (fun x => (Value.slice ad k cap).ownBlock = some x) wr V) (by kernel_rfl) ((Kp.refl _ _).drew) (fun hHeld => ?_)
      refine wpAnyH_take (i := 0) (oi := { dst := some 11, op := Op.move (Operand.tmp 3), type := 22, pos := "law.go:28", after := #[], guard := none }) (v := .slice ad k cap) rfl (by kernel_rfl) (by kernel_rfl) (by kernel_rfl) (fun _ _ _ h => h) (Or.inl ⟨by rfl, fun w' hw' => by (clear hw'; go_simp)⟩) hHeld ?_
      simp only [Act.put, List.setIfInBounds_toArray, List.set_cons_zero, List.set_cons_succ]
      refine wpAnyH_take (i := 1) (oi := { dst := some 12, op := Op.move (Operand.tmp 0), type := 30, pos := "law.go:28", after := #[], guard := none }) (v := .slice (some ⟨g, o, none⟩) n c) rfl (by kernel_rfl) (by kernel_rfl) (by kernel_rfl) (fun _ _ _ h => h) (Or.inl ⟨by rfl, fun w' hw' => by (clear hw'; go_simp)⟩) hHeld ?_
      simp only [Act.put, List.setIfInBounds_toArray, List.set_cons_zero, List.set_cons_succ]
      refine wpAnyH_take (i := 2) (oi := { dst := some 13, op := Op.move (Operand.tmp 4), type := 3, pos := "law.go:28", after := #[], guard := none }) (v := .int .i64 (k : Int)) rfl (by kernel_rfl) (by kernel_rfl) (by kernel_rfl) (fun _ _ _ h => h) (Or.inl ⟨by rfl, fun w' hw' => by (clear hw'; go_simp)⟩) hHeld ?_
      simp only [Act.put, List.setIfInBounds_toArray, List.set_cons_zero, List.set_cons_succ]
      refine wpAnyH_take (i := 3) (oi := { dst := some 14, op := Op.indexAddr 30 (Operand.tmp 12) (Operand.tmp 13), type := 0, pos := "law.go:28", after := #[{ on := 1, ground := Ground.data }, { on := 2, ground := Ground.data }], guard := none }) (v := .pointer (some ⟨g, o + k * 35, none⟩)) rfl (by kernel_rfl) (by kernel_rfl) (by kernel_rfl) (fun _ _ _ h => h) (Or.inl ⟨by rfl, fun w' hw' => by (clear hw'; go_simp)⟩) hHeld ?_
      simp only [Act.put, List.setIfInBounds_toArray, List.set_cons_zero, List.set_cons_succ]
      refine wpAnyH_take (i := 4) (oi := { dst := some 15, op := Op.fieldAddr 64 (Operand.tmp 14) 0, type := 0, pos := "law.go:28", after := #[{ on := 3, ground := Ground.data }], guard := none }) (v := .pointer (some ⟨g, o + k * 35, none⟩)) rfl (by kernel_rfl) (by kernel_rfl) (by kernel_rfl) (fun _ _ _ h => h) (Or.inl ⟨by rfl, fun w' hw' => by (clear hw'; go_simp)⟩) hHeld ?_
      simp only [Act.put, List.setIfInBounds_toArray, List.set_cons_zero, List.set_cons_succ]
      refine wpAnyH_take (i := 5) (oi := { dst := some 16, op := Op.load 46 (Operand.tmp 15), type := 46, pos := "law.go:28", after := #[{ on := 4, ground := Ground.data }], guard := none }) (v := .agg bx.toArray) rfl (by kernel_rfl) (by kernel_rfl) (by kernel_rfl) (fun _ _ _ h => h) (yieldsIf_load_mid (by rfl) _ _ rfl g (o + k * 35) rfl bx _ (HLX.out) Tryz.underlying46 rfl HI1.out) hHeld ?_
      simp only [Act.put, List.setIfInBounds_toArray, List.set_cons_zero, List.set_cons_succ]
      refine wpAnyH_take (i := 6) (oi := { dst := some 17, op := Op.move (Operand.tmp 0), type := 30, pos := "law.go:28", after := #[], guard := none }) (v := .slice (some ⟨g, o, none⟩) n c) rfl (by kernel_rfl) (by kernel_rfl) (by kernel_rfl) (fun _ _ _ h => h) (Or.inl ⟨by rfl, fun w' hw' => by (clear hw'; go_simp)⟩) hHeld ?_
      simp only [Act.put, List.setIfInBounds_toArray, List.set_cons_zero, List.set_cons_succ]
      refine wpAnyH_take (i := 7) (oi := { dst := some 18, op := Op.move (Operand.tmp 4), type := 3, pos := "law.go:28", after := #[], guard := none }) (v := .int .i64 (k : Int)) rfl (by kernel_rfl) (by kernel_rfl) (by kernel_rfl) (fun _ _ _ h => h) (Or.inl ⟨by rfl, fun w' hw' => by (clear hw'; go_simp)⟩) hHeld ?_
      simp only [Act.put, List.setIfInBounds_toArray, List.set_cons_zero, List.set_cons_succ]
      refine wpAnyH_take (i := 8) (oi := { dst := some 19, op := Op.indexAddr 30 (Operand.tmp 17) (Operand.tmp 18), type := 0, pos := "law.go:28", after := #[{ on := 6, ground := Ground.data }, { on := 7, ground := Ground.data }], guard := none }) (v := .pointer (some ⟨g, o + k * 35, none⟩)) rfl (by kernel_rfl) (by kernel_rfl) (by kernel_rfl) (fun _ _ _ h => h) (Or.inl ⟨by rfl, fun w' hw' => by (clear hw'; go_simp)⟩) hHeld ?_
      simp only [Act.put, List.setIfInBounds_toArray, List.set_cons_zero, List.set_cons_succ]
      refine wpAnyH_take (i := 9) (oi := { dst := some 20, op := Op.fieldAddr 64 (Operand.tmp 19) 1, type := 0, pos := "law.go:28", after := #[{ on := 8, ground := Ground.data }], guard := none }) (v := .pointer (some ⟨g, o + k * 35 + 32, none⟩)) rfl (by kernel_rfl) (by kernel_rfl) (by kernel_rfl) (fun _ _ _ h => h) (Or.inl ⟨by rfl, fun w' hw' => by (clear hw'; go_simp)⟩) hHeld ?_
      simp only [Act.put, List.setIfInBounds_toArray, List.set_cons_zero, List.set_cons_succ]
      refine wpAnyH_take (i := 10) (oi := { dst := some 21, op := Op.load 49 (Operand.tmp 20), type := 49, pos := "law.go:28", after := #[{ on := 9, ground := Ground.data }], guard := none }) (v := .agg [.int .i64 p, .int .i64 q, .int .i64 r].toArray) rfl (by kernel_rfl) (by kernel_rfl) (by kernel_rfl) (fun _ _ _ h => h) (yieldsIf_load_mid (by rfl) _ _ rfl g (o + k * 35 + 32) rfl [.int .i64 p, .int .i64 q, .int .i64 r] _ (HLP.out) Tryz.underlying49 rfl HIW.out) hHeld ?_
      simp only [Act.put, List.setIfInBounds_toArray, List.set_cons_zero, List.set_cons_succ]
      refine wpAnyH_ready (rs := [11]) (by kernel_rfl) (by simp) ?_
      refine AllReadyH.cons (o := { dst := some 22, op := Op.call { callee := Callee.value (Operand.func 21), args := #[Operand.tmp 21], argTypes := #[49] }, type := 52, pos := "law.go:28", after := #[{ on := 10, ground := Ground.data }], guard := none }) rfl (fun K hK => ?_) AllReadyH.nil
      go_simp
      refine (where_any p q r _).mono ?_
      rintro e W1 ⟨rfl, hkW⟩
      have HKW : Hid (Kp No wr W1) := (Kp.refl No wr).drew.andNone hkW
      obtain ⟨ad2, cap2, w2, hap, hk2, hm2⟩ := HNE.out W1 HKW.out
      have HAP := hid hap
      have HK2 := hid hk2
      have HF := hid hm2
      have HKA : Hid (Kp (fun x => (Value.slice ad k cap).ownBlock = some x) wr (W1.alloc (.cells C.toArray 91))) := (HKW.out.ofNo).alloc _
      clear hap hk2 hm2 hkW
      go_wp2_with fail
      refine hK.out _ _ (HKW.out.ofNo) (fun hh => ?_)
      clear hK K hHeld
      have hHeld := hh
      clear hh
      try simp only [Act.put, List.setIfInBounds_toArray, List.set_cons_zero, List.set_cons_succ]
      refine wpAnyH_take (i := 12) (oi := { dst := some 23, op := Op.build 91 #[(0, Operand.tmp 16), (1, Operand.tmp 22)], type := 91, pos := "law.go:28", after := #[{ on := 5, ground := Ground.data }, { on := 11, ground := Ground.data }], guard := none }) (v := .agg C.toArray) rfl (by kernel_rfl) (by kernel_rfl) (by kernel_rfl) (fun _ _ _ h => h) (yields_two (by rfl) 91 0 1 (.tmp 16) (.tmp 22) rfl (.agg bx.toArray) (.agg #[.int .i64 p, .int .i64 q, .int .i64 r]) rfl rfl _ HB1.out) hHeld ?_
      simp only [Act.put, List.setIfInBounds_toArray, List.set_cons_zero, List.set_cons_succ]
      refine wpAnyH_ready (rs := [13]) (by kernel_rfl) (by simp) ?_
      refine AllReadyH.cons (o := { dst := some 24, op := Op.buildSlice 22 1 #[(0, Operand.tmp 23)], type := 22, pos := "law.go:28", after := #[{ on := 12, ground := Ground.data }], guard := none }) rfl (fun K hK => ?_) AllReadyH.nil
      rw [if_pos (by rfl)]
      refine wp_valE (exec_sliceE 22 _ rfl (.agg C.toArray) _ rfl (HB2.out _)) ?_
      refine hK.out _ _ HKA.out (fun hh => ?_)
      clear hK K hHeld
      have hHeld := hh
      clear hh
      try simp only [Act.put, List.setIfInBounds_toArray, List.set_cons_zero, List.set_cons_succ]
      refine wpAnyH_ready (rs := [14]) (by kernel_rfl) (by simp) ?_
      refine AllReadyH.cons (o := { dst := some 25, op := Op.call { callee := Callee.builtin Builtin.append, args := #[Operand.tmp 11, Operand.tmp 24], argTypes := #[22, 22] }, type := 22, pos := "law.go:28", after := #[{ on := 0, ground := Ground.data }, { on := 13, ground := Ground.data }, { on := 11, ground := Ground.chain }], guard := none }) rfl (fun K hK => ?_) AllReadyH.nil
      rw [if_pos (by rfl)]
      refine wp_valE (exec_appE _ _ 22 rfl (.slice ad k cap) (.slice (some ⟨W1.heap.size, 0, none⟩) 1 1) _ rfl rfl HAP.out) ?_
      refine hK.out _ _ HK2.out (fun hh => ?_)
      clear hK K hHeld
      have hHeld := hh
      clear hh
      try simp only [Act.put, List.setIfInBounds_toArray, List.set_cons_zero, List.set_cons_succ]
      refine wpAnyH_take (i := 15) (oi := { dst := some 3, op := Op.assign (Operand.tmp 25), type := 22, pos := "law.go:28", after := #[{ on := 14, ground := Ground.data }, { on := 14, ground := Ground.chain }, { on := 0, ground := Ground.phase }, { on := 1, ground := Ground.phase }, { on := 2, ground := Ground.phase }, { on := 3, ground := Ground.phase }, { on := 4, ground := Ground.phase }, { on := 5, ground := Ground.phase }, { on := 6, ground := Ground.phase }, { on := 7, ground := Ground.phase }, { on := 8, ground := Ground.phase }, { on := 9, ground := Ground.phase }, { on := 10, ground := Ground.phase }, { on := 11, ground := Ground.phase }, { on := 12, ground := Ground.phase }, { on := 13, ground := Ground.phase }, { on := 14, ground := Ground.phase }], guard := none }) (v := .slice ad2 (k + 1) cap2) rfl (by kernel_rfl) (by kernel_rfl) (by kernel_rfl) (fun _ _ _ h => h) (Or.inl ⟨by rfl, fun w' hw' => by (clear hw'; go_simp)⟩) hHeld ?_
      simp only [Act.put, List.setIfInBounds_toArray, List.set_cons_zero, List.set_cons_succ]
      refine wpAnyH_done (by kernel_rfl) ?_ _
      clear hHeld
      go_wp2_with fail
      go_round
      case rel => exact ⟨k + 1, ad2, cap2, rfl, by first | rfl | go_num, by omega, HF.out⟩
      case measure => simp [intOf]; omega
    · have hltI : ¬ (k : Int) < (n : Int) := by omega
      have hkn' : k = n := by omega
      have HF : Hid (MineR w wr (.slice ad k cap) d) := by
        have := HS.out
        rw [hkn', ← HN.out, List.take_length] at this
        rw [Hid, hkn', ← HN.out]
        exact this
      clear hkn'
      go_wp2_with fail
      go_ret
      exact ⟨_, rfl, HF.out⟩
end Go.Proofs.YtampnikdmgojjaaGreat.Sg
end

section
/-
  Put and Get of segment with no table.
-/
namespace Go.Proofs.YtampnikdmgojjaaGreat.Sg
open Go.RowKit
open Sim (hid Kp No)

theorem put_none (w : World) (a : Option Addr) (n c : Nat) : Calls Tryz.prog 7 #[.pointer none, .slice a n c] w fun e w' => e = .returned (.tuple #[.slice none 0 0, .int .i64 18]) ∧ w' = w := by
  go_enter Tryz.func7, Tryz.ntmps7
  go_wp2_with fail
  go_ret2
  exact ⟨rfl, rfl⟩
theorem get_none (w : World) (a : Option Addr) (n c : Nat) : Calls Tryz.prog 10 #[.pointer none, .slice a n c] w fun e w' => e = .returned (.tuple #[.slice none 0 0, .int .i64 18]) ∧ w' = w := by
  go_enter Tryz.func10, Tryz.ntmps10
  go_wp2_with fail
  go_ret2
  exact ⟨rfl, rfl⟩
end Go.Proofs.YtampnikdmgojjaaGreat.Sg
end

section
/-
  alive of the tenth law.
-/
namespace Go.Proofs.YtampnikdmgojjaaGreat.Sg
open Go.RowKit
open Tlv (Tr Agree)
open Crc (Kept)
open Sim (hid Kp No)

def h1 : List Int := [1, 0, 0, 0, 0, 0, 0, 0, 0, 0, 0, 0, 0, 0, 0, 0, 0, 0, 0, 0, 0, 0, 0, 0, 0, 0, 0, 0, 0, 0, 0, 0]
theorem h1_ok : EOk (h1, 1, 2, 3) := ⟨rfl, by decide⟩
theorem right1 : RightP [(h1, 1, 2, 3)] := ⟨by simp, fun i e hi he => by
  have hi0 : i = 0 := by simp at hi; omega
  subst hi0
  simp at he
  subst he
  exact ⟨rfl, fun j x hj => by omega⟩⟩
theorem right0 : RightP [] := ⟨by simp, fun i e hi => by simp at hi⟩
theorem find1 {e : Ending} (h : FAns [(h1, 1, 2, 3)] h1 e) : e = .returned (.tuple #[.agg #[.int .i64 1, .int .i64 2, .int .i64 3], .bool true]) := by
  obtain ⟨p, b, rfl, h2, h3, _⟩ := h
  have hb : b = true := h2.2 ⟨right1, (h1, 1, 2, 3), by simp, rfl⟩
  subst hb
  have := h3 rfl
  simp at this
  subst this
  rfl
theorem right1_any {e : Ending} (h : RAns [(h1, 1, 2, 3)] e) : e = .returned (.bool true) := by
  obtain ⟨b, rfl, h2⟩ := h
  rw [h2.2 right1]
theorem seal0 : nats (sealE []) = [3, 0, 0] ++ Crc.le4 (Crc.more 0 [3, 0, 0]) := by
  rw [sealE, sealI_nats]
  rfl
theorem ev1 (w : World) (A : Array Value) (hA : A = (entC (h1, 1, 2, 3)).toArray) : EV (fun g => g = w.heap.size) (w.alloc (.cells A 64)) (.slice (some ⟨w.heap.size, 0, none⟩) 1 1) [(h1, 1, 2, 3)] := by
  subst hA
  refine ⟨_, 1, rfl, Nat.le_refl _, by decide, by simp, fun e he => ?_, fun _ => ⟨w.heap.size, 0, rfl, rfl, by simp, fun i e hi => ?_⟩⟩
  · simp at he
    subst he
    exact h1_ok
  · have hi0 : i = 0 := by
      have := (List.getElem?_eq_some_iff.1 hi).1
      simp at this
      omega
    subst hi0
    simp at hi
    subst hi
    refine ⟨h1_ok, fun j v hv => ?_⟩
    rw [World.cell?_alloc_at _ _ _ _ rfl]
    simpa using hv

set_option maxHeartbeats 4000000 in
set_option maxRecDepth 100000 in
theorem alive_any (w : World) : Calls Tryz.prog 5 #[] w fun e w' => e = .returned (.bool true) ∧ Kp No w w' := by
  go_enter Tryz.func5, Tryz.ntmps5
  go_wp2_with fail
  refine (Crc.new_any w).mono ?_
  rintro e w1 ⟨rfl, hb1, hs1, ht1⟩
  have HB1 := hid hb1
  have HT1 : Hid (TabX w1 w.heap.size) := ⟨0, 0, .inl rfl, ht1⟩
  have hlt1 : w.heap.size < w1.heap.size := by omega
  clear hb1 hs1 ht1
  go_wp2_with fail
  refine (put_yes w.heap.size w1 _ [] No HT1.out (EV.nil _ _) right0).mono ?_
  rintro e w2 ⟨v', rfl, ho, hk2, ht2⟩
  rw [seal0] at ho
  obtain ⟨g, cap, rfl, hg, hgl⟩ := World.ownsRow.form ho (by simp)
  have c0 : w2.cell? ⟨g, 0, none⟩ = some (.int .u8 3) := by rw [World.ownsRow.cellAt ho 0 (by simp)]; rfl
  have hl7 : ([3, 0, 0] ++ Crc.le4 (Crc.more 0 [3, 0, 0])).length = 7 := rfl
  rw [hl7]
  have HK2 : Hid (Kp No w w2) := ⟨by rw [hk2.os, HB1.out.os], by rw [hk2.tape, HB1.out.tape], by rw [hk2.output, HB1.out.output], Nat.le_trans HB1.out.size hk2.size, fun j hj _ => (hk2.block j (by omega) (by omega)).trans (HB1.out.block j hj)⟩
  clear ho hk2 ht2 hl7 HB1 HT1 hg hlt1
  go_wp2_with fail
  have HEV := hid (ev1 w2 _ rfl)
  have HKA : Hid (Kp No w2 (w2.alloc (.cells (entC (h1, 1, 2, 3)).toArray 64))) := (Kp.refl _ _).alloc _
  refine (find_any (w2.alloc (.cells (entC (h1, 1, 2, 3)).toArray 64)) _ [(h1, 1, 2, 3)] _ h1 HEV.out (by simp) rfl (by decide)).mono ?_
  rintro e w3 ⟨hfa, hk3⟩
  have hfe := find1 hfa
  subst hfe
  have HE3 := hid (HEV.out.kept hk3)
  have HK3 := hid (HKA.out.andNone hk3)
  have d0 : w3.cell? ⟨g, 0, none⟩ = some (.int .u8 3) := (HK3.out.cell (p := ⟨g, 0, none⟩) hgl (fun x => x)).trans c0
  have hgl3 : g < w3.heap.size := Nat.lt_of_lt_of_le hgl HK3.out.size
  clear hfa hk3 c0
  go_wp2_with fail
  refine (right_any _ _ [(h1, 1, 2, 3)] _ (HE3.out.kept ((Kp.refl _ _).alloc _)) (by simp)).mono ?_
  rintro e w4 ⟨hra, hk4⟩
  have hre := right1_any hra
  subst hre
  have HF : Hid (Kp No w w4) := ((HK2.out.andNone HK3.out).alloc _).andNone hk4
  clear hra hk4
  go_wp2_with fail
  go_ret
  exact ⟨rfl, HF.out⟩
end Go.Proofs.YtampnikdmgojjaaGreat.Sg
end

section
/-
  Memory of the tenth law of back: a table, and bytes of which one is turned.
-/
namespace Go.Proofs.YtampnikdmgojjaaGreat.Sg
open Go.RowKit
open Tlv (Tr Agree BySlS)
open Crc (Kept Tab)
open Sim (hid Kp No)

theorem kpK {b : Nat} {w w' : World} (k : Kept b w w') : Kp (fun x => x = b) w w' := ⟨k.os, k.tape, k.output, k.size, fun j hj hne => k.block j hj hne⟩
/-- How far a call has come: a table at b, and all else that there was as it was. -/
def On (w1 w : World) (b : Nat) : Prop := Kp (fun x => x = b) w1 w ∧ TabX w b
theorem On.kept {w1 w w' : World} {b : Nat} (h : On w1 w b) (k : Kept b w w') (t : TabX w' b) : On w1 w' b := ⟨h.1.trans (kpK k) (fun _ hx => .inl hx), t⟩
theorem On.kp {w1 w w' : World} {b : Nat} (h : On w1 w b) (k : Kp No w w') : On w1 w' b := ⟨h.1.andNone k, h.2.below k.toBelow'⟩
theorem On.fin {w w1 w2 : World} (h0 : Below w.heap.size w w1) (h : On w1 w2 w.heap.size) : Below w.heap.size w w2 := Kp.under h0 h.1 (fun x hx => by omega) h0.size
theorem On.bytes {w w1 w2 : World} {v : Value} {bs : List Int} (h0 : Below w.heap.size w w1) (h : On w1 w2 w.heap.size) (hb : Tlv.BySl 0 w.heap.size w v bs) : BySlS (fun g => g ≠ w.heap.size ∧ g < w2.heap.size) w2 v bs := by
  have hB := On.fin h0 h
  exact hb.toS.agree (fun g hg => hB.block g hg.2) (fun g hg => ⟨by omega, Nat.lt_of_lt_of_le hg.2 hB.size⟩)
theorem EV.on {w w' : World} {b : Nat} {v : Value} {d : List Ent} {P : Nat → Prop} (h : EV P w v d) (k : Kept b w w') (hP : ∀ g, P g → g ≠ b) : EV P w' v d := h.kp (kpK k) hP

theorem bySl_flip {b : Nat} {w : World} {g cap j y : Nat} {xs : List Nat} (h : Crc.BySl b w (.slice (some ⟨g, 0, none⟩) xs.length cap) xs) (hj : j < xs.length) (hy : y < 256) :
    Crc.BySl b (w.setCell ⟨g, j, none⟩ (.int .u8 ((xs.getD j 0 ^^^ y : Nat) : Int))) (.slice (some ⟨g, 0, none⟩) xs.length cap) (flipAt xs j y) := by
  obtain ⟨a, c, e, h2, h3, h4, h5, h6, h7⟩ := h
  simp only [Value.slice.injEq, true_and] at e
  obtain ⟨rfl, rfl⟩ := e
  have hne : xs ≠ [] := by intro e; rw [e] at hj; simp at hj
  obtain ⟨g', o, e, hgb, hg, hc⟩ := h7 hne
  simp only [Option.some.injEq, Addr.mk.injEq, and_true] at e
  obtain ⟨rfl, rfl⟩ := e
  refine ⟨_, cap, by rw [flipAt_length], by rw [flipAt_length]; exact h2, h3, by simp, by rw [flipAt_length]; exact h5, flipAt_lt h6 j y hy, fun _ => ⟨g, 0, rfl, hgb, by simpa using hg, fun i hi => ?_⟩⟩
  rw [flipAt_length] at hi
  rw [Nat.zero_add]
  by_cases hij : i = j
  · subst hij
    rw [World.cell?_setCell_same w ⟨g, i, none⟩ _ (u := .int .u8 (xs.getD i 0 : Nat)) (by have := hc i hi; rw [Nat.zero_add] at this; exact this), flipAt, List.getD_eq_getElem?_getD (l := xs.set _ _), List.getElem?_set_self hi]
    rfl
  · have := hc i hi
    rw [Nat.zero_add] at this
    rw [World.cell?_setCell_other w ⟨g, j, none⟩ ⟨g, i, none⟩ _ (by simp only [ne_eq, Addr.mk.injEq, and_true, true_and]; omega), this, flipAt, List.getD_eq_getElem?_getD (l := xs.set _ _), List.getElem?_set_ne (by omega), ← List.getD_eq_getElem?_getD]
theorem form_mem {n : Nat} {t : Tr n} (h0 : 0 ≤ t.hd.1 ∧ t.hd.1 ≤ 255) (hl : (Tlv.bodyOf n t).length ≤ 65535) (hb : ∀ x ∈ Tlv.bodyOf n t, 0 ≤ x ∧ x ≤ 255) : ∀ x ∈ Tlv.formOf n t, 0 ≤ x ∧ x ≤ 255 := by
  intro x hx
  simp only [Tlv.formOf, List.mem_cons] at hx
  rcases hx with rfl | rfl | rfl | hx
  · exact h0
  · omega
  · omega
  · exact hb x hx
theorem num_bytes (p : Int) : ∀ x ∈ Tlv.formOf 1 (Tr.mk 1 p [] [] : Tr 1), 0 ≤ x ∧ x ≤ 255 := by
  have e : Tlv.bodyOf 1 (Tr.mk 1 p [] [] : Tr 1) = Tlv.numB (Tlv.nsz p).toNat p := rfl
  have := Tlv.nsz_bd p
  exact form_mem ⟨(by decide : (0 : Int) ≤ 1), (by decide : (1 : Int) ≤ 255)⟩ (by rw [e, Tlv.numB_length]; omega) (by rw [e]; exact Tlv.numB_byte _ _)
theorem ent_bytes {e : Ent} (he : EOk e) : ∀ x ∈ Tlv.formOf 2 (entT e), 0 ≤ x ∧ x ≤ 255 := by
  obtain ⟨h1, _, h3⟩ := ent_bsz he.1 (room := 68) (deep := 1) (by omega) (by omega)
  have h4 := Tlv.bsz_len 2 _ _ _ h1
  refine form_mem ⟨Int.le_of_lt (by decide : (0 : Int) < 3), (by decide : (3 : Int) ≤ 255)⟩ (by omega) ?_
  rw [Tlv.bodyOf_kids (show (entT e).hd.1 = 3 from rfl)]
  intro x hx
  obtain ⟨l, hl, hxl⟩ := List.mem_flatten.1 hx
  obtain ⟨k, hk, rfl⟩ := List.mem_map.1 hl
  have hk' : k ∈ ([Tr.mk 2 0 e.1 [], Tr.mk 1 e.2.1 [] [], Tr.mk 1 e.2.2.1 [] [], Tr.mk 1 e.2.2.2 [] []] : List (Tr 1)) := hk
  rcases List.mem_cons.1 hk' with rfl | hk1
  · refine form_mem (t := (Tr.mk 2 0 e.1 [] : Tr 1)) ⟨(by decide : (0 : Int) ≤ 2), (by decide : (2 : Int) ≤ 255)⟩ (show e.1.length ≤ 65535 by rw [he.1]; omega) (show ∀ x ∈ e.1, 0 ≤ x ∧ x ≤ 255 from he.2) x hxl
  rcases List.mem_cons.1 hk1 with rfl | hk2
  · exact num_bytes _ x hxl
  rcases List.mem_cons.1 hk2 with rfl | hk3
  · exact num_bytes _ x hxl
  rcases List.mem_cons.1 hk3 with rfl | hk4
  · exact num_bytes _ x hxl
  · cases hk4
theorem formE_bd {d : List Ent} (ho : ∀ e ∈ d, EOk e) (hl : d.length ≤ 900) : ∀ x ∈ formE d, 0 ≤ x ∧ x ≤ 255 := by
  have h1 := entsT_right (fun e he => (ho e he).1) hl
  have h2 := Tlv.bsz_fits 3 _ _ _ h1
  have h3 := Tlv.bsz_len 3 _ _ _ h1
  refine form_mem ⟨Int.le_of_lt (by decide : (0 : Int) < 3), (by decide : (3 : Int) ≤ 255)⟩ (by omega) ?_
  rw [Tlv.bodyOf_kids (show (entsT d).hd.1 = 3 from rfl)]
  intro x hx
  obtain ⟨l, hl, hxl⟩ := List.mem_flatten.1 hx
  obtain ⟨k, hk, rfl⟩ := List.mem_map.1 hl
  obtain ⟨e, he, rfl⟩ := List.mem_map.1 hk
  exact ent_bytes (ho e he) x hxl
theorem sealE_bd {d : List Ent} (ho : ∀ e ∈ d, EOk e) (hl : d.length ≤ 900) : ∀ x ∈ sealE d, 0 ≤ x ∧ x ≤ 255 := sealI_bd _ (formE_bd ho hl)
theorem sealE_length {d : List Ent} (ho : ∀ e ∈ d, EOk e) (hl : d.length ≤ 900) : 4 ≤ (sealE d).length ∧ (sealE d).length ≤ 65542 := by
  have := formE_length (fun e he => (ho e he).1) hl
  rw [sealE, sealI_length]
  omega
theorem gans_flip {d : List Ent} (ho : ∀ e ∈ d, EOk e) (hr : RightP d) {j y : Nat} (hj : j < (sealE d).length) (hy : y < 256) (h0 : y ≠ 0) {f : Int} {d' : List Ent} (h : GAns (flipI (sealE d) j y) f d') : f = 4 := by
  have hb := formE_bd ho hr.1
  have hne := flip_told hb hj hy h0
  have hl : 4 ≤ (flipI (sealE d) j y).length := by rw [flipI_length, sealE, sealI_length]; omega
  rcases h with ⟨h1, _⟩ | ⟨_, _, h1, _⟩ | ⟨_, h1, _⟩ | ⟨_, h1, _⟩
  · omega
  · exact h1
  · exact absurd h1 hne
  · exact absurd h1 hne
end Go.Proofs.YtampnikdmgojjaaGreat.Sg
end

section
/-
  Plain mathematics of the document's Get: it tells the same of a value as the program does.
-/
namespace Go.Proofs.YtampnikdmgojjaaGreat.Sg
open Go.RowKit
open Tlv (Tr)

/-- A small number of a value; -1: it is none, or great. -/
def smallI (tag num : Int) : Int := if tag = 1 ∧ num ≤ 1000000000 then num else -1
def entR (k : Tr 8) : Ent := match k.kd with
  | [a, b, c, e] => (a.hd.2.2, smallI b.hd.1 b.hd.2.1, smallI c.hd.1 c.hd.2.1, smallI e.hd.1 e.hd.2.1)
  | _ => ([], 0, 0, 0)
def OkK (k : Tr 8) : Prop := k.hd.1 = 3 ∧ k.kd.length = 4 ∧ ∀ a, k.kd[0]? = some a → a.hd.1 = 2 ∧ a.hd.2.2.length = 32
def GoodR (t : Tr 9) : Prop := t.hd.1 = 3 ∧ (∀ k ∈ t.kd, OkK k) ∧ RightP (t.kd.map entR)

theorem sameL_self {α β : Type} {f : α → β → Bool} {g : α → β} : ∀ {ks : List α}, Tlv.sameL f ks (ks.map g) = true ↔ ∀ k ∈ ks, f k (g k) = true
  | [] => by simp [Tlv.sameL]
  | k :: ks => by simp [Tlv.sameL, sameL_self (ks := ks)]
theorem sameT_ents (t : Tr 9) : Tlv.sameT 9 t 3 (entsT (t.kd.map entOf)) = true ↔ t.hd = (3, 0, []) ∧ ∀ k ∈ t.kd, Tlv.sameT 8 k 2 (entT (entOf k)) = true := by
  have q : Tlv.sameT 9 t 3 (entsT (t.kd.map entOf)) = (decide (t.hd = (3, 0, [])) && Tlv.sameL (fun a b => Tlv.sameT 8 a 2 b) t.kd ((t.kd.map entOf).map entT)) := rfl
  rw [q, Bool.and_eq_true, decide_eq_true_eq, List.map_map, sameL_self]
  rfl
theorem leaf7' {a : Tr 7} {tag x : Int} {ys : List Int} : Tlv.sameT 7 a 1 (Tr.mk tag x ys []) = true ↔ a.hd = (tag, x, ys) ∧ a.kd = [] := by
  simp only [Tlv.sameT, Bool.and_eq_true, decide_eq_true_eq]
  refine ⟨fun h => ⟨h.1, ?_⟩, fun h => ⟨h.1, ?_⟩⟩
  · have := Tlv.sameL_len h.2
    exact List.length_eq_zero_iff.1 this
  · rw [h.2]; rfl
theorem sameT_ent {k : Tr 8} {a b c d : Tr 7} (hk : k.kd = [a, b, c, d]) (e : Ent) : Tlv.sameT 8 k 2 (entT e) = true ↔ k.hd = (3, 0, []) ∧ (a.hd = (2, 0, e.1) ∧ a.kd = []) ∧ (b.hd = (1, e.2.1, []) ∧ b.kd = []) ∧ (c.hd = (1, e.2.2.1, []) ∧ c.kd = []) ∧ (d.hd = (1, e.2.2.2, []) ∧ d.kd = []) := by
  have q : Tlv.sameT 8 k 2 (entT e) = (decide (k.hd = (3, 0, [])) && Tlv.sameL (fun a b => Tlv.sameT 7 a 1 b) k.kd [Tr.mk 2 0 e.1 [], Tr.mk 1 e.2.1 [] [], Tr.mk 1 e.2.2.1 [] [], Tr.mk 1 e.2.2.2 [] []]) := rfl
  rw [q, hk]
  simp only [Tlv.sameL, Bool.and_eq_true, decide_eq_true_eq, leaf7', and_true]
theorem small_of {tag num p : Int} (h : smallI tag num = p) (hp : 0 ≤ p) : tag = 1 ∧ num = p := by
  unfold smallI at h
  split at h
  · rename_i h1
    exact ⟨h1.1, h⟩
  · omega

theorem good_to {t : Tr 9} (h : GoodT t) : GoodR t ∧ t.kd.map entOf = t.kd.map entR := by
  obtain ⟨h4, hR, hs⟩ := h
  obtain ⟨hd, hk⟩ := (sameT_ents t).1 hs
  have key : ∀ k ∈ t.kd, OkK k ∧ entOf k = entR k := fun k hkm => by
    obtain ⟨a, b, c, d, hkd⟩ := kd4 (h4 k hkm)
    obtain ⟨q0, ⟨qa, _⟩, ⟨qb, _⟩, ⟨qc, _⟩, qd, _⟩ := (sameT_ent hkd (entOf k)).1 (hk k hkm)
    have hp := plB_bd (hR.places (entOf k) (List.mem_map.2 ⟨k, hkm, rfl⟩))
    have hl : (entOf k).1.length = 32 := by rw [entOf, hkd]; exact pad32_length _
    refine ⟨⟨by rw [q0], h4 k hkm, fun x hx => ?_⟩, ?_⟩
    · rw [hkd] at hx
      simp at hx
      subst hx
      rw [qa]
      exact ⟨rfl, hl⟩
    · have e : entR k = (a.hd.2.2, smallI b.hd.1 b.hd.2.1, smallI c.hd.1 c.hd.2.1, smallI d.hd.1 d.hd.2.1) := by rw [entR, hkd]
      rw [e, qa, qb, qc, qd]
      generalize entOf k = x at *
      obtain ⟨nm, p, q, r⟩ := x
      simp only at hp ⊢
      rw [smallI, smallI, smallI, if_pos ⟨rfl, by omega⟩, if_pos ⟨rfl, by omega⟩, if_pos ⟨rfl, by omega⟩]
  have hm : t.kd.map entOf = t.kd.map entR := List.map_congr_left (fun k hk => (key k hk).2)
  exact ⟨⟨by rw [hd], fun k hk => (key k hk).1, by rw [← hm]; exact hR⟩, hm⟩
theorem hd_of {n : Nat} {u : Tr n} {x y : Int} {zs : List Int} (p : u.hd.1 = x) (q : u.hd.2.1 = y) (r : u.hd.2.2 = zs) : u.hd = (x, y, zs) := by rw [← p, ← q, ← r]
theorem good_from {t : Tr 9} (hr : (Tlv.bsz 9 t 65535 8).2 = true) (h : GoodR t) : GoodT t := by
  obtain ⟨h3, hK, hR⟩ := h
  have ht := bsz_oe hr
  have hf := (Tlv.Rt.facts ⟨8, hr⟩).2.2.2 h3
  have key : ∀ k ∈ t.kd, k.kd.length = 4 ∧ entOf k = entR k ∧ Tlv.sameT 8 k 2 (entT (entR k)) = true := fun k hkm => by
    obtain ⟨o1, o2, o3⟩ := hK k hkm
    obtain ⟨_, _, dk, rk⟩ := hf k hkm
    have ok := bsz_oe rk
    have hfk := (Tlv.Rt.facts ⟨dk, rk⟩).2.2.2 o1
    obtain ⟨a, b, c, d, hkd⟩ := kd4 o2
    rw [hkd] at hfk
    obtain ⟨_, _, da, ra⟩ := hfk a (by simp)
    obtain ⟨_, _, db, rb⟩ := hfk b (by simp)
    obtain ⟨_, _, dc, rc⟩ := hfk c (by simp)
    obtain ⟨_, _, dd, rd⟩ := hfk d (by simp)
    have oa := bsz_oe ra
    have ob := bsz_oe rb
    have oc := bsz_oe rc
    have od := bsz_oe rd
    have oa2 := o3 a (by rw [hkd]; rfl)
    have hp := plB_bd (hR.places (entR k) (List.mem_map.2 ⟨k, hkm, rfl⟩))
    have e : entR k = (a.hd.2.2, smallI b.hd.1 b.hd.2.1, smallI c.hd.1 c.hd.2.1, smallI d.hd.1 d.hd.2.1) := by rw [entR, hkd]
    rw [e] at hp
    obtain ⟨sb1, sb2⟩ := small_of (tag := b.hd.1) (num := b.hd.2.1) rfl hp.1.1
    obtain ⟨sc1, sc2⟩ := small_of (tag := c.hd.1) (num := c.hd.2.1) rfl hp.2.1.1
    obtain ⟨sd1, sd2⟩ := small_of (tag := d.hd.1) (num := d.hd.2.1) rfl hp.2.2.1
    simp only at hp
    refine ⟨o2, ?_, (sameT_ent hkd _).2 ⟨hd_of o1 (ok.1.resolve_left (by omega)) (ok.2.1.resolve_left (by omega)), ⟨hd_of oa2.1 (oa.1.resolve_left (by omega)) (by rw [e]), oa.2.2.resolve_left (by omega)⟩, ⟨hd_of sb1 (by rw [e]; exact sb2) (ob.2.1.resolve_left (by omega)), ob.2.2.resolve_left (by omega)⟩, ⟨hd_of sc1 (by rw [e]; exact sc2) (oc.2.1.resolve_left (by omega)), oc.2.2.resolve_left (by omega)⟩, hd_of sd1 (by rw [e]; exact sd2) (od.2.1.resolve_left (by omega)), od.2.2.resolve_left (by omega)⟩⟩
    rw [entOf, hkd, e]
    simp only
    rw [← sb2, ← sc2, ← sd2] at hp
    rw [← (pad32_same _).2 oa2.2, IntWalk.wrap64_in _ ⟨by omega, by omega⟩, IntWalk.wrap64_in _ ⟨by omega, by omega⟩, IntWalk.wrap64_in _ ⟨by omega, by omega⟩, ← sb2, ← sc2, ← sd2]
  have hm : t.kd.map entOf = t.kd.map entR := List.map_congr_left (fun k hk => (key k hk).2.1)
  refine ⟨fun k hk => (key k hk).1, by rw [hm]; exact hR, (sameT_ents t).2 ⟨hd_of h3 (ht.1.resolve_left (by omega)) (ht.2.1.resolve_left (by omega)), fun k hk => ?_⟩⟩
  rw [(key k hk).2.1]
  exact (key k hk).2.2
end Go.Proofs.YtampnikdmgojjaaGreat.Sg
end

section
/-
  Plain mathematics of the document's Sort: of each name the first, in the names' order.
-/
namespace Go.Proofs.YtampnikdmgojjaaGreat.Sg
open Stb (Stab Srt Mrg)

theorem Rise.srt {d : List Ent} (h : Rise d) : Srt ky lexB d := h.imp (fun {_ _} h => lexOrd.asym h)
theorem Rise.filter {d : List Ent} (h : Rise d) (k : List Int) : d.filter (fun x => decide (ky x = k)) = (d.find? (fun x => decide (x.1 = k))).toList := by
  induction d with
  | nil => rfl
  | cons a d ih =>
    obtain ⟨h1, h2⟩ := List.pairwise_cons.1 h
    by_cases e : a.1 = k
    · rw [List.filter_cons_of_pos (by simpa [ky] using e), List.find?_cons_of_pos (by simpa using e)]
      have : d.filter (fun x => decide (ky x = k)) = [] := by
        rw [List.filter_eq_nil_iff]
        intro x hx hk
        have hx1 := h1 x hx
        have hk' : x.1 = k := by simpa [ky] using hk
        rw [e, hk', lexB_irr] at hx1
        cases hx1
      rw [this]
      rfl
    · rw [List.filter_cons_of_neg (by simpa [ky] using e), List.find?_cons_of_neg (by simpa using e), ih h2]
theorem Rise.ext {a b : List Ent} (ha : Rise a) (hb : Rise b) (h : ∀ k, a.find? (fun x => decide (x.1 = k)) = b.find? (fun x => decide (x.1 = k))) : a = b :=
  Stb.srt_unique lexOrd (Stab.refl a) (fun k => by rw [hb.filter, ha.filter, h]) ha.srt hb.srt

/-- The entries of l as the document sorts them. -/
def Sorted (l out : List Ent) : Prop := Rise out ∧ ∀ k, out.find? (fun x => decide (x.1 = k)) = l.find? (fun x => decide (x.1 = k))
theorem Sorted.nil : Sorted [] [] := ⟨List.Pairwise.nil, fun _ => rfl⟩
theorem Sorted.eq {l X out : List Ent} (h : Sorted l out) (hs : Stab ky l X) (hr : Srt ky lexB X) : cmpct X = out :=
  (cmpct_rise hr).ext h.1 (fun k => by rw [sort_find hs, h.2])
/-- Those ahead of k are less than e, the one at k is not. -/
def Place (out : List Ent) (e : Ent) (k : Nat) : Prop := (∀ x ∈ out.take k, lexB x.1 e.1 = true) ∧ ∀ y, out[k]? = some y → lexB y.1 e.1 = false
theorem Sorted.has {l out : List Ent} {e y : Ent} {k : Nat} (h : Sorted l out) (hy : out[k]? = some y) (he : y.1 = e.1) : Sorted (l ++ [e]) out := by
  refine ⟨h.1, fun q => ?_⟩
  rw [List.find?_append, ← h.2 q]
  cases hf : out.find? (fun x => decide (x.1 = q)) with
  | some z => rfl
  | none =>
    have hne : ¬ e.1 = q := fun e1 => by
      have := List.find?_eq_none.1 hf y (List.mem_of_getElem? hy)
      rw [he, e1] at this
      simp at this
    rw [List.find?_cons_of_neg (by simpa using hne)]
    rfl
theorem place_after {out : List Ent} {e : Ent} {k : Nat} (hr : Rise out) (hp : Place out e k) (hn : ∀ y, out[k]? = some y → y.1 ≠ e.1) : ∀ x ∈ out.drop k, lexB e.1 x.1 = true := by
  intro x hx
  obtain ⟨i, hi⟩ := List.mem_iff_getElem?.1 hx
  rw [List.getElem?_drop] at hi
  have hkl : k < out.length := by have := (List.getElem?_eq_some_iff.1 hi).1; omega
  obtain ⟨y, hy⟩ : ∃ y, out[k]? = some y := ⟨_, List.getElem?_eq_getElem hkl⟩
  have h1 : lexB e.1 y.1 = true := by
    rcases lexB_tot e.1 y.1 (fun h => hn y hy h.symm) with h | h
    · exact h
    · rw [hp.2 y hy] at h; cases h
  cases i with
  | zero =>
    rw [Nat.add_zero, hy] at hi
    cases hi
    exact h1
  | succ i =>
    have hlt := (List.getElem?_eq_some_iff.1 hi).1
    have h2 := List.pairwise_iff_getElem.1 hr k (k + (i + 1)) hkl hlt (by omega)
    rw [(List.getElem?_eq_some_iff.1 hy).2, (List.getElem?_eq_some_iff.1 hi).2] at h2
    exact lexB_trans _ _ _ h1 h2
theorem Sorted.ins {l out : List Ent} {e : Ent} {k : Nat} (h : Sorted l out) (hp : Place out e k) (hn : ∀ y, out[k]? = some y → y.1 ≠ e.1) : Sorted (l ++ [e]) (out.take k ++ e :: out.drop k) := by
  have ha := place_after h.1 hp hn
  have hno : ∀ x ∈ out, x.1 ≠ e.1 := fun x hx he => by
    rw [← List.take_append_drop k out] at hx
    rcases List.mem_append.1 hx with h1 | h1
    · have := hp.1 x h1
      rw [he, lexB_irr] at this
      cases this
    · have := ha x h1
      rw [he, lexB_irr] at this
      cases this
  refine ⟨?_, fun q => ?_⟩
  · have hR : Rise (out.take k ++ out.drop k) := by rw [List.take_append_drop]; exact h.1
    obtain ⟨r1, r2, r3⟩ := List.pairwise_append.1 hR
    refine List.pairwise_append.2 ⟨r1, List.pairwise_cons.2 ⟨ha, r2⟩, fun x hx y hy => ?_⟩
    rcases List.mem_cons.1 hy with rfl | hy
    · exact hp.1 x hx
    · exact r3 x hx y hy
  · have e1 : out.find? (fun x => decide (x.1 = q)) = ((out.take k).find? (fun x => decide (x.1 = q))).or ((out.drop k).find? (fun x => decide (x.1 = q))) := by rw [← List.find?_append, List.take_append_drop]
    rw [List.find?_append, List.find?_append, ← h.2 q]
    by_cases hq : e.1 = q
    · rw [List.find?_cons_of_pos (by simpa using hq), List.find?_cons_of_pos (by simpa using hq)]
      have n0 : out.find? (fun x => decide (x.1 = q)) = none := List.find?_eq_none.2 (fun x hx hk => hno x hx (by rw [hq]; simpa using hk))
      have n1 : (out.take k).find? (fun x => decide (x.1 = q)) = none := List.find?_eq_none.2 (fun x hx hk => hno x (List.mem_of_mem_take hx) (by rw [hq]; simpa using hk))
      rw [n0, n1]
    · rw [List.find?_cons_of_neg (by simpa using hq), List.find?_cons_of_neg (by simpa using hq), e1]
      simp
end Go.Proofs.YtampnikdmgojjaaGreat.Sg
end

section
/-
  The document's Less of two names.
-/
namespace Go.Proofs.YtampnikdmgojjaaGreat.Sg
open Go.RowKit
open Sim (hid Kp No)

theorem lexB_drop (a b : List Int) (i : Nat) (ha : i < a.length) (hb : i < b.length) : lexB (a.drop i) (b.drop i) = if a.getD i 0 = b.getD i 0 then lexB (a.drop (i + 1)) (b.drop (i + 1)) else decide (a.getD i 0 < b.getD i 0) := by
  rw [List.drop_eq_getElem_cons ha, List.drop_eq_getElem_cons hb]
  simp only [lexB, List.getD_eq_getElem?_getD, List.getElem?_eq_getElem ha, List.getElem?_eq_getElem hb, Option.getD_some]
  by_cases h1 : a[i] < b[i]
  · rw [if_pos h1, if_neg (by omega), decide_eq_true h1]
  · rw [if_neg h1]
    by_cases h2 : b[i] < a[i]
    · rw [if_pos h2, if_neg (by omega), decide_eq_false h1]
    · rw [if_neg h2, if_pos (by omega)]

set_option maxHeartbeats 1000000 in
set_option maxRecDepth 100000 in
theorem less_any (a b : List Int) (w : World) (ha : a.length = 32) (hb : b.length = 32) :
    Calls Tryz.prog 42 #[.agg (b8 a).toArray, .agg (b8 b).toArray] w fun e w' => e = .returned (.bool (lexB a b)) ∧ Kp No w w' := by
  have HA := hid ha
  have HB := hid hb
  clear ha hb
  obtain ⟨ca, hca⟩ : ∃ c, b8 a = c := ⟨_, rfl⟩
  obtain ⟨cb, hcb⟩ : ∃ c, b8 b = c := ⟨_, rfl⟩
  have HCA := hid hca
  have HCB := hid hcb
  rw [hca, hcb]
  clear hca hcb
  obtain ⟨z, hz⟩ : ∃ z, lexB a b = z := ⟨_, rfl⟩
  rw [hz]
  have HZ := hid hz
  clear hz
  go_enter Tryz.func42, Tryz.ntmps42
  go_wp2_with fail
  obtain ⟨W1, hW1⟩ : ∃ W1, (w.alloc (.cells ca.toArray 46)).alloc (.cells cb.toArray 46) = W1 := ⟨_, rfl⟩
  have hs : W1.heap.size = w.heap.size + 2 := by rw [← hW1]; simp
  have HS := hid hs
  have HK : Hid (Kp No w W1) := by rw [← hW1]; exact ((Kp.refl No w).alloc _).alloc _
  have HC : Hid (∀ V, Kp No W1 V → ∀ i, i < 32 → V.cell? ⟨w.heap.size, i, none⟩ = some (.int .u8 (a.getD i 0)) ∧ V.cell? ⟨w.heap.size + 1, i, none⟩ = some (.int .u8 (b.getD i 0))) := fun V hV i hi => by
    have e1 : ca[i]? = some (.int .u8 (a.getD i 0)) := by rw [← HCA.out]; simp [b8, List.getElem?_eq_getElem (show i < a.length by rw [HA.out]; exact hi)]
    have e2 : cb[i]? = some (.int .u8 (b.getD i 0)) := by rw [← HCB.out]; simp [b8, List.getElem?_eq_getElem (show i < b.length by rw [HB.out]; exact hi)]
    refine ⟨(hV.cell (p := ⟨w.heap.size, i, none⟩) (by simp; omega) (fun x => x)).trans ?_, (hV.cell (p := ⟨w.heap.size + 1, i, none⟩) (by simp; omega) (fun x => x)).trans ?_⟩
    · rw [← hW1, World.cell?_alloc_lt _ _ _ (by simp), World.cell?_alloc_at _ _ _ _ rfl]
      simpa using e1
    · rw [← hW1, World.cell?_alloc_at _ _ _ _ (by simp)]
      simpa using e2
  rw [hW1]
  clear hW1 hs
  go_loopw [5] (fun x wr => ∃ i : Nat, x = .int .i64 i ∧ i ≤ 32 ∧ Hid (z = lexB (a.drop i) (b.drop i)) ∧ Hid (Kp No W1 wr)) (fun x _ => 32 - (intOf x).toNat)
  case atStart => exact ⟨0, rfl, by omega, HZ.out.symm, Kp.refl _ _⟩
  case round =>
    obtain ⟨i, rfl, hi, HI, HR⟩ := hrel
    by_cases hlt : i < 32
    · obtain ⟨c1, c2⟩ := HC.out wr HR.out i hlt
      have HL := hid (lexB_drop a b i (by rw [HA.out]; exact hlt) (by rw [HB.out]; exact hlt))
      generalize a.getD i 0 = x at *
      generalize b.getD i 0 = y at *
      have hltI : (i : Int) < 32 := by omega
      have h0I : (0 : Int) ≤ (i : Int) := by omega
      have hwk : IntKind.i64.wrap ((i : Int) + 1) = ((i + 1 : Nat) : Int) := by rw [IntKind.wrap_i64]; omega
      by_cases hxy : x = y
      · subst hxy
        go_wp2_with fail
        go_quiet (fail)
        go_wp2_with fail
        go_round
        case rel => exact ⟨i + 1, by first | rfl | go_num, by omega, by rw [Hid, HI.out, HL.out, if_pos trivial], HR.out.drewN _⟩
        case measure => simp [intOf]; omega
      · have hne : (x == y) = false := by simpa using hxy
        have hne2 : (x != y) = true := by simpa using hxy
        have HQ : Hid (z = decide (x < y)) := by rw [Hid, HI.out, HL.out, if_neg hxy]
        have HE := hid hxy
        clear hxy
        go_wp2_with fail
        go_quiet (fail)
        have HB2 : Hid (Kp No W1 (wr.drewN nq)) := HR.out.drewN nq
        obtain ⟨wq, hwq⟩ : ∃ wq, wr.drewN nq = wq := ⟨_, rfl⟩
        have d1 : wq.cell? ⟨w.heap.size, i, none⟩ = some (.int .u8 x) := by rw [← hwq]; simpa using c1
        have d2 : wq.cell? ⟨w.heap.size + 1, i, none⟩ = some (.int .u8 y) := by rw [← hwq]; simpa using c2
        rw [hwq] at HB2 ⊢
        clear hwq c1 c2
        go_wp2_with fail
        go_quiet (fail)
        go_wp2_with fail
        go_ret
        exact ⟨by rw [HQ.out]; rfl, HK.out.andNone (HB2.out.drewN _)⟩
    · have HQ : Hid (z = false) := by
        rw [Hid, HI.out, List.drop_eq_nil_of_le (by rw [HA.out]; omega), List.drop_eq_nil_of_le (by rw [HB.out]; omega)]
        rfl
      have hge : (32 : Int) ≤ (i : Int) := by omega
      go_wp2_with fail
      go_ret
      exact ⟨by rw [HQ.out]; rfl, HK.out.andNone HR.out⟩
end Go.Proofs.YtampnikdmgojjaaGreat.Sg
end
