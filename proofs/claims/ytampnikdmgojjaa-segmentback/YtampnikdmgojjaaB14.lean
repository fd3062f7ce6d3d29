/- Of the proof: the texts SgSame, SgWhere, SgBack, SgNil, SgAlive, SgBackM, SgBackL, FrOpen, SgOpen, one behind the other. -/
import Derived.Test.YtampnikdmgojjaaB5
import Derived.Deep.DeepCutAuto
import Derived.Test.YtampnikdmgojjaaB12
import Derived.Test.YtampnikdmgojjaaB9
import Derived.Test.YtampnikdmgojjaaB13
import Derived.ProofKit
import Derived.OpenShut
import Derived.Deep.Slices
import Derived.Deep.Strs
import Derived.Lib.SmallJoins
import Derived.WideKeyArr2
section
/-
  Two lists of the document's entries: are they the same?
-/
namespace Go.Proofs.Ytampnikdmgojjaa.Sg
open Go.RowKit
open Sim (hid Kp No)

theorem eqHashAt (D : Nat) (xs ys : List Int) (hx : xs.length = 32) (hy : ys.length = 32) (bx : ∀ x ∈ xs, 0 ≤ x ∧ x ≤ 255) (bY : ∀ x ∈ ys, 0 ≤ x ∧ x ≤ 255) (w : World) :
    (Op.equalIn (D + 2) 46 (.agg (b8 xs).toArray) (.agg (b8 ys).toArray)).run Try.prog w = .ok (decide (xs = ys)) w := by
  have h := run_equalIn_bytes (P := Try.prog) w D 46 5 32 Try.underlying46 Try.underlying5 Try.sizeOf5 (xs.map fun x => x.toNat.toUInt8) (ys.map fun x => x.toNat.toUInt8) (by simpa using hx) (by simpa using hy)
  rw [cells_b8 xs bx, cells_b8 ys bY] at h
  have e : ((xs.map fun x => x.toNat.toUInt8) == (ys.map fun x => x.toNat.toUInt8)) = decide (xs = ys) := by
    rw [Bool.eq_iff_iff]
    simp only [beq_iff_eq, decide_eq_true_eq]
    exact ⟨map_inj8 xs ys bx bY, fun e => by rw [e]⟩
  rw [e] at h
  exact h
theorem ent_take {x : Ent} (hx : EOk x) : (entC x).take 32 = b8 x.1 := by
  unfold entC
  rw [List.take_append_of_le_length (by rw [b8_length, hx.1]; omega), List.take_of_length_le (by rw [b8_length, hx.1]; omega)]
theorem ent_at {x : Ent} (hx : EOk x) (j : Nat) : (entC x)[32 + j]? = [Value.int .i64 x.2.1, .int .i64 x.2.2.1, .int .i64 x.2.2.2][j]? := by
  unfold entC
  rw [List.getElem?_append_right (by rw [b8_length, hx.1]; omega), b8_length, hx.1, Nat.add_sub_cancel_left]
theorem eqEnt {x y : Ent} (hx : EOk x) (hy : EOk y) (w : World) : (Op.equalIn 10000 75 (.agg (entC x).toArray) (.agg (entC y).toArray)).run Try.prog w = .ok (decide (x = y)) w := by
  have p1 := ent_take hx
  have p2 := ent_take hy
  have c0 : (entC x)[32]? = some (.int .i64 x.2.1) := ent_at hx 0
  have c1 : (entC x)[33]? = some (.int .i64 x.2.2.1) := ent_at hx 1
  have c2 : (entC x)[34]? = some (.int .i64 x.2.2.2) := ent_at hx 2
  have d0 : (entC y)[32]? = some (.int .i64 y.2.1) := ent_at hy 0
  have d1 : (entC y)[33]? = some (.int .i64 y.2.2.1) := ent_at hy 1
  have d2 : (entC y)[34]? = some (.int .i64 y.2.2.2) := ent_at hy 2
  have q1 : (Op.equalIn 9999 46 (.agg (b8 x.1).toArray) (.agg (b8 y.1).toArray)).run Try.prog w = .ok (decide (x.1 = y.1)) w := eqHashAt 9997 x.1 y.1 hx.1 hy.1 hx.2 hy.2 w
  generalize entC x = X at *
  generalize entC y = Y at *
  generalize b8 x.1 = bx at *
  generalize b8 y.1 = bY at *
  rw [show (10000 : Nat) = 9999 + 1 from rfl, Op.equalIn]
  go_simp
  clear hx hy c0 c1 c2 d0 d1 d2 q1 p1 p2
  obtain ⟨nm, p, q, r⟩ := x
  obtain ⟨nm', p', q', r'⟩ := y
  simp only [Prod.mk.injEq]
  by_cases e0 : nm = nm' <;> by_cases e1 : p = p' <;> by_cases e2 : q = q' <;> by_cases e3 : r = r' <;> simp [e0, e1, e2, e3]

theorem ev_row {P : Nat → Prop} {w : World} {a : Option Addr} {n c : Nat} {d : List Ent} (h : EV P w (.slice a n c) d) (hd : d ≠ []) : ∃ g o, a = some ⟨g, o, none⟩ ∧ P g ∧ ERow w g o d := by
  obtain ⟨a', c', e, _, _, _, _, h6⟩ := h
  simp only [Value.slice.injEq] at e
  rw [e.1]
  exact h6 hd

set_option maxHeartbeats 2000000 in
set_option maxRecDepth 100000 in
theorem same_any (w : World) (v v' : Value) (a b : List Ent) (P P' : Nat → Prop) (hv : EV P w v a) (hv' : EV P' w v' b) (hl : a.length ≤ 1000000) :
    Calls Try.prog 11 #[v, v'] w fun e w' => e = .returned (.bool (decide (a = b))) ∧ Kp No w w' := by
  have HV := hid hv
  have HV' := hid hv'
  obtain ⟨x1, c1, e1, _⟩ := hv
  obtain ⟨x2, c2, e2, _⟩ := hv'
  subst e1
  subst e2
  obtain ⟨n, hn⟩ : ∃ n, a.length = n := ⟨_, rfl⟩
  obtain ⟨m, hm⟩ : ∃ m, b.length = m := ⟨_, rfl⟩
  have HN := hid hn
  have HM := hid hm
  rw [hn] at HV hl ⊢
  rw [hm] at HV' ⊢
  clear hn hm
  obtain ⟨z, hz⟩ : ∃ z, decide (a = b) = z := ⟨_, rfl⟩
  rw [hz]
  have HZ := hid hz
  clear hz
  by_cases hnm : n = m
  · subst hnm
    go_enter Try.func11, Try.ntmps11
    go_wp2_with fail
    go_loopw [5] (fun v5 wr => ∃ (k : Nat), v5 = .int .i64 (k : Int) ∧ k ≤ n ∧ Hid (a.take k = b.take k) ∧ Hid (Kp No w wr)) (fun v5 _ => n - (intOf v5).toNat)
    case atStart => exact ⟨0, rfl, Nat.zero_le _, rfl, Kp.refl _ _⟩
    case round =>
      obtain ⟨k, rfl, hkn, HS, HK⟩ := hrel
      by_cases hlt : k < n
      · have hltI : (k : Int) < (n : Int) := by omega
        have hwk : IntKind.i64.wrap ((k : Int) + 1) = ((k + 1 : Nat) : Int) := by rw [IntKind.wrap_i64]; omega
        obtain ⟨x, hx⟩ : ∃ x, a[k]? = some x := ⟨_, List.getElem?_eq_getElem (by rw [HN.out]; exact hlt)⟩
        obtain ⟨y, hy⟩ : ∃ y, b[k]? = some y := ⟨_, List.getElem?_eq_getElem (by rw [HM.out]; exact hlt)⟩
        obtain ⟨g, o, rfl, _, hr⟩ := ev_row (HV.out.kept HK.out) (by intro e; have := HN.out; rw [e] at this; simp at this; omega)
        obtain ⟨g', o', rfl, _, hr'⟩ := ev_row (HV'.out.kept HK.out) (by intro e; have := HM.out; rw [e] at this; simp at this; omega)
        obtain ⟨hxo, hxr⟩ := hr.2 k x hx
        obtain ⟨hyo, hyr⟩ := hr'.2 k y hy
        have HQ := hid (fun W => eqEnt hxo hyo W)
        have hq := HQ.out
        have HX := hid hxr
        have HY := hid hyr
        have HI1 : Hid ((Try.prog.info? 75).map (·.size) = some (entC x).length) := by rw [Hid, entC_length hxo]; kernel_rfl
        have HI2 : Hid ((Try.prog.info? 75).map (·.size) = some (entC y).length) := by rw [Hid, entC_length hyo]; kernel_rfl
        have HGW := hid hr.1
        have HGW' := hid hr'.1
        have HGX := hid hx
        have HGY := hid hy
        clear hr hr' hxo hyo hxr hyr hx hy HQ
        obtain ⟨zz, hzz⟩ : ∃ zz, decide (x = y) = zz := ⟨_, rfl⟩
        rw [hzz] at hq
        have HZZ := hid hzz
        clear hzz
        generalize entC x = X at *
        generalize entC y = Y at *
        have HLX : Hid (∀ V, Kp No wr V → V.rangeAt g (o + k * 35) X) := fun V hV j u hj => (hV.cell (p := ⟨g, _, none⟩) HGW.out (fun x => x)).trans (HX.out j u hj)
        have HLY : Hid (∀ V, Kp No wr V → V.rangeAt g' (o' + k * 35) Y) := fun V hV j u hj => (hV.cell (p := ⟨g', _, none⟩) HGW'.out (fun x => x)).trans (HY.out j u hj)
        cases zz with
        | true =>
          have HN2 : Hid (a.take (k + 1) = b.take (k + 1)) := by
            rw [Hid, List.take_add_one, List.take_add_one, HS.out, HGX.out, HGY.out, of_decide_eq_true HZZ.out]
          go_wp2_with fail
          refine wp_region_held_drew (S := fun V => Kp No wr V) (by kernel_rfl) ((Kp.refl _ _).drew) (fun hHeld => ?_)
          refine wpAnyH_take (i := 0) (oi := { dst := some 17, op := Op.move (Operand.tmp 0), type := 22, pos := "ref.go:148", after := #[], guard := none }) (v := .slice (some ⟨g, o, none⟩) n c1) rfl (by kernel_rfl) (by kernel_rfl) (by kernel_rfl) (fun _ _ _ h => h) (Or.inl ⟨by rfl, fun w' hw' => by (clear hw'; go_simp)⟩) hHeld ?_
          simp only [Act.put, List.setIfInBounds_toArray, List.set_cons_zero, List.set_cons_succ]
          refine wpAnyH_take (i := 1) (oi := { dst := some 18, op := Op.move (Operand.tmp 5), type := 3, pos := "ref.go:148", after := #[], guard := none }) (v := .int .i64 (k : Int)) rfl (by kernel_rfl) (by kernel_rfl) (by kernel_rfl) (fun _ _ _ h => h) (Or.inl ⟨by rfl, fun w' hw' => by (clear hw'; go_simp)⟩) hHeld ?_
          simp only [Act.put, List.setIfInBounds_toArray, List.set_cons_zero, List.set_cons_succ]
          refine wpAnyH_take (i := 2) (oi := { dst := some 19, op := Op.indexAddr 22 (Operand.tmp 17) (Operand.tmp 18), type := 0, pos := "ref.go:148", after := #[{ on := 0, ground := Ground.data }, { on := 1, ground := Ground.data }], guard := none }) (v := .pointer (some ⟨g, o + k * 35, none⟩)) rfl (by kernel_rfl) (by kernel_rfl) (by kernel_rfl) (fun _ _ _ h => h) (Or.inl ⟨by rfl, fun w' hw' => by (clear hw'; go_simp)⟩) hHeld ?_
          simp only [Act.put, List.setIfInBounds_toArray, List.set_cons_zero, List.set_cons_succ]
          refine wpAnyH_take (i := 3) (oi := { dst := some 20, op := Op.load 75 (Operand.tmp 19), type := 75, pos := "ref.go:148", after := #[{ on := 2, ground := Ground.data }], guard := none }) (v := .agg X.toArray) rfl (by kernel_rfl) (by kernel_rfl) (by kernel_rfl) (fun _ _ _ h => h) (yieldsIf_load_mid (by rfl) _ _ rfl g (o + k * 35) rfl X _ (HLX.out) Try.underlying75 rfl HI1.out) hHeld ?_
          simp only [Act.put, List.setIfInBounds_toArray, List.set_cons_zero, List.set_cons_succ]
          refine wpAnyH_take (i := 4) (oi := { dst := some 21, op := Op.move (Operand.tmp 1), type := 22, pos := "ref.go:148", after := #[], guard := none }) (v := .slice (some ⟨g', o', none⟩) n c2) rfl (by kernel_rfl) (by kernel_rfl) (by kernel_rfl) (fun _ _ _ h => h) (Or.inl ⟨by rfl, fun w' hw' => by (clear hw'; go_simp)⟩) hHeld ?_
          simp only [Act.put, List.setIfInBounds_toArray, List.set_cons_zero, List.set_cons_succ]
          refine wpAnyH_take (i := 5) (oi := { dst := some 22, op := Op.move (Operand.tmp 5), type := 3, pos := "ref.go:148", after := #[], guard := none }) (v := .int .i64 (k : Int)) rfl (by kernel_rfl) (by kernel_rfl) (by kernel_rfl) (fun _ _ _ h => h) (Or.inl ⟨by rfl, fun w' hw' => by (clear hw'; go_simp)⟩) hHeld ?_
          simp only [Act.put, List.setIfInBounds_toArray, List.set_cons_zero, List.set_cons_succ]
          refine wpAnyH_take (i := 6) (oi := { dst := some 23, op := Op.indexAddr 22 (Operand.tmp 21) (Operand.tmp 22), type := 0, pos := "ref.go:148", after := #[{ on := 4, ground := Ground.data }, { on := 5, ground := Ground.data }], guard := none }) (v := .pointer (some ⟨g', o' + k * 35, none⟩)) rfl (by kernel_rfl) (by kernel_rfl) (by kernel_rfl) (fun _ _ _ h => h) (Or.inl ⟨by rfl, fun w' hw' => by (clear hw'; go_simp)⟩) hHeld ?_
          simp only [Act.put, List.setIfInBounds_toArray, List.set_cons_zero, List.set_cons_succ]
          refine wpAnyH_take (i := 7) (oi := { dst := some 24, op := Op.load 75 (Operand.tmp 23), type := 75, pos := "ref.go:148", after := #[{ on := 6, ground := Ground.data }], guard := none }) (v := .agg Y.toArray) rfl (by kernel_rfl) (by kernel_rfl) (by kernel_rfl) (fun _ _ _ h => h) (yieldsIf_load_mid (by rfl) _ _ rfl g' (o' + k * 35) rfl Y _ (HLY.out) Try.underlying75 rfl HI2.out) hHeld ?_
          simp only [Act.put, List.setIfInBounds_toArray, List.set_cons_zero, List.set_cons_succ]
          refine wpAnyH_take (i := 8) (oi := { dst := some 25, op := Op.binOp BinOp.neq 75 (Operand.tmp 20) (Operand.tmp 24) 75, type := 4, pos := "ref.go:148", after := #[{ on := 3, ground := Ground.data }, { on := 7, ground := Ground.data }], guard := none }) (v := .bool false) rfl (by kernel_rfl) (by kernel_rfl) (by kernel_rfl) (fun _ _ _ h => h) (Or.inl ⟨by rfl, fun w' hw' => by (clear hw'; go_simp)⟩) hHeld ?_
          simp only [Act.put, List.setIfInBounds_toArray, List.set_cons_zero, List.set_cons_succ]
          refine wpAnyH_done (by kernel_rfl) ?_ _
          clear hHeld
          go_wp2_with fail
          go_round
          case rel => exact ⟨k + 1, by first | rfl | go_num, by omega, HN2.out, HK.out.drew⟩
          case measure => simp [intOf]; omega
        | false =>
          have HNO : Hid (z = false) := by
            rw [Hid, ← HZ.out, decide_eq_false_iff_not]
            intro e
            have h1 := HGX.out
            rw [e, HGY.out] at h1
            cases h1
            have h2 := HZZ.out
            simp at h2
          go_wp2_with fail
          refine wp_region_held_drew (S := fun V => Kp No wr V) (by kernel_rfl) ((Kp.refl _ _).drew) (fun hHeld => ?_)
          refine wpAnyH_take (i := 0) (oi := { dst := some 17, op := Op.move (Operand.tmp 0), type := 22, pos := "ref.go:148", after := #[], guard := none }) (v := .slice (some ⟨g, o, none⟩) n c1) rfl (by kernel_rfl) (by kernel_rfl) (by kernel_rfl) (fun _ _ _ h => h) (Or.inl ⟨by rfl, fun w' hw' => by (clear hw'; go_simp)⟩) hHeld ?_
          simp only [Act.put, List.setIfInBounds_toArray, List.set_cons_zero, List.set_cons_succ]
          refine wpAnyH_take (i := 1) (oi := { dst := some 18, op := Op.move (Operand.tmp 5), type := 3, pos := "ref.go:148", after := #[], guard := none }) (v := .int .i64 (k : Int)) rfl (by kernel_rfl) (by kernel_rfl) (by kernel_rfl) (fun _ _ _ h => h) (Or.inl ⟨by rfl, fun w' hw' => by (clear hw'; go_simp)⟩) hHeld ?_
          simp only [Act.put, List.setIfInBounds_toArray, List.set_cons_zero, List.set_cons_succ]
          refine wpAnyH_take (i := 2) (oi := { dst := some 19, op := Op.indexAddr 22 (Operand.tmp 17) (Operand.tmp 18), type := 0, pos := "ref.go:148", after := #[{ on := 0, ground := Ground.data }, { on := 1, ground := Ground.data }], guard := none }) (v := .pointer (some ⟨g, o + k * 35, none⟩)) rfl (by kernel_rfl) (by kernel_rfl) (by kernel_rfl) (fun _ _ _ h => h) (Or.inl ⟨by rfl, fun w' hw' => by (clear hw'; go_simp)⟩) hHeld ?_
          simp only [Act.put, List.setIfInBounds_toArray, List.set_cons_zero, List.set_cons_succ]
          refine wpAnyH_take (i := 3) (oi := { dst := some 20, op := Op.load 75 (Operand.tmp 19), type := 75, pos := "ref.go:148", after := #[{ on := 2, ground := Ground.data }], guard := none }) (v := .agg X.toArray) rfl (by kernel_rfl) (by kernel_rfl) (by kernel_rfl) (fun _ _ _ h => h) (yieldsIf_load_mid (by rfl) _ _ rfl g (o + k * 35) rfl X _ (HLX.out) Try.underlying75 rfl HI1.out) hHeld ?_
          simp only [Act.put, List.setIfInBounds_toArray, List.set_cons_zero, List.set_cons_succ]
          refine wpAnyH_take (i := 4) (oi := { dst := some 21, op := Op.move (Operand.tmp 1), type := 22, pos := "ref.go:148", after := #[], guard := none }) (v := .slice (some ⟨g', o', none⟩) n c2) rfl (by kernel_rfl) (by kernel_rfl) (by kernel_rfl) (fun _ _ _ h => h) (Or.inl ⟨by rfl, fun w' hw' => by (clear hw'; go_simp)⟩) hHeld ?_
          simp only [Act.put, List.setIfInBounds_toArray, List.set_cons_zero, List.set_cons_succ]
          refine wpAnyH_take (i := 5) (oi := { dst := some 22, op := Op.move (Operand.tmp 5), type := 3, pos := "ref.go:148", after := #[], guard := none }) (v := .int .i64 (k : Int)) rfl (by kernel_rfl) (by kernel_rfl) (by kernel_rfl) (fun _ _ _ h => h) (Or.inl ⟨by rfl, fun w' hw' => by (clear hw'; go_simp)⟩) hHeld ?_
          simp only [Act.put, List.setIfInBounds_toArray, List.set_cons_zero, List.set_cons_succ]
          refine wpAnyH_take (i := 6) (oi := { dst := some 23, op := Op.indexAddr 22 (Operand.tmp 21) (Operand.tmp 22), type := 0, pos := "ref.go:148", after := #[{ on := 4, ground := Ground.data }, { on := 5, ground := Ground.data }], guard := none }) (v := .pointer (some ⟨g', o' + k * 35, none⟩)) rfl (by kernel_rfl) (by kernel_rfl) (by kernel_rfl) (fun _ _ _ h => h) (Or.inl ⟨by rfl, fun w' hw' => by (clear hw'; go_simp)⟩) hHeld ?_
          simp only [Act.put, List.setIfInBounds_toArray, List.set_cons_zero, List.set_cons_succ]
          refine wpAnyH_take (i := 7) (oi := { dst := some 24, op := Op.load 75 (Operand.tmp 23), type := 75, pos := "ref.go:148", after := #[{ on := 6, ground := Ground.data }], guard := none }) (v := .agg Y.toArray) rfl (by kernel_rfl) (by kernel_rfl) (by kernel_rfl) (fun _ _ _ h => h) (yieldsIf_load_mid (by rfl) _ _ rfl g' (o' + k * 35) rfl Y _ (HLY.out) Try.underlying75 rfl HI2.out) hHeld ?_
          simp only [Act.put, List.setIfInBounds_toArray, List.set_cons_zero, List.set_cons_succ]
          refine wpAnyH_take (i := 8) (oi := { dst := some 25, op := Op.binOp BinOp.neq 75 (Operand.tmp 20) (Operand.tmp 24) 75, type := 4, pos := "ref.go:148", after := #[{ on := 3, ground := Ground.data }, { on := 7, ground := Ground.data }], guard := none }) (v := .bool true) rfl (by kernel_rfl) (by kernel_rfl) (by kernel_rfl) (fun _ _ _ h => h) (Or.inl ⟨by rfl, fun w' hw' => by (clear hw'; go_simp)⟩) hHeld ?_
          simp only [Act.put, List.setIfInBounds_toArray, List.set_cons_zero, List.set_cons_succ]
          refine wpAnyH_done (by kernel_rfl) ?_ _
          clear hHeld
          go_wp2_with fail
          go_ret
          exact ⟨by rw [HNO.out]; rfl, HK.out.drew⟩
      · have hltI : ¬ (k : Int) < (n : Int) := by omega
        have HYE : Hid (z = true) := by
          rw [Hid, ← HZ.out, decide_eq_true_eq]
          have h := HS.out
          rwa [List.take_of_length_le (by rw [HN.out]; omega), List.take_of_length_le (by rw [HM.out]; omega)] at h
        go_wp2_with fail
        go_ret
        exact ⟨by rw [HYE.out]; rfl, HK.out⟩
  · have hne : ((n : Int) != (m : Int)) = true := by simp; omega
    have HNO : Hid (z = false) := by
      rw [Hid, ← HZ.out, decide_eq_false_iff_not]
      intro e
      exact hnm (by rw [← HN.out, ← HM.out, e])
    go_enter Try.func11, Try.ntmps11
    go_wp2_with fail
    go_ret
    exact ⟨by rw [HNO.out]; rfl, Kp.refl _ _⟩
end Go.Proofs.Ytampnikdmgojjaa.Sg
end

section
/-
  Where of the tenth law: a place of the program's type as the document's.
-/
namespace Go.Proofs.Ytampnikdmgojjaa.Sg
open Go.RowKit
open Sim (hid Kp No)

set_option maxHeartbeats 1000000 in
set_option maxRecDepth 100000 in
theorem where_any (p q r : Int) (w : World) :
    Calls Try.prog 27 #[.agg #[.int .i64 p, .int .i64 q, .int .i64 r]] w fun e w' => e = .returned (.agg #[.int .i64 p, .int .i64 q, .int .i64 r]) ∧ Kp No w w' := by
  go_enter Try.func27, Try.ntmps27
  go_wp2
  refine bodyPost_ret (v := .agg #[.int .i64 p, .int .i64 q, .int .i64 r]) (by simp [results, Try.results27, go_sem]) rfl ⟨rfl, ?_⟩
  exact ((Kp.refl No w).alloc _).alloc _
end Go.Proofs.Ytampnikdmgojjaa.Sg
end

section
/-
  Back of the tenth law: entries of the program's type as the document's.
-/
namespace Go.Proofs.Ytampnikdmgojjaa.Sg
open Go.RowKit
open Stb (Stab Srt Mrg)
open Sim (hid Kp No)

theorem infoR : (Try.prog.info? 75).map (fun i => (i.zero, i.size, i.bytes)) = some (some (.agg zE.toArray), 35, 56) := by kernel_rfl
theorem builtR (nm : List Int) (p q r : Int) (h : nm.length = 32) : Try.prog.built 75 [(0, .agg (b8 nm).toArray), (1, .agg #[.int .i64 p, .int .i64 q, .int .i64 r])] = some (entC (nm, p, q, r)).toArray := by
  obtain ⟨x0, x1, x2, x3, x4, x5, x6, x7, x8, x9, x10, x11, x12, x13, x14, x15, x16, x17, x18, x19, x20, x21, x22, x23, x24, x25, x26, x27, x28, x29, x30, x31, rfl⟩ := x32 h
  kernel_rfl
theorem run_oneR (nm : List Int) (p q r : Int) (h : nm.length = 32) (w : World) : (Instr.buildSlice 22 1 #[(0, .agg (entC (nm, p, q, r)).toArray)]).run Try.prog w = .ok (.slice (some ⟨w.heap.size, 0, none⟩) 1 1) (w.alloc (.cells (entC (nm, p, q, r)).toArray 75)) := by
  obtain ⟨x0, x1, x2, x3, x4, x5, x6, x7, x8, x9, x10, x11, x12, x13, x14, x15, x16, x17, x18, x19, x20, x21, x22, x23, x24, x25, x26, x27, x28, x29, x30, x31, rfl⟩ := x32 h
  kernel_rfl
theorem own_rowT {ty : TypeId} {w : World} {g n cap : Nat} {d : List Ent} (h : Sim.Row w ty 35 (.slice (some ⟨g, 0, none⟩) n cap) n (ents d)) (hn : d.length = n) (hd : ∀ e ∈ d, EOk e) : EOwn w g 0 d := by
  have hg : g < w.heap.size := h.lt g rfl
  refine ⟨⟨hg, fun i e hi => ⟨hd e (List.mem_of_getElem? hi), fun j u hj => ?_⟩⟩, fun i hi j hj => ?_⟩
  · have hil := (List.getElem?_eq_some_iff.1 hi).1
    have hjl := (List.getElem?_eq_some_iff.1 hj).1
    rw [entC_length (hd e (List.mem_of_getElem? hi))] at hjl
    rw [Nat.zero_add, h.cellAt (i * 35 + j) (by omega), ents_at d hd i j e hi hjl]
    exact hj
  · have hx : ∃ u, (ents d)[i * 35 + j]? = some u := ⟨_, List.getElem?_eq_getElem (by rw [ents_length d hd]; omega)⟩
    obtain ⟨u, hu⟩ := hx
    rw [Nat.zero_add, h.cellAt (i * 35 + j) (by omega), hu]
    exact ⟨rfl, World.ownsRow.frozenAt h _⟩
theorem ev_of_rowT {ty : TypeId} {w : World} {v : Value} {d : List Ent} {P : Nat → Prop} (h : Sim.Row w ty 35 v d.length (ents d)) (hd : ∀ e ∈ d, EOk e) (hP : ∀ x, v.ownBlock = some x → P x) : EV P w v d := by
  obtain ⟨a, cap, rfl, h2, h3, h4, h5⟩ := h.shape
  refine ⟨a, cap, rfl, h2, h3, fun e => ⟨List.length_eq_zero_iff.1 (h4 e).1, (h4 e).2⟩, hd, fun hne => ?_⟩
  cases a with
  | none => exact absurd (List.length_eq_zero_iff.1 (h4 rfl).1) hne
  | some x =>
    obtain ⟨g, o, sp⟩ := x
    obtain ⟨e1, e2⟩ := h5 _ rfl
    cases e1
    cases e2
    exact ⟨g, 0, rfl, hP g rfl, (own_rowT h rfl hd).1⟩

/-- A row of the document's entries, of the call's own, that began at u. -/
def MineR (u w : World) (v : Value) (d : List Ent) : Prop := Sim.Row w 75 35 v d.length (ents d) ∧ (∀ x, v.ownBlock = some x → u.heap.size ≤ x) ∧ Kp No u w
theorem MineR.nil (w : World) : MineR w w (.slice none 0 0) [] := ⟨Sim.Row.nil _ _ _, by intro x hx; simp [Value.ownBlock] at hx, Kp.refl _ _⟩
theorem app_runR (w : World) (ty : TypeId) (v vx : Value) (n m : Nat) (xs ys : List Value) (hown : Sim.Row w 75 35 v n xs) (hy : Sim.Src w vx m 35 ys) (hm : 0 < m) (hlen : n + m ≤ 2000000) :
    ∃ ad cap w', (Builtin.append_ #[22, 22] ty #[v, vx]).run Try.prog w = .ok (.slice ad (n + m) cap) w' ∧ Sim.Row w' 75 35 (.slice ad (n + m) cap) (n + m) (xs ++ ys) ∧ w.grownBy w' v.ownBlock ∧ ((Value.slice ad (n + m) cap).ownBlock = v.ownBlock ∨ (Value.slice ad (n + m) cap).ownBlock = some w.heap.size) := by
  obtain ⟨i0, hi, hz0, hz1', hz2⟩ := info_parts infoR
  rcases hy with ⟨rfl, rfl, rfl⟩ | ⟨ad, c, rfl, hl, hc, h1⟩
  · omega
  · obtain ⟨v', w', hr, h8, h9, _, h10⟩ := run_append_own_at (P := Try.prog) w 0 22 ty 75 i0 (.agg zE.toArray) 35 56 Try.underlying22 hi hz0 hz1' hz2 rfl (by omega) v n xs hown ad m c ys hl hc h1 (by unfold maxLen; omega) (by omega) (Nat.zero_le _)
    have h8' : Sim.Row w' 75 35 v' (n + m) (xs ++ ys) := h8
    obtain ⟨ad', cap', rfl, _⟩ := h8'.shape
    exact ⟨ad', cap', w', hr, h8, h9, h10⟩

/-- One more of the document's entries behind those that there are. -/
theorem next_R {w wr W1 : World} {ad : Option Addr} {k cap : Nat} {xs : List Ent} {e : Ent} (hM : MineR w wr (.slice ad k cap) xs) (hxk : xs.length = k) (hW : Kp No wr W1) (heo : EOk e) (hk : k ≤ 1000000) (ty : TypeId) :
    ∃ ad2 cap2 w2, (Builtin.append_ #[22, 22] ty #[.slice ad k cap, .slice (some ⟨W1.heap.size, 0, none⟩) 1 1]).run Try.prog (W1.alloc (.cells (entC e).toArray 75)) = .ok (.slice ad2 (k + 1) cap2) w2 ∧
      Kp (fun x => (Value.slice ad k cap).ownBlock = some x) wr w2 ∧ MineR w w2 (.slice ad2 (k + 1) cap2) (xs ++ [e]) := by
  have hRA : Sim.Row (W1.alloc (.cells (entC e).toArray 75)) 75 35 (.slice ad k cap) k (ents xs) := by
    have := hM.1
    rw [hxk] at this
    exact this.kept (hW.alloc _)
  have hSC : Sim.Src (W1.alloc (.cells (entC e).toArray 75)) (.slice (some ⟨W1.heap.size, 0, none⟩) 1 1) 1 35 (entC e) := Sim.Src.one W1 (entC e) 35 75 (entC_length heo) (entC_one _)
  obtain ⟨ad2, cap2, w2, hap, hrow2, hgr2, hown2⟩ := app_runR _ ty (.slice ad k cap) (.slice (some ⟨W1.heap.size, 0, none⟩) 1 1) k 1 _ _ hRA hSC (by omega) (by omega)
  have HKA : Kp (fun x => (Value.slice ad k cap).ownBlock = some x) wr (W1.alloc (.cells (entC e).toArray 75)) := (hW.ofNo).alloc _
  have HK2 : Kp (fun x => (Value.slice ad k cap).ownBlock = some x) wr w2 := HKA.grown hgr2 (fun x hx => .inl hx)
  refine ⟨ad2, cap2, w2, hap, HK2, ?_, fun x hx => ?_, hM.2.2.trans HK2 (fun x hx => .inr (hM.2.1 x hx))⟩
  · rw [List.length_append, hxk, ents_append]
    have : ents [e] = entC e := by simp [ents]
    rw [this]
    exact hrow2
  · rcases hown2 with e1 | e1
    · exact hM.2.1 x (by rw [← e1]; exact hx)
    · rw [e1] at hx
      cases hx
      exact Nat.le_trans hM.2.2.size HKA.size

set_option maxHeartbeats 4000000 in
set_option maxRecDepth 100000 in
theorem back_any (w : World) (v : Value) (d : List Ent) (P : Nat → Prop) (hv : EV P w v d) (hl : d.length ≤ 1000000) :
    Calls Try.prog 12 #[v] w fun e w' => ∃ r, e = .returned r ∧ MineR w w' r d := by
  obtain ⟨a, c, rfl, h2, h3, h4, h5, h6⟩ := hv
  obtain ⟨n, hn⟩ : ∃ n, d.length = n := ⟨_, rfl⟩
  have HN := hid hn
  rw [hn] at hl ⊢
  have H6 := hid h6
  have HM0 : Hid (MineR w w (.slice none 0 0) (d.take 0)) := MineR.nil w
  clear hn h2 h3 h4 h5 h6
  go_enter Try.func12, Try.ntmps12
  go_wp2_with fail
  go_loopw [3, 4] (fun v3 v4 wr => ∃ (k : Nat) (ad : Option Addr) (cap : Nat), v3 = .slice ad k cap ∧ v4 = .int .i64 (k : Int) ∧ k ≤ n ∧ Hid (MineR w wr (.slice ad k cap) (d.take k))) (fun _ v4 _ => n - (intOf v4).toNat)
  case atStart => exact ⟨0, none, 0, rfl, rfl, Nat.zero_le _, HM0.out⟩
  case round =>
    obtain ⟨k, ad, cap, rfl, rfl, hkn, HS⟩ := hrel
    by_cases hlt : k < n
    · have hltI : (k : Int) < (n : Int) := by omega
      have hwk : IntKind.i64.wrap ((k : Int) + 1) = ((k + 1 : Nat) : Int) := by rw [IntKind.wrap_i64]; omega
      obtain ⟨g, o, rfl, _, hr⟩ := H6.out (by intro e; have := HN.out; rw [e] at this; simp at this; omega)
      obtain ⟨e, he⟩ : ∃ e, d[k]? = some e := ⟨_, List.getElem?_eq_getElem (by rw [HN.out]; exact hlt)⟩
      obtain ⟨heo, _⟩ := hr.2 k e he
      obtain ⟨nm, p, q, r⟩ := e
      have hnm : nm.length = 32 := heo.1
      have hgO : (Value.slice ad k cap).ownBlock ≠ some g := fun e => by have := HS.out.2.1 g e; have := hr.1; omega
      have hgw : g < wr.heap.size := Nat.lt_of_lt_of_le hr.1 HS.out.2.2.size
      have hrow : ∀ V, Kp (fun x => (Value.slice ad k cap).ownBlock = some x) wr V → V.rangeAt g (o + k * 35) (entC (nm, p, q, r)) := fun V hV j u hu => (hV.cell (p := ⟨g, _, none⟩) hgw hgO).trans (((hr.kp HS.out.2.2 (fun x => x)).2 k _ he).2 j u hu)
      have HLX : Hid (∀ V, Kp (fun x => (Value.slice ad k cap).ownBlock = some x) wr V → V.rangeAt g (o + k * 35) (b8 nm)) := fun V hV => rng_name (hrow V hV)
      have HLP : Hid (∀ V, Kp (fun x => (Value.slice ad k cap).ownBlock = some x) wr V → V.rangeAt g (o + k * 35 + 32) [.int .i64 p, .int .i64 q, .int .i64 r]) := fun V hV => rng_place heo (hrow V hV)
      have HI1 : Hid ((Try.prog.info? 46).map (·.size) = some (b8 nm).length) := by rw [Hid, b8_length, hnm]; exact infH
      have HIW : Hid ((Try.prog.info? 42).map (·.size) = some [Value.int .i64 p, .int .i64 q, .int .i64 r].length) := infW (nm, p, q, r)
      have HB1 := hid (builtR nm p q r hnm)
      have HB2 := hid (fun W => run_oneR nm p q r hnm W)
      have hkl : (d.take k).length = k := by rw [List.length_take, HN.out]; omega
      have HNX : Hid (d.take (k + 1) = d.take k ++ [(nm, p, q, r)]) := by rw [Hid, List.take_add_one, he]; rfl
      have HNE : Hid (∀ W1, Kp No wr W1 → ∃ ad2 cap2 w2, (Builtin.append_ #[22, 22] 22 #[.slice ad k cap, .slice (some ⟨W1.heap.size, 0, none⟩) 1 1]).run Try.prog (W1.alloc (.cells (entC (nm, p, q, r)).toArray 75)) = .ok (.slice ad2 (k + 1) cap2) w2 ∧
          Kp (fun x => (Value.slice ad k cap).ownBlock = some x) wr w2 ∧ MineR w w2 (.slice ad2 (k + 1) cap2) (d.take (k + 1))) := fun W1 hW => by
        rw [HNX.out]
        exact next_R HS.out hkl hW heo (by omega) _
      obtain ⟨C, hC⟩ : ∃ C, entC (nm, p, q, r) = C := ⟨_, rfl⟩
      rw [hC] at HB1 HB2 HNE
      clear hC hkl hrow hr he heo hgO hgw HNX HS
      generalize b8 nm = bx at *
      go_wp2_with fail
      refine wp_region_held_drew (S := fun V => Kp (fun x => (Value.slice ad k cap).ownBlock = some x) wr V) (by kernel_rfl) ((Kp.refl _ _).drew) (fun hHeld => ?_)
      refine wpAnyH_take (i := 0) (oi := { dst := some 11, op := Op.move (Operand.tmp 3), type := 22, pos := "law.go:28", after := #[], guard := none }) (v := .slice ad k cap) rfl (by kernel_rfl) (by kernel_rfl) (by kernel_rfl) (fun _ _ _ h => h) (Or.inl ⟨by rfl, fun w' hw' => by (clear hw'; go_simp)⟩) hHeld ?_
      simp only [Act.put, List.setIfInBounds_toArray, List.set_cons_zero, List.set_cons_succ]
      refine wpAnyH_take (i := 1) (oi := { dst := some 12, op := Op.move (Operand.tmp 0), type := 27, pos := "law.go:28", after := #[], guard := none }) (v := .slice (some ⟨g, o, none⟩) n c) rfl (by kernel_rfl) (by kernel_rfl) (by kernel_rfl) (fun _ _ _ h => h) (Or.inl ⟨by rfl, fun w' hw' => by (clear hw'; go_simp)⟩) hHeld ?_
      simp only [Act.put, List.setIfInBounds_toArray, List.set_cons_zero, List.set_cons_succ]
      refine wpAnyH_take (i := 2) (oi := { dst := some 13, op := Op.move (Operand.tmp 4), type := 3, pos := "law.go:28", after := #[], guard := none }) (v := .int .i64 (k : Int)) rfl (by kernel_rfl) (by kernel_rfl) (by kernel_rfl) (fun _ _ _ h => h) (Or.inl ⟨by rfl, fun w' hw' => by (clear hw'; go_simp)⟩) hHeld ?_
      simp only [Act.put, List.setIfInBounds_toArray, List.set_cons_zero, List.set_cons_succ]
      refine wpAnyH_take (i := 3) (oi := { dst := some 14, op := Op.indexAddr 27 (Operand.tmp 12) (Operand.tmp 13), type := 0, pos := "law.go:28", after := #[{ on := 1, ground := Ground.data }, { on := 2, ground := Ground.data }], guard := none }) (v := .pointer (some ⟨g, o + k * 35, none⟩)) rfl (by kernel_rfl) (by kernel_rfl) (by kernel_rfl) (fun _ _ _ h => h) (Or.inl ⟨by rfl, fun w' hw' => by (clear hw'; go_simp)⟩) hHeld ?_
      simp only [Act.put, List.setIfInBounds_toArray, List.set_cons_zero, List.set_cons_succ]
      refine wpAnyH_take (i := 4) (oi := { dst := some 15, op := Op.fieldAddr 48 (Operand.tmp 14) 0, type := 0, pos := "law.go:28", after := #[{ on := 3, ground := Ground.data }], guard := none }) (v := .pointer (some ⟨g, o + k * 35, none⟩)) rfl (by kernel_rfl) (by kernel_rfl) (by kernel_rfl) (fun _ _ _ h => h) (Or.inl ⟨by rfl, fun w' hw' => by (clear hw'; go_simp)⟩) hHeld ?_
      simp only [Act.put, List.setIfInBounds_toArray, List.set_cons_zero, List.set_cons_succ]
      refine wpAnyH_take (i := 5) (oi := { dst := some 16, op := Op.load 46 (Operand.tmp 15), type := 46, pos := "law.go:28", after := #[{ on := 4, ground := Ground.data }], guard := none }) (v := .agg bx.toArray) rfl (by kernel_rfl) (by kernel_rfl) (by kernel_rfl) (fun _ _ _ h => h) (yieldsIf_load_mid (by rfl) _ _ rfl g (o + k * 35) rfl bx _ (HLX.out) Try.underlying46 rfl HI1.out) hHeld ?_
      simp only [Act.put, List.setIfInBounds_toArray, List.set_cons_zero, List.set_cons_succ]
      refine wpAnyH_take (i := 6) (oi := { dst := some 17, op := Op.move (Operand.tmp 0), type := 27, pos := "law.go:28", after := #[], guard := none }) (v := .slice (some ⟨g, o, none⟩) n c) rfl (by kernel_rfl) (by kernel_rfl) (by kernel_rfl) (fun _ _ _ h => h) (Or.inl ⟨by rfl, fun w' hw' => by (clear hw'; go_simp)⟩) hHeld ?_
      simp only [Act.put, List.setIfInBounds_toArray, List.set_cons_zero, List.set_cons_succ]
      refine wpAnyH_take (i := 7) (oi := { dst := some 18, op := Op.move (Operand.tmp 4), type := 3, pos := "law.go:28", after := #[], guard := none }) (v := .int .i64 (k : Int)) rfl (by kernel_rfl) (by kernel_rfl) (by kernel_rfl) (fun _ _ _ h => h) (Or.inl ⟨by rfl, fun w' hw' => by (clear hw'; go_simp)⟩) hHeld ?_
      simp only [Act.put, List.setIfInBounds_toArray, List.set_cons_zero, List.set_cons_succ]
      refine wpAnyH_take (i := 8) (oi := { dst := some 19, op := Op.indexAddr 27 (Operand.tmp 17) (Operand.tmp 18), type := 0, pos := "law.go:28", after := #[{ on := 6, ground := Ground.data }, { on := 7, ground := Ground.data }], guard := none }) (v := .pointer (some ⟨g, o + k * 35, none⟩)) rfl (by kernel_rfl) (by kernel_rfl) (by kernel_rfl) (fun _ _ _ h => h) (Or.inl ⟨by rfl, fun w' hw' => by (clear hw'; go_simp)⟩) hHeld ?_
      simp only [Act.put, List.setIfInBounds_toArray, List.set_cons_zero, List.set_cons_succ]
      refine wpAnyH_take (i := 9) (oi := { dst := some 20, op := Op.fieldAddr 48 (Operand.tmp 19) 1, type := 0, pos := "law.go:28", after := #[{ on := 8, ground := Ground.data }], guard := none }) (v := .pointer (some ⟨g, o + k * 35 + 32, none⟩)) rfl (by kernel_rfl) (by kernel_rfl) (by kernel_rfl) (fun _ _ _ h => h) (Or.inl ⟨by rfl, fun w' hw' => by (clear hw'; go_simp)⟩) hHeld ?_
      simp only [Act.put, List.setIfInBounds_toArray, List.set_cons_zero, List.set_cons_succ]
      refine wpAnyH_take (i := 10) (oi := { dst := some 21, op := Op.load 42 (Operand.tmp 20), type := 42, pos := "law.go:28", after := #[{ on := 9, ground := Ground.data }], guard := none }) (v := .agg [.int .i64 p, .int .i64 q, .int .i64 r].toArray) rfl (by kernel_rfl) (by kernel_rfl) (by kernel_rfl) (fun _ _ _ h => h) (yieldsIf_load_mid (by rfl) _ _ rfl g (o + k * 35 + 32) rfl [.int .i64 p, .int .i64 q, .int .i64 r] _ (HLP.out) Try.underlying42 rfl HIW.out) hHeld ?_
      simp only [Act.put, List.setIfInBounds_toArray, List.set_cons_zero, List.set_cons_succ]
      refine wpAnyH_ready (rs := [11]) (by kernel_rfl) (by simp) ?_
      refine AllReadyH.cons (o := { dst := some 22, op := Op.call { callee := Callee.value (Operand.func 27), args := #[Operand.tmp 21], argTypes := #[42] }, type := 73, pos := "law.go:28", after := #[{ on := 10, ground := Ground.data }], guard := none }) rfl (fun K hK => ?_) AllReadyH.nil
      go_simp
      refine (where_any p q r _).mono ?_
      rintro e W1 ⟨rfl, hkW⟩
      have HKW : Hid (Kp No wr W1) := (Kp.refl No wr).drew.andNone hkW
      obtain ⟨ad2, cap2, w2, hap, hk2, hm2⟩ := HNE.out W1 HKW.out
      have HAP := hid hap
      have HK2 := hid hk2
      have HF := hid hm2
      have HKA : Hid (Kp (fun x => (Value.slice ad k cap).ownBlock = some x) wr (W1.alloc (.cells C.toArray 75))) := (HKW.out.ofNo).alloc _
      clear hap hk2 hm2 hkW
      go_wp2_with fail
      refine hK.out _ _ (HKW.out.ofNo) (fun hh => ?_)
      clear hK K hHeld
      have hHeld := hh
      clear hh
      try simp only [Act.put, List.setIfInBounds_toArray, List.set_cons_zero, List.set_cons_succ]
      refine wpAnyH_take (i := 12) (oi := { dst := some 23, op := Op.build 75 #[(0, Operand.tmp 16), (1, Operand.tmp 22)], type := 75, pos := "law.go:28", after := #[{ on := 5, ground := Ground.data }, { on := 11, ground := Ground.data }], guard := none }) (v := .agg C.toArray) rfl (by kernel_rfl) (by kernel_rfl) (by kernel_rfl) (fun _ _ _ h => h) (yields_two (by rfl) 75 0 1 (.tmp 16) (.tmp 22) rfl (.agg bx.toArray) (.agg #[.int .i64 p, .int .i64 q, .int .i64 r]) rfl rfl _ HB1.out) hHeld ?_
      simp only [Act.put, List.setIfInBounds_toArray, List.set_cons_zero, List.set_cons_succ]
      refine wpAnyH_ready (rs := [13]) (by kernel_rfl) (by simp) ?_
      refine AllReadyH.cons (o := { dst := some 24, op := Op.buildSlice 22 1 #[(0, Operand.tmp 23)], type := 22, pos := "law.go:28", after := #[{ on := 12, ground := Ground.data }], guard := none }) rfl (fun K hK => ?_) AllReadyH.nil
      rw [if_pos (by rfl)]
      refine wp_valE (exec_sliceE 22 _ rfl (.agg C.toArray) _ rfl (HB2.out _)) ?_
      refine hK.out _ _ HKA.out (fun hh => ?_)
      clear hK K hHeld
      have hHeld := hh
      clear hh
      try simp only [Act.put, List.setIfInBounds_toArray, List.set_cons_zero, List.set_cons_succ]
      refine wpAnyH_ready (rs := [14]) (by kernel_rfl) (by simp) ?_
      refine AllReadyH.cons (o := { dst := some 25, op := Op.call { callee := Callee.builtin Builtin.append, args := #[Operand.tmp 11, Operand.tmp 24], argTypes := #[22, 22] }, type := 22, pos := "law.go:28", after := #[{ on := 0, ground := Ground.data }, { on := 13, ground := Ground.data }, { on := 11, ground := Ground.chain }], guard := none }) rfl (fun K hK => ?_) AllReadyH.nil
      rw [if_pos (by rfl)]
      refine wp_valE (exec_appE _ _ 22 rfl (.slice ad k cap) (.slice (some ⟨W1.heap.size, 0, none⟩) 1 1) _ rfl rfl HAP.out) ?_
      refine hK.out _ _ HK2.out (fun hh => ?_)
      clear hK K hHeld
      have hHeld := hh
      clear hh
      try simp only [Act.put, List.setIfInBounds_toArray, List.set_cons_zero, List.set_cons_succ]
      refine wpAnyH_take (i := 15) (oi := { dst := some 3, op := Op.assign (Operand.tmp 25), type := 22, pos := "law.go:28", after := #[{ on := 14, ground := Ground.data }, { on := 14, ground := Ground.chain }, { on := 0, ground := Ground.phase }, { on := 1, ground := Ground.phase }, { on := 2, ground := Ground.phase }, { on := 3, ground := Ground.phase }, { on := 4, ground := Ground.phase }, { on := 5, ground := Ground.phase }, { on := 6, ground := Ground.phase }, { on := 7, ground := Ground.phase }, { on := 8, ground := Ground.phase }, { on := 9, ground := Ground.phase }, { on := 10, ground := Ground.phase }, { on := 11, ground := Ground.phase }, { on := 12, ground := Ground.phase }, { on := 13, ground := Ground.phase }, { on := 14, ground := Ground.phase }], guard := none }) (v := .slice ad2 (k + 1) cap2) rfl (by kernel_rfl) (by kernel_rfl) (by kernel_rfl) (fun _ _ _ h => h) (Or.inl ⟨by rfl, fun w' hw' => by (clear hw'; go_simp)⟩) hHeld ?_
      simp only [Act.put, List.setIfInBounds_toArray, List.set_cons_zero, List.set_cons_succ]
      refine wpAnyH_done (by kernel_rfl) ?_ _
      clear hHeld
      go_wp2_with fail
      go_round
      case rel => exact ⟨k + 1, ad2, cap2, rfl, by first | rfl | go_num, by omega, HF.out⟩
      case measure => simp [intOf]; omega
    · have hltI : ¬ (k : Int) < (n : Int) := by omega
      have hkn' : k = n := by omega
      have HF : Hid (MineR w wr (.slice ad k cap) d) := by
        have := HS.out
        rw [hkn', ← HN.out, List.take_length] at this
        rw [Hid, hkn', ← HN.out]
        exact this
      clear hkn'
      go_wp2_with fail
      go_ret
      exact ⟨_, rfl, HF.out⟩
end Go.Proofs.Ytampnikdmgojjaa.Sg
end

section
/-
  Put and Get of segment with no table.
-/
namespace Go.Proofs.Ytampnikdmgojjaa.Sg
open Go.RowKit
open Sim (hid Kp No)

theorem put_none (w : World) (a : Option Addr) (n c : Nat) : Calls Try.prog 9 #[.pointer none, .slice a n c] w fun e w' => e = .returned (.tuple #[.slice none 0 0, .int .i64 18]) ∧ w' = w := by
  go_enter Try.func9, Try.ntmps9
  go_wp2_with fail
  go_ret2
  exact ⟨rfl, rfl⟩
theorem get_none (w : World) (a : Option Addr) (n c : Nat) : Calls Try.prog 10 #[.pointer none, .slice a n c] w fun e w' => e = .returned (.tuple #[.slice none 0 0, .int .i64 18]) ∧ w' = w := by
  go_enter Try.func10, Try.ntmps10
  go_wp2_with fail
  go_ret2
  exact ⟨rfl, rfl⟩
end Go.Proofs.Ytampnikdmgojjaa.Sg
end

section
/-
  alive of the tenth law.
-/
namespace Go.Proofs.Ytampnikdmgojjaa.Sg
open Go.RowKit
open Tlv (Tr Agree)
open Crc (Kept)
open Sim (hid Kp No)

def h1 : List Int := [1, 0, 0, 0, 0, 0, 0, 0, 0, 0, 0, 0, 0, 0, 0, 0, 0, 0, 0, 0, 0, 0, 0, 0, 0, 0, 0, 0, 0, 0, 0, 0]
theorem h1_ok : EOk (h1, 1, 2, 3) := ⟨rfl, by decide⟩
theorem right1 : RightP [(h1, 1, 2, 3)] := ⟨by simp, fun i e hi he => by
  have hi0 : i = 0 := by simp at hi; omega
  subst hi0
  simp at he
  subst he
  exact ⟨rfl, fun j x hj => by omega⟩⟩
theorem right0 : RightP [] := ⟨by simp, fun i e hi => by simp at hi⟩
theorem find1 {e : Ending} (h : FAns [(h1, 1, 2, 3)] h1 e) : e = .returned (.tuple #[.agg #[.int .i64 1, .int .i64 2, .int .i64 3], .bool true]) := by
  obtain ⟨p, b, rfl, h2, h3, _⟩ := h
  have hb : b = true := h2.2 ⟨right1, (h1, 1, 2, 3), by simp, rfl⟩
  subst hb
  have := h3 rfl
  simp at this
  subst this
  rfl
theorem right1_any {e : Ending} (h : RAns [(h1, 1, 2, 3)] e) : e = .returned (.bool true) := by
  obtain ⟨b, rfl, h2⟩ := h
  rw [h2.2 right1]
theorem seal0 : nats (sealE []) = [3, 0, 0] ++ Crc.le4 (Crc.more 0 [3, 0, 0]) := by
  rw [sealE, sealI_nats]
  rfl
theorem ev1 (w : World) (A : Array Value) (hA : A = (entC (h1, 1, 2, 3)).toArray) : EV (fun g => g = w.heap.size) (w.alloc (.cells A 48)) (.slice (some ⟨w.heap.size, 0, none⟩) 1 1) [(h1, 1, 2, 3)] := by
  subst hA
  refine ⟨_, 1, rfl, Nat.le_refl _, by decide, by simp, fun e he => ?_, fun _ => ⟨w.heap.size, 0, rfl, rfl, by simp, fun i e hi => ?_⟩⟩
  · simp at he
    subst he
    exact h1_ok
  · have hi0 : i = 0 := by
      have := (List.getElem?_eq_some_iff.1 hi).1
      simp at this
      omega
    subst hi0
    simp at hi
    subst hi
    refine ⟨h1_ok, fun j v hv => ?_⟩
    rw [World.cell?_alloc_at _ _ _ _ rfl]
    simpa using hv

set_option maxHeartbeats 4000000 in
set_option maxRecDepth 100000 in
theorem alive_any (w : World) : Calls Try.prog 5 #[] w fun e w' => e = .returned (.bool true) ∧ Kp No w w' := by
  go_enter Try.func5, Try.ntmps5
  go_wp2_with fail
  refine (Crc.new_any w).mono ?_
  rintro e w1 ⟨rfl, hb1, hs1, ht1⟩
  have HB1 := hid hb1
  have HT1 : Hid (TabX w1 w.heap.size) := ⟨0, 0, .inl rfl, ht1⟩
  have hlt1 : w.heap.size < w1.heap.size := by omega
  clear hb1 hs1 ht1
  go_wp2_with fail
  refine (put_yes w.heap.size w1 _ [] No HT1.out (EV.nil _ _) right0).mono ?_
  rintro e w2 ⟨v', rfl, ho, hk2, ht2⟩
  rw [seal0] at ho
  obtain ⟨g, cap, rfl, hg, hgl⟩ := World.ownsRow.form ho (by simp)
  have c0 : w2.cell? ⟨g, 0, none⟩ = some (.int .u8 3) := by rw [World.ownsRow.cellAt ho 0 (by simp)]; rfl
  have hl7 : ([3, 0, 0] ++ Crc.le4 (Crc.more 0 [3, 0, 0])).length = 7 := rfl
  rw [hl7]
  have HK2 : Hid (Kp No w w2) := ⟨by rw [hk2.os, HB1.out.os], by rw [hk2.tape, HB1.out.tape], by rw [hk2.output, HB1.out.output], Nat.le_trans HB1.out.size hk2.size, fun j hj _ => (hk2.block j (by omega) (by omega)).trans (HB1.out.block j hj)⟩
  clear ho hk2 ht2 hl7 HB1 HT1 hg hlt1
  go_wp2_with fail
  have HEV := hid (ev1 w2 _ rfl)
  have HKA : Hid (Kp No w2 (w2.alloc (.cells (entC (h1, 1, 2, 3)).toArray 48))) := (Kp.refl _ _).alloc _
  refine (find_any (w2.alloc (.cells (entC (h1, 1, 2, 3)).toArray 48)) _ [(h1, 1, 2, 3)] _ h1 HEV.out (by simp) rfl (by decide)).mono ?_
  rintro e w3 ⟨hfa, hk3⟩
  have hfe := find1 hfa
  subst hfe
  have HE3 := hid (HEV.out.kept hk3)
  have HK3 := hid (HKA.out.andNone hk3)
  have d0 : w3.cell? ⟨g, 0, none⟩ = some (.int .u8 3) := (HK3.out.cell (p := ⟨g, 0, none⟩) hgl (fun x => x)).trans c0
  have hgl3 : g < w3.heap.size := Nat.lt_of_lt_of_le hgl HK3.out.size
  clear hfa hk3 c0
  go_wp2_with fail
  refine (right_any _ _ [(h1, 1, 2, 3)] _ (HE3.out.kept ((Kp.refl _ _).alloc _)) (by simp)).mono ?_
  rintro e w4 ⟨hra, hk4⟩
  have hre := right1_any hra
  subst hre
  have HF : Hid (Kp No w w4) := ((HK2.out.andNone HK3.out).alloc _).andNone hk4
  clear hra hk4
  go_wp2_with fail
  go_ret
  exact ⟨rfl, HF.out⟩
end Go.Proofs.Ytampnikdmgojjaa.Sg
end

section
/-
  Memory of the tenth law of back: a table, and bytes of which one is turned.
-/
namespace Go.Proofs.Ytampnikdmgojjaa.Sg
open Go.RowKit
open Tlv (Tr Agree BySlS)
open Crc (Kept Tab)
open Sim (hid Kp No)

theorem kpK {b : Nat} {w w' : World} (k : Kept b w w') : Kp (fun x => x = b) w w' := ⟨k.os, k.tape, k.output, k.size, fun j hj hne => k.block j hj hne⟩
/-- How far a call has come: a table at b, and all else that there was as it was. -/
def On (w1 w : World) (b : Nat) : Prop := Kp (fun x => x = b) w1 w ∧ TabX w b
theorem On.kept {w1 w w' : World} {b : Nat} (h : On w1 w b) (k : Kept b w w') (t : TabX w' b) : On w1 w' b := ⟨h.1.trans (kpK k) (fun _ hx => .inl hx), t⟩
theorem On.kp {w1 w w' : World} {b : Nat} (h : On w1 w b) (k : Kp No w w') : On w1 w' b := ⟨h.1.andNone k, h.2.below k.toBelow'⟩
theorem On.fin {w w1 w2 : World} (h0 : Below w.heap.size w w1) (h : On w1 w2 w.heap.size) : Below w.heap.size w w2 := Kp.under h0 h.1 (fun x hx => by omega) h0.size
theorem On.bytes {w w1 w2 : World} {v : Value} {bs : List Int} (h0 : Below w.heap.size w w1) (h : On w1 w2 w.heap.size) (hb : Tlv.BySl 0 w.heap.size w v bs) : BySlS (fun g => g ≠ w.heap.size ∧ g < w2.heap.size) w2 v bs := by
  have hB := On.fin h0 h
  exact hb.toS.agree (fun g hg => hB.block g hg.2) (fun g hg => ⟨by omega, Nat.lt_of_lt_of_le hg.2 hB.size⟩)
theorem EV.on {w w' : World} {b : Nat} {v : Value} {d : List Ent} {P : Nat → Prop} (h : EV P w v d) (k : Kept b w w') (hP : ∀ g, P g → g ≠ b) : EV P w' v d := h.kp (kpK k) hP

theorem bySl_flip {b : Nat} {w : World} {g cap j y : Nat} {xs : List Nat} (h : Crc.BySl b w (.slice (some ⟨g, 0, none⟩) xs.length cap) xs) (hj : j < xs.length) (hy : y < 256) :
    Crc.BySl b (w.setCell ⟨g, j, none⟩ (.int .u8 ((xs.getD j 0 ^^^ y : Nat) : Int))) (.slice (some ⟨g, 0, none⟩) xs.length cap) (flipAt xs j y) := by
  obtain ⟨a, c, e, h2, h3, h4, h5, h6, h7⟩ := h
  simp only [Value.slice.injEq, true_and] at e
  obtain ⟨rfl, rfl⟩ := e
  have hne : xs ≠ [] := by intro e; rw [e] at hj; simp at hj
  obtain ⟨g', o, e, hgb, hg, hc⟩ := h7 hne
  simp only [Option.some.injEq, Addr.mk.injEq, and_true] at e
  obtain ⟨rfl, rfl⟩ := e
  refine ⟨_, cap, by rw [flipAt_length], by rw [flipAt_length]; exact h2, h3, by simp, by rw [flipAt_length]; exact h5, flipAt_lt h6 j y hy, fun _ => ⟨g, 0, rfl, hgb, by simpa using hg, fun i hi => ?_⟩⟩
  rw [flipAt_length] at hi
  rw [Nat.zero_add]
  by_cases hij : i = j
  · subst hij
    rw [World.cell?_setCell_same w ⟨g, i, none⟩ _ (u := .int .u8 (xs.getD i 0 : Nat)) (by have := hc i hi; rw [Nat.zero_add] at this; exact this), flipAt, List.getD_eq_getElem?_getD (l := xs.set _ _), List.getElem?_set_self hi]
    rfl
  · have := hc i hi
    rw [Nat.zero_add] at this
    rw [World.cell?_setCell_other w ⟨g, j, none⟩ ⟨g, i, none⟩ _ (by simp only [ne_eq, Addr.mk.injEq, and_true, true_and]; omega), this, flipAt, List.getD_eq_getElem?_getD (l := xs.set _ _), List.getElem?_set_ne (by omega), ← List.getD_eq_getElem?_getD]
theorem form_mem {n : Nat} {t : Tr n} (h0 : 0 ≤ t.hd.1 ∧ t.hd.1 ≤ 255) (hl : (Tlv.bodyOf n t).length ≤ 65535) (hb : ∀ x ∈ Tlv.bodyOf n t, 0 ≤ x ∧ x ≤ 255) : ∀ x ∈ Tlv.formOf n t, 0 ≤ x ∧ x ≤ 255 := by
  intro x hx
  simp only [Tlv.formOf, List.mem_cons] at hx
  rcases hx with rfl | rfl | rfl | hx
  · exact h0
  · omega
  · omega
  · exact hb x hx
theorem num_bytes (p : Int) : ∀ x ∈ Tlv.formOf 1 (Tr.mk 1 p [] [] : Tr 1), 0 ≤ x ∧ x ≤ 255 := by
  have e : Tlv.bodyOf 1 (Tr.mk 1 p [] [] : Tr 1) = Tlv.numB (Tlv.nsz p).toNat p := rfl
  have := Tlv.nsz_bd p
  exact form_mem ⟨(by decide : (0 : Int) ≤ 1), (by decide : (1 : Int) ≤ 255)⟩ (by rw [e, Tlv.numB_length]; omega) (by rw [e]; exact Tlv.numB_byte _ _)
theorem ent_bytes {e : Ent} (he : EOk e) : ∀ x ∈ Tlv.formOf 2 (entT e), 0 ≤ x ∧ x ≤ 255 := by
  obtain ⟨h1, _, h3⟩ := ent_bsz he.1 (room := 68) (deep := 1) (by omega) (by omega)
  have h4 := Tlv.bsz_len 2 _ _ _ h1
  refine form_mem ⟨Int.le_of_lt (by decide : (0 : Int) < 3), (by decide : (3 : Int) ≤ 255)⟩ (by omega) ?_
  rw [Tlv.bodyOf_kids (show (entT e).hd.1 = 3 from rfl)]
  intro x hx
  obtain ⟨l, hl, hxl⟩ := List.mem_flatten.1 hx
  obtain ⟨k, hk, rfl⟩ := List.mem_map.1 hl
  have hk' : k ∈ ([Tr.mk 2 0 e.1 [], Tr.mk 1 e.2.1 [] [], Tr.mk 1 e.2.2.1 [] [], Tr.mk 1 e.2.2.2 [] []] : List (Tr 1)) := hk
  rcases List.mem_cons.1 hk' with rfl | hk1
  · refine form_mem (t := (Tr.mk 2 0 e.1 [] : Tr 1)) ⟨(by decide : (0 : Int) ≤ 2), (by decide : (2 : Int) ≤ 255)⟩ (show e.1.length ≤ 65535 by rw [he.1]; omega) (show ∀ x ∈ e.1, 0 ≤ x ∧ x ≤ 255 from he.2) x hxl
  rcases List.mem_cons.1 hk1 with rfl | hk2
  · exact num_bytes _ x hxl
  rcases List.mem_cons.1 hk2 with rfl | hk3
  · exact num_bytes _ x hxl
  rcases List.mem_cons.1 hk3 with rfl | hk4
  · exact num_bytes _ x hxl
  · cases hk4
theorem formE_bd {d : List Ent} (ho : ∀ e ∈ d, EOk e) (hl : d.length ≤ 900) : ∀ x ∈ formE d, 0 ≤ x ∧ x ≤ 255 := by
  have h1 := entsT_right (fun e he => (ho e he).1) hl
  have h2 := Tlv.bsz_fits 3 _ _ _ h1
  have h3 := Tlv.bsz_len 3 _ _ _ h1
  refine form_mem ⟨Int.le_of_lt (by decide : (0 : Int) < 3), (by decide : (3 : Int) ≤ 255)⟩ (by omega) ?_
  rw [Tlv.bodyOf_kids (show (entsT d).hd.1 = 3 from rfl)]
  intro x hx
  obtain ⟨l, hl, hxl⟩ := List.mem_flatten.1 hx
  obtain ⟨k, hk, rfl⟩ := List.mem_map.1 hl
  obtain ⟨e, he, rfl⟩ := List.mem_map.1 hk
  exact ent_bytes (ho e he) x hxl
theorem sealE_bd {d : List Ent} (ho : ∀ e ∈ d, EOk e) (hl : d.length ≤ 900) : ∀ x ∈ sealE d, 0 ≤ x ∧ x ≤ 255 := sealI_bd _ (formE_bd ho hl)
theorem sealE_length {d : List Ent} (ho : ∀ e ∈ d, EOk e) (hl : d.length ≤ 900) : 4 ≤ (sealE d).length ∧ (sealE d).length ≤ 65542 := by
  have := formE_length (fun e he => (ho e he).1) hl
  rw [sealE, sealI_length]
  omega
theorem gans_flip {d : List Ent} (ho : ∀ e ∈ d, EOk e) (hr : RightP d) {j y : Nat} (hj : j < (sealE d).length) (hy : y < 256) (h0 : y ≠ 0) {f : Int} {d' : List Ent} (h : GAns (flipI (sealE d) j y) f d') : f = 4 := by
  have hb := formE_bd ho hr.1
  have hne := flip_told hb hj hy h0
  have hl : 4 ≤ (flipI (sealE d) j y).length := by rw [flipI_length, sealE, sealI_length]; omega
  rcases h with ⟨h1, _⟩ | ⟨_, _, h1, _⟩ | ⟨_, h1, _⟩ | ⟨_, h1, _⟩
  · omega
  · exact h1
  · exact absurd h1 hne
  · exact absurd h1 hne
end Go.Proofs.Ytampnikdmgojjaa.Sg
end

section
/-
  The law of back, walked.
-/
namespace Go.Proofs.Ytampnikdmgojjaa.Sg
open Go.RowKit
open Stb (Stab Srt Mrg)
open Tlv (Tr Agree BySlS)
open Crc (Kept Tab)
open Sim (hid Kp No)

theorem evForm {P : Nat → Prop} {w : World} {v : Value} {d : List Ent} (h : EV P w v d) : ∃ a c, v = .slice a d.length c := by
  obtain ⟨a, c, e, _⟩ := h
  exact ⟨a, c, e⟩
theorem keptOf {g : Nat} {w w' : World} (k : Kp (fun x => x = g) w w') : Kept g w w' := ⟨k.os, k.tape, k.output, k.size, fun j hj hne => k.block j hj hne⟩
theorem On.set {w1 w : World} {b g j : Nat} (h : On w1 w b) (hg : w1.heap.size ≤ g) (hb : b ≠ g) (u : Value) : On w1 (w.setCell ⟨g, j, none⟩ u) b :=
  ⟨h.1.setCell (p := ⟨g, j, none⟩) (.inr hg) u, h.2.kept (keptOf ((Kp.refl (fun x => x = g) w).setCell (p := ⟨g, j, none⟩) (.inl rfl) u)) hb⟩
theorem shapeR {w : World} {t : TypeId} {sz n : Nat} {v : Value} {xs : List Value} (h : Sim.Row w t sz v n xs) : ∃ a c, v = .slice a n c := by
  obtain ⟨a, c, e, _⟩ := h.shape
  exact ⟨a, c, e⟩

set_option maxHeartbeats 4000000 in
set_option maxRecDepth 100000 in
theorem back_big (w : World) (a1 a2 : Option Addr) (n1 n2 c1 c2 : Nat) (z : Int) (y : Nat) (h : 60 < n1 ∨ 2000 < n2) : Calls Try.prog 3 #[.slice a1 n1 c1, .slice a2 n2 c2, .int .i64 z, .int .u8 (y : Int)] w fun e w' => e = .returned (.bool true) ∧ Below w.heap.size w w' := by
  by_cases h1 : 60 < n1
  · have hI : (60 : Int) < (n1 : Int) := by omega
    go_enter Try.func3, Try.ntmps3
    go_wp2_with fail
    refine (alive_any _).mono ?_
    rintro e w1 ⟨rfl, hk⟩
    have HK := hid hk
    clear hk
    go_wp2_with fail
    go_ret
    exact ⟨rfl, HK.out.toBelow'⟩
  · have hI : ¬ (60 : Int) < (n1 : Int) := by omega
    have hI2 : (2000 : Int) < (n2 : Int) := by omega
    go_enter Try.func3, Try.ntmps3
    go_wp2_with fail
    refine (alive_any _).mono ?_
    rintro e w1 ⟨rfl, hk⟩
    have HK := hid hk
    clear hk
    go_wp2_with fail
    go_ret
    exact ⟨rfl, HK.out.toBelow'⟩

set_option maxHeartbeats 4000000 in
set_option maxRecDepth 100000 in
theorem back_main (w : World) (v1 v2 : Value) (l : List Ent) (P1 : Nat → Prop) (hl : EV P1 w v1 l) (bs : List Int) (hb : Tlv.BySl 0 w.heap.size w v2 bs) (z : Int) (y : Nat) (hy : y < 256) (hz : -9223372036854775808 ≤ z ∧ z ≤ 9223372036854775807) :
    Calls Try.prog 3 #[v1, v2, .int .i64 z, .int .u8 (y : Int)] w fun e w' => e = .returned (.bool true) ∧ Below w.heap.size w w' := by
  have HL := hid hl
  have HB := hid hb
  have HB6 := hid hb.bytes
  obtain ⟨a1, c1, rfl⟩ := evForm hl
  obtain ⟨a2, c2, rfl, _⟩ := hb
  obtain ⟨n1, hn1⟩ : ∃ n, l.length = n := ⟨_, rfl⟩
  obtain ⟨n2, hn2⟩ : ∃ n, bs.length = n := ⟨_, rfl⟩
  have HN1 := hid hn1
  have HN2 := hid hn2
  rw [hn1] at HL ⊢
  rw [hn2] at HB ⊢
  clear hn1 hn2 hl
  by_cases hbig : 60 < n1 ∨ 2000 < n2
  · exact back_big w a1 a2 n1 n2 c1 c2 z y hbig
  have hb1 : n1 ≤ 60 := by omega
  have hb2 : n2 ≤ 2000 := by omega
  clear hbig
  have hI : ¬ (60 : Int) < (n1 : Int) := by omega
  have hI2 : ¬ (2000 : Int) < (n2 : Int) := by omega
  go_enter Try.func3, Try.ntmps3
  go_wp2_with fail
  refine (Crc.new_any w).mono ?_
  rintro e w1 ⟨rfl, hB1, hs1, ht1⟩
  have HB1 := hid hB1
  have HO1 : Hid (On w1 w1 w.heap.size) := ⟨Kp.refl _ _, 0, 0, .inl rfl, ht1⟩
  have hlt1 : w.heap.size < w1.heap.size := by omega
  clear hB1 hs1 ht1
  go_wp2_with fail
  refine (own_any _ _ l P1 (HL.out.kept (Kp.below HB1.out)) (by rw [HN1.out]; omega)).mono ?_
  rintro e w2 ⟨r1, rfl, hM1⟩
  have HS1 := hid (sort_any w2 r1 l _ (ev_of_row hM1.1 HL.out.ok hM1.2.1) (by rw [HN1.out]; omega))
  have HO2 := hid (HO1.out.kp hM1.2.2)
  have hz2 : w1.heap.size ≤ w2.heap.size := hM1.2.2.size
  obtain ⟨b1, k1, rfl⟩ := shapeR hM1.1
  clear hM1
  go_wp2_with fail
  refine HS1.out.mono ?_
  rintro e w3 ⟨r3, X, rfl, hs3, hr3, hk3, hv3⟩
  have HLS : Hid ((cmpct X).length ≤ 60) := by
    have q1 := cmpct_length X
    have q2 := hs3.length
    have q3 := HN1.out
    rw [Hid]; omega
  obtain ⟨S, hS⟩ : ∃ S, cmpct X = S := ⟨_, rfl⟩
  rw [hS] at hv3 HLS
  have HVS : Hid (EV (fun g => w.heap.size < g) w3 r3 S) := hv3.mono (fun g hg => by omega)
  have HO3 := hid (HO2.out.kp hk3)
  obtain ⟨aS, cS, rfl⟩ := evForm hv3
  have hz3 : w2.heap.size ≤ w3.heap.size := hk3.size
  clear hv3 hs3 hr3 hk3 hS HS1 HO1 HO2 HL HN1 hI hI2 hb1
  obtain ⟨nS, hnS⟩ : ∃ n, S.length = n := ⟨_, rfl⟩
  have HNS := hid hnS
  rw [hnS] at HVS HLS ⊢
  clear hnS
  have HTAIL : Hid (On w1 w3 w.heap.size) := HO3.out
  by_cases hR : RightP S
  · have HR := hid hR
    clear hR
    go_wp2_with fail
    refine (put_yes w.heap.size w3 _ S _ HO3.out.2 HVS.out HR.out).mono ?_
    rintro e w4 ⟨vx, rfl, hox, hk4, ht4⟩
    have hsl := sealE_length HVS.out.ok HR.out.1
    have hcx : Crc.BySl w.heap.size w4 vx (nats (sealE S)) := hox.bySl (by omega) (by rw [nats_length]; omega) (nats_lt _ (sealE_bd HVS.out.ok HR.out.1))
    have HCX := hid hcx
    have HOX := hid hox
    obtain ⟨gx, kx, rfl, hgx, hgxl⟩ := World.ownsRow.form hox (by rw [nats_length]; omega)
    obtain ⟨nX, hnX⟩ : ∃ n, (sealE S).length = n := ⟨_, rfl⟩
    have HNX := hid hnX
    rw [nats_length, hnX] at HCX HOX
    rw [nats_length, hnX]
    rw [hnX] at hsl
    have HO4 := hid (HO3.out.kept hk4 ht4)
    have HOKS := hid HVS.out.ok
    have HVS4 := hid (HVS.out.on hk4 (fun g hg => by omega))
    have HSL := hid hsl
    have HGX := hid (And.intro hgx hgxl)
    have hz4 : w3.heap.size ≤ w4.heap.size := hk4.size
    clear hcx hox hk4 ht4 hnX hsl hgx hgxl HO3 HVS
    go_wp2_with fail
    have hbx := ofCrc HCX.out
    rw [ints_nats _ (sealE_bd HVS4.out.ok HR.out.1)] at hbx
    refine (get_any w.heap.size w4 _ (sealE S) HO4.out.2 hbx (by have := HSL.out; have := HNX.out; omega)).mono ?_
    rintro e w5 ⟨vm, fm, dm, rfl, hga, hrow, hown, hok, hk5, ht5⟩
    obtain ⟨rfl, rfl⟩ := gans_back HVS4.out.ok HR.out hga
    have HO5 := hid (HO4.out.kept hk5 ht5)
    have HVS5 := hid (HVS4.out.on hk5 (fun g hg => by omega))
    have HEM : Hid (EV (fun g => w.heap.size < g) w5 vm dm) := ev_of_row hrow hok (fun x hx => by have := hown x hx; omega)
    have HRX5 : Hid (Sim.Row w5 5 1 (.slice (some ⟨gx, 0, none⟩) nX kx) (nats (sealE dm)).length (Crc.cl (nats (sealE dm)))) := Sim.Row.kp (HOX.out.mono (Nat.zero_le _)) (kpK hk5) (fun x hx e => by have := HGX.out.1; simp [Value.ownBlock] at hx; omega)
    have HCX5 := hid (HCX.out.kept hk5)
    have hz5 : w4.heap.size ≤ w5.heap.size := hk5.size
    obtain ⟨am, cm, rfl⟩ := shapeR hrow
    rw [HNS.out] at HEM ⊢
    clear hbx hga hrow hown hok hk5 ht5
    go_wp2_with fail
    refine (back_any w5 _ dm _ HEM.out (by rw [HNS.out]; have := HLS.out; omega)).mono ?_
    rintro e w6 ⟨r6, rfl, hm6⟩
    have HV6 := hid (ev_of_rowT (P := fun g => w5.heap.size ≤ g) hm6.1 HVS5.out.ok hm6.2.1)
    have HS6 := hid (HVS5.out.kept hm6.2.2)
    have HO6 := hid (HO5.out.kp hm6.2.2)
    have HK6 := hid hm6.2.2
    obtain ⟨a6, c6, rfl⟩ := shapeR hm6.1
    rw [HNS.out] at HV6 ⊢
    clear hm6
    go_wp2_with fail
    refine (back_any w6 _ dm _ HS6.out (by rw [HNS.out]; have := HLS.out; omega)).mono ?_
    rintro e w7 ⟨r7, rfl, hm7⟩
    have HV7 := hid (ev_of_rowT (P := fun g => w6.heap.size ≤ g) hm7.1 HS6.out.ok hm7.2.1)
    have HW7 := hid (HV6.out.kept hm7.2.2)
    have HO7 := hid (HO6.out.kp hm7.2.2)
    have HK7 := hid (HK6.out.andNone hm7.2.2)
    obtain ⟨a7, c7, rfl⟩ := shapeR hm7.1
    rw [HNS.out] at HV7 ⊢
    clear hm7
    go_wp2_with fail
    refine (same_any w7 _ _ dm dm _ _ HW7.out HV7.out (by rw [HNS.out]; have := HLS.out; omega)).mono ?_
    rintro e w8 ⟨rfl, hk8⟩
    have hdt : decide (dm = dm) = true := by simp
    rw [hdt]
    have HO8 := hid (HO7.out.kp hk8)
    have HK8 := hid (HK7.out.andNone hk8)
    have hz8 : w5.heap.size ≤ w8.heap.size := HK8.out.size
    have HRX8 := hid (HRX5.out.kept HK8.out)
    have HCX8 := hid (HCX5.out.kept (Kept.below (b := w.heap.size) HK8.out.toBelow'))
    clear hdt hk8
    clear HCX HOX HCX5 HRX5 HVS4 HVS5 HEM HV6 HV7 HW7 HS6 HO4 HO5 HO6 HO7 HK6 HK7 HK8
    by_cases hc1 : 0 ≤ z
    · obtain ⟨j, rfl⟩ := Int.eq_ofNat_of_zero_le hc1
      by_cases hc2 : j < nX
      · have hc2I : (j : Int) < (nX : Int) := by omega
        by_cases hc3 : y = 0
        · subst hc3
          go_wp2_with fail
          refine (get_any w.heap.size w8 _ bs HO8.out.2 (On.bytes HB1.out HO8.out HB.out) (by rw [HN2.out]; omega)).mono ?_
          rintro e wt ⟨vm, fm, dm, rfl, hga, hrow, hown, hok, hkt, htt⟩
          have HOT := hid (HO8.out.kept hkt htt)
          have HGA := hid hga
          have hzt : w8.heap.size ≤ wt.heap.size := hkt.size
          have hzw : w.heap.size < w8.heap.size := by omega
          have HEV : Hid (EV (fun g => w.heap.size < g) wt vm dm) := ev_of_row hrow hok (fun x hx => by have := hown x hx; omega)
          obtain ⟨am, cm, rfl⟩ := shapeR hrow
          have HOKM := hid hok
          clear hga hrow hown hok hkt htt
          obtain ⟨nm, hnm⟩ : ∃ n, dm.length = n := ⟨_, rfl⟩
          have HNM := hid hnm
          rw [hnm] at HEV ⊢
          clear hnm
          by_cases hf : fm = 0
          · subst hf
            obtain ⟨hRm, hseal⟩ := gans_zero HB6.out HGA.out
            have HRM := hid hRm
            have HSE := hid hseal
            clear hRm hseal HGA
            go_wp2_with fail
            refine (put_yes w.heap.size wt _ dm _ HOT.out.2 HEV.out HRM.out).mono ?_
            rintro e wu ⟨vy, rfl, hoy, hku, htu⟩
            have hsl := sealE_length HOKM.out HRM.out.1
            have hcy : Crc.BySl w.heap.size wu vy (nats (sealE dm)) := hoy.bySl (by omega) (by rw [nats_length]; omega) (nats_lt _ (sealE_bd HOKM.out HRM.out.1))
            have hcy2 := (ofCrc hcy).to (B := wu.heap.size) (fun g hg => hg.2)
            rw [HSE.out, ints_nats _ HB6.out] at hcy2
            have HCY := hid hcy2
            have HOU := hid (HOT.out.kept hku htu)
            have HEU := hid (HEV.out.on hku (fun g hg => by omega))
            have HBU := hid ((On.bytes HB1.out HOU.out HB.out).to (B := wu.heap.size) (fun g hg => hg.2))
            obtain ⟨ay, cy, rfl, _⟩ := hcy2
            clear hsl hcy hoy hku htu
            have HNN := HN2.out
            rw [HNN] at HCY ⊢
            clear HNN
            go_wp2_with fail
            refine (Tlv.refBytes_any _ _ bs bs wu HCY.out HBU.out).mono ?_
            rintro e wv ⟨rfl, hbv⟩
            have hdt : decide (bs = bs) = true := by simp
            rw [hdt]
            have HOV := hid (HOU.out.kp (Kp.below hbv))
            have HEW := hid (HEU.out.kept (Kp.below hbv))
            clear hbv hdt
            go_wp2_with fail
            refine (right_any _ _ dm _ HEW.out (by rw [HNM.out]; have := HRM.out.1; have := HNM.out; omega)).mono ?_
            rintro e wx ⟨⟨rb, rfl, hrb⟩, hkx⟩
            have hrbt : rb = true := hrb.2 HRM.out
            subst hrbt
            have HOY := hid (HOV.out.kp hkx)
            clear hrb hkx
            go_wp2_with fail
            refine (alive_any _).mono ?_
            rintro e wz ⟨rfl, hkz⟩
            have HF := hid (On.fin HB1.out (HOY.out.kp hkz))
            clear hkz
            go_wp2_with fail
            go_ret
            exact ⟨rfl, HF.out⟩
          · have hd0 := gans_none HGA.out hf
            have hn0 : nm = 0 := by rw [← HNM.out, hd0]; rfl
            subst hn0
            have hfb : (fm != 0) = true := by simpa using hf
            clear hd0 HEV
            go_wp2_with fail
            refine (alive_any _).mono ?_
            rintro e wz ⟨rfl, hkz⟩
            have HF := hid (On.fin HB1.out (HOT.out.kp hkz))
            clear hkz
            go_wp2_with fail
            go_ret
            exact ⟨rfl, HF.out⟩
        · have hyb : ((y : Int) != 0) = true := by simpa using hc3
          have hNl : (nats (sealE dm)).length = nX := by rw [nats_length]; exact HNX.out
          have hx0 : (nats (sealE dm)).getD j 0 < 256 := by
            rw [List.getD_eq_getElem?_getD, List.getElem?_eq_getElem (by omega)]
            exact nats_lt _ (sealE_bd HOKS.out HR.out.1) _ (List.getElem_mem _)
          have hxor := u8_xor_nat ((nats (sealE dm)).getD j 0) y hx0 hy
          have hr8 : Sim.Row w8 5 1 (.slice (some ⟨gx, 0, none⟩) nX kx) nX (Crc.cl (nats (sealE dm))) := by
            have := HRX8.out
            rwa [hNl] at this
          have hcell : w8.cell? ⟨gx, j, none⟩ = some (.int .u8 (((nats (sealE dm)).getD j 0 : Nat) : Int)) := by
            rw [World.ownsRow.cellAt hr8 j (by omega)]
            simp [Crc.cl, List.getElem?_eq_getElem (show j < (nats (sealE dm)).length by omega)]
          have hfroz : w8.frozen? ⟨gx, j, none⟩ = false := World.ownsRow.frozenAt hr8 j
          have hgx8 : gx < w8.heap.size := by have := HGX.out.2; omega
          have HFL : Hid (Crc.BySl w.heap.size (w8.setCell ⟨gx, j, none⟩ (.int .u8 (((nats (sealE dm)).getD j 0 ^^^ y : Nat) : Int))) (.slice (some ⟨gx, 0, none⟩) nX kx) (flipAt (nats (sealE dm)) j y)) := by
            have := bySl_flip (j := j) (y := y) (b := w.heap.size) (w := w8) (g := gx) (cap := kx) (xs := nats (sealE dm)) (by rw [hNl]; exact HCX8.out) (by omega) hy
            rwa [hNl] at this
          have HO9 : Hid (On w1 (w8.setCell ⟨gx, j, none⟩ (.int .u8 (((nats (sealE dm)).getD j 0 ^^^ y : Nat) : Int))) w.heap.size) := HO8.out.set (by have := HGX.out.1; omega) (by have := HGX.out.1; omega) _
          have HXX : Hid (flipAt (nats (sealE dm)) j y = (nats (sealE dm)).set j ((nats (sealE dm)).getD j 0 ^^^ y)) := rfl
          generalize (nats (sealE dm)).getD j 0 = x0 at *
          clear HRX8 HCX8 HO8 hr8
          go_wp2_with fail
          obtain ⟨W9, hW9⟩ : ∃ W9, w8.setCell ⟨gx, j, none⟩ (.int .u8 ((x0 ^^^ y : Nat) : Int)) = W9 := ⟨_, rfl⟩
          have hz9 : w8.heap.size ≤ W9.heap.size := by rw [← hW9]; simp
          rw [hW9] at HFL HO9 ⊢
          clear hW9 hcell hfroz hgx8 hxor hx0
          refine (get_any w.heap.size W9 _ (flipI (sealE dm) j y) HO9.out.2 (ofCrc HFL.out) (by rw [flipI_length, HNX.out]; have := HSL.out; omega)).mono ?_
          rintro e w10 ⟨vf, ff, df, rfl, hgf, hrowf, _, _, hkf, htf⟩
          have hff : ff = 4 := gans_flip HOKS.out HR.out (by rw [HNX.out]; exact hc2) hy hc3 hgf
          subst hff
          have HO10 := hid (HO9.out.kept hkf htf)
          obtain ⟨af, cf, rfl⟩ := shapeR hrowf
          have hz10 : W9.heap.size ≤ w10.heap.size := hkf.size
          clear hgf hrowf hkf htf
          go_wp2_with fail
          refine (get_any w.heap.size w10 _ bs HO10.out.2 (On.bytes HB1.out HO10.out HB.out) (by rw [HN2.out]; omega)).mono ?_
          rintro e wt ⟨vm, fm, dm, rfl, hga, hrow, hown, hok, hkt, htt⟩
          have HOT := hid (HO10.out.kept hkt htt)
          have HGA := hid hga
          have hzt : w10.heap.size ≤ wt.heap.size := hkt.size
          have hzw : w.heap.size < w10.heap.size := by omega
          have HEV : Hid (EV (fun g => w.heap.size < g) wt vm dm) := ev_of_row hrow hok (fun x hx => by have := hown x hx; omega)
          obtain ⟨am, cm, rfl⟩ := shapeR hrow
          have HOKM := hid hok
          clear hga hrow hown hok hkt htt
          obtain ⟨nm, hnm⟩ : ∃ n, dm.length = n := ⟨_, rfl⟩
          have HNM := hid hnm
          rw [hnm] at HEV ⊢
          clear hnm
          by_cases hf : fm = 0
          · subst hf
            obtain ⟨hRm, hseal⟩ := gans_zero HB6.out HGA.out
            have HRM := hid hRm
            have HSE := hid hseal
            clear hRm hseal HGA
            go_wp2_with fail
            refine (put_yes w.heap.size wt _ dm _ HOT.out.2 HEV.out HRM.out).mono ?_
            rintro e wu ⟨vy, rfl, hoy, hku, htu⟩
            have hsl := sealE_length HOKM.out HRM.out.1
            have hcy : Crc.BySl w.heap.size wu vy (nats (sealE dm)) := hoy.bySl (by omega) (by rw [nats_length]; omega) (nats_lt _ (sealE_bd HOKM.out HRM.out.1))
            have hcy2 := (ofCrc hcy).to (B := wu.heap.size) (fun g hg => hg.2)
            rw [HSE.out, ints_nats _ HB6.out] at hcy2
            have HCY := hid hcy2
            have HOU := hid (HOT.out.kept hku htu)
            have HEU := hid (HEV.out.on hku (fun g hg => by omega))
            have HBU := hid ((On.bytes HB1.out HOU.out HB.out).to (B := wu.heap.size) (fun g hg => hg.2))
            obtain ⟨ay, cy, rfl, _⟩ := hcy2
            clear hsl hcy hoy hku htu
            have HNN := HN2.out
            rw [HNN] at HCY ⊢
            clear HNN
            go_wp2_with fail
            refine (Tlv.refBytes_any _ _ bs bs wu HCY.out HBU.out).mono ?_
            rintro e wv ⟨rfl, hbv⟩
            have hdt : decide (bs = bs) = true := by simp
            rw [hdt]
            have HOV := hid (HOU.out.kp (Kp.below hbv))
            have HEW := hid (HEU.out.kept (Kp.below hbv))
            clear hbv hdt
            go_wp2_with fail
            refine (right_any _ _ dm _ HEW.out (by rw [HNM.out]; have := HRM.out.1; have := HNM.out; omega)).mono ?_
            rintro e wx ⟨⟨rb, rfl, hrb⟩, hkx⟩
            have hrbt : rb = true := hrb.2 HRM.out
            subst hrbt
            have HOY := hid (HOV.out.kp hkx)
            clear hrb hkx
            go_wp2_with fail
            refine (alive_any _).mono ?_
            rintro e wz ⟨rfl, hkz⟩
            have HF := hid (On.fin HB1.out (HOY.out.kp hkz))
            clear hkz
            go_wp2_with fail
            go_ret
            exact ⟨rfl, HF.out⟩
          · have hd0 := gans_none HGA.out hf
            have hn0 : nm = 0 := by rw [← HNM.out, hd0]; rfl
            subst hn0
            have hfb : (fm != 0) = true := by simpa using hf
            clear hd0 HEV
            go_wp2_with fail
            refine (alive_any _).mono ?_
            rintro e wz ⟨rfl, hkz⟩
            have HF := hid (On.fin HB1.out (HOT.out.kp hkz))
            clear hkz
            go_wp2_with fail
            go_ret
            exact ⟨rfl, HF.out⟩
      · have hc2I : ¬ (j : Int) < (nX : Int) := by omega
        go_wp2_with fail
        refine (get_any w.heap.size w8 _ bs HO8.out.2 (On.bytes HB1.out HO8.out HB.out) (by rw [HN2.out]; omega)).mono ?_
        rintro e wt ⟨vm, fm, dm, rfl, hga, hrow, hown, hok, hkt, htt⟩
        have HOT := hid (HO8.out.kept hkt htt)
        have HGA := hid hga
        have hzt : w8.heap.size ≤ wt.heap.size := hkt.size
        have hzw : w.heap.size < w8.heap.size := by omega
        have HEV : Hid (EV (fun g => w.heap.size < g) wt vm dm) := ev_of_row hrow hok (fun x hx => by have := hown x hx; omega)
        obtain ⟨am, cm, rfl⟩ := shapeR hrow
        have HOKM := hid hok
        clear hga hrow hown hok hkt htt
        obtain ⟨nm, hnm⟩ : ∃ n, dm.length = n := ⟨_, rfl⟩
        have HNM := hid hnm
        rw [hnm] at HEV ⊢
        clear hnm
        by_cases hf : fm = 0
        · subst hf
          obtain ⟨hRm, hseal⟩ := gans_zero HB6.out HGA.out
          have HRM := hid hRm
          have HSE := hid hseal
          clear hRm hseal HGA
          go_wp2_with fail
          refine (put_yes w.heap.size wt _ dm _ HOT.out.2 HEV.out HRM.out).mono ?_
          rintro e wu ⟨vy, rfl, hoy, hku, htu⟩
          have hsl := sealE_length HOKM.out HRM.out.1
          have hcy : Crc.BySl w.heap.size wu vy (nats (sealE dm)) := hoy.bySl (by omega) (by rw [nats_length]; omega) (nats_lt _ (sealE_bd HOKM.out HRM.out.1))
          have hcy2 := (ofCrc hcy).to (B := wu.heap.size) (fun g hg => hg.2)
          rw [HSE.out, ints_nats _ HB6.out] at hcy2
          have HCY := hid hcy2
          have HOU := hid (HOT.out.kept hku htu)
          have HEU := hid (HEV.out.on hku (fun g hg => by omega))
          have HBU := hid ((On.bytes HB1.out HOU.out HB.out).to (B := wu.heap.size) (fun g hg => hg.2))
          obtain ⟨ay, cy, rfl, _⟩ := hcy2
          clear hsl hcy hoy hku htu
          have HNN := HN2.out
          rw [HNN] at HCY ⊢
          clear HNN
          go_wp2_with fail
          refine (Tlv.refBytes_any _ _ bs bs wu HCY.out HBU.out).mono ?_
          rintro e wv ⟨rfl, hbv⟩
          have hdt : decide (bs = bs) = true := by simp
          rw [hdt]
          have HOV := hid (HOU.out.kp (Kp.below hbv))
          have HEW := hid (HEU.out.kept (Kp.below hbv))
          clear hbv hdt
          go_wp2_with fail
          refine (right_any _ _ dm _ HEW.out (by rw [HNM.out]; have := HRM.out.1; have := HNM.out; omega)).mono ?_
          rintro e wx ⟨⟨rb, rfl, hrb⟩, hkx⟩
          have hrbt : rb = true := hrb.2 HRM.out
          subst hrbt
          have HOY := hid (HOV.out.kp hkx)
          clear hrb hkx
          go_wp2_with fail
          refine (alive_any _).mono ?_
          rintro e wz ⟨rfl, hkz⟩
          have HF := hid (On.fin HB1.out (HOY.out.kp hkz))
          clear hkz
          go_wp2_with fail
          go_ret
          exact ⟨rfl, HF.out⟩
        · have hd0 := gans_none HGA.out hf
          have hn0 : nm = 0 := by rw [← HNM.out, hd0]; rfl
          subst hn0
          have hfb : (fm != 0) = true := by simpa using hf
          clear hd0 HEV
          go_wp2_with fail
          refine (alive_any _).mono ?_
          rintro e wz ⟨rfl, hkz⟩
          have HF := hid (On.fin HB1.out (HOT.out.kp hkz))
          clear hkz
          go_wp2_with fail
          go_ret
          exact ⟨rfl, HF.out⟩
    · go_wp2_with fail
      refine (get_any w.heap.size w8 _ bs HO8.out.2 (On.bytes HB1.out HO8.out HB.out) (by rw [HN2.out]; omega)).mono ?_
      rintro e wt ⟨vm, fm, dm, rfl, hga, hrow, hown, hok, hkt, htt⟩
      have HOT := hid (HO8.out.kept hkt htt)
      have HGA := hid hga
      have hzt : w8.heap.size ≤ wt.heap.size := hkt.size
      have hzw : w.heap.size < w8.heap.size := by omega
      have HEV : Hid (EV (fun g => w.heap.size < g) wt vm dm) := ev_of_row hrow hok (fun x hx => by have := hown x hx; omega)
      obtain ⟨am, cm, rfl⟩ := shapeR hrow
      have HOKM := hid hok
      clear hga hrow hown hok hkt htt
      obtain ⟨nm, hnm⟩ : ∃ n, dm.length = n := ⟨_, rfl⟩
      have HNM := hid hnm
      rw [hnm] at HEV ⊢
      clear hnm
      by_cases hf : fm = 0
      · subst hf
        obtain ⟨hRm, hseal⟩ := gans_zero HB6.out HGA.out
        have HRM := hid hRm
        have HSE := hid hseal
        clear hRm hseal HGA
        go_wp2_with fail
        refine (put_yes w.heap.size wt _ dm _ HOT.out.2 HEV.out HRM.out).mono ?_
        rintro e wu ⟨vy, rfl, hoy, hku, htu⟩
        have hsl := sealE_length HOKM.out HRM.out.1
        have hcy : Crc.BySl w.heap.size wu vy (nats (sealE dm)) := hoy.bySl (by omega) (by rw [nats_length]; omega) (nats_lt _ (sealE_bd HOKM.out HRM.out.1))
        have hcy2 := (ofCrc hcy).to (B := wu.heap.size) (fun g hg => hg.2)
        rw [HSE.out, ints_nats _ HB6.out] at hcy2
        have HCY := hid hcy2
        have HOU := hid (HOT.out.kept hku htu)
        have HEU := hid (HEV.out.on hku (fun g hg => by omega))
        have HBU := hid ((On.bytes HB1.out HOU.out HB.out).to (B := wu.heap.size) (fun g hg => hg.2))
        obtain ⟨ay, cy, rfl, _⟩ := hcy2
        clear hsl hcy hoy hku htu
        have HNN := HN2.out
        rw [HNN] at HCY ⊢
        clear HNN
        go_wp2_with fail
        refine (Tlv.refBytes_any _ _ bs bs wu HCY.out HBU.out).mono ?_
        rintro e wv ⟨rfl, hbv⟩
        have hdt : decide (bs = bs) = true := by simp
        rw [hdt]
        have HOV := hid (HOU.out.kp (Kp.below hbv))
        have HEW := hid (HEU.out.kept (Kp.below hbv))
        clear hbv hdt
        go_wp2_with fail
        refine (right_any _ _ dm _ HEW.out (by rw [HNM.out]; have := HRM.out.1; have := HNM.out; omega)).mono ?_
        rintro e wx ⟨⟨rb, rfl, hrb⟩, hkx⟩
        have hrbt : rb = true := hrb.2 HRM.out
        subst hrbt
        have HOY := hid (HOV.out.kp hkx)
        clear hrb hkx
        go_wp2_with fail
        refine (alive_any _).mono ?_
        rintro e wz ⟨rfl, hkz⟩
        have HF := hid (On.fin HB1.out (HOY.out.kp hkz))
        clear hkz
        go_wp2_with fail
        go_ret
        exact ⟨rfl, HF.out⟩
      · have hd0 := gans_none HGA.out hf
        have hn0 : nm = 0 := by rw [← HNM.out, hd0]; rfl
        subst hn0
        have hfb : (fm != 0) = true := by simpa using hf
        clear hd0 HEV
        go_wp2_with fail
        refine (alive_any _).mono ?_
        rintro e wz ⟨rfl, hkz⟩
        have HF := hid (On.fin HB1.out (HOT.out.kp hkz))
        clear hkz
        go_wp2_with fail
        go_ret
        exact ⟨rfl, HF.out⟩
  · have HR := hid hR
    clear hR
    go_wp2_with fail
    refine (put_no _ w3 _ S _ HVS.out (by rw [HNS.out]; have := HLS.out; omega) HR.out).mono ?_
    rintro e w4 ⟨rfl, hk4⟩
    have HO4 := hid (HO3.out.kp hk4)
    have hz4 : w3.heap.size ≤ w4.heap.size := hk4.size
    clear hk4
    go_wp2_with fail
    refine (get_any w.heap.size w4 _ bs HO4.out.2 (On.bytes HB1.out HO4.out HB.out) (by rw [HN2.out]; omega)).mono ?_
    rintro e wt ⟨vm, fm, dm, rfl, hga, hrow, hown, hok, hkt, htt⟩
    have HOT := hid (HO4.out.kept hkt htt)
    have HGA := hid hga
    have hzt : w4.heap.size ≤ wt.heap.size := hkt.size
    have hzw : w.heap.size < w4.heap.size := by omega
    have HEV : Hid (EV (fun g => w.heap.size < g) wt vm dm) := ev_of_row hrow hok (fun x hx => by have := hown x hx; omega)
    obtain ⟨am, cm, rfl⟩ := shapeR hrow
    have HOKM := hid hok
    clear hga hrow hown hok hkt htt
    obtain ⟨nm, hnm⟩ : ∃ n, dm.length = n := ⟨_, rfl⟩
    have HNM := hid hnm
    rw [hnm] at HEV ⊢
    clear hnm
    by_cases hf : fm = 0
    · subst hf
      obtain ⟨hRm, hseal⟩ := gans_zero HB6.out HGA.out
      have HRM := hid hRm
      have HSE := hid hseal
      clear hRm hseal HGA
      go_wp2_with fail
      refine (put_yes w.heap.size wt _ dm _ HOT.out.2 HEV.out HRM.out).mono ?_
      rintro e wu ⟨vy, rfl, hoy, hku, htu⟩
      have hsl := sealE_length HOKM.out HRM.out.1
      have hcy : Crc.BySl w.heap.size wu vy (nats (sealE dm)) := hoy.bySl (by omega) (by rw [nats_length]; omega) (nats_lt _ (sealE_bd HOKM.out HRM.out.1))
      have hcy2 := (ofCrc hcy).to (B := wu.heap.size) (fun g hg => hg.2)
      rw [HSE.out, ints_nats _ HB6.out] at hcy2
      have HCY := hid hcy2
      have HOU := hid (HOT.out.kept hku htu)
      have HEU := hid (HEV.out.on hku (fun g hg => by omega))
      have HBU := hid ((On.bytes HB1.out HOU.out HB.out).to (B := wu.heap.size) (fun g hg => hg.2))
      obtain ⟨ay, cy, rfl, _⟩ := hcy2
      clear hsl hcy hoy hku htu
      have HNN := HN2.out
      rw [HNN] at HCY ⊢
      clear HNN
      go_wp2_with fail
      refine (Tlv.refBytes_any _ _ bs bs wu HCY.out HBU.out).mono ?_
      rintro e wv ⟨rfl, hbv⟩
      have hdt : decide (bs = bs) = true := by simp
      rw [hdt]
      have HOV := hid (HOU.out.kp (Kp.below hbv))
      have HEW := hid (HEU.out.kept (Kp.below hbv))
      clear hbv hdt
      go_wp2_with fail
      refine (right_any _ _ dm _ HEW.out (by rw [HNM.out]; have := HRM.out.1; have := HNM.out; omega)).mono ?_
      rintro e wx ⟨⟨rb, rfl, hrb⟩, hkx⟩
      have hrbt : rb = true := hrb.2 HRM.out
      subst hrbt
      have HOY := hid (HOV.out.kp hkx)
      clear hrb hkx
      go_wp2_with fail
      refine (alive_any _).mono ?_
      rintro e wz ⟨rfl, hkz⟩
      have HF := hid (On.fin HB1.out (HOY.out.kp hkz))
      clear hkz
      go_wp2_with fail
      go_ret
      exact ⟨rfl, HF.out⟩
    · have hd0 := gans_none HGA.out hf
      have hn0 : nm = 0 := by rw [← HNM.out, hd0]; rfl
      subst hn0
      have hfb : (fm != 0) = true := by simpa using hf
      clear hd0 HEV
      go_wp2_with fail
      refine (alive_any _).mono ?_
      rintro e wz ⟨rfl, hkz⟩
      have HF := hid (On.fin HB1.out (HOT.out.kp hkz))
      clear hkz
      go_wp2_with fail
      go_ret
      exact ⟨rfl, HF.out⟩
end Go.Proofs.Ytampnikdmgojjaa.Sg
end

section
/-
  Records that came in, opened.
-/
namespace Go.Proofs.Ytampnikdmgojjaa
open Go.RowKit Go.ChangeShapes Go.WideShapes

theorem mapM_each {α β : Type} {f : α → Option β} : ∀ (L : List α) (ys : List β), L.mapM f = some ys → ∀ i ∈ L, ∃ y, f i = some y
  | [], _, _, i, hi => by simp at hi
  | a :: L, ys, h, i, hi => by
    rw [List.mapM_cons] at h
    simp only [bind, Option.bind_eq_some_iff, pure, Option.some.injEq] at h
    obtain ⟨y, hy, zs, hzs, _⟩ := h
    rcases List.mem_cons.1 hi with rfl | hi
    · exact ⟨y, hy⟩
    · exact mapM_each L zs hzs i hi

section
variable {H : Type} {enc : TypeId × Value → H} {P : Program} {W : World} {base : Nat} {sp : Nat → Bool} {held : Bool} {t e : TypeId} {n : Nat} {q : IntKind}
/-- The cells of an array of integers that came in. -/
theorem arr_ints (hu : P.underlying t = some (.array n e)) (he : P.underlying e = some (.int q)) (h1 : P.cellsOf e = 1) {fuel : Nat} {cs : List Value} {x : DataW H × List MemPlace} (hl : cs.length = n)
    (h : DataW.trod enc P W base sp held fuel t cs = some x) : ∃ zs : List Int, cs = zs.map (fun z => Value.int q z) ∧ zs.length = n ∧ ∀ z ∈ zs, (Lit.int q z).wf = true := by
  cases fuel with
  | zero => simp [DataW.trod] at h
  | succ m =>
    rw [DataW.trod_step] at h
    unfold DataW.trodStep at h
    simp only [hu] at h
    split at h
    · simp only [Option.map_eq_some_iff] at h
      obtain ⟨ys, hy, _⟩ := h
      have hE : ∀ i, i < n → ∃ z, cs[i]? = some (.int q z) ∧ (Lit.int q z).wf = true := fun i hi => by
        obtain ⟨y, hy⟩ := mapM_each _ ys hy i (List.mem_range.2 hi)
        obtain ⟨a, ea, _, wa⟩ := DataW.trod_int he hy
        rw [h1, Nat.mul_one] at ea
        refine ⟨a, ?_, wa⟩
        have h := congrArg (fun l : List Value => l[0]?) ea
        simpa [List.getElem?_take, List.getElem?_drop] using h
      refine ⟨cs.map intOf, ?_, by simpa using hl, ?_⟩
      · apply List.ext_getElem?
        intro i
        by_cases hi : i < n
        · obtain ⟨z, hz, _⟩ := hE i hi
          simp [hz, intOf]
        · have : cs[i]? = none := List.getElem?_eq_none (by omega)
          simp [this]
      · intro z hz
        obtain ⟨x, hx, rfl⟩ := List.mem_map.1 hz
        obtain ⟨i, hi, rfl⟩ := List.getElem_of_mem hx
        obtain ⟨z, hz, hw⟩ := hE i (by omega)
        rw [List.getElem?_eq_getElem hi] at hz
        simp only [Option.some.injEq] at hz
        rw [hz]
        exact hw
    · simp at h
end

/-- A slice of bytes, as it came in. -/
def InRow (W : World) (a : Option Addr) (l c : Nat) : Prop :=
  (a = none ∧ l = 0 ∧ c = 0) ∨ ∃ (y : Addr) (zs : List Int), a = some y ∧ l ≤ c ∧ c ≤ maxLen ∧ zs.length = c ∧ (∀ i, i < zs.length → W.cell? (y.add i) = some (.int .u8 (zs.getD i 0))) ∧ ∀ n ∈ zs, (Lit.int .u8 n).wf = true

theorem InRow.le {W : World} {a : Option Addr} {l c : Nat} (h : InRow W a l c) : l ≤ 9223372036854775807 := by
  rcases h with ⟨_, rfl, _⟩ | ⟨_, _, _, h1, h2, _⟩
  · omega
  · unfold maxLen at h2; omega

theorem spot_none {w : World} {x : Addr} {v : Value} (c0 : w.cell? (x.add 0) = some v) : x.spot = none := by
  have e : x.add 0 = x := rfl
  rw [e] at c0
  unfold World.cell? at c0
  split at c0
  · split at c0
    · cases c0
    · rename_i hs; simpa using hs
  · cases c0

theorem addr_plus (g o i : Nat) : (⟨g, o, none⟩ : Addr).add i = ⟨g, o + i, none⟩ := by unfold Addr.add; split <;> simp_all

theorem u8_wf {y : Int} (h : (Lit.int .u8 y).wf = true) : 0 ≤ y ∧ y ≤ 255 := by
  have hmin : IntKind.u8.min = 0 := rfl
  have hmax : IntKind.u8.max = 255 := rfl
  simp only [Lit.wf, Bool.and_eq_true, decide_eq_true_eq] at h
  omega

theorem i64_wf {y : Int} (h : (Lit.int .i64 y).wf = true) : -9223372036854775808 ≤ y ∧ y ≤ 9223372036854775807 := by
  have hmin : IntKind.i64.min = -9223372036854775808 := rfl
  have hmax : IntKind.i64.max = 9223372036854775807 := rfl
  simp only [Lit.wf, Bool.and_eq_true, decide_eq_true_eq] at h
  omega
theorem u32_wf {y : Int} (h : (Lit.int .u32 y).wf = true) : 0 ≤ y ∧ y ≤ 4294967295 := by
  have hmin : IntKind.u32.min = 0 := rfl
  have hmax : IntKind.u32.max = 4294967295 := rfl
  simp only [Lit.wf, Bool.and_eq_true, decide_eq_true_eq] at h
  omega

theorem InRow.bytes {w : World} {a : Option Addr} {len cap : Nat} (h : InRow w a len cap) (hl : len ≤ 140737488355328) : ∃ bs : List Int, bs.length = len ∧ Tlv.BySl 0 w.heap.size w (.slice a len cap) bs := by
  rcases h with ⟨rfl, rfl, rfl⟩ | ⟨x, zs, rfl, h1, h2, h3, h4, h5⟩
  · exact ⟨[], rfl, Tlv.BySl.none _ _ _⟩
  · have hlen : (zs.take len).length = len := List.length_take_of_le (by omega)
    refine ⟨zs.take len, hlen, _, cap, by rw [hlen], by rw [hlen]; exact h1, h2, by simp, by rw [hlen]; omega, fun y hy => u8_wf (h5 y (List.mem_of_mem_take hy)), fun hne => ?_⟩
    have hpos : 0 < len := by have := List.length_pos_iff.2 hne; omega
    have c0 := h4 0 (by omega)
    have hx := spot_none c0
    obtain ⟨b, o, s⟩ := x
    simp only at hx
    subst hx
    refine ⟨b, o, rfl, Nat.zero_le _, World.block_lt_of_cell? w _ c0, fun i hi => ?_⟩
    have := h4 i (by omega)
    rw [addr_plus] at this
    rw [this]
    rw [hlen] at hi
    simp [hi]



end Go.Proofs.Ytampnikdmgojjaa
end

section
/-
  A list of the document's entries that came in, opened.
-/
namespace Go.Proofs.Ytampnikdmgojjaa.Sg
open Go.RowKit Go.ChangeShapes Go.WideShapes

theorem mapM_get {α β : Type} {f : α → Option β} : ∀ (L : List α) (ys : List β), L.mapM f = some ys → ∀ i : Nat, ys[i]? = (L[i]?).bind f
  | [], ys, h, i => by
    simp only [List.mapM_nil, pure, Option.some.injEq] at h
    subst h
    simp
  | a :: L, ys, h, i => by
    rw [List.mapM_cons] at h
    simp only [bind, Option.bind_eq_some_iff, pure, Option.some.injEq] at h
    obtain ⟨y, hy, zs, hzs, rfl⟩ := h
    cases i with
    | zero => simp [hy]
    | succ i => simpa using mapM_get L zs hzs i

theorem cells_get {w : World} {base n : Nat} {a : Addr} {cs : List Value} (h : w.cells? base a n = some cs) (i : Nat) (hi : i < n) : w.cell? (a.add i) = cs[i]? := by
  unfold World.cells? at h
  split at h
  · have := mapM_get _ _ h i
    rw [List.getElem?_range hi] at this
    exact this.symm
  · cases h

theorem trod_struct2 {H : Type} {enc : TypeId × Value → H} {P : Program} {w : World} {base : Nat} {spare : Nat → Bool} {held : Bool} {t : TypeId} {f0 f1 : Field} {fuel : Nat} {cs : List Value} {x : DataW H × List MemPlace} (ht : P.underlying t = some (.struct #[f0, f1])) (h : DataW.trod enc P w base spare held fuel t cs = some x) :
    ∃ y0 y1 n, cs.length = P.cellsOf t ∧ DataW.trod enc P w base spare held n f0.type ((cs.drop f0.offset).take (P.cellsOf f0.type)) = some y0 ∧
      DataW.trod enc P w base spare held n f1.type ((cs.drop f1.offset).take (P.cellsOf f1.type)) = some y1 := by
  obtain ⟨xs, n, _, rfl, hl, hlen, hf⟩ := DataW.trod_struct ht h
  match xs, hlen with
  | [y0, y1], _ => exact ⟨y0, y1, n, hl, by simpa using hf 0 f0 rfl, by simpa using hf 1 f1 rfl⟩

set_option maxRecDepth 100000 in
/-- An entry's cells that came in. -/
theorem ent_cells {H : Type} {enc : TypeId × Value → H} {W : World} {fuel : Nat} {cs : List Value} {x : DataW H × List MemPlace} (h : DataW.trod enc Try.prog W 0 (fun _ => true) true fuel 75 cs = some x) :
    ∃ e : Ent, cs = entC e ∧ EOk e := by
  obtain ⟨y0, y1, n, hl, h0, h1⟩ := trod_struct2 Try.underlying75 h
  have e75 : Try.prog.cellsOf 75 = 35 := by kernel_rfl
  have e46 : Try.prog.cellsOf 46 = 32 := by kernel_rfl
  have e73 : Try.prog.cellsOf 73 = 3 := by kernel_rfl
  have e3 : Try.prog.cellsOf 3 = 1 := by kernel_rfl
  rw [e75] at hl
  simp only [e46, e73] at h0 h1
  obtain ⟨nm, hnm, hnl, hwf⟩ := arr_ints Try.underlying46 Try.underlying5 (by kernel_rfl) (by simp; omega) h0
  obtain ⟨_, _, _, m, _, _, p0, p1, p2⟩ := Go.Deep.trod_struct3 Try.underlying73 h1
  simp only [e3] at p0 p1 p2
  obtain ⟨p, hp, _, _⟩ := DataW.trod_int Try.underlying3 p0
  obtain ⟨q, hq, _, _⟩ := DataW.trod_int Try.underlying3 p1
  obtain ⟨r, hr, _, _⟩ := DataW.trod_int Try.underlying3 p2
  refine ⟨(nm, p, q, r), ?_, hnl, fun y hy => u8_wf (hwf y hy)⟩
  simp only [List.drop_zero] at hnm
  have l3 : (cs.drop 32).length = 3 := by simp; omega
  have e : cs.drop 32 = [.int .i64 p, .int .i64 q, .int .i64 r] := by
    match hc : cs.drop 32, l3 with
    | [a, b, c], _ =>
      rw [hc] at hp hq hr
      simp at hp hq hr
      rw [hp, hq, hr]
  rw [← List.take_append_drop 32 cs, hnm, e]
  rfl

theorem spotless {w : World} {x : Addr} {v : Value} (c0 : w.cell? (x.add 0) = some v) : x.spot = none := spot_none c0

set_option maxRecDepth 100000 in
theorem ents_of {H : Type} {enc : TypeId × Value → H} {W : World} {a0 : Option Addr} {len cap fuel : Nat} {x : DataW H × List MemPlace}
    (h : DataW.trod enc Try.prog W 0 (fun _ => true) true fuel 22 [.slice a0 len cap] = some x) :
    ∃ d : List Ent, d.length = len ∧ EV (fun g => g < W.heap.size) W (.slice a0 len cap) d := by
  rcases Go.Deep.open_slice Try.underlying22 h with ⟨hcs, _⟩ | ⟨a, l, c, m, n, D, Pl, hcs, _, hl, hm, hmm, _, hr⟩
  · simp only [List.cons.injEq, Value.slice.injEq, and_true] at hcs
    obtain ⟨rfl, rfl, rfl⟩ := hcs
    exact ⟨[], rfl, EV.nil _ _⟩
  · simp only [List.cons.injEq, Value.slice.injEq, and_true] at hcs
    obtain ⟨rfl, rfl, rfl⟩ := hcs
    simp only [if_true] at hmm
    subst hmm
    have e26 : Try.prog.cellsOf 75 = 35 := by kernel_rfl
    rw [e26] at hr
    have each : ∀ r, r < len → ∃ t : Ent, EOk t ∧ ∀ i, i < 35 → W.cell? ((a.add (r * 35)).add i) = (entC t)[i]? := by
      intro r hr1
      obtain ⟨cs', h1, h2⟩ := hr r (by omega)
      obtain ⟨e, rfl, he⟩ := ent_cells h2
      exact ⟨e, he, fun i hi => cells_get h1 i hi⟩
    obtain ⟨y, hy⟩ := Go.Deep.choose_lt each
    have hlen : ((List.range len).map y).length = len := by simp
    have hget : ∀ j t, ((List.range len).map y)[j]? = some t → j < len ∧ t = y j := fun j t hj => by
      have hjl : j < len := by
        have := (List.getElem?_eq_some_iff.1 hj).1
        simpa using this
      simp only [List.getElem?_map, List.getElem?_range hjl, Option.map_some, Option.some.injEq] at hj
      exact ⟨hjl, hj.symm⟩
    refine ⟨(List.range len).map y, hlen, some a, _, by rw [hlen], by rw [hlen]; exact hl, hm, by simp, fun e he => ?_, fun hne => ?_⟩
    · obtain ⟨j, hj⟩ := List.mem_iff_getElem?.1 he
      obtain ⟨hjl, rfl⟩ := hget j e hj
      exact (hy j hjl).1
    · have hpos : 0 < len := by
        have := List.length_pos_iff.2 hne
        omega
      have h00 := (hy 0 hpos).2 0 (by omega)
      obtain ⟨v0, hv0⟩ : ∃ v, (entC (y 0))[0]? = some v := ⟨_, List.getElem?_eq_getElem (by rw [entC_length (hy 0 hpos).1]; omega)⟩
      rw [hv0] at h00
      have ha : a.spot = none := by
        rw [Nat.zero_mul] at h00
        have e : (a.add 0) = a := rfl
        rw [e] at h00
        exact spot_none h00
      obtain ⟨b, o, s⟩ := a
      simp only at ha
      subst ha
      have hb : b < W.heap.size := by
        rw [addr_plus, addr_plus] at h00
        exact World.block_lt_of_cell? W _ h00
      refine ⟨b, o, rfl, hb, hb, fun j t hj => ?_⟩
      obtain ⟨hjl, rfl⟩ := hget j t hj
      refine ⟨(hy j hjl).1, fun i v hv => ?_⟩
      have hi : i < 35 := by
        have := (List.getElem?_eq_some_iff.1 hv).1
        rw [entC_length (hy j hjl).1] at this
        exact this
      have h := (hy j hjl).2 i hi
      rw [addr_plus, addr_plus, hv] at h
      exact h
end Go.Proofs.Ytampnikdmgojjaa.Sg
end
