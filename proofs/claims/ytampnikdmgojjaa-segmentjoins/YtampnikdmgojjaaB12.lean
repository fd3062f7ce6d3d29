/- Of the proof: the texts SgOwn, SgValue, SgPut, SgNil, SgAlive, SgJoinsM, SgJoins, FrOpen, one behind the other. -/
import Derived.Test.YtampnikdmgojjaaB11
import Derived.Test.YtampnikdmgojjaaB10
import Derived.Test.YtampnikdmgojjaaB9
import Derived.Deep.DeepCutAuto
import Derived.ProofKit
import Derived.OpenShut
import Derived.Deep.Slices
import Derived.Deep.Strs
import Derived.Lib.SmallJoins
import Derived.WideKeyArr2
section
/-
  Own of the tenth law: entries of the document's type as the program's.
-/
namespace Go.Proofs.Ytampnikdmgojjaa.Sg
open Go.RowKit
open Stb (Stab Srt Mrg)
open Sim (hid Kp No)

theorem x32 {nm : List Int} (h : nm.length = 32) : ∃ x0 x1 x2 x3 x4 x5 x6 x7 x8 x9 x10 x11 x12 x13 x14 x15 x16 x17 x18 x19 x20 x21 x22 x23 x24 x25 x26 x27 x28 x29 x30 x31,
    nm = [x0, x1, x2, x3, x4, x5, x6, x7, x8, x9, x10, x11, x12, x13, x14, x15, x16, x17, x18, x19, x20, x21, x22, x23, x24, x25, x26, x27, x28, x29, x30, x31] := by
  match nm, h with
  | [x0, x1, x2, x3, x4, x5, x6, x7, x8, x9, x10, x11, x12, x13, x14, x15, x16, x17, x18, x19, x20, x21, x22, x23, x24, x25, x26, x27, x28, x29, x30, x31], _ => exact ⟨_, _, _, _, _, _, _, _, _, _, _, _, _, _, _, _, _, _, _, _, _, _, _, _, _, _, _, _, _, _, _, _, rfl⟩
theorem built48b (nm : List Int) (p q r : Int) (h : nm.length = 32) : Try.prog.built 48 [(0, .agg (b8 nm).toArray), (1, .agg #[.int .i64 p, .int .i64 q, .int .i64 r])] = some (entC (nm, p, q, r)).toArray := by
  obtain ⟨x0, x1, x2, x3, x4, x5, x6, x7, x8, x9, x10, x11, x12, x13, x14, x15, x16, x17, x18, x19, x20, x21, x22, x23, x24, x25, x26, x27, x28, x29, x30, x31, rfl⟩ := x32 h
  kernel_rfl
theorem run_oneE (nm : List Int) (p q r : Int) (h : nm.length = 32) (w : World) : (Instr.buildSlice 27 1 #[(0, .agg (entC (nm, p, q, r)).toArray)]).run Try.prog w = .ok (.slice (some ⟨w.heap.size, 0, none⟩) 1 1) (w.alloc (.cells (entC (nm, p, q, r)).toArray 48)) := by
  obtain ⟨x0, x1, x2, x3, x4, x5, x6, x7, x8, x9, x10, x11, x12, x13, x14, x15, x16, x17, x18, x19, x20, x21, x22, x23, x24, x25, x26, x27, x28, x29, x30, x31, rfl⟩ := x32 h
  kernel_rfl
theorem yields_two {P : Program} {ops : Array Oper} {S : World → Prop} {o : Oper} {a : Act} (hw : Region.wanted o (yielded ops a.tmps) = true) (t : TypeId) (i j : Nat) (x y : Operand) (ho : o.op = .build t #[(i, x), (j, y)])
    (vx vy : Value) (hx : a.eval x = vx) (hy : a.eval y = vy) (C : Array Value) (hb : P.built t [(i, vx), (j, vy)] = some C) : YieldsIf P ops S o (.agg C) a :=
  .inl ⟨hw, fun w _ => by
    have e : P.built t ((#[(i, x), (j, y)] : Array (Nat × Operand)).map fun (i, x) => (i, a.eval x)).toList = some C := by
      rw [← hb]
      simp only [List.map_toArray, List.map_cons, List.map_nil, hx, hy]
    unfold execOp
    simp only [ho, Sem.run_bind, run_build w t _ C e, Result.andThen_ok]
    rfl⟩
theorem exec_sliceE {P : Program} {o : Oper} {a : Act} {w w' : World} (t : TypeId) (x : Operand) (ho : o.op = .buildSlice t 1 #[(0, x)]) (v u : Value) (hx : a.eval x = v) (hr : (Instr.buildSlice t 1 #[(0, v)]).run P w = .ok u w') : (execOp a.eval o).run P w = .ok (.value u) w' := by
  unfold execOp
  simp [ho, hx, hr, Result.andThen]
theorem exec_appE {P : Program} {o : Oper} {a : Act} {w w' : World} (s x : Operand) (t : TypeId) (ho : o.op = .call { callee := .builtin .append, args := #[s, x], argTypes := #[t, t] }) (vs vx v : Value) (hs : a.eval s = vs) (hx : a.eval x = vx)
    (hr : (Builtin.append_ #[t, t] o.type #[vs, vx]).run P w = .ok v w') : (execOp a.eval o).run P w = .ok (.value v) w' := by
  unfold execOp
  simp [ho, resolve, invoke, builtin, hs, hx, hr, Result.andThen]
theorem wp_valE {P : Program} {o : Oper} {a : Act} {K : Act → World → Prop} {Q : Exit → Act → World → Prop} {w w' : World} {v : Value} (hr : (execOp a.eval o).run P w = .ok (.value v) w') (h : K (a.put o.dst v) w') : Oper.wp P o a w K Q := by
  unfold Oper.wp
  rw [hr]
  exact h
/-- append of a row of the call's own, with its world. -/
theorem app_run (w : World) (ty : TypeId) (v vx : Value) (n m : Nat) (xs ys : List Value) (hown : Sim.Row w 48 35 v n xs) (hy : Sim.Src w vx m 35 ys) (hm : 0 < m) (hlen : n + m ≤ 2000000) :
    ∃ ad cap w', (Builtin.append_ #[27, 27] ty #[v, vx]).run Try.prog w = .ok (.slice ad (n + m) cap) w' ∧ Sim.Row w' 48 35 (.slice ad (n + m) cap) (n + m) (xs ++ ys) ∧ w.grownBy w' v.ownBlock ∧ ((Value.slice ad (n + m) cap).ownBlock = v.ownBlock ∨ (Value.slice ad (n + m) cap).ownBlock = some w.heap.size) := by
  obtain ⟨i0, hi, hz0, hz1', hz2⟩ := info_parts infoE
  rcases hy with ⟨rfl, rfl, rfl⟩ | ⟨ad, c, rfl, hl, hc, h1⟩
  · omega
  · obtain ⟨v', w', hr, h8, h9, _, h10⟩ := run_append_own_at (P := Try.prog) w 0 27 ty 48 i0 (.agg zE.toArray) 35 56 Try.underlying27 hi hz0 hz1' hz2 rfl (by omega) v n xs hown ad m c ys hl hc h1 (by unfold maxLen; omega) (by omega) (Nat.zero_le _)
    have h8' : Sim.Row w' 48 35 v' (n + m) (xs ++ ys) := h8
    obtain ⟨ad', cap', rfl, _⟩ := h8'.shape
    exact ⟨ad', cap', w', hr, h8, h9, h10⟩

set_option maxHeartbeats 4000000 in
set_option maxRecDepth 100000 in
theorem own_any (w : World) (v : Value) (d : List Ent) (P : Nat → Prop) (hv : EV P w v d) (hl : d.length ≤ 1000000) :
    Calls Try.prog 8 #[v] w fun e w' => ∃ r, e = .returned r ∧ Mine w w' r d := by
  obtain ⟨a, c, rfl, h2, h3, h4, h5, h6⟩ := hv
  obtain ⟨n, hn⟩ : ∃ n, d.length = n := ⟨_, rfl⟩
  have HN := hid hn
  rw [hn] at hl ⊢
  have H6 := hid h6
  have HM0 : Hid (Mine w w (.slice none 0 0) (d.take 0)) := ⟨Sim.Row.nil _ _ _, by intro x hx; simp [Value.ownBlock] at hx, Kp.refl _ _⟩
  clear hn h2 h3 h4 h5 h6
  go_enter Try.func8, Try.ntmps8
  go_wp2_with fail
  go_loopw [3, 4] (fun v3 v4 wr => ∃ (k : Nat) (ad : Option Addr) (cap : Nat), v3 = .slice ad k cap ∧ v4 = .int .i64 (k : Int) ∧ k ≤ n ∧ Hid (Mine w wr (.slice ad k cap) (d.take k))) (fun _ v4 _ => n - (intOf v4).toNat)
  case atStart => exact ⟨0, none, 0, rfl, rfl, Nat.zero_le _, HM0.out⟩
  case round =>
    obtain ⟨k, ad, cap, rfl, rfl, hkn, HS⟩ := hrel
    by_cases hlt : k < n
    · have hltI : (k : Int) < (n : Int) := by omega
      have hwk : IntKind.i64.wrap ((k : Int) + 1) = ((k + 1 : Nat) : Int) := by rw [IntKind.wrap_i64]; omega
      obtain ⟨g, o, rfl, _, hr⟩ := H6.out (by intro e; have := HN.out; rw [e] at this; simp at this; omega)
      obtain ⟨e, he⟩ : ∃ e, d[k]? = some e := ⟨_, List.getElem?_eq_getElem (by rw [HN.out]; exact hlt)⟩
      obtain ⟨heo, _⟩ := hr.2 k e he
      obtain ⟨nm, p, q, r⟩ := e
      have hnm : nm.length = 32 := heo.1
      have hgO : (Value.slice ad k cap).ownBlock ≠ some g := fun e => by have := HS.out.2.1 g e; have := hr.1; omega
      have hgw : g < wr.heap.size := Nat.lt_of_lt_of_le hr.1 HS.out.2.2.size
      have hrow : ∀ V, Kp (fun x => (Value.slice ad k cap).ownBlock = some x) wr V → V.rangeAt g (o + k * 35) (entC (nm, p, q, r)) := fun V hV j u hu => (hV.cell (p := ⟨g, _, none⟩) hgw hgO).trans (((hr.kp HS.out.2.2 (fun x => x)).2 k _ he).2 j u hu)
      have HLX : Hid (∀ V, Kp (fun x => (Value.slice ad k cap).ownBlock = some x) wr V → V.rangeAt g (o + k * 35) (b8 nm)) := fun V hV => rng_name (hrow V hV)
      have HLP : Hid (∀ V, Kp (fun x => (Value.slice ad k cap).ownBlock = some x) wr V → V.cell? ⟨g, o + k * 35 + 32, none⟩ = some (.int .i64 p) ∧ V.cell? ⟨g, o + k * 35 + 32 + 1, none⟩ = some (.int .i64 q) ∧ V.cell? ⟨g, o + k * 35 + 32 + 2, none⟩ = some (.int .i64 r)) := fun V hV => by
        have h := rng_place heo (hrow V hV)
        exact ⟨h 0 _ rfl, h 1 _ rfl, h 2 _ rfl⟩
      have HI1 : Hid ((Try.prog.info? 46).map (·.size) = some (b8 nm).length) := by rw [Hid, b8_length, hnm]; exact infH
      have HB1 := hid (built48b nm p q r hnm)
      have HB2 := hid (fun W => run_oneE nm p q r hnm W)
      have hkl : (d.take k).length = k := by rw [List.length_take, HN.out]; omega
      have HNX : Hid (d.take (k + 1) = d.take k ++ [(nm, p, q, r)]) := by rw [Hid, List.take_add_one, he]; rfl
      obtain ⟨C, hC⟩ : ∃ C, entC (nm, p, q, r) = C := ⟨_, rfl⟩
      have hRA : Sim.Row (wr.drew.alloc (.cells C.toArray 48)) 48 35 (.slice ad k cap) k (ents (d.take k)) := by
        have := HS.out.1
        rw [hkl] at this
        exact this.kept (((Kp.refl No wr).drew).alloc _)
      have hSC : Sim.Src (wr.drew.alloc (.cells C.toArray 48)) (.slice (some ⟨wr.heap.size, 0, none⟩) 1 1) 1 35 C := Sim.Src.one wr.drew C 35 48 (by rw [← hC]; exact entC_length heo) (by rw [← hC]; exact entC_one _)
      obtain ⟨ad2, cap2, w2, hap, hrow2, hgr2, hown2⟩ := app_run _ 27 (.slice ad k cap) (.slice (some ⟨wr.heap.size, 0, none⟩) 1 1) k 1 _ _ hRA hSC (by omega) (by omega)
      have hgr : wr.grownBy w2 (Value.slice ad k cap).ownBlock → True := fun _ => trivial
      have HKA : Hid (Kp (fun x => (Value.slice ad k cap).ownBlock = some x) wr (wr.drew.alloc (.cells C.toArray 48))) := ((Kp.refl _ wr).drew).alloc _
      have HK2 : Hid (Kp (fun x => (Value.slice ad k cap).ownBlock = some x) wr w2) := HKA.out.grown hgr2 (fun x hx => .inl hx)
      have HF : Hid (Mine w w2 (.slice ad2 (k + 1) cap2) (d.take (k + 1))) := by
        rw [HNX.out]
        refine ⟨?_, fun x hx => ?_, HS.out.2.2.trans HK2.out (fun x hx => .inr (HS.out.2.1 x hx))⟩
        · rw [List.length_append, hkl, ents_append]
          have : ents [(nm, p, q, r)] = C := by simp [ents, hC]
          rw [this]
          exact hrow2
        · rcases hown2 with e | e
          · exact HS.out.2.1 x (by rw [← e]; exact hx)
          · rw [e] at hx
            cases hx
            exact Nat.le_trans HS.out.2.2.size HKA.out.size
      have HAP := hid hap
      rw [hC] at HB1 HB2
      clear hC hRA hSC hap hrow2 hgr2 hown2 hkl hrow hr he heo hgO hgw hgr HNX HS
      generalize b8 nm = bx at *
      go_wp2_with fail
      refine wp_region_held_drew (S := fun V => Kp (fun x => (Value.slice ad k cap).ownBlock = some x) wr V) (by kernel_rfl) ((Kp.refl _ _).drew) (fun hHeld => ?_)
      refine wpAnyH_take (i := 0) (oi := { dst := some 11, op := Op.move (Operand.tmp 3), type := 27, pos := "law.go:19", after := #[], guard := none }) (v := .slice ad k cap) rfl (by kernel_rfl) (by kernel_rfl) (by kernel_rfl) (fun _ _ _ h => h) (Or.inl ⟨by rfl, fun w' hw' => by (clear hw'; go_simp)⟩) hHeld ?_
      simp only [Act.put, List.setIfInBounds_toArray, List.set_cons_zero, List.set_cons_succ]
      refine wpAnyH_take (i := 1) (oi := { dst := some 12, op := Op.move (Operand.tmp 0), type := 22, pos := "law.go:19", after := #[], guard := none }) (v := .slice (some ⟨g, o, none⟩) n c) rfl (by kernel_rfl) (by kernel_rfl) (by kernel_rfl) (fun _ _ _ h => h) (Or.inl ⟨by rfl, fun w' hw' => by (clear hw'; go_simp)⟩) hHeld ?_
      simp only [Act.put, List.setIfInBounds_toArray, List.set_cons_zero, List.set_cons_succ]
      refine wpAnyH_take (i := 2) (oi := { dst := some 13, op := Op.move (Operand.tmp 4), type := 3, pos := "law.go:19", after := #[], guard := none }) (v := .int .i64 (k : Int)) rfl (by kernel_rfl) (by kernel_rfl) (by kernel_rfl) (fun _ _ _ h => h) (Or.inl ⟨by rfl, fun w' hw' => by (clear hw'; go_simp)⟩) hHeld ?_
      simp only [Act.put, List.setIfInBounds_toArray, List.set_cons_zero, List.set_cons_succ]
      refine wpAnyH_take (i := 3) (oi := { dst := some 14, op := Op.indexAddr 22 (Operand.tmp 12) (Operand.tmp 13), type := 0, pos := "law.go:19", after := #[{ on := 1, ground := Ground.data }, { on := 2, ground := Ground.data }], guard := none }) (v := .pointer (some ⟨g, o + k * 35, none⟩)) rfl (by kernel_rfl) (by kernel_rfl) (by kernel_rfl) (fun _ _ _ h => h) (Or.inl ⟨by rfl, fun w' hw' => by (clear hw'; go_simp)⟩) hHeld ?_
      simp only [Act.put, List.setIfInBounds_toArray, List.set_cons_zero, List.set_cons_succ]
      refine wpAnyH_take (i := 4) (oi := { dst := some 15, op := Op.fieldAddr 75 (Operand.tmp 14) 0, type := 0, pos := "law.go:19", after := #[{ on := 3, ground := Ground.data }], guard := none }) (v := .pointer (some ⟨g, o + k * 35, none⟩)) rfl (by kernel_rfl) (by kernel_rfl) (by kernel_rfl) (fun _ _ _ h => h) (Or.inl ⟨by rfl, fun w' hw' => by (clear hw'; go_simp)⟩) hHeld ?_
      simp only [Act.put, List.setIfInBounds_toArray, List.set_cons_zero, List.set_cons_succ]
      refine wpAnyH_take (i := 5) (oi := { dst := some 16, op := Op.load 46 (Operand.tmp 15), type := 46, pos := "law.go:19", after := #[{ on := 4, ground := Ground.data }], guard := none }) (v := .agg bx.toArray) rfl (by kernel_rfl) (by kernel_rfl) (by kernel_rfl) (fun _ _ _ h => h) (yieldsIf_load_mid (by rfl) _ _ rfl g (o + k * 35) rfl bx _ (HLX.out) Try.underlying46 rfl HI1.out) hHeld ?_
      simp only [Act.put, List.setIfInBounds_toArray, List.set_cons_zero, List.set_cons_succ]
      refine wpAnyH_take (i := 6) (oi := { dst := some 17, op := Op.move (Operand.tmp 0), type := 22, pos := "law.go:19", after := #[], guard := none }) (v := .slice (some ⟨g, o, none⟩) n c) rfl (by kernel_rfl) (by kernel_rfl) (by kernel_rfl) (fun _ _ _ h => h) (Or.inl ⟨by rfl, fun w' hw' => by (clear hw'; go_simp)⟩) hHeld ?_
      simp only [Act.put, List.setIfInBounds_toArray, List.set_cons_zero, List.set_cons_succ]
      refine wpAnyH_take (i := 7) (oi := { dst := some 18, op := Op.move (Operand.tmp 4), type := 3, pos := "law.go:19", after := #[], guard := none }) (v := .int .i64 (k : Int)) rfl (by kernel_rfl) (by kernel_rfl) (by kernel_rfl) (fun _ _ _ h => h) (Or.inl ⟨by rfl, fun w' hw' => by (clear hw'; go_simp)⟩) hHeld ?_
      simp only [Act.put, List.setIfInBounds_toArray, List.set_cons_zero, List.set_cons_succ]
      refine wpAnyH_take (i := 8) (oi := { dst := some 19, op := Op.indexAddr 22 (Operand.tmp 17) (Operand.tmp 18), type := 0, pos := "law.go:19", after := #[{ on := 6, ground := Ground.data }, { on := 7, ground := Ground.data }], guard := none }) (v := .pointer (some ⟨g, o + k * 35, none⟩)) rfl (by kernel_rfl) (by kernel_rfl) (by kernel_rfl) (fun _ _ _ h => h) (Or.inl ⟨by rfl, fun w' hw' => by (clear hw'; go_simp)⟩) hHeld ?_
      simp only [Act.put, List.setIfInBounds_toArray, List.set_cons_zero, List.set_cons_succ]
      refine wpAnyH_take (i := 9) (oi := { dst := some 20, op := Op.fieldAddr 75 (Operand.tmp 19) 1, type := 0, pos := "law.go:19", after := #[{ on := 8, ground := Ground.data }], guard := none }) (v := .pointer (some ⟨g, o + k * 35 + 32, none⟩)) rfl (by kernel_rfl) (by kernel_rfl) (by kernel_rfl) (fun _ _ _ h => h) (Or.inl ⟨by rfl, fun w' hw' => by (clear hw'; go_simp)⟩) hHeld ?_
      simp only [Act.put, List.setIfInBounds_toArray, List.set_cons_zero, List.set_cons_succ]
      refine wpAnyH_take (i := 10) (oi := { dst := some 21, op := Op.fieldAddr 73 (Operand.tmp 20) 0, type := 0, pos := "law.go:19", after := #[{ on := 9, ground := Ground.data }], guard := none }) (v := .pointer (some ⟨g, o + k * 35 + 32, none⟩)) rfl (by kernel_rfl) (by kernel_rfl) (by kernel_rfl) (fun _ _ _ h => h) (Or.inl ⟨by rfl, fun w' hw' => by (clear hw'; go_simp)⟩) hHeld ?_
      simp only [Act.put, List.setIfInBounds_toArray, List.set_cons_zero, List.set_cons_succ]
      refine wpAnyH_take (i := 11) (oi := { dst := some 22, op := Op.load 3 (Operand.tmp 21), type := 3, pos := "law.go:19", after := #[{ on := 10, ground := Ground.data }], guard := none }) (v := .int .i64 p) rfl (by kernel_rfl) (by kernel_rfl) (by kernel_rfl) (fun _ _ _ h => h) (Or.inl ⟨by rfl, fun w' hw' => by (have q := (HLP.out _ hw').1; clear hw'; go_simp)⟩) hHeld ?_
      simp only [Act.put, List.setIfInBounds_toArray, List.set_cons_zero, List.set_cons_succ]
      refine wpAnyH_take (i := 12) (oi := { dst := some 23, op := Op.move (Operand.tmp 0), type := 22, pos := "law.go:19", after := #[], guard := none }) (v := .slice (some ⟨g, o, none⟩) n c) rfl (by kernel_rfl) (by kernel_rfl) (by kernel_rfl) (fun _ _ _ h => h) (Or.inl ⟨by rfl, fun w' hw' => by (clear hw'; go_simp)⟩) hHeld ?_
      simp only [Act.put, List.setIfInBounds_toArray, List.set_cons_zero, List.set_cons_succ]
      refine wpAnyH_take (i := 13) (oi := { dst := some 24, op := Op.move (Operand.tmp 4), type := 3, pos := "law.go:19", after := #[], guard := none }) (v := .int .i64 (k : Int)) rfl (by kernel_rfl) (by kernel_rfl) (by kernel_rfl) (fun _ _ _ h => h) (Or.inl ⟨by rfl, fun w' hw' => by (clear hw'; go_simp)⟩) hHeld ?_
      simp only [Act.put, List.setIfInBounds_toArray, List.set_cons_zero, List.set_cons_succ]
      refine wpAnyH_take (i := 14) (oi := { dst := some 25, op := Op.indexAddr 22 (Operand.tmp 23) (Operand.tmp 24), type := 0, pos := "law.go:19", after := #[{ on := 12, ground := Ground.data }, { on := 13, ground := Ground.data }], guard := none }) (v := .pointer (some ⟨g, o + k * 35, none⟩)) rfl (by kernel_rfl) (by kernel_rfl) (by kernel_rfl) (fun _ _ _ h => h) (Or.inl ⟨by rfl, fun w' hw' => by (clear hw'; go_simp)⟩) hHeld ?_
      simp only [Act.put, List.setIfInBounds_toArray, List.set_cons_zero, List.set_cons_succ]
      refine wpAnyH_take (i := 15) (oi := { dst := some 26, op := Op.fieldAddr 75 (Operand.tmp 25) 1, type := 0, pos := "law.go:19", after := #[{ on := 14, ground := Ground.data }], guard := none }) (v := .pointer (some ⟨g, o + k * 35 + 32, none⟩)) rfl (by kernel_rfl) (by kernel_rfl) (by kernel_rfl) (fun _ _ _ h => h) (Or.inl ⟨by rfl, fun w' hw' => by (clear hw'; go_simp)⟩) hHeld ?_
      simp only [Act.put, List.setIfInBounds_toArray, List.set_cons_zero, List.set_cons_succ]
      refine wpAnyH_take (i := 16) (oi := { dst := some 27, op := Op.fieldAddr 73 (Operand.tmp 26) 1, type := 0, pos := "law.go:19", after := #[{ on := 15, ground := Ground.data }], guard := none }) (v := .pointer (some ⟨g, o + k * 35 + 32 + 1, none⟩)) rfl (by kernel_rfl) (by kernel_rfl) (by kernel_rfl) (fun _ _ _ h => h) (Or.inl ⟨by rfl, fun w' hw' => by (clear hw'; go_simp)⟩) hHeld ?_
      simp only [Act.put, List.setIfInBounds_toArray, List.set_cons_zero, List.set_cons_succ]
      refine wpAnyH_take (i := 17) (oi := { dst := some 28, op := Op.load 3 (Operand.tmp 27), type := 3, pos := "law.go:19", after := #[{ on := 16, ground := Ground.data }], guard := none }) (v := .int .i64 q) rfl (by kernel_rfl) (by kernel_rfl) (by kernel_rfl) (fun _ _ _ h => h) (Or.inl ⟨by rfl, fun w' hw' => by (have q := (HLP.out _ hw').2.1; clear hw'; go_simp)⟩) hHeld ?_
      simp only [Act.put, List.setIfInBounds_toArray, List.set_cons_zero, List.set_cons_succ]
      refine wpAnyH_take (i := 18) (oi := { dst := some 29, op := Op.move (Operand.tmp 0), type := 22, pos := "law.go:19", after := #[], guard := none }) (v := .slice (some ⟨g, o, none⟩) n c) rfl (by kernel_rfl) (by kernel_rfl) (by kernel_rfl) (fun _ _ _ h => h) (Or.inl ⟨by rfl, fun w' hw' => by (clear hw'; go_simp)⟩) hHeld ?_
      simp only [Act.put, List.setIfInBounds_toArray, List.set_cons_zero, List.set_cons_succ]
      refine wpAnyH_take (i := 19) (oi := { dst := some 30, op := Op.move (Operand.tmp 4), type := 3, pos := "law.go:19", after := #[], guard := none }) (v := .int .i64 (k : Int)) rfl (by kernel_rfl) (by kernel_rfl) (by kernel_rfl) (fun _ _ _ h => h) (Or.inl ⟨by rfl, fun w' hw' => by (clear hw'; go_simp)⟩) hHeld ?_
      simp only [Act.put, List.setIfInBounds_toArray, List.set_cons_zero, List.set_cons_succ]
      refine wpAnyH_take (i := 20) (oi := { dst := some 31, op := Op.indexAddr 22 (Operand.tmp 29) (Operand.tmp 30), type := 0, pos := "law.go:19", after := #[{ on := 18, ground := Ground.data }, { on := 19, ground := Ground.data }], guard := none }) (v := .pointer (some ⟨g, o + k * 35, none⟩)) rfl (by kernel_rfl) (by kernel_rfl) (by kernel_rfl) (fun _ _ _ h => h) (Or.inl ⟨by rfl, fun w' hw' => by (clear hw'; go_simp)⟩) hHeld ?_
      simp only [Act.put, List.setIfInBounds_toArray, List.set_cons_zero, List.set_cons_succ]
      refine wpAnyH_take (i := 21) (oi := { dst := some 32, op := Op.fieldAddr 75 (Operand.tmp 31) 1, type := 0, pos := "law.go:19", after := #[{ on := 20, ground := Ground.data }], guard := none }) (v := .pointer (some ⟨g, o + k * 35 + 32, none⟩)) rfl (by kernel_rfl) (by kernel_rfl) (by kernel_rfl) (fun _ _ _ h => h) (Or.inl ⟨by rfl, fun w' hw' => by (clear hw'; go_simp)⟩) hHeld ?_
      simp only [Act.put, List.setIfInBounds_toArray, List.set_cons_zero, List.set_cons_succ]
      refine wpAnyH_take (i := 22) (oi := { dst := some 33, op := Op.fieldAddr 73 (Operand.tmp 32) 2, type := 0, pos := "law.go:19", after := #[{ on := 21, ground := Ground.data }], guard := none }) (v := .pointer (some ⟨g, o + k * 35 + 32 + 2, none⟩)) rfl (by kernel_rfl) (by kernel_rfl) (by kernel_rfl) (fun _ _ _ h => h) (Or.inl ⟨by rfl, fun w' hw' => by (clear hw'; go_simp)⟩) hHeld ?_
      simp only [Act.put, List.setIfInBounds_toArray, List.set_cons_zero, List.set_cons_succ]
      refine wpAnyH_take (i := 23) (oi := { dst := some 34, op := Op.load 3 (Operand.tmp 33), type := 3, pos := "law.go:19", after := #[{ on := 22, ground := Ground.data }], guard := none }) (v := .int .i64 r) rfl (by kernel_rfl) (by kernel_rfl) (by kernel_rfl) (fun _ _ _ h => h) (Or.inl ⟨by rfl, fun w' hw' => by (have q := (HLP.out _ hw').2.2; clear hw'; go_simp)⟩) hHeld ?_
      simp only [Act.put, List.setIfInBounds_toArray, List.set_cons_zero, List.set_cons_succ]
      refine wpAnyH_take (i := 24) (oi := { dst := some 35, op := Op.build 42 #[(0, Operand.tmp 22), (1, Operand.tmp 28), (2, Operand.tmp 34)], type := 42, pos := "law.go:19", after := #[{ on := 11, ground := Ground.data }, { on := 17, ground := Ground.data }, { on := 23, ground := Ground.data }], guard := none }) (v := .agg #[.int .i64 p, .int .i64 q, .int .i64 r]) rfl (by kernel_rfl) (by kernel_rfl) (by kernel_rfl) (fun _ _ _ h => h) (Or.inl ⟨by rfl, fun w' hw' => by (clear hw'; go_simp)⟩) hHeld ?_
      simp only [Act.put, List.setIfInBounds_toArray, List.set_cons_zero, List.set_cons_succ]
      refine wpAnyH_take (i := 25) (oi := { dst := some 36, op := Op.build 48 #[(0, Operand.tmp 16), (1, Operand.tmp 35)], type := 48, pos := "law.go:19", after := #[{ on := 5, ground := Ground.data }, { on := 24, ground := Ground.data }], guard := none }) (v := .agg C.toArray) rfl (by kernel_rfl) (by kernel_rfl) (by kernel_rfl) (fun _ _ _ h => h) (yields_two (by rfl) 48 0 1 (.tmp 16) (.tmp 35) rfl (.agg bx.toArray) (.agg #[.int .i64 p, .int .i64 q, .int .i64 r]) rfl rfl _ HB1.out) hHeld ?_
      simp only [Act.put, List.setIfInBounds_toArray, List.set_cons_zero, List.set_cons_succ]
      refine wpAnyH_ready (rs := [26]) (by kernel_rfl) (by simp) ?_
      refine AllReadyH.cons (o := { dst := some 37, op := Op.buildSlice 27 1 #[(0, Operand.tmp 36)], type := 27, pos := "law.go:19", after := #[{ on := 25, ground := Ground.data }], guard := none }) rfl (fun K hK => ?_) AllReadyH.nil
      rw [if_pos (by rfl)]
      refine wp_valE (exec_sliceE 27 _ rfl (.agg C.toArray) _ rfl (HB2.out _)) ?_
      refine hK.out _ _ HKA.out (fun hh => ?_)
      clear hK K hHeld
      have hHeld := hh
      clear hh
      try simp only [Act.put, List.setIfInBounds_toArray, List.set_cons_zero, List.set_cons_succ]
      refine wpAnyH_ready (rs := [27]) (by kernel_rfl) (by simp) ?_
      refine AllReadyH.cons (o := { dst := some 38, op := Op.call { callee := Callee.builtin Builtin.append, args := #[Operand.tmp 11, Operand.tmp 37], argTypes := #[27, 27] }, type := 27, pos := "law.go:19", after := #[{ on := 0, ground := Ground.data }, { on := 26, ground := Ground.data }], guard := none }) rfl (fun K hK => ?_) AllReadyH.nil
      rw [if_pos (by rfl)]
      refine wp_valE (exec_appE _ _ 27 rfl (.slice ad k cap) (.slice (some ⟨wr.heap.size, 0, none⟩) 1 1) _ rfl rfl HAP.out) ?_
      refine hK.out _ _ HK2.out (fun hh => ?_)
      clear hK K hHeld
      have hHeld := hh
      clear hh
      try simp only [Act.put, List.setIfInBounds_toArray, List.set_cons_zero, List.set_cons_succ]
      refine wpAnyH_take (i := 28) (oi := { dst := some 3, op := Op.assign (Operand.tmp 38), type := 27, pos := "law.go:19", after := #[{ on := 27, ground := Ground.data }, { on := 27, ground := Ground.chain }, { on := 0, ground := Ground.phase }, { on := 1, ground := Ground.phase }, { on := 2, ground := Ground.phase }, { on := 3, ground := Ground.phase }, { on := 4, ground := Ground.phase }, { on := 5, ground := Ground.phase }, { on := 6, ground := Ground.phase }, { on := 7, ground := Ground.phase }, { on := 8, ground := Ground.phase }, { on := 9, ground := Ground.phase }, { on := 10, ground := Ground.phase }, { on := 11, ground := Ground.phase }, { on := 12, ground := Ground.phase }, { on := 13, ground := Ground.phase }, { on := 14, ground := Ground.phase }, { on := 15, ground := Ground.phase }, { on := 16, ground := Ground.phase }, { on := 17, ground := Ground.phase }, { on := 18, ground := Ground.phase }, { on := 19, ground := Ground.phase }, { on := 20, ground := Ground.phase }, { on := 21, ground := Ground.phase }, { on := 22, ground := Ground.phase }, { on := 23, ground := Ground.phase }, { on := 24, ground := Ground.phase }, { on := 25, ground := Ground.phase }, { on := 26, ground := Ground.phase }, { on := 27, ground := Ground.phase }], guard := none }) (v := .slice ad2 (k + 1) cap2) rfl (by kernel_rfl) (by kernel_rfl) (by kernel_rfl) (fun _ _ _ h => h) (Or.inl ⟨by rfl, fun w' hw' => by (clear hw'; go_simp)⟩) hHeld ?_
      simp only [Act.put, List.setIfInBounds_toArray, List.set_cons_zero, List.set_cons_succ]
      refine wpAnyH_done (by kernel_rfl) ?_ _
      clear hHeld
      go_wp2_with fail
      go_round
      case rel => exact ⟨k + 1, ad2, cap2, rfl, by first | rfl | go_num, by omega, HF.out⟩
      case measure => simp [intOf]; omega
    · have hltI : ¬ (k : Int) < (n : Int) := by omega
      have hkn' : k = n := by omega
      have HF : Hid (Mine w wr (.slice ad k cap) d) := by
        have := HS.out
        rw [hkn', ← HN.out, List.take_length] at this
        rw [Hid, hkn', ← HN.out]
        exact this
      clear hkn'
      go_wp2_with fail
      go_ret
      exact ⟨_, rfl, HF.out⟩
end Go.Proofs.Ytampnikdmgojjaa.Sg
end

section
/-
  The value of entries in tlv's words.
-/
namespace Go.Proofs.Ytampnikdmgojjaa.Sg
open Go.RowKit
open Tlv (Tr Agree)
open Sim (hid Kp No)

theorem run_oneV (t n : Int) (sb sk : Value) (w : World) : (Instr.buildSlice 78 1 #[(0, .agg #[.int .i64 t, .int .u64 n, sb, sk])]).run Try.prog w = .ok (.slice (some ⟨w.heap.size, 0, none⟩) 1 1) (w.alloc (.cells #[.int .i64 t, .int .u64 n, sb, sk] 80)) := by kernel_rfl
theorem plB_bd {e : Ent} (h : plB e = true) : (0 ≤ e.2.1 ∧ e.2.1 ≤ 1000000) ∧ (0 ≤ e.2.2.1 ∧ e.2.2.1 ≤ 1000000) ∧ (0 ≤ e.2.2.2 ∧ e.2.2.2 ≤ 1000000) := by
  simp [plB] at h
  omega

set_option maxHeartbeats 4000000 in
set_option maxRecDepth 100000 in
theorem value_any (w : World) (v : Value) (d : List Ent) (P : Nat → Prop) (hv : EV P w v d) (hp : ∀ e ∈ d, plB e = true) (hl : d.length ≤ 1000000) :
    Calls Try.prog 22 #[v] w fun e w' => ∃ a3 l3 p3 a4 l4 p4, e = .returned (.agg #[.int .i64 3, .int .u64 0, .slice a3 l3 p3, .slice a4 l4 p4]) ∧ Tlv.Rep w.heap.size w'.heap.size w' 3 (entsT d) (.slice a3 l3 p3) (.slice a4 l4 p4) ∧ Below w.heap.size w w' := by
  obtain ⟨a, c, rfl, h2, h3, h4, h5, h6⟩ := hv
  obtain ⟨n, hn⟩ : ∃ n, d.length = n := ⟨_, rfl⟩
  have HN := hid hn
  have HP := hid hp
  rw [hn] at hl h2 ⊢
  have H6 := hid h6
  have HM := hid many_none
  clear hn h2 h3 h4 h5 h6 hp
  go_enter Try.func22, Try.ntmps22
  go_wp2_with fail
  refine (HM.out _).mono ?_
  rintro e w1 ⟨rfl, hb1⟩
  have HB1 := hid hb1
  have HW : Hid (Below w.heap.size w w1) := ((Below.refl _ _).alloc (Nat.le_refl _) _).trans (hb1.mono (by simp))
  have hzw : w.heap.size < w1.heap.size := by have := hb1.size; simp at this; omega
  clear hb1 HM
  go_wp2_with fail
  go_loopw [9] (fun i wr => ∃ (k : Nat) (av : Option Addr) (cv : Nat), i = .int .i64 (k : Int) ∧ k ≤ n ∧ Hid (VI w1 d k (.slice av k cv) wr)) (fun i _ => n - (intOf i).toNat)
  case atStart => exact ⟨0, none, 0, rfl, Nat.zero_le _, VI.start w1 d⟩
  case round =>
    obtain ⟨k, av, cv, rfl, hkn, HS⟩ := hrel
    have hKw : Kp No w wr := Kp.below (HW.out.trans (HS.out.2.2.2.2.2.2.2.mono (by omega)))
    by_cases hlt : k < n
    · have hltI : (k : Int) < (n : Int) := by omega
      have hwk : IntKind.i64.wrap ((k : Int) + 1) = ((k + 1 : Nat) : Int) := by rw [IntKind.wrap_i64]; omega
      obtain ⟨e, he⟩ : ∃ e, d[k]? = some e := ⟨_, List.getElem?_eq_getElem (by rw [HN.out]; exact hlt)⟩
      have HE := hid he
      obtain ⟨g, o, rfl, _, hr⟩ := H6.out (by intro e; have := HN.out; rw [e] at this; simp at this; omega)
      have hrow := hr.kp hKw (fun x => x)
      have HX := hid (hrow.2 k e he)
      have HI := hid (inf HX.out.1)
      have HVAL : Hid (∀ V, Calls Try.prog 36 #[.agg (entC e).toArray] V fun e' w' => ∃ a3 l3 p3 a4 l4 p4, e' = .returned (.agg #[.int .i64 3, .int .u64 0, .slice a3 l3 p3, .slice a4 l4 p4]) ∧ Tlv.Rep V.heap.size w'.heap.size w' 2 (entT e) (.slice a3 l3 p3) (.slice a4 l4 p4) ∧ Below V.heap.size V w') := fun V => by
        obtain ⟨q0, q1, q2⟩ := plB_bd (HP.out e (List.mem_of_getElem? he))
        obtain ⟨nm, p, q, r⟩ := e
        exact entval_any nm p q r V HX.out.1 q0 q1 q2
      obtain ⟨cx, hcx⟩ : ∃ cx, entC e = cx := ⟨_, rfl⟩
      have HRX : Hid (wr.rangeAt g (o + k * 35) cx) := by rw [← hcx]; exact HX.out.2
      rw [hcx] at HI HVAL
      have hcl : cx.length = 35 := by rw [← hcx]; exact entC_length HX.out.1
      have HO1 : Hid (cx.toArray.all (·.oneCell') = true) := by rw [← hcx]; exact all_oneCell_toArray (entC_one e)
      have HC0 : Hid (∃ v0, cx[0]? = some v0) := ⟨_, List.getElem?_eq_getElem (by omega)⟩
      clear hcx hr hrow he hKw
      go_wp2_with (first
        | (refine wpList_load_mid (by rfl) 48 _ (by rfl) g (o + k * 35) (by rfl) cx _ HRX.out Try.underlying48 rfl HI.out ?_)
        | (refine wpList_store_box (fun W => ∀ V, Kp No W V → V.rangeAt wr.heap.size 0 cx ∧ Kp No wr V) (by rfl) 48 _ _ (by rfl) wr.heap.size 0 cx.toArray (by rfl) (by rfl) (thereE wr _ _ _ (by rw [List.size_toArray, hcl]; exact Nat.le_refl _)) HI.out HO1.out (boxE wr _ cx rfl hcl) ?_; intro W1 hW1; have HW1 := hid hW1; clear hW1))
      have HKW := hid (HW1.out W1 (Kp.refl _ _)).2
      have hbx : wr.heap.size < W1.heap.size := by
        obtain ⟨v0, hv0⟩ := HC0.out
        exact World.block_lt_of_cell? _ _ ((HW1.out W1 (Kp.refl _ _)).1 0 v0 hv0)
      have HLX : Hid (∀ V, Kp (fun x => x = w1.heap.size ∨ (Value.slice av k cv).ownBlock = some x) W1 V → V.rangeAt wr.heap.size 0 cx) := fun V hV j u hu => by
        refine (hV.cell (p := ⟨wr.heap.size, _, none⟩) hbx (fun hx => ?_)).trans ((HW1.out W1 (Kp.refl _ _)).1 j u hu)
        rcases hx with hx | hx
        · have h1 := HS.out.2.2.2.2.2.1
          have h2 : wr.heap.size = w1.heap.size := hx
          omega
        · have h1 := (HS.out.2.2.2.2.2.2.1.lt wr.heap.size hx).2
          omega
      have c3 : ∀ V, Kp No W1 V → V.cell? ⟨w1.heap.size, 3, none⟩ = some (.slice av k cv) := fun V hV => ((HW1.out V hV).2.cell (p := ⟨w1.heap.size, 3, none⟩) HS.out.2.2.2.2.2.1 (fun x => x)).trans HS.out.2.2.2.1
      clear hcl hbx
      refine wp_region_held_drew (S := fun V => Kp (fun x => x = w1.heap.size ∨ (Value.slice av k cv).ownBlock = some x) W1 V) (by kernel_rfl) ((Kp.refl _ _).drew) (fun hHeld => ?_)
      refine wpAnyH_take (i := 0) (oi := { dst := some 13, op := Op.fieldAddr 80 (Operand.tmp 3) 3, type := 0, pos := "sealed.go:53", after := #[], guard := none }) (v := .pointer (some ⟨w1.heap.size, 3, none⟩)) rfl (by kernel_rfl) (by kernel_rfl) (by kernel_rfl) (fun _ _ _ h => h) (Or.inl ⟨by rfl, fun w' hw' => by (clear hw'; go_simp)⟩) hHeld ?_
      simp only [Act.put, List.setIfInBounds_toArray, List.set_cons_zero, List.set_cons_succ]
      refine wpAnyH_take (i := 2) (oi := { dst := some 15, op := Op.load 48 (Operand.tmp 5), type := 48, pos := "sealed.go:53", after := #[], guard := none }) (v := .agg cx.toArray) rfl (by kernel_rfl) (by kernel_rfl) (by kernel_rfl) (fun _ _ _ h => h) (yieldsIf_load_mid (by rfl) _ _ rfl wr.heap.size 0 rfl cx _ (HLX.out) Try.underlying48 rfl HI.out) hHeld ?_
      simp only [Act.put, List.setIfInBounds_toArray, List.set_cons_zero, List.set_cons_succ]
      refine wpAnyH_ready (rs := [1, 3]) (by kernel_rfl) (by simp) ?_
      refine (AllReadyH.cons (o := { dst := some 14, op := Op.load 78 (Operand.tmp 13), type := 78, pos := "sealed.go:53", after := #[{ on := 0, ground := Ground.data }], guard := none }) rfl (fun K hK => ?_) (AllReadyH.cons (o := { dst := some 16, op := Op.call { callee := Callee.value (Operand.func 36), args := #[Operand.tmp 15], argTypes := #[48] }, type := 80, pos := "sealed.go:53", after := #[{ on := 2, ground := Ground.data }], guard := none }) rfl (fun K hK => ?_) AllReadyH.nil))
      · have q3 := c3 (W1.drew) ((Kp.refl No W1).drew)
        go_simp
        refine hK.out _ _ ((((Kp.refl No W1).drew).ofNo)) (fun hh => ?_)
        clear hK K hHeld
        have hHeld := hh
        clear hh
        try simp only [Act.put, List.setIfInBounds_toArray, List.set_cons_zero, List.set_cons_succ]
        refine wpAnyH_ready (rs := [3]) (by kernel_rfl) (by simp) ?_
        refine (AllReadyH.cons (o := { dst := some 16, op := Op.call { callee := Callee.value (Operand.func 36), args := #[Operand.tmp 15], argTypes := #[48] }, type := 80, pos := "sealed.go:53", after := #[{ on := 2, ground := Ground.data }], guard := none }) rfl (fun K hK => ?_) AllReadyH.nil)
        go_simp
        refine (HVAL.out _).mono ?_
        rintro e' w2 ⟨a3, l3, p3, a4, l4, p4, rfl, hr2, hb2⟩
        have hb2' : Below W1.heap.size W1 w2 := (Below.refl _ _).drew.trans hb2
        obtain ⟨g', cap, w4, hap, k3, kf, ks, hvi, hkp⟩ := HS.out.step HKW.out hb2' hr2 HE.out (by omega) 78
        have HK2 : Hid (Kp No W1 w2) := Kp.below hb2'
        have HAP := hid hap
        have HVI := hid hvi
        have HKP := hid hkp
        clear hap hvi hkp hr2 hb2 hb2'
        go_wp2_with fail
        refine hK.out _ _ (HK2.out.ofNo) (fun hh => ?_)
        clear hK K hHeld
        have hHeld := hh
        clear hh
        try simp only [Act.put, List.setIfInBounds_toArray, List.set_cons_zero, List.set_cons_succ]
        refine wpAnyH_ready (rs := [4]) (by kernel_rfl) (by simp) ?_
        refine (AllReadyH.cons (o := { dst := some 17, op := Op.buildSlice 78 1 #[(0, Operand.tmp 16)], type := 78, pos := "sealed.go:53", after := #[{ on := 3, ground := Ground.data }], guard := none }) rfl (fun K hK => ?_) AllReadyH.nil)
        rw [if_pos (by rfl)]
        refine wp_valE (exec_sliceE 78 _ rfl (.agg #[.int .i64 3, .int .u64 0, .slice a3 l3 p3, .slice a4 l4 p4]) _ rfl (run_oneV _ _ _ _ _)) ?_
        refine hK.out _ _ ((HK2.out.alloc _).ofNo) (fun hh => ?_)
        clear hK K hHeld
        have hHeld := hh
        clear hh
        try simp only [Act.put, List.setIfInBounds_toArray, List.set_cons_zero, List.set_cons_succ]
        refine wpAnyH_ready (rs := [5]) (by kernel_rfl) (by simp) ?_
        refine (AllReadyH.cons (o := { dst := some 18, op := Op.call { callee := Callee.builtin Builtin.append, args := #[Operand.tmp 14, Operand.tmp 17], argTypes := #[78, 78] }, type := 78, pos := "sealed.go:53", after := #[{ on := 1, ground := Ground.data }, { on := 4, ground := Ground.data }, { on := 3, ground := Ground.chain }], guard := none }) rfl (fun K hK => ?_) AllReadyH.nil)
        rw [if_pos (by rfl)]
        refine wp_valE (exec_appE _ _ 78 rfl (.slice av k cv) (.slice (some ⟨w2.heap.size, 0, none⟩) 1 1) _ rfl rfl HAP.out) ?_
        refine hK.out _ _ (HKP.out) (fun hh => ?_)
        clear hK K hHeld
        have hHeld := hh
        clear hh
        try simp only [Act.put, List.setIfInBounds_toArray, List.set_cons_zero, List.set_cons_succ]
        refine wpAnyH_take (i := 6) (oi := { dst := some 19, op := Op.fieldAddr 80 (Operand.tmp 3) 3, type := 0, pos := "sealed.go:53", after := #[{ on := 0, ground := Ground.phase }, { on := 1, ground := Ground.phase }, { on := 2, ground := Ground.phase }, { on := 3, ground := Ground.phase }, { on := 4, ground := Ground.phase }, { on := 5, ground := Ground.phase }], guard := none }) (v := .pointer (some ⟨w1.heap.size, 3, none⟩)) rfl (by kernel_rfl) (by kernel_rfl) (by kernel_rfl) (fun _ _ _ h => h) (Or.inl ⟨by rfl, fun w' hw' => by (clear hw'; go_simp)⟩) hHeld ?_
        simp only [Act.put, List.setIfInBounds_toArray, List.set_cons_zero, List.set_cons_succ]
        refine wpAnyH_ready (rs := [7]) (by kernel_rfl) (by simp) ?_
        refine (AllReadyH.cons (o := { dst := none, op := Op.store 78 (Operand.tmp 19) (Operand.tmp 18), type := 0, pos := "sealed.go:53", after := #[{ on := 6, ground := Ground.data }, { on := 5, ground := Ground.data }, { on := 5, ground := Ground.chain }, { on := 0, ground := Ground.phase }, { on := 1, ground := Ground.phase }, { on := 2, ground := Ground.phase }, { on := 3, ground := Ground.phase }, { on := 4, ground := Ground.phase }, { on := 5, ground := Ground.phase }], guard := none }) rfl (fun K hK => ?_) AllReadyH.nil)
        go_simp
        refine hK.out _ _ ((HKP.out.setCell (p := ⟨w1.heap.size, 3, none⟩) (.inl (.inl rfl)) _)) (fun hh => ?_)
        clear hK K hHeld
        have hHeld := hh
        clear hh
        try simp only [Act.put, List.setIfInBounds_toArray, List.set_cons_zero, List.set_cons_succ]
        refine wpAnyH_done (by kernel_rfl) ?_ _
        clear hHeld
        go_wp2_with fail
        go_round
        case rel => exact ⟨k + 1, some ⟨g', 0, none⟩, cap, by first | rfl | go_num, by omega, HVI.out⟩
        case measure => simp [intOf]; omega
      · go_simp
        refine (HVAL.out _).mono ?_
        rintro e' w2 ⟨a3, l3, p3, a4, l4, p4, rfl, hr2, hb2⟩
        have hb2' : Below W1.heap.size W1 w2 := (Below.refl _ _).drew.trans hb2
        obtain ⟨g', cap, w4, hap, k3, kf, ks, hvi, hkp⟩ := HS.out.step HKW.out hb2' hr2 HE.out (by omega) 78
        have HK2 : Hid (Kp No W1 w2) := Kp.below hb2'
        have HAP := hid hap
        have HVI := hid hvi
        have HKP := hid hkp
        clear hap hvi hkp hr2 hb2 hb2'
        go_wp2_with fail
        refine hK.out _ _ (HK2.out.ofNo) (fun hh => ?_)
        clear hK K hHeld
        have hHeld := hh
        clear hh
        try simp only [Act.put, List.setIfInBounds_toArray, List.set_cons_zero, List.set_cons_succ]
        refine wpAnyH_ready (rs := [1, 4]) (by kernel_rfl) (by simp) ?_
        refine (AllReadyH.cons (o := { dst := some 14, op := Op.load 78 (Operand.tmp 13), type := 78, pos := "sealed.go:53", after := #[{ on := 0, ground := Ground.data }], guard := none }) rfl (fun K hK => ?_) (AllReadyH.cons (o := { dst := some 17, op := Op.buildSlice 78 1 #[(0, Operand.tmp 16)], type := 78, pos := "sealed.go:53", after := #[{ on := 3, ground := Ground.data }], guard := none }) rfl (fun K hK => ?_) AllReadyH.nil))
        · have q3 := c3 (w2) HK2.out
          go_simp
          refine hK.out _ _ ((HK2.out.ofNo)) (fun hh => ?_)
          clear hK K hHeld
          have hHeld := hh
          clear hh
          try simp only [Act.put, List.setIfInBounds_toArray, List.set_cons_zero, List.set_cons_succ]
          refine wpAnyH_ready (rs := [4]) (by kernel_rfl) (by simp) ?_
          refine (AllReadyH.cons (o := { dst := some 17, op := Op.buildSlice 78 1 #[(0, Operand.tmp 16)], type := 78, pos := "sealed.go:53", after := #[{ on := 3, ground := Ground.data }], guard := none }) rfl (fun K hK => ?_) AllReadyH.nil)
          rw [if_pos (by rfl)]
          refine wp_valE (exec_sliceE 78 _ rfl (.agg #[.int .i64 3, .int .u64 0, .slice a3 l3 p3, .slice a4 l4 p4]) _ rfl (run_oneV _ _ _ _ _)) ?_
          refine hK.out _ _ ((HK2.out.alloc _).ofNo) (fun hh => ?_)
          clear hK K hHeld
          have hHeld := hh
          clear hh
          try simp only [Act.put, List.setIfInBounds_toArray, List.set_cons_zero, List.set_cons_succ]
          refine wpAnyH_ready (rs := [5]) (by kernel_rfl) (by simp) ?_
          refine (AllReadyH.cons (o := { dst := some 18, op := Op.call { callee := Callee.builtin Builtin.append, args := #[Operand.tmp 14, Operand.tmp 17], argTypes := #[78, 78] }, type := 78, pos := "sealed.go:53", after := #[{ on := 1, ground := Ground.data }, { on := 4, ground := Ground.data }, { on := 3, ground := Ground.chain }], guard := none }) rfl (fun K hK => ?_) AllReadyH.nil)
          rw [if_pos (by rfl)]
          refine wp_valE (exec_appE _ _ 78 rfl (.slice av k cv) (.slice (some ⟨w2.heap.size, 0, none⟩) 1 1) _ rfl rfl HAP.out) ?_
          refine hK.out _ _ (HKP.out) (fun hh => ?_)
          clear hK K hHeld
          have hHeld := hh
          clear hh
          try simp only [Act.put, List.setIfInBounds_toArray, List.set_cons_zero, List.set_cons_succ]
          refine wpAnyH_take (i := 6) (oi := { dst := some 19, op := Op.fieldAddr 80 (Operand.tmp 3) 3, type := 0, pos := "sealed.go:53", after := #[{ on := 0, ground := Ground.phase }, { on := 1, ground := Ground.phase }, { on := 2, ground := Ground.phase }, { on := 3, ground := Ground.phase }, { on := 4, ground := Ground.phase }, { on := 5, ground := Ground.phase }], guard := none }) (v := .pointer (some ⟨w1.heap.size, 3, none⟩)) rfl (by kernel_rfl) (by kernel_rfl) (by kernel_rfl) (fun _ _ _ h => h) (Or.inl ⟨by rfl, fun w' hw' => by (clear hw'; go_simp)⟩) hHeld ?_
          simp only [Act.put, List.setIfInBounds_toArray, List.set_cons_zero, List.set_cons_succ]
          refine wpAnyH_ready (rs := [7]) (by kernel_rfl) (by simp) ?_
          refine (AllReadyH.cons (o := { dst := none, op := Op.store 78 (Operand.tmp 19) (Operand.tmp 18), type := 0, pos := "sealed.go:53", after := #[{ on := 6, ground := Ground.data }, { on := 5, ground := Ground.data }, { on := 5, ground := Ground.chain }, { on := 0, ground := Ground.phase }, { on := 1, ground := Ground.phase }, { on := 2, ground := Ground.phase }, { on := 3, ground := Ground.phase }, { on := 4, ground := Ground.phase }, { on := 5, ground := Ground.phase }], guard := none }) rfl (fun K hK => ?_) AllReadyH.nil)
          go_simp
          refine hK.out _ _ ((HKP.out.setCell (p := ⟨w1.heap.size, 3, none⟩) (.inl (.inl rfl)) _)) (fun hh => ?_)
          clear hK K hHeld
          have hHeld := hh
          clear hh
          try simp only [Act.put, List.setIfInBounds_toArray, List.set_cons_zero, List.set_cons_succ]
          refine wpAnyH_done (by kernel_rfl) ?_ _
          clear hHeld
          go_wp2_with fail
          go_round
          case rel => exact ⟨k + 1, some ⟨g', 0, none⟩, cap, by first | rfl | go_num, by omega, HVI.out⟩
          case measure => simp [intOf]; omega
        · rw [if_pos (by rfl)]
          refine wp_valE (exec_sliceE 78 _ rfl (.agg #[.int .i64 3, .int .u64 0, .slice a3 l3 p3, .slice a4 l4 p4]) _ rfl (run_oneV _ _ _ _ _)) ?_
          refine hK.out _ _ ((HK2.out.alloc _).ofNo) (fun hh => ?_)
          clear hK K hHeld
          have hHeld := hh
          clear hh
          try simp only [Act.put, List.setIfInBounds_toArray, List.set_cons_zero, List.set_cons_succ]
          refine wpAnyH_ready (rs := [1]) (by kernel_rfl) (by simp) ?_
          refine (AllReadyH.cons (o := { dst := some 14, op := Op.load 78 (Operand.tmp 13), type := 78, pos := "sealed.go:53", after := #[{ on := 0, ground := Ground.data }], guard := none }) rfl (fun K hK => ?_) AllReadyH.nil)
          have q3 := c3 (w2.alloc (.cells #[.int .i64 3, .int .u64 0, .slice a3 l3 p3, .slice a4 l4 p4] 80)) (HK2.out.alloc _)
          go_simp
          refine hK.out _ _ (((HK2.out.alloc _).ofNo)) (fun hh => ?_)
          clear hK K hHeld
          have hHeld := hh
          clear hh
          try simp only [Act.put, List.setIfInBounds_toArray, List.set_cons_zero, List.set_cons_succ]
          refine wpAnyH_ready (rs := [5]) (by kernel_rfl) (by simp) ?_
          refine (AllReadyH.cons (o := { dst := some 18, op := Op.call { callee := Callee.builtin Builtin.append, args := #[Operand.tmp 14, Operand.tmp 17], argTypes := #[78, 78] }, type := 78, pos := "sealed.go:53", after := #[{ on := 1, ground := Ground.data }, { on := 4, ground := Ground.data }, { on := 3, ground := Ground.chain }], guard := none }) rfl (fun K hK => ?_) AllReadyH.nil)
          rw [if_pos (by rfl)]
          refine wp_valE (exec_appE _ _ 78 rfl (.slice av k cv) (.slice (some ⟨w2.heap.size, 0, none⟩) 1 1) _ rfl rfl HAP.out) ?_
          refine hK.out _ _ (HKP.out) (fun hh => ?_)
          clear hK K hHeld
          have hHeld := hh
          clear hh
          try simp only [Act.put, List.setIfInBounds_toArray, List.set_cons_zero, List.set_cons_succ]
          refine wpAnyH_take (i := 6) (oi := { dst := some 19, op := Op.fieldAddr 80 (Operand.tmp 3) 3, type := 0, pos := "sealed.go:53", after := #[{ on := 0, ground := Ground.phase }, { on := 1, ground := Ground.phase }, { on := 2, ground := Ground.phase }, { on := 3, ground := Ground.phase }, { on := 4, ground := Ground.phase }, { on := 5, ground := Ground.phase }], guard := none }) (v := .pointer (some ⟨w1.heap.size, 3, none⟩)) rfl (by kernel_rfl) (by kernel_rfl) (by kernel_rfl) (fun _ _ _ h => h) (Or.inl ⟨by rfl, fun w' hw' => by (clear hw'; go_simp)⟩) hHeld ?_
          simp only [Act.put, List.setIfInBounds_toArray, List.set_cons_zero, List.set_cons_succ]
          refine wpAnyH_ready (rs := [7]) (by kernel_rfl) (by simp) ?_
          refine (AllReadyH.cons (o := { dst := none, op := Op.store 78 (Operand.tmp 19) (Operand.tmp 18), type := 0, pos := "sealed.go:53", after := #[{ on := 6, ground := Ground.data }, { on := 5, ground := Ground.data }, { on := 5, ground := Ground.chain }, { on := 0, ground := Ground.phase }, { on := 1, ground := Ground.phase }, { on := 2, ground := Ground.phase }, { on := 3, ground := Ground.phase }, { on := 4, ground := Ground.phase }, { on := 5, ground := Ground.phase }], guard := none }) rfl (fun K hK => ?_) AllReadyH.nil)
          go_simp
          refine hK.out _ _ ((HKP.out.setCell (p := ⟨w1.heap.size, 3, none⟩) (.inl (.inl rfl)) _)) (fun hh => ?_)
          clear hK K hHeld
          have hHeld := hh
          clear hh
          try simp only [Act.put, List.setIfInBounds_toArray, List.set_cons_zero, List.set_cons_succ]
          refine wpAnyH_done (by kernel_rfl) ?_ _
          clear hHeld
          go_wp2_with fail
          go_round
          case rel => exact ⟨k + 1, some ⟨g', 0, none⟩, cap, by first | rfl | go_num, by omega, HVI.out⟩
          case measure => simp [intOf]; omega
    · have hltI : ¬ (k : Int) < (n : Int) := by omega
      have hkn' : k = n := by omega
      have hS := HS.out
      obtain ⟨f0, f1, f2, f3, hf, hs, hc, hw⟩ := hS
      have hc' := hc.done (by rw [List.length_take, List.length_map, HN.out]; omega)
      rw [List.take_of_length_le (by rw [List.length_map, HN.out]; omega)] at hc'
      have HC := hid hc'
      have HBW := hid hw
      have xr : ∀ o, wr.cell? ⟨w.heap.size, o, none⟩ = (#[.int .i64 0, .int .u64 0, .slice none 0 0, .slice none 0 0] : Array Value)[o]? := fun o => by
        rw [hw.cell (p := ⟨w.heap.size, o, none⟩) (by simp; omega), HB1.out.cell (p := ⟨w.heap.size, o, none⟩) (by simp), World.cell?_alloc_at _ _ _ _ rfl]
      have xf : ∀ o, wr.frozen? ⟨w.heap.size, o, none⟩ = false := fun o => by
        rw [hw.frozen (p := ⟨w.heap.size, o, none⟩) (by simp; omega), HB1.out.frozen (p := ⟨w.heap.size, o, none⟩) (by simp), World.frozen?_alloc_at _ _ _ _ rfl]
      have r0 : wr.cell? ⟨w.heap.size, 0, none⟩ = some (.int .i64 0) := xr 0
      have r1 : wr.cell? ⟨w.heap.size, 1, none⟩ = some (.int .u64 0) := xr 1
      have r2 : wr.cell? ⟨w.heap.size, 2, none⟩ = some (.slice none 0 0) := xr 2
      have r3 : wr.cell? ⟨w.heap.size, 3, none⟩ = some (.slice none 0 0) := xr 3
      clear xr hc hc' hw hKw HS hkn'
      go_wp2_with fail
      obtain ⟨q0, q1, q2, q3⟩ := Tlv.set4_read (u0 := .int .i64 3) (u1 := .int .u64 0) (u2 := .slice none 0 0) (u3 := .slice av k cv) r0 r1 r2 r3
      refine bodyPost_ret (v := .agg #[.int .i64 3, .int .u64 0, .slice none 0 0, .slice av k cv]) (by simp [results, Try.results22, go_sem, q0, q1, q2, q3]) rfl ⟨_, _, _, _, _, _, rfl, ⟨by simp [entsT, Tr.mk, Tlv.Tr.hd], by simp [entsT, Tr.mk, Tlv.Tr.hd], Tlv.BySl.none _ _ _, ?_⟩, ?_⟩
      · have A4 := Agree.set4 (L := w1.heap.size + 1) (B := wr.heap.size) wr (b := w.heap.size) (o0 := 0) (o1 := 1) (o2 := 2) (o3 := 3) (.inl (by omega)) (.int .i64 3) (.int .u64 0) (.slice none 0 0) (.slice av k cv)
        exact HC.out.agree (L' := w.heap.size) (fun _ _ _ r => Tlv.Rep.agree (L' := w.heap.size) A4 (by omega) (by simp) r) A4 (by omega) (by simp)
      · exact (HW.out.trans (HBW.out.mono (by omega))).trans (Tlv.bset4 (Nat.le_refl _) _ _ _ _)
end Go.Proofs.Ytampnikdmgojjaa.Sg
end

section
/-
  The form of entries, and segment.Put.
-/
namespace Go.Proofs.Ytampnikdmgojjaa.Sg
open Go.RowKit
open Tlv (Tr Agree)
open Crc (Kept)
open Sim (hid Kp No)

theorem ent_bsz {e : Ent} (hn : e.1.length = 32) {room deep : Int} (hr : 68 ≤ room) (hd : 0 < deep) : (Tlv.bsz 2 (entT e) room deep).2 = true ∧ 0 ≤ (Tlv.bsz 2 (entT e) room deep).1 ∧ (Tlv.bsz 2 (entT e) room deep).1 ≤ 68 := by
  have b1 := Tlv.nsz_bd e.2.1
  have b2 := Tlv.nsz_bd e.2.2.1
  have b3 := Tlv.nsz_bd e.2.2.2
  rw [entT, Tlv.bsz_3 _ _ _ (by omega), Tlv.lsz_go hd]
  simp only [Tlv.lszGo]
  rw [Tlv.bsz_2 _ _ _ (by omega), hn, Tlv.bsz_1 _ _ _ (by simp; omega)]
  have d1 : decide (((32 : Nat) : Int) ≤ room - 0 - 3) = true := by simp; omega
  simp only [d1, if_true]
  have d2 : decide (Tlv.nsz e.2.1 ≤ room - (0 + (3 + ((32 : Nat) : Int))) - 3) = true := by simp; omega
  simp only [d2, if_true]
  rw [Tlv.bsz_1 _ _ _ (by simp; omega)]
  have d3 : decide (Tlv.nsz e.2.2.1 ≤ room - (0 + (3 + ((32 : Nat) : Int)) + (3 + Tlv.nsz e.2.1)) - 3) = true := by simp; omega
  simp only [d3, if_true]
  rw [Tlv.bsz_1 _ _ _ (by simp; omega)]
  have d4 : decide (Tlv.nsz e.2.2.2 ≤ room - (0 + (3 + ((32 : Nat) : Int)) + (3 + Tlv.nsz e.2.1) + (3 + Tlv.nsz e.2.2.1)) - 3) = true := by simp; omega
  simp only [d4, if_true]
  refine ⟨trivial, ?_, ?_⟩ <;> simp <;> omega

theorem ents_bsz : ∀ (d : List Ent), (∀ e ∈ d, e.1.length = 32) → ∀ (room acc : Int), 0 ≤ acc → acc + 71 * (d.length : Int) ≤ room → (Tlv.lszGo (Tlv.bsz 2) room 8 acc (d.map entT)).2 = true
  | [], _, _, _, _, _ => rfl
  | e :: d, h, room, acc, h0, h1 => by
    rw [List.map_cons, Tlv.lszGo]
    simp only [List.length_cons] at h1
    obtain ⟨b1, b2, b3⟩ := ent_bsz (h e (by simp)) (room := room - acc - 3) (deep := 8 - 1) (by omega) (by omega)
    rw [if_pos b1]
    exact ents_bsz d (fun x hx => h x (by simp [hx])) room _ (by omega) (by omega)

theorem entsT_right {d : List Ent} (h : ∀ e ∈ d, e.1.length = 32) (hl : d.length ≤ 900) : (Tlv.bsz 3 (entsT d) 65535 8).2 = true := by
  rw [entsT, Tlv.bsz_3 _ _ _ (by omega), Tlv.lsz_go (by omega)]
  exact ents_bsz d h _ _ (by omega) (by omega)

/-- The form of entries, and what it is sealed. -/
def formE (d : List Ent) : List Int := Tlv.formOf 3 (entsT d)
def sealE (d : List Ent) : List Int := sealI (formE d)

theorem szT_ents {d : List Ent} (h : ∀ e ∈ d, e.1.length = 32) (hl : d.length ≤ 900) : Tlv.szT 3 (entsT d) ≠ 0 := by
  have h1 := entsT_right h hl
  have h2 := Tlv.bsz_fits 3 _ _ _ h1
  rw [Tlv.szT, if_pos h1]
  omega
theorem formE_length {d : List Ent} (h : ∀ e ∈ d, e.1.length = 32) (hl : d.length ≤ 900) : (formE d).length ≤ 65538 := by
  have h1 := entsT_right h hl
  have h2 := Tlv.bsz_fits 3 _ _ _ h1
  have h3 := Tlv.bsz_len 3 _ _ _ h1
  have h4 : (formE d).length = 3 + (Tlv.bodyOf 3 (entsT d)).length := by rw [formE]; simp [Tlv.formOf]; omega
  omega

theorem RightP.places {d : List Ent} (h : RightP d) : ∀ e ∈ d, plB e = true := fun e he => by
  obtain ⟨i, hi⟩ := List.mem_iff_getElem?.1 he
  exact (h.2 i e (List.getElem?_eq_some_iff.1 hi).1 hi).1

set_option maxHeartbeats 1000000 in
set_option maxRecDepth 100000 in
theorem put_no (ad : Addr) (w : World) (v : Value) (d : List Ent) (P : Nat → Prop) (hv : EV P w v d) (hl : d.length ≤ 1000000) (hR : ¬ RightP d) :
    Calls Try.prog 9 #[.pointer (some ad), v] w fun e w' => e = .returned (.tuple #[.slice none 0 0, .int .i64 1]) ∧ Kp No w w' := by
  have HR := hid (right_any w v d P hv hl)
  have HN := hid hR
  obtain ⟨a, c, rfl, _⟩ := hv
  clear hR hl
  go_enter Try.func9, Try.ntmps9
  go_wp2_with fail
  refine HR.out.mono ?_
  rintro e w1 ⟨⟨b, rfl, hb⟩, hk⟩
  have hbf : b = false := by
    cases b with
    | false => rfl
    | true => exact absurd (hb.1 rfl) HN.out
  subst hbf
  have HK := hid hk
  clear hb hk
  go_wp2_with fail
  go_ret2
  exact ⟨rfl, HK.out⟩

set_option maxHeartbeats 2000000 in
set_option maxRecDepth 100000 in
theorem put_yes (b : Nat) (w : World) (v : Value) (d : List Ent) (P : Nat → Prop) (hT : TabX w b) (hv : EV P w v d) (hR : RightP d) :
    Calls Try.prog 9 #[.pointer (some ⟨b, 0, none⟩), v] w fun e w' => ∃ v', e = .returned (.tuple #[v', .int .i64 0]) ∧ Crc.Own w' w.heap.size v' (nats (sealE d)) ∧ Kept b w w' ∧ TabX w' b := by
  have hok := hv.ok
  have HOK : Hid (∀ e ∈ d, e.1.length = 32) := fun e he => (hok e he).1
  have HR := hid (right_any w v d P hv (by have := hR.1; omega))
  have HRR := hid hR
  have HV := hid hv
  have HT := hid hT
  have hbw := hT.lt
  obtain ⟨a, c, rfl, _⟩ := hv
  clear hR hT hok
  go_enter Try.func9, Try.ntmps9
  go_wp2_with fail
  refine HR.out.mono ?_
  rintro e w1 ⟨⟨bb, rfl, hb⟩, hk⟩
  have hbt : bb = true := hb.2 HRR.out
  subst hbt
  have HB1 : Hid (Below w.heap.size w w1) := ⟨hk.os, hk.tape, hk.output, hk.size, fun j hj => hk.block j hj (fun x => x)⟩
  have HV1 := hid (HV.out.kept hk)
  clear hb hk
  go_wp2_with fail
  refine (value_any w1 _ d P HV1.out HRR.out.places (by have := HRR.out.1; omega)).mono ?_
  rintro e w2 ⟨a3, l3, p3, a4, l4, p4, rfl, hr2, hb2⟩
  have HR2 := hid hr2
  have HB2 : Hid (Below w.heap.size w w2) := HB1.out.trans (hb2.mono HB1.out.size)
  clear hr2 hb2
  go_wp2_with fail
  refine (Tlv.Put_yes (entsT d) _ _ _ (HR2.out.agree (Agree.refl _ _ _) (Nat.zero_le _) (Nat.le_refl _)) (szT_ents HOK.out HRR.out.1)).mono ?_
  rintro e w3 ⟨vf, rfl, hf3, hb3⟩
  obtain ⟨af, cf, rfl, hrf⟩ := id hf3
  clear hrf
  have HF3 := hid hf3
  have HB3 : Hid (Below w.heap.size w w3) := HB2.out.trans (hb3.mono HB2.out.size)
  have hz2 : w.heap.size ≤ w2.heap.size := HB2.out.size
  clear hf3 hb3
  go_wp2_with fail
  obtain ⟨f, n, hf, ht⟩ := (HT.out.below HB3.out)
  have hcf : Crc.BySl b w3 (.slice af (Tlv.formOf 3 (entsT d)).length cf) (nats (formE d)) := toCrc HF3.out.toS (fun g hg => ⟨by omega, hg.2⟩)
  refine (Crc.seal_any b f n _ (nats (formE d)) _ hf ht hcf (by rw [nats_length]; have := formE_length HOK.out HRR.out.1; omega)).mono ?_
  rintro e w4 ⟨v', rfl, ho, hk4, ht4⟩
  have HO := hid ho
  have HK4 := hid hk4
  have HT4 := hid ht4
  clear ho hk4 ht4 ht hcf hf
  go_wp2_with fail
  go_ret2
  refine ⟨v', rfl, ?_, (Kept.below HB3.out).trans HK4.out, TabX.of HT4.out⟩
  rw [sealE, sealI_nats]
  exact HO.out.mono HB3.out.size
end Go.Proofs.Ytampnikdmgojjaa.Sg
end

section
/-
  Put and Get of segment with no table.
-/
namespace Go.Proofs.Ytampnikdmgojjaa.Sg
open Go.RowKit
open Sim (hid Kp No)

theorem put_none (w : World) (a : Option Addr) (n c : Nat) : Calls Try.prog 9 #[.pointer none, .slice a n c] w fun e w' => e = .returned (.tuple #[.slice none 0 0, .int .i64 18]) ∧ w' = w := by
  go_enter Try.func9, Try.ntmps9
  go_wp2_with fail
  go_ret2
  exact ⟨rfl, rfl⟩
theorem get_none (w : World) (a : Option Addr) (n c : Nat) : Calls Try.prog 10 #[.pointer none, .slice a n c] w fun e w' => e = .returned (.tuple #[.slice none 0 0, .int .i64 18]) ∧ w' = w := by
  go_enter Try.func10, Try.ntmps10
  go_wp2_with fail
  go_ret2
  exact ⟨rfl, rfl⟩
end Go.Proofs.Ytampnikdmgojjaa.Sg
end

section
/-
  alive of the tenth law.
-/
namespace Go.Proofs.Ytampnikdmgojjaa.Sg
open Go.RowKit
open Tlv (Tr Agree)
open Crc (Kept)
open Sim (hid Kp No)

def h1 : List Int := [1, 0, 0, 0, 0, 0, 0, 0, 0, 0, 0, 0, 0, 0, 0, 0, 0, 0, 0, 0, 0, 0, 0, 0, 0, 0, 0, 0, 0, 0, 0, 0]
theorem h1_ok : EOk (h1, 1, 2, 3) := ⟨rfl, by decide⟩
theorem right1 : RightP [(h1, 1, 2, 3)] := ⟨by simp, fun i e hi he => by
  have hi0 : i = 0 := by simp at hi; omega
  subst hi0
  simp at he
  subst he
  exact ⟨rfl, fun j x hj => by omega⟩⟩
theorem right0 : RightP [] := ⟨by simp, fun i e hi => by simp at hi⟩
theorem find1 {e : Ending} (h : FAns [(h1, 1, 2, 3)] h1 e) : e = .returned (.tuple #[.agg #[.int .i64 1, .int .i64 2, .int .i64 3], .bool true]) := by
  obtain ⟨p, b, rfl, h2, h3, _⟩ := h
  have hb : b = true := h2.2 ⟨right1, (h1, 1, 2, 3), by simp, rfl⟩
  subst hb
  have := h3 rfl
  simp at this
  subst this
  rfl
theorem right1_any {e : Ending} (h : RAns [(h1, 1, 2, 3)] e) : e = .returned (.bool true) := by
  obtain ⟨b, rfl, h2⟩ := h
  rw [h2.2 right1]
theorem seal0 : nats (sealE []) = [3, 0, 0] ++ Crc.le4 (Crc.more 0 [3, 0, 0]) := by
  rw [sealE, sealI_nats]
  rfl
theorem ev1 (w : World) (A : Array Value) (hA : A = (entC (h1, 1, 2, 3)).toArray) : EV (fun g => g = w.heap.size) (w.alloc (.cells A 48)) (.slice (some ⟨w.heap.size, 0, none⟩) 1 1) [(h1, 1, 2, 3)] := by
  subst hA
  refine ⟨_, 1, rfl, Nat.le_refl _, by decide, by simp, fun e he => ?_, fun _ => ⟨w.heap.size, 0, rfl, rfl, by simp, fun i e hi => ?_⟩⟩
  · simp at he
    subst he
    exact h1_ok
  · have hi0 : i = 0 := by
      have := (List.getElem?_eq_some_iff.1 hi).1
      simp at this
      omega
    subst hi0
    simp at hi
    subst hi
    refine ⟨h1_ok, fun j v hv => ?_⟩
    rw [World.cell?_alloc_at _ _ _ _ rfl]
    simpa using hv

set_option maxHeartbeats 4000000 in
set_option maxRecDepth 100000 in
theorem alive_any (w : World) : Calls Try.prog 5 #[] w fun e w' => e = .returned (.bool true) ∧ Kp No w w' := by
  go_enter Try.func5, Try.ntmps5
  go_wp2_with fail
  refine (Crc.new_any w).mono ?_
  rintro e w1 ⟨rfl, hb1, hs1, ht1⟩
  have HB1 := hid hb1
  have HT1 : Hid (TabX w1 w.heap.size) := ⟨0, 0, .inl rfl, ht1⟩
  have hlt1 : w.heap.size < w1.heap.size := by omega
  clear hb1 hs1 ht1
  go_wp2_with fail
  refine (put_yes w.heap.size w1 _ [] No HT1.out (EV.nil _ _) right0).mono ?_
  rintro e w2 ⟨v', rfl, ho, hk2, ht2⟩
  rw [seal0] at ho
  obtain ⟨g, cap, rfl, hg, hgl⟩ := World.ownsRow.form ho (by simp)
  have c0 : w2.cell? ⟨g, 0, none⟩ = some (.int .u8 3) := by rw [World.ownsRow.cellAt ho 0 (by simp)]; rfl
  have hl7 : ([3, 0, 0] ++ Crc.le4 (Crc.more 0 [3, 0, 0])).length = 7 := rfl
  rw [hl7]
  have HK2 : Hid (Kp No w w2) := ⟨by rw [hk2.os, HB1.out.os], by rw [hk2.tape, HB1.out.tape], by rw [hk2.output, HB1.out.output], Nat.le_trans HB1.out.size hk2.size, fun j hj _ => (hk2.block j (by omega) (by omega)).trans (HB1.out.block j hj)⟩
  clear ho hk2 ht2 hl7 HB1 HT1 hg hlt1
  go_wp2_with fail
  have HEV := hid (ev1 w2 _ rfl)
  have HKA : Hid (Kp No w2 (w2.alloc (.cells (entC (h1, 1, 2, 3)).toArray 48))) := (Kp.refl _ _).alloc _
  refine (find_any (w2.alloc (.cells (entC (h1, 1, 2, 3)).toArray 48)) _ [(h1, 1, 2, 3)] _ h1 HEV.out (by simp) rfl (by decide)).mono ?_
  rintro e w3 ⟨hfa, hk3⟩
  have hfe := find1 hfa
  subst hfe
  have HE3 := hid (HEV.out.kept hk3)
  have HK3 := hid (HKA.out.andNone hk3)
  have d0 : w3.cell? ⟨g, 0, none⟩ = some (.int .u8 3) := (HK3.out.cell (p := ⟨g, 0, none⟩) hgl (fun x => x)).trans c0
  have hgl3 : g < w3.heap.size := Nat.lt_of_lt_of_le hgl HK3.out.size
  clear hfa hk3 c0
  go_wp2_with fail
  refine (right_any _ _ [(h1, 1, 2, 3)] _ (HE3.out.kept ((Kp.refl _ _).alloc _)) (by simp)).mono ?_
  rintro e w4 ⟨hra, hk4⟩
  have hre := right1_any hra
  subst hre
  have HF : Hid (Kp No w w4) := ((HK2.out.andNone HK3.out).alloc _).andNone hk4
  clear hra hk4
  go_wp2_with fail
  go_ret
  exact ⟨rfl, HF.out⟩
end Go.Proofs.Ytampnikdmgojjaa.Sg
end

section
/-
  What two right lists that are joined have: the facts that the law asks.
-/
namespace Go.Proofs.Ytampnikdmgojjaa.Sg
open Go.RowKit
open Stb (Stab Srt Mrg)
open Sim (hid Kp No)

theorem sub_length : ∀ (A J : List (List Int)), A.Pairwise (· ≠ ·) → (∀ x ∈ A, x ∈ J) → A.length ≤ J.length
  | [], _, _, _ => Nat.zero_le _
  | a :: A, J, h, hs => by
    obtain ⟨h1, h2⟩ := List.pairwise_cons.1 h
    have ha := hs a (by simp)
    have ih := sub_length A (J.erase a) h2 (fun x hx => (List.mem_erase_of_ne (fun e => h1 x hx e.symm)).2 (hs x (by simp [hx])))
    have := List.length_erase_of_mem ha
    have : 0 < J.length := List.length_pos_of_mem ha
    simp only [List.length_cons]
    omega

theorem Rise.one {d : List Ent} (h : Rise d) {y z : Ent} (hy : y ∈ d) (hz : z ∈ d) (e : y.1 = z.1) : y = z := by
  have h1 := h.get hy
  have h2 := h.get hz
  rw [e, h2] at h1
  cases h1
  rfl

theorem joins_len {A B X : List Ent} (hA : RightP A) (hs : Stab ky (A ++ B) X) : (cmpct X).length ≤ A.length + B.length ∧ A.length ≤ (cmpct X).length := by
  refine ⟨?_, ?_⟩
  · have h1 := cmpct_length X
    have h2 := hs.length
    rw [List.length_append] at h2
    omega
  · have hr := hA.2.rise
    have h := sub_length (A.map (·.1)) ((cmpct X).map (·.1)) (List.pairwise_map.2 (hr.imp (fun {a b} h e => by rw [e, lexB_irr] at h; cases h))) (fun x hx => by
      obtain ⟨y, hy, rfl⟩ := List.mem_map.1 hx
      have h1 : (A ++ B).find? (fun x => decide (x.1 = y.1)) = some y := by rw [List.find?_append, hr.get hy]; rfl
      rw [← sort_find hs] at h1
      exact List.mem_map.2 ⟨y, List.mem_of_find?_eq_some h1, rfl⟩)
    simpa using h

/-- What a search tells, as data. -/
def ret (p : Int × Int × Int) (b : Bool) : Ending := .returned (.tuple #[.agg #[.int .i64 p.1, .int .i64 p.2.1, .int .i64 p.2.2], .bool b])
theorem FAns.data {d : List Ent} {h : List Int} {p : Int × Int × Int} {b : Bool} (f : FAns d h (ret p b)) : (b = true ↔ RightP d ∧ ∃ y ∈ d, y.1 = h) ∧ (b = true → (h, p) ∈ d) := by
  obtain ⟨q, c, e, h1, h2, _⟩ := f
  obtain ⟨p0, p1, p2⟩ := p
  obtain ⟨q0, q1, q2⟩ := q
  simp [ret] at e
  obtain ⟨⟨rfl, rfl, rfl⟩, rfl⟩ := e
  exact ⟨h1, h2⟩
theorem joins_found {A B X : List Ent} (hA : RightP A) (hB : RightP B) (hs : Stab ky (A ++ B) X) (hJ : RightP (cmpct X)) {y : Ent} (hy : y ∈ cmpct X) {p q r : Int × Int × Int} {b1 b2 b3 : Bool} (f1 : FAns A y.1 (ret p b1)) (f2 : FAns B y.1 (ret q b2)) (f3 : FAns (cmpct X) y.1 (ret r b3)) :
    (b3 = true ∧ r = y.2) ∧ ((b1 = true ∧ p = y.2) ∨ (b1 = false ∧ b2 = true ∧ q = y.2)) := by
  have hrA := hA.2.rise
  have hrB := hB.2.rise
  have hrJ := hJ.2.rise
  have hf : (A ++ B).find? (fun x => decide (x.1 = y.1)) = some y := by rw [← sort_find hs]; exact hrJ.get hy
  obtain ⟨g1, g2⟩ := f1.data
  obtain ⟨k1, k2⟩ := f2.data
  obtain ⟨m1, m2⟩ := f3.data
  refine ⟨?_, ?_⟩
  · have hb : b3 = true := m1.2 ⟨hJ, y, hy, rfl⟩
    have e := hrJ.one (m2 hb) hy rfl
    exact ⟨hb, by rw [← e]⟩
  · cases b1 with
    | true =>
      refine .inl ⟨rfl, ?_⟩
      have hm := g2 rfl
      have h1 := hrA.get hm
      rw [List.find?_append, h1] at hf
      have : (y.1, p) = y := by simpa using hf
      rw [← this]
    | false =>
      have hno : A.find? (fun x => decide (x.1 = y.1)) = none := by
        rw [List.find?_eq_none]
        intro x hx e
        have := g1.2 ⟨hA, x, hx, by simpa using e⟩
        cases this
      rw [List.find?_append, hno] at hf
      have hfB : B.find? (fun x => decide (x.1 = y.1)) = some y := by simpa using hf
      have hyB := List.mem_of_find?_eq_some hfB
      have hb2 : b2 = true := k1.2 ⟨hB, y, hyB, rfl⟩
      have e := hrB.one (k2 hb2) hyB rfl
      exact .inr ⟨rfl, hb2, by rw [← e]⟩
theorem joins_there {A B X : List Ent} (hs : Stab ky (A ++ B) X) (hJ : RightP (cmpct X)) {y : Ent} (hy : y ∈ B) {e : Ending} (f : FAns (cmpct X) y.1 e) :
    ∃ (p : Int × Int × Int), e = .returned (.tuple #[.agg #[.int .i64 p.1, .int .i64 p.2.1, .int .i64 p.2.2], .bool true]) := by
  obtain ⟨p, b, rfl, h1, _⟩ := f
  refine ⟨p, ?_⟩
  have hb : b = true := h1.2 ⟨hJ, ?_⟩
  · rw [hb]
  · cases hfi : (A ++ B).find? (fun x => decide (x.1 = y.1)) with
    | none =>
      have := List.find?_eq_none.1 hfi y (by simp [hy])
      simp at this
    | some z =>
      have hz : z.1 = y.1 := by simpa using List.find?_some hfi
      rw [← sort_find hs] at hfi
      exact ⟨z, List.mem_of_find?_eq_some hfi, hz⟩
end Go.Proofs.Ytampnikdmgojjaa.Sg
end

section
/-
  The law of joins, walked.
-/
namespace Go.Proofs.Ytampnikdmgojjaa.Sg
open Go.RowKit
open Stb (Stab Srt Mrg)
open Sim (hid Kp No)

theorem EV.form {P : Nat → Prop} {w : World} {v : Value} {d : List Ent} (h : EV P w v d) : ∃ a c, v = .slice a d.length c := by
  obtain ⟨a, c, e, _⟩ := h
  exact ⟨a, c, e⟩
theorem EV.row {P : Nat → Prop} {w : World} {a : Option Addr} {n c : Nat} {d : List Ent} (h : EV P w (.slice a n c) d) (hd : d ≠ []) : ∃ g o, a = some ⟨g, o, none⟩ ∧ P g ∧ ERow w g o d := by
  obtain ⟨a', c', e, _, _, _, _, h6⟩ := h
  simp only [Value.slice.injEq] at e
  rw [e.1]
  exact h6 hd
theorem rowForm {w : World} {t : TypeId} {sz n : Nat} {v : Value} {xs : List Value} (h : Sim.Row w t sz v n xs) : ∃ a c, v = .slice a n c := by
  obtain ⟨a, c, e, _⟩ := h.shape
  exact ⟨a, c, e⟩
theorem FAns.form {d : List Ent} {h : List Int} {e : Ending} (f : FAns d h e) : ∃ p0 p1 p2 b, e = ret (p0, p1, p2) b := by
  obtain ⟨p, b, rfl, _⟩ := f
  exact ⟨_, _, _, _, rfl⟩
theorem eqW (a b c : Int) (w : World) : (Op.equalIn 10000 42 (.agg #[.int .i64 a, .int .i64 b, .int .i64 c]) (.agg #[.int .i64 a, .int .i64 b, .int .i64 c])).run Try.prog w = .ok true w := by
  rw [show (10000 : Nat) = 9999 + 1 from rfl, Op.equalIn]
  go_simp

set_option maxHeartbeats 4000000 in
set_option maxRecDepth 100000 in
theorem joins_big (w : World) (a1 a2 : Option Addr) (n1 n2 c1 c2 : Nat) (h : 60 < n1 ∨ 60 < n2) : Calls Try.prog 4 #[.slice a1 n1 c1, .slice a2 n2 c2] w fun e w' => e = .returned (.bool true) ∧ Kp No w w' := by
  by_cases h1 : 60 < n1
  · have hI : (60 : Int) < (n1 : Int) := by omega
    go_enter Try.func4, Try.ntmps4
    go_wp2_with fail
    refine (alive_any _).mono ?_
    rintro e w1 ⟨rfl, hk⟩
    have HK := hid hk
    clear hk
    go_wp2_with fail
    go_ret
    exact ⟨rfl, HK.out⟩
  · have hI : ¬ (60 : Int) < (n1 : Int) := by omega
    have hI2 : (60 : Int) < (n2 : Int) := by omega
    go_enter Try.func4, Try.ntmps4
    go_wp2_with fail
    refine (alive_any _).mono ?_
    rintro e w1 ⟨rfl, hk⟩
    have HK := hid hk
    clear hk
    go_wp2_with fail
    go_ret
    exact ⟨rfl, HK.out⟩

set_option maxHeartbeats 4000000 in
set_option maxRecDepth 100000 in
theorem joins_main (w : World) (v1 v2 : Value) (l m : List Ent) (P1 P2 : Nat → Prop) (hl : EV P1 w v1 l) (hm : EV P2 w v2 m) : Calls Try.prog 4 #[v1, v2] w fun e w' => e = .returned (.bool true) ∧ Kp No w w' := by
  have HL := hid hl
  have HM := hid hm
  obtain ⟨a1, c1, rfl⟩ := hl.form
  obtain ⟨a2, c2, rfl⟩ := hm.form
  obtain ⟨n1, hn1⟩ : ∃ n, l.length = n := ⟨_, rfl⟩
  obtain ⟨n2, hn2⟩ : ∃ n, m.length = n := ⟨_, rfl⟩
  have HN1 := hid hn1
  have HN2 := hid hn2
  rw [hn1] at HL ⊢
  rw [hn2] at HM ⊢
  clear hn1 hn2 hl hm
  by_cases hbig : 60 < n1 ∨ 60 < n2
  · exact joins_big w a1 a2 n1 n2 c1 c2 hbig
  have hb1 : n1 ≤ 60 := by omega
  have hb2 : n2 ≤ 60 := by omega
  clear hbig
  have hI : ¬ (60 : Int) < (n1 : Int) := by omega
  have hI2 : ¬ (60 : Int) < (n2 : Int) := by omega
  go_enter Try.func4, Try.ntmps4
  go_wp2_with fail
  refine (own_any _ _ l P1 HL.out (by rw [HN1.out]; omega)).mono ?_
  rintro e w1 ⟨r1, rfl, hM1⟩
  have HS1 := hid (sort_any w1 r1 l _ (ev_of_row hM1.1 HL.out.ok hM1.2.1) (by rw [HN1.out]; omega))
  have HK1 := hid hM1.2.2
  obtain ⟨b1, k1, rfl⟩ := rowForm hM1.1
  clear hM1
  go_wp2_with fail
  refine HS1.out.mono ?_
  rintro e w2 ⟨r2, X, rfl, hs2, hr2, hk2, hv2⟩
  have HLA : Hid ((cmpct X).length ≤ 60) := by
    have q1 := cmpct_length X
    have q2 := hs2.length
    have q3 := HN1.out
    rw [Hid]; omega
  have HRA := hid (cmpct_rise hr2)
  obtain ⟨A, hA⟩ : ∃ A, cmpct X = A := ⟨_, rfl⟩
  rw [hA] at hv2 HLA HRA
  have HVA := hid hv2
  have HK2 := hid (HK1.out.andNone hk2)
  obtain ⟨aA, cA, rfl⟩ := hv2.form
  clear hv2 hs2 hr2 hk2 hA HS1 HK1
  go_wp2_with fail
  refine (own_any _ _ m P2 (HM.out.kept HK2.out) (by rw [HN2.out]; omega)).mono ?_
  rintro e w3 ⟨r3, rfl, hM3⟩
  have HS3 := hid (sort_any w3 r3 m _ (ev_of_row hM3.1 HM.out.ok hM3.2.1) (by rw [HN2.out]; omega))
  have HVA3 := hid (HVA.out.kept hM3.2.2)
  have HK3 := hid (HK2.out.andNone hM3.2.2)
  obtain ⟨b3, k3, rfl⟩ := rowForm hM3.1
  clear hM3 HVA
  go_wp2_with fail
  refine HS3.out.mono ?_
  rintro e w4 ⟨r4, Y, rfl, hs4, hr4, hk4, hv4⟩
  have HLB : Hid ((cmpct Y).length ≤ 60) := by
    have q1 := cmpct_length Y
    have q2 := hs4.length
    have q3 := HN2.out
    rw [Hid]; omega
  have HRB := hid (cmpct_rise hr4)
  obtain ⟨B, hB⟩ : ∃ B, cmpct Y = B := ⟨_, rfl⟩
  rw [hB] at hv4 HLB HRB
  have HVB := hid hv4
  have HVA4 := hid (HVA3.out.kept hk4)
  have HK4 := hid (HK3.out.andNone hk4)
  obtain ⟨aB, cB, rfl⟩ := hv4.form
  clear hv4 hs4 hr4 hk4 hB HS3 HK3 HVA3 HK2 HL HM HN1 HN2 hI hI2 hb1 hb2
  obtain ⟨nA, hnA⟩ : ∃ n, A.length = n := ⟨_, rfl⟩
  obtain ⟨nB, hnB⟩ : ∃ n, B.length = n := ⟨_, rfl⟩
  have HNA := hid hnA
  have HNB := hid hnB
  rw [hnA] at HVA4 HLA ⊢
  rw [hnB] at HVB HLB ⊢
  clear hnA hnB
  go_wp2_with fail
  refine (right_any _ _ A _ HVA4.out (by rw [HNA.out]; have := HLA.out; omega)).mono ?_
  rintro e w5 ⟨⟨rb, rfl, hrb⟩, hk5⟩
  have HVA5 := hid (HVA4.out.kept hk5)
  have HVB5 := hid (HVB.out.kept hk5)
  have HK5 := hid (HK4.out.andNone hk5)
  clear hk5 HVA4 HVB HK4
  cases rb with
  | false =>
    clear hrb
    go_wp2_with fail
    refine (alive_any _).mono ?_
    rintro e w6 ⟨rfl, hk⟩
    have HK := hid (HK5.out.andNone hk)
    clear hk
    go_wp2_with fail
    go_ret
    exact ⟨rfl, HK.out⟩
  | true =>
  have HPA := hid (hrb.1 rfl)
  clear hrb
  go_wp2_with fail
  refine (right_any _ _ B _ HVB5.out (by rw [HNB.out]; have := HLB.out; omega)).mono ?_
  rintro e w6 ⟨⟨rb, rfl, hrb⟩, hk6⟩
  have HVA6 := hid (HVA5.out.kept hk6)
  have HVB6 := hid (HVB5.out.kept hk6)
  have HK6 := hid (HK5.out.andNone hk6)
  clear hk6 HVA5 HVB5 HK5
  cases rb with
  | false =>
    clear hrb
    go_wp2_with fail
    refine (alive_any _).mono ?_
    rintro e w7 ⟨rfl, hk⟩
    have HK := hid (HK6.out.andNone hk)
    clear hk
    go_wp2_with fail
    go_ret
    exact ⟨rfl, HK.out⟩
  | true =>
  have HPB := hid (hrb.1 rfl)
  clear hrb
  go_wp2_with fail
  refine (join_any w6 _ _ A B _ _ HVA6.out HVB6.out (by rw [HNA.out, HNB.out]; have := HLA.out; have := HLB.out; omega)).mono ?_
  rintro e w7 ⟨r7, Z, rfl, hs7, hr7, hk7, hv7⟩
  have HPJ := hid (join_right HPA.out HPB.out hs7 hr7 (by rw [HNA.out, HNB.out]; have := HLA.out; have := HLB.out; omega))
  have HLJ := hid (joins_len HPA.out hs7)
  have HSJ := hid hs7
  have HVA7 := hid (HVA6.out.kept hk7)
  have HVB7 := hid (HVB6.out.kept hk7)
  have HK7 := hid (HK6.out.andNone hk7)
  have HVJ := hid hv7
  obtain ⟨aJ, cJ, rfl⟩ := hv7.form
  clear hv7 hs7 hr7 hk7 HVA6 HVB6 HK6
  obtain ⟨nJ, hnJ⟩ : ∃ n, (cmpct Z).length = n := ⟨_, rfl⟩
  have HNJ := hid hnJ
  rw [hnJ] at HVJ HLJ ⊢
  rw [HNA.out, HNB.out] at HLJ
  clear hnJ
  have hj1 : decide ((nA : Int) + (nB : Int) < (nJ : Int)) = false := by have := HLJ.out.1; simp; omega
  have hj2 : decide (nJ < nA) = false := by have := HLJ.out.2; simp; omega
  have hnJ120 : nJ ≤ 120 := by have := HLJ.out.1; have := HLA.out; have := HLB.out; omega
  have hnB60 : nB ≤ 60 := HLB.out
  have hwS : IntKind.i64.wrap ((nA : Int) + (nB : Int)) = (nA : Int) + (nB : Int) := by have := HLA.out; have := HLB.out; rw [IntKind.wrap_i64]; omega
  go_wp2_with fail
  refine (right_any _ _ (cmpct Z) _ HVJ.out (by rw [HNJ.out]; omega)).mono ?_
  rintro e w8 ⟨⟨rb, rfl, hrb⟩, hk8⟩
  have hrbt : rb = true := hrb.2 HPJ.out
  subst hrbt
  have HVA8 := hid (HVA7.out.kept hk8)
  have HVB8 := hid (HVB7.out.kept hk8)
  have HVJ8 := hid (HVJ.out.kept hk8)
  have HK8 := hid (HK7.out.andNone hk8)
  clear hrb hk8 HVA7 HVB7 HVJ HK7
  go_wp2_with fail
  clear hj1 hj2 hwS
  go_loopw [8] (fun x wr => ∃ (k : Nat), x = .int .i64 (k : Int) ∧ k ≤ nJ ∧ Hid (Kp No w8 wr)) (fun x _ => nJ - (intOf x).toNat)
  case atStart => exact ⟨0, rfl, Nat.zero_le _, Kp.refl _ _⟩
  case round =>
    obtain ⟨k, rfl, hkn, HS⟩ := hrel
    by_cases hlt : k < nJ
    · have hltI : (k : Int) < (nJ : Int) := by omega
      have hwk : IntKind.i64.wrap ((k : Int) + 1) = ((k + 1 : Nat) : Int) := by rw [IntKind.wrap_i64]; omega
      obtain ⟨y, hy⟩ : ∃ y, (cmpct Z)[k]? = some y := ⟨_, List.getElem?_eq_getElem (by rw [HNJ.out]; exact hlt)⟩
      have HY := hid (List.mem_of_getElem? hy)
      obtain ⟨g, o, rfl, _, hr⟩ := HVJ8.out.row (by intro e; have := HNJ.out; rw [e] at this; simp at this; omega)
      have hrow := hr.kp HS.out (fun x => x)
      obtain ⟨hyo, hyr⟩ := hrow.2 k y hy
      obtain ⟨nm, p0, p1, p2⟩ := y
      have hgw : g < wr.heap.size := hrow.1
      have HRN : Hid (∀ V, Kp No wr V → V.rangeAt g (o + k * 35) (b8 nm)) := fun V hV => rng_name (((hr.kp HS.out (fun x => x)).kp hV (fun x => x)).2 k _ hy).2
      have HRP : Hid (∀ V, Kp No wr V → V.cell? ⟨g, o + k * 35 + 32, none⟩ = some (.int .i64 p0) ∧ V.cell? ⟨g, o + k * 35 + 32 + 1, none⟩ = some (.int .i64 p1) ∧ V.cell? ⟨g, o + k * 35 + 32 + 2, none⟩ = some (.int .i64 p2)) := fun V hV => by
        have h := rng_place hyo (((hr.kp HS.out (fun x => x)).kp hV (fun x => x)).2 k _ hy).2
        exact ⟨h 0 _ rfl, h 1 _ rfl, h 2 _ rfl⟩
      have HI1 : Hid ((Try.prog.info? 46).map (·.size) = some (b8 nm).length) := by rw [Hid, b8_length, hyo.1]; exact infH
      have HFA : Hid (∀ V, Kp No wr V → Calls Try.prog 16 #[.slice aA nA cA, .agg (b8 nm).toArray] V fun e w' => FAns A nm e ∧ Kp No V w') := fun V hV => find_any V _ A _ nm ((HVA8.out.kept HS.out).kept hV) (by rw [HNA.out]; have := HLA.out; omega) hyo.1 hyo.2
      have HFB : Hid (∀ V, Kp No wr V → Calls Try.prog 16 #[.slice aB nB cB, .agg (b8 nm).toArray] V fun e w' => FAns B nm e ∧ Kp No V w') := fun V hV => find_any V _ B _ nm ((HVB8.out.kept HS.out).kept hV) (by rw [HNB.out]; omega) hyo.1 hyo.2
      have HFJ : Hid (∀ V, Kp No wr V → Calls Try.prog 16 #[.slice (some ⟨g, o, none⟩) nJ cJ, .agg (b8 nm).toArray] V fun e w' => FAns (cmpct Z) nm e ∧ Kp No V w') := fun V hV => find_any V _ (cmpct Z) _ nm ((HVJ8.out.kept HS.out).kept hV) (by rw [HNJ.out]; omega) hyo.1 hyo.2
      obtain ⟨bx, hbx⟩ : ∃ bx, b8 nm = bx := ⟨_, rfl⟩
      rw [hbx] at HRN HI1 HFA HFB HFJ
      clear hbx hr hrow hyo hyr hy
      go_wp2_with (refine wpList_load_mid (by rfl) 46 _ (by rfl) g (o + k * 35) (by rfl) bx _ (HRN.out _ (Kp.refl _ _)) Try.underlying46 rfl HI1.out ?_)
      refine (HFA.out _ (Kp.refl _ _)).mono ?_
      rintro e x1 ⟨f1, hk1⟩
      obtain ⟨u0, u1, u2, ub, rfl⟩ := f1.form
      have HF1 := hid f1
      have HK1 := hid hk1
      clear f1 hk1
      unfold ret
      go_wp2_with (refine wpList_load_mid (by rfl) 46 _ (by rfl) g (o + k * 35) (by rfl) bx _ (HRN.out _ (HK1.out.alloc _)) Try.underlying46 rfl HI1.out ?_)
      refine (HFB.out _ (HK1.out.alloc _)).mono ?_
      rintro e x2 ⟨f2, hk2⟩
      obtain ⟨s0, s1, s2, sb, rfl⟩ := f2.form
      have HF2 := hid f2
      have HK2 := hid ((HK1.out.alloc _).andNone hk2)
      have hx12 : x1.heap.size < x2.heap.size := by have := hk2.size; simp at this; omega
      have e0 : x2.cell? ⟨x1.heap.size, 0, none⟩ = some (.int .i64 u0) := (hk2.cell (p := ⟨x1.heap.size, 0, none⟩) (by simp) (fun x => x)).trans (by simp [go_sem])
      have e1 : x2.cell? ⟨x1.heap.size, 1, none⟩ = some (.int .i64 u1) := (hk2.cell (p := ⟨x1.heap.size, 1, none⟩) (by simp) (fun x => x)).trans (by simp [go_sem])
      have e2 : x2.cell? ⟨x1.heap.size, 2, none⟩ = some (.int .i64 u2) := (hk2.cell (p := ⟨x1.heap.size, 2, none⟩) (by simp) (fun x => x)).trans (by simp [go_sem])
      clear f2 hk2
      unfold ret
      go_wp2_with (refine wpList_load_mid (by rfl) 46 _ (by rfl) g (o + k * 35) (by rfl) bx _ (HRN.out _ (HK2.out.alloc _)) Try.underlying46 rfl HI1.out ?_)
      refine (HFJ.out _ (HK2.out.alloc _)).mono ?_
      rintro e x3 ⟨f3, hk3⟩
      obtain ⟨t0, t1, t2, tb, rfl⟩ := f3.form
      have HF3 := hid f3
      have HK3 := hid ((HK2.out.alloc _).andNone hk3)
      have hx23 : x2.heap.size < x3.heap.size := by have := hk3.size; simp at this; omega
      have d0 : x3.cell? ⟨x1.heap.size, 0, none⟩ = some (.int .i64 u0) := (hk3.cell (p := ⟨x1.heap.size, 0, none⟩) (by simp; omega) (fun x => x)).trans (by rw [World.cell?_alloc_past _ _ _ hx12]; exact e0)
      have d1 : x3.cell? ⟨x1.heap.size, 1, none⟩ = some (.int .i64 u1) := (hk3.cell (p := ⟨x1.heap.size, 1, none⟩) (by simp; omega) (fun x => x)).trans (by rw [World.cell?_alloc_past _ _ _ hx12]; exact e1)
      have d2 : x3.cell? ⟨x1.heap.size, 2, none⟩ = some (.int .i64 u2) := (hk3.cell (p := ⟨x1.heap.size, 2, none⟩) (by simp; omega) (fun x => x)).trans (by rw [World.cell?_alloc_past _ _ _ hx12]; exact e2)
      have c0 : x3.cell? ⟨x2.heap.size, 0, none⟩ = some (.int .i64 s0) := (hk3.cell (p := ⟨x2.heap.size, 0, none⟩) (by simp) (fun x => x)).trans (by simp [go_sem])
      have c1 : x3.cell? ⟨x2.heap.size, 1, none⟩ = some (.int .i64 s1) := (hk3.cell (p := ⟨x2.heap.size, 1, none⟩) (by simp) (fun x => x)).trans (by simp [go_sem])
      have c2 : x3.cell? ⟨x2.heap.size, 2, none⟩ = some (.int .i64 s2) := (hk3.cell (p := ⟨x2.heap.size, 2, none⟩) (by simp) (fun x => x)).trans (by simp [go_sem])
      clear f3 hk3 e0 e1 e2
      unfold ret
      obtain ⟨⟨rfl, hr⟩, hq⟩ := joins_found HPA.out HPB.out HSJ.out HPJ.out HY.out HF1.out HF2.out HF3.out
      simp only [Prod.mk.injEq] at hr hq
      obtain ⟨rfl, rfl, rfl⟩ := hr
      obtain ⟨q0, q1, q2⟩ := HRP.out x3 HK3.out
      have hgx : g < x3.heap.size := Nat.lt_of_lt_of_le hgw HK3.out.size
      have hx13 : x1.heap.size < x3.heap.size := by omega
      have eW := eqW t0 t1 t2
      clear HF1 HF2 HF3 HRN HRP HI1 HFA HFB HFJ HY HK1 HK2 HLA HLB HRA HRB HVA8 HVB8 HNA HNB HPA HPB HPJ HSJ HLJ HNJ hgw
      rcases hq with ⟨rfl, rfl, rfl, rfl⟩ | ⟨rfl, rfl, rfl, rfl, rfl⟩
      · clear c0 c1 c2
        go_wp2_with fail
        go_quiet (fail)
        go_wp2
        go_round
        case rel => exact ⟨k + 1, by first | rfl | go_num, by omega, by first | exact ((HS.out.andNone HK3.out).alloc _).drewN _ | exact (((HS.out.andNone HK3.out).alloc _).drewN _).drewN _⟩
        case measure => simp [intOf]; omega
      · clear d0 d1 d2
        go_wp2_with fail
        go_quiet (fail)
        go_wp2
        go_round
        case rel => exact ⟨k + 1, by first | rfl | go_num, by omega, by first | exact ((HS.out.andNone HK3.out).alloc _).drewN _ | exact (((HS.out.andNone HK3.out).alloc _).drewN _).drewN _⟩
        case measure => simp [intOf]; omega
    · have hltI : ¬ (k : Int) < (nJ : Int) := by omega
      clear hlt
      go_wp2_with fail
      go_loopw [15] (fun x wq => ∃ (j : Nat), x = .int .i64 (j : Int) ∧ j ≤ nB ∧ Hid (Kp No w8 wq)) (fun x _ => nB - (intOf x).toNat)
      case atStart => exact ⟨0, rfl, Nat.zero_le _, HS.out⟩
      case round =>
        obtain ⟨j, rfl, hjn, HT⟩ := hrel
        by_cases hlt : j < nB
        · have hltJ : (j : Int) < (nB : Int) := by omega
          have hwk : IntKind.i64.wrap ((j : Int) + 1) = ((j + 1 : Nat) : Int) := by rw [IntKind.wrap_i64]; omega
          obtain ⟨y, hy⟩ : ∃ y, B[j]? = some y := ⟨_, List.getElem?_eq_getElem (by rw [HNB.out]; exact hlt)⟩
          have HY := hid (List.mem_of_getElem? hy)
          obtain ⟨g, o, rfl, _, hr⟩ := HVB8.out.row (by intro e; have := HNB.out; rw [e] at this; simp at this; omega)
          obtain ⟨hyo, hyr⟩ := (hr.kp HT.out (fun x => x)).2 j y hy
          have HRN := hid (rng_name hyr)
          have HI1 : Hid ((Try.prog.info? 46).map (·.size) = some (b8 y.1).length) := by rw [Hid, b8_length, hyo.1]; exact infH
          have HFJ := hid (find_any wr _ (cmpct Z) _ y.1 (HVJ8.out.kept HT.out) (by rw [HNJ.out]; omega) hyo.1 hyo.2)
          obtain ⟨bx, hbx⟩ : ∃ bx, b8 y.1 = bx := ⟨_, rfl⟩
          rw [hbx] at HRN HI1 HFJ
          clear hbx hr hyo hyr hy
          go_wp2_with (refine wpList_load_mid (by rfl) 46 _ (by rfl) g (o + j * 35) (by rfl) bx _ HRN.out Try.underlying46 rfl HI1.out ?_)
          refine HFJ.out.mono ?_
          rintro e x1 ⟨f1, hk1⟩
          obtain ⟨u, rfl⟩ := joins_there HSJ.out HPJ.out HY.out f1
          have HK1 := hid (HT.out.andNone hk1)
          clear f1 hk1
          go_wp2_with fail
          go_round
          case rel => exact ⟨j + 1, by first | rfl | go_num, by omega, HK1.out.alloc _⟩
          case measure => simp [intOf]; omega
        · have hltJ : ¬ (j : Int) < (nB : Int) := by omega
          have HKT := hid (HK8.out.andNone HT.out)
          clear hlt HT HS
          go_wp2_with fail
          refine (put_none _ _ _ _).mono ?_
          rintro e x1 ⟨rfl, rfl⟩
          go_wp2_with fail
          refine (get_none _ _ _ _).mono ?_
          rintro e x2 ⟨rfl, rfl⟩
          go_wp2_with fail
          refine (alive_any _).mono ?_
          rintro e x3 ⟨rfl, hk⟩
          have HK := hid (HKT.out.andNone hk)
          clear hk
          go_wp2_with fail
          go_ret
          exact ⟨rfl, HK.out⟩
end Go.Proofs.Ytampnikdmgojjaa.Sg
end

section
/-
  Records that came in, opened.
-/
namespace Go.Proofs.Ytampnikdmgojjaa
open Go.RowKit Go.ChangeShapes Go.WideShapes

theorem mapM_each {α β : Type} {f : α → Option β} : ∀ (L : List α) (ys : List β), L.mapM f = some ys → ∀ i ∈ L, ∃ y, f i = some y
  | [], _, _, i, hi => by simp at hi
  | a :: L, ys, h, i, hi => by
    rw [List.mapM_cons] at h
    simp only [bind, Option.bind_eq_some_iff, pure, Option.some.injEq] at h
    obtain ⟨y, hy, zs, hzs, _⟩ := h
    rcases List.mem_cons.1 hi with rfl | hi
    · exact ⟨y, hy⟩
    · exact mapM_each L zs hzs i hi

section
variable {H : Type} {enc : TypeId × Value → H} {P : Program} {W : World} {base : Nat} {sp : Nat → Bool} {held : Bool} {t e : TypeId} {n : Nat} {q : IntKind}
/-- The cells of an array of integers that came in. -/
theorem arr_ints (hu : P.underlying t = some (.array n e)) (he : P.underlying e = some (.int q)) (h1 : P.cellsOf e = 1) {fuel : Nat} {cs : List Value} {x : DataW H × List MemPlace} (hl : cs.length = n)
    (h : DataW.trod enc P W base sp held fuel t cs = some x) : ∃ zs : List Int, cs = zs.map (fun z => Value.int q z) ∧ zs.length = n ∧ ∀ z ∈ zs, (Lit.int q z).wf = true := by
  cases fuel with
  | zero => simp [DataW.trod] at h
  | succ m =>
    rw [DataW.trod_step] at h
    unfold DataW.trodStep at h
    simp only [hu] at h
    split at h
    · simp only [Option.map_eq_some_iff] at h
      obtain ⟨ys, hy, _⟩ := h
      have hE : ∀ i, i < n → ∃ z, cs[i]? = some (.int q z) ∧ (Lit.int q z).wf = true := fun i hi => by
        obtain ⟨y, hy⟩ := mapM_each _ ys hy i (List.mem_range.2 hi)
        obtain ⟨a, ea, _, wa⟩ := DataW.trod_int he hy
        rw [h1, Nat.mul_one] at ea
        refine ⟨a, ?_, wa⟩
        have h := congrArg (fun l : List Value => l[0]?) ea
        simpa [List.getElem?_take, List.getElem?_drop] using h
      refine ⟨cs.map intOf, ?_, by simpa using hl, ?_⟩
      · apply List.ext_getElem?
        intro i
        by_cases hi : i < n
        · obtain ⟨z, hz, _⟩ := hE i hi
          simp [hz, intOf]
        · have : cs[i]? = none := List.getElem?_eq_none (by omega)
          simp [this]
      · intro z hz
        obtain ⟨x, hx, rfl⟩ := List.mem_map.1 hz
        obtain ⟨i, hi, rfl⟩ := List.getElem_of_mem hx
        obtain ⟨z, hz, hw⟩ := hE i (by omega)
        rw [List.getElem?_eq_getElem hi] at hz
        simp only [Option.some.injEq] at hz
        rw [hz]
        exact hw
    · simp at h
end

/-- A slice of bytes, as it came in. -/
def InRow (W : World) (a : Option Addr) (l c : Nat) : Prop :=
  (a = none ∧ l = 0 ∧ c = 0) ∨ ∃ (y : Addr) (zs : List Int), a = some y ∧ l ≤ c ∧ c ≤ maxLen ∧ zs.length = c ∧ (∀ i, i < zs.length → W.cell? (y.add i) = some (.int .u8 (zs.getD i 0))) ∧ ∀ n ∈ zs, (Lit.int .u8 n).wf = true

theorem InRow.le {W : World} {a : Option Addr} {l c : Nat} (h : InRow W a l c) : l ≤ 9223372036854775807 := by
  rcases h with ⟨_, rfl, _⟩ | ⟨_, _, _, h1, h2, _⟩
  · omega
  · unfold maxLen at h2; omega

theorem spot_none {w : World} {x : Addr} {v : Value} (c0 : w.cell? (x.add 0) = some v) : x.spot = none := by
  have e : x.add 0 = x := rfl
  rw [e] at c0
  unfold World.cell? at c0
  split at c0
  · split at c0
    · cases c0
    · rename_i hs; simpa using hs
  · cases c0

theorem addr_plus (g o i : Nat) : (⟨g, o, none⟩ : Addr).add i = ⟨g, o + i, none⟩ := by unfold Addr.add; split <;> simp_all

theorem u8_wf {y : Int} (h : (Lit.int .u8 y).wf = true) : 0 ≤ y ∧ y ≤ 255 := by
  have hmin : IntKind.u8.min = 0 := rfl
  have hmax : IntKind.u8.max = 255 := rfl
  simp only [Lit.wf, Bool.and_eq_true, decide_eq_true_eq] at h
  omega

theorem i64_wf {y : Int} (h : (Lit.int .i64 y).wf = true) : -9223372036854775808 ≤ y ∧ y ≤ 9223372036854775807 := by
  have hmin : IntKind.i64.min = -9223372036854775808 := rfl
  have hmax : IntKind.i64.max = 9223372036854775807 := rfl
  simp only [Lit.wf, Bool.and_eq_true, decide_eq_true_eq] at h
  omega
theorem u32_wf {y : Int} (h : (Lit.int .u32 y).wf = true) : 0 ≤ y ∧ y ≤ 4294967295 := by
  have hmin : IntKind.u32.min = 0 := rfl
  have hmax : IntKind.u32.max = 4294967295 := rfl
  simp only [Lit.wf, Bool.and_eq_true, decide_eq_true_eq] at h
  omega

theorem InRow.bytes {w : World} {a : Option Addr} {len cap : Nat} (h : InRow w a len cap) (hl : len ≤ 140737488355328) : ∃ bs : List Int, bs.length = len ∧ Tlv.BySl 0 w.heap.size w (.slice a len cap) bs := by
  rcases h with ⟨rfl, rfl, rfl⟩ | ⟨x, zs, rfl, h1, h2, h3, h4, h5⟩
  · exact ⟨[], rfl, Tlv.BySl.none _ _ _⟩
  · have hlen : (zs.take len).length = len := List.length_take_of_le (by omega)
    refine ⟨zs.take len, hlen, _, cap, by rw [hlen], by rw [hlen]; exact h1, h2, by simp, by rw [hlen]; omega, fun y hy => u8_wf (h5 y (List.mem_of_mem_take hy)), fun hne => ?_⟩
    have hpos : 0 < len := by have := List.length_pos_iff.2 hne; omega
    have c0 := h4 0 (by omega)
    have hx := spot_none c0
    obtain ⟨b, o, s⟩ := x
    simp only at hx
    subst hx
    refine ⟨b, o, rfl, Nat.zero_le _, World.block_lt_of_cell? w _ c0, fun i hi => ?_⟩
    have := h4 i (by omega)
    rw [addr_plus] at this
    rw [this]
    rw [hlen] at hi
    simp [hi]



end Go.Proofs.Ytampnikdmgojjaa
end
