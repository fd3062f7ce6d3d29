/- Of the proof: the texts SgOwn, SgValue, SgPut, IxSaveL, IxNil, IxBase, PkLoad, PkSeal, PkSealing, PkSealW, PkPlain, one behind the other. -/
import Derived.Test.YthmimipoooemjaaGreatDoorB15
import Derived.Test.YthmimipoooemjaaGreatDoorB14
import Derived.Test.YthmimipoooemjaaGreatDoorB9
import Derived.Test.YthmimipoooemjaaGreatDoorB1
import Derived.Test.YthmimipoooemjaaGreatDoorB8
import Derived.Test.YthmimipoooemjaaGreatDoorB3
section
/-
  Own of the tenth law: entries of the document's type as the program's.
-/
namespace Go.Proofs.YthmimipoooemjaaGreatDoor.Sg
open Go.RowKit
open Stb (Stab Srt Mrg)
open Sim (hid Kp No)

theorem x32 {nm : List Int} (h : nm.length = 32) : ∃ x0 x1 x2 x3 x4 x5 x6 x7 x8 x9 x10 x11 x12 x13 x14 x15 x16 x17 x18 x19 x20 x21 x22 x23 x24 x25 x26 x27 x28 x29 x30 x31,
    nm = [x0, x1, x2, x3, x4, x5, x6, x7, x8, x9, x10, x11, x12, x13, x14, x15, x16, x17, x18, x19, x20, x21, x22, x23, x24, x25, x26, x27, x28, x29, x30, x31] := by
  match nm, h with
  | [x0, x1, x2, x3, x4, x5, x6, x7, x8, x9, x10, x11, x12, x13, x14, x15, x16, x17, x18, x19, x20, x21, x22, x23, x24, x25, x26, x27, x28, x29, x30, x31], _ => exact ⟨_, _, _, _, _, _, _, _, _, _, _, _, _, _, _, _, _, _, _, _, _, _, _, _, _, _, _, _, _, _, _, _, rfl⟩
theorem built48b (nm : List Int) (p q r : Int) (h : nm.length = 32) : Tryz.prog.built 155 [(0, .agg (b8 nm).toArray), (1, .agg #[.int .i64 p, .int .i64 q, .int .i64 r])] = some (entC (nm, p, q, r)).toArray := by
  obtain ⟨x0, x1, x2, x3, x4, x5, x6, x7, x8, x9, x10, x11, x12, x13, x14, x15, x16, x17, x18, x19, x20, x21, x22, x23, x24, x25, x26, x27, x28, x29, x30, x31, rfl⟩ := x32 h
  kernel_rfl
theorem run_oneE (nm : List Int) (p q r : Int) (h : nm.length = 32) (w : World) : (Instr.buildSlice 81 1 #[(0, .agg (entC (nm, p, q, r)).toArray)]).run Tryz.prog w = .ok (.slice (some ⟨w.heap.size, 0, none⟩) 1 1) (w.alloc (.cells (entC (nm, p, q, r)).toArray 155)) := by
  obtain ⟨x0, x1, x2, x3, x4, x5, x6, x7, x8, x9, x10, x11, x12, x13, x14, x15, x16, x17, x18, x19, x20, x21, x22, x23, x24, x25, x26, x27, x28, x29, x30, x31, rfl⟩ := x32 h
  kernel_rfl
theorem yields_two {P : Program} {ops : Array Oper} {S : World → Prop} {o : Oper} {a : Act} (hw : Region.wanted o (yielded ops a.tmps) = true) (t : TypeId) (i j : Nat) (x y : Operand) (ho : o.op = .build t #[(i, x), (j, y)])
    (vx vy : Value) (hx : a.eval x = vx) (hy : a.eval y = vy) (C : Array Value) (hb : P.built t [(i, vx), (j, vy)] = some C) : YieldsIf P ops S o (.agg C) a :=
  .inl ⟨hw, fun w _ => by
    have e : P.built t ((#[(i, x), (j, y)] : Array (Nat × Operand)).map fun (i, x) => (i, a.eval x)).toList = some C := by
      rw [← hb]
      simp only [List.map_toArray, List.map_cons, List.map_nil, hx, hy]
    unfold execOp
    simp only [ho, Sem.run_bind, run_build w t _ C e, Result.andThen_ok]
    rfl⟩
theorem exec_sliceE {P : Program} {o : Oper} {a : Act} {w w' : World} (t : TypeId) (x : Operand) (ho : o.op = .buildSlice t 1 #[(0, x)]) (v u : Value) (hx : a.eval x = v) (hr : (Instr.buildSlice t 1 #[(0, v)]).run P w = .ok u w') : (execOp a.eval o).run P w = .ok (.value u) w' := by
  unfold execOp
  simp [ho, hx, hr, Result.andThen]
theorem exec_appE {P : Program} {o : Oper} {a : Act} {w w' : World} (s x : Operand) (t : TypeId) (ho : o.op = .call { callee := .builtin .append, args := #[s, x], argTypes := #[t, t] }) (vs vx v : Value) (hs : a.eval s = vs) (hx : a.eval x = vx)
    (hr : (Builtin.append_ #[t, t] o.type #[vs, vx]).run P w = .ok v w') : (execOp a.eval o).run P w = .ok (.value v) w' := by
  unfold execOp
  simp [ho, resolve, invoke, builtin, hs, hx, hr, Result.andThen]
theorem wp_valE {P : Program} {o : Oper} {a : Act} {K : Act → World → Prop} {Q : Exit → Act → World → Prop} {w w' : World} {v : Value} (hr : (execOp a.eval o).run P w = .ok (.value v) w') (h : K (a.put o.dst v) w') : Oper.wp P o a w K Q := by
  unfold Oper.wp
  rw [hr]
  exact h
/-- append of a row of the call's own, with its world. -/
theorem app_run (w : World) (ty : TypeId) (v vx : Value) (n m : Nat) (xs ys : List Value) (hown : Sim.Row w 155 35 v n xs) (hy : Sim.Src w vx m 35 ys) (hm : 0 < m) (hlen : n + m ≤ 2000000) :
    ∃ ad cap w', (Builtin.append_ #[81, 81] ty #[v, vx]).run Tryz.prog w = .ok (.slice ad (n + m) cap) w' ∧ Sim.Row w' 155 35 (.slice ad (n + m) cap) (n + m) (xs ++ ys) ∧ w.grownBy w' v.ownBlock ∧ ((Value.slice ad (n + m) cap).ownBlock = v.ownBlock ∨ (Value.slice ad (n + m) cap).ownBlock = some w.heap.size) := by
  obtain ⟨i0, hi, hz0, hz1', hz2⟩ := info_parts infoE
  rcases hy with ⟨rfl, rfl, rfl⟩ | ⟨ad, c, rfl, hl, hc, h1⟩
  · omega
  · obtain ⟨v', w', hr, h8, h9, _, h10⟩ := run_append_own_at (P := Tryz.prog) w 0 81 ty 155 i0 (.agg zE.toArray) 35 56 Tryz.underlying81 hi hz0 hz1' hz2 rfl (by omega) v n xs hown ad m c ys hl hc h1 (by unfold maxLen; omega) (by omega) (Nat.zero_le _)
    have h8' : Sim.Row w' 155 35 v' (n + m) (xs ++ ys) := h8
    obtain ⟨ad', cap', rfl, _⟩ := h8'.shape
    exact ⟨ad', cap', w', hr, h8, h9, h10⟩

set_option maxHeartbeats 4000000 in
set_option maxRecDepth 100000 in
theorem own_any (w : World) (v : Value) (d : List Ent) (P : Nat → Prop) (hv : EV P w v d) (hl : d.length ≤ 1000000) :
    Calls Tryz.prog 35 #[v] w fun e w' => ∃ r, e = .returned r ∧ Mine w w' r d := by
  obtain ⟨a, c, rfl, h2, h3, h4, h5, h6⟩ := hv
  obtain ⟨n, hn⟩ : ∃ n, d.length = n := ⟨_, rfl⟩
  have HN := hid hn
  rw [hn] at hl ⊢
  have H6 := hid h6
  have HM0 : Hid (Mine w w (.slice none 0 0) (d.take 0)) := ⟨Sim.Row.nil _ _ _, by intro x hx; simp [Value.ownBlock] at hx, Kp.refl _ _⟩
  clear hn h2 h3 h4 h5 h6
  go_enter Tryz.func35, Tryz.ntmps35
  go_wp2_with fail
  go_loopw [3, 4] (fun v3 v4 wr => ∃ (k : Nat) (ad : Option Addr) (cap : Nat), v3 = .slice ad k cap ∧ v4 = .int .i64 (k : Int) ∧ k ≤ n ∧ Hid (Mine w wr (.slice ad k cap) (d.take k))) (fun _ v4 _ => n - (intOf v4).toNat)
  case atStart => exact ⟨0, none, 0, rfl, rfl, Nat.zero_le _, HM0.out⟩
  case round =>
    obtain ⟨k, ad, cap, rfl, rfl, hkn, HS⟩ := hrel
    by_cases hlt : k < n
    · have hltI : (k : Int) < (n : Int) := by omega
      have hwk : IntKind.i64.wrap ((k : Int) + 1) = ((k + 1 : Nat) : Int) := by rw [IntKind.wrap_i64]; omega
      obtain ⟨g, o, rfl, _, hr⟩ := H6.out (by intro e; have := HN.out; rw [e] at this; simp at this; omega)
      obtain ⟨e, he⟩ : ∃ e, d[k]? = some e := ⟨_, List.getElem?_eq_getElem (by rw [HN.out]; exact hlt)⟩
      obtain ⟨heo, _⟩ := hr.2 k e he
      obtain ⟨nm, p, q, r⟩ := e
      have hnm : nm.length = 32 := heo.1
      have hgO : (Value.slice ad k cap).ownBlock ≠ some g := fun e => by have := HS.out.2.1 g e; have := hr.1; omega
      have hgw : g < wr.heap.size := Nat.lt_of_lt_of_le hr.1 HS.out.2.2.size
      have hrow : ∀ V, Kp (fun x => (Value.slice ad k cap).ownBlock = some x) wr V → V.rangeAt g (o + k * 35) (entC (nm, p, q, r)) := fun V hV j u hu => (hV.cell (p := ⟨g, _, none⟩) hgw hgO).trans (((hr.kp HS.out.2.2 (fun x => x)).2 k _ he).2 j u hu)
      have HLX : Hid (∀ V, Kp (fun x => (Value.slice ad k cap).ownBlock = some x) wr V → V.rangeAt g (o + k * 35) (b8 nm)) := fun V hV => rng_name (hrow V hV)
      have HLP : Hid (∀ V, Kp (fun x => (Value.slice ad k cap).ownBlock = some x) wr V → V.cell? ⟨g, o + k * 35 + 32, none⟩ = some (.int .i64 p) ∧ V.cell? ⟨g, o + k * 35 + 32 + 1, none⟩ = some (.int .i64 q) ∧ V.cell? ⟨g, o + k * 35 + 32 + 2, none⟩ = some (.int .i64 r)) := fun V hV => by
        have h := rng_place heo (hrow V hV)
        exact ⟨h 0 _ rfl, h 1 _ rfl, h 2 _ rfl⟩
      have HI1 : Hid ((Tryz.prog.info? 53).map (·.size) = some (b8 nm).length) := by rw [Hid, b8_length, hnm]; exact infH
      have HB1 := hid (built48b nm p q r hnm)
      have HB2 := hid (fun W => run_oneE nm p q r hnm W)
      have hkl : (d.take k).length = k := by rw [List.length_take, HN.out]; omega
      have HNX : Hid (d.take (k + 1) = d.take k ++ [(nm, p, q, r)]) := by rw [Hid, List.take_add_one, he]; rfl
      obtain ⟨C, hC⟩ : ∃ C, entC (nm, p, q, r) = C := ⟨_, rfl⟩
      have hRA : Sim.Row (wr.drew.alloc (.cells C.toArray 155)) 155 35 (.slice ad k cap) k (ents (d.take k)) := by
        have := HS.out.1
        rw [hkl] at this
        exact this.kept (((Kp.refl No wr).drew).alloc _)
      have hSC : Sim.Src (wr.drew.alloc (.cells C.toArray 155)) (.slice (some ⟨wr.heap.size, 0, none⟩) 1 1) 1 35 C := Sim.Src.one wr.drew C 35 155 (by rw [← hC]; exact entC_length heo) (by rw [← hC]; exact entC_one _)
      obtain ⟨ad2, cap2, w2, hap, hrow2, hgr2, hown2⟩ := app_run _ 81 (.slice ad k cap) (.slice (some ⟨wr.heap.size, 0, none⟩) 1 1) k 1 _ _ hRA hSC (by omega) (by omega)
      have hgr : wr.grownBy w2 (Value.slice ad k cap).ownBlock → True := fun _ => trivial
      have HKA : Hid (Kp (fun x => (Value.slice ad k cap).ownBlock = some x) wr (wr.drew.alloc (.cells C.toArray 155))) := ((Kp.refl _ wr).drew).alloc _
      have HK2 : Hid (Kp (fun x => (Value.slice ad k cap).ownBlock = some x) wr w2) := HKA.out.grown hgr2 (fun x hx => .inl hx)
      have HF : Hid (Mine w w2 (.slice ad2 (k + 1) cap2) (d.take (k + 1))) := by
        rw [HNX.out]
        refine ⟨?_, fun x hx => ?_, HS.out.2.2.trans HK2.out (fun x hx => .inr (HS.out.2.1 x hx))⟩
        · rw [List.length_append, hkl, ents_append]
          have : ents [(nm, p, q, r)] = C := by simp [ents, hC]
          rw [this]
          exact hrow2
        · rcases hown2 with e | e
          · exact HS.out.2.1 x (by rw [← e]; exact hx)
          · rw [e] at hx
            cases hx
            exact Nat.le_trans HS.out.2.2.size HKA.out.size
      have HAP := hid hap
      rw [hC] at HB1 HB2
      clear hC hRA hSC hap hrow2 hgr2 hown2 hkl hrow hr he heo hgO hgw hgr HNX HS
      generalize b8 nm = bx at *
      go_wp2_with fail
      refine wp_region_held_drew (S := fun V => Kp (fun x => (Value.slice ad k cap).ownBlock = some x) wr V) (by kernel_rfl) ((Kp.refl _ _).drew) (fun hHeld => ?_)
      refine wpAnyH_take (i := 0) (oi := { dst := some 11, op := Op.move (Operand.tmp 3), type := 81, pos := "law.go:19", after := #[], guard := none }) (v := .slice ad k cap) rfl (by kernel_rfl) (by kernel_rfl) (by kernel_rfl) (fun _ _ _ h => h) (Or.inl ⟨by rfl, fun w' hw' => by (clear hw'; go_simp)⟩) hHeld ?_
      simp only [Act.put, List.setIfInBounds_toArray, List.set_cons_zero, List.set_cons_succ]
      refine wpAnyH_take (i := 1) (oi := { dst := some 12, op := Op.move (Operand.tmp 0), type := 77, pos := "law.go:19", after := #[], guard := none }) (v := .slice (some ⟨g, o, none⟩) n c) rfl (by kernel_rfl) (by kernel_rfl) (by kernel_rfl) (fun _ _ _ h => h) (Or.inl ⟨by rfl, fun w' hw' => by (clear hw'; go_simp)⟩) hHeld ?_
      simp only [Act.put, List.setIfInBounds_toArray, List.set_cons_zero, List.set_cons_succ]
      refine wpAnyH_take (i := 2) (oi := { dst := some 13, op := Op.move (Operand.tmp 4), type := 3, pos := "law.go:19", after := #[], guard := none }) (v := .int .i64 (k : Int)) rfl (by kernel_rfl) (by kernel_rfl) (by kernel_rfl) (fun _ _ _ h => h) (Or.inl ⟨by rfl, fun w' hw' => by (clear hw'; go_simp)⟩) hHeld ?_
      simp only [Act.put, List.setIfInBounds_toArray, List.set_cons_zero, List.set_cons_succ]
      refine wpAnyH_take (i := 3) (oi := { dst := some 14, op := Op.indexAddr 77 (Operand.tmp 12) (Operand.tmp 13), type := 0, pos := "law.go:19", after := #[{ on := 1, ground := Ground.data }, { on := 2, ground := Ground.data }], guard := none }) (v := .pointer (some ⟨g, o + k * 35, none⟩)) rfl (by kernel_rfl) (by kernel_rfl) (by kernel_rfl) (fun _ _ _ h => h) (Or.inl ⟨by rfl, fun w' hw' => by (clear hw'; go_simp)⟩) hHeld ?_
      simp only [Act.put, List.setIfInBounds_toArray, List.set_cons_zero, List.set_cons_succ]
      refine wpAnyH_take (i := 4) (oi := { dst := some 15, op := Op.fieldAddr 159 (Operand.tmp 14) 0, type := 0, pos := "law.go:19", after := #[{ on := 3, ground := Ground.data }], guard := none }) (v := .pointer (some ⟨g, o + k * 35, none⟩)) rfl (by kernel_rfl) (by kernel_rfl) (by kernel_rfl) (fun _ _ _ h => h) (Or.inl ⟨by rfl, fun w' hw' => by (clear hw'; go_simp)⟩) hHeld ?_
      simp only [Act.put, List.setIfInBounds_toArray, List.set_cons_zero, List.set_cons_succ]
      refine wpAnyH_take (i := 5) (oi := { dst := some 16, op := Op.load 53 (Operand.tmp 15), type := 53, pos := "law.go:19", after := #[{ on := 4, ground := Ground.data }], guard := none }) (v := .agg bx.toArray) rfl (by kernel_rfl) (by kernel_rfl) (by kernel_rfl) (fun _ _ _ h => h) (yieldsIf_load_mid (by rfl) _ _ rfl g (o + k * 35) rfl bx _ (HLX.out) Tryz.underlying53 rfl HI1.out) hHeld ?_
      simp only [Act.put, List.setIfInBounds_toArray, List.set_cons_zero, List.set_cons_succ]
      refine wpAnyH_take (i := 6) (oi := { dst := some 17, op := Op.move (Operand.tmp 0), type := 77, pos := "law.go:19", after := #[], guard := none }) (v := .slice (some ⟨g, o, none⟩) n c) rfl (by kernel_rfl) (by kernel_rfl) (by kernel_rfl) (fun _ _ _ h => h) (Or.inl ⟨by rfl, fun w' hw' => by (clear hw'; go_simp)⟩) hHeld ?_
      simp only [Act.put, List.setIfInBounds_toArray, List.set_cons_zero, List.set_cons_succ]
      refine wpAnyH_take (i := 7) (oi := { dst := some 18, op := Op.move (Operand.tmp 4), type := 3, pos := "law.go:19", after := #[], guard := none }) (v := .int .i64 (k : Int)) rfl (by kernel_rfl) (by kernel_rfl) (by kernel_rfl) (fun _ _ _ h => h) (Or.inl ⟨by rfl, fun w' hw' => by (clear hw'; go_simp)⟩) hHeld ?_
      simp only [Act.put, List.setIfInBounds_toArray, List.set_cons_zero, List.set_cons_succ]
      refine wpAnyH_take (i := 8) (oi := { dst := some 19, op := Op.indexAddr 77 (Operand.tmp 17) (Operand.tmp 18), type := 0, pos := "law.go:19", after := #[{ on := 6, ground := Ground.data }, { on := 7, ground := Ground.data }], guard := none }) (v := .pointer (some ⟨g, o + k * 35, none⟩)) rfl (by kernel_rfl) (by kernel_rfl) (by kernel_rfl) (fun _ _ _ h => h) (Or.inl ⟨by rfl, fun w' hw' => by (clear hw'; go_simp)⟩) hHeld ?_
      simp only [Act.put, List.setIfInBounds_toArray, List.set_cons_zero, List.set_cons_succ]
      refine wpAnyH_take (i := 9) (oi := { dst := some 20, op := Op.fieldAddr 159 (Operand.tmp 19) 1, type := 0, pos := "law.go:19", after := #[{ on := 8, ground := Ground.data }], guard := none }) (v := .pointer (some ⟨g, o + k * 35 + 32, none⟩)) rfl (by kernel_rfl) (by kernel_rfl) (by kernel_rfl) (fun _ _ _ h => h) (Or.inl ⟨by rfl, fun w' hw' => by (clear hw'; go_simp)⟩) hHeld ?_
      simp only [Act.put, List.setIfInBounds_toArray, List.set_cons_zero, List.set_cons_succ]
      refine wpAnyH_take (i := 10) (oi := { dst := some 21, op := Op.fieldAddr 157 (Operand.tmp 20) 0, type := 0, pos := "law.go:19", after := #[{ on := 9, ground := Ground.data }], guard := none }) (v := .pointer (some ⟨g, o + k * 35 + 32, none⟩)) rfl (by kernel_rfl) (by kernel_rfl) (by kernel_rfl) (fun _ _ _ h => h) (Or.inl ⟨by rfl, fun w' hw' => by (clear hw'; go_simp)⟩) hHeld ?_
      simp only [Act.put, List.setIfInBounds_toArray, List.set_cons_zero, List.set_cons_succ]
      refine wpAnyH_take (i := 11) (oi := { dst := some 22, op := Op.load 3 (Operand.tmp 21), type := 3, pos := "law.go:19", after := #[{ on := 10, ground := Ground.data }], guard := none }) (v := .int .i64 p) rfl (by kernel_rfl) (by kernel_rfl) (by kernel_rfl) (fun _ _ _ h => h) (Or.inl ⟨by rfl, fun w' hw' => by (have q := (HLP.out _ hw').1; clear hw'; go_simp)⟩) hHeld ?_
      simp only [Act.put, List.setIfInBounds_toArray, List.set_cons_zero, List.set_cons_succ]
      refine wpAnyH_take (i := 12) (oi := { dst := some 23, op := Op.move (Operand.tmp 0), type := 77, pos := "law.go:19", after := #[], guard := none }) (v := .slice (some ⟨g, o, none⟩) n c) rfl (by kernel_rfl) (by kernel_rfl) (by kernel_rfl) (fun _ _ _ h => h) (Or.inl ⟨by rfl, fun w' hw' => by (clear hw'; go_simp)⟩) hHeld ?_
      simp only [Act.put, List.setIfInBounds_toArray, List.set_cons_zero, List.set_cons_succ]
      refine wpAnyH_take (i := 13) (oi := { dst := some 24, op := Op.move (Operand.tmp 4), type := 3, pos := "law.go:19", after := #[], guard := none }) (v := .int .i64 (k : Int)) rfl (by kernel_rfl) (by kernel_rfl) (by kernel_rfl) (fun _ _ _ h => h) (Or.inl ⟨by rfl, fun w' hw' => by (clear hw'; go_simp)⟩) hHeld ?_
      simp only [Act.put, List.setIfInBounds_toArray, List.set_cons_zero, List.set_cons_succ]
      refine wpAnyH_take (i := 14) (oi := { dst := some 25, op := Op.indexAddr 77 (Operand.tmp 23) (Operand.tmp 24), type := 0, pos := "law.go:19", after := #[{ on := 12, ground := Ground.data }, { on := 13, ground := Ground.data }], guard := none }) (v := .pointer (some ⟨g, o + k * 35, none⟩)) rfl (by kernel_rfl) (by kernel_rfl) (by kernel_rfl) (fun _ _ _ h => h) (Or.inl ⟨by rfl, fun w' hw' => by (clear hw'; go_simp)⟩) hHeld ?_
      simp only [Act.put, List.setIfInBounds_toArray, List.set_cons_zero, List.set_cons_succ]
      refine wpAnyH_take (i := 15) (oi := { dst := some 26, op := Op.fieldAddr 159 (Operand.tmp 25) 1, type := 0, pos := "law.go:19", after := #[{ on := 14, ground := Ground.data }], guard := none }) (v := .pointer (some ⟨g, o + k * 35 + 32, none⟩)) rfl (by kernel_rfl) (by kernel_rfl) (by kernel_rfl) (fun _ _ _ h => h) (Or.inl ⟨by rfl, fun w' hw' => by (clear hw'; go_simp)⟩) hHeld ?_
      simp only [Act.put, List.setIfInBounds_toArray, List.set_cons_zero, List.set_cons_succ]
      refine wpAnyH_take (i := 16) (oi := { dst := some 27, op := Op.fieldAddr 157 (Operand.tmp 26) 1, type := 0, pos := "law.go:19", after := #[{ on := 15, ground := Ground.data }], guard := none }) (v := .pointer (some ⟨g, o + k * 35 + 32 + 1, none⟩)) rfl (by kernel_rfl) (by kernel_rfl) (by kernel_rfl) (fun _ _ _ h => h) (Or.inl ⟨by rfl, fun w' hw' => by (clear hw'; go_simp)⟩) hHeld ?_
      simp only [Act.put, List.setIfInBounds_toArray, List.set_cons_zero, List.set_cons_succ]
      refine wpAnyH_take (i := 17) (oi := { dst := some 28, op := Op.load 3 (Operand.tmp 27), type := 3, pos := "law.go:19", after := #[{ on := 16, ground := Ground.data }], guard := none }) (v := .int .i64 q) rfl (by kernel_rfl) (by kernel_rfl) (by kernel_rfl) (fun _ _ _ h => h) (Or.inl ⟨by rfl, fun w' hw' => by (have q := (HLP.out _ hw').2.1; clear hw'; go_simp)⟩) hHeld ?_
      simp only [Act.put, List.setIfInBounds_toArray, List.set_cons_zero, List.set_cons_succ]
      refine wpAnyH_take (i := 18) (oi := { dst := some 29, op := Op.move (Operand.tmp 0), type := 77, pos := "law.go:19", after := #[], guard := none }) (v := .slice (some ⟨g, o, none⟩) n c) rfl (by kernel_rfl) (by kernel_rfl) (by kernel_rfl) (fun _ _ _ h => h) (Or.inl ⟨by rfl, fun w' hw' => by (clear hw'; go_simp)⟩) hHeld ?_
      simp only [Act.put, List.setIfInBounds_toArray, List.set_cons_zero, List.set_cons_succ]
      refine wpAnyH_take (i := 19) (oi := { dst := some 30, op := Op.move (Operand.tmp 4), type := 3, pos := "law.go:19", after := #[], guard := none }) (v := .int .i64 (k : Int)) rfl (by kernel_rfl) (by kernel_rfl) (by kernel_rfl) (fun _ _ _ h => h) (Or.inl ⟨by rfl, fun w' hw' => by (clear hw'; go_simp)⟩) hHeld ?_
      simp only [Act.put, List.setIfInBounds_toArray, List.set_cons_zero, List.set_cons_succ]
      refine wpAnyH_take (i := 20) (oi := { dst := some 31, op := Op.indexAddr 77 (Operand.tmp 29) (Operand.tmp 30), type := 0, pos := "law.go:19", after := #[{ on := 18, ground := Ground.data }, { on := 19, ground := Ground.data }], guard := none }) (v := .pointer (some ⟨g, o + k * 35, none⟩)) rfl (by kernel_rfl) (by kernel_rfl) (by kernel_rfl) (fun _ _ _ h => h) (Or.inl ⟨by rfl, fun w' hw' => by (clear hw'; go_simp)⟩) hHeld ?_
      simp only [Act.put, List.setIfInBounds_toArray, List.set_cons_zero, List.set_cons_succ]
      refine wpAnyH_take (i := 21) (oi := { dst := some 32, op := Op.fieldAddr 159 (Operand.tmp 31) 1, type := 0, pos := "law.go:19", after := #[{ on := 20, ground := Ground.data }], guard := none }) (v := .pointer (some ⟨g, o + k * 35 + 32, none⟩)) rfl (by kernel_rfl) (by kernel_rfl) (by kernel_rfl) (fun _ _ _ h => h) (Or.inl ⟨by rfl, fun w' hw' => by (clear hw'; go_simp)⟩) hHeld ?_
      simp only [Act.put, List.setIfInBounds_toArray, List.set_cons_zero, List.set_cons_succ]
      refine wpAnyH_take (i := 22) (oi := { dst := some 33, op := Op.fieldAddr 157 (Operand.tmp 32) 2, type := 0, pos := "law.go:19", after := #[{ on := 21, ground := Ground.data }], guard := none }) (v := .pointer (some ⟨g, o + k * 35 + 32 + 2, none⟩)) rfl (by kernel_rfl) (by kernel_rfl) (by kernel_rfl) (fun _ _ _ h => h) (Or.inl ⟨by rfl, fun w' hw' => by (clear hw'; go_simp)⟩) hHeld ?_
      simp only [Act.put, List.setIfInBounds_toArray, List.set_cons_zero, List.set_cons_succ]
      refine wpAnyH_take (i := 23) (oi := { dst := some 34, op := Op.load 3 (Operand.tmp 33), type := 3, pos := "law.go:19", after := #[{ on := 22, ground := Ground.data }], guard := none }) (v := .int .i64 r) rfl (by kernel_rfl) (by kernel_rfl) (by kernel_rfl) (fun _ _ _ h => h) (Or.inl ⟨by rfl, fun w' hw' => by (have q := (HLP.out _ hw').2.2; clear hw'; go_simp)⟩) hHeld ?_
      simp only [Act.put, List.setIfInBounds_toArray, List.set_cons_zero, List.set_cons_succ]
      refine wpAnyH_take (i := 24) (oi := { dst := some 35, op := Op.build 51 #[(0, Operand.tmp 22), (1, Operand.tmp 28), (2, Operand.tmp 34)], type := 51, pos := "law.go:19", after := #[{ on := 11, ground := Ground.data }, { on := 17, ground := Ground.data }, { on := 23, ground := Ground.data }], guard := none }) (v := .agg #[.int .i64 p, .int .i64 q, .int .i64 r]) rfl (by kernel_rfl) (by kernel_rfl) (by kernel_rfl) (fun _ _ _ h => h) (Or.inl ⟨by rfl, fun w' hw' => by (clear hw'; go_simp)⟩) hHeld ?_
      simp only [Act.put, List.setIfInBounds_toArray, List.set_cons_zero, List.set_cons_succ]
      refine wpAnyH_take (i := 25) (oi := { dst := some 36, op := Op.build 155 #[(0, Operand.tmp 16), (1, Operand.tmp 35)], type := 155, pos := "law.go:19", after := #[{ on := 5, ground := Ground.data }, { on := 24, ground := Ground.data }], guard := none }) (v := .agg C.toArray) rfl (by kernel_rfl) (by kernel_rfl) (by kernel_rfl) (fun _ _ _ h => h) (yields_two (by rfl) 155 0 1 (.tmp 16) (.tmp 35) rfl (.agg bx.toArray) (.agg #[.int .i64 p, .int .i64 q, .int .i64 r]) rfl rfl _ HB1.out) hHeld ?_
      simp only [Act.put, List.setIfInBounds_toArray, List.set_cons_zero, List.set_cons_succ]
      refine wpAnyH_ready (rs := [26]) (by kernel_rfl) (by simp) ?_
      refine AllReadyH.cons (o := { dst := some 37, op := Op.buildSlice 81 1 #[(0, Operand.tmp 36)], type := 81, pos := "law.go:19", after := #[{ on := 25, ground := Ground.data }], guard := none }) rfl (fun K hK => ?_) AllReadyH.nil
      rw [if_pos (by rfl)]
      refine wp_valE (exec_sliceE 81 _ rfl (.agg C.toArray) _ rfl (HB2.out _)) ?_
      refine hK.out _ _ HKA.out (fun hh => ?_)
      clear hK K hHeld
      have hHeld := hh
      clear hh
      try simp only [Act.put, List.setIfInBounds_toArray, List.set_cons_zero, List.set_cons_succ]
      refine wpAnyH_ready (rs := [27]) (by kernel_rfl) (by simp) ?_
      refine AllReadyH.cons (o := { dst := some 38, op := Op.call { callee := Callee.builtin Builtin.append, args := #[Operand.tmp 11, Operand.tmp 37], argTypes := #[81, 81] }, type := 81, pos := "law.go:19", after := #[{ on := 0, ground := Ground.data }, { on := 26, ground := Ground.data }], guard := none }) rfl (fun K hK => ?_) AllReadyH.nil
      rw [if_pos (by rfl)]
      refine wp_valE (exec_appE _ _ 81 rfl (.slice ad k cap) (.slice (some ⟨wr.heap.size, 0, none⟩) 1 1) _ rfl rfl HAP.out) ?_
      refine hK.out _ _ HK2.out (fun hh => ?_)
      clear hK K hHeld
      have hHeld := hh
      clear hh
      try simp only [Act.put, List.setIfInBounds_toArray, List.set_cons_zero, List.set_cons_succ]
      refine wpAnyH_take (i := 28) (oi := { dst := some 3, op := Op.assign (Operand.tmp 38), type := 81, pos := "law.go:19", after := #[{ on := 27, ground := Ground.data }, { on := 27, ground := Ground.chain }, { on := 0, ground := Ground.phase }, { on := 1, ground := Ground.phase }, { on := 2, ground := Ground.phase }, { on := 3, ground := Ground.phase }, { on := 4, ground := Ground.phase }, { on := 5, ground := Ground.phase }, { on := 6, ground := Ground.phase }, { on := 7, ground := Ground.phase }, { on := 8, ground := Ground.phase }, { on := 9, ground := Ground.phase }, { on := 10, ground := Ground.phase }, { on := 11, ground := Ground.phase }, { on := 12, ground := Ground.phase }, { on := 13, ground := Ground.phase }, { on := 14, ground := Ground.phase }, { on := 15, ground := Ground.phase }, { on := 16, ground := Ground.phase }, { on := 17, ground := Ground.phase }, { on := 18, ground := Ground.phase }, { on := 19, ground := Ground.phase }, { on := 20, ground := Ground.phase }, { on := 21, ground := Ground.phase }, { on := 22, ground := Ground.phase }, { on := 23, ground := Ground.phase }, { on := 24, ground := Ground.phase }, { on := 25, ground := Ground.phase }, { on := 26, ground := Ground.phase }, { on := 27, ground := Ground.phase }], guard := none }) (v := .slice ad2 (k + 1) cap2) rfl (by kernel_rfl) (by kernel_rfl) (by kernel_rfl) (fun _ _ _ h => h) (Or.inl ⟨by rfl, fun w' hw' => by (clear hw'; go_simp)⟩) hHeld ?_
      simp only [Act.put, List.setIfInBounds_toArray, List.set_cons_zero, List.set_cons_succ]
      refine wpAnyH_done (by kernel_rfl) ?_ _
      clear hHeld
      go_wp2_with fail
      go_round
      case rel => exact ⟨k + 1, ad2, cap2, rfl, by first | rfl | go_num, by omega, HF.out⟩
      case measure => simp [intOf]; omega
    · have hltI : ¬ (k : Int) < (n : Int) := by omega
      have hkn' : k = n := by omega
      have HF : Hid (Mine w wr (.slice ad k cap) d) := by
        have := HS.out
        rw [hkn', ← HN.out, List.take_length] at this
        rw [Hid, hkn', ← HN.out]
        exact this
      clear hkn'
      go_wp2_with fail
      go_ret
      exact ⟨_, rfl, HF.out⟩
end Go.Proofs.YthmimipoooemjaaGreatDoor.Sg
end

section
/-
  The value of entries in tlv's words.
-/
namespace Go.Proofs.YthmimipoooemjaaGreatDoor.Sg
open Go.RowKit
open Tlv (Tr Agree)
open Sim (hid Kp No)

theorem run_oneV (t n : Int) (sb sk : Value) (w : World) : (Instr.buildSlice 201 1 #[(0, .agg #[.int .i64 t, .int .u64 n, sb, sk])]).run Tryz.prog w = .ok (.slice (some ⟨w.heap.size, 0, none⟩) 1 1) (w.alloc (.cells #[.int .i64 t, .int .u64 n, sb, sk] 203)) := by kernel_rfl
theorem plB_bd {e : Ent} (h : plB e = true) : (0 ≤ e.2.1 ∧ e.2.1 ≤ 1000000) ∧ (0 ≤ e.2.2.1 ∧ e.2.2.1 ≤ 1000000) ∧ (0 ≤ e.2.2.2 ∧ e.2.2.2 ≤ 1000000) := by
  simp [plB] at h
  omega

set_option maxHeartbeats 4000000 in
set_option maxRecDepth 100000 in
theorem value_any (w : World) (v : Value) (d : List Ent) (P : Nat → Prop) (hv : EV P w v d) (hp : ∀ e ∈ d, plB e = true) (hl : d.length ≤ 1000000) :
    Calls Tryz.prog 114 #[v] w fun e w' => ∃ a3 l3 p3 a4 l4 p4, e = .returned (.agg #[.int .i64 3, .int .u64 0, .slice a3 l3 p3, .slice a4 l4 p4]) ∧ Tlv.Rep w.heap.size w'.heap.size w' 3 (entsT d) (.slice a3 l3 p3) (.slice a4 l4 p4) ∧ Below w.heap.size w w' := by
  obtain ⟨a, c, rfl, h2, h3, h4, h5, h6⟩ := hv
  obtain ⟨n, hn⟩ : ∃ n, d.length = n := ⟨_, rfl⟩
  have HN := hid hn
  have HP := hid hp
  rw [hn] at hl h2 ⊢
  have H6 := hid h6
  have HM := hid many_none
  clear hn h2 h3 h4 h5 h6 hp
  go_enter Tryz.func114, Tryz.ntmps114
  go_wp2_with fail
  refine (HM.out _).mono ?_
  rintro e w1 ⟨rfl, hb1⟩
  have HB1 := hid hb1
  have HW : Hid (Below w.heap.size w w1) := ((Below.refl _ _).alloc (Nat.le_refl _) _).trans (hb1.mono (by simp))
  have hzw : w.heap.size < w1.heap.size := by have := hb1.size; simp at this; omega
  clear hb1 HM
  go_wp2_with fail
  go_loopw [9] (fun i wr => ∃ (k : Nat) (av : Option Addr) (cv : Nat), i = .int .i64 (k : Int) ∧ k ≤ n ∧ Hid (VI w1 d k (.slice av k cv) wr)) (fun i _ => n - (intOf i).toNat)
  case atStart => exact ⟨0, none, 0, rfl, Nat.zero_le _, VI.start w1 d⟩
  case round =>
    obtain ⟨k, av, cv, rfl, hkn, HS⟩ := hrel
    have hKw : Kp No w wr := Kp.below (HW.out.trans (HS.out.2.2.2.2.2.2.2.mono (by omega)))
    by_cases hlt : k < n
    · have hltI : (k : Int) < (n : Int) := by omega
      have hwk : IntKind.i64.wrap ((k : Int) + 1) = ((k + 1 : Nat) : Int) := by rw [IntKind.wrap_i64]; omega
      obtain ⟨e, he⟩ : ∃ e, d[k]? = some e := ⟨_, List.getElem?_eq_getElem (by rw [HN.out]; exact hlt)⟩
      have HE := hid he
      obtain ⟨g, o, rfl, _, hr⟩ := H6.out (by intro e; have := HN.out; rw [e] at this; simp at this; omega)
      have hrow := hr.kp hKw (fun x => x)
      have HX := hid (hrow.2 k e he)
      have HI := hid (inf HX.out.1)
      have HVAL : Hid (∀ V, Calls Tryz.prog 162 #[.agg (entC e).toArray] V fun e' w' => ∃ a3 l3 p3 a4 l4 p4, e' = .returned (.agg #[.int .i64 3, .int .u64 0, .slice a3 l3 p3, .slice a4 l4 p4]) ∧ Tlv.Rep V.heap.size w'.heap.size w' 2 (entT e) (.slice a3 l3 p3) (.slice a4 l4 p4) ∧ Below V.heap.size V w') := fun V => by
        obtain ⟨q0, q1, q2⟩ := plB_bd (HP.out e (List.mem_of_getElem? he))
        obtain ⟨nm, p, q, r⟩ := e
        exact entval_any nm p q r V HX.out.1 q0 q1 q2
      obtain ⟨cx, hcx⟩ : ∃ cx, entC e = cx := ⟨_, rfl⟩
      have HRX : Hid (wr.rangeAt g (o + k * 35) cx) := by rw [← hcx]; exact HX.out.2
      rw [hcx] at HI HVAL
      have hcl : cx.length = 35 := by rw [← hcx]; exact entC_length HX.out.1
      have HO1 : Hid (cx.toArray.all (·.oneCell') = true) := by rw [← hcx]; exact all_oneCell_toArray (entC_one e)
      have HC0 : Hid (∃ v0, cx[0]? = some v0) := ⟨_, List.getElem?_eq_getElem (by omega)⟩
      clear hcx hr hrow he hKw
      go_wp2_with (first
        | (refine wpList_load_mid (by rfl) 155 _ (by rfl) g (o + k * 35) (by rfl) cx _ HRX.out Tryz.underlying155 rfl HI.out ?_)
        | (refine wpList_store_box (fun W => ∀ V, Kp No W V → V.rangeAt wr.heap.size 0 cx ∧ Kp No wr V) (by rfl) 155 _ _ (by rfl) wr.heap.size 0 cx.toArray (by rfl) (by rfl) (thereE wr _ _ _ (by rw [List.size_toArray, hcl]; exact Nat.le_refl _)) HI.out HO1.out (boxE wr _ cx rfl hcl) ?_; intro W1 hW1; have HW1 := hid hW1; clear hW1))
      have HKW := hid (HW1.out W1 (Kp.refl _ _)).2
      have hbx : wr.heap.size < W1.heap.size := by
        obtain ⟨v0, hv0⟩ := HC0.out
        exact World.block_lt_of_cell? _ _ ((HW1.out W1 (Kp.refl _ _)).1 0 v0 hv0)
      have HLX : Hid (∀ V, Kp (fun x => x = w1.heap.size ∨ (Value.slice av k cv).ownBlock = some x) W1 V → V.rangeAt wr.heap.size 0 cx) := fun V hV j u hu => by
        refine (hV.cell (p := ⟨wr.heap.size, _, none⟩) hbx (fun hx => ?_)).trans ((HW1.out W1 (Kp.refl _ _)).1 j u hu)
        rcases hx with hx | hx
        · have h1 := HS.out.2.2.2.2.2.1
          have h2 : wr.heap.size = w1.heap.size := hx
          omega
        · have h1 := (HS.out.2.2.2.2.2.2.1.lt wr.heap.size hx).2
          omega
      have c3 : ∀ V, Kp No W1 V → V.cell? ⟨w1.heap.size, 3, none⟩ = some (.slice av k cv) := fun V hV => ((HW1.out V hV).2.cell (p := ⟨w1.heap.size, 3, none⟩) HS.out.2.2.2.2.2.1 (fun x => x)).trans HS.out.2.2.2.1
      clear hcl hbx
      refine wp_region_held_drew (S := fun V => Kp (fun x => x = w1.heap.size ∨ (Value.slice av k cv).ownBlock = some x) W1 V) (by kernel_rfl) ((Kp.refl _ _).drew) (fun hHeld => ?_)
      refine wpAnyH_take (i := 0) (oi := { dst := some 13, op := Op.fieldAddr 203 (Operand.tmp 3) 3, type := 0, pos := "sealed.go:53", after := #[], guard := none }) (v := .pointer (some ⟨w1.heap.size, 3, none⟩)) rfl (by kernel_rfl) (by kernel_rfl) (by kernel_rfl) (fun _ _ _ h => h) (Or.inl ⟨by rfl, fun w' hw' => by (clear hw'; go_simp)⟩) hHeld ?_
      simp only [Act.put, List.setIfInBounds_toArray, List.set_cons_zero, List.set_cons_succ]
      refine wpAnyH_take (i := 2) (oi := { dst := some 15, op := Op.load 155 (Operand.tmp 5), type := 155, pos := "sealed.go:53", after := #[], guard := none }) (v := .agg cx.toArray) rfl (by kernel_rfl) (by kernel_rfl) (by kernel_rfl) (fun _ _ _ h => h) (yieldsIf_load_mid (by rfl) _ _ rfl wr.heap.size 0 rfl cx _ (HLX.out) Tryz.underlying155 rfl HI.out) hHeld ?_
      simp only [Act.put, List.setIfInBounds_toArray, List.set_cons_zero, List.set_cons_succ]
      refine wpAnyH_ready (rs := [1, 3]) (by kernel_rfl) (by simp) ?_
      refine (AllReadyH.cons (o := { dst := some 14, op := Op.load 201 (Operand.tmp 13), type := 201, pos := "sealed.go:53", after := #[{ on := 0, ground := Ground.data }], guard := none }) rfl (fun K hK => ?_) (AllReadyH.cons (o := { dst := some 16, op := Op.call { callee := Callee.value (Operand.func 162), args := #[Operand.tmp 15], argTypes := #[155] }, type := 203, pos := "sealed.go:53", after := #[{ on := 2, ground := Ground.data }], guard := none }) rfl (fun K hK => ?_) AllReadyH.nil))
      · have q3 := c3 (W1.drew) ((Kp.refl No W1).drew)
        go_simp
        refine hK.out _ _ ((((Kp.refl No W1).drew).ofNo)) (fun hh => ?_)
        clear hK K hHeld
        have hHeld := hh
        clear hh
        try simp only [Act.put, List.setIfInBounds_toArray, List.set_cons_zero, List.set_cons_succ]
        refine wpAnyH_ready (rs := [3]) (by kernel_rfl) (by simp) ?_
        refine (AllReadyH.cons (o := { dst := some 16, op := Op.call { callee := Callee.value (Operand.func 162), args := #[Operand.tmp 15], argTypes := #[155] }, type := 203, pos := "sealed.go:53", after := #[{ on := 2, ground := Ground.data }], guard := none }) rfl (fun K hK => ?_) AllReadyH.nil)
        go_simp
        refine (HVAL.out _).mono ?_
        rintro e' w2 ⟨a3, l3, p3, a4, l4, p4, rfl, hr2, hb2⟩
        have hb2' : Below W1.heap.size W1 w2 := (Below.refl _ _).drew.trans hb2
        obtain ⟨g', cap, w4, hap, k3, kf, ks, hvi, hkp⟩ := HS.out.step HKW.out hb2' hr2 HE.out (by omega) 201
        have HK2 : Hid (Kp No W1 w2) := Kp.below hb2'
        have HAP := hid hap
        have HVI := hid hvi
        have HKP := hid hkp
        clear hap hvi hkp hr2 hb2 hb2'
        go_wp2_with fail
        refine hK.out _ _ (HK2.out.ofNo) (fun hh => ?_)
        clear hK K hHeld
        have hHeld := hh
        clear hh
        try simp only [Act.put, List.setIfInBounds_toArray, List.set_cons_zero, List.set_cons_succ]
        refine wpAnyH_ready (rs := [4]) (by kernel_rfl) (by simp) ?_
        refine (AllReadyH.cons (o := { dst := some 17, op := Op.buildSlice 201 1 #[(0, Operand.tmp 16)], type := 201, pos := "sealed.go:53", after := #[{ on := 3, ground := Ground.data }], guard := none }) rfl (fun K hK => ?_) AllReadyH.nil)
        rw [if_pos (by rfl)]
        refine wp_valE (exec_sliceE 201 _ rfl (.agg #[.int .i64 3, .int .u64 0, .slice a3 l3 p3, .slice a4 l4 p4]) _ rfl (run_oneV _ _ _ _ _)) ?_
        refine hK.out _ _ ((HK2.out.alloc _).ofNo) (fun hh => ?_)
        clear hK K hHeld
        have hHeld := hh
        clear hh
        try simp only [Act.put, List.setIfInBounds_toArray, List.set_cons_zero, List.set_cons_succ]
        refine wpAnyH_ready (rs := [5]) (by kernel_rfl) (by simp) ?_
        refine (AllReadyH.cons (o := { dst := some 18, op := Op.call { callee := Callee.builtin Builtin.append, args := #[Operand.tmp 14, Operand.tmp 17], argTypes := #[201, 201] }, type := 201, pos := "sealed.go:53", after := #[{ on := 1, ground := Ground.data }, { on := 4, ground := Ground.data }, { on := 3, ground := Ground.chain }], guard := none }) rfl (fun K hK => ?_) AllReadyH.nil)
        rw [if_pos (by rfl)]
        refine wp_valE (exec_appE _ _ 201 rfl (.slice av k cv) (.slice (some ⟨w2.heap.size, 0, none⟩) 1 1) _ rfl rfl HAP.out) ?_
        refine hK.out _ _ (HKP.out) (fun hh => ?_)
        clear hK K hHeld
        have hHeld := hh
        clear hh
        try simp only [Act.put, List.setIfInBounds_toArray, List.set_cons_zero, List.set_cons_succ]
        refine wpAnyH_take (i := 6) (oi := { dst := some 19, op := Op.fieldAddr 203 (Operand.tmp 3) 3, type := 0, pos := "sealed.go:53", after := #[{ on := 0, ground := Ground.phase }, { on := 1, ground := Ground.phase }, { on := 2, ground := Ground.phase }, { on := 3, ground := Ground.phase }, { on := 4, ground := Ground.phase }, { on := 5, ground := Ground.phase }], guard := none }) (v := .pointer (some ⟨w1.heap.size, 3, none⟩)) rfl (by kernel_rfl) (by kernel_rfl) (by kernel_rfl) (fun _ _ _ h => h) (Or.inl ⟨by rfl, fun w' hw' => by (clear hw'; go_simp)⟩) hHeld ?_
        simp only [Act.put, List.setIfInBounds_toArray, List.set_cons_zero, List.set_cons_succ]
        refine wpAnyH_ready (rs := [7]) (by kernel_rfl) (by simp) ?_
        refine (AllReadyH.cons (o := { dst := none, op := Op.store 201 (Operand.tmp 19) (Operand.tmp 18), type := 0, pos := "sealed.go:53", after := #[{ on := 6, ground := Ground.data }, { on := 5, ground := Ground.data }, { on := 5, ground := Ground.chain }, { on := 0, ground := Ground.phase }, { on := 1, ground := Ground.phase }, { on := 2, ground := Ground.phase }, { on := 3, ground := Ground.phase }, { on := 4, ground := Ground.phase }, { on := 5, ground := Ground.phase }], guard := none }) rfl (fun K hK => ?_) AllReadyH.nil)
        go_simp
        refine hK.out _ _ ((HKP.out.setCell (p := ⟨w1.heap.size, 3, none⟩) (.inl (.inl rfl)) _)) (fun hh => ?_)
        clear hK K hHeld
        have hHeld := hh
        clear hh
        try simp only [Act.put, List.setIfInBounds_toArray, List.set_cons_zero, List.set_cons_succ]
        refine wpAnyH_done (by kernel_rfl) ?_ _
        clear hHeld
        go_wp2_with fail
        go_round
        case rel => exact ⟨k + 1, some ⟨g', 0, none⟩, cap, by first | rfl | go_num, by omega, HVI.out⟩
        case measure => simp [intOf]; omega
      · go_simp
        refine (HVAL.out _).mono ?_
        rintro e' w2 ⟨a3, l3, p3, a4, l4, p4, rfl, hr2, hb2⟩
        have hb2' : Below W1.heap.size W1 w2 := (Below.refl _ _).drew.trans hb2
        obtain ⟨g', cap, w4, hap, k3, kf, ks, hvi, hkp⟩ := HS.out.step HKW.out hb2' hr2 HE.out (by omega) 201
        have HK2 : Hid (Kp No W1 w2) := Kp.below hb2'
        have HAP := hid hap
        have HVI := hid hvi
        have HKP := hid hkp
        clear hap hvi hkp hr2 hb2 hb2'
        go_wp2_with fail
        refine hK.out _ _ (HK2.out.ofNo) (fun hh => ?_)
        clear hK K hHeld
        have hHeld := hh
        clear hh
        try simp only [Act.put, List.setIfInBounds_toArray, List.set_cons_zero, List.set_cons_succ]
        refine wpAnyH_ready (rs := [1, 4]) (by kernel_rfl) (by simp) ?_
        refine (AllReadyH.cons (o := { dst := some 14, op := Op.load 201 (Operand.tmp 13), type := 201, pos := "sealed.go:53", after := #[{ on := 0, ground := Ground.data }], guard := none }) rfl (fun K hK => ?_) (AllReadyH.cons (o := { dst := some 17, op := Op.buildSlice 201 1 #[(0, Operand.tmp 16)], type := 201, pos := "sealed.go:53", after := #[{ on := 3, ground := Ground.data }], guard := none }) rfl (fun K hK => ?_) AllReadyH.nil))
        · have q3 := c3 (w2) HK2.out
          go_simp
          refine hK.out _ _ ((HK2.out.ofNo)) (fun hh => ?_)
          clear hK K hHeld
          have hHeld := hh
          clear hh
          try simp only [Act.put, List.setIfInBounds_toArray, List.set_cons_zero, List.set_cons_succ]
          refine wpAnyH_ready (rs := [4]) (by kernel_rfl) (by simp) ?_
          refine (AllReadyH.cons (o := { dst := some 17, op := Op.buildSlice 201 1 #[(0, Operand.tmp 16)], type := 201, pos := "sealed.go:53", after := #[{ on := 3, ground := Ground.data }], guard := none }) rfl (fun K hK => ?_) AllReadyH.nil)
          rw [if_pos (by rfl)]
          refine wp_valE (exec_sliceE 201 _ rfl (.agg #[.int .i64 3, .int .u64 0, .slice a3 l3 p3, .slice a4 l4 p4]) _ rfl (run_oneV _ _ _ _ _)) ?_
          refine hK.out _ _ ((HK2.out.alloc _).ofNo) (fun hh => ?_)
          clear hK K hHeld
          have hHeld := hh
          clear hh
          try simp only [Act.put, List.setIfInBounds_toArray, List.set_cons_zero, List.set_cons_succ]
          refine wpAnyH_ready (rs := [5]) (by kernel_rfl) (by simp) ?_
          refine (AllReadyH.cons (o := { dst := some 18, op := Op.call { callee := Callee.builtin Builtin.append, args := #[Operand.tmp 14, Operand.tmp 17], argTypes := #[201, 201] }, type := 201, pos := "sealed.go:53", after := #[{ on := 1, ground := Ground.data }, { on := 4, ground := Ground.data }, { on := 3, ground := Ground.chain }], guard := none }) rfl (fun K hK => ?_) AllReadyH.nil)
          rw [if_pos (by rfl)]
          refine wp_valE (exec_appE _ _ 201 rfl (.slice av k cv) (.slice (some ⟨w2.heap.size, 0, none⟩) 1 1) _ rfl rfl HAP.out) ?_
          refine hK.out _ _ (HKP.out) (fun hh => ?_)
          clear hK K hHeld
          have hHeld := hh
          clear hh
          try simp only [Act.put, List.setIfInBounds_toArray, List.set_cons_zero, List.set_cons_succ]
          refine wpAnyH_take (i := 6) (oi := { dst := some 19, op := Op.fieldAddr 203 (Operand.tmp 3) 3, type := 0, pos := "sealed.go:53", after := #[{ on := 0, ground := Ground.phase }, { on := 1, ground := Ground.phase }, { on := 2, ground := Ground.phase }, { on := 3, ground := Ground.phase }, { on := 4, ground := Ground.phase }, { on := 5, ground := Ground.phase }], guard := none }) (v := .pointer (some ⟨w1.heap.size, 3, none⟩)) rfl (by kernel_rfl) (by kernel_rfl) (by kernel_rfl) (fun _ _ _ h => h) (Or.inl ⟨by rfl, fun w' hw' => by (clear hw'; go_simp)⟩) hHeld ?_
          simp only [Act.put, List.setIfInBounds_toArray, List.set_cons_zero, List.set_cons_succ]
          refine wpAnyH_ready (rs := [7]) (by kernel_rfl) (by simp) ?_
          refine (AllReadyH.cons (o := { dst := none, op := Op.store 201 (Operand.tmp 19) (Operand.tmp 18), type := 0, pos := "sealed.go:53", after := #[{ on := 6, ground := Ground.data }, { on := 5, ground := Ground.data }, { on := 5, ground := Ground.chain }, { on := 0, ground := Ground.phase }, { on := 1, ground := Ground.phase }, { on := 2, ground := Ground.phase }, { on := 3, ground := Ground.phase }, { on := 4, ground := Ground.phase }, { on := 5, ground := Ground.phase }], guard := none }) rfl (fun K hK => ?_) AllReadyH.nil)
          go_simp
          refine hK.out _ _ ((HKP.out.setCell (p := ⟨w1.heap.size, 3, none⟩) (.inl (.inl rfl)) _)) (fun hh => ?_)
          clear hK K hHeld
          have hHeld := hh
          clear hh
          try simp only [Act.put, List.setIfInBounds_toArray, List.set_cons_zero, List.set_cons_succ]
          refine wpAnyH_done (by kernel_rfl) ?_ _
          clear hHeld
          go_wp2_with fail
          go_round
          case rel => exact ⟨k + 1, some ⟨g', 0, none⟩, cap, by first | rfl | go_num, by omega, HVI.out⟩
          case measure => simp [intOf]; omega
        · rw [if_pos (by rfl)]
          refine wp_valE (exec_sliceE 201 _ rfl (.agg #[.int .i64 3, .int .u64 0, .slice a3 l3 p3, .slice a4 l4 p4]) _ rfl (run_oneV _ _ _ _ _)) ?_
          refine hK.out _ _ ((HK2.out.alloc _).ofNo) (fun hh => ?_)
          clear hK K hHeld
          have hHeld := hh
          clear hh
          try simp only [Act.put, List.setIfInBounds_toArray, List.set_cons_zero, List.set_cons_succ]
          refine wpAnyH_ready (rs := [1]) (by kernel_rfl) (by simp) ?_
          refine (AllReadyH.cons (o := { dst := some 14, op := Op.load 201 (Operand.tmp 13), type := 201, pos := "sealed.go:53", after := #[{ on := 0, ground := Ground.data }], guard := none }) rfl (fun K hK => ?_) AllReadyH.nil)
          have q3 := c3 (w2.alloc (.cells #[.int .i64 3, .int .u64 0, .slice a3 l3 p3, .slice a4 l4 p4] 203)) (HK2.out.alloc _)
          go_simp
          refine hK.out _ _ (((HK2.out.alloc _).ofNo)) (fun hh => ?_)
          clear hK K hHeld
          have hHeld := hh
          clear hh
          try simp only [Act.put, List.setIfInBounds_toArray, List.set_cons_zero, List.set_cons_succ]
          refine wpAnyH_ready (rs := [5]) (by kernel_rfl) (by simp) ?_
          refine (AllReadyH.cons (o := { dst := some 18, op := Op.call { callee := Callee.builtin Builtin.append, args := #[Operand.tmp 14, Operand.tmp 17], argTypes := #[201, 201] }, type := 201, pos := "sealed.go:53", after := #[{ on := 1, ground := Ground.data }, { on := 4, ground := Ground.data }, { on := 3, ground := Ground.chain }], guard := none }) rfl (fun K hK => ?_) AllReadyH.nil)
          rw [if_pos (by rfl)]
          refine wp_valE (exec_appE _ _ 201 rfl (.slice av k cv) (.slice (some ⟨w2.heap.size, 0, none⟩) 1 1) _ rfl rfl HAP.out) ?_
          refine hK.out _ _ (HKP.out) (fun hh => ?_)
          clear hK K hHeld
          have hHeld := hh
          clear hh
          try simp only [Act.put, List.setIfInBounds_toArray, List.set_cons_zero, List.set_cons_succ]
          refine wpAnyH_take (i := 6) (oi := { dst := some 19, op := Op.fieldAddr 203 (Operand.tmp 3) 3, type := 0, pos := "sealed.go:53", after := #[{ on := 0, ground := Ground.phase }, { on := 1, ground := Ground.phase }, { on := 2, ground := Ground.phase }, { on := 3, ground := Ground.phase }, { on := 4, ground := Ground.phase }, { on := 5, ground := Ground.phase }], guard := none }) (v := .pointer (some ⟨w1.heap.size, 3, none⟩)) rfl (by kernel_rfl) (by kernel_rfl) (by kernel_rfl) (fun _ _ _ h => h) (Or.inl ⟨by rfl, fun w' hw' => by (clear hw'; go_simp)⟩) hHeld ?_
          simp only [Act.put, List.setIfInBounds_toArray, List.set_cons_zero, List.set_cons_succ]
          refine wpAnyH_ready (rs := [7]) (by kernel_rfl) (by simp) ?_
          refine (AllReadyH.cons (o := { dst := none, op := Op.store 201 (Operand.tmp 19) (Operand.tmp 18), type := 0, pos := "sealed.go:53", after := #[{ on := 6, ground := Ground.data }, { on := 5, ground := Ground.data }, { on := 5, ground := Ground.chain }, { on := 0, ground := Ground.phase }, { on := 1, ground := Ground.phase }, { on := 2, ground := Ground.phase }, { on := 3, ground := Ground.phase }, { on := 4, ground := Ground.phase }, { on := 5, ground := Ground.phase }], guard := none }) rfl (fun K hK => ?_) AllReadyH.nil)
          go_simp
          refine hK.out _ _ ((HKP.out.setCell (p := ⟨w1.heap.size, 3, none⟩) (.inl (.inl rfl)) _)) (fun hh => ?_)
          clear hK K hHeld
          have hHeld := hh
          clear hh
          try simp only [Act.put, List.setIfInBounds_toArray, List.set_cons_zero, List.set_cons_succ]
          refine wpAnyH_done (by kernel_rfl) ?_ _
          clear hHeld
          go_wp2_with fail
          go_round
          case rel => exact ⟨k + 1, some ⟨g', 0, none⟩, cap, by first | rfl | go_num, by omega, HVI.out⟩
          case measure => simp [intOf]; omega
    · have hltI : ¬ (k : Int) < (n : Int) := by omega
      have hkn' : k = n := by omega
      have hS := HS.out
      obtain ⟨f0, f1, f2, f3, hf, hs, hc, hw⟩ := hS
      have hc' := hc.done (by rw [List.length_take, List.length_map, HN.out]; omega)
      rw [List.take_of_length_le (by rw [List.length_map, HN.out]; omega)] at hc'
      have HC := hid hc'
      have HBW := hid hw
      have xr : ∀ o, wr.cell? ⟨w.heap.size, o, none⟩ = (#[.int .i64 0, .int .u64 0, .slice none 0 0, .slice none 0 0] : Array Value)[o]? := fun o => by
        rw [hw.cell (p := ⟨w.heap.size, o, none⟩) (by simp; omega), HB1.out.cell (p := ⟨w.heap.size, o, none⟩) (by simp), World.cell?_alloc_at _ _ _ _ rfl]
      have xf : ∀ o, wr.frozen? ⟨w.heap.size, o, none⟩ = false := fun o => by
        rw [hw.frozen (p := ⟨w.heap.size, o, none⟩) (by simp; omega), HB1.out.frozen (p := ⟨w.heap.size, o, none⟩) (by simp), World.frozen?_alloc_at _ _ _ _ rfl]
      have r0 : wr.cell? ⟨w.heap.size, 0, none⟩ = some (.int .i64 0) := xr 0
      have r1 : wr.cell? ⟨w.heap.size, 1, none⟩ = some (.int .u64 0) := xr 1
      have r2 : wr.cell? ⟨w.heap.size, 2, none⟩ = some (.slice none 0 0) := xr 2
      have r3 : wr.cell? ⟨w.heap.size, 3, none⟩ = some (.slice none 0 0) := xr 3
      clear xr hc hc' hw hKw HS hkn'
      go_wp2_with fail
      obtain ⟨q0, q1, q2, q3⟩ := Tlv.set4_read (u0 := .int .i64 3) (u1 := .int .u64 0) (u2 := .slice none 0 0) (u3 := .slice av k cv) r0 r1 r2 r3
      refine bodyPost_ret (v := .agg #[.int .i64 3, .int .u64 0, .slice none 0 0, .slice av k cv]) (by simp [results, Tryz.results114, go_sem, q0, q1, q2, q3]) rfl ⟨_, _, _, _, _, _, rfl, ⟨by simp [entsT, Tr.mk, Tlv.Tr.hd], by simp [entsT, Tr.mk, Tlv.Tr.hd], Tlv.BySl.none _ _ _, ?_⟩, ?_⟩
      · have A4 := Agree.set4 (L := w1.heap.size + 1) (B := wr.heap.size) wr (b := w.heap.size) (o0 := 0) (o1 := 1) (o2 := 2) (o3 := 3) (.inl (by omega)) (.int .i64 3) (.int .u64 0) (.slice none 0 0) (.slice av k cv)
        exact HC.out.agree (L' := w.heap.size) (fun _ _ _ r => Tlv.Rep.agree (L' := w.heap.size) A4 (by omega) (by simp) r) A4 (by omega) (by simp)
      · exact (HW.out.trans (HBW.out.mono (by omega))).trans (Tlv.bset4 (Nat.le_refl _) _ _ _ _)
end Go.Proofs.YthmimipoooemjaaGreatDoor.Sg
end

section
/-
  The form of entries, and segment.Put.
-/
namespace Go.Proofs.YthmimipoooemjaaGreatDoor.Sg
open Go.RowKit
open Tlv (Tr Agree)
open Crc (Kept)
open Sim (hid Kp No)

theorem ent_bsz {e : Ent} (hn : e.1.length = 32) {room deep : Int} (hr : 68 ≤ room) (hd : 0 < deep) : (Tlv.bsz 2 (entT e) room deep).2 = true ∧ 0 ≤ (Tlv.bsz 2 (entT e) room deep).1 ∧ (Tlv.bsz 2 (entT e) room deep).1 ≤ 68 := by
  have b1 := Tlv.nsz_bd e.2.1
  have b2 := Tlv.nsz_bd e.2.2.1
  have b3 := Tlv.nsz_bd e.2.2.2
  rw [entT, Tlv.bsz_3 _ _ _ (by omega), Tlv.lsz_go hd]
  simp only [Tlv.lszGo]
  rw [Tlv.bsz_2 _ _ _ (by omega), hn, Tlv.bsz_1 _ _ _ (by simp; omega)]
  have d1 : decide (((32 : Nat) : Int) ≤ room - 0 - 3) = true := by simp; omega
  simp only [d1, if_true]
  have d2 : decide (Tlv.nsz e.2.1 ≤ room - (0 + (3 + ((32 : Nat) : Int))) - 3) = true := by simp; omega
  simp only [d2, if_true]
  rw [Tlv.bsz_1 _ _ _ (by simp; omega)]
  have d3 : decide (Tlv.nsz e.2.2.1 ≤ room - (0 + (3 + ((32 : Nat) : Int)) + (3 + Tlv.nsz e.2.1)) - 3) = true := by simp; omega
  simp only [d3, if_true]
  rw [Tlv.bsz_1 _ _ _ (by simp; omega)]
  have d4 : decide (Tlv.nsz e.2.2.2 ≤ room - (0 + (3 + ((32 : Nat) : Int)) + (3 + Tlv.nsz e.2.1) + (3 + Tlv.nsz e.2.2.1)) - 3) = true := by simp; omega
  simp only [d4, if_true]
  refine ⟨trivial, ?_, ?_⟩ <;> simp <;> omega

theorem ents_bsz : ∀ (d : List Ent), (∀ e ∈ d, e.1.length = 32) → ∀ (room acc : Int), 0 ≤ acc → acc + 71 * (d.length : Int) ≤ room → (Tlv.lszGo (Tlv.bsz 2) room 8 acc (d.map entT)).2 = true
  | [], _, _, _, _, _ => rfl
  | e :: d, h, room, acc, h0, h1 => by
    rw [List.map_cons, Tlv.lszGo]
    simp only [List.length_cons] at h1
    obtain ⟨b1, b2, b3⟩ := ent_bsz (h e (by simp)) (room := room - acc - 3) (deep := 8 - 1) (by omega) (by omega)
    rw [if_pos b1]
    exact ents_bsz d (fun x hx => h x (by simp [hx])) room _ (by omega) (by omega)

theorem entsT_right {d : List Ent} (h : ∀ e ∈ d, e.1.length = 32) (hl : d.length ≤ 900) : (Tlv.bsz 3 (entsT d) 65535 8).2 = true := by
  rw [entsT, Tlv.bsz_3 _ _ _ (by omega), Tlv.lsz_go (by omega)]
  exact ents_bsz d h _ _ (by omega) (by omega)

/-- The form of entries, and what it is sealed. -/
def formE (d : List Ent) : List Int := Tlv.formOf 3 (entsT d)
def sealE (d : List Ent) : List Int := sealI (formE d)

theorem szT_ents {d : List Ent} (h : ∀ e ∈ d, e.1.length = 32) (hl : d.length ≤ 900) : Tlv.szT 3 (entsT d) ≠ 0 := by
  have h1 := entsT_right h hl
  have h2 := Tlv.bsz_fits 3 _ _ _ h1
  rw [Tlv.szT, if_pos h1]
  omega
theorem formE_length {d : List Ent} (h : ∀ e ∈ d, e.1.length = 32) (hl : d.length ≤ 900) : (formE d).length ≤ 65538 := by
  have h1 := entsT_right h hl
  have h2 := Tlv.bsz_fits 3 _ _ _ h1
  have h3 := Tlv.bsz_len 3 _ _ _ h1
  have h4 : (formE d).length = 3 + (Tlv.bodyOf 3 (entsT d)).length := by rw [formE]; simp [Tlv.formOf]; omega
  omega

theorem RightP.places {d : List Ent} (h : RightP d) : ∀ e ∈ d, plB e = true := fun e he => by
  obtain ⟨i, hi⟩ := List.mem_iff_getElem?.1 he
  exact (h.2 i e (List.getElem?_eq_some_iff.1 hi).1 hi).1

set_option maxHeartbeats 1000000 in
set_option maxRecDepth 100000 in
theorem put_no (ad : Addr) (w : World) (v : Value) (d : List Ent) (P : Nat → Prop) (hv : EV P w v d) (hl : d.length ≤ 1000000) (hR : ¬ RightP d) :
    Calls Tryz.prog 74 #[.pointer (some ad), v] w fun e w' => e = .returned (.tuple #[.slice none 0 0, .int .i64 1]) ∧ Kp No w w' := by
  have HR := hid (right_any w v d P hv hl)
  have HN := hid hR
  obtain ⟨a, c, rfl, _⟩ := hv
  clear hR hl
  go_enter Tryz.func74, Tryz.ntmps74
  go_wp2_with fail
  refine HR.out.mono ?_
  rintro e w1 ⟨⟨b, rfl, hb⟩, hk⟩
  have hbf : b = false := by
    cases b with
    | false => rfl
    | true => exact absurd (hb.1 rfl) HN.out
  subst hbf
  have HK := hid hk
  clear hb hk
  go_wp2_with fail
  go_ret2
  exact ⟨rfl, HK.out⟩

set_option maxHeartbeats 2000000 in
set_option maxRecDepth 100000 in
theorem put_yes (b : Nat) (w : World) (v : Value) (d : List Ent) (P : Nat → Prop) (hT : TabX w b) (hv : EV P w v d) (hR : RightP d) :
    Calls Tryz.prog 74 #[.pointer (some ⟨b, 0, none⟩), v] w fun e w' => ∃ v', e = .returned (.tuple #[v', .int .i64 0]) ∧ Crc.Own w' w.heap.size v' (nats (sealE d)) ∧ Kept b w w' ∧ TabX w' b := by
  have hok := hv.ok
  have HOK : Hid (∀ e ∈ d, e.1.length = 32) := fun e he => (hok e he).1
  have HR := hid (right_any w v d P hv (by have := hR.1; omega))
  have HRR := hid hR
  have HV := hid hv
  have HT := hid hT
  have hbw := hT.lt
  obtain ⟨a, c, rfl, _⟩ := hv
  clear hR hT hok
  go_enter Tryz.func74, Tryz.ntmps74
  go_wp2_with fail
  refine HR.out.mono ?_
  rintro e w1 ⟨⟨bb, rfl, hb⟩, hk⟩
  have hbt : bb = true := hb.2 HRR.out
  subst hbt
  have HB1 : Hid (Below w.heap.size w w1) := ⟨hk.os, hk.tape, hk.output, hk.size, fun j hj => hk.block j hj (fun x => x)⟩
  have HV1 := hid (HV.out.kept hk)
  clear hb hk
  go_wp2_with fail
  refine (value_any w1 _ d P HV1.out HRR.out.places (by have := HRR.out.1; omega)).mono ?_
  rintro e w2 ⟨a3, l3, p3, a4, l4, p4, rfl, hr2, hb2⟩
  have HR2 := hid hr2
  have HB2 : Hid (Below w.heap.size w w2) := HB1.out.trans (hb2.mono HB1.out.size)
  clear hr2 hb2
  go_wp2_with fail
  refine (Tlv.Put_yes (entsT d) _ _ _ (HR2.out.agree (Agree.refl _ _ _) (Nat.zero_le _) (Nat.le_refl _)) (szT_ents HOK.out HRR.out.1)).mono ?_
  rintro e w3 ⟨vf, rfl, hf3, hb3⟩
  obtain ⟨af, cf, rfl, hrf⟩ := id hf3
  clear hrf
  have HF3 := hid hf3
  have HB3 : Hid (Below w.heap.size w w3) := HB2.out.trans (hb3.mono HB2.out.size)
  have hz2 : w.heap.size ≤ w2.heap.size := HB2.out.size
  clear hf3 hb3
  go_wp2_with fail
  obtain ⟨f, n, hf, ht⟩ := (HT.out.below HB3.out)
  have hcf : Crc.BySl b w3 (.slice af (Tlv.formOf 3 (entsT d)).length cf) (nats (formE d)) := toCrc HF3.out.toS (fun g hg => ⟨by omega, hg.2⟩)
  refine (Crc.seal_any b f n _ (nats (formE d)) _ hf ht hcf (by rw [nats_length]; have := formE_length HOK.out HRR.out.1; omega)).mono ?_
  rintro e w4 ⟨v', rfl, ho, hk4, ht4⟩
  have HO := hid ho
  have HK4 := hid hk4
  have HT4 := hid ht4
  clear ho hk4 ht4 ht hcf hf
  go_wp2_with fail
  go_ret2
  refine ⟨v', rfl, ?_, (Kept.below HB3.out).trans HK4.out, TabX.of HT4.out⟩
  rw [sealE, sealI_nats]
  exact HO.out.mono HB3.out.size
end Go.Proofs.YthmimipoooemjaaGreatDoor.Sg
end

section
/-
  Save: the list's bytes, and the six steps in their order.
-/
namespace Go.Proofs.YthmimipoooemjaaGreatDoor.Ix
open Go.RowKit Go.Shelf
open Sim (hid Kp No PS Done Blk nm ByP)

/-- In the midst of a save. -/
def SaveSt (P : Nat → Prop) (N : Nat) (w w1 wr : World) (s b c1 c2 : Nat) (vb : Value) (bs : List Nat) (q : PS) : Prop :=
  ∃ P', Sim.Sys P' N wr s q ∧ (∀ x, P' x → P x ∨ w1.heap.size ≤ x) ∧ Kp (fun x => P x ∨ x = b) w wr ∧ w1.heap.size ≤ wr.heap.size ∧ TabX wr b ∧
    wr.cell? ⟨c1, 0, none⟩ = some (.pointer (some ⟨s, 0, none⟩)) ∧ wr.cell? ⟨c2, 0, none⟩ = some vb ∧ ByP (fun x => w.heap.size ≤ x ∧ x < w1.heap.size) wr vb bs

structure Apart (P : Nat → Prop) (w w1 : World) (b c1 c2 : Nat) : Prop where
  lt : ∀ x, P x → x < w.heap.size
  le : w.heap.size ≤ w1.heap.size
  b : b < w.heap.size ∧ ¬ P b
  c1 : w.heap.size ≤ c1 ∧ c1 < w1.heap.size
  c2 : w.heap.size ≤ c2 ∧ c2 < w1.heap.size

theorem Apart.not {P P' : Nat → Prop} {w w1 : World} {b c1 c2 : Nat} (h : Apart P w w1 b c1 c2) (hP : ∀ x, P' x → P x ∨ w1.heap.size ≤ x) : ¬ P' b ∧ (∀ x, w.heap.size ≤ x → x < w1.heap.size → ¬ P' x) := by
  refine ⟨fun e => ?_, fun x h1 h2 e => ?_⟩
  · have := h.b
    have := h.le
    rcases hP _ e with e | e
    · exact h.b.2 e
    · omega
  · rcases hP _ e with e | e
    · have := h.lt _ e; omega
    · omega

theorem SaveSt.step {P P' : Nat → Prop} {N : Nat} {w w1 wr w2 : World} {s b c1 c2 : Nat} {vb : Value} {bs : List Nat} {q : PS} (hA : Apart P w w1 b c1 c2) (hP : ∀ x, P' x → P x ∨ w1.heap.size ≤ x) (hK : Kp (fun x => P x ∨ x = b) w wr) (hs : w1.heap.size ≤ wr.heap.size)
    (hT : TabX wr b) (k1 : wr.cell? ⟨c1, 0, none⟩ = some (.pointer (some ⟨s, 0, none⟩))) (k2 : wr.cell? ⟨c2, 0, none⟩ = some vb) (hv : ByP (fun x => w.heap.size ≤ x ∧ x < w1.heap.size) wr vb bs) (hD : Done P' N wr w2 s q) :
    SaveSt P N w w1 w2 s b c1 c2 vb bs q := by
  obtain ⟨P2, hS, hk, h2⟩ := hD
  obtain ⟨n1, n2⟩ := hA.not hP
  have hl := hA.le
  refine ⟨P2, hS, fun x hx => ?_, hK.trans hk (fun x hx => ?_), Nat.le_trans hs hk.size, hT.kp hk n1, (hk.cell (p := ⟨c1, 0, none⟩) (World.block_lt_of_cell? wr _ k1) (n2 _ hA.c1.1 hA.c1.2)).trans k1, (hk.cell (p := ⟨c2, 0, none⟩) (World.block_lt_of_cell? wr _ k2) (n2 _ hA.c2.1 hA.c2.2)).trans k2, hv.kp hk (fun x hx _ hw => n2 x hw.1 hw.2 hx)⟩
  · rcases h2 x hx with e | e
    · exact hP x e
    · right; omega
  · rcases hP x hx with e | e
    · exact .inl (.inl e)
    · right; omega

/-- Files, and a table beside them: what a call leaves. -/
def DoneT (P : Nat → Prop) (N b : Nat) (w w' : World) (s : Nat) (q : PS) : Prop :=
  TabX w' b ∧ ∃ P', Sim.Sys P' N w' s q ∧ Kp (fun x => P x ∨ x = b) w w' ∧ ∀ x, P' x → P x ∨ w.heap.size ≤ x

theorem SaveSt.done {P : Nat → Prop} {N M : Nat} {w w1 wr : World} {s b c1 c2 : Nat} {vb : Value} {bs : List Nat} {q : PS} (hA : Apart P w w1 b c1 c2) (h : SaveSt P M w w1 wr s b c1 c2 vb bs q) (hM : M ≤ N) (hN : N ≤ 1000) : DoneT P N b w wr s q := by
  obtain ⟨P', h1, h2, h3, _, h5, _⟩ := h
  refine ⟨h5, P', h1.more hM hN, h3, fun x hx => ?_⟩
  rcases h2 x hx with e | e
  · exact .inl e
  · right; have := hA.le; omega

/-- What a save answers, and leaves. -/
def SaveP (bs : List Nat) (P : Nat → Prop) (N b : Nat) (w : World) (s : Nat) (p : PS) (e : Ending) (w' : World) : Prop :=
  ∃ r, Saved bs p r ∧ e = .returned (.int .i64 (r.1 : Nat)) ∧ DoneT P N b w w' s r.2

set_option maxHeartbeats 4000000 in
set_option maxRecDepth 100000 in
theorem save_any {P Q : Nat → Prop} {N : Nat} (w : World) (s b : Nat) (p : PS) (v : Value) (d : List Sg.Ent) (h : Sim.Sys P N w s p) (hN : N + 6 ≤ 1000) (hT : TabX w b) (hb : ¬ P b) (hv : Sg.EV Q w v d) (hR : Sg.RightP d) (hl : (nats (Sg.sealE d)).length ≤ 12000) (hx : ∀ x ∈ nats (Sg.sealE d), x < 256) :
    Calls Tryz.prog 34 #[.pointer (some ⟨s, 0, none⟩), .pointer (some ⟨b, 0, none⟩), v] w fun e w' => SaveP (nats (Sg.sealE d)) P (N + 6) b w s p e w' := by
  obtain ⟨av, cv, rfl, _⟩ := id hv
  have hbl := hT.lt
  have HPL := hid h.lt
  have HS := hid h
  have HPUT := hid (Sg.put_yes b w _ d Q hT hv hR)
  generalize nats (Sg.sealE d) = bs at *
  clear hv hR hT h
  go_enter Tryz.func34, Tryz.ntmps34
  go_wp2_with fail
  refine HPUT.out.mono ?_
  rintro e w0 ⟨vb, rfl, ho, hk, ht⟩
  have hoB : Sim.OwnB w0 vb bs := ⟨ho.1, by
    rcases ho.2 with ⟨h1, h2⟩ | ⟨g, cap, cur, h1, h2, h3⟩
    · exact .inl ⟨h1, h2⟩
    · exact .inr ⟨g, cap, cur, h1, Nat.zero_le _, h3⟩⟩
  have HBY : Hid (ByP (fun x => w.heap.size ≤ x ∧ x < w0.heap.size) w0 vb bs) := (hoB.byP (P := fun x => w.heap.size ≤ x ∧ x < w0.heap.size) (fun x e => ⟨ho.ge x e, hoB.row.lt x e⟩) (by omega) hx)
  obtain ⟨ab, cb, rfl, _⟩ := hoB.shape
  have HS0 := hid (sys_kept HS.out hk hb)
  have HT0 := hid ht
  have HK0 := hid (kp_kept hk)
  clear ho hoB ht hk HPUT
  go_wp2_with fail
  refine (saving_any w0 s bs.length cb ab).mono ?_
  rintro e w1 ⟨c1, c2, rfl, k1, k2, l1, l2, hB1⟩
  have hw0 : w.heap.size ≤ w0.heap.size := HK0.out.size
  have HA : Hid (Apart P w w1 b c1 c2) := ⟨HPL.out, Nat.le_trans hw0 hB1.size, ⟨hbl, hb⟩, ⟨Nat.le_trans hw0 l1, World.block_lt_of_cell? w1 _ k1⟩, ⟨Nat.le_trans hw0 l2, World.block_lt_of_cell? w1 _ k2⟩⟩
  have hKB : Kp No w0 w1 := Kp.below hB1
  have HST : Hid (SaveSt P N w w1 w1 s b c1 c2 (.slice ab bs.length cb) bs p) := ⟨P, HS0.out.kept hKB, fun x hx => .inl hx, (HK0.out.mono (fun x hx => .inl (.inr hx))).andNone hKB, Nat.le_refl _, HT0.out.below hB1, k1, k2, (HBY.out.kept hKB).mono (fun x _ hx => ⟨hx.1, Nat.lt_of_lt_of_le hx.2 hB1.size⟩)⟩
  clear k1 k2 l1 l2 hB1 hKB hw0 HBY HS0 HT0 HK0 HS
  have ix0 : ∀ V, (Instr.index 163 (.agg (fnA c1 c2 s)) (.int .i64 0)).run Tryz.prog V = .ok (.func (.func 116) #[] #[.pointer (some ⟨c1, 0, none⟩)]) V := fun V => by kernel_rfl
  have ix1 : ∀ V, (Instr.index 163 (.agg (fnA c1 c2 s)) (.int .i64 1)).run Tryz.prog V = .ok (.func (.func 118) #[] #[.pointer (some ⟨c1, 0, none⟩)]) V := fun V => by kernel_rfl
  have ix2 : ∀ V, (Instr.index 163 (.agg (fnA c1 c2 s)) (.int .i64 2)).run Tryz.prog V = .ok (.func (.func 120) #[] #[.pointer (some ⟨c1, 0, none⟩), .pointer (some ⟨c2, 0, none⟩)]) V := fun V => by kernel_rfl
  have ix3 : ∀ V, (Instr.index 163 (.agg (fnA c1 c2 s)) (.int .i64 3)).run Tryz.prog V = .ok (.func (.func 122) #[] #[.pointer (some ⟨c1, 0, none⟩)]) V := fun V => by kernel_rfl
  have ix4 : ∀ V, (Instr.index 163 (.agg (fnA c1 c2 s)) (.int .i64 4)).run Tryz.prog V = .ok (.func (.func 124) #[] #[.pointer (some ⟨c1, 0, none⟩)]) V := fun V => by kernel_rfl
  have ix5 : ∀ V, (Instr.index 163 (.agg (fnA c1 c2 s)) (.int .i64 5)).run Tryz.prog V = .ok (.func (.func 86) #[.pointer (some ⟨s, 0, none⟩)] #[]) V := fun V => by kernel_rfl
  obtain ⟨FA, hFA⟩ : ∃ FA, fnA c1 c2 s = FA := ⟨_, rfl⟩
  rw [hFA] at ix0 ix1 ix2 ix3 ix4 ix5
  rw [hFA]
  clear hFA
  go_wp2_with fail
  go_loopw [26] (fun iv wr => ∃ j : Nat, j ≤ 6 ∧ iv = .int .i64 (j : Int) ∧ Hid (∃ q, SaveSt P (N + j) w w1 wr s b c1 c2 (.slice ab bs.length cb) bs q ∧ Reach bs p j q)) (fun iv _ => 6 - (intOf iv).toNat)
  case atStart => exact ⟨0, by omega, rfl, p, HST.out, rfl⟩
  case round =>
    obtain ⟨j, hj, rfl, HS⟩ := hrel
    clear HST
    have hjj : j = 0 ∨ j = 1 ∨ j = 2 ∨ j = 3 ∨ j = 4 ∨ j = 5 ∨ j = 6 := by omega
    rcases hjj with rfl | rfl | rfl | rfl | rfl | rfl | rfl
    · obtain ⟨q, ⟨P', hS, hP, hK, hs, hT, k1, k2, hv⟩, hR⟩ := HS.out
      obtain ⟨n1, n2⟩ := HA.out.not hP
      have HCALL := hid (save1_any bs wr s c1 q hS (by omega) k1)
      have HPK := hid (fun w2 q2 (hD : Done P' (N + 0 + 1) wr w2 s q2) => SaveSt.step HA.out hP hK hs hT k1 k2 hv hD)
      have HR := hid hR
      clear HS hS hP hK hs hT k1 k2 hv n1 n2 hR
      go_wp2_with fail
      refine HCALL.out.mono ?_
      rintro e w2 ⟨r, hr, rfl, hD⟩
      have HST := hid (HPK.out w2 r.2 hD)
      have HRR := hid hr
      clear hD hr HCALL HPK
      by_cases hz : r.1 = 0
      · have HZ := hid hz
        rw [hz]
        clear hz
        go_wp2_with fail
        go_round
        case rel => exact ⟨1, by omega, by go_num, r.2, HST.out, q, HR.out, by have h := HRR.out; rw [show r = (0, r.2) from Prod.ext HZ.out rfl] at h; exact h⟩
        case measure => simp [intOf]
      · have HZ := hid hz
        obtain ⟨F, hF⟩ : ∃ F, r.1 = F := ⟨_, rfl⟩
        have HF := hid hF
        rw [hF] at hz ⊢
        have hz' : ¬ ((F : Int) = 0) := by omega
        clear hF
        go_wp2_with fail
        go_ret
        exact ⟨r, .inr ⟨HZ.out, 0, by omega, q, HR.out, HRR.out⟩, by rw [HF.out]; rfl, HST.out.done HA.out (by omega) hN⟩
    · obtain ⟨q, ⟨P', hS, hP, hK, hs, hT, k1, k2, hv⟩, hR⟩ := HS.out
      obtain ⟨n1, n2⟩ := HA.out.not hP
      have HCALL := hid (save2_any bs wr s c1 q hS (by omega) k1)
      have HPK := hid (fun w2 q2 (hD : Done P' (N + 1 + 1) wr w2 s q2) => SaveSt.step HA.out hP hK hs hT k1 k2 hv hD)
      have HR := hid hR
      clear HS hS hP hK hs hT k1 k2 hv n1 n2 hR
      go_wp2_with fail
      refine HCALL.out.mono ?_
      rintro e w2 ⟨r, hr, rfl, hD⟩
      have HST := hid (HPK.out w2 r.2 hD)
      have HRR := hid hr
      clear hD hr HCALL HPK
      by_cases hz : r.1 = 0
      · have HZ := hid hz
        rw [hz]
        clear hz
        go_wp2_with fail
        go_round
        case rel => exact ⟨2, by omega, by go_num, r.2, HST.out, q, HR.out, by have h := HRR.out; rw [show r = (0, r.2) from Prod.ext HZ.out rfl] at h; exact h⟩
        case measure => simp [intOf]
      · have HZ := hid hz
        obtain ⟨F, hF⟩ : ∃ F, r.1 = F := ⟨_, rfl⟩
        have HF := hid hF
        rw [hF] at hz ⊢
        have hz' : ¬ ((F : Int) = 0) := by omega
        clear hF
        go_wp2_with fail
        go_ret
        exact ⟨r, .inr ⟨HZ.out, 1, by omega, q, HR.out, HRR.out⟩, by rw [HF.out]; rfl, HST.out.done HA.out (by omega) hN⟩
    · obtain ⟨q, ⟨P', hS, hP, hK, hs, hT, k1, k2, hv⟩, hR⟩ := HS.out
      obtain ⟨n1, n2⟩ := HA.out.not hP
      have HCALL := hid (save3_any bs wr s c1 c2 q _ hS (by omega) k1 k2 hv (fun x hx => n2 x hx.1 hx.2) hl)
      have HPK := hid (fun w2 q2 (hD : Done P' (N + 2 + 1) wr w2 s q2) => SaveSt.step HA.out hP hK hs hT k1 k2 hv hD)
      have HR := hid hR
      clear HS hS hP hK hs hT k1 k2 hv n1 n2 hR
      go_wp2_with fail
      refine HCALL.out.mono ?_
      rintro e w2 ⟨r, hr, rfl, hD⟩
      have HST := hid (HPK.out w2 r.2 hD)
      have HRR := hid hr
      clear hD hr HCALL HPK
      by_cases hz : r.1 = 0
      · have HZ := hid hz
        rw [hz]
        clear hz
        go_wp2_with fail
        go_round
        case rel => exact ⟨3, by omega, by go_num, r.2, HST.out, q, HR.out, by have h := HRR.out; rw [show r = (0, r.2) from Prod.ext HZ.out rfl] at h; exact h⟩
        case measure => simp [intOf]
      · have HZ := hid hz
        obtain ⟨F, hF⟩ : ∃ F, r.1 = F := ⟨_, rfl⟩
        have HF := hid hF
        rw [hF] at hz ⊢
        have hz' : ¬ ((F : Int) = 0) := by omega
        clear hF
        go_wp2_with fail
        go_ret
        exact ⟨r, .inr ⟨HZ.out, 2, by omega, q, HR.out, HRR.out⟩, by rw [HF.out]; rfl, HST.out.done HA.out (by omega) hN⟩
    · obtain ⟨q, ⟨P', hS, hP, hK, hs, hT, k1, k2, hv⟩, hR⟩ := HS.out
      obtain ⟨n1, n2⟩ := HA.out.not hP
      have HCALL := hid (save4_any bs wr s c1 q hS (by omega) k1)
      have HPK := hid (fun w2 q2 (hD : Done P' (N + 3 + 1) wr w2 s q2) => SaveSt.step HA.out hP hK hs hT k1 k2 hv hD)
      have HR := hid hR
      clear HS hS hP hK hs hT k1 k2 hv n1 n2 hR
      go_wp2_with fail
      refine HCALL.out.mono ?_
      rintro e w2 ⟨r, hr, rfl, hD⟩
      have HST := hid (HPK.out w2 r.2 hD)
      have HRR := hid hr
      clear hD hr HCALL HPK
      by_cases hz : r.1 = 0
      · have HZ := hid hz
        rw [hz]
        clear hz
        go_wp2_with fail
        go_round
        case rel => exact ⟨4, by omega, by go_num, r.2, HST.out, q, HR.out, by have h := HRR.out; rw [show r = (0, r.2) from Prod.ext HZ.out rfl] at h; exact h⟩
        case measure => simp [intOf]
      · have HZ := hid hz
        obtain ⟨F, hF⟩ : ∃ F, r.1 = F := ⟨_, rfl⟩
        have HF := hid hF
        rw [hF] at hz ⊢
        have hz' : ¬ ((F : Int) = 0) := by omega
        clear hF
        go_wp2_with fail
        go_ret
        exact ⟨r, .inr ⟨HZ.out, 3, by omega, q, HR.out, HRR.out⟩, by rw [HF.out]; rfl, HST.out.done HA.out (by omega) hN⟩
    · obtain ⟨q, ⟨P', hS, hP, hK, hs, hT, k1, k2, hv⟩, hR⟩ := HS.out
      obtain ⟨n1, n2⟩ := HA.out.not hP
      have HCALL := hid (save5_any bs wr s c1 q hS (by omega) k1)
      have HPK := hid (fun w2 q2 (hD : Done P' (N + 4 + 1) wr w2 s q2) => SaveSt.step HA.out hP hK hs hT k1 k2 hv hD)
      have HR := hid hR
      clear HS hS hP hK hs hT k1 k2 hv n1 n2 hR
      go_wp2_with fail
      refine HCALL.out.mono ?_
      rintro e w2 ⟨r, hr, rfl, hD⟩
      have HST := hid (HPK.out w2 r.2 hD)
      have HRR := hid hr
      clear hD hr HCALL HPK
      by_cases hz : r.1 = 0
      · have HZ := hid hz
        rw [hz]
        clear hz
        go_wp2_with fail
        go_round
        case rel => exact ⟨5, by omega, by go_num, r.2, HST.out, q, HR.out, by have h := HRR.out; rw [show r = (0, r.2) from Prod.ext HZ.out rfl] at h; exact h⟩
        case measure => simp [intOf]
      · have HZ := hid hz
        obtain ⟨F, hF⟩ : ∃ F, r.1 = F := ⟨_, rfl⟩
        have HF := hid hF
        rw [hF] at hz ⊢
        have hz' : ¬ ((F : Int) = 0) := by omega
        clear hF
        go_wp2_with fail
        go_ret
        exact ⟨r, .inr ⟨HZ.out, 4, by omega, q, HR.out, HRR.out⟩, by rw [HF.out]; rfl, HST.out.done HA.out (by omega) hN⟩
    · obtain ⟨q, ⟨P', hS, hP, hK, hs, hT, k1, k2, hv⟩, hR⟩ := HS.out
      obtain ⟨n1, n2⟩ := HA.out.not hP
      have HCALL := hid (save6_any bs wr s q hS (by omega))
      have HPK := hid (fun w2 q2 (hD : Done P' (N + 5 + 1) wr w2 s q2) => SaveSt.step HA.out hP hK hs hT k1 k2 hv hD)
      have HR := hid hR
      clear HS hS hP hK hs hT k1 k2 hv n1 n2 hR
      go_wp2_with fail
      refine HCALL.out.mono ?_
      rintro e w2 ⟨r, hr, rfl, hD⟩
      have HST := hid (HPK.out w2 r.2 hD)
      have HRR := hid hr
      clear hD hr HCALL HPK
      by_cases hz : r.1 = 0
      · have HZ := hid hz
        rw [hz]
        clear hz
        go_wp2_with fail
        go_round
        case rel => exact ⟨6, by omega, by go_num, r.2, HST.out, q, HR.out, by have h := HRR.out; rw [show r = (0, r.2) from Prod.ext HZ.out rfl] at h; exact h⟩
        case measure => simp [intOf]
      · have HZ := hid hz
        obtain ⟨F, hF⟩ : ∃ F, r.1 = F := ⟨_, rfl⟩
        have HF := hid hF
        rw [hF] at hz ⊢
        have hz' : ¬ ((F : Int) = 0) := by omega
        clear hF
        go_wp2_with fail
        go_ret
        exact ⟨r, .inr ⟨HZ.out, 5, by omega, q, HR.out, HRR.out⟩, by rw [HF.out]; rfl, HST.out.done HA.out (by omega) hN⟩
    · have HS' := HS
      clear HS
      go_wp2_with fail
      go_ret
      obtain ⟨q, hst, hR⟩ := HS'.out
      exact ⟨(0, q), .inl ⟨rfl, hR⟩, rfl, hst.done HA.out (by omega) hN⟩

end Go.Proofs.YthmimipoooemjaaGreatDoor.Ix
end

section
/-
  The index: what is said of what is not there.
-/
namespace Go.Proofs.YthmimipoooemjaaGreatDoor.Ix
open Go.RowKit
open Sim (hid Kp No)

theorem none_nil (w : World) : Calls Tryz.prog 81 #[.pointer none] w fun e w' => e = .returned (.bool true) ∧ w' = w := by
  go_enter Tryz.func81, Tryz.ntmps81
  go_wp2_with fail
  go_ret
  exact ⟨rfl, rfl⟩
set_option maxHeartbeats 1000000 in
theorem find_nil (w : World) (bh : List Value) : Calls Tryz.prog 43 #[.pointer none, .agg bh.toArray] w fun e w' => e = .returned (.tuple #[.agg #[.int .i64 0, .int .i64 0, .int .i64 0], .bool false]) ∧ Kp No w w' := by
  go_enter Tryz.func43, Tryz.ntmps43
  go_wp2_with fail
  refine (none_nil _).mono ?_
  rintro e w1 ⟨rfl, rfl⟩
  go_wp2_with fail
  have hs : (w.alloc (.cells bh.toArray 53)).heap.size = w.heap.size + 1 := by simp
  have hc : ∀ i : Nat, i < 3 → ((w.alloc (.cells bh.toArray 53)).alloc (.cells #[.int .i64 0, .int .i64 0, .int .i64 0] 51)).cell? ⟨w.heap.size + 1, i, none⟩ = some (.int .i64 0) := fun i hi => by
    rw [← hs, World.cell?_alloc_at _ _ _ _ rfl]
    match i, hi with
    | 0, _ => rfl
    | 1, _ => rfl
    | 2, _ => rfl
  have s0 := hc 0 (by omega)
  have s1 := hc 1 (by omega)
  have s2 := hc 2 (by omega)
  refine bodyPost_ret (v := .tuple #[.agg #[.int .i64 0, .int .i64 0, .int .i64 0], .bool false]) (by simp [results, Tryz.results43, go_sem, s0, s1, s2]) rfl ⟨rfl, ((Kp.refl No w).alloc _).alloc _⟩

end Go.Proofs.YthmimipoooemjaaGreatDoor.Ix
end

section
/-
  An index in memory: Len, Find, become, Add.
-/
namespace Go.Proofs.YthmimipoooemjaaGreatDoor.Ix
open Go.RowKit Go.Shelf
open Sim (hid Kp No PS Done Blk nm ByP)
open Stb (Stab Srt)

def ixC (s b : Nat) (v : Value) : List Value := [.pointer (some ⟨s, 0, none⟩), .pointer (some ⟨b, 0, none⟩), v]
/-- An index at x: of the files at s, with the table at b; its list is v. -/
def IxAt (w : World) (x s b : Nat) (v : Value) : Prop := Blk w x 169 (ixC s b v)

theorem none_any (w : World) (x s b : Nat) (v : Value) (hX : IxAt w x s b v) : Calls Tryz.prog 81 #[.pointer (some ⟨x, 0, none⟩)] w fun e w' => e = .returned (.bool false) ∧ w' = w := by
  have c0 : w.cell? ⟨x, 0, none⟩ = some (.pointer (some ⟨s, 0, none⟩)) := hX.cell 0
  go_enter Tryz.func81, Tryz.ntmps81
  go_wp2_with fail
  go_ret
  exact ⟨rfl, rfl⟩

theorem len_any (w : World) (x s b n c : Nat) (a : Option Addr) (hX : IxAt w x s b (.slice a n c)) : Calls Tryz.prog 42 #[.pointer (some ⟨x, 0, none⟩)] w fun e w' => e = .returned (.int .i64 (n : Int)) ∧ w' = w := by
  have c2 : w.cell? ⟨x, 2, none⟩ = some (.slice a n c) := hX.cell 2
  have HN := hid (none_any w x s b _ hX)
  clear hX
  go_enter Tryz.func42, Tryz.ntmps42
  go_wp2_with fail
  refine HN.out.mono ?_
  rintro e w1 ⟨rfl, rfl⟩
  go_wp2_with fail
  go_ret
  exact ⟨rfl, rfl⟩

/-- What become answers, and leaves. -/
def BecP (bs : List Nat) (P : Nat → Prop) (N b x : Nat) (w : World) (s : Nat) (p : PS) (v v0 : Value) (e : Ending) (w' : World) : Prop :=
  ∃ r, Saved bs p r ∧ e = .returned (.int .i64 (r.1 : Nat)) ∧ IxAt w' x s b (if r.1 = 0 then v else v0) ∧ TabX w' b ∧
    ∃ P', Sim.Sys P' N w' s r.2 ∧ Kp (fun y => P y ∨ y = b ∨ y = x) w w' ∧ ∀ y, P' y → P y ∨ w.heap.size ≤ y

set_option maxHeartbeats 1000000 in
theorem become_any {P Q : Nat → Prop} {N : Nat} (w : World) (s b x : Nat) (p : PS) (v v0 : Value) (d : List Sg.Ent) (h : Sim.Sys P N w s p) (hN : N + 6 ≤ 1000) (hT : TabX w b) (hb : ¬ P b) (hX : IxAt w x s b v0) (hxP : ¬ P x) (hxb : x ≠ b)
    (hv : Sg.EV Q w v d) (hR : Sg.RightP d) (hl : (nats (Sg.sealE d)).length ≤ 12000) (hx : ∀ x ∈ nats (Sg.sealE d), x < 256) :
    Calls Tryz.prog 80 #[.pointer (some ⟨x, 0, none⟩), v] w fun e w' => BecP (nats (Sg.sealE d)) P (N + 6) b x w s p v v0 e w' := by
  have hld : d.length ≤ 1000000 := by have := hR.1; omega
  have HRT := hid (Sg.right_any w v d Q hv hld)
  have HRP := hid hR
  have HSV := hid (fun V (hk : Kp No w V) => save_any V s b p v d (h.kept hk) hN (hT.kp hk (fun h => h)) hb (hv.kept hk) hR hl hx)
  have HX := hid hX
  have hxl := hX.lt
  have HPL := hid h.lt
  obtain ⟨av, cv, rfl, _⟩ := id hv
  generalize nats (Sg.sealE d) = bs at *
  clear hv h hT hX hR
  go_enter Tryz.func80, Tryz.ntmps80
  go_wp2_with fail
  refine HRT.out.mono ?_
  rintro e w1 ⟨⟨rb, rfl, hrb⟩, hk1⟩
  obtain rfl : rb = true := hrb.2 HRP.out
  have HK1 := hid hk1
  have c0 : w1.cell? ⟨x, 0, none⟩ = some (.pointer (some ⟨s, 0, none⟩)) := (HX.out.kp hk1 (fun h => h)).cell 0
  have c1 : w1.cell? ⟨x, 1, none⟩ = some (.pointer (some ⟨b, 0, none⟩)) := (HX.out.kp hk1 (fun h => h)).cell 1
  clear hk1 hrb HRT
  go_wp2_with fail
  go_region_with (go_at_call 34; refine (HSV.out _ (HK1.out.drew)).mono ?_; rintro e w2 ⟨r, hr, rfl, hD⟩; have HD := hid (And.intro hr hD); clear hr hD)
  all_goals
    have HF : Hid (TabX w2 b ∧ ∃ P', Sim.Sys P' (N + 6) w2 s r.2 ∧ Kp (fun y => P y ∨ y = b) w w2 ∧ (∀ y, P' y → P y ∨ w.heap.size ≤ y) ∧ IxAt w2 x s b v0 ∧ ¬ P' x) := by
      obtain ⟨_, ht, P', h1, h2, h3⟩ := HD.out
      have hk := HK1.out.drew
      have hkk : Kp (fun y => P y ∨ y = b) w w2 := hk.ofNo.trans h2 (fun y hy => .inl hy)
      refine ⟨ht, P', h1, hkk, fun y hy => ?_, HX.out.kp hkk (fun e => ?_), fun e => ?_⟩
      · rcases h3 y hy with e | e
        · exact .inl e
        · right; have := hk.size; omega
      · rcases e with e | e
        · exact hxP e
        · exact hxb e
      · rcases h3 x e with e | e
        · exact hxP e
        · have := hk.size; omega
    have HSD := hid HD.out.1
    clear HD HSV HK1 c0 c1
    by_cases hz : r.1 = 0
    · have HZ := hid hz
      rw [hz]
      have hx2 : w2.cell? ⟨x, 2, none⟩ = some v0 := HF.out.2.choose_spec.2.2.2.1.cell 2
      have hf2 : w2.frozen? ⟨x, 2, none⟩ = false := HF.out.2.choose_spec.2.2.2.1.frozen 2
      clear hz
      go_wp2_with fail
      go_ret
      obtain ⟨ht, P', h1, h2, h3, h4, h5⟩ := HF.out
      have hs : Kp (fun y => y = x) w2 (w2.setCell ⟨x, 2, none⟩ (.slice av d.length cv)) := Kp.setCell (p := ⟨x, 2, none⟩) (Kp.refl (fun y => y = x) w2) (.inl rfl) _
      refine ⟨r, HSD.out, by rw [HZ.out]; rfl, ?_, ht.kp hs (fun e => hxb e.symm), P', h1.kp hs (fun y hy => by rw [hy]; exact h5), (h2.mono (fun y hy => .inl (by rcases hy with e | e; exact .inl e; exact .inr (.inl e)))).trans hs (fun y hy => .inl (.inr (.inr hy))), h3⟩
      rw [if_pos HZ.out]
      exact Blk.setCell h4 2 _
    · have HZ := hid hz
      obtain ⟨F, hF⟩ : ∃ F, r.1 = F := ⟨_, rfl⟩
      have HFF := hid hF
      rw [hF] at hz ⊢
      have hz' : ¬ ((F : Int) = 0) := by omega
      clear hF
      go_wp2_with fail
      go_ret
      obtain ⟨ht, P', h1, h2, h3, h4, h5⟩ := HF.out
      refine ⟨r, HSD.out, by rw [HFF.out]; rfl, ?_, ht, P', h1, h2.mono (fun y hy => .inl (by rcases hy with e | e; exact .inl e; exact .inr (.inl e))), h3⟩
      rw [if_neg HZ.out]
      exact h4

set_option maxHeartbeats 1000000 in
theorem add_any {P Q Q0 : Nat → Prop} {N : Nat} (w : World) (s b x : Nat) (p : PS) (v v0 : Value) (d d0 : List Sg.Ent) (h : Sim.Sys P N w s p) (hN : N + 6 ≤ 1000) (hT : TabX w b) (hb : ¬ P b) (hX : IxAt w x s b v0) (hxP : ¬ P x) (hxb : x ≠ b)
    (h0 : Sg.EV Q0 w v0 d0) (hv : Sg.EV Q w v d) (hl : d0.length + d.length ≤ 900) (hR : ∀ X, Stab Sg.ky (d0 ++ d) X → Srt Sg.ky Sg.lexB X → Sg.RightP (Sg.cmpct X) ∧ (nats (Sg.sealE (Sg.cmpct X))).length ≤ 12000 ∧ ∀ x ∈ nats (Sg.sealE (Sg.cmpct X)), x < 256) :
    Calls Tryz.prog 45 #[.pointer (some ⟨x, 0, none⟩), v] w fun e w' => ∃ X r w1, Stab Sg.ky (d0 ++ d) X ∧ Srt Sg.ky Sg.lexB X ∧ Kp No w w1 ∧ Sg.EV (fun g => w.heap.size ≤ g) w1 r (Sg.cmpct X) ∧ BecP (nats (Sg.sealE (Sg.cmpct X))) P (N + 6) b x w1 s p r v0 e w' := by
  have HJ := hid (Sg.join_any w v0 v d0 d Q0 Q h0 hv (by omega))
  have HN := hid (none_any w x s b v0 hX)
  have c2 : w.cell? ⟨x, 2, none⟩ = some v0 := hX.cell 2
  have HB := hid (fun w1 (hk : Kp No w w1) r X (hs : Stab Sg.ky (d0 ++ d) X) (hr : Srt Sg.ky Sg.lexB X) (hv : Sg.EV (fun g => w.heap.size ≤ g) w1 r (Sg.cmpct X)) => become_any w1 s b x p r v0 (Sg.cmpct X) (h.kept hk) hN (hT.kp hk (fun h => h)) hb (hX.kp hk (fun h => h)) hxP hxb hv (hR X hs hr).1 (hR X hs hr).2.1 (hR X hs hr).2.2)
  obtain ⟨av, cv, rfl, _⟩ := id hv
  obtain ⟨a0, c0, rfl, _⟩ := id h0
  clear h hT hX h0 hv hR
  go_enter Tryz.func45, Tryz.ntmps45
  go_wp2_with fail
  refine HN.out.mono ?_
  rintro e w0 ⟨rfl, rfl⟩
  go_wp2_with fail
  refine HJ.out.mono ?_
  rintro e w1 ⟨r, X, rfl, hs, hr, hk, hv⟩
  obtain ⟨ar, cr, rfl, _⟩ := id hv
  have HC := hid (HB.out w1 hk _ X hs hr hv)
  have HG := hid (And.intro hs (And.intro hr (And.intro hk hv)))
  clear hs hr hk hv HB HJ
  generalize (Sg.cmpct X).length = n at *
  go_wp2_with fail
  refine HC.out.mono ?_
  rintro e w2 hbp
  obtain ⟨rr, hsv, rfl, hrest⟩ := id hbp
  have HBP := hid hbp
  clear hbp hsv hrest
  generalize rr.1 = F at *
  go_wp2_with fail
  go_ret
  exact ⟨X, _, w1, HG.out.1, HG.out.2.1, HG.out.2.2.1, HG.out.2.2.2, HBP.out⟩

end Go.Proofs.YthmimipoooemjaaGreatDoor.Ix
end

section
/-
  A pack is loaded.
-/
namespace Go.Proofs.YthmimipoooemjaaGreatDoor
open Go.RowKit Go.Shelf
open Tlv (BySlS)
open Sim (hid Kp No PS Done Blk nm finds pBytes OwnB)

theorem own_of {w : World} {v : Value} {xs : List Nat} (h : OwnB w v xs) (hx : ∀ x ∈ xs, x < 256) (hl : xs.length ≤ 140737488355328) (B : Nat) (hB : ∀ x, v.ownBlock = some x → B ≤ x) : BySlS (fun g => B ≤ g ∧ g < w.heap.size) w v (ints xs) := by
  have h1 : w.ownsRow B 5 1 v (ints xs).length ((ints xs).map (Value.int .u8)) := by
    have e1 : (ints xs).map (Value.int .u8) = Sim.cl xs := by simp [ints, Sim.cl, Function.comp_def]
    rw [e1, ints_length]
    refine ⟨h.1, ?_⟩
    rcases h.2 with h2 | ⟨g, cap, cur, hv, _, r⟩
    · exact .inl h2
    · exact .inr ⟨g, cap, cur, hv, hB g (by rw [hv]; rfl), r⟩
  exact Tlv.BySl.toS (Tlv.BySl.own h1 (by rw [ints_length]; exact hl) (ints_bd _ hx))

set_option maxHeartbeats 1000000 in
theorem pread_any {P : Nat → Prop} {N : Nat} (w : World) (s b : Nat) (p : PS) (i : Nat) (h1 : 1 ≤ i) (h2 : i < 100) (h : Sim.Sys P N w s p) :
    Calls Tryz.prog 99 #[.pointer (some ⟨s, 0, none⟩), .pointer (some ⟨b, 0, none⟩), .int .i64 (i : Int)] w fun e w' => ∃ ad cap, e = .returned (.tuple #[.slice ad (pBytes (nm (nameP i)) p).length cap, .int .i64 (finds p (nm (nameP i)) : Nat)]) ∧
      OwnB w' (.slice ad (pBytes (nm (nameP i)) p).length cap) (pBytes (nm (nameP i)) p) ∧ (∀ x, (Value.slice ad (pBytes (nm (nameP i)) p).length cap).ownBlock = some x → w.heap.size ≤ x) ∧ Kp No w w' := by
  have HID : Hid (∀ V, Calls Tryz.prog 93 #[.int .i64 (i : Int)] V fun e w' => e = .returned (.bool true) ∧ w' = V) := fun V => by
    have h := isID_any (i : Int) V
    rwa [show idB (i : Int) = true from by simp [idB]; omega] at h
  have HNM := hid (fun V => pname_small i h1 h2 V)
  have HRD := hid (Sim.read_any w s p (nameP i) (name_le _ (by decide) i h2) h)
  obtain ⟨F, hF⟩ : ∃ F, finds p (nm (nameP i)) = F := ⟨_, rfl⟩
  obtain ⟨Y, hY⟩ : ∃ Y, pBytes (nm (nameP i)) p = Y := ⟨_, rfl⟩
  rw [hF, hY] at HRD ⊢
  clear hF hY
  go_enter Tryz.func99, Tryz.ntmps99
  go_wp2_with (first
    | (go_at_call 93; refine (HID.out _).mono ?_; rintro e w1 ⟨rfl, h⟩; subst w1)
    | (go_at_call 17; refine (HNM.out _).mono ?_; rintro e w1 ⟨rfl, h⟩; subst w1)
    | (go_at_call 76; refine HRD.out.mono ?_; rintro e w2 ⟨ad, cap, rfl, ho, hlt, hk⟩; have HK := hid (And.intro ho (And.intro hlt hk)); clear ho hlt hk))
  go_ret2
  exact ⟨ad, cap, rfl, HK.out⟩

end Go.Proofs.YthmimipoooemjaaGreatDoor
end

section
/-
  What a seal takes: the two closures.
-/
namespace Go.Proofs.YthmimipoooemjaaGreatDoor
open Go.RowKit Go.Shelf
open Sim (hid Kp No PS Done Blk nm finds pFsync pRename pSyncDir)
end Go.Proofs.YthmimipoooemjaaGreatDoor
end

section
/-
  What a seal takes, laid in an array; Seal.
-/
namespace Go.Proofs.YthmimipoooemjaaGreatDoor
open Go.RowKit Go.Shelf
open Sim (hid Kp No PS Done Blk nm finds pFsync pRename pSyncDir)
end Go.Proofs.YthmimipoooemjaaGreatDoor
end

section
/-
  Seal.
-/
namespace Go.Proofs.YthmimipoooemjaaGreatDoor
open Go.RowKit Go.Shelf
open Sim (hid Kp No PS Done Blk nm finds pFsync pRename pSyncDir)
/-- In the midst of a seal. -/
def SealSt (P : Nat → Prop) (N : Nat) (w w1 wr : World) (g s b i : Nat) (sz ct : Int) (c1 c3 c4 : Nat) (q : PS) : Prop :=
  ∃ P', Sim.Sys P' N wr s q ∧ (∀ x, P' x → P x ∨ w1.heap.size ≤ x) ∧ Kp (fun x => P x ∨ x = g) w wr ∧ w1.heap.size ≤ wr.heap.size ∧ WrAt wr g s b i sz ct true ∧ TabX wr b ∧
    wr.cell? ⟨c1, 0, none⟩ = some (.pointer (some ⟨g, 0, none⟩)) ∧ wr.cell? ⟨c3, 0, none⟩ = some (.string (nameT i)) ∧ wr.cell? ⟨c4, 0, none⟩ = some (.string (nameP i))

/-- What is told apart: blocks of the files, of the writer, of the table, of the variables. -/
structure Apart (P : Nat → Prop) (w w1 : World) (g b c1 c3 c4 : Nat) : Prop where
  lt : ∀ x, P x → x < w.heap.size
  le : w.heap.size ≤ w1.heap.size
  g : g < w.heap.size ∧ ¬ P g
  b : b < w.heap.size ∧ ¬ P b
  c1 : w.heap.size ≤ c1 ∧ c1 < w1.heap.size
  c3 : w.heap.size ≤ c3 ∧ c3 < w1.heap.size
  c4 : w.heap.size ≤ c4 ∧ c4 < w1.heap.size

theorem Apart.not {P P' : Nat → Prop} {w w1 : World} {g b c1 c3 c4 : Nat} (h : Apart P w w1 g b c1 c3 c4) (hP : ∀ x, P' x → P x ∨ w1.heap.size ≤ x) : ¬ P' g ∧ ¬ P' b ∧ ¬ P' c1 ∧ ¬ P' c3 ∧ ¬ P' c4 := by
  have hl := h.le
  have hg := h.g
  have hb := h.b
  have h1 := h.c1
  have h3 := h.c3
  have h4 := h.c4
  refine ⟨fun e => ?_, fun e => ?_, fun e => ?_, fun e => ?_, fun e => ?_⟩
  · rcases hP _ e with e | e
    · exact hg.2 e
    · omega
  · rcases hP _ e with e | e
    · exact hb.2 e
    · omega
  · rcases hP _ e with e | e
    · have := h.lt _ e; omega
    · omega
  · rcases hP _ e with e | e
    · have := h.lt _ e; omega
    · omega
  · rcases hP _ e with e | e
    · have := h.lt _ e; omega
    · omega

theorem SealSt.step {P P' : Nat → Prop} {N : Nat} {w w1 wr w2 : World} {g s b i : Nat} {sz ct : Int} {c1 c3 c4 : Nat} {q : PS} (hA : Apart P w w1 g b c1 c3 c4) (hP : ∀ x, P' x → P x ∨ w1.heap.size ≤ x) (hK : Kp (fun x => P x ∨ x = g) w wr) (hs : w1.heap.size ≤ wr.heap.size)
    (hW : WrAt wr g s b i sz ct true) (hT : TabX wr b) (k1 : wr.cell? ⟨c1, 0, none⟩ = some (.pointer (some ⟨g, 0, none⟩))) (k3 : wr.cell? ⟨c3, 0, none⟩ = some (.string (nameT i))) (k4 : wr.cell? ⟨c4, 0, none⟩ = some (.string (nameP i))) (hD : Done P' N wr w2 s q) :
    SealSt P N w w1 w2 g s b i sz ct c1 c3 c4 q := by
  obtain ⟨P2, hS, hk, h2⟩ := hD
  obtain ⟨n1, n2, n3, n4, n5⟩ := hA.not hP
  have hl := hA.le
  refine ⟨P2, hS, fun x hx => ?_, hK.trans hk (fun x hx => ?_), Nat.le_trans hs hk.size, hW.kp hk n1, hT.kp hk n2, (hk.cell (p := ⟨c1, 0, none⟩) (World.block_lt_of_cell? wr _ k1) n3).trans k1, (hk.cell (p := ⟨c3, 0, none⟩) (World.block_lt_of_cell? wr _ k3) n4).trans k3, (hk.cell (p := ⟨c4, 0, none⟩) (World.block_lt_of_cell? wr _ k4) n5).trans k4⟩
  · rcases h2 x hx with e | e
    · exact hP x e
    · right; omega
  · rcases hP x hx with e | e
    · exact .inl (.inl e)
    · right; omega

def Sealed (P : Nat → Prop) (N : Nat) (w w' : World) (g s b i : Nat) (sz ct : Int) (q : PS) : Prop :=
  WrAt w' g s b i sz ct true ∧ TabX w' b ∧ ∃ P', Sim.Sys P' (N + 3) w' s q ∧ Kp (fun x => P x ∨ x = g) w w' ∧ ∀ x, P' x → P x ∨ w.heap.size ≤ x
theorem SealSt.end {P : Nat → Prop} {N M : Nat} {w w1 wr : World} {g s b i : Nat} {sz ct : Int} {c1 c3 c4 : Nat} {q : PS} (hA : Apart P w w1 g b c1 c3 c4) (h : SealSt P M w w1 wr g s b i sz ct c1 c3 c4 q) (hM : M ≤ N + 3) (hN : N + 3 ≤ 1000) : Sealed P N w wr g s b i sz ct q := by
  obtain ⟨P', h1, h2, h3, _, h5, h6, _⟩ := h
  refine ⟨h5, h6, P', h1.more hM hN, h3, fun x hx => ?_⟩
  rcases h2 x hx with e | e
  · exact .inl e
  · right; have := hA.le; omega

end Go.Proofs.YthmimipoooemjaaGreatDoor
end

section
/-
  Plain mathematics of a pack: one file made, written, synced, moved.
-/
namespace Go.Proofs.YthmimipoooemjaaGreatDoor.Sim

def startPS (room : Nat) : PS := ⟨room, false, [], [], [], false, false, 0, 0, fun _ => none⟩

section
variable {t n : Nm} {r b : Nat} {ys : List Nat}

theorem start_finds (hn : nameB n = true) : finds (startPS r) n = 5 := by simp [finds, wrongs, startPS, hn, dfind]

def q1 (t : Nm) (r b : Nat) : PS := chgd ⟨0, t, [], b⟩ (setF b ⟨[], 0⟩ (tick (startPS r)))
def q2 (t : Nm) (r b : Nat) (ys : List Nat) : PS := setF b ⟨ys, 0⟩ (tick (q1 t r b))
def q3 (t : Nm) (r b : Nat) (ys : List Nat) : PS := setF b ⟨ys, ys.length⟩ (tick (q2 t r b ys))
def q4 (t n : Nm) (r b : Nat) (ys : List Nat) : PS := chgd ⟨2, t, n, 0⟩ (tick (q3 t r b ys))
def q5 (t n : Nm) (r b : Nat) (ys : List Nat) : PS := settle (q4 t n r b ys).chg.length (tick (q4 t n r b ys))
end
end Go.Proofs.YthmimipoooemjaaGreatDoor.Sim
end
