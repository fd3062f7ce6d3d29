/- Of the proof: the texts NdOwn, NdRight, one behind the other. -/
import Derived.Test.YtenfahecnkdhaaaB7
section
/-
  Own and Back of the fourteenth law: entries of the document's type as the program's, and the other way around.
-/
namespace Go.Proofs.Ytenfahecnkdhaaa.Nd
open Go.RowKit
open Stb (Stab Srt Mrg)
open Sim (hid Kp No)

/-- A row of the program's entries, of the call's own, that began at u. -/
def Mine (u w : World) (v : Value) (d : List Ent) : Prop := Sim.Row w 70 34 v d.length (ents d) ∧ (∀ x, v.ownBlock = some x → u.heap.size ≤ x) ∧ Kp No u w
theorem yields_three {P : Program} {ops : Array Oper} {S : World → Prop} {o : Oper} {a : Act} (hw : Region.wanted o (yielded ops a.tmps) = true) (t : TypeId) (x y z : Operand) (ho : o.op = .build t #[(0, x), (1, y), (2, z)])
    (vx vy vz : Value) (hx : a.eval x = vx) (hy : a.eval y = vy) (hz : a.eval z = vz) (C : Array Value) (hb : P.built t [(0, vx), (1, vy), (2, vz)] = some C) : YieldsIf P ops S o (.agg C) a :=
  .inl ⟨hw, fun w _ => by
    have e : P.built t ((#[(0, x), (1, y), (2, z)] : Array (Nat × Operand)).map fun (i, x) => (i, a.eval x)).toList = some C := by
      rw [← hb]
      simp only [List.map_toArray, List.map_cons, List.map_nil, hx, hy, hz]
    unfold execOp
    simp only [ho, Sem.run_bind, run_build w t _ C e, Result.andThen_ok]
    rfl⟩
theorem rng_hash {w : World} {g o : Nat} {e : Ent} (h : w.rangeAt g o (entC e)) : w.rangeAt g (o + 2) (b8 e.2.2) := fun j u hj => by
  have := h (j + 2) u (by simpa [entC] using hj)
  rwa [show o + (j + 2) = o + 2 + j by omega] at this
theorem infH : (Try.prog.info? 68).map (·.size) = some 32 := by kernel_rfl
/-- append of a row of the call's own, with its world. -/
theorem app_run (w : World) (ty : TypeId) (v vx : Value) (n m : Nat) (xs ys : List Value) (hown : Sim.Row w 70 34 v n xs) (hy : Sim.Src w vx m 34 ys) (hm : 0 < m) (hlen : n + m ≤ 2000000) :
    ∃ ad cap w', (Builtin.append_ #[40, 40] ty #[v, vx]).run Try.prog w = .ok (.slice ad (n + m) cap) w' ∧ Sim.Row w' 70 34 (.slice ad (n + m) cap) (n + m) (xs ++ ys) ∧ w.grownBy w' v.ownBlock ∧ ((Value.slice ad (n + m) cap).ownBlock = v.ownBlock ∨ (Value.slice ad (n + m) cap).ownBlock = some w.heap.size) := by
  obtain ⟨i0, hi, hz0, hz1', hz2⟩ := info_parts infoE
  rcases hy with ⟨rfl, rfl, rfl⟩ | ⟨ad, c, rfl, hl, hc, h1⟩
  · omega
  · obtain ⟨v', w', hr, h8, h9, _, h10⟩ := run_append_own_at (P := Try.prog) w 0 40 ty 70 i0 (.agg zE.toArray) 34 56 Try.underlying40 hi hz0 hz1' hz2 rfl (by omega) v n xs hown ad m c ys hl hc h1 (by unfold maxLen; omega) (by omega) (Nat.zero_le _)
    have h8' : Sim.Row w' 70 34 v' (n + m) (xs ++ ys) := h8
    obtain ⟨ad', cap', rfl, _⟩ := h8'.shape
    exact ⟨ad', cap', w', hr, h8, h9, h10⟩

theorem builtN (T : ByteArray) (p : Bool) (hs : List Int) (h : hs.length = 32) : Try.prog.built 70 [(0, .string T), (1, .bool p), (2, .agg (b8 hs).toArray)] = some (Value.string T :: .bool p :: b8 hs).toArray := by
  obtain ⟨x0, x1, x2, x3, x4, x5, x6, x7, x8, x9, x10, x11, x12, x13, x14, x15, x16, x17, x18, x19, x20, x21, x22, x23, x24, x25, x26, x27, x28, x29, x30, x31, rfl⟩ := x32 h
  kernel_rfl
theorem run_oneN (T : ByteArray) (p : Bool) (hs : List Int) (h : hs.length = 32) (w : World) : (Instr.buildSlice 40 1 #[(0, .agg (Value.string T :: .bool p :: b8 hs).toArray)]).run Try.prog w = .ok (.slice (some ⟨w.heap.size, 0, none⟩) 1 1) (w.alloc (.cells (Value.string T :: .bool p :: b8 hs).toArray 70)) := by
  obtain ⟨x0, x1, x2, x3, x4, x5, x6, x7, x8, x9, x10, x11, x12, x13, x14, x15, x16, x17, x18, x19, x20, x21, x22, x23, x24, x25, x26, x27, x28, x29, x30, x31, rfl⟩ := x32 h
  kernel_rfl
theorem builtN' (nm : List Int) (p : Bool) (hs : List Int) (h : hs.length = 32) : Try.prog.built 70 [(0, .string (txt nm)), (1, .bool p), (2, .agg (b8 hs).toArray)] = some (entC (nm, p, hs)).toArray := builtN (txt nm) p hs h
theorem run_oneN' (nm : List Int) (p : Bool) (hs : List Int) (h : hs.length = 32) (w : World) : (Instr.buildSlice 40 1 #[(0, .agg (entC (nm, p, hs)).toArray)]).run Try.prog w = .ok (.slice (some ⟨w.heap.size, 0, none⟩) 1 1) (w.alloc (.cells (entC (nm, p, hs)).toArray 70)) := run_oneN (txt nm) p hs h w
theorem builtD (T : ByteArray) (p : Bool) (hs : List Int) (h : hs.length = 32) : Try.prog.built 79 [(0, .string T), (1, .bool p), (2, .agg (b8 hs).toArray)] = some (Value.string T :: .bool p :: b8 hs).toArray := by
  obtain ⟨x0, x1, x2, x3, x4, x5, x6, x7, x8, x9, x10, x11, x12, x13, x14, x15, x16, x17, x18, x19, x20, x21, x22, x23, x24, x25, x26, x27, x28, x29, x30, x31, rfl⟩ := x32 h
  kernel_rfl
theorem run_oneD (T : ByteArray) (p : Bool) (hs : List Int) (h : hs.length = 32) (w : World) : (Instr.buildSlice 25 1 #[(0, .agg (Value.string T :: .bool p :: b8 hs).toArray)]).run Try.prog w = .ok (.slice (some ⟨w.heap.size, 0, none⟩) 1 1) (w.alloc (.cells (Value.string T :: .bool p :: b8 hs).toArray 79)) := by
  obtain ⟨x0, x1, x2, x3, x4, x5, x6, x7, x8, x9, x10, x11, x12, x13, x14, x15, x16, x17, x18, x19, x20, x21, x22, x23, x24, x25, x26, x27, x28, x29, x30, x31, rfl⟩ := x32 h
  kernel_rfl
theorem builtD' (nm : List Int) (p : Bool) (hs : List Int) (h : hs.length = 32) : Try.prog.built 79 [(0, .string (txt nm)), (1, .bool p), (2, .agg (b8 hs).toArray)] = some (entC (nm, p, hs)).toArray := builtD (txt nm) p hs h
theorem run_oneD' (nm : List Int) (p : Bool) (hs : List Int) (h : hs.length = 32) (w : World) : (Instr.buildSlice 25 1 #[(0, .agg (entC (nm, p, hs)).toArray)]).run Try.prog w = .ok (.slice (some ⟨w.heap.size, 0, none⟩) 1 1) (w.alloc (.cells (entC (nm, p, hs)).toArray 79)) := run_oneD (txt nm) p hs h w
set_option maxHeartbeats 4000000 in
set_option maxRecDepth 100000 in
theorem own_any (w : World) (v : Value) (d : List Ent) (P : Nat → Prop) (hv : EV P w v d) (hl : d.length ≤ 1000000) :
    Calls Try.prog 13 #[v] w fun e w' => ∃ r, e = .returned r ∧ Mine w w' r d := by
  obtain ⟨a, c, rfl, h2, h3, h4, h5, h6⟩ := hv
  obtain ⟨n, hn⟩ : ∃ n, d.length = n := ⟨_, rfl⟩
  have HN := hid hn
  rw [hn] at hl ⊢
  have H6 := hid h6
  have HM0 : Hid (Mine w w (.slice none 0 0) (d.take 0)) := ⟨Sim.Row.nil _ _ _, by intro x hx; simp [Value.ownBlock] at hx, Kp.refl _ _⟩
  clear hn h2 h3 h4 h5 h6
  go_enter Try.func13, Try.ntmps13
  go_wp2_with fail
  go_loopw [3, 4] (fun v3 v4 wr => ∃ (k : Nat) (ad : Option Addr) (cap : Nat), v3 = .slice ad k cap ∧ v4 = .int .i64 (k : Int) ∧ k ≤ n ∧ Hid (Mine w wr (.slice ad k cap) (d.take k))) (fun _ v4 _ => n - (intOf v4).toNat)
  case atStart => exact ⟨0, none, 0, rfl, rfl, Nat.zero_le _, HM0.out⟩
  case round =>
    obtain ⟨k, ad, cap, rfl, rfl, hkn, HS⟩ := hrel
    by_cases hlt : k < n
    · have hltI : (k : Int) < (n : Int) := by omega
      have hwk : IntKind.i64.wrap ((k : Int) + 1) = ((k + 1 : Nat) : Int) := by rw [IntKind.wrap_i64]; omega
      obtain ⟨g, o, rfl, _, hr⟩ := H6.out (by intro e; have := HN.out; rw [e] at this; simp at this; omega)
      obtain ⟨e, he⟩ : ∃ e, d[k]? = some e := ⟨_, List.getElem?_eq_getElem (by rw [HN.out]; exact hlt)⟩
      obtain ⟨heo, _⟩ := hr.2 k e he
      obtain ⟨nm, p, hs⟩ := e
      have hnm : hs.length = 32 := heo.2.1
      have hgO : (Value.slice ad k cap).ownBlock ≠ some g := fun e => by have := HS.out.2.1 g e; have := hr.1; omega
      have hgw : g < wr.heap.size := Nat.lt_of_lt_of_le hr.1 HS.out.2.2.size
      have hrow : ∀ V, Kp (fun x => (Value.slice ad k cap).ownBlock = some x) wr V → V.rangeAt g (o + k * 34) (entC (nm, p, hs)) := fun V hV j u hu => (hV.cell (p := ⟨g, _, none⟩) hgw hgO).trans (((hr.kp HS.out.2.2 (fun x => x)).2 k _ he).2 j u hu)
      have HLX : Hid (∀ V, Kp (fun x => (Value.slice ad k cap).ownBlock = some x) wr V → V.rangeAt g (o + k * 34 + 2) (b8 hs)) := fun V hV => rng_hash (hrow V hV)
      have HLP : Hid (∀ V, Kp (fun x => (Value.slice ad k cap).ownBlock = some x) wr V → V.cell? ⟨g, o + k * 34, none⟩ = some (.string (txt nm)) ∧ V.cell? ⟨g, o + k * 34 + 1, none⟩ = some (.bool p)) := fun V hV => by
        have h := hrow V hV
        exact ⟨h 0 _ rfl, h 1 _ rfl⟩
      have HI1 : Hid ((Try.prog.info? 68).map (·.size) = some (b8 hs).length) := by rw [Hid, b8_length, hnm]; exact infH
      have HB1 := hid (builtN' nm p hs hnm)
      have HB2 := hid (fun W => run_oneN' nm p hs hnm W)
      have hkl : (d.take k).length = k := by rw [List.length_take, HN.out]; omega
      have HNX : Hid (d.take (k + 1) = d.take k ++ [(nm, p, hs)]) := by rw [Hid, List.take_add_one, he]; rfl
      obtain ⟨C, hC⟩ : ∃ C, entC (nm, p, hs) = C := ⟨_, rfl⟩
      have hRA : Sim.Row (wr.drew.alloc (.cells C.toArray 70)) 70 34 (.slice ad k cap) k (ents (d.take k)) := by
        have := HS.out.1
        rw [hkl] at this
        exact this.kept (((Kp.refl No wr).drew).alloc _)
      have hSC : Sim.Src (wr.drew.alloc (.cells C.toArray 70)) (.slice (some ⟨wr.heap.size, 0, none⟩) 1 1) 1 34 C := Sim.Src.one wr.drew C 34 70 (by rw [← hC]; exact entC_length heo) (by rw [← hC]; exact entC_one _)
      obtain ⟨ad2, cap2, w2, hap, hrow2, hgr2, hown2⟩ := app_run _ 40 (.slice ad k cap) (.slice (some ⟨wr.heap.size, 0, none⟩) 1 1) k 1 _ _ hRA hSC (by omega) (by omega)
      have hgr : wr.grownBy w2 (Value.slice ad k cap).ownBlock → True := fun _ => trivial
      have HKA : Hid (Kp (fun x => (Value.slice ad k cap).ownBlock = some x) wr (wr.drew.alloc (.cells C.toArray 70))) := ((Kp.refl _ wr).drew).alloc _
      have HK2 : Hid (Kp (fun x => (Value.slice ad k cap).ownBlock = some x) wr w2) := HKA.out.grown hgr2 (fun x hx => .inl hx)
      have HF : Hid (Mine w w2 (.slice ad2 (k + 1) cap2) (d.take (k + 1))) := by
        rw [HNX.out]
        refine ⟨?_, fun x hx => ?_, HS.out.2.2.trans HK2.out (fun x hx => .inr (HS.out.2.1 x hx))⟩
        · rw [List.length_append, hkl, ents_append]
          have : ents [(nm, p, hs)] = C := by simp [ents, hC]
          rw [this]
          exact hrow2
        · rcases hown2 with e | e
          · exact HS.out.2.1 x (by rw [← e]; exact hx)
          · rw [e] at hx
            cases hx
            exact Nat.le_trans HS.out.2.2.size HKA.out.size
      have HAP := hid hap
      rw [hC] at HB1 HB2
      clear hC hRA hSC hap hrow2 hgr2 hown2 hkl hrow hr he heo hgO hgw hgr HNX HS
      generalize b8 hs = bx at *
      generalize txt nm = T at *
      go_wp2_with fail
      refine wp_region_held_drew (S := fun V => Kp (fun x => (Value.slice ad k cap).ownBlock = some x) wr V) (by kernel_rfl) ((Kp.refl _ _).drew) (fun hHeld => ?_)
      refine wpAnyH_take (i := 0) (oi := { dst := some 11, op := Op.move (Operand.tmp 3), type := 40, pos := "law.go:18", after := #[], guard := none }) (v := .slice ad k cap) rfl (by kernel_rfl) (by kernel_rfl) (by kernel_rfl) (fun _ _ _ h => h) (Or.inl ⟨by rfl, fun w' hw' => by (clear hw'; go_simp)⟩) hHeld ?_
      simp only [Act.put, List.setIfInBounds_toArray, List.set_cons_zero, List.set_cons_succ]
      refine wpAnyH_take (i := 1) (oi := { dst := some 12, op := Op.move (Operand.tmp 0), type := 25, pos := "law.go:18", after := #[], guard := none }) (v := .slice (some ⟨g, o, none⟩) n c) rfl (by kernel_rfl) (by kernel_rfl) (by kernel_rfl) (fun _ _ _ h => h) (Or.inl ⟨by rfl, fun w' hw' => by (clear hw'; go_simp)⟩) hHeld ?_
      simp only [Act.put, List.setIfInBounds_toArray, List.set_cons_zero, List.set_cons_succ]
      refine wpAnyH_take (i := 2) (oi := { dst := some 13, op := Op.move (Operand.tmp 4), type := 3, pos := "law.go:18", after := #[], guard := none }) (v := .int .i64 (k : Int)) rfl (by kernel_rfl) (by kernel_rfl) (by kernel_rfl) (fun _ _ _ h => h) (Or.inl ⟨by rfl, fun w' hw' => by (clear hw'; go_simp)⟩) hHeld ?_
      simp only [Act.put, List.setIfInBounds_toArray, List.set_cons_zero, List.set_cons_succ]
      refine wpAnyH_take (i := 3) (oi := { dst := some 14, op := Op.indexAddr 25 (Operand.tmp 12) (Operand.tmp 13), type := 0, pos := "law.go:18", after := #[{ on := 1, ground := Ground.data }, { on := 2, ground := Ground.data }], guard := none }) (v := .pointer (some ⟨g, o + k * 34, none⟩)) rfl (by kernel_rfl) (by kernel_rfl) (by kernel_rfl) (fun _ _ _ h => h) (Or.inl ⟨by rfl, fun w' hw' => by (clear hw'; go_simp)⟩) hHeld ?_
      simp only [Act.put, List.setIfInBounds_toArray, List.set_cons_zero, List.set_cons_succ]
      refine wpAnyH_take (i := 4) (oi := { dst := some 15, op := Op.fieldAddr 79 (Operand.tmp 14) 0, type := 0, pos := "law.go:18", after := #[{ on := 3, ground := Ground.data }], guard := none }) (v := .pointer (some ⟨g, o + k * 34, none⟩)) rfl (by kernel_rfl) (by kernel_rfl) (by kernel_rfl) (fun _ _ _ h => h) (Or.inl ⟨by rfl, fun w' hw' => by (clear hw'; go_simp)⟩) hHeld ?_
      simp only [Act.put, List.setIfInBounds_toArray, List.set_cons_zero, List.set_cons_succ]
      refine wpAnyH_take (i := 5) (oi := { dst := some 16, op := Op.load 9 (Operand.tmp 15), type := 9, pos := "law.go:18", after := #[{ on := 4, ground := Ground.data }], guard := none }) (v := .string T) rfl (by kernel_rfl) (by kernel_rfl) (by kernel_rfl) (fun _ _ _ h => h) (Or.inl ⟨by rfl, fun w' hw' => by (have q := (HLP.out _ hw').1; clear hw'; go_simp)⟩) hHeld ?_
      simp only [Act.put, List.setIfInBounds_toArray, List.set_cons_zero, List.set_cons_succ]
      refine wpAnyH_take (i := 6) (oi := { dst := some 17, op := Op.move (Operand.tmp 0), type := 25, pos := "law.go:18", after := #[], guard := none }) (v := .slice (some ⟨g, o, none⟩) n c) rfl (by kernel_rfl) (by kernel_rfl) (by kernel_rfl) (fun _ _ _ h => h) (Or.inl ⟨by rfl, fun w' hw' => by (clear hw'; go_simp)⟩) hHeld ?_
      simp only [Act.put, List.setIfInBounds_toArray, List.set_cons_zero, List.set_cons_succ]
      refine wpAnyH_take (i := 7) (oi := { dst := some 18, op := Op.move (Operand.tmp 4), type := 3, pos := "law.go:18", after := #[], guard := none }) (v := .int .i64 (k : Int)) rfl (by kernel_rfl) (by kernel_rfl) (by kernel_rfl) (fun _ _ _ h => h) (Or.inl ⟨by rfl, fun w' hw' => by (clear hw'; go_simp)⟩) hHeld ?_
      simp only [Act.put, List.setIfInBounds_toArray, List.set_cons_zero, List.set_cons_succ]
      refine wpAnyH_take (i := 8) (oi := { dst := some 19, op := Op.indexAddr 25 (Operand.tmp 17) (Operand.tmp 18), type := 0, pos := "law.go:18", after := #[{ on := 6, ground := Ground.data }, { on := 7, ground := Ground.data }], guard := none }) (v := .pointer (some ⟨g, o + k * 34, none⟩)) rfl (by kernel_rfl) (by kernel_rfl) (by kernel_rfl) (fun _ _ _ h => h) (Or.inl ⟨by rfl, fun w' hw' => by (clear hw'; go_simp)⟩) hHeld ?_
      simp only [Act.put, List.setIfInBounds_toArray, List.set_cons_zero, List.set_cons_succ]
      refine wpAnyH_take (i := 9) (oi := { dst := some 20, op := Op.fieldAddr 79 (Operand.tmp 19) 1, type := 0, pos := "law.go:18", after := #[{ on := 8, ground := Ground.data }], guard := none }) (v := .pointer (some ⟨g, o + k * 34 + 1, none⟩)) rfl (by kernel_rfl) (by kernel_rfl) (by kernel_rfl) (fun _ _ _ h => h) (Or.inl ⟨by rfl, fun w' hw' => by (clear hw'; go_simp)⟩) hHeld ?_
      simp only [Act.put, List.setIfInBounds_toArray, List.set_cons_zero, List.set_cons_succ]
      refine wpAnyH_take (i := 10) (oi := { dst := some 21, op := Op.load 4 (Operand.tmp 20), type := 4, pos := "law.go:18", after := #[{ on := 9, ground := Ground.data }], guard := none }) (v := .bool p) rfl (by kernel_rfl) (by kernel_rfl) (by kernel_rfl) (fun _ _ _ h => h) (Or.inl ⟨by rfl, fun w' hw' => by (have q := (HLP.out _ hw').2; clear hw'; go_simp)⟩) hHeld ?_
      simp only [Act.put, List.setIfInBounds_toArray, List.set_cons_zero, List.set_cons_succ]
      refine wpAnyH_take (i := 11) (oi := { dst := some 22, op := Op.move (Operand.tmp 0), type := 25, pos := "law.go:18", after := #[], guard := none }) (v := .slice (some ⟨g, o, none⟩) n c) rfl (by kernel_rfl) (by kernel_rfl) (by kernel_rfl) (fun _ _ _ h => h) (Or.inl ⟨by rfl, fun w' hw' => by (clear hw'; go_simp)⟩) hHeld ?_
      simp only [Act.put, List.setIfInBounds_toArray, List.set_cons_zero, List.set_cons_succ]
      refine wpAnyH_take (i := 12) (oi := { dst := some 23, op := Op.move (Operand.tmp 4), type := 3, pos := "law.go:18", after := #[], guard := none }) (v := .int .i64 (k : Int)) rfl (by kernel_rfl) (by kernel_rfl) (by kernel_rfl) (fun _ _ _ h => h) (Or.inl ⟨by rfl, fun w' hw' => by (clear hw'; go_simp)⟩) hHeld ?_
      simp only [Act.put, List.setIfInBounds_toArray, List.set_cons_zero, List.set_cons_succ]
      refine wpAnyH_take (i := 13) (oi := { dst := some 24, op := Op.indexAddr 25 (Operand.tmp 22) (Operand.tmp 23), type := 0, pos := "law.go:18", after := #[{ on := 11, ground := Ground.data }, { on := 12, ground := Ground.data }], guard := none }) (v := .pointer (some ⟨g, o + k * 34, none⟩)) rfl (by kernel_rfl) (by kernel_rfl) (by kernel_rfl) (fun _ _ _ h => h) (Or.inl ⟨by rfl, fun w' hw' => by (clear hw'; go_simp)⟩) hHeld ?_
      simp only [Act.put, List.setIfInBounds_toArray, List.set_cons_zero, List.set_cons_succ]
      refine wpAnyH_take (i := 14) (oi := { dst := some 25, op := Op.fieldAddr 79 (Operand.tmp 24) 2, type := 0, pos := "law.go:18", after := #[{ on := 13, ground := Ground.data }], guard := none }) (v := .pointer (some ⟨g, o + k * 34 + 2, none⟩)) rfl (by kernel_rfl) (by kernel_rfl) (by kernel_rfl) (fun _ _ _ h => h) (Or.inl ⟨by rfl, fun w' hw' => by (clear hw'; go_simp)⟩) hHeld ?_
      simp only [Act.put, List.setIfInBounds_toArray, List.set_cons_zero, List.set_cons_succ]
      refine wpAnyH_take (i := 15) (oi := { dst := some 26, op := Op.load 68 (Operand.tmp 25), type := 68, pos := "law.go:18", after := #[{ on := 14, ground := Ground.data }], guard := none }) (v := .agg bx.toArray) rfl (by kernel_rfl) (by kernel_rfl) (by kernel_rfl) (fun _ _ _ h => h) (yieldsIf_load_mid (by rfl) _ _ rfl g (o + k * 34 + 2) rfl bx _ (HLX.out) Try.underlying68 rfl HI1.out) hHeld ?_
      simp only [Act.put, List.setIfInBounds_toArray, List.set_cons_zero, List.set_cons_succ]
      refine wpAnyH_take (i := 16) (oi := { dst := some 27, op := Op.build 70 #[(0, Operand.tmp 16), (1, Operand.tmp 21), (2, Operand.tmp 26)], type := 70, pos := "law.go:18", after := #[{ on := 5, ground := Ground.data }, { on := 10, ground := Ground.data }, { on := 15, ground := Ground.data }], guard := none }) (v := .agg C.toArray) rfl (by kernel_rfl) (by kernel_rfl) (by kernel_rfl) (fun _ _ _ h => h) (yields_three (by rfl) 70 (.tmp 16) (.tmp 21) (.tmp 26) rfl (.string T) (.bool p) (.agg bx.toArray) rfl rfl rfl _ HB1.out) hHeld ?_
      simp only [Act.put, List.setIfInBounds_toArray, List.set_cons_zero, List.set_cons_succ]
      refine wpAnyH_ready (rs := [17]) (by kernel_rfl) (by simp) ?_
      refine AllReadyH.cons (o := { dst := some 28, op := Op.buildSlice 40 1 #[(0, Operand.tmp 27)], type := 40, pos := "law.go:18", after := #[{ on := 16, ground := Ground.data }], guard := none }) rfl (fun K hK => ?_) AllReadyH.nil
      rw [if_pos (by rfl)]
      refine wp_valE (exec_sliceE 40 _ rfl (.agg C.toArray) _ rfl (HB2.out _)) ?_
      refine hK.out _ _ HKA.out (fun hh => ?_)
      clear hK K hHeld
      have hHeld := hh
      clear hh
      try simp only [Act.put, List.setIfInBounds_toArray, List.set_cons_zero, List.set_cons_succ]
      refine wpAnyH_ready (rs := [18]) (by kernel_rfl) (by simp) ?_
      refine AllReadyH.cons (o := { dst := some 29, op := Op.call { callee := Callee.builtin Builtin.append, args := #[Operand.tmp 11, Operand.tmp 28], argTypes := #[40, 40] }, type := 40, pos := "law.go:18", after := #[{ on := 0, ground := Ground.data }, { on := 17, ground := Ground.data }], guard := none }) rfl (fun K hK => ?_) AllReadyH.nil
      rw [if_pos (by rfl)]
      refine wp_valE (exec_appE _ _ 40 rfl (.slice ad k cap) (.slice (some ⟨wr.heap.size, 0, none⟩) 1 1) _ rfl rfl HAP.out) ?_
      refine hK.out _ _ HK2.out (fun hh => ?_)
      clear hK K hHeld
      have hHeld := hh
      clear hh
      try simp only [Act.put, List.setIfInBounds_toArray, List.set_cons_zero, List.set_cons_succ]
      refine wpAnyH_take (i := 19) (oi := { dst := some 3, op := Op.assign (Operand.tmp 29), type := 40, pos := "law.go:18", after := #[{ on := 18, ground := Ground.data }, { on := 18, ground := Ground.chain }, { on := 0, ground := Ground.phase }, { on := 1, ground := Ground.phase }, { on := 2, ground := Ground.phase }, { on := 3, ground := Ground.phase }, { on := 4, ground := Ground.phase }, { on := 5, ground := Ground.phase }, { on := 6, ground := Ground.phase }, { on := 7, ground := Ground.phase }, { on := 8, ground := Ground.phase }, { on := 9, ground := Ground.phase }, { on := 10, ground := Ground.phase }, { on := 11, ground := Ground.phase }, { on := 12, ground := Ground.phase }, { on := 13, ground := Ground.phase }, { on := 14, ground := Ground.phase }, { on := 15, ground := Ground.phase }, { on := 16, ground := Ground.phase }, { on := 17, ground := Ground.phase }, { on := 18, ground := Ground.phase }], guard := none }) (v := .slice ad2 (k + 1) cap2) rfl (by kernel_rfl) (by kernel_rfl) (by kernel_rfl) (fun _ _ _ h => h) (Or.inl ⟨by rfl, fun w' hw' => by (clear hw'; go_simp)⟩) hHeld ?_
      simp only [Act.put, List.setIfInBounds_toArray, List.set_cons_zero, List.set_cons_succ]
      refine wpAnyH_done (by kernel_rfl) ?_ _
      clear hHeld
      go_wp2_with fail
      go_round
      case rel => exact ⟨k + 1, ad2, cap2, rfl, by first | rfl | go_num, by omega, HF.out⟩
      case measure => simp [intOf]; omega
    · have hltI : ¬ (k : Int) < (n : Int) := by omega
      have hkn' : k = n := by omega
      have HF : Hid (Mine w wr (.slice ad k cap) d) := by
        have := HS.out
        rw [hkn', ← HN.out, List.take_length] at this
        rw [Hid, hkn', ← HN.out]
        exact this
      clear hkn'
      go_wp2_with fail
      go_ret
      exact ⟨_, rfl, HF.out⟩

set_option maxHeartbeats 4000000 in
set_option maxRecDepth 100000 in
theorem back_any (w : World) (v : Value) (d : List Ent) (P : Nat → Prop) (hv : EV P w v d) (hl : d.length ≤ 1000000) :
    Calls Try.prog 28 #[v] w fun e w' => ∃ r, e = .returned r ∧ MineR w w' r d := by
  obtain ⟨a, c, rfl, h2, h3, h4, h5, h6⟩ := hv
  obtain ⟨n, hn⟩ : ∃ n, d.length = n := ⟨_, rfl⟩
  have HN := hid hn
  rw [hn] at hl ⊢
  have H6 := hid h6
  have HM0 : Hid (MineR w w (.slice none 0 0) (d.take 0)) := ⟨Sim.Row.nil _ _ _, by intro x hx; simp [Value.ownBlock] at hx, Kp.refl _ _⟩
  clear hn h2 h3 h4 h5 h6
  go_enter Try.func28, Try.ntmps28
  go_wp2_with fail
  go_loopw [3, 4] (fun v3 v4 wr => ∃ (k : Nat) (ad : Option Addr) (cap : Nat), v3 = .slice ad k cap ∧ v4 = .int .i64 (k : Int) ∧ k ≤ n ∧ Hid (MineR w wr (.slice ad k cap) (d.take k))) (fun _ v4 _ => n - (intOf v4).toNat)
  case atStart => exact ⟨0, none, 0, rfl, rfl, Nat.zero_le _, HM0.out⟩
  case round =>
    obtain ⟨k, ad, cap, rfl, rfl, hkn, HS⟩ := hrel
    by_cases hlt : k < n
    · have hltI : (k : Int) < (n : Int) := by omega
      have hwk : IntKind.i64.wrap ((k : Int) + 1) = ((k + 1 : Nat) : Int) := by rw [IntKind.wrap_i64]; omega
      obtain ⟨g, o, rfl, _, hr⟩ := H6.out (by intro e; have := HN.out; rw [e] at this; simp at this; omega)
      obtain ⟨e, he⟩ : ∃ e, d[k]? = some e := ⟨_, List.getElem?_eq_getElem (by rw [HN.out]; exact hlt)⟩
      obtain ⟨heo, _⟩ := hr.2 k e he
      obtain ⟨nm, p, hs⟩ := e
      have hnm : hs.length = 32 := heo.2.1
      have hgO : (Value.slice ad k cap).ownBlock ≠ some g := fun e => by have := HS.out.2.1 g e; have := hr.1; omega
      have hgw : g < wr.heap.size := Nat.lt_of_lt_of_le hr.1 HS.out.2.2.size
      have hrow : ∀ V, Kp (fun x => (Value.slice ad k cap).ownBlock = some x) wr V → V.rangeAt g (o + k * 34) (entC (nm, p, hs)) := fun V hV j u hu => (hV.cell (p := ⟨g, _, none⟩) hgw hgO).trans (((hr.kp HS.out.2.2 (fun x => x)).2 k _ he).2 j u hu)
      have HLX : Hid (∀ V, Kp (fun x => (Value.slice ad k cap).ownBlock = some x) wr V → V.rangeAt g (o + k * 34 + 2) (b8 hs)) := fun V hV => rng_hash (hrow V hV)
      have HLP : Hid (∀ V, Kp (fun x => (Value.slice ad k cap).ownBlock = some x) wr V → V.cell? ⟨g, o + k * 34, none⟩ = some (.string (txt nm)) ∧ V.cell? ⟨g, o + k * 34 + 1, none⟩ = some (.bool p)) := fun V hV => by
        have h := hrow V hV
        exact ⟨h 0 _ rfl, h 1 _ rfl⟩
      have HI1 : Hid ((Try.prog.info? 68).map (·.size) = some (b8 hs).length) := by rw [Hid, b8_length, hnm]; exact infH
      have HB1 := hid (builtD' nm p hs hnm)
      have HB2 := hid (fun W => run_oneD' nm p hs hnm W)
      have hkl : (d.take k).length = k := by rw [List.length_take, HN.out]; omega
      have HNX : Hid (d.take (k + 1) = d.take k ++ [(nm, p, hs)]) := by rw [Hid, List.take_add_one, he]; rfl
      obtain ⟨C, hC⟩ : ∃ C, entC (nm, p, hs) = C := ⟨_, rfl⟩
      have hRA : Sim.Row (wr.drew.alloc (.cells C.toArray 79)) 79 34 (.slice ad k cap) k (ents (d.take k)) := by
        have := HS.out.1
        rw [hkl] at this
        exact this.kept (((Kp.refl No wr).drew).alloc _)
      have hSC : Sim.Src (wr.drew.alloc (.cells C.toArray 79)) (.slice (some ⟨wr.heap.size, 0, none⟩) 1 1) 1 34 C := Sim.Src.one wr.drew C 34 79 (by rw [← hC]; exact entC_length heo) (by rw [← hC]; exact entC_one _)
      obtain ⟨ad2, cap2, w2, hap, hrow2, hgr2, hown2⟩ := app_runR _ 25 (.slice ad k cap) (.slice (some ⟨wr.heap.size, 0, none⟩) 1 1) k 1 _ _ hRA hSC (by omega) (by omega)
      have hgr : wr.grownBy w2 (Value.slice ad k cap).ownBlock → True := fun _ => trivial
      have HKA : Hid (Kp (fun x => (Value.slice ad k cap).ownBlock = some x) wr (wr.drew.alloc (.cells C.toArray 79))) := ((Kp.refl _ wr).drew).alloc _
      have HK2 : Hid (Kp (fun x => (Value.slice ad k cap).ownBlock = some x) wr w2) := HKA.out.grown hgr2 (fun x hx => .inl hx)
      have HF : Hid (MineR w w2 (.slice ad2 (k + 1) cap2) (d.take (k + 1))) := by
        rw [HNX.out]
        refine ⟨?_, fun x hx => ?_, HS.out.2.2.trans HK2.out (fun x hx => .inr (HS.out.2.1 x hx))⟩
        · rw [List.length_append, hkl, ents_append]
          have : ents [(nm, p, hs)] = C := by simp [ents, hC]
          rw [this]
          exact hrow2
        · rcases hown2 with e | e
          · exact HS.out.2.1 x (by rw [← e]; exact hx)
          · rw [e] at hx
            cases hx
            exact Nat.le_trans HS.out.2.2.size HKA.out.size
      have HAP := hid hap
      rw [hC] at HB1 HB2
      clear hC hRA hSC hap hrow2 hgr2 hown2 hkl hrow hr he heo hgO hgw hgr HNX HS
      generalize b8 hs = bx at *
      generalize txt nm = T at *
      go_wp2_with fail
      refine wp_region_held_drew (S := fun V => Kp (fun x => (Value.slice ad k cap).ownBlock = some x) wr V) (by kernel_rfl) ((Kp.refl _ _).drew) (fun hHeld => ?_)
      refine wpAnyH_take (i := 0) (oi := { dst := some 11, op := Op.move (Operand.tmp 3), type := 25, pos := "law.go:27", after := #[], guard := none }) (v := .slice ad k cap) rfl (by kernel_rfl) (by kernel_rfl) (by kernel_rfl) (fun _ _ _ h => h) (Or.inl ⟨by rfl, fun w' hw' => by (clear hw'; go_simp)⟩) hHeld ?_
      simp only [Act.put, List.setIfInBounds_toArray, List.set_cons_zero, List.set_cons_succ]
      refine wpAnyH_take (i := 1) (oi := { dst := some 12, op := Op.move (Operand.tmp 0), type := 40, pos := "law.go:27", after := #[], guard := none }) (v := .slice (some ⟨g, o, none⟩) n c) rfl (by kernel_rfl) (by kernel_rfl) (by kernel_rfl) (fun _ _ _ h => h) (Or.inl ⟨by rfl, fun w' hw' => by (clear hw'; go_simp)⟩) hHeld ?_
      simp only [Act.put, List.setIfInBounds_toArray, List.set_cons_zero, List.set_cons_succ]
      refine wpAnyH_take (i := 2) (oi := { dst := some 13, op := Op.move (Operand.tmp 4), type := 3, pos := "law.go:27", after := #[], guard := none }) (v := .int .i64 (k : Int)) rfl (by kernel_rfl) (by kernel_rfl) (by kernel_rfl) (fun _ _ _ h => h) (Or.inl ⟨by rfl, fun w' hw' => by (clear hw'; go_simp)⟩) hHeld ?_
      simp only [Act.put, List.setIfInBounds_toArray, List.set_cons_zero, List.set_cons_succ]
      refine wpAnyH_take (i := 3) (oi := { dst := some 14, op := Op.indexAddr 40 (Operand.tmp 12) (Operand.tmp 13), type := 0, pos := "law.go:27", after := #[{ on := 1, ground := Ground.data }, { on := 2, ground := Ground.data }], guard := none }) (v := .pointer (some ⟨g, o + k * 34, none⟩)) rfl (by kernel_rfl) (by kernel_rfl) (by kernel_rfl) (fun _ _ _ h => h) (Or.inl ⟨by rfl, fun w' hw' => by (clear hw'; go_simp)⟩) hHeld ?_
      simp only [Act.put, List.setIfInBounds_toArray, List.set_cons_zero, List.set_cons_succ]
      refine wpAnyH_take (i := 4) (oi := { dst := some 15, op := Op.fieldAddr 70 (Operand.tmp 14) 0, type := 0, pos := "law.go:27", after := #[{ on := 3, ground := Ground.data }], guard := none }) (v := .pointer (some ⟨g, o + k * 34, none⟩)) rfl (by kernel_rfl) (by kernel_rfl) (by kernel_rfl) (fun _ _ _ h => h) (Or.inl ⟨by rfl, fun w' hw' => by (clear hw'; go_simp)⟩) hHeld ?_
      simp only [Act.put, List.setIfInBounds_toArray, List.set_cons_zero, List.set_cons_succ]
      refine wpAnyH_take (i := 5) (oi := { dst := some 16, op := Op.load 9 (Operand.tmp 15), type := 9, pos := "law.go:27", after := #[{ on := 4, ground := Ground.data }], guard := none }) (v := .string T) rfl (by kernel_rfl) (by kernel_rfl) (by kernel_rfl) (fun _ _ _ h => h) (Or.inl ⟨by rfl, fun w' hw' => by (have q := (HLP.out _ hw').1; clear hw'; go_simp)⟩) hHeld ?_
      simp only [Act.put, List.setIfInBounds_toArray, List.set_cons_zero, List.set_cons_succ]
      refine wpAnyH_take (i := 6) (oi := { dst := some 17, op := Op.move (Operand.tmp 0), type := 40, pos := "law.go:27", after := #[], guard := none }) (v := .slice (some ⟨g, o, none⟩) n c) rfl (by kernel_rfl) (by kernel_rfl) (by kernel_rfl) (fun _ _ _ h => h) (Or.inl ⟨by rfl, fun w' hw' => by (clear hw'; go_simp)⟩) hHeld ?_
      simp only [Act.put, List.setIfInBounds_toArray, List.set_cons_zero, List.set_cons_succ]
      refine wpAnyH_take (i := 7) (oi := { dst := some 18, op := Op.move (Operand.tmp 4), type := 3, pos := "law.go:27", after := #[], guard := none }) (v := .int .i64 (k : Int)) rfl (by kernel_rfl) (by kernel_rfl) (by kernel_rfl) (fun _ _ _ h => h) (Or.inl ⟨by rfl, fun w' hw' => by (clear hw'; go_simp)⟩) hHeld ?_
      simp only [Act.put, List.setIfInBounds_toArray, List.set_cons_zero, List.set_cons_succ]
      refine wpAnyH_take (i := 8) (oi := { dst := some 19, op := Op.indexAddr 40 (Operand.tmp 17) (Operand.tmp 18), type := 0, pos := "law.go:27", after := #[{ on := 6, ground := Ground.data }, { on := 7, ground := Ground.data }], guard := none }) (v := .pointer (some ⟨g, o + k * 34, none⟩)) rfl (by kernel_rfl) (by kernel_rfl) (by kernel_rfl) (fun _ _ _ h => h) (Or.inl ⟨by rfl, fun w' hw' => by (clear hw'; go_simp)⟩) hHeld ?_
      simp only [Act.put, List.setIfInBounds_toArray, List.set_cons_zero, List.set_cons_succ]
      refine wpAnyH_take (i := 9) (oi := { dst := some 20, op := Op.fieldAddr 70 (Operand.tmp 19) 1, type := 0, pos := "law.go:27", after := #[{ on := 8, ground := Ground.data }], guard := none }) (v := .pointer (some ⟨g, o + k * 34 + 1, none⟩)) rfl (by kernel_rfl) (by kernel_rfl) (by kernel_rfl) (fun _ _ _ h => h) (Or.inl ⟨by rfl, fun w' hw' => by (clear hw'; go_simp)⟩) hHeld ?_
      simp only [Act.put, List.setIfInBounds_toArray, List.set_cons_zero, List.set_cons_succ]
      refine wpAnyH_take (i := 10) (oi := { dst := some 21, op := Op.load 4 (Operand.tmp 20), type := 4, pos := "law.go:27", after := #[{ on := 9, ground := Ground.data }], guard := none }) (v := .bool p) rfl (by kernel_rfl) (by kernel_rfl) (by kernel_rfl) (fun _ _ _ h => h) (Or.inl ⟨by rfl, fun w' hw' => by (have q := (HLP.out _ hw').2; clear hw'; go_simp)⟩) hHeld ?_
      simp only [Act.put, List.setIfInBounds_toArray, List.set_cons_zero, List.set_cons_succ]
      refine wpAnyH_take (i := 11) (oi := { dst := some 22, op := Op.move (Operand.tmp 0), type := 40, pos := "law.go:27", after := #[], guard := none }) (v := .slice (some ⟨g, o, none⟩) n c) rfl (by kernel_rfl) (by kernel_rfl) (by kernel_rfl) (fun _ _ _ h => h) (Or.inl ⟨by rfl, fun w' hw' => by (clear hw'; go_simp)⟩) hHeld ?_
      simp only [Act.put, List.setIfInBounds_toArray, List.set_cons_zero, List.set_cons_succ]
      refine wpAnyH_take (i := 12) (oi := { dst := some 23, op := Op.move (Operand.tmp 4), type := 3, pos := "law.go:27", after := #[], guard := none }) (v := .int .i64 (k : Int)) rfl (by kernel_rfl) (by kernel_rfl) (by kernel_rfl) (fun _ _ _ h => h) (Or.inl ⟨by rfl, fun w' hw' => by (clear hw'; go_simp)⟩) hHeld ?_
      simp only [Act.put, List.setIfInBounds_toArray, List.set_cons_zero, List.set_cons_succ]
      refine wpAnyH_take (i := 13) (oi := { dst := some 24, op := Op.indexAddr 40 (Operand.tmp 22) (Operand.tmp 23), type := 0, pos := "law.go:27", after := #[{ on := 11, ground := Ground.data }, { on := 12, ground := Ground.data }], guard := none }) (v := .pointer (some ⟨g, o + k * 34, none⟩)) rfl (by kernel_rfl) (by kernel_rfl) (by kernel_rfl) (fun _ _ _ h => h) (Or.inl ⟨by rfl, fun w' hw' => by (clear hw'; go_simp)⟩) hHeld ?_
      simp only [Act.put, List.setIfInBounds_toArray, List.set_cons_zero, List.set_cons_succ]
      refine wpAnyH_take (i := 14) (oi := { dst := some 25, op := Op.fieldAddr 70 (Operand.tmp 24) 2, type := 0, pos := "law.go:27", after := #[{ on := 13, ground := Ground.data }], guard := none }) (v := .pointer (some ⟨g, o + k * 34 + 2, none⟩)) rfl (by kernel_rfl) (by kernel_rfl) (by kernel_rfl) (fun _ _ _ h => h) (Or.inl ⟨by rfl, fun w' hw' => by (clear hw'; go_simp)⟩) hHeld ?_
      simp only [Act.put, List.setIfInBounds_toArray, List.set_cons_zero, List.set_cons_succ]
      refine wpAnyH_take (i := 15) (oi := { dst := some 26, op := Op.load 68 (Operand.tmp 25), type := 68, pos := "law.go:27", after := #[{ on := 14, ground := Ground.data }], guard := none }) (v := .agg bx.toArray) rfl (by kernel_rfl) (by kernel_rfl) (by kernel_rfl) (fun _ _ _ h => h) (yieldsIf_load_mid (by rfl) _ _ rfl g (o + k * 34 + 2) rfl bx _ (HLX.out) Try.underlying68 rfl HI1.out) hHeld ?_
      simp only [Act.put, List.setIfInBounds_toArray, List.set_cons_zero, List.set_cons_succ]
      refine wpAnyH_take (i := 16) (oi := { dst := some 27, op := Op.build 79 #[(0, Operand.tmp 16), (1, Operand.tmp 21), (2, Operand.tmp 26)], type := 79, pos := "law.go:27", after := #[{ on := 5, ground := Ground.data }, { on := 10, ground := Ground.data }, { on := 15, ground := Ground.data }], guard := none }) (v := .agg C.toArray) rfl (by kernel_rfl) (by kernel_rfl) (by kernel_rfl) (fun _ _ _ h => h) (yields_three (by rfl) 79 (.tmp 16) (.tmp 21) (.tmp 26) rfl (.string T) (.bool p) (.agg bx.toArray) rfl rfl rfl _ HB1.out) hHeld ?_
      simp only [Act.put, List.setIfInBounds_toArray, List.set_cons_zero, List.set_cons_succ]
      refine wpAnyH_ready (rs := [17]) (by kernel_rfl) (by simp) ?_
      refine AllReadyH.cons (o := { dst := some 28, op := Op.buildSlice 25 1 #[(0, Operand.tmp 27)], type := 25, pos := "law.go:27", after := #[{ on := 16, ground := Ground.data }], guard := none }) rfl (fun K hK => ?_) AllReadyH.nil
      rw [if_pos (by rfl)]
      refine wp_valE (exec_sliceE 25 _ rfl (.agg C.toArray) _ rfl (HB2.out _)) ?_
      refine hK.out _ _ HKA.out (fun hh => ?_)
      clear hK K hHeld
      have hHeld := hh
      clear hh
      try simp only [Act.put, List.setIfInBounds_toArray, List.set_cons_zero, List.set_cons_succ]
      refine wpAnyH_ready (rs := [18]) (by kernel_rfl) (by simp) ?_
      refine AllReadyH.cons (o := { dst := some 29, op := Op.call { callee := Callee.builtin Builtin.append, args := #[Operand.tmp 11, Operand.tmp 28], argTypes := #[25, 25] }, type := 25, pos := "law.go:27", after := #[{ on := 0, ground := Ground.data }, { on := 17, ground := Ground.data }], guard := none }) rfl (fun K hK => ?_) AllReadyH.nil
      rw [if_pos (by rfl)]
      refine wp_valE (exec_appE _ _ 25 rfl (.slice ad k cap) (.slice (some ⟨wr.heap.size, 0, none⟩) 1 1) _ rfl rfl HAP.out) ?_
      refine hK.out _ _ HK2.out (fun hh => ?_)
      clear hK K hHeld
      have hHeld := hh
      clear hh
      try simp only [Act.put, List.setIfInBounds_toArray, List.set_cons_zero, List.set_cons_succ]
      refine wpAnyH_take (i := 19) (oi := { dst := some 3, op := Op.assign (Operand.tmp 29), type := 25, pos := "law.go:27", after := #[{ on := 18, ground := Ground.data }, { on := 18, ground := Ground.chain }, { on := 0, ground := Ground.phase }, { on := 1, ground := Ground.phase }, { on := 2, ground := Ground.phase }, { on := 3, ground := Ground.phase }, { on := 4, ground := Ground.phase }, { on := 5, ground := Ground.phase }, { on := 6, ground := Ground.phase }, { on := 7, ground := Ground.phase }, { on := 8, ground := Ground.phase }, { on := 9, ground := Ground.phase }, { on := 10, ground := Ground.phase }, { on := 11, ground := Ground.phase }, { on := 12, ground := Ground.phase }, { on := 13, ground := Ground.phase }, { on := 14, ground := Ground.phase }, { on := 15, ground := Ground.phase }, { on := 16, ground := Ground.phase }, { on := 17, ground := Ground.phase }, { on := 18, ground := Ground.phase }], guard := none }) (v := .slice ad2 (k + 1) cap2) rfl (by kernel_rfl) (by kernel_rfl) (by kernel_rfl) (fun _ _ _ h => h) (Or.inl ⟨by rfl, fun w' hw' => by (clear hw'; go_simp)⟩) hHeld ?_
      simp only [Act.put, List.setIfInBounds_toArray, List.set_cons_zero, List.set_cons_succ]
      refine wpAnyH_done (by kernel_rfl) ?_ _
      clear hHeld
      go_wp2_with fail
      go_round
      case rel => exact ⟨k + 1, ad2, cap2, rfl, by first | rfl | go_num, by omega, HF.out⟩
      case measure => simp [intOf]; omega
    · have hltI : ¬ (k : Int) < (n : Int) := by omega
      have hkn' : k = n := by omega
      have HF : Hid (MineR w wr (.slice ad k cap) d) := by
        have := HS.out
        rw [hkn', ← HN.out, List.take_length] at this
        rw [Hid, hkn', ← HN.out]
        exact this
      clear hkn'
      go_wp2_with fail
      go_ret
      exact ⟨_, rfl, HF.out⟩

end Go.Proofs.Ytenfahecnkdhaaa.Nd
end

section
/-
  Which entries are right: not more than 60, names that are parts, and strictly rise.
-/
namespace Go.Proofs.Ytenfahecnkdhaaa.Nd
open Go.RowKit
open Stb (Stab Srt Mrg)
open Sim (hid Kp No)

/-- A part of a path: the name. -/
def plB (x : Ent) : Bool := Tr.partB (txt x.1).data.toList
theorem thereE (w : World) (A : Array Value) (t : TypeId) (n : Nat) (hn : n ≤ A.size) : (w.alloc (.cells A t)).there w.heap.size 0 n := fun j hj => by
  refine ⟨?_, World.frozen?_alloc_at _ _ _ _ rfl⟩
  rw [Nat.zero_add, World.cell?_alloc_at _ _ _ _ rfl]
  simp
  omega
theorem wpList_store_box {ops : Array Oper} {rest : List Oper} {op : Oper} {a : Act} {w : World} {Q : Exit → Act → World → Prop} (F : World → Prop) (hgd : op.guard = none) (ty : TypeId) (x y : Operand) (ho : op.op = .store ty x y)
    (b o : Nat) (cells : Array Value) (hx : a.eval x = .pointer (some ⟨b, o, none⟩)) (hy : a.eval y = .agg cells)
    (ht : w.there b o cells.size) (hi : (Try.prog.info? ty).map (·.size) = some cells.size) (h1 : cells.all (·.oneCell') = true)
    (hF : F (w.setCells b o cells.toList)) (h : ∀ W, F W → wpList Try.prog ops Q rest (a.put op.dst undef) W) : wpList Try.prog ops Q (op :: rest) a w :=
  wpList_store_mid hgd ty x y ho b o cells hx hy ht hi h1 (h _ hF)
/-- A variable that holds an entry. -/
theorem boxE (w : World) (A : Array Value) (cx : List Value) (hA : A.size = 34) (hc : cx.length = 34) : ∀ V, Kp No ((w.alloc (.cells A 70)).setCells w.heap.size 0 cx) V → V.rangeAt w.heap.size 0 cx ∧ Kp No w V := fun V hV => by
  have hs : w.heap.size < ((w.alloc (.cells A 70)).setCells w.heap.size 0 cx).heap.size := Nat.lt_of_lt_of_le (by simp) (setCells_kp _ _ _ _).size
  refine ⟨fun j v hv => (hV.cell (p := ⟨w.heap.size, _, none⟩) hs (fun x => x)).trans ((World.rangeAt_setCells_same _ _ _ _ (thereE w A _ _ (by omega))) j v hv), ?_⟩
  exact (((Kp.refl No w).alloc _).trans (setCells_kp _ w.heap.size 0 cx) (fun x hx => .inr (by omega))).trans hV (fun x hx => .inl hx)

/-- Those ahead of k have places that can be, and rise. -/
def UpTo (d : List Ent) (k : Nat) : Prop := ∀ i e, i < k → d[i]? = some e → plB e = true ∧ ∀ j x, j + 1 = i → d[j]? = some x → lexB x.1 e.1 = true
def RightP (d : List Ent) : Prop := d.length ≤ 60 ∧ UpTo d d.length
def RAns (d : List Ent) (e : Ending) : Prop := ∃ b, e = .returned (.bool b) ∧ (b = true ↔ RightP d)
theorem UpTo.zero (d : List Ent) : UpTo d 0 := fun i e hi => by omega
theorem UpTo.next {d : List Ent} {k : Nat} {e : Ent} (h : UpTo d k) (he : d[k]? = some e) (hp : plB e = true) (hl : ∀ j x, j + 1 = k → d[j]? = some x → lexB x.1 e.1 = true) : UpTo d (k + 1) := fun i y hi hy => by
  by_cases hik : i < k
  · exact h i y hik hy
  · have : i = k := by omega
    subst this
    rw [he] at hy
    cases hy
    exact ⟨hp, hl⟩

set_option maxHeartbeats 4000000 in
set_option maxRecDepth 100000 in
theorem right_any (w : World) (v : Value) (d : List Ent) (P : Nat → Prop) (hv : EV P w v d) (hl : d.length ≤ 1000000) (hsz : ∀ e ∈ d, e.1.length ≤ 1000000) :
    Calls Try.prog 44 #[v] w fun e w' => RAns d e ∧ Kp No w w' := by
  obtain ⟨a, c, rfl, h2, h3, h4, h5, h6⟩ := hv
  obtain ⟨n, hn⟩ : ∃ n, d.length = n := ⟨_, rfl⟩
  have HN := hid hn
  have HOK := hid h5
  have HSZ := hid hsz
  rw [hn] at hl h2 ⊢
  have H6 := hid h6
  clear hn h2 h3 h4 h5 h6 hsz
  by_cases hbig : 60 < n
  · have hbigI : (60 : Int) < (n : Int) := by omega
    have HF : Hid (false = true ↔ RightP d) := ⟨fun h => (by cases h), fun h => (by have := h.1; have := HN.out; omega)⟩
    go_enter Try.func44, Try.ntmps44
    go_wp2_with fail
    go_ret
    exact ⟨⟨false, rfl, HF.out⟩, Kp.refl _ _⟩
  · have hbigI : ¬ (60 : Int) < (n : Int) := by omega
    go_enter Try.func44, Try.ntmps44
    go_wp2_with fail
    go_loopw [10] (fun x wr => ∃ (k : Nat), x = .int .i64 (k : Int) ∧ k ≤ n ∧ Hid (UpTo d k ∧ Kp No w wr)) (fun x _ => n - (intOf x).toNat)
    case atStart => exact ⟨0, rfl, Nat.zero_le _, UpTo.zero _, Kp.refl _ _⟩
    case round =>
      obtain ⟨k, rfl, hkn, HS⟩ := hrel
      by_cases hlt : k < n
      · have hltI : (k : Int) < (n : Int) := by omega
        have hwk : IntKind.i64.wrap ((k : Int) + 1) = ((k + 1 : Nat) : Int) := by rw [IntKind.wrap_i64]; omega
        obtain ⟨e, he⟩ : ∃ e, d[k]? = some e := ⟨_, List.getElem?_eq_getElem (by rw [HN.out]; exact hlt)⟩
        obtain ⟨g, o, rfl, _, hr⟩ := H6.out (by intro e; have := HN.out; rw [e] at this; simp at this; omega)
        have hrow := hr.kp HS.out.2 (fun x => x)
        have HROW := hid hrow
        have HX := hid (hrow.2 k e he)
        have HI := hid (inf HX.out.1)
        obtain ⟨cx, hcx⟩ : ∃ cx, entC e = cx := ⟨_, rfl⟩
        have HCX := hid hcx
        have HRX : Hid (wr.rangeAt g (o + k * 34) cx) := by rw [← hcx]; exact HX.out.2
        rw [hcx] at HI
        have hcl : cx.length = 34 := by rw [← hcx]; exact entC_length HX.out.1
        have HO1 : Hid (cx.toArray.all (·.oneCell') = true) := by rw [← hcx]; exact all_oneCell_toArray (entC_one e)
        clear hcx hr hrow
        go_wp2_with (first
          | (refine wpList_load_mid (by rfl) 70 _ (by rfl) g (o + k * 34) (by rfl) cx _ HRX.out Try.underlying70 rfl HI.out ?_)
          | (refine wpList_store_box (fun W => ∀ V, Kp No W V → V.rangeAt wr.heap.size 0 cx ∧ Kp No wr V) (by rfl) 70 _ _ (by rfl) wr.heap.size 0 cx.toArray (by rfl) (by rfl) (thereE wr _ _ _ (by rw [List.size_toArray, hcl]; exact Nat.le_refl _)) HI.out HO1.out (boxE wr _ cx rfl hcl) ?_; intro W1 hW1; have HW1 := hid hW1; clear hW1))
        have HP := hid (fun V => Tr.part_any (txt e.1) (by rw [txt_size]; have := HSZ.out e (List.mem_of_getElem? he); omega) V)
        rw [show Tr.partB (txt e.1).data.toList = plB e from rfl] at HP
        have HS0 : Hid (∀ V, Kp No W1 V → V.cell? ⟨wr.heap.size, 0, none⟩ = some (.string (txt e.1))) := fun V hV => (HW1.out V hV).1 0 _ (by rw [← HCX.out]; rfl)
        generalize txt e.1 = T at *
        cases hpl : plB e with
        | false =>
          rw [hpl] at HP
          have HF : Hid (false = true ↔ RightP d) := ⟨fun h => (by cases h), fun h => (by
            have := (h.2 k e (by rw [HN.out]; exact hlt) he).1
            rw [hpl] at this
            cases this)⟩
          clear hpl
          refine wp_region_held_drew (S := fun V => Kp No W1 V) (by kernel_rfl) ((Kp.refl _ _).drew) (fun hHeld => ?_)
          refine wpAnyH_take (i := 0) (oi := { dst := some 15, op := Op.fieldAddr 70 (Operand.tmp 4) 0, type := 0, pos := "dir.go:79", after := #[], guard := none }) (v := .pointer (some ⟨wr.heap.size, 0, none⟩)) rfl (by kernel_rfl) (by kernel_rfl) (by kernel_rfl) (fun _ _ _ h => h) (Or.inl ⟨by rfl, fun w' hw' => by (clear hw'; go_simp)⟩) hHeld ?_
          simp only [Act.put, List.setIfInBounds_toArray, List.set_cons_zero, List.set_cons_succ]
          refine wpAnyH_take (i := 1) (oi := { dst := some 16, op := Op.load 9 (Operand.tmp 15), type := 9, pos := "dir.go:79", after := #[{ on := 0, ground := Ground.data }], guard := none }) (v := .string T) rfl (by kernel_rfl) (by kernel_rfl) (by kernel_rfl) (fun _ _ _ h => h) (Or.inl ⟨by rfl, fun w' hw' => by (have q := HS0.out _ hw'; clear hw'; go_simp)⟩) hHeld ?_
          simp only [Act.put, List.setIfInBounds_toArray, List.set_cons_zero, List.set_cons_succ]
          refine wpAnyH_ready (rs := [2]) (by kernel_rfl) (by simp) ?_
          refine AllReadyH.cons (o := { dst := some 17, op := Op.call { callee := Callee.value (Operand.func 70), args := #[Operand.tmp 16], argTypes := #[9] }, type := 4, pos := "dir.go:79", after := #[{ on := 1, ground := Ground.data }], guard := none }) rfl (fun K hK => ?_) AllReadyH.nil
          go_simp
          refine (HP.out _).mono ?_
          rintro e3 w3 ⟨rfl, h3⟩
          have HK3 : Hid (Kp No W1 w3) := by rw [h3]; exact (Kp.refl No W1).drew
          clear h3
          go_wp2_with fail
          refine hK.out _ _ (HK3.out) (fun hh => ?_)
          clear hK K hHeld
          have hHeld := hh
          clear hh
          try simp only [Act.put, List.setIfInBounds_toArray, List.set_cons_zero, List.set_cons_succ]
          refine wpAnyH_take (i := 3) (oi := { dst := some 18, op := Op.unOp UnOp.not 4 (Operand.tmp 17), type := 4, pos := "dir.go:79", after := #[{ on := 2, ground := Ground.data }], guard := none }) (v := .bool true) rfl (by kernel_rfl) (by kernel_rfl) (by kernel_rfl) (fun _ _ _ h => h) (Or.inl ⟨by rfl, fun w' hw' => by (clear hw'; go_simp)⟩) hHeld ?_
          simp only [Act.put, List.setIfInBounds_toArray, List.set_cons_zero, List.set_cons_succ]
          refine wpAnyH_take (i := 4) (oi := { dst := some 19, op := Op.move (Operand.tmp 18), type := 4, pos := "dir.go:79", after := #[{ on := 3, ground := Ground.data }, { on := 2, ground := Ground.chain }], guard := none }) (v := .bool true) rfl (by kernel_rfl) (by kernel_rfl) (by kernel_rfl) (fun _ _ _ h => h) (Or.inl ⟨by rfl, fun w' hw' => by (clear hw'; go_simp)⟩) hHeld ?_
          simp only [Act.put, List.setIfInBounds_toArray, List.set_cons_zero, List.set_cons_succ]
          refine wpAnyH_take (i := 5) (oi := { dst := some 20, op := Op.move (Operand.tmp 3), type := 3, pos := "dir.go:79", after := #[{ on := 4, ground := Ground.guard }], guard := some (4, false) }) (v := undef) rfl (by kernel_rfl) (by kernel_rfl) (by kernel_rfl) (fun _ _ _ h => h) (Or.inr ⟨by rfl, rfl⟩) hHeld ?_
          simp only [Act.put, List.setIfInBounds_toArray, List.set_cons_zero, List.set_cons_succ]
          refine wpAnyH_take (i := 6) (oi := { dst := some 21, op := Op.binOp BinOp.gtr 3 (Operand.tmp 20) (Operand.const (Value.int IntKind.i64 0)) 3, type := 4, pos := "dir.go:79", after := #[{ on := 5, ground := Ground.data }, { on := 4, ground := Ground.guard }], guard := some (4, false) }) (v := undef) rfl (by kernel_rfl) (by kernel_rfl) (by kernel_rfl) (fun _ _ _ h => h) (Or.inr ⟨by rfl, rfl⟩) hHeld ?_
          simp only [Act.put, List.setIfInBounds_toArray, List.set_cons_zero, List.set_cons_succ]
          refine wpAnyH_take (i := 7) (oi := { dst := some 22, op := Op.move (Operand.tmp 21), type := 4, pos := "dir.go:79", after := #[{ on := 6, ground := Ground.data }, { on := 4, ground := Ground.chain }, { on := 4, ground := Ground.guard }], guard := some (4, false) }) (v := undef) rfl (by kernel_rfl) (by kernel_rfl) (by kernel_rfl) (fun _ _ _ h => h) (Or.inr ⟨by rfl, rfl⟩) hHeld ?_
          simp only [Act.put, List.setIfInBounds_toArray, List.set_cons_zero, List.set_cons_succ]
          refine wpAnyH_take (i := 8) (oi := { dst := some 23, op := Op.move (Operand.tmp 0), type := 90, pos := "dir.go:79", after := #[{ on := 7, ground := Ground.guard }], guard := some (7, true) }) (v := undef) rfl (by kernel_rfl) (by kernel_rfl) (by kernel_rfl) (fun _ _ _ h => h) (Or.inr ⟨by rfl, rfl⟩) hHeld ?_
          simp only [Act.put, List.setIfInBounds_toArray, List.set_cons_zero, List.set_cons_succ]
          refine wpAnyH_take (i := 9) (oi := { dst := some 24, op := Op.move (Operand.tmp 3), type := 3, pos := "dir.go:79", after := #[{ on := 7, ground := Ground.guard }], guard := some (7, true) }) (v := undef) rfl (by kernel_rfl) (by kernel_rfl) (by kernel_rfl) (fun _ _ _ h => h) (Or.inr ⟨by rfl, rfl⟩) hHeld ?_
          simp only [Act.put, List.setIfInBounds_toArray, List.set_cons_zero, List.set_cons_succ]
          refine wpAnyH_take (i := 10) (oi := { dst := some 25, op := Op.binOp BinOp.sub 3 (Operand.tmp 24) (Operand.const (Value.int IntKind.i64 1)) 3, type := 3, pos := "dir.go:79", after := #[{ on := 9, ground := Ground.data }, { on := 7, ground := Ground.guard }], guard := some (7, true) }) (v := undef) rfl (by kernel_rfl) (by kernel_rfl) (by kernel_rfl) (fun _ _ _ h => h) (Or.inr ⟨by rfl, rfl⟩) hHeld ?_
          simp only [Act.put, List.setIfInBounds_toArray, List.set_cons_zero, List.set_cons_succ]
          refine wpAnyH_take (i := 11) (oi := { dst := some 26, op := Op.indexAddr 90 (Operand.tmp 23) (Operand.tmp 25), type := 0, pos := "dir.go:79", after := #[{ on := 8, ground := Ground.data }, { on := 10, ground := Ground.data }, { on := 7, ground := Ground.guard }], guard := some (7, true) }) (v := undef) rfl (by kernel_rfl) (by kernel_rfl) (by kernel_rfl) (fun _ _ _ h => h) (Or.inr ⟨by rfl, rfl⟩) hHeld ?_
          simp only [Act.put, List.setIfInBounds_toArray, List.set_cons_zero, List.set_cons_succ]
          refine wpAnyH_take (i := 12) (oi := { dst := some 27, op := Op.load 70 (Operand.tmp 26), type := 70, pos := "dir.go:79", after := #[{ on := 11, ground := Ground.data }, { on := 7, ground := Ground.guard }], guard := some (7, true) }) (v := undef) rfl (by kernel_rfl) (by kernel_rfl) (by kernel_rfl) (fun _ _ _ h => h) (Or.inr ⟨by rfl, rfl⟩) hHeld ?_
          simp only [Act.put, List.setIfInBounds_toArray, List.set_cons_zero, List.set_cons_succ]
          refine wpAnyH_take (i := 13) (oi := { dst := some 28, op := Op.load 70 (Operand.tmp 4), type := 70, pos := "dir.go:79", after := #[{ on := 7, ground := Ground.guard }], guard := some (7, true) }) (v := undef) rfl (by kernel_rfl) (by kernel_rfl) (by kernel_rfl) (fun _ _ _ h => h) (Or.inr ⟨by rfl, rfl⟩) hHeld ?_
          simp only [Act.put, List.setIfInBounds_toArray, List.set_cons_zero, List.set_cons_succ]
          refine wpAnyH_take (i := 14) (oi := { dst := some 29, op := Op.call { callee := Callee.value (Operand.func 56), args := #[Operand.tmp 27, Operand.tmp 28], argTypes := #[70, 70] }, type := 3, pos := "dir.go:79", after := #[{ on := 12, ground := Ground.data }, { on := 13, ground := Ground.data }, { on := 7, ground := Ground.chain }, { on := 7, ground := Ground.guard }], guard := some (7, true) }) (v := undef) rfl (by kernel_rfl) (by kernel_rfl) (by kernel_rfl) (fun _ _ _ h => h) (Or.inr ⟨by rfl, rfl⟩) hHeld ?_
          simp only [Act.put, List.setIfInBounds_toArray, List.set_cons_zero, List.set_cons_succ]
          refine wpAnyH_take (i := 15) (oi := { dst := some 30, op := Op.binOp BinOp.geq 3 (Operand.tmp 29) (Operand.const (Value.int IntKind.i64 0)) 3, type := 4, pos := "dir.go:79", after := #[{ on := 14, ground := Ground.data }, { on := 7, ground := Ground.guard }], guard := some (7, true) }) (v := undef) rfl (by kernel_rfl) (by kernel_rfl) (by kernel_rfl) (fun _ _ _ h => h) (Or.inr ⟨by rfl, rfl⟩) hHeld ?_
          simp only [Act.put, List.setIfInBounds_toArray, List.set_cons_zero, List.set_cons_succ]
          refine wpAnyH_take (i := 16) (oi := { dst := some 31, op := Op.pick (Operand.tmp 22) (Operand.tmp 30) (Operand.const (Value.bool false)), type := 4, pos := "dir.go:79", after := #[{ on := 7, ground := Ground.data }, { on := 15, ground := Ground.data }, { on := 4, ground := Ground.guard }], guard := some (4, false) }) (v := undef) rfl (by kernel_rfl) (by kernel_rfl) (by kernel_rfl) (fun _ _ _ h => h) (Or.inr ⟨by rfl, rfl⟩) hHeld ?_
          simp only [Act.put, List.setIfInBounds_toArray, List.set_cons_zero, List.set_cons_succ]
          refine wpAnyH_take (i := 17) (oi := { dst := some 32, op := Op.pick (Operand.tmp 19) (Operand.const (Value.bool true)) (Operand.tmp 31), type := 4, pos := "dir.go:79", after := #[{ on := 4, ground := Ground.data }, { on := 16, ground := Ground.data }], guard := none }) (v := .bool true) rfl (by kernel_rfl) (by kernel_rfl) (by kernel_rfl) (fun _ _ _ h => h) (Or.inl ⟨by rfl, fun w' hw' => by (clear hw'; go_simp)⟩) hHeld ?_
          simp only [Act.put, List.setIfInBounds_toArray, List.set_cons_zero, List.set_cons_succ]
          refine wpAnyH_done (by kernel_rfl) ?_ _
          have HK := hid (HS.out.2.andNone (HW1.out _ HK3.out).2)
          clear hHeld
          go_wp2_with fail
          go_ret
          exact ⟨⟨false, rfl, HF.out⟩, HK.out⟩
        | true =>
          rw [hpl] at HP
          by_cases hk0 : k = 0
          · subst hk0
            have HU : Hid (UpTo d (0 + 1)) := (UpTo.zero d).next he hpl (fun j x hj => by omega)
            clear hpl
            refine wp_region_held_drew (S := fun V => Kp No W1 V) (by kernel_rfl) ((Kp.refl _ _).drew) (fun hHeld => ?_)
            refine wpAnyH_take (i := 0) (oi := { dst := some 15, op := Op.fieldAddr 70 (Operand.tmp 4) 0, type := 0, pos := "dir.go:79", after := #[], guard := none }) (v := .pointer (some ⟨wr.heap.size, 0, none⟩)) rfl (by kernel_rfl) (by kernel_rfl) (by kernel_rfl) (fun _ _ _ h => h) (Or.inl ⟨by rfl, fun w' hw' => by (clear hw'; go_simp)⟩) hHeld ?_
            simp only [Act.put, List.setIfInBounds_toArray, List.set_cons_zero, List.set_cons_succ]
            refine wpAnyH_take (i := 1) (oi := { dst := some 16, op := Op.load 9 (Operand.tmp 15), type := 9, pos := "dir.go:79", after := #[{ on := 0, ground := Ground.data }], guard := none }) (v := .string T) rfl (by kernel_rfl) (by kernel_rfl) (by kernel_rfl) (fun _ _ _ h => h) (Or.inl ⟨by rfl, fun w' hw' => by (have q := HS0.out _ hw'; clear hw'; go_simp)⟩) hHeld ?_
            simp only [Act.put, List.setIfInBounds_toArray, List.set_cons_zero, List.set_cons_succ]
            refine wpAnyH_ready (rs := [2]) (by kernel_rfl) (by simp) ?_
            refine AllReadyH.cons (o := { dst := some 17, op := Op.call { callee := Callee.value (Operand.func 70), args := #[Operand.tmp 16], argTypes := #[9] }, type := 4, pos := "dir.go:79", after := #[{ on := 1, ground := Ground.data }], guard := none }) rfl (fun K hK => ?_) AllReadyH.nil
            go_simp
            refine (HP.out _).mono ?_
            rintro e3 w3 ⟨rfl, h3⟩
            have HK3 : Hid (Kp No W1 w3) := by rw [h3]; exact (Kp.refl No W1).drew
            clear h3
            go_wp2_with fail
            refine hK.out _ _ (HK3.out) (fun hh => ?_)
            clear hK K hHeld
            have hHeld := hh
            clear hh
            try simp only [Act.put, List.setIfInBounds_toArray, List.set_cons_zero, List.set_cons_succ]
            refine wpAnyH_take (i := 3) (oi := { dst := some 18, op := Op.unOp UnOp.not 4 (Operand.tmp 17), type := 4, pos := "dir.go:79", after := #[{ on := 2, ground := Ground.data }], guard := none }) (v := .bool false) rfl (by kernel_rfl) (by kernel_rfl) (by kernel_rfl) (fun _ _ _ h => h) (Or.inl ⟨by rfl, fun w' hw' => by (clear hw'; go_simp)⟩) hHeld ?_
            simp only [Act.put, List.setIfInBounds_toArray, List.set_cons_zero, List.set_cons_succ]
            refine wpAnyH_take (i := 4) (oi := { dst := some 19, op := Op.move (Operand.tmp 18), type := 4, pos := "dir.go:79", after := #[{ on := 3, ground := Ground.data }, { on := 2, ground := Ground.chain }], guard := none }) (v := .bool false) rfl (by kernel_rfl) (by kernel_rfl) (by kernel_rfl) (fun _ _ _ h => h) (Or.inl ⟨by rfl, fun w' hw' => by (clear hw'; go_simp)⟩) hHeld ?_
            simp only [Act.put, List.setIfInBounds_toArray, List.set_cons_zero, List.set_cons_succ]
            refine wpAnyH_take (i := 5) (oi := { dst := some 20, op := Op.move (Operand.tmp 3), type := 3, pos := "dir.go:79", after := #[{ on := 4, ground := Ground.guard }], guard := some (4, false) }) (v := .int .i64 0) rfl (by kernel_rfl) (by kernel_rfl) (by kernel_rfl) (fun _ _ _ h => h) (Or.inl ⟨by rfl, fun w' hw' => by (clear hw'; go_simp)⟩) hHeld ?_
            simp only [Act.put, List.setIfInBounds_toArray, List.set_cons_zero, List.set_cons_succ]
            refine wpAnyH_take (i := 6) (oi := { dst := some 21, op := Op.binOp BinOp.gtr 3 (Operand.tmp 20) (Operand.const (Value.int IntKind.i64 0)) 3, type := 4, pos := "dir.go:79", after := #[{ on := 5, ground := Ground.data }, { on := 4, ground := Ground.guard }], guard := some (4, false) }) (v := .bool false) rfl (by kernel_rfl) (by kernel_rfl) (by kernel_rfl) (fun _ _ _ h => h) (Or.inl ⟨by rfl, fun w' hw' => by (clear hw'; go_simp)⟩) hHeld ?_
            simp only [Act.put, List.setIfInBounds_toArray, List.set_cons_zero, List.set_cons_succ]
            refine wpAnyH_take (i := 7) (oi := { dst := some 22, op := Op.move (Operand.tmp 21), type := 4, pos := "dir.go:79", after := #[{ on := 6, ground := Ground.data }, { on := 4, ground := Ground.chain }, { on := 4, ground := Ground.guard }], guard := some (4, false) }) (v := .bool false) rfl (by kernel_rfl) (by kernel_rfl) (by kernel_rfl) (fun _ _ _ h => h) (Or.inl ⟨by rfl, fun w' hw' => by (clear hw'; go_simp)⟩) hHeld ?_
            simp only [Act.put, List.setIfInBounds_toArray, List.set_cons_zero, List.set_cons_succ]
            refine wpAnyH_take (i := 8) (oi := { dst := some 23, op := Op.move (Operand.tmp 0), type := 90, pos := "dir.go:79", after := #[{ on := 7, ground := Ground.guard }], guard := some (7, true) }) (v := undef) rfl (by kernel_rfl) (by kernel_rfl) (by kernel_rfl) (fun _ _ _ h => h) (Or.inr ⟨by rfl, rfl⟩) hHeld ?_
            simp only [Act.put, List.setIfInBounds_toArray, List.set_cons_zero, List.set_cons_succ]
            refine wpAnyH_take (i := 9) (oi := { dst := some 24, op := Op.move (Operand.tmp 3), type := 3, pos := "dir.go:79", after := #[{ on := 7, ground := Ground.guard }], guard := some (7, true) }) (v := undef) rfl (by kernel_rfl) (by kernel_rfl) (by kernel_rfl) (fun _ _ _ h => h) (Or.inr ⟨by rfl, rfl⟩) hHeld ?_
            simp only [Act.put, List.setIfInBounds_toArray, List.set_cons_zero, List.set_cons_succ]
            refine wpAnyH_take (i := 10) (oi := { dst := some 25, op := Op.binOp BinOp.sub 3 (Operand.tmp 24) (Operand.const (Value.int IntKind.i64 1)) 3, type := 3, pos := "dir.go:79", after := #[{ on := 9, ground := Ground.data }, { on := 7, ground := Ground.guard }], guard := some (7, true) }) (v := undef) rfl (by kernel_rfl) (by kernel_rfl) (by kernel_rfl) (fun _ _ _ h => h) (Or.inr ⟨by rfl, rfl⟩) hHeld ?_
            simp only [Act.put, List.setIfInBounds_toArray, List.set_cons_zero, List.set_cons_succ]
            refine wpAnyH_take (i := 11) (oi := { dst := some 26, op := Op.indexAddr 90 (Operand.tmp 23) (Operand.tmp 25), type := 0, pos := "dir.go:79", after := #[{ on := 8, ground := Ground.data }, { on := 10, ground := Ground.data }, { on := 7, ground := Ground.guard }], guard := some (7, true) }) (v := undef) rfl (by kernel_rfl) (by kernel_rfl) (by kernel_rfl) (fun _ _ _ h => h) (Or.inr ⟨by rfl, rfl⟩) hHeld ?_
            simp only [Act.put, List.setIfInBounds_toArray, List.set_cons_zero, List.set_cons_succ]
            refine wpAnyH_take (i := 12) (oi := { dst := some 27, op := Op.load 70 (Operand.tmp 26), type := 70, pos := "dir.go:79", after := #[{ on := 11, ground := Ground.data }, { on := 7, ground := Ground.guard }], guard := some (7, true) }) (v := undef) rfl (by kernel_rfl) (by kernel_rfl) (by kernel_rfl) (fun _ _ _ h => h) (Or.inr ⟨by rfl, rfl⟩) hHeld ?_
            simp only [Act.put, List.setIfInBounds_toArray, List.set_cons_zero, List.set_cons_succ]
            refine wpAnyH_take (i := 13) (oi := { dst := some 28, op := Op.load 70 (Operand.tmp 4), type := 70, pos := "dir.go:79", after := #[{ on := 7, ground := Ground.guard }], guard := some (7, true) }) (v := undef) rfl (by kernel_rfl) (by kernel_rfl) (by kernel_rfl) (fun _ _ _ h => h) (Or.inr ⟨by rfl, rfl⟩) hHeld ?_
            simp only [Act.put, List.setIfInBounds_toArray, List.set_cons_zero, List.set_cons_succ]
            refine wpAnyH_take (i := 14) (oi := { dst := some 29, op := Op.call { callee := Callee.value (Operand.func 56), args := #[Operand.tmp 27, Operand.tmp 28], argTypes := #[70, 70] }, type := 3, pos := "dir.go:79", after := #[{ on := 12, ground := Ground.data }, { on := 13, ground := Ground.data }, { on := 7, ground := Ground.chain }, { on := 7, ground := Ground.guard }], guard := some (7, true) }) (v := undef) rfl (by kernel_rfl) (by kernel_rfl) (by kernel_rfl) (fun _ _ _ h => h) (Or.inr ⟨by rfl, rfl⟩) hHeld ?_
            simp only [Act.put, List.setIfInBounds_toArray, List.set_cons_zero, List.set_cons_succ]
            refine wpAnyH_take (i := 15) (oi := { dst := some 30, op := Op.binOp BinOp.geq 3 (Operand.tmp 29) (Operand.const (Value.int IntKind.i64 0)) 3, type := 4, pos := "dir.go:79", after := #[{ on := 14, ground := Ground.data }, { on := 7, ground := Ground.guard }], guard := some (7, true) }) (v := undef) rfl (by kernel_rfl) (by kernel_rfl) (by kernel_rfl) (fun _ _ _ h => h) (Or.inr ⟨by rfl, rfl⟩) hHeld ?_
            simp only [Act.put, List.setIfInBounds_toArray, List.set_cons_zero, List.set_cons_succ]
            refine wpAnyH_take (i := 16) (oi := { dst := some 31, op := Op.pick (Operand.tmp 22) (Operand.tmp 30) (Operand.const (Value.bool false)), type := 4, pos := "dir.go:79", after := #[{ on := 7, ground := Ground.data }, { on := 15, ground := Ground.data }, { on := 4, ground := Ground.guard }], guard := some (4, false) }) (v := .bool false) rfl (by kernel_rfl) (by kernel_rfl) (by kernel_rfl) (fun _ _ _ h => h) (Or.inl ⟨by rfl, fun w' hw' => by (clear hw'; go_simp)⟩) hHeld ?_
            simp only [Act.put, List.setIfInBounds_toArray, List.set_cons_zero, List.set_cons_succ]
            refine wpAnyH_take (i := 17) (oi := { dst := some 32, op := Op.pick (Operand.tmp 19) (Operand.const (Value.bool true)) (Operand.tmp 31), type := 4, pos := "dir.go:79", after := #[{ on := 4, ground := Ground.data }, { on := 16, ground := Ground.data }], guard := none }) (v := .bool false) rfl (by kernel_rfl) (by kernel_rfl) (by kernel_rfl) (fun _ _ _ h => h) (Or.inl ⟨by rfl, fun w' hw' => by (clear hw'; go_simp)⟩) hHeld ?_
            simp only [Act.put, List.setIfInBounds_toArray, List.set_cons_zero, List.set_cons_succ]
            refine wpAnyH_done (by kernel_rfl) ?_ _
            have HK := hid (HS.out.2.andNone (HW1.out _ HK3.out).2)
            clear hHeld
            go_wp2_with fail
            go_round
            case rel => exact ⟨0 + 1, by first | rfl | go_num, by omega, HU.out, HK.out⟩
            case measure => simp [intOf]; omega
          · have hkI : (0 : Int) < (k : Int) := by omega
            obtain ⟨k1, hk1⟩ : ∃ k1, k = k1 + 1 := ⟨k - 1, by omega⟩
            obtain ⟨y, hy⟩ : ∃ y, d[k1]? = some y := ⟨_, List.getElem?_eq_getElem (by rw [HN.out]; omega)⟩
            have hyo := (HROW.out.2 k1 y hy).1
            have hwk1 : IntKind.i64.wrap ((k : Int) - 1) = (k1 : Int) := by rw [IntKind.wrap_i64]; omega
            have hk1n : (k1 : Int) < (n : Int) := by omega
            have HCMP := hid (fun V => compare_any y e V hyo HX.out.1)
            have HRY : Hid (∀ V, Kp No W1 V → V.rangeAt g (o + k1 * 34) (entC y)) := fun V hV => ((HROW.out.kp (HW1.out V hV).2 (fun x => x)).2 k1 y hy).2
            have HIy := hid (inf hyo)
            have HCV : Hid (cmpE y.1 e.1 < 0 ↔ lexB y.1 e.1 = true) := cmpE_neg y.1 e.1
            have HUT : Hid (lexB y.1 e.1 = true → UpTo d (k + 1)) := fun h => HS.out.1.next he hpl (fun j x hj hx => by
              have : j = k1 := by omega
              subst this
              rw [hy] at hx
              cases hx
              exact h)
            have HUF : Hid (lexB y.1 e.1 = false → (false = true ↔ RightP d)) := fun h => ⟨fun h => (by cases h), fun hr => (by
              have := (hr.2 k e (by rw [HN.out]; exact hlt) he).2 k1 y hk1.symm hy
              rw [h] at this
              cases this)⟩
            obtain ⟨z, hz⟩ : ∃ z, cmpE y.1 e.1 = z := ⟨_, rfl⟩
            rw [hz] at HCMP HCV
            obtain ⟨cy, hcy⟩ : ∃ cy, entC y = cy := ⟨_, rfl⟩
            rw [hcy] at HRY HIy HCMP
            rw [HCX.out] at HCMP
            clear hcy hz hk1 hy hyo hpl he
            by_cases hz0 : z < 0
            · have HU := hid (HUT.out (HCV.out.1 hz0))
              have hz1 : ¬ (0 : Int) ≤ z := by omega
              refine wp_region_held_drew (S := fun V => Kp No W1 V) (by kernel_rfl) ((Kp.refl _ _).drew) (fun hHeld => ?_)
              refine wpAnyH_take (i := 0) (oi := { dst := some 15, op := Op.fieldAddr 70 (Operand.tmp 4) 0, type := 0, pos := "dir.go:79", after := #[], guard := none }) (v := .pointer (some ⟨wr.heap.size, 0, none⟩)) rfl (by kernel_rfl) (by kernel_rfl) (by kernel_rfl) (fun _ _ _ h => h) (Or.inl ⟨by rfl, fun w' hw' => by (clear hw'; go_simp)⟩) hHeld ?_
              simp only [Act.put, List.setIfInBounds_toArray, List.set_cons_zero, List.set_cons_succ]
              refine wpAnyH_take (i := 1) (oi := { dst := some 16, op := Op.load 9 (Operand.tmp 15), type := 9, pos := "dir.go:79", after := #[{ on := 0, ground := Ground.data }], guard := none }) (v := .string T) rfl (by kernel_rfl) (by kernel_rfl) (by kernel_rfl) (fun _ _ _ h => h) (Or.inl ⟨by rfl, fun w' hw' => by (have q := HS0.out _ hw'; clear hw'; go_simp)⟩) hHeld ?_
              simp only [Act.put, List.setIfInBounds_toArray, List.set_cons_zero, List.set_cons_succ]
              refine wpAnyH_ready (rs := [2]) (by kernel_rfl) (by simp) ?_
              refine AllReadyH.cons (o := { dst := some 17, op := Op.call { callee := Callee.value (Operand.func 70), args := #[Operand.tmp 16], argTypes := #[9] }, type := 4, pos := "dir.go:79", after := #[{ on := 1, ground := Ground.data }], guard := none }) rfl (fun K hK => ?_) AllReadyH.nil
              go_simp
              refine (HP.out _).mono ?_
              rintro e3 w3 ⟨rfl, h3⟩
              have HK3 : Hid (Kp No W1 w3) := by rw [h3]; exact (Kp.refl No W1).drew
              clear h3
              go_wp2_with fail
              refine hK.out _ _ (HK3.out) (fun hh => ?_)
              clear hK K hHeld
              have hHeld := hh
              clear hh
              try simp only [Act.put, List.setIfInBounds_toArray, List.set_cons_zero, List.set_cons_succ]
              refine wpAnyH_take (i := 3) (oi := { dst := some 18, op := Op.unOp UnOp.not 4 (Operand.tmp 17), type := 4, pos := "dir.go:79", after := #[{ on := 2, ground := Ground.data }], guard := none }) (v := .bool false) rfl (by kernel_rfl) (by kernel_rfl) (by kernel_rfl) (fun _ _ _ h => h) (Or.inl ⟨by rfl, fun w' hw' => by (clear hw'; go_simp)⟩) hHeld ?_
              simp only [Act.put, List.setIfInBounds_toArray, List.set_cons_zero, List.set_cons_succ]
              refine wpAnyH_take (i := 4) (oi := { dst := some 19, op := Op.move (Operand.tmp 18), type := 4, pos := "dir.go:79", after := #[{ on := 3, ground := Ground.data }, { on := 2, ground := Ground.chain }], guard := none }) (v := .bool false) rfl (by kernel_rfl) (by kernel_rfl) (by kernel_rfl) (fun _ _ _ h => h) (Or.inl ⟨by rfl, fun w' hw' => by (clear hw'; go_simp)⟩) hHeld ?_
              simp only [Act.put, List.setIfInBounds_toArray, List.set_cons_zero, List.set_cons_succ]
              refine wpAnyH_take (i := 5) (oi := { dst := some 20, op := Op.move (Operand.tmp 3), type := 3, pos := "dir.go:79", after := #[{ on := 4, ground := Ground.guard }], guard := some (4, false) }) (v := .int .i64 (k : Int)) rfl (by kernel_rfl) (by kernel_rfl) (by kernel_rfl) (fun _ _ _ h => h) (Or.inl ⟨by rfl, fun w' hw' => by (clear hw'; go_simp)⟩) hHeld ?_
              simp only [Act.put, List.setIfInBounds_toArray, List.set_cons_zero, List.set_cons_succ]
              refine wpAnyH_take (i := 6) (oi := { dst := some 21, op := Op.binOp BinOp.gtr 3 (Operand.tmp 20) (Operand.const (Value.int IntKind.i64 0)) 3, type := 4, pos := "dir.go:79", after := #[{ on := 5, ground := Ground.data }, { on := 4, ground := Ground.guard }], guard := some (4, false) }) (v := .bool true) rfl (by kernel_rfl) (by kernel_rfl) (by kernel_rfl) (fun _ _ _ h => h) (Or.inl ⟨by rfl, fun w' hw' => by (clear hw'; go_simp <;> omega)⟩) hHeld ?_
              simp only [Act.put, List.setIfInBounds_toArray, List.set_cons_zero, List.set_cons_succ]
              refine wpAnyH_take (i := 7) (oi := { dst := some 22, op := Op.move (Operand.tmp 21), type := 4, pos := "dir.go:79", after := #[{ on := 6, ground := Ground.data }, { on := 4, ground := Ground.chain }, { on := 4, ground := Ground.guard }], guard := some (4, false) }) (v := .bool true) rfl (by kernel_rfl) (by kernel_rfl) (by kernel_rfl) (fun _ _ _ h => h) (Or.inl ⟨by rfl, fun w' hw' => by (clear hw'; go_simp)⟩) hHeld ?_
              simp only [Act.put, List.setIfInBounds_toArray, List.set_cons_zero, List.set_cons_succ]
              refine wpAnyH_take (i := 8) (oi := { dst := some 23, op := Op.move (Operand.tmp 0), type := 90, pos := "dir.go:79", after := #[{ on := 7, ground := Ground.guard }], guard := some (7, true) }) (v := .slice (some ⟨g, o, none⟩) n c) rfl (by kernel_rfl) (by kernel_rfl) (by kernel_rfl) (fun _ _ _ h => h) (Or.inl ⟨by rfl, fun w' hw' => by (clear hw'; go_simp)⟩) hHeld ?_
              simp only [Act.put, List.setIfInBounds_toArray, List.set_cons_zero, List.set_cons_succ]
              refine wpAnyH_take (i := 9) (oi := { dst := some 24, op := Op.move (Operand.tmp 3), type := 3, pos := "dir.go:79", after := #[{ on := 7, ground := Ground.guard }], guard := some (7, true) }) (v := .int .i64 (k : Int)) rfl (by kernel_rfl) (by kernel_rfl) (by kernel_rfl) (fun _ _ _ h => h) (Or.inl ⟨by rfl, fun w' hw' => by (clear hw'; go_simp)⟩) hHeld ?_
              simp only [Act.put, List.setIfInBounds_toArray, List.set_cons_zero, List.set_cons_succ]
              refine wpAnyH_take (i := 10) (oi := { dst := some 25, op := Op.binOp BinOp.sub 3 (Operand.tmp 24) (Operand.const (Value.int IntKind.i64 1)) 3, type := 3, pos := "dir.go:79", after := #[{ on := 9, ground := Ground.data }, { on := 7, ground := Ground.guard }], guard := some (7, true) }) (v := .int .i64 (k1 : Int)) rfl (by kernel_rfl) (by kernel_rfl) (by kernel_rfl) (fun _ _ _ h => h) (Or.inl ⟨by rfl, fun w' hw' => by (clear hw'; go_simp)⟩) hHeld ?_
              simp only [Act.put, List.setIfInBounds_toArray, List.set_cons_zero, List.set_cons_succ]
              refine wpAnyH_take (i := 11) (oi := { dst := some 26, op := Op.indexAddr 90 (Operand.tmp 23) (Operand.tmp 25), type := 0, pos := "dir.go:79", after := #[{ on := 8, ground := Ground.data }, { on := 10, ground := Ground.data }, { on := 7, ground := Ground.guard }], guard := some (7, true) }) (v := .pointer (some ⟨g, o + k1 * 34, none⟩)) rfl (by kernel_rfl) (by kernel_rfl) (by kernel_rfl) (fun _ _ _ h => h) (Or.inl ⟨by rfl, fun w' hw' => by (clear hw'; go_simp)⟩) hHeld ?_
              simp only [Act.put, List.setIfInBounds_toArray, List.set_cons_zero, List.set_cons_succ]
              refine wpAnyH_take (i := 12) (oi := { dst := some 27, op := Op.load 70 (Operand.tmp 26), type := 70, pos := "dir.go:79", after := #[{ on := 11, ground := Ground.data }, { on := 7, ground := Ground.guard }], guard := some (7, true) }) (v := .agg cy.toArray) rfl (by kernel_rfl) (by kernel_rfl) (by kernel_rfl) (fun _ _ _ h => h) (yieldsIf_load_mid (by rfl) _ _ rfl g (o + k1 * 34) rfl cy _ (HRY.out) Try.underlying70 rfl HIy.out) hHeld ?_
              simp only [Act.put, List.setIfInBounds_toArray, List.set_cons_zero, List.set_cons_succ]
              refine wpAnyH_take (i := 13) (oi := { dst := some 28, op := Op.load 70 (Operand.tmp 4), type := 70, pos := "dir.go:79", after := #[{ on := 7, ground := Ground.guard }], guard := some (7, true) }) (v := .agg cx.toArray) rfl (by kernel_rfl) (by kernel_rfl) (by kernel_rfl) (fun _ _ _ h => h) (yieldsIf_load_mid (by rfl) _ _ rfl wr.heap.size 0 rfl cx _ (fun V hV => (HW1.out V hV).1) Try.underlying70 rfl HI.out) hHeld ?_
              simp only [Act.put, List.setIfInBounds_toArray, List.set_cons_zero, List.set_cons_succ]
              refine wpAnyH_ready (rs := [14]) (by kernel_rfl) (by simp) ?_
              refine AllReadyH.cons (o := { dst := some 29, op := Op.call { callee := Callee.value (Operand.func 56), args := #[Operand.tmp 27, Operand.tmp 28], argTypes := #[70, 70] }, type := 3, pos := "dir.go:79", after := #[{ on := 12, ground := Ground.data }, { on := 13, ground := Ground.data }, { on := 7, ground := Ground.chain }, { on := 7, ground := Ground.guard }], guard := some (7, true) }) rfl (fun K hK => ?_) AllReadyH.nil
              go_simp
              refine (HCMP.out _).mono ?_
              rintro e4 w4 ⟨rfl, h4⟩
              have HK4 : Hid (Kp No W1 w4) := HK3.out.andNone (Kp.below h4)
              clear h4
              go_wp2_with fail
              refine hK.out _ _ (HK4.out) (fun hh => ?_)
              clear hK K hHeld
              have hHeld := hh
              clear hh
              try simp only [Act.put, List.setIfInBounds_toArray, List.set_cons_zero, List.set_cons_succ]
              refine wpAnyH_take (i := 15) (oi := { dst := some 30, op := Op.binOp BinOp.geq 3 (Operand.tmp 29) (Operand.const (Value.int IntKind.i64 0)) 3, type := 4, pos := "dir.go:79", after := #[{ on := 14, ground := Ground.data }, { on := 7, ground := Ground.guard }], guard := some (7, true) }) (v := .bool false) rfl (by kernel_rfl) (by kernel_rfl) (by kernel_rfl) (fun _ _ _ h => h) (Or.inl ⟨by rfl, fun w' hw' => by (clear hw'; go_simp)⟩) hHeld ?_
              simp only [Act.put, List.setIfInBounds_toArray, List.set_cons_zero, List.set_cons_succ]
              refine wpAnyH_take (i := 16) (oi := { dst := some 31, op := Op.pick (Operand.tmp 22) (Operand.tmp 30) (Operand.const (Value.bool false)), type := 4, pos := "dir.go:79", after := #[{ on := 7, ground := Ground.data }, { on := 15, ground := Ground.data }, { on := 4, ground := Ground.guard }], guard := some (4, false) }) (v := .bool false) rfl (by kernel_rfl) (by kernel_rfl) (by kernel_rfl) (fun _ _ _ h => h) (Or.inl ⟨by rfl, fun w' hw' => by (clear hw'; go_simp)⟩) hHeld ?_
              simp only [Act.put, List.setIfInBounds_toArray, List.set_cons_zero, List.set_cons_succ]
              refine wpAnyH_take (i := 17) (oi := { dst := some 32, op := Op.pick (Operand.tmp 19) (Operand.const (Value.bool true)) (Operand.tmp 31), type := 4, pos := "dir.go:79", after := #[{ on := 4, ground := Ground.data }, { on := 16, ground := Ground.data }], guard := none }) (v := .bool false) rfl (by kernel_rfl) (by kernel_rfl) (by kernel_rfl) (fun _ _ _ h => h) (Or.inl ⟨by rfl, fun w' hw' => by (clear hw'; go_simp)⟩) hHeld ?_
              simp only [Act.put, List.setIfInBounds_toArray, List.set_cons_zero, List.set_cons_succ]
              refine wpAnyH_done (by kernel_rfl) ?_ _
              have HK := hid (HS.out.2.andNone (HW1.out _ HK4.out).2)
              clear hHeld
              go_wp2_with fail
              go_round
              case rel => exact ⟨k + 1, by first | rfl | go_num, by omega, HU.out, HK.out⟩
              case measure => simp [intOf]; omega
            · have HU := hid (HUF.out (by
                cases hb : lexB y.1 e.1 with
                | false => rfl
                | true => exact absurd (HCV.out.2 hb) hz0))
              have hz1 : (0 : Int) ≤ z := by omega
              refine wp_region_held_drew (S := fun V => Kp No W1 V) (by kernel_rfl) ((Kp.refl _ _).drew) (fun hHeld => ?_)
              refine wpAnyH_take (i := 0) (oi := { dst := some 15, op := Op.fieldAddr 70 (Operand.tmp 4) 0, type := 0, pos := "dir.go:79", after := #[], guard := none }) (v := .pointer (some ⟨wr.heap.size, 0, none⟩)) rfl (by kernel_rfl) (by kernel_rfl) (by kernel_rfl) (fun _ _ _ h => h) (Or.inl ⟨by rfl, fun w' hw' => by (clear hw'; go_simp)⟩) hHeld ?_
              simp only [Act.put, List.setIfInBounds_toArray, List.set_cons_zero, List.set_cons_succ]
              refine wpAnyH_take (i := 1) (oi := { dst := some 16, op := Op.load 9 (Operand.tmp 15), type := 9, pos := "dir.go:79", after := #[{ on := 0, ground := Ground.data }], guard := none }) (v := .string T) rfl (by kernel_rfl) (by kernel_rfl) (by kernel_rfl) (fun _ _ _ h => h) (Or.inl ⟨by rfl, fun w' hw' => by (have q := HS0.out _ hw'; clear hw'; go_simp)⟩) hHeld ?_
              simp only [Act.put, List.setIfInBounds_toArray, List.set_cons_zero, List.set_cons_succ]
              refine wpAnyH_ready (rs := [2]) (by kernel_rfl) (by simp) ?_
              refine AllReadyH.cons (o := { dst := some 17, op := Op.call { callee := Callee.value (Operand.func 70), args := #[Operand.tmp 16], argTypes := #[9] }, type := 4, pos := "dir.go:79", after := #[{ on := 1, ground := Ground.data }], guard := none }) rfl (fun K hK => ?_) AllReadyH.nil
              go_simp
              refine (HP.out _).mono ?_
              rintro e3 w3 ⟨rfl, h3⟩
              have HK3 : Hid (Kp No W1 w3) := by rw [h3]; exact (Kp.refl No W1).drew
              clear h3
              go_wp2_with fail
              refine hK.out _ _ (HK3.out) (fun hh => ?_)
              clear hK K hHeld
              have hHeld := hh
              clear hh
              try simp only [Act.put, List.setIfInBounds_toArray, List.set_cons_zero, List.set_cons_succ]
              refine wpAnyH_take (i := 3) (oi := { dst := some 18, op := Op.unOp UnOp.not 4 (Operand.tmp 17), type := 4, pos := "dir.go:79", after := #[{ on := 2, ground := Ground.data }], guard := none }) (v := .bool false) rfl (by kernel_rfl) (by kernel_rfl) (by kernel_rfl) (fun _ _ _ h => h) (Or.inl ⟨by rfl, fun w' hw' => by (clear hw'; go_simp)⟩) hHeld ?_
              simp only [Act.put, List.setIfInBounds_toArray, List.set_cons_zero, List.set_cons_succ]
              refine wpAnyH_take (i := 4) (oi := { dst := some 19, op := Op.move (Operand.tmp 18), type := 4, pos := "dir.go:79", after := #[{ on := 3, ground := Ground.data }, { on := 2, ground := Ground.chain }], guard := none }) (v := .bool false) rfl (by kernel_rfl) (by kernel_rfl) (by kernel_rfl) (fun _ _ _ h => h) (Or.inl ⟨by rfl, fun w' hw' => by (clear hw'; go_simp)⟩) hHeld ?_
              simp only [Act.put, List.setIfInBounds_toArray, List.set_cons_zero, List.set_cons_succ]
              refine wpAnyH_take (i := 5) (oi := { dst := some 20, op := Op.move (Operand.tmp 3), type := 3, pos := "dir.go:79", after := #[{ on := 4, ground := Ground.guard }], guard := some (4, false) }) (v := .int .i64 (k : Int)) rfl (by kernel_rfl) (by kernel_rfl) (by kernel_rfl) (fun _ _ _ h => h) (Or.inl ⟨by rfl, fun w' hw' => by (clear hw'; go_simp)⟩) hHeld ?_
              simp only [Act.put, List.setIfInBounds_toArray, List.set_cons_zero, List.set_cons_succ]
              refine wpAnyH_take (i := 6) (oi := { dst := some 21, op := Op.binOp BinOp.gtr 3 (Operand.tmp 20) (Operand.const (Value.int IntKind.i64 0)) 3, type := 4, pos := "dir.go:79", after := #[{ on := 5, ground := Ground.data }, { on := 4, ground := Ground.guard }], guard := some (4, false) }) (v := .bool true) rfl (by kernel_rfl) (by kernel_rfl) (by kernel_rfl) (fun _ _ _ h => h) (Or.inl ⟨by rfl, fun w' hw' => by (clear hw'; go_simp <;> omega)⟩) hHeld ?_
              simp only [Act.put, List.setIfInBounds_toArray, List.set_cons_zero, List.set_cons_succ]
              refine wpAnyH_take (i := 7) (oi := { dst := some 22, op := Op.move (Operand.tmp 21), type := 4, pos := "dir.go:79", after := #[{ on := 6, ground := Ground.data }, { on := 4, ground := Ground.chain }, { on := 4, ground := Ground.guard }], guard := some (4, false) }) (v := .bool true) rfl (by kernel_rfl) (by kernel_rfl) (by kernel_rfl) (fun _ _ _ h => h) (Or.inl ⟨by rfl, fun w' hw' => by (clear hw'; go_simp)⟩) hHeld ?_
              simp only [Act.put, List.setIfInBounds_toArray, List.set_cons_zero, List.set_cons_succ]
              refine wpAnyH_take (i := 8) (oi := { dst := some 23, op := Op.move (Operand.tmp 0), type := 90, pos := "dir.go:79", after := #[{ on := 7, ground := Ground.guard }], guard := some (7, true) }) (v := .slice (some ⟨g, o, none⟩) n c) rfl (by kernel_rfl) (by kernel_rfl) (by kernel_rfl) (fun _ _ _ h => h) (Or.inl ⟨by rfl, fun w' hw' => by (clear hw'; go_simp)⟩) hHeld ?_
              simp only [Act.put, List.setIfInBounds_toArray, List.set_cons_zero, List.set_cons_succ]
              refine wpAnyH_take (i := 9) (oi := { dst := some 24, op := Op.move (Operand.tmp 3), type := 3, pos := "dir.go:79", after := #[{ on := 7, ground := Ground.guard }], guard := some (7, true) }) (v := .int .i64 (k : Int)) rfl (by kernel_rfl) (by kernel_rfl) (by kernel_rfl) (fun _ _ _ h => h) (Or.inl ⟨by rfl, fun w' hw' => by (clear hw'; go_simp)⟩) hHeld ?_
              simp only [Act.put, List.setIfInBounds_toArray, List.set_cons_zero, List.set_cons_succ]
              refine wpAnyH_take (i := 10) (oi := { dst := some 25, op := Op.binOp BinOp.sub 3 (Operand.tmp 24) (Operand.const (Value.int IntKind.i64 1)) 3, type := 3, pos := "dir.go:79", after := #[{ on := 9, ground := Ground.data }, { on := 7, ground := Ground.guard }], guard := some (7, true) }) (v := .int .i64 (k1 : Int)) rfl (by kernel_rfl) (by kernel_rfl) (by kernel_rfl) (fun _ _ _ h => h) (Or.inl ⟨by rfl, fun w' hw' => by (clear hw'; go_simp)⟩) hHeld ?_
              simp only [Act.put, List.setIfInBounds_toArray, List.set_cons_zero, List.set_cons_succ]
              refine wpAnyH_take (i := 11) (oi := { dst := some 26, op := Op.indexAddr 90 (Operand.tmp 23) (Operand.tmp 25), type := 0, pos := "dir.go:79", after := #[{ on := 8, ground := Ground.data }, { on := 10, ground := Ground.data }, { on := 7, ground := Ground.guard }], guard := some (7, true) }) (v := .pointer (some ⟨g, o + k1 * 34, none⟩)) rfl (by kernel_rfl) (by kernel_rfl) (by kernel_rfl) (fun _ _ _ h => h) (Or.inl ⟨by rfl, fun w' hw' => by (clear hw'; go_simp)⟩) hHeld ?_
              simp only [Act.put, List.setIfInBounds_toArray, List.set_cons_zero, List.set_cons_succ]
              refine wpAnyH_take (i := 12) (oi := { dst := some 27, op := Op.load 70 (Operand.tmp 26), type := 70, pos := "dir.go:79", after := #[{ on := 11, ground := Ground.data }, { on := 7, ground := Ground.guard }], guard := some (7, true) }) (v := .agg cy.toArray) rfl (by kernel_rfl) (by kernel_rfl) (by kernel_rfl) (fun _ _ _ h => h) (yieldsIf_load_mid (by rfl) _ _ rfl g (o + k1 * 34) rfl cy _ (HRY.out) Try.underlying70 rfl HIy.out) hHeld ?_
              simp only [Act.put, List.setIfInBounds_toArray, List.set_cons_zero, List.set_cons_succ]
              refine wpAnyH_take (i := 13) (oi := { dst := some 28, op := Op.load 70 (Operand.tmp 4), type := 70, pos := "dir.go:79", after := #[{ on := 7, ground := Ground.guard }], guard := some (7, true) }) (v := .agg cx.toArray) rfl (by kernel_rfl) (by kernel_rfl) (by kernel_rfl) (fun _ _ _ h => h) (yieldsIf_load_mid (by rfl) _ _ rfl wr.heap.size 0 rfl cx _ (fun V hV => (HW1.out V hV).1) Try.underlying70 rfl HI.out) hHeld ?_
              simp only [Act.put, List.setIfInBounds_toArray, List.set_cons_zero, List.set_cons_succ]
              refine wpAnyH_ready (rs := [14]) (by kernel_rfl) (by simp) ?_
              refine AllReadyH.cons (o := { dst := some 29, op := Op.call { callee := Callee.value (Operand.func 56), args := #[Operand.tmp 27, Operand.tmp 28], argTypes := #[70, 70] }, type := 3, pos := "dir.go:79", after := #[{ on := 12, ground := Ground.data }, { on := 13, ground := Ground.data }, { on := 7, ground := Ground.chain }, { on := 7, ground := Ground.guard }], guard := some (7, true) }) rfl (fun K hK => ?_) AllReadyH.nil
              go_simp
              refine (HCMP.out _).mono ?_
              rintro e4 w4 ⟨rfl, h4⟩
              have HK4 : Hid (Kp No W1 w4) := HK3.out.andNone (Kp.below h4)
              clear h4
              go_wp2_with fail
              refine hK.out _ _ (HK4.out) (fun hh => ?_)
              clear hK K hHeld
              have hHeld := hh
              clear hh
              try simp only [Act.put, List.setIfInBounds_toArray, List.set_cons_zero, List.set_cons_succ]
              refine wpAnyH_take (i := 15) (oi := { dst := some 30, op := Op.binOp BinOp.geq 3 (Operand.tmp 29) (Operand.const (Value.int IntKind.i64 0)) 3, type := 4, pos := "dir.go:79", after := #[{ on := 14, ground := Ground.data }, { on := 7, ground := Ground.guard }], guard := some (7, true) }) (v := .bool true) rfl (by kernel_rfl) (by kernel_rfl) (by kernel_rfl) (fun _ _ _ h => h) (Or.inl ⟨by rfl, fun w' hw' => by (clear hw'; go_simp)⟩) hHeld ?_
              simp only [Act.put, List.setIfInBounds_toArray, List.set_cons_zero, List.set_cons_succ]
              refine wpAnyH_take (i := 16) (oi := { dst := some 31, op := Op.pick (Operand.tmp 22) (Operand.tmp 30) (Operand.const (Value.bool false)), type := 4, pos := "dir.go:79", after := #[{ on := 7, ground := Ground.data }, { on := 15, ground := Ground.data }, { on := 4, ground := Ground.guard }], guard := some (4, false) }) (v := .bool true) rfl (by kernel_rfl) (by kernel_rfl) (by kernel_rfl) (fun _ _ _ h => h) (Or.inl ⟨by rfl, fun w' hw' => by (clear hw'; go_simp)⟩) hHeld ?_
              simp only [Act.put, List.setIfInBounds_toArray, List.set_cons_zero, List.set_cons_succ]
              refine wpAnyH_take (i := 17) (oi := { dst := some 32, op := Op.pick (Operand.tmp 19) (Operand.const (Value.bool true)) (Operand.tmp 31), type := 4, pos := "dir.go:79", after := #[{ on := 4, ground := Ground.data }, { on := 16, ground := Ground.data }], guard := none }) (v := .bool true) rfl (by kernel_rfl) (by kernel_rfl) (by kernel_rfl) (fun _ _ _ h => h) (Or.inl ⟨by rfl, fun w' hw' => by (clear hw'; go_simp)⟩) hHeld ?_
              simp only [Act.put, List.setIfInBounds_toArray, List.set_cons_zero, List.set_cons_succ]
              refine wpAnyH_done (by kernel_rfl) ?_ _
              have HK := hid (HS.out.2.andNone (HW1.out _ HK4.out).2)
              clear hHeld
              go_wp2_with fail
              go_ret
              exact ⟨⟨false, rfl, HU.out⟩, HK.out⟩
      · have hltI : ¬ (k : Int) < (n : Int) := by omega
        have HF : Hid (RightP d) := ⟨by rw [HN.out]; omega, by rw [HN.out, show n = k by omega]; exact HS.out.1⟩
        go_wp2_with fail
        go_ret
        exact ⟨⟨true, rfl, ⟨fun _ => HF.out, fun _ => rfl⟩⟩, HS.out.2⟩
end Go.Proofs.Ytenfahecnkdhaaa.Nd
end
