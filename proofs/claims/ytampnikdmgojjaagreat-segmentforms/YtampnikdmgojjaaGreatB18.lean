/- Of the proof: the texts SgRPut, TlvRefTake, CrcRefOpen, one behind the other. -/
import Derived.Test.YtampnikdmgojjaaGreatB17
import Derived.Test.YtampnikdmgojjaaGreatB15
import Derived.Test.YtampnikdmgojjaaGreatB12
import Derived.Test.YtampnikdmgojjaaGreatB8
import Derived.Test.YtampnikdmgojjaaGreatB9
import Derived.Test.YtampnikdmgojjaaGreatB13
section
/-
  The document's Put of entries.
-/
namespace Go.Proofs.YtampnikdmgojjaaGreat.Sg
open Go.RowKit
open Tlv (Tr Agree AgreeS RepS cellsK cell4)
open Crc (Kept)
open Sim (hid Kp No)

theorem KInv.done {Z : Nat → Prop} {n base : Nat} {ts : List (Tr n)} {v : Value} {w : World} (h : KInv Z base ts v w) (hlen : ts.length ≤ 2199023255552) :
    Tlv.KSlS (fun b => b < w.heap.size) w (RepS (fun b => b < w.heap.size) w n) v ts := by
  obtain ⟨ps, hl, hown, hk⟩ := h
  rcases hown.2 with ⟨rfl, h0⟩ | ⟨g, cap, cur, rfl, hb, hg, hn, hc, hs, ht⟩
  · have : ts = [] := List.length_eq_zero_iff.1 h0
    subst this
    exact Tlv.KSlS.none _ _ _
  · refine ⟨_, cap, rfl, hn, hc, by simp, hlen, fun _ => ⟨g, 0, rfl, (Array.getElem?_eq_some_iff.1 hg).1, fun j t hj => ?_⟩⟩
    have hjl := (List.getElem?_eq_some_iff.1 hj).1
    obtain ⟨p, hp⟩ : ∃ p, ps[j]? = some p := ⟨ps[j]'(by omega), List.getElem?_eq_getElem (by omega)⟩
    have cc : ∀ r, r < 4 → w.cell? ⟨g, 0 + j * 4 + r, none⟩ = (cell4 t p)[r]? := fun r hr4 => by
      rw [Nat.zero_add, hown.cellAt (j * 4 + r) (by omega), Tlv.cellsK_at ts ps j t p r hj hp hr4]
    exact ⟨p.1, p.2, cc 0 (by omega), cc 1 (by omega), cc 2 (by omega), cc 3 (by omega), (hk j t p hj hp).agree (fun _ _ => rfl) (fun b hb => hb.2.1)⟩
theorem run_fourV (C : Array Value) (vn : Value) (p q r : Int) (hC : C = #[.int .i64 2, .int .u64 0, vn, .slice none 0 0, .int .i64 1, .int .u64 p, .slice none 0 0, .slice none 0 0, .int .i64 1, .int .u64 q, .slice none 0 0, .slice none 0 0, .int .i64 1, .int .u64 r, .slice none 0 0, .slice none 0 0]) (w : World) :
    (Instr.buildSlice 92 4 #[(0, .agg #[.int .i64 2, .int .u64 0, vn, .slice none 0 0]), (1, .agg #[.int .i64 1, .int .u64 p, .slice none 0 0, .slice none 0 0]), (2, .agg #[.int .i64 1, .int .u64 q, .slice none 0 0, .slice none 0 0]), (3, .agg #[.int .i64 1, .int .u64 r, .slice none 0 0, .slice none 0 0])]).run Tryz.prog w = .ok (.slice (some ⟨w.heap.size, 0, none⟩) 4 4) (w.alloc (.cells C 94)) := by
  subst hC
  kernel_rfl
theorem run_oneVR (sb sk : Value) (w : World) : (Instr.buildSlice 92 1 #[(0, .agg #[.int .i64 3, .int .u64 0, sb, sk])]).run Tryz.prog w = .ok (.slice (some ⟨w.heap.size, 0, none⟩) 1 1) (w.alloc (.cells #[.int .i64 3, .int .u64 0, sb, sk] 94)) := by kernel_rfl
theorem exec_slice4 {P : Program} {o : Oper} {a : Act} {w w' : World} (t : TypeId) (x0 x1 x2 x3 : Operand) (ho : o.op = .buildSlice t 4 #[(0, x0), (1, x1), (2, x2), (3, x3)]) (v0 v1 v2 v3 u : Value) (h0 : a.eval x0 = v0) (h1 : a.eval x1 = v1) (h2 : a.eval x2 = v2) (h3 : a.eval x3 = v3) (hr : (Instr.buildSlice t 4 #[(0, v0), (1, v1), (2, v2), (3, v3)]).run P w = .ok u w') : (execOp a.eval o).run P w = .ok (.value u) w' := by
  unfold execOp
  simp [ho, h0, h1, h2, h3, hr, Result.andThen]
theorem exec_loadE {P : Program} {o : Oper} {a : Act} {w w' : World} (t : TypeId) (x : Operand) (ho : o.op = .load t x) (vx v : Value) (hx : a.eval x = vx) (hr : (Instr.loadAt t vx).run P w = .ok v w') : (execOp a.eval o).run P w = .ok (.value v) w' := by
  unfold execOp
  simp [ho, hx, hr, Result.andThen]
theorem nameS {W : World} {g o : Nat} {e : Ent} (he : EOk e) (h : W.rangeAt g o (entC e)) : Tlv.BySlS (fun b => b = g) W (.slice (some ⟨g, o, none⟩) 32 32) e.1 := by
  refine ⟨_, 32, by rw [he.1], by rw [he.1]; omega, by decide, by simp, by rw [he.1]; omega, he.2, fun _ => ⟨g, o, rfl, rfl, fun i hi => ?_⟩⟩
  have := h i (.int .u8 (e.1.getD i 0)) (by
    rw [entC, List.getElem?_append_left (by rw [b8_length]; exact hi)]
    simp [b8, List.getElem?_eq_getElem hi])
  exact this

set_option maxHeartbeats 1000000 in
set_option maxRecDepth 100000 in
theorem rput_no (w : World) (v : Value) (d : List Ent) (P : Nat → Prop) (hv : EV P w v d) (hl : d.length ≤ 1000000) (hR : ¬ RightP d) :
    Calls Tryz.prog 9 #[v] w fun e w' => e = .returned (.tuple #[.slice none 0 0, .int .i64 1]) ∧ Kp No w w' := by
  have HR := hid (rright_any w v d P hv hl)
  have HN := hid hR
  obtain ⟨a, c, rfl, _⟩ := hv
  clear hR hl
  go_enter Tryz.func9, Tryz.ntmps9
  go_wp2_with fail
  refine HR.out.mono ?_
  rintro e w1 ⟨⟨b, rfl, hb⟩, hk⟩
  have hbf : b = false := by
    cases b with
    | false => rfl
    | true => exact absurd (hb.1 rfl) HN.out
  subst hbf
  have HK := hid hk
  clear hb hk
  go_wp2_with fail
  go_ret2
  exact ⟨rfl, HK.out⟩

set_option maxHeartbeats 4000000 in
set_option maxRecDepth 100000 in
theorem rput_yes (w : World) (v : Value) (d : List Ent) (P : Nat → Prop) (hv : EV P w v d) (hP : ∀ g, P g → g < w.heap.size) (h1z : 1 ≤ w.heap.size) (hR : RightP d) :
    Calls Tryz.prog 9 #[v] w fun e w' => ∃ v', e = .returned (.tuple #[v', .int .i64 0]) ∧ Crc.Own w' w.heap.size v' (nats (sealE d)) ∧ Kp No w w' := by
  have hok := hv.ok
  have HOK : Hid (∀ e ∈ d, e.1.length = 32) := fun e he => (hok e he).1
  have HEO := hid hok
  have HR := hid (rright_any w v d P hv (by have := hR.1; omega))
  have HRR := hid hR
  have HV := hid hv
  obtain ⟨a, c, e, _⟩ := hv
  subst e
  obtain ⟨n, hn⟩ : ∃ n, d.length = n := ⟨_, rfl⟩
  have HN := hid hn
  have hl : n ≤ 900 := by rw [← hn]; exact hR.1
  rw [hn] at HV HR ⊢
  clear hn hR hok
  go_enter Tryz.func9, Tryz.ntmps9
  go_wp2_with fail
  refine HR.out.mono ?_
  rintro e w1 ⟨⟨bb, rfl, hb⟩, hk⟩
  have hbt : bb = true := hb.2 HRR.out
  subst hbt
  have HK1 := hid hk
  clear hb hk
  go_wp2_with fail
  go_loopw [5] (fun i wr => ∃ (k : Nat) (av : Option Addr) (cv : Nat), i = .int .i64 (k : Int) ∧ k ≤ n ∧ Hid (RI w1 d k (.slice av k cv) wr)) (fun i _ => n - (intOf i).toNat)
  case atStart => exact ⟨0, none, 0, rfl, Nat.zero_le _, RI.start w1 d⟩
  case round =>
    obtain ⟨k, av, cv, rfl, hkn, HS⟩ := hrel
    by_cases hlt : k < n
    · have hltI : (k : Int) < (n : Int) := by omega
      have hwk : IntKind.i64.wrap ((k : Int) + 1) = ((k + 1 : Nat) : Int) := by rw [IntKind.wrap_i64]; omega
      obtain ⟨e, he⟩ : ∃ e, d[k]? = some e := ⟨_, List.getElem?_eq_getElem (by rw [HN.out]; exact hlt)⟩
      have HE := hid he
      have hKw : Kp No w wr := HK1.out.andNone HS.out.2.2.2.2.2.2.2
      obtain ⟨g, o, rfl, hPg, hr⟩ := rev_row (HV.out.kept hKw) (by intro e; have := HN.out; rw [e] at this; simp at this; omega)
      have hgw : g < w.heap.size := hP g hPg
      obtain ⟨nm, p, q, r⟩ := e
      obtain ⟨heo, her⟩ := hr.2 k _ he
      have hbd := plB_bd (HRR.out.places _ (List.mem_of_getElem? he))
      obtain ⟨hbp, hbq, hbr⟩ := hbd
      have hpl := rng_place heo her
      have c0 : wr.cell? ⟨g, o + k * 35 + 32, none⟩ = some (.int .i64 p) := hpl 0 _ rfl
      have c1 : wr.cell? ⟨g, o + k * 35 + 32 + 1, none⟩ = some (.int .i64 q) := hpl 1 _ rfl
      have c2 : wr.cell? ⟨g, o + k * 35 + 32 + 2, none⟩ = some (.int .i64 r) := hpl 2 _ rfl
      have hgr : g < wr.heap.size := hr.1
      have HER := hid her
      have HEE := hid heo
      clear hpl hr her heo he
      obtain ⟨W1, hW1⟩ : ∃ W1, wr.alloc (.cells #[.int .i64 p, .int .i64 q, .int .i64 r] 52) = W1 := ⟨_, rfl⟩
      have hKW : Kp No wr W1 := by rw [← hW1]; exact (Kp.refl No wr).alloc _
      have hzW : W1.heap.size = wr.heap.size + 1 := by rw [← hW1]; simp
      have HKW := hid hKW
      have hb4 : w1.heap.size < wr.heap.size := HS.out.2.2.2.2.2.1
      have hown : ∀ x, (Value.slice av k cv).ownBlock = some x → w1.heap.size + 1 ≤ x ∧ x < wr.heap.size := HS.out.2.2.2.2.2.2.1.lt
      have HOWN := hid hown
      have c3 : ∀ V, Kp No W1 V → V.cell? ⟨w1.heap.size, 3, none⟩ = some (.slice av k cv) := fun V hV => ((hKW.andNone hV).cell (p := ⟨w1.heap.size, 3, none⟩) hb4 (fun x => x)).trans HS.out.2.2.2.1
      have HWV : Hid (∀ V, Kp (fun x => x = w1.heap.size ∨ (Value.slice av k cv).ownBlock = some x) W1 V → V.cell? ⟨wr.heap.size, 0, none⟩ = some (.int .i64 p) ∧ V.cell? ⟨wr.heap.size, 1, none⟩ = some (.int .i64 q) ∧ V.cell? ⟨wr.heap.size, 2, none⟩ = some (.int .i64 r)) := fun V hV => by
        have cc : ∀ j, V.cell? ⟨wr.heap.size, j, none⟩ = W1.cell? ⟨wr.heap.size, j, none⟩ := fun j => hV.cell (p := ⟨wr.heap.size, j, none⟩) (by simp; omega) (fun hx => by
          rcases hx with hx | hx
          · have : wr.heap.size = w1.heap.size := hx
            omega
          · have := (hown _ hx).2
            simp at this)
        rw [cc, cc, cc, ← hW1]
        exact ⟨by simp, by simp, by simp⟩
      have HSTEP : Hid (∀ (W2 W3 : World) (C : Array Value), Kp No W1 W2 → W3 = W2.alloc (.cells C 94) → C = #[.int .i64 2, .int .u64 0, .slice (some ⟨g, o + k * 35, none⟩) 32 32, .slice none 0 0, .int .i64 1, .int .u64 p, .slice none 0 0, .slice none 0 0, .int .i64 1, .int .u64 q, .slice none 0 0, .slice none 0 0, .int .i64 1, .int .u64 r, .slice none 0 0, .slice none 0 0] →
          ∃ g' cap w4, (Builtin.append_ #[92, 92] 92 #[.slice av k cv, .slice (some ⟨W3.heap.size, 0, none⟩) 1 1]).run Tryz.prog (W3.alloc (.cells #[.int .i64 3, .int .u64 0, .slice none 0 0, .slice (some ⟨W2.heap.size, 0, none⟩) 4 4] 94)) = .ok (.slice (some ⟨g', 0, none⟩) (k + 1) cap) w4 ∧
          w4.cell? ⟨w1.heap.size, 3, none⟩ = some (.slice av k cv) ∧ w4.frozen? ⟨w1.heap.size, 3, none⟩ = false ∧ w1.heap.size < w4.heap.size ∧
          RI w1 d (k + 1) (.slice (some ⟨g', 0, none⟩) (k + 1) cap) (w4.setCell ⟨w1.heap.size, 3, none⟩ (.slice (some ⟨g', 0, none⟩) (k + 1) cap)) ∧ Kp (fun x => x = w1.heap.size ∨ (Value.slice av k cv).ownBlock = some x) W1 w4) := fun W2 W3 C hW2 hW3 hC => by
        have k3 : Kp No W1 W3 := by rw [hW3]; exact hW2.alloc _
        have hz2 := hW2.size
        have hzw := HK1.out.size
        have hz3 : W3.heap.size = W2.heap.size + 1 := by rw [hW3]; simp
        have hrep : RepS (fun b => b ≠ w1.heap.size ∧ b < W3.heap.size ∧ (Value.slice av k cv).ownBlock ≠ some b) W3 2 (entT (nm, p, q, r)) (.slice none 0 0) (.slice (some ⟨W2.heap.size, 0, none⟩) 4 4) := by
          refine four_S (g := g) nm p q r (.slice (some ⟨g, o + k * 35, none⟩) 32 32) hbp hbq hbr _ ⟨by omega, by omega, fun e => by have := (HOWN.out _ e).1; omega⟩ ⟨by omega, by omega, fun e => by have := (HOWN.out _ e).2; omega⟩ ?_ ?_
          · have := nameS HEE.out HER.out
            exact this.agree (fun b hb => (HKW.out.andNone k3).block b (by rw [hb]; exact hgr) (fun x => x)) (fun b hb => hb)
          · intro j hj
            rw [hW3, World.cell?_alloc_at _ _ _ _ rfl, hC]
        obtain ⟨g', cap, w4, a1, a2, a3, a4, a5, a6⟩ := HS.out.step (HKW.out.andNone k3) hrep HE.out (by omega) 92
        exact ⟨g', cap, w4, a1, a2, a3, a4, a5, (k3.ofNo).trans a6 (fun x hx => .inl hx)⟩
      have HRN := hid rnum_any
      obtain ⟨C, hC⟩ : ∃ C : Array Value, C = #[.int .i64 2, .int .u64 0, .slice (some ⟨g, o + k * 35, none⟩) 32 32, .slice none 0 0, .int .i64 1, .int .u64 p, .slice none 0 0, .slice none 0 0, .int .i64 1, .int .u64 q, .slice none 0 0, .slice none 0 0, .int .i64 1, .int .u64 r, .slice none 0 0, .slice none 0 0] := ⟨_, rfl⟩
      have HC := hid hC
      have HFB := hid (fun W => run_fourV C (.slice (some ⟨g, o + k * 35, none⟩) 32 32) p q r hC W)
      clear hC hown hb4 hzW hKw HEE HER HE
      go_wp2_with fail
      clear c0 c1 c2 hW1 hKW
      refine wp_region_held_drew (S := fun V => Kp (fun x => x = w1.heap.size ∨ (Value.slice av k cv).ownBlock = some x) W1 V) (by kernel_rfl) ((Kp.refl _ _).drew) (fun hHeld => ?_)
      refine wpAnyH_take (i := 0) (oi := { dst := some 24, op := Op.fieldAddr 94 (Operand.tmp 4) 3, type := 0, pos := "ref.go:54", after := #[], guard := none }) (v := .pointer (some ⟨w1.heap.size, 3, none⟩)) rfl (by kernel_rfl) (by kernel_rfl) (by kernel_rfl) (fun _ _ _ h => h) (Or.inl ⟨by rfl, fun w' hw' => by (clear hw'; go_simp)⟩) hHeld ?_
      simp only [Act.put, List.setIfInBounds_toArray, List.set_cons_zero, List.set_cons_succ]
      refine wpAnyH_take (i := 2) (oi := { dst := some 26, op := Op.move (Operand.tmp 0), type := 22, pos := "ref.go:54", after := #[], guard := none }) (v := .slice (some ⟨g, o, none⟩) n c) rfl (by kernel_rfl) (by kernel_rfl) (by kernel_rfl) (fun _ _ _ h => h) (Or.inl ⟨by rfl, fun w' hw' => by (clear hw'; go_simp)⟩) hHeld ?_
      simp only [Act.put, List.setIfInBounds_toArray, List.set_cons_zero, List.set_cons_succ]
      refine wpAnyH_take (i := 3) (oi := { dst := some 27, op := Op.move (Operand.tmp 5), type := 3, pos := "ref.go:54", after := #[], guard := none }) (v := .int .i64 (k : Int)) rfl (by kernel_rfl) (by kernel_rfl) (by kernel_rfl) (fun _ _ _ h => h) (Or.inl ⟨by rfl, fun w' hw' => by (clear hw'; go_simp)⟩) hHeld ?_
      simp only [Act.put, List.setIfInBounds_toArray, List.set_cons_zero, List.set_cons_succ]
      refine wpAnyH_take (i := 4) (oi := { dst := some 28, op := Op.indexAddr 22 (Operand.tmp 26) (Operand.tmp 27), type := 0, pos := "ref.go:54", after := #[{ on := 2, ground := Ground.data }, { on := 3, ground := Ground.data }], guard := none }) (v := .pointer (some ⟨g, o + k * 35, none⟩)) rfl (by kernel_rfl) (by kernel_rfl) (by kernel_rfl) (fun _ _ _ h => h) (Or.inl ⟨by rfl, fun w' hw' => by (clear hw'; go_simp)⟩) hHeld ?_
      simp only [Act.put, List.setIfInBounds_toArray, List.set_cons_zero, List.set_cons_succ]
      refine wpAnyH_take (i := 5) (oi := { dst := some 29, op := Op.fieldAddr 91 (Operand.tmp 28) 0, type := 0, pos := "ref.go:54", after := #[{ on := 4, ground := Ground.data }], guard := none }) (v := .pointer (some ⟨g, o + k * 35, none⟩)) rfl (by kernel_rfl) (by kernel_rfl) (by kernel_rfl) (fun _ _ _ h => h) (Or.inl ⟨by rfl, fun w' hw' => by (clear hw'; go_simp)⟩) hHeld ?_
      simp only [Act.put, List.setIfInBounds_toArray, List.set_cons_zero, List.set_cons_succ]
      refine wpAnyH_take (i := 6) (oi := { dst := some 30, op := Op.slice 46 (Operand.tmp 29) none none none, type := 23, pos := "ref.go:54", after := #[{ on := 5, ground := Ground.data }], guard := none }) (v := .slice (some ⟨g, o + k * 35, none⟩) 32 32) rfl (by kernel_rfl) (by kernel_rfl) (by kernel_rfl) (fun _ _ _ h => h) (Or.inl ⟨by rfl, fun w' hw' => by (clear hw'; go_simp)⟩) hHeld ?_
      simp only [Act.put, List.setIfInBounds_toArray, List.set_cons_zero, List.set_cons_succ]
      refine wpAnyH_take (i := 7) (oi := { dst := some 31, op := Op.build 94 #[(0, Operand.const (Value.int IntKind.i64 2)), (2, Operand.tmp 30)], type := 94, pos := "ref.go:54", after := #[{ on := 6, ground := Ground.data }], guard := none }) (v := .agg #[.int .i64 2, .int .u64 0, .slice (some ⟨g, o + k * 35, none⟩) 32 32, .slice none 0 0]) rfl (by kernel_rfl) (by kernel_rfl) (by kernel_rfl) (fun _ _ _ h => h) (Or.inl ⟨by rfl, fun w' hw' => by (clear hw'; go_simp)⟩) hHeld ?_
      simp only [Act.put, List.setIfInBounds_toArray, List.set_cons_zero, List.set_cons_succ]
      refine wpAnyH_take (i := 8) (oi := { dst := some 32, op := Op.fieldAddr 52 (Operand.tmp 6) 0, type := 0, pos := "ref.go:54", after := #[], guard := none }) (v := .pointer (some ⟨wr.heap.size, 0, none⟩)) rfl (by kernel_rfl) (by kernel_rfl) (by kernel_rfl) (fun _ _ _ h => h) (Or.inl ⟨by rfl, fun w' hw' => by (clear hw'; go_simp)⟩) hHeld ?_
      simp only [Act.put, List.setIfInBounds_toArray, List.set_cons_zero, List.set_cons_succ]
      refine wpAnyH_take (i := 9) (oi := { dst := some 33, op := Op.load 3 (Operand.tmp 32), type := 3, pos := "ref.go:54", after := #[{ on := 8, ground := Ground.data }], guard := none }) (v := .int .i64 p) rfl (by kernel_rfl) (by kernel_rfl) (by kernel_rfl) (fun _ _ _ h => h) (Or.inl ⟨by rfl, fun w' hw' => by (have qq := (HWV.out _ hw').1; clear hw'; go_simp)⟩) hHeld ?_
      simp only [Act.put, List.setIfInBounds_toArray, List.set_cons_zero, List.set_cons_succ]
      refine wpAnyH_take (i := 11) (oi := { dst := some 35, op := Op.fieldAddr 52 (Operand.tmp 6) 1, type := 0, pos := "ref.go:54", after := #[], guard := none }) (v := .pointer (some ⟨wr.heap.size, 1, none⟩)) rfl (by kernel_rfl) (by kernel_rfl) (by kernel_rfl) (fun _ _ _ h => h) (Or.inl ⟨by rfl, fun w' hw' => by (clear hw'; go_simp)⟩) hHeld ?_
      simp only [Act.put, List.setIfInBounds_toArray, List.set_cons_zero, List.set_cons_succ]
      refine wpAnyH_take (i := 12) (oi := { dst := some 36, op := Op.load 3 (Operand.tmp 35), type := 3, pos := "ref.go:54", after := #[{ on := 11, ground := Ground.data }], guard := none }) (v := .int .i64 q) rfl (by kernel_rfl) (by kernel_rfl) (by kernel_rfl) (fun _ _ _ h => h) (Or.inl ⟨by rfl, fun w' hw' => by (have qq := (HWV.out _ hw').2.1; clear hw'; go_simp)⟩) hHeld ?_
      simp only [Act.put, List.setIfInBounds_toArray, List.set_cons_zero, List.set_cons_succ]
      refine wpAnyH_take (i := 14) (oi := { dst := some 38, op := Op.fieldAddr 52 (Operand.tmp 6) 2, type := 0, pos := "ref.go:54", after := #[], guard := none }) (v := .pointer (some ⟨wr.heap.size, 2, none⟩)) rfl (by kernel_rfl) (by kernel_rfl) (by kernel_rfl) (fun _ _ _ h => h) (Or.inl ⟨by rfl, fun w' hw' => by (clear hw'; go_simp)⟩) hHeld ?_
      simp only [Act.put, List.setIfInBounds_toArray, List.set_cons_zero, List.set_cons_succ]
      refine wpAnyH_take (i := 15) (oi := { dst := some 39, op := Op.load 3 (Operand.tmp 38), type := 3, pos := "ref.go:54", after := #[{ on := 14, ground := Ground.data }], guard := none }) (v := .int .i64 r) rfl (by kernel_rfl) (by kernel_rfl) (by kernel_rfl) (fun _ _ _ h => h) (Or.inl ⟨by rfl, fun w' hw' => by (have qq := (HWV.out _ hw').2.2; clear hw'; go_simp)⟩) hHeld ?_
      simp only [Act.put, List.setIfInBounds_toArray, List.set_cons_zero, List.set_cons_succ]
      refine wpAnyH_ready (rs := [1, 10]) (by kernel_rfl) (by simp) ?_
      refine (AllReadyH.cons (o := { dst := some 25, op := Op.load 92 (Operand.tmp 24), type := 92, pos := "ref.go:54", after := #[{ on := 0, ground := Ground.data }], guard := none }) rfl (fun K hK => ?_) (AllReadyH.cons (o := { dst := some 34, op := Op.call { callee := Callee.value (Operand.func 31), args := #[Operand.tmp 33], argTypes := #[3] }, type := 94, pos := "ref.go:54", after := #[{ on := 9, ground := Ground.data }], guard := none }) rfl (fun K hK => ?_) AllReadyH.nil))
      · have q3 := c3 (W1.drew) ((Kp.refl No W1).drew)
        go_simp
        refine hK.out _ _ ((((Kp.refl No W1).drew).ofNo)) (fun hh => ?_)
        clear hK K hHeld
        have hHeld := hh
        clear hh
        try simp only [Act.put, List.setIfInBounds_toArray, List.set_cons_zero, List.set_cons_succ]
        refine wpAnyH_ready (rs := [10]) (by kernel_rfl) (by simp) ?_
        refine (AllReadyH.cons (o := { dst := some 34, op := Op.call { callee := Callee.value (Operand.func 31), args := #[Operand.tmp 33], argTypes := #[3] }, type := 94, pos := "ref.go:54", after := #[{ on := 9, ground := Ground.data }], guard := none }) rfl (fun K hK => ?_) AllReadyH.nil)
        go_simp
        refine (HRN.out p _ hbp.1 hbp.2).mono ?_
        rintro e' wa ⟨rfl, hkx⟩
        have HKa : Hid (Kp No W1 wa) := ((Kp.refl No W1).drew).andNone hkx
        clear hkx
        go_wp2_with fail
        refine hK.out _ _ ((HKa.out.ofNo)) (fun hh => ?_)
        clear hK K hHeld
        have hHeld := hh
        clear hh
        try simp only [Act.put, List.setIfInBounds_toArray, List.set_cons_zero, List.set_cons_succ]
        refine wpAnyH_ready (rs := [13]) (by kernel_rfl) (by simp) ?_
        refine (AllReadyH.cons (o := { dst := some 37, op := Op.call { callee := Callee.value (Operand.func 31), args := #[Operand.tmp 36], argTypes := #[3] }, type := 94, pos := "ref.go:54", after := #[{ on := 12, ground := Ground.data }, { on := 10, ground := Ground.chain }], guard := none }) rfl (fun K hK => ?_) AllReadyH.nil)
        go_simp
        refine (HRN.out q _ hbq.1 hbq.2).mono ?_
        rintro e' wb ⟨rfl, hkx⟩
        have HKb : Hid (Kp No W1 wb) := HKa.out.andNone hkx
        clear hkx
        go_wp2_with fail
        refine hK.out _ _ ((HKb.out.ofNo)) (fun hh => ?_)
        clear hK K hHeld
        have hHeld := hh
        clear hh
        try simp only [Act.put, List.setIfInBounds_toArray, List.set_cons_zero, List.set_cons_succ]
        refine wpAnyH_ready (rs := [16]) (by kernel_rfl) (by simp) ?_
        refine (AllReadyH.cons (o := { dst := some 40, op := Op.call { callee := Callee.value (Operand.func 31), args := #[Operand.tmp 39], argTypes := #[3] }, type := 94, pos := "ref.go:54", after := #[{ on := 15, ground := Ground.data }, { on := 13, ground := Ground.chain }], guard := none }) rfl (fun K hK => ?_) AllReadyH.nil)
        go_simp
        refine (HRN.out r _ hbr.1 hbr.2).mono ?_
        rintro e' wc ⟨rfl, hkx⟩
        have HKc : Hid (Kp No W1 wc) := HKb.out.andNone hkx
        clear hkx
        obtain ⟨g', cap, w4, hap, k3, kf, ks, hri, hkp⟩ := HSTEP.out wc (wc.alloc (.cells C 94)) C HKc.out rfl HC.out
        have HAP := hid hap
        have HRI := hid hri
        have HKP := hid hkp
        clear hap hri hkp
        go_wp2_with fail
        refine hK.out _ _ ((HKc.out.ofNo)) (fun hh => ?_)
        clear hK K hHeld
        have hHeld := hh
        clear hh
        try simp only [Act.put, List.setIfInBounds_toArray, List.set_cons_zero, List.set_cons_succ]
        refine wpAnyH_ready (rs := [17]) (by kernel_rfl) (by simp) ?_
        refine (AllReadyH.cons (o := { dst := some 41, op := Op.buildSlice 92 4 #[(0, Operand.tmp 31), (1, Operand.tmp 34), (2, Operand.tmp 37), (3, Operand.tmp 40)], type := 92, pos := "ref.go:54", after := #[{ on := 7, ground := Ground.data }, { on := 10, ground := Ground.data }, { on := 13, ground := Ground.data }, { on := 16, ground := Ground.data }], guard := none }) rfl (fun K hK => ?_) AllReadyH.nil)
        rw [if_pos (by rfl)]
        refine wp_valE (exec_slice4 92 _ _ _ _ rfl (.agg #[.int .i64 2, .int .u64 0, .slice (some ⟨g, o + k * 35, none⟩) 32 32, .slice none 0 0]) (.agg #[.int .i64 1, .int .u64 p, .slice none 0 0, .slice none 0 0]) (.agg #[.int .i64 1, .int .u64 q, .slice none 0 0, .slice none 0 0]) (.agg #[.int .i64 1, .int .u64 r, .slice none 0 0, .slice none 0 0]) _ rfl rfl rfl rfl (HFB.out _)) ?_
        refine hK.out _ _ (((HKc.out.alloc _).ofNo)) (fun hh => ?_)
        clear hK K hHeld
        have hHeld := hh
        clear hh
        try simp only [Act.put, List.setIfInBounds_toArray, List.set_cons_zero, List.set_cons_succ]
        refine wpAnyH_take (i := 18) (oi := { dst := some 42, op := Op.build 94 #[(0, Operand.const (Value.int IntKind.i64 3)), (3, Operand.tmp 41)], type := 94, pos := "ref.go:54", after := #[{ on := 17, ground := Ground.data }], guard := none }) (v := .agg #[.int .i64 3, .int .u64 0, .slice none 0 0, .slice (some ⟨wc.heap.size, 0, none⟩) 4 4]) rfl (by kernel_rfl) (by kernel_rfl) (by kernel_rfl) (fun _ _ _ h => h) (Or.inl ⟨by rfl, fun w' hw' => by (clear hw'; go_simp)⟩) hHeld ?_
        simp only [Act.put, List.setIfInBounds_toArray, List.set_cons_zero, List.set_cons_succ]
        refine wpAnyH_ready (rs := [19]) (by kernel_rfl) (by simp) ?_
        refine (AllReadyH.cons (o := { dst := some 43, op := Op.buildSlice 92 1 #[(0, Operand.tmp 42)], type := 92, pos := "ref.go:54", after := #[{ on := 18, ground := Ground.data }], guard := none }) rfl (fun K hK => ?_) AllReadyH.nil)
        rw [if_pos (by rfl)]
        refine wp_valE (exec_sliceE 92 _ rfl (.agg #[.int .i64 3, .int .u64 0, .slice none 0 0, .slice (some ⟨wc.heap.size, 0, none⟩) 4 4]) _ rfl (run_oneVR _ _ _)) ?_
        refine hK.out _ _ ((((HKc.out.alloc _).alloc _).ofNo)) (fun hh => ?_)
        clear hK K hHeld
        have hHeld := hh
        clear hh
        try simp only [Act.put, List.setIfInBounds_toArray, List.set_cons_zero, List.set_cons_succ]
        refine wpAnyH_ready (rs := [20]) (by kernel_rfl) (by simp) ?_
        refine (AllReadyH.cons (o := { dst := some 44, op := Op.call { callee := Callee.builtin Builtin.append, args := #[Operand.tmp 25, Operand.tmp 43], argTypes := #[92, 92] }, type := 92, pos := "ref.go:54", after := #[{ on := 1, ground := Ground.data }, { on := 19, ground := Ground.data }, { on := 16, ground := Ground.chain }], guard := none }) rfl (fun K hK => ?_) AllReadyH.nil)
        rw [if_pos (by rfl)]
        refine wp_valE (exec_appE _ _ 92 rfl (.slice av k cv) (.slice (some ⟨(wc.alloc (.cells C 94)).heap.size, 0, none⟩) 1 1) _ rfl rfl HAP.out) ?_
        refine hK.out _ _ (HKP.out) (fun hh => ?_)
        clear hK K hHeld
        have hHeld := hh
        clear hh
        try simp only [Act.put, List.setIfInBounds_toArray, List.set_cons_zero, List.set_cons_succ]
        refine wpAnyH_take (i := 21) (oi := { dst := some 45, op := Op.fieldAddr 94 (Operand.tmp 4) 3, type := 0, pos := "ref.go:54", after := #[{ on := 0, ground := Ground.phase }, { on := 1, ground := Ground.phase }, { on := 2, ground := Ground.phase }, { on := 3, ground := Ground.phase }, { on := 4, ground := Ground.phase }, { on := 5, ground := Ground.phase }, { on := 6, ground := Ground.phase }, { on := 7, ground := Ground.phase }, { on := 8, ground := Ground.phase }, { on := 9, ground := Ground.phase }, { on := 10, ground := Ground.phase }, { on := 11, ground := Ground.phase }, { on := 12, ground := Ground.phase }, { on := 13, ground := Ground.phase }, { on := 14, ground := Ground.phase }, { on := 15, ground := Ground.phase }, { on := 16, ground := Ground.phase }, { on := 17, ground := Ground.phase }, { on := 18, ground := Ground.phase }, { on := 19, ground := Ground.phase }, { on := 20, ground := Ground.phase }], guard := none }) (v := .pointer (some ⟨w1.heap.size, 3, none⟩)) rfl (by kernel_rfl) (by kernel_rfl) (by kernel_rfl) (fun _ _ _ h => h) (Or.inl ⟨by rfl, fun w' hw' => by (clear hw'; go_simp)⟩) hHeld ?_
        simp only [Act.put, List.setIfInBounds_toArray, List.set_cons_zero, List.set_cons_succ]
        refine wpAnyH_ready (rs := [22]) (by kernel_rfl) (by simp) ?_
        refine (AllReadyH.cons (o := { dst := none, op := Op.store 92 (Operand.tmp 45) (Operand.tmp 44), type := 0, pos := "ref.go:54", after := #[{ on := 21, ground := Ground.data }, { on := 20, ground := Ground.data }, { on := 20, ground := Ground.chain }, { on := 0, ground := Ground.phase }, { on := 1, ground := Ground.phase }, { on := 2, ground := Ground.phase }, { on := 3, ground := Ground.phase }, { on := 4, ground := Ground.phase }, { on := 5, ground := Ground.phase }, { on := 6, ground := Ground.phase }, { on := 7, ground := Ground.phase }, { on := 8, ground := Ground.phase }, { on := 9, ground := Ground.phase }, { on := 10, ground := Ground.phase }, { on := 11, ground := Ground.phase }, { on := 12, ground := Ground.phase }, { on := 13, ground := Ground.phase }, { on := 14, ground := Ground.phase }, { on := 15, ground := Ground.phase }, { on := 16, ground := Ground.phase }, { on := 17, ground := Ground.phase }, { on := 18, ground := Ground.phase }, { on := 19, ground := Ground.phase }, { on := 20, ground := Ground.phase }], guard := none }) rfl (fun K hK => ?_) AllReadyH.nil)
        go_simp
        refine hK.out _ _ ((HKP.out.setCell (p := ⟨w1.heap.size, 3, none⟩) (.inl (.inl rfl)) _)) (fun hh => ?_)
        clear hK K hHeld
        have hHeld := hh
        clear hh
        try simp only [Act.put, List.setIfInBounds_toArray, List.set_cons_zero, List.set_cons_succ]
        refine wpAnyH_done (by kernel_rfl) ?_ _
        clear hHeld
        go_wp2_with fail
        go_round
        case rel => exact ⟨k + 1, some ⟨g', 0, none⟩, cap, by first | rfl | go_num, by omega, HRI.out⟩
        case measure => simp [intOf]; omega
      · go_simp
        refine (HRN.out p _ hbp.1 hbp.2).mono ?_
        rintro e' wa ⟨rfl, hkx⟩
        have HKa : Hid (Kp No W1 wa) := ((Kp.refl No W1).drew).andNone hkx
        clear hkx
        go_wp2_with fail
        refine hK.out _ _ ((HKa.out.ofNo)) (fun hh => ?_)
        clear hK K hHeld
        have hHeld := hh
        clear hh
        try simp only [Act.put, List.setIfInBounds_toArray, List.set_cons_zero, List.set_cons_succ]
        refine wpAnyH_ready (rs := [1, 13]) (by kernel_rfl) (by simp) ?_
        refine (AllReadyH.cons (o := { dst := some 25, op := Op.load 92 (Operand.tmp 24), type := 92, pos := "ref.go:54", after := #[{ on := 0, ground := Ground.data }], guard := none }) rfl (fun K hK => ?_) (AllReadyH.cons (o := { dst := some 37, op := Op.call { callee := Callee.value (Operand.func 31), args := #[Operand.tmp 36], argTypes := #[3] }, type := 94, pos := "ref.go:54", after := #[{ on := 12, ground := Ground.data }, { on := 10, ground := Ground.chain }], guard := none }) rfl (fun K hK => ?_) AllReadyH.nil))
        · have q3 := c3 (wa) HKa.out
          go_simp
          refine hK.out _ _ ((HKa.out.ofNo)) (fun hh => ?_)
          clear hK K hHeld
          have hHeld := hh
          clear hh
          try simp only [Act.put, List.setIfInBounds_toArray, List.set_cons_zero, List.set_cons_succ]
          refine wpAnyH_ready (rs := [13]) (by kernel_rfl) (by simp) ?_
          refine (AllReadyH.cons (o := { dst := some 37, op := Op.call { callee := Callee.value (Operand.func 31), args := #[Operand.tmp 36], argTypes := #[3] }, type := 94, pos := "ref.go:54", after := #[{ on := 12, ground := Ground.data }, { on := 10, ground := Ground.chain }], guard := none }) rfl (fun K hK => ?_) AllReadyH.nil)
          go_simp
          refine (HRN.out q _ hbq.1 hbq.2).mono ?_
          rintro e' wb ⟨rfl, hkx⟩
          have HKb : Hid (Kp No W1 wb) := HKa.out.andNone hkx
          clear hkx
          go_wp2_with fail
          refine hK.out _ _ ((HKb.out.ofNo)) (fun hh => ?_)
          clear hK K hHeld
          have hHeld := hh
          clear hh
          try simp only [Act.put, List.setIfInBounds_toArray, List.set_cons_zero, List.set_cons_succ]
          refine wpAnyH_ready (rs := [16]) (by kernel_rfl) (by simp) ?_
          refine (AllReadyH.cons (o := { dst := some 40, op := Op.call { callee := Callee.value (Operand.func 31), args := #[Operand.tmp 39], argTypes := #[3] }, type := 94, pos := "ref.go:54", after := #[{ on := 15, ground := Ground.data }, { on := 13, ground := Ground.chain }], guard := none }) rfl (fun K hK => ?_) AllReadyH.nil)
          go_simp
          refine (HRN.out r _ hbr.1 hbr.2).mono ?_
          rintro e' wc ⟨rfl, hkx⟩
          have HKc : Hid (Kp No W1 wc) := HKb.out.andNone hkx
          clear hkx
          obtain ⟨g', cap, w4, hap, k3, kf, ks, hri, hkp⟩ := HSTEP.out wc (wc.alloc (.cells C 94)) C HKc.out rfl HC.out
          have HAP := hid hap
          have HRI := hid hri
          have HKP := hid hkp
          clear hap hri hkp
          go_wp2_with fail
          refine hK.out _ _ ((HKc.out.ofNo)) (fun hh => ?_)
          clear hK K hHeld
          have hHeld := hh
          clear hh
          try simp only [Act.put, List.setIfInBounds_toArray, List.set_cons_zero, List.set_cons_succ]
          refine wpAnyH_ready (rs := [17]) (by kernel_rfl) (by simp) ?_
          refine (AllReadyH.cons (o := { dst := some 41, op := Op.buildSlice 92 4 #[(0, Operand.tmp 31), (1, Operand.tmp 34), (2, Operand.tmp 37), (3, Operand.tmp 40)], type := 92, pos := "ref.go:54", after := #[{ on := 7, ground := Ground.data }, { on := 10, ground := Ground.data }, { on := 13, ground := Ground.data }, { on := 16, ground := Ground.data }], guard := none }) rfl (fun K hK => ?_) AllReadyH.nil)
          rw [if_pos (by rfl)]
          refine wp_valE (exec_slice4 92 _ _ _ _ rfl (.agg #[.int .i64 2, .int .u64 0, .slice (some ⟨g, o + k * 35, none⟩) 32 32, .slice none 0 0]) (.agg #[.int .i64 1, .int .u64 p, .slice none 0 0, .slice none 0 0]) (.agg #[.int .i64 1, .int .u64 q, .slice none 0 0, .slice none 0 0]) (.agg #[.int .i64 1, .int .u64 r, .slice none 0 0, .slice none 0 0]) _ rfl rfl rfl rfl (HFB.out _)) ?_
          refine hK.out _ _ (((HKc.out.alloc _).ofNo)) (fun hh => ?_)
          clear hK K hHeld
          have hHeld := hh
          clear hh
          try simp only [Act.put, List.setIfInBounds_toArray, List.set_cons_zero, List.set_cons_succ]
          refine wpAnyH_take (i := 18) (oi := { dst := some 42, op := Op.build 94 #[(0, Operand.const (Value.int IntKind.i64 3)), (3, Operand.tmp 41)], type := 94, pos := "ref.go:54", after := #[{ on := 17, ground := Ground.data }], guard := none }) (v := .agg #[.int .i64 3, .int .u64 0, .slice none 0 0, .slice (some ⟨wc.heap.size, 0, none⟩) 4 4]) rfl (by kernel_rfl) (by kernel_rfl) (by kernel_rfl) (fun _ _ _ h => h) (Or.inl ⟨by rfl, fun w' hw' => by (clear hw'; go_simp)⟩) hHeld ?_
          simp only [Act.put, List.setIfInBounds_toArray, List.set_cons_zero, List.set_cons_succ]
          refine wpAnyH_ready (rs := [19]) (by kernel_rfl) (by simp) ?_
          refine (AllReadyH.cons (o := { dst := some 43, op := Op.buildSlice 92 1 #[(0, Operand.tmp 42)], type := 92, pos := "ref.go:54", after := #[{ on := 18, ground := Ground.data }], guard := none }) rfl (fun K hK => ?_) AllReadyH.nil)
          rw [if_pos (by rfl)]
          refine wp_valE (exec_sliceE 92 _ rfl (.agg #[.int .i64 3, .int .u64 0, .slice none 0 0, .slice (some ⟨wc.heap.size, 0, none⟩) 4 4]) _ rfl (run_oneVR _ _ _)) ?_
          refine hK.out _ _ ((((HKc.out.alloc _).alloc _).ofNo)) (fun hh => ?_)
          clear hK K hHeld
          have hHeld := hh
          clear hh
          try simp only [Act.put, List.setIfInBounds_toArray, List.set_cons_zero, List.set_cons_succ]
          refine wpAnyH_ready (rs := [20]) (by kernel_rfl) (by simp) ?_
          refine (AllReadyH.cons (o := { dst := some 44, op := Op.call { callee := Callee.builtin Builtin.append, args := #[Operand.tmp 25, Operand.tmp 43], argTypes := #[92, 92] }, type := 92, pos := "ref.go:54", after := #[{ on := 1, ground := Ground.data }, { on := 19, ground := Ground.data }, { on := 16, ground := Ground.chain }], guard := none }) rfl (fun K hK => ?_) AllReadyH.nil)
          rw [if_pos (by rfl)]
          refine wp_valE (exec_appE _ _ 92 rfl (.slice av k cv) (.slice (some ⟨(wc.alloc (.cells C 94)).heap.size, 0, none⟩) 1 1) _ rfl rfl HAP.out) ?_
          refine hK.out _ _ (HKP.out) (fun hh => ?_)
          clear hK K hHeld
          have hHeld := hh
          clear hh
          try simp only [Act.put, List.setIfInBounds_toArray, List.set_cons_zero, List.set_cons_succ]
          refine wpAnyH_take (i := 21) (oi := { dst := some 45, op := Op.fieldAddr 94 (Operand.tmp 4) 3, type := 0, pos := "ref.go:54", after := #[{ on := 0, ground := Ground.phase }, { on := 1, ground := Ground.phase }, { on := 2, ground := Ground.phase }, { on := 3, ground := Ground.phase }, { on := 4, ground := Ground.phase }, { on := 5, ground := Ground.phase }, { on := 6, ground := Ground.phase }, { on := 7, ground := Ground.phase }, { on := 8, ground := Ground.phase }, { on := 9, ground := Ground.phase }, { on := 10, ground := Ground.phase }, { on := 11, ground := Ground.phase }, { on := 12, ground := Ground.phase }, { on := 13, ground := Ground.phase }, { on := 14, ground := Ground.phase }, { on := 15, ground := Ground.phase }, { on := 16, ground := Ground.phase }, { on := 17, ground := Ground.phase }, { on := 18, ground := Ground.phase }, { on := 19, ground := Ground.phase }, { on := 20, ground := Ground.phase }], guard := none }) (v := .pointer (some ⟨w1.heap.size, 3, none⟩)) rfl (by kernel_rfl) (by kernel_rfl) (by kernel_rfl) (fun _ _ _ h => h) (Or.inl ⟨by rfl, fun w' hw' => by (clear hw'; go_simp)⟩) hHeld ?_
          simp only [Act.put, List.setIfInBounds_toArray, List.set_cons_zero, List.set_cons_succ]
          refine wpAnyH_ready (rs := [22]) (by kernel_rfl) (by simp) ?_
          refine (AllReadyH.cons (o := { dst := none, op := Op.store 92 (Operand.tmp 45) (Operand.tmp 44), type := 0, pos := "ref.go:54", after := #[{ on := 21, ground := Ground.data }, { on := 20, ground := Ground.data }, { on := 20, ground := Ground.chain }, { on := 0, ground := Ground.phase }, { on := 1, ground := Ground.phase }, { on := 2, ground := Ground.phase }, { on := 3, ground := Ground.phase }, { on := 4, ground := Ground.phase }, { on := 5, ground := Ground.phase }, { on := 6, ground := Ground.phase }, { on := 7, ground := Ground.phase }, { on := 8, ground := Ground.phase }, { on := 9, ground := Ground.phase }, { on := 10, ground := Ground.phase }, { on := 11, ground := Ground.phase }, { on := 12, ground := Ground.phase }, { on := 13, ground := Ground.phase }, { on := 14, ground := Ground.phase }, { on := 15, ground := Ground.phase }, { on := 16, ground := Ground.phase }, { on := 17, ground := Ground.phase }, { on := 18, ground := Ground.phase }, { on := 19, ground := Ground.phase }, { on := 20, ground := Ground.phase }], guard := none }) rfl (fun K hK => ?_) AllReadyH.nil)
          go_simp
          refine hK.out _ _ ((HKP.out.setCell (p := ⟨w1.heap.size, 3, none⟩) (.inl (.inl rfl)) _)) (fun hh => ?_)
          clear hK K hHeld
          have hHeld := hh
          clear hh
          try simp only [Act.put, List.setIfInBounds_toArray, List.set_cons_zero, List.set_cons_succ]
          refine wpAnyH_done (by kernel_rfl) ?_ _
          clear hHeld
          go_wp2_with fail
          go_round
          case rel => exact ⟨k + 1, some ⟨g', 0, none⟩, cap, by first | rfl | go_num, by omega, HRI.out⟩
          case measure => simp [intOf]; omega
        · go_simp
          refine (HRN.out q _ hbq.1 hbq.2).mono ?_
          rintro e' wb ⟨rfl, hkx⟩
          have HKb : Hid (Kp No W1 wb) := HKa.out.andNone hkx
          clear hkx
          go_wp2_with fail
          refine hK.out _ _ ((HKb.out.ofNo)) (fun hh => ?_)
          clear hK K hHeld
          have hHeld := hh
          clear hh
          try simp only [Act.put, List.setIfInBounds_toArray, List.set_cons_zero, List.set_cons_succ]
          refine wpAnyH_ready (rs := [1, 16]) (by kernel_rfl) (by simp) ?_
          refine (AllReadyH.cons (o := { dst := some 25, op := Op.load 92 (Operand.tmp 24), type := 92, pos := "ref.go:54", after := #[{ on := 0, ground := Ground.data }], guard := none }) rfl (fun K hK => ?_) (AllReadyH.cons (o := { dst := some 40, op := Op.call { callee := Callee.value (Operand.func 31), args := #[Operand.tmp 39], argTypes := #[3] }, type := 94, pos := "ref.go:54", after := #[{ on := 15, ground := Ground.data }, { on := 13, ground := Ground.chain }], guard := none }) rfl (fun K hK => ?_) AllReadyH.nil))
          · have q3 := c3 (wb) HKb.out
            go_simp
            refine hK.out _ _ ((HKb.out.ofNo)) (fun hh => ?_)
            clear hK K hHeld
            have hHeld := hh
            clear hh
            try simp only [Act.put, List.setIfInBounds_toArray, List.set_cons_zero, List.set_cons_succ]
            refine wpAnyH_ready (rs := [16]) (by kernel_rfl) (by simp) ?_
            refine (AllReadyH.cons (o := { dst := some 40, op := Op.call { callee := Callee.value (Operand.func 31), args := #[Operand.tmp 39], argTypes := #[3] }, type := 94, pos := "ref.go:54", after := #[{ on := 15, ground := Ground.data }, { on := 13, ground := Ground.chain }], guard := none }) rfl (fun K hK => ?_) AllReadyH.nil)
            go_simp
            refine (HRN.out r _ hbr.1 hbr.2).mono ?_
            rintro e' wc ⟨rfl, hkx⟩
            have HKc : Hid (Kp No W1 wc) := HKb.out.andNone hkx
            clear hkx
            obtain ⟨g', cap, w4, hap, k3, kf, ks, hri, hkp⟩ := HSTEP.out wc (wc.alloc (.cells C 94)) C HKc.out rfl HC.out
            have HAP := hid hap
            have HRI := hid hri
            have HKP := hid hkp
            clear hap hri hkp
            go_wp2_with fail
            refine hK.out _ _ ((HKc.out.ofNo)) (fun hh => ?_)
            clear hK K hHeld
            have hHeld := hh
            clear hh
            try simp only [Act.put, List.setIfInBounds_toArray, List.set_cons_zero, List.set_cons_succ]
            refine wpAnyH_ready (rs := [17]) (by kernel_rfl) (by simp) ?_
            refine (AllReadyH.cons (o := { dst := some 41, op := Op.buildSlice 92 4 #[(0, Operand.tmp 31), (1, Operand.tmp 34), (2, Operand.tmp 37), (3, Operand.tmp 40)], type := 92, pos := "ref.go:54", after := #[{ on := 7, ground := Ground.data }, { on := 10, ground := Ground.data }, { on := 13, ground := Ground.data }, { on := 16, ground := Ground.data }], guard := none }) rfl (fun K hK => ?_) AllReadyH.nil)
            rw [if_pos (by rfl)]
            refine wp_valE (exec_slice4 92 _ _ _ _ rfl (.agg #[.int .i64 2, .int .u64 0, .slice (some ⟨g, o + k * 35, none⟩) 32 32, .slice none 0 0]) (.agg #[.int .i64 1, .int .u64 p, .slice none 0 0, .slice none 0 0]) (.agg #[.int .i64 1, .int .u64 q, .slice none 0 0, .slice none 0 0]) (.agg #[.int .i64 1, .int .u64 r, .slice none 0 0, .slice none 0 0]) _ rfl rfl rfl rfl (HFB.out _)) ?_
            refine hK.out _ _ (((HKc.out.alloc _).ofNo)) (fun hh => ?_)
            clear hK K hHeld
            have hHeld := hh
            clear hh
            try simp only [Act.put, List.setIfInBounds_toArray, List.set_cons_zero, List.set_cons_succ]
            refine wpAnyH_take (i := 18) (oi := { dst := some 42, op := Op.build 94 #[(0, Operand.const (Value.int IntKind.i64 3)), (3, Operand.tmp 41)], type := 94, pos := "ref.go:54", after := #[{ on := 17, ground := Ground.data }], guard := none }) (v := .agg #[.int .i64 3, .int .u64 0, .slice none 0 0, .slice (some ⟨wc.heap.size, 0, none⟩) 4 4]) rfl (by kernel_rfl) (by kernel_rfl) (by kernel_rfl) (fun _ _ _ h => h) (Or.inl ⟨by rfl, fun w' hw' => by (clear hw'; go_simp)⟩) hHeld ?_
            simp only [Act.put, List.setIfInBounds_toArray, List.set_cons_zero, List.set_cons_succ]
            refine wpAnyH_ready (rs := [19]) (by kernel_rfl) (by simp) ?_
            refine (AllReadyH.cons (o := { dst := some 43, op := Op.buildSlice 92 1 #[(0, Operand.tmp 42)], type := 92, pos := "ref.go:54", after := #[{ on := 18, ground := Ground.data }], guard := none }) rfl (fun K hK => ?_) AllReadyH.nil)
            rw [if_pos (by rfl)]
            refine wp_valE (exec_sliceE 92 _ rfl (.agg #[.int .i64 3, .int .u64 0, .slice none 0 0, .slice (some ⟨wc.heap.size, 0, none⟩) 4 4]) _ rfl (run_oneVR _ _ _)) ?_
            refine hK.out _ _ ((((HKc.out.alloc _).alloc _).ofNo)) (fun hh => ?_)
            clear hK K hHeld
            have hHeld := hh
            clear hh
            try simp only [Act.put, List.setIfInBounds_toArray, List.set_cons_zero, List.set_cons_succ]
            refine wpAnyH_ready (rs := [20]) (by kernel_rfl) (by simp) ?_
            refine (AllReadyH.cons (o := { dst := some 44, op := Op.call { callee := Callee.builtin Builtin.append, args := #[Operand.tmp 25, Operand.tmp 43], argTypes := #[92, 92] }, type := 92, pos := "ref.go:54", after := #[{ on := 1, ground := Ground.data }, { on := 19, ground := Ground.data }, { on := 16, ground := Ground.chain }], guard := none }) rfl (fun K hK => ?_) AllReadyH.nil)
            rw [if_pos (by rfl)]
            refine wp_valE (exec_appE _ _ 92 rfl (.slice av k cv) (.slice (some ⟨(wc.alloc (.cells C 94)).heap.size, 0, none⟩) 1 1) _ rfl rfl HAP.out) ?_
            refine hK.out _ _ (HKP.out) (fun hh => ?_)
            clear hK K hHeld
            have hHeld := hh
            clear hh
            try simp only [Act.put, List.setIfInBounds_toArray, List.set_cons_zero, List.set_cons_succ]
            refine wpAnyH_take (i := 21) (oi := { dst := some 45, op := Op.fieldAddr 94 (Operand.tmp 4) 3, type := 0, pos := "ref.go:54", after := #[{ on := 0, ground := Ground.phase }, { on := 1, ground := Ground.phase }, { on := 2, ground := Ground.phase }, { on := 3, ground := Ground.phase }, { on := 4, ground := Ground.phase }, { on := 5, ground := Ground.phase }, { on := 6, ground := Ground.phase }, { on := 7, ground := Ground.phase }, { on := 8, ground := Ground.phase }, { on := 9, ground := Ground.phase }, { on := 10, ground := Ground.phase }, { on := 11, ground := Ground.phase }, { on := 12, ground := Ground.phase }, { on := 13, ground := Ground.phase }, { on := 14, ground := Ground.phase }, { on := 15, ground := Ground.phase }, { on := 16, ground := Ground.phase }, { on := 17, ground := Ground.phase }, { on := 18, ground := Ground.phase }, { on := 19, ground := Ground.phase }, { on := 20, ground := Ground.phase }], guard := none }) (v := .pointer (some ⟨w1.heap.size, 3, none⟩)) rfl (by kernel_rfl) (by kernel_rfl) (by kernel_rfl) (fun _ _ _ h => h) (Or.inl ⟨by rfl, fun w' hw' => by (clear hw'; go_simp)⟩) hHeld ?_
            simp only [Act.put, List.setIfInBounds_toArray, List.set_cons_zero, List.set_cons_succ]
            refine wpAnyH_ready (rs := [22]) (by kernel_rfl) (by simp) ?_
            refine (AllReadyH.cons (o := { dst := none, op := Op.store 92 (Operand.tmp 45) (Operand.tmp 44), type := 0, pos := "ref.go:54", after := #[{ on := 21, ground := Ground.data }, { on := 20, ground := Ground.data }, { on := 20, ground := Ground.chain }, { on := 0, ground := Ground.phase }, { on := 1, ground := Ground.phase }, { on := 2, ground := Ground.phase }, { on := 3, ground := Ground.phase }, { on := 4, ground := Ground.phase }, { on := 5, ground := Ground.phase }, { on := 6, ground := Ground.phase }, { on := 7, ground := Ground.phase }, { on := 8, ground := Ground.phase }, { on := 9, ground := Ground.phase }, { on := 10, ground := Ground.phase }, { on := 11, ground := Ground.phase }, { on := 12, ground := Ground.phase }, { on := 13, ground := Ground.phase }, { on := 14, ground := Ground.phase }, { on := 15, ground := Ground.phase }, { on := 16, ground := Ground.phase }, { on := 17, ground := Ground.phase }, { on := 18, ground := Ground.phase }, { on := 19, ground := Ground.phase }, { on := 20, ground := Ground.phase }], guard := none }) rfl (fun K hK => ?_) AllReadyH.nil)
            go_simp
            refine hK.out _ _ ((HKP.out.setCell (p := ⟨w1.heap.size, 3, none⟩) (.inl (.inl rfl)) _)) (fun hh => ?_)
            clear hK K hHeld
            have hHeld := hh
            clear hh
            try simp only [Act.put, List.setIfInBounds_toArray, List.set_cons_zero, List.set_cons_succ]
            refine wpAnyH_done (by kernel_rfl) ?_ _
            clear hHeld
            go_wp2_with fail
            go_round
            case rel => exact ⟨k + 1, some ⟨g', 0, none⟩, cap, by first | rfl | go_num, by omega, HRI.out⟩
            case measure => simp [intOf]; omega
          · go_simp
            refine (HRN.out r _ hbr.1 hbr.2).mono ?_
            rintro e' wc ⟨rfl, hkx⟩
            have HKc : Hid (Kp No W1 wc) := HKb.out.andNone hkx
            clear hkx
            obtain ⟨g', cap, w4, hap, k3, kf, ks, hri, hkp⟩ := HSTEP.out wc (wc.alloc (.cells C 94)) C HKc.out rfl HC.out
            have HAP := hid hap
            have HRI := hid hri
            have HKP := hid hkp
            clear hap hri hkp
            go_wp2_with fail
            refine hK.out _ _ ((HKc.out.ofNo)) (fun hh => ?_)
            clear hK K hHeld
            have hHeld := hh
            clear hh
            try simp only [Act.put, List.setIfInBounds_toArray, List.set_cons_zero, List.set_cons_succ]
            refine wpAnyH_ready (rs := [1, 17]) (by kernel_rfl) (by simp) ?_
            refine (AllReadyH.cons (o := { dst := some 25, op := Op.load 92 (Operand.tmp 24), type := 92, pos := "ref.go:54", after := #[{ on := 0, ground := Ground.data }], guard := none }) rfl (fun K hK => ?_) (AllReadyH.cons (o := { dst := some 41, op := Op.buildSlice 92 4 #[(0, Operand.tmp 31), (1, Operand.tmp 34), (2, Operand.tmp 37), (3, Operand.tmp 40)], type := 92, pos := "ref.go:54", after := #[{ on := 7, ground := Ground.data }, { on := 10, ground := Ground.data }, { on := 13, ground := Ground.data }, { on := 16, ground := Ground.data }], guard := none }) rfl (fun K hK => ?_) AllReadyH.nil))
            · have q3 := c3 (wc) HKc.out
              go_simp
              refine hK.out _ _ ((HKc.out.ofNo)) (fun hh => ?_)
              clear hK K hHeld
              have hHeld := hh
              clear hh
              try simp only [Act.put, List.setIfInBounds_toArray, List.set_cons_zero, List.set_cons_succ]
              refine wpAnyH_ready (rs := [17]) (by kernel_rfl) (by simp) ?_
              refine (AllReadyH.cons (o := { dst := some 41, op := Op.buildSlice 92 4 #[(0, Operand.tmp 31), (1, Operand.tmp 34), (2, Operand.tmp 37), (3, Operand.tmp 40)], type := 92, pos := "ref.go:54", after := #[{ on := 7, ground := Ground.data }, { on := 10, ground := Ground.data }, { on := 13, ground := Ground.data }, { on := 16, ground := Ground.data }], guard := none }) rfl (fun K hK => ?_) AllReadyH.nil)
              rw [if_pos (by rfl)]
              refine wp_valE (exec_slice4 92 _ _ _ _ rfl (.agg #[.int .i64 2, .int .u64 0, .slice (some ⟨g, o + k * 35, none⟩) 32 32, .slice none 0 0]) (.agg #[.int .i64 1, .int .u64 p, .slice none 0 0, .slice none 0 0]) (.agg #[.int .i64 1, .int .u64 q, .slice none 0 0, .slice none 0 0]) (.agg #[.int .i64 1, .int .u64 r, .slice none 0 0, .slice none 0 0]) _ rfl rfl rfl rfl (HFB.out _)) ?_
              refine hK.out _ _ (((HKc.out.alloc _).ofNo)) (fun hh => ?_)
              clear hK K hHeld
              have hHeld := hh
              clear hh
              try simp only [Act.put, List.setIfInBounds_toArray, List.set_cons_zero, List.set_cons_succ]
              refine wpAnyH_take (i := 18) (oi := { dst := some 42, op := Op.build 94 #[(0, Operand.const (Value.int IntKind.i64 3)), (3, Operand.tmp 41)], type := 94, pos := "ref.go:54", after := #[{ on := 17, ground := Ground.data }], guard := none }) (v := .agg #[.int .i64 3, .int .u64 0, .slice none 0 0, .slice (some ⟨wc.heap.size, 0, none⟩) 4 4]) rfl (by kernel_rfl) (by kernel_rfl) (by kernel_rfl) (fun _ _ _ h => h) (Or.inl ⟨by rfl, fun w' hw' => by (clear hw'; go_simp)⟩) hHeld ?_
              simp only [Act.put, List.setIfInBounds_toArray, List.set_cons_zero, List.set_cons_succ]
              refine wpAnyH_ready (rs := [19]) (by kernel_rfl) (by simp) ?_
              refine (AllReadyH.cons (o := { dst := some 43, op := Op.buildSlice 92 1 #[(0, Operand.tmp 42)], type := 92, pos := "ref.go:54", after := #[{ on := 18, ground := Ground.data }], guard := none }) rfl (fun K hK => ?_) AllReadyH.nil)
              rw [if_pos (by rfl)]
              refine wp_valE (exec_sliceE 92 _ rfl (.agg #[.int .i64 3, .int .u64 0, .slice none 0 0, .slice (some ⟨wc.heap.size, 0, none⟩) 4 4]) _ rfl (run_oneVR _ _ _)) ?_
              refine hK.out _ _ ((((HKc.out.alloc _).alloc _).ofNo)) (fun hh => ?_)
              clear hK K hHeld
              have hHeld := hh
              clear hh
              try simp only [Act.put, List.setIfInBounds_toArray, List.set_cons_zero, List.set_cons_succ]
              refine wpAnyH_ready (rs := [20]) (by kernel_rfl) (by simp) ?_
              refine (AllReadyH.cons (o := { dst := some 44, op := Op.call { callee := Callee.builtin Builtin.append, args := #[Operand.tmp 25, Operand.tmp 43], argTypes := #[92, 92] }, type := 92, pos := "ref.go:54", after := #[{ on := 1, ground := Ground.data }, { on := 19, ground := Ground.data }, { on := 16, ground := Ground.chain }], guard := none }) rfl (fun K hK => ?_) AllReadyH.nil)
              rw [if_pos (by rfl)]
              refine wp_valE (exec_appE _ _ 92 rfl (.slice av k cv) (.slice (some ⟨(wc.alloc (.cells C 94)).heap.size, 0, none⟩) 1 1) _ rfl rfl HAP.out) ?_
              refine hK.out _ _ (HKP.out) (fun hh => ?_)
              clear hK K hHeld
              have hHeld := hh
              clear hh
              try simp only [Act.put, List.setIfInBounds_toArray, List.set_cons_zero, List.set_cons_succ]
              refine wpAnyH_take (i := 21) (oi := { dst := some 45, op := Op.fieldAddr 94 (Operand.tmp 4) 3, type := 0, pos := "ref.go:54", after := #[{ on := 0, ground := Ground.phase }, { on := 1, ground := Ground.phase }, { on := 2, ground := Ground.phase }, { on := 3, ground := Ground.phase }, { on := 4, ground := Ground.phase }, { on := 5, ground := Ground.phase }, { on := 6, ground := Ground.phase }, { on := 7, ground := Ground.phase }, { on := 8, ground := Ground.phase }, { on := 9, ground := Ground.phase }, { on := 10, ground := Ground.phase }, { on := 11, ground := Ground.phase }, { on := 12, ground := Ground.phase }, { on := 13, ground := Ground.phase }, { on := 14, ground := Ground.phase }, { on := 15, ground := Ground.phase }, { on := 16, ground := Ground.phase }, { on := 17, ground := Ground.phase }, { on := 18, ground := Ground.phase }, { on := 19, ground := Ground.phase }, { on := 20, ground := Ground.phase }], guard := none }) (v := .pointer (some ⟨w1.heap.size, 3, none⟩)) rfl (by kernel_rfl) (by kernel_rfl) (by kernel_rfl) (fun _ _ _ h => h) (Or.inl ⟨by rfl, fun w' hw' => by (clear hw'; go_simp)⟩) hHeld ?_
              simp only [Act.put, List.setIfInBounds_toArray, List.set_cons_zero, List.set_cons_succ]
              refine wpAnyH_ready (rs := [22]) (by kernel_rfl) (by simp) ?_
              refine (AllReadyH.cons (o := { dst := none, op := Op.store 92 (Operand.tmp 45) (Operand.tmp 44), type := 0, pos := "ref.go:54", after := #[{ on := 21, ground := Ground.data }, { on := 20, ground := Ground.data }, { on := 20, ground := Ground.chain }, { on := 0, ground := Ground.phase }, { on := 1, ground := Ground.phase }, { on := 2, ground := Ground.phase }, { on := 3, ground := Ground.phase }, { on := 4, ground := Ground.phase }, { on := 5, ground := Ground.phase }, { on := 6, ground := Ground.phase }, { on := 7, ground := Ground.phase }, { on := 8, ground := Ground.phase }, { on := 9, ground := Ground.phase }, { on := 10, ground := Ground.phase }, { on := 11, ground := Ground.phase }, { on := 12, ground := Ground.phase }, { on := 13, ground := Ground.phase }, { on := 14, ground := Ground.phase }, { on := 15, ground := Ground.phase }, { on := 16, ground := Ground.phase }, { on := 17, ground := Ground.phase }, { on := 18, ground := Ground.phase }, { on := 19, ground := Ground.phase }, { on := 20, ground := Ground.phase }], guard := none }) rfl (fun K hK => ?_) AllReadyH.nil)
              go_simp
              refine hK.out _ _ ((HKP.out.setCell (p := ⟨w1.heap.size, 3, none⟩) (.inl (.inl rfl)) _)) (fun hh => ?_)
              clear hK K hHeld
              have hHeld := hh
              clear hh
              try simp only [Act.put, List.setIfInBounds_toArray, List.set_cons_zero, List.set_cons_succ]
              refine wpAnyH_done (by kernel_rfl) ?_ _
              clear hHeld
              go_wp2_with fail
              go_round
              case rel => exact ⟨k + 1, some ⟨g', 0, none⟩, cap, by first | rfl | go_num, by omega, HRI.out⟩
              case measure => simp [intOf]; omega
            · rw [if_pos (by rfl)]
              refine wp_valE (exec_slice4 92 _ _ _ _ rfl (.agg #[.int .i64 2, .int .u64 0, .slice (some ⟨g, o + k * 35, none⟩) 32 32, .slice none 0 0]) (.agg #[.int .i64 1, .int .u64 p, .slice none 0 0, .slice none 0 0]) (.agg #[.int .i64 1, .int .u64 q, .slice none 0 0, .slice none 0 0]) (.agg #[.int .i64 1, .int .u64 r, .slice none 0 0, .slice none 0 0]) _ rfl rfl rfl rfl (HFB.out _)) ?_
              refine hK.out _ _ (((HKc.out.alloc _).ofNo)) (fun hh => ?_)
              clear hK K hHeld
              have hHeld := hh
              clear hh
              try simp only [Act.put, List.setIfInBounds_toArray, List.set_cons_zero, List.set_cons_succ]
              refine wpAnyH_take (i := 18) (oi := { dst := some 42, op := Op.build 94 #[(0, Operand.const (Value.int IntKind.i64 3)), (3, Operand.tmp 41)], type := 94, pos := "ref.go:54", after := #[{ on := 17, ground := Ground.data }], guard := none }) (v := .agg #[.int .i64 3, .int .u64 0, .slice none 0 0, .slice (some ⟨wc.heap.size, 0, none⟩) 4 4]) rfl (by kernel_rfl) (by kernel_rfl) (by kernel_rfl) (fun _ _ _ h => h) (Or.inl ⟨by rfl, fun w' hw' => by (clear hw'; go_simp)⟩) hHeld ?_
              simp only [Act.put, List.setIfInBounds_toArray, List.set_cons_zero, List.set_cons_succ]
              refine wpAnyH_ready (rs := [1, 19]) (by kernel_rfl) (by simp) ?_
              refine (AllReadyH.cons (o := { dst := some 25, op := Op.load 92 (Operand.tmp 24), type := 92, pos := "ref.go:54", after := #[{ on := 0, ground := Ground.data }], guard := none }) rfl (fun K hK => ?_) (AllReadyH.cons (o := { dst := some 43, op := Op.buildSlice 92 1 #[(0, Operand.tmp 42)], type := 92, pos := "ref.go:54", after := #[{ on := 18, ground := Ground.data }], guard := none }) rfl (fun K hK => ?_) AllReadyH.nil))
              · have q3 := c3 (wc.alloc (.cells C 94)) (HKc.out.alloc _)
                go_simp
                refine hK.out _ _ (((HKc.out.alloc _).ofNo)) (fun hh => ?_)
                clear hK K hHeld
                have hHeld := hh
                clear hh
                try simp only [Act.put, List.setIfInBounds_toArray, List.set_cons_zero, List.set_cons_succ]
                refine wpAnyH_ready (rs := [19]) (by kernel_rfl) (by simp) ?_
                refine (AllReadyH.cons (o := { dst := some 43, op := Op.buildSlice 92 1 #[(0, Operand.tmp 42)], type := 92, pos := "ref.go:54", after := #[{ on := 18, ground := Ground.data }], guard := none }) rfl (fun K hK => ?_) AllReadyH.nil)
                rw [if_pos (by rfl)]
                refine wp_valE (exec_sliceE 92 _ rfl (.agg #[.int .i64 3, .int .u64 0, .slice none 0 0, .slice (some ⟨wc.heap.size, 0, none⟩) 4 4]) _ rfl (run_oneVR _ _ _)) ?_
                refine hK.out _ _ ((((HKc.out.alloc _).alloc _).ofNo)) (fun hh => ?_)
                clear hK K hHeld
                have hHeld := hh
                clear hh
                try simp only [Act.put, List.setIfInBounds_toArray, List.set_cons_zero, List.set_cons_succ]
                refine wpAnyH_ready (rs := [20]) (by kernel_rfl) (by simp) ?_
                refine (AllReadyH.cons (o := { dst := some 44, op := Op.call { callee := Callee.builtin Builtin.append, args := #[Operand.tmp 25, Operand.tmp 43], argTypes := #[92, 92] }, type := 92, pos := "ref.go:54", after := #[{ on := 1, ground := Ground.data }, { on := 19, ground := Ground.data }, { on := 16, ground := Ground.chain }], guard := none }) rfl (fun K hK => ?_) AllReadyH.nil)
                rw [if_pos (by rfl)]
                refine wp_valE (exec_appE _ _ 92 rfl (.slice av k cv) (.slice (some ⟨(wc.alloc (.cells C 94)).heap.size, 0, none⟩) 1 1) _ rfl rfl HAP.out) ?_
                refine hK.out _ _ (HKP.out) (fun hh => ?_)
                clear hK K hHeld
                have hHeld := hh
                clear hh
                try simp only [Act.put, List.setIfInBounds_toArray, List.set_cons_zero, List.set_cons_succ]
                refine wpAnyH_take (i := 21) (oi := { dst := some 45, op := Op.fieldAddr 94 (Operand.tmp 4) 3, type := 0, pos := "ref.go:54", after := #[{ on := 0, ground := Ground.phase }, { on := 1, ground := Ground.phase }, { on := 2, ground := Ground.phase }, { on := 3, ground := Ground.phase }, { on := 4, ground := Ground.phase }, { on := 5, ground := Ground.phase }, { on := 6, ground := Ground.phase }, { on := 7, ground := Ground.phase }, { on := 8, ground := Ground.phase }, { on := 9, ground := Ground.phase }, { on := 10, ground := Ground.phase }, { on := 11, ground := Ground.phase }, { on := 12, ground := Ground.phase }, { on := 13, ground := Ground.phase }, { on := 14, ground := Ground.phase }, { on := 15, ground := Ground.phase }, { on := 16, ground := Ground.phase }, { on := 17, ground := Ground.phase }, { on := 18, ground := Ground.phase }, { on := 19, ground := Ground.phase }, { on := 20, ground := Ground.phase }], guard := none }) (v := .pointer (some ⟨w1.heap.size, 3, none⟩)) rfl (by kernel_rfl) (by kernel_rfl) (by kernel_rfl) (fun _ _ _ h => h) (Or.inl ⟨by rfl, fun w' hw' => by (clear hw'; go_simp)⟩) hHeld ?_
                simp only [Act.put, List.setIfInBounds_toArray, List.set_cons_zero, List.set_cons_succ]
                refine wpAnyH_ready (rs := [22]) (by kernel_rfl) (by simp) ?_
                refine (AllReadyH.cons (o := { dst := none, op := Op.store 92 (Operand.tmp 45) (Operand.tmp 44), type := 0, pos := "ref.go:54", after := #[{ on := 21, ground := Ground.data }, { on := 20, ground := Ground.data }, { on := 20, ground := Ground.chain }, { on := 0, ground := Ground.phase }, { on := 1, ground := Ground.phase }, { on := 2, ground := Ground.phase }, { on := 3, ground := Ground.phase }, { on := 4, ground := Ground.phase }, { on := 5, ground := Ground.phase }, { on := 6, ground := Ground.phase }, { on := 7, ground := Ground.phase }, { on := 8, ground := Ground.phase }, { on := 9, ground := Ground.phase }, { on := 10, ground := Ground.phase }, { on := 11, ground := Ground.phase }, { on := 12, ground := Ground.phase }, { on := 13, ground := Ground.phase }, { on := 14, ground := Ground.phase }, { on := 15, ground := Ground.phase }, { on := 16, ground := Ground.phase }, { on := 17, ground := Ground.phase }, { on := 18, ground := Ground.phase }, { on := 19, ground := Ground.phase }, { on := 20, ground := Ground.phase }], guard := none }) rfl (fun K hK => ?_) AllReadyH.nil)
                go_simp
                refine hK.out _ _ ((HKP.out.setCell (p := ⟨w1.heap.size, 3, none⟩) (.inl (.inl rfl)) _)) (fun hh => ?_)
                clear hK K hHeld
                have hHeld := hh
                clear hh
                try simp only [Act.put, List.setIfInBounds_toArray, List.set_cons_zero, List.set_cons_succ]
                refine wpAnyH_done (by kernel_rfl) ?_ _
                clear hHeld
                go_wp2_with fail
                go_round
                case rel => exact ⟨k + 1, some ⟨g', 0, none⟩, cap, by first | rfl | go_num, by omega, HRI.out⟩
                case measure => simp [intOf]; omega
              · rw [if_pos (by rfl)]
                refine wp_valE (exec_sliceE 92 _ rfl (.agg #[.int .i64 3, .int .u64 0, .slice none 0 0, .slice (some ⟨wc.heap.size, 0, none⟩) 4 4]) _ rfl (run_oneVR _ _ _)) ?_
                refine hK.out _ _ ((((HKc.out.alloc _).alloc _).ofNo)) (fun hh => ?_)
                clear hK K hHeld
                have hHeld := hh
                clear hh
                try simp only [Act.put, List.setIfInBounds_toArray, List.set_cons_zero, List.set_cons_succ]
                refine wpAnyH_ready (rs := [1]) (by kernel_rfl) (by simp) ?_
                refine (AllReadyH.cons (o := { dst := some 25, op := Op.load 92 (Operand.tmp 24), type := 92, pos := "ref.go:54", after := #[{ on := 0, ground := Ground.data }], guard := none }) rfl (fun K hK => ?_) AllReadyH.nil)
                have q3 := c3 ((wc.alloc (.cells C 94)).alloc (.cells #[.int .i64 3, .int .u64 0, .slice none 0 0, .slice (some ⟨wc.heap.size, 0, none⟩) 4 4] 94)) ((HKc.out.alloc _).alloc _)
                have hld : (Instr.loadAt 92 (.pointer (some ⟨w1.heap.size, 3, none⟩))).run Tryz.prog ((wc.alloc (.cells C 94)).alloc (.cells #[.int .i64 3, .int .u64 0, .slice none 0 0, .slice (some ⟨wc.heap.size, 0, none⟩) 4 4] 94)) = .ok (.slice av k cv) ((wc.alloc (.cells C 94)).alloc (.cells #[.int .i64 3, .int .u64 0, .slice none 0 0, .slice (some ⟨wc.heap.size, 0, none⟩) 4 4] 94)) := by go_simp
                rw [if_pos (by rfl)]
                refine wp_valE (exec_loadE 92 _ rfl (.pointer (some ⟨w1.heap.size, 3, none⟩)) (.slice av k cv) rfl hld) ?_
                clear q3 hld
                refine hK.out _ _ ((((HKc.out.alloc _).alloc _).ofNo)) (fun hh => ?_)
                clear hK K hHeld
                have hHeld := hh
                clear hh
                try simp only [Act.put, List.setIfInBounds_toArray, List.set_cons_zero, List.set_cons_succ]
                refine wpAnyH_ready (rs := [20]) (by kernel_rfl) (by simp) ?_
                refine (AllReadyH.cons (o := { dst := some 44, op := Op.call { callee := Callee.builtin Builtin.append, args := #[Operand.tmp 25, Operand.tmp 43], argTypes := #[92, 92] }, type := 92, pos := "ref.go:54", after := #[{ on := 1, ground := Ground.data }, { on := 19, ground := Ground.data }, { on := 16, ground := Ground.chain }], guard := none }) rfl (fun K hK => ?_) AllReadyH.nil)
                rw [if_pos (by rfl)]
                refine wp_valE (exec_appE _ _ 92 rfl (.slice av k cv) (.slice (some ⟨(wc.alloc (.cells C 94)).heap.size, 0, none⟩) 1 1) _ rfl rfl HAP.out) ?_
                refine hK.out _ _ (HKP.out) (fun hh => ?_)
                clear hK K hHeld
                have hHeld := hh
                clear hh
                try simp only [Act.put, List.setIfInBounds_toArray, List.set_cons_zero, List.set_cons_succ]
                refine wpAnyH_take (i := 21) (oi := { dst := some 45, op := Op.fieldAddr 94 (Operand.tmp 4) 3, type := 0, pos := "ref.go:54", after := #[{ on := 0, ground := Ground.phase }, { on := 1, ground := Ground.phase }, { on := 2, ground := Ground.phase }, { on := 3, ground := Ground.phase }, { on := 4, ground := Ground.phase }, { on := 5, ground := Ground.phase }, { on := 6, ground := Ground.phase }, { on := 7, ground := Ground.phase }, { on := 8, ground := Ground.phase }, { on := 9, ground := Ground.phase }, { on := 10, ground := Ground.phase }, { on := 11, ground := Ground.phase }, { on := 12, ground := Ground.phase }, { on := 13, ground := Ground.phase }, { on := 14, ground := Ground.phase }, { on := 15, ground := Ground.phase }, { on := 16, ground := Ground.phase }, { on := 17, ground := Ground.phase }, { on := 18, ground := Ground.phase }, { on := 19, ground := Ground.phase }, { on := 20, ground := Ground.phase }], guard := none }) (v := .pointer (some ⟨w1.heap.size, 3, none⟩)) rfl (by kernel_rfl) (by kernel_rfl) (by kernel_rfl) (fun _ _ _ h => h) (Or.inl ⟨by rfl, fun w' hw' => by (clear hw'; go_simp)⟩) hHeld ?_
                simp only [Act.put, List.setIfInBounds_toArray, List.set_cons_zero, List.set_cons_succ]
                refine wpAnyH_ready (rs := [22]) (by kernel_rfl) (by simp) ?_
                refine (AllReadyH.cons (o := { dst := none, op := Op.store 92 (Operand.tmp 45) (Operand.tmp 44), type := 0, pos := "ref.go:54", after := #[{ on := 21, ground := Ground.data }, { on := 20, ground := Ground.data }, { on := 20, ground := Ground.chain }, { on := 0, ground := Ground.phase }, { on := 1, ground := Ground.phase }, { on := 2, ground := Ground.phase }, { on := 3, ground := Ground.phase }, { on := 4, ground := Ground.phase }, { on := 5, ground := Ground.phase }, { on := 6, ground := Ground.phase }, { on := 7, ground := Ground.phase }, { on := 8, ground := Ground.phase }, { on := 9, ground := Ground.phase }, { on := 10, ground := Ground.phase }, { on := 11, ground := Ground.phase }, { on := 12, ground := Ground.phase }, { on := 13, ground := Ground.phase }, { on := 14, ground := Ground.phase }, { on := 15, ground := Ground.phase }, { on := 16, ground := Ground.phase }, { on := 17, ground := Ground.phase }, { on := 18, ground := Ground.phase }, { on := 19, ground := Ground.phase }, { on := 20, ground := Ground.phase }], guard := none }) rfl (fun K hK => ?_) AllReadyH.nil)
                go_simp
                refine hK.out _ _ ((HKP.out.setCell (p := ⟨w1.heap.size, 3, none⟩) (.inl (.inl rfl)) _)) (fun hh => ?_)
                clear hK K hHeld
                have hHeld := hh
                clear hh
                try simp only [Act.put, List.setIfInBounds_toArray, List.set_cons_zero, List.set_cons_succ]
                refine wpAnyH_done (by kernel_rfl) ?_ _
                clear hHeld
                go_wp2_with fail
                go_round
                case rel => exact ⟨k + 1, some ⟨g', 0, none⟩, cap, by first | rfl | go_num, by omega, HRI.out⟩
                case measure => simp [intOf]; omega
    · have hltI : ¬ (k : Int) < (n : Int) := by omega
      have hkn' : k = n := by omega
      have hS := HS.out
      obtain ⟨f0, f1, f2, f3, hf, hs, hc, hw⟩ := hS
      have hc' := hc.done (by rw [List.length_take, List.length_map, HN.out]; omega)
      rw [List.take_of_length_le (by rw [List.length_map, HN.out]; omega)] at hc'
      have HRP : Hid (RepS (fun b => b < wr.heap.size) wr 3 (entsT d) (.slice none 0 0) (.slice av k cv)) := ⟨Int.le_refl 0, (by decide : (0 : Int) ≤ 18446744073709551615), Tlv.BySlS.none _ _, hc'⟩
      have HKW : Hid (Kp No w wr) := HK1.out.andNone hw
      have hzz : 2 ≤ wr.heap.size ∨ True := .inr trivial
      clear hc hc' hw hf hkn' hzz HS
      go_wp2_with fail
      refine (refPut01 (entsT d) _ _ _ HRP.out (entsT_right HOK.out HRR.out.1)).mono ?_
      rintro e w2 ⟨af, cf, rfl, hf2, hb2⟩
      have HF2 := hid hf2
      have HB2 := hid hb2
      clear hf2 hb2
      go_wp2_with fail
      have hz2 := HB2.out.size
      have hfl := formE_length HOK.out HRR.out.1
      obtain ⟨b, hbw, hcb⟩ := anyCrc HF2.out (by have := HK1.out.size; omega) (Nat.le_refl _)
      refine (Crc.refSeal_any b _ _ w2 hbw hcb (by rw [nats_length]; unfold formE at hfl; omega)).mono ?_
      rintro e w3 ⟨v', rfl, ho, hb3⟩
      have HO := hid ho
      have HB3 := hid hb3
      clear ho hb3 hcb
      go_wp2_with fail
      go_ret2
      refine ⟨v', rfl, ?_, (HKW.out.andNone (Kp.below HB2.out)).andNone (Kp.below HB3.out)⟩
      rw [sealE, sealI_nats]
      exact HO.out.mono (Nat.le_trans HKW.out.size HB2.out.size)
end Go.Proofs.YtampnikdmgojjaaGreat.Sg
end

section
/-
  What the reference's Take and Get answer.
-/
namespace Go.Proofs.YtampnikdmgojjaaGreat.Tlv
open Go.RowKit
attribute [local go_sem ↓] Go.wp_at_zero Go.wp_at_succ

theorem AgreeS.of {S : Nat → Prop} {L B : Nat} {w w' : World} (h : Agree L B w w') (hS : ∀ b, S b → L ≤ b ∧ b < B) : AgreeS S w w' := fun b hb => h b (hS b hb).1 (hS b hb).2

set_option maxHeartbeats 1000000 in
set_option maxRecDepth 100000 in
theorem refTake_any (v : Value) (bs : List Int) (w : World) (h : BySl 0 w.heap.size w v bs) :
    Calls Tryz.prog 63 #[v] w fun e w' => ((rd 8 bs = none ∧ e = .returned (.tuple #[.agg #[.int .i64 0, .int .u64 0, .slice none 0 0, .slice none 0 0], .slice none 0 0, .int .i64 3])) ∨
      (∃ (t : Tr 9) (m : Nat) (sb sk vr : Value), rd 8 bs = some (t, m) ∧ e = .returned (.tuple #[.agg #[.int .i64 t.hd.1, .int .u64 t.hd.2.1, sb, sk], vr, .int .i64 0]) ∧ RepS (fun b => w.heap.size ≤ b ∧ b < w'.heap.size) w' 9 t sb sk ∧ BySl 0 w'.heap.size w' vr (bs.drop m))) ∧ Below w.heap.size w w' := by
  obtain ⟨a, cap, rfl, hr⟩ := id h
  clear hr
  have H := hid h
  have hcapM : cap ≤ 9223372036854775807 := by obtain ⟨_, _, e, _, h3, _⟩ := h; simp only [Value.slice.injEq, true_and] at e; obtain ⟨_, rfl⟩ := e; exact h3
  have hlc : bs.length ≤ cap := by obtain ⟨_, _, e, h2, _⟩ := h; simp only [Value.slice.injEq, true_and] at e; obtain ⟨_, rfl⟩ := e; exact h2
  clear h
  obtain ⟨R, hR⟩ : ∃ R, rd 8 bs = R := ⟨_, rfl⟩
  rw [hR]
  have HR := hid hR
  clear hR
  have hS : w.heap.size ≤ (w.alloc (Obj.cells #[Value.int IntKind.i64 0, Value.int IntKind.u64 0, Value.slice none 0 0, Value.slice none 0 0] 94)).heap.size := by simp
  have hbs : Hid (BySl 0 (w.alloc (Obj.cells #[Value.int IntKind.i64 0, Value.int IntKind.u64 0, Value.slice none 0 0, Value.slice none 0 0] 94)).heap.size (w.alloc (Obj.cells #[Value.int IntKind.i64 0, Value.int IntKind.u64 0, Value.slice none 0 0, Value.slice none 0 0] 94)) (.slice a bs.length cap) bs) := H.out.agree ((Agree.refl _ _ _).alloc (Nat.le_refl _) _) (Nat.le_refl _) hS
  have hrd := hid (rreadOk 8 (Nat.le_refl _))
  clear hS
  obtain ⟨L, hL⟩ : ∃ L, bs.length = L := ⟨_, rfl⟩
  have HL := hid hL
  rw [hL] at hbs hlc ⊢
  clear hL
  go_enter Tryz.func63, Tryz.ntmps63
  go_wp2_with fail
  refine (hrd.out _ bs _ hbs.out).mono ?_
  rintro e w1 ⟨hres, hb1⟩
  obtain ⟨hz, g0, g1, g2, g3, gf, hbel⟩ := res_facts32 (w := w) (w1 := w1) (by simpa using hb1)
  have HB := hid hbel
  clear hb1 hbel
  rcases hres with ⟨hn, rfl⟩ | ⟨t, m, sb, sk, hs, rfl, hr1⟩
  · have HN := hid hn
    clear hn
    go_wp2_with fail
    obtain ⟨q0, q1, q2, q3⟩ := set4_read (w := w1) (u0 := .int .i64 0) (u1 := .int .u64 0) (u2 := .slice none 0 0) (u3 := .slice none 0 0) g0 g1 g2 g3
    refine bodyPost_ret (v := .tuple #[.agg #[.int .i64 0, .int .u64 0, .slice none 0 0, .slice none 0 0], .slice none 0 0, .int .i64 3]) (by simp [results, Tryz.results63, go_sem, q0, q1, q2, q3, hz]) rfl ⟨.inl ⟨?_, rfl⟩, (HB.out.trans (bset4 (Nat.le_refl _) _ _ _ _)).alloc (by simp; omega) _⟩
    rw [← HR.out, HN.out]
  · obtain ⟨a1, l1, p1, a2, l2, p2, rfl, rfl⟩ := hr1.sl
    have HS := hid hs
    have Hr1 := hid hr1
    have hm := rd_pos hs
    rw [HL.out] at hm
    clear hs hr1
    obtain ⟨b, o, ha⟩ : ∃ b o, a = some ⟨b, o, none⟩ := by
      obtain ⟨_, _, e, _, _, _, _, _, h7⟩ := hbs.out
      simp only [Value.slice.injEq] at e
      obtain ⟨rfl, _, rfl⟩ := e
      obtain ⟨b, o, e, _⟩ := h7 (by intro e; have := HL.out; subst e; simp at this; omega)
      exact ⟨b, o, e⟩
    subst ha
    have hmz : ((m : Int) == 0) = false := by simp; omega
    obtain ⟨A, hA⟩ : ∃ A, (if cap = m then some (⟨b, o, none⟩ : Addr) else some ⟨b, o + m, none⟩) = A := ⟨_, rfl⟩
    go_upto_region 4 with fail
    go_region
    all_goals go_wp2_with fail
    obtain ⟨q0, q1, q2, q3⟩ := set4_read (w := w1) (u0 := .int .i64 t.hd.1) (u1 := .int .u64 t.hd.2.1) (u2 := .slice a1 l1 p1) (u3 := .slice a2 l2 p2) g0 g1 g2 g3
    have hA1 : Agree (w.heap.size + 1) w1.heap.size w1 (((((w1.setCell ⟨w.heap.size, 0, none⟩ (.int .i64 t.hd.1)).setCell ⟨w.heap.size, 1, none⟩ (.int .u64 t.hd.2.1)).setCell ⟨w.heap.size, 2, none⟩ (.slice a1 l1 p1)).setCell ⟨w.heap.size, 3, none⟩ (.slice a2 l2 p2)).alloc (Obj.cells #[.int .i64 t.hd.1, .int .u64 t.hd.2.1, .slice a1 l1 p1, .slice a2 l2 p2] 94)).drew := ((Agree.set4 _ (.inl (by omega)) _ _ _ _).alloc (by simp) _).drew
    have hB1 : Below w.heap.size w (((((w1.setCell ⟨w.heap.size, 0, none⟩ (.int .i64 t.hd.1)).setCell ⟨w.heap.size, 1, none⟩ (.int .u64 t.hd.2.1)).setCell ⟨w.heap.size, 2, none⟩ (.slice a1 l1 p1)).setCell ⟨w.heap.size, 3, none⟩ (.slice a2 l2 p2)).alloc (Obj.cells #[.int .i64 t.hd.1, .int .u64 t.hd.2.1, .slice a1 l1 p1, .slice a2 l2 p2] 94)).drew := ((HB.out.trans (bset4 (Nat.le_refl _) _ _ _ _)).alloc (by simp; omega) _).drew
    refine bodyPost_ret (v := .tuple #[.agg #[.int .i64 t.hd.1, .int .u64 t.hd.2.1, .slice a1 l1 p1, .slice a2 l2 p2], .slice A (L - m) (cap - m), .int .i64 0]) (by simp [results, Tryz.results63, go_sem, q0, q1, q2, q3, hz]) rfl ⟨.inr ⟨t, m, .slice a1 l1 p1, .slice a2 l2 p2, .slice A (L - m) (cap - m), ?_, rfl, ?_, ?_⟩, hB1⟩
    · rw [← HR.out, HS.out]
    · refine RepS.agree (AgreeS.of hA1 ?_) ?_ Hr1.out
      · intro b hb; simp at hb; omega
      · intro b hb; simp at hb; simp; omega
    · have hq : BySl 0 w.heap.size _ (.slice (some ⟨b, o, none⟩) bs.length cap) bs := H.out.agree (Agree.below hB1) (Nat.le_refl _) (Nat.le_refl _)
      have := bySl_rest hq m (by rw [HL.out]; omega) rfl
      rw [hA, HL.out] at this
      exact this.agree (Agree.refl _ _ _) (Nat.le_refl _) (by simp; omega)

set_option maxHeartbeats 1000000 in
set_option maxRecDepth 100000 in
theorem refGet_any (v : Value) (bs : List Int) (w : World) (h : BySl 0 w.heap.size w v bs) :
    Calls Tryz.prog 38 #[v] w fun e w' => ((getT bs = none ∧ e = .returned (.tuple #[.agg #[.int .i64 0, .int .u64 0, .slice none 0 0, .slice none 0 0], .int .i64 3])) ∨
      (∃ (t : Tr 9) (sb sk : Value), getT bs = some t ∧ e = .returned (.tuple #[.agg #[.int .i64 t.hd.1, .int .u64 t.hd.2.1, sb, sk], .int .i64 0]) ∧ RepS (fun b => w.heap.size ≤ b ∧ b < w'.heap.size) w' 9 t sb sk)) ∧ Below w.heap.size w w' := by
  obtain ⟨a, cap, rfl, hr⟩ := id h
  clear hr
  have H := hid h
  clear h
  obtain ⟨R, hR⟩ : ∃ R, getT bs = R := ⟨_, rfl⟩
  rw [hR]
  have HR := hid hR
  clear hR
  have hS : w.heap.size ≤ (w.alloc (Obj.cells #[Value.int IntKind.i64 0, Value.int IntKind.u64 0, Value.slice none 0 0, Value.slice none 0 0] 94)).heap.size := by simp
  have hbs : Hid (BySl 0 (w.alloc (Obj.cells #[Value.int IntKind.i64 0, Value.int IntKind.u64 0, Value.slice none 0 0, Value.slice none 0 0] 94)).heap.size (w.alloc (Obj.cells #[Value.int IntKind.i64 0, Value.int IntKind.u64 0, Value.slice none 0 0, Value.slice none 0 0] 94)) (.slice a bs.length cap) bs) := H.out.agree ((Agree.refl _ _ _).alloc (Nat.le_refl _) _) (Nat.le_refl _) hS
  clear hS
  obtain ⟨L, hL⟩ : ∃ L, bs.length = L := ⟨_, rfl⟩
  have HL := hid hL
  rw [hL] at hbs ⊢
  clear hL
  go_enter Tryz.func38, Tryz.ntmps38
  go_wp2_with fail
  refine (refTake_any _ bs _ hbs.out).mono ?_
  rintro e w1 ⟨hres, hb1⟩
  obtain ⟨hz, g0, g1, g2, g3, gf, hbel⟩ := res_facts32 (w := w) (w1 := w1) (by simpa using hb1)
  have HB := hid hbel
  clear hb1 hbel
  rcases hres with ⟨hn, rfl⟩ | ⟨t, m, sb, sk, vr, hs, rfl, hr1, hvr⟩
  · have HN := hid hn
    clear hn
    go_wp2_with fail
    obtain ⟨q0, q1, q2, q3⟩ := set4_read (w := w1) (u0 := .int .i64 0) (u1 := .int .u64 0) (u2 := .slice none 0 0) (u3 := .slice none 0 0) g0 g1 g2 g3
    refine bodyPost_ret (v := .tuple #[.agg #[.int .i64 0, .int .u64 0, .slice none 0 0, .slice none 0 0], .int .i64 3]) (by simp [results, Tryz.results38, go_sem, q0, q1, q2, q3, hz]) rfl ⟨.inl ⟨?_, rfl⟩, (HB.out.trans (bset4 (Nat.le_refl _) _ _ _ _)).alloc (by simp; omega) _⟩
    rw [← HR.out, getT, HN.out]
  · obtain ⟨a1, l1, p1, a2, l2, p2, rfl, rfl⟩ := hr1.sl
    obtain ⟨a3, c3, rfl, hr3⟩ := id hvr
    clear hr3 hvr
    have HS := hid hs
    have Hr1 := hid hr1
    have hm := rd_pos hs
    rw [HL.out] at hm
    clear hs hr1
    have hdl : (bs.drop m).length = L - m := by rw [List.length_drop, HL.out]
    obtain ⟨M, hM⟩ : ∃ M, L - m = M := ⟨_, rfl⟩
    rw [hdl, hM]
    have HdM := hid hM
    clear hdl hM
    cases M with
    | zero =>
      have HM : Hid (m = L) := by have := HdM.out; unfold Hid; omega
      go_wp2_with fail
      obtain ⟨q0, q1, q2, q3⟩ := set4_read (w := w1) (u0 := .int .i64 t.hd.1) (u1 := .int .u64 t.hd.2.1) (u2 := .slice a1 l1 p1) (u3 := .slice a2 l2 p2) g0 g1 g2 g3
      refine bodyPost_ret (v := .tuple #[.agg #[.int .i64 t.hd.1, .int .u64 t.hd.2.1, .slice a1 l1 p1, .slice a2 l2 p2], .int .i64 0]) (by simp [results, Tryz.results38, go_sem, q0, q1, q2, q3, hz]) rfl ⟨.inr ⟨t, .slice a1 l1 p1, .slice a2 l2 p2, ?_, rfl, ?_⟩, (HB.out.trans (bset4 (Nat.le_refl _) _ _ _ _)).alloc (by simp; omega) _⟩
      · rw [← HR.out, getT, HS.out]
        simp only
        rw [if_pos (by rw [HL.out]; exact HM.out)]
      · refine RepS.agree (AgreeS.of ((Agree.set4 (L := w.heap.size + 1) (B := w1.heap.size) w1 (.inl (by simp)) _ _ _ _).alloc (by simp) _) ?_) ?_ Hr1.out
        · intro b hb; simp at hb; omega
        · intro b hb; simp at hb; simp; omega
    | succ M =>
      have HM : Hid (¬ m = L) := by have := HdM.out; unfold Hid; omega
      go_wp2_with fail
      obtain ⟨q0, q1, q2, q3⟩ := set4_read (w := w1) (u0 := .int .i64 0) (u1 := .int .u64 0) (u2 := .slice none 0 0) (u3 := .slice none 0 0) g0 g1 g2 g3
      refine bodyPost_ret (v := .tuple #[.agg #[.int .i64 0, .int .u64 0, .slice none 0 0, .slice none 0 0], .int .i64 3]) (by simp [results, Tryz.results38, go_sem, q0, q1, q2, q3, hz]) rfl ⟨.inl ⟨?_, rfl⟩, (HB.out.trans (bset4 (Nat.le_refl _) _ _ _ _)).alloc (by simp; omega) _⟩
      rw [← HR.out, getT, HS.out]
      simp only
      rw [if_neg (by rw [HL.out]; exact HM.out)]

end Go.Proofs.YtampnikdmgojjaaGreat.Tlv
end

section
/-
  What the reference's Open does.
-/
namespace Go.Proofs.YtampnikdmgojjaaGreat.Crc
open Go.RowKit

set_option maxHeartbeats 400000 in
theorem refOpen_short (b : Nat) (v : Value) (bs : List Nat) (w : World) (h : BySl b w v bs) (hl : bs.length < 4) :
    Calls Tryz.prog 37 #[v] w fun e w' => e = .returned (.tuple #[.slice none 0 0, .int .i64 3]) ∧ w' = w := by
  obtain ⟨a, cap, rfl, r⟩ := h
  clear r
  go_enter Tryz.func37, Tryz.ntmps37
  go_wp2_with fail
  go_ret2
  exact ⟨rfl, rfl⟩

set_option maxHeartbeats 2000000 in
set_option maxRecDepth 100000 in
theorem refOpen_any (b : Nat) (v : Value) (xs ys : List Nat) (w : World) (hb : b < w.heap.size) (h : BySl b w v (xs ++ ys)) (hy : ys.length = 4) (hl : xs.length ≤ 80000) :
    Calls Tryz.prog 37 #[v] w fun e w' => Below w.heap.size w w' ∧
      ∃ v' q, e = .returned (.tuple #[v', .int .i64 q]) ∧ ((le4 (more 0 xs) = ys ∧ q = 0 ∧ BySl b w' v' xs) ∨ (le4 (more 0 xs) ≠ ys ∧ q = 4 ∧ v' = .slice none 0 0)) := by
  have H := hid h
  obtain ⟨a, cap, rfl, h2, h3, h4, h5, h6, h7⟩ := h
  have hN : (xs ++ ys).length = xs.length + 4 := by rw [List.length_append, hy]
  have H1 : Hid (BySl b w (.slice a xs.length cap) xs) := by
    have := BySl.take H.out (k := xs.length) (by omega)
    rw [List.take_left' rfl] at this
    exact this
  obtain ⟨g, o, rfl, hgb, hg, hc⟩ := h7 (by intro e; rw [e] at hN; simp at hN)
  have HX6 := hid h6
  rw [hN] at H h2 ⊢
  obtain ⟨N, hN2⟩ : ∃ N, xs.length = N := ⟨_, rfl⟩
  have HN := hid hN2
  rw [hN2] at hN H h2 hl H1 ⊢
  have HC := hid hc
  have HNN := hid hN
  have HY := hid hy
  clear hN2 hc h7 h6 h4 h5 hN hy
  unfold maxLen at h3
  go_enter Tryz.func37, Tryz.ntmps37
  go_wp2_with fail
  refine (refSeal_any b _ xs _ hb H1.out (by rw [HN.out]; exact hl)).mono ?_
  rintro e w1 ⟨v1, rfl, hown, hbel⟩
  have hbz := hbel.size
  have HX : Hid (BySl b w1 v1 (xs ++ le4 (more 0 xs))) := Own.bySl hown hb (by have := HN.out; simp [le4_len]; omega) (by
    intro x hx
    rcases List.mem_append.1 hx with h | h
    · exact HX6.out x (List.mem_append_left _ h)
    · exact le4_lt (more_lt _ _) x h)
  obtain ⟨zs, hz⟩ : ∃ zs, le4 (more 0 xs) = zs := ⟨_, rfl⟩
  have hzl : zs.length = 4 := by rw [← hz]; rfl
  rw [hz] at HX
  have HZ := hid hz
  have HB := hid hbel
  clear hown hbel hz
  have hNz : (xs ++ zs).length = N + 4 := by rw [List.length_append, hzl, HN.out]
  obtain ⟨a1, k1, e1, r2, r3, r4, r5, r6, r7⟩ := id HX.out
  subst e1
  rw [hNz] at r2
  obtain ⟨g1, o1, rfl, hg1b, hg1, hc1⟩ := r7 (by intro e; rw [e] at hNz; simp at hNz)
  have HC1 := hid hc1
  have HNZ := hid hNz
  have HC' : Hid (∀ i, i < (xs ++ ys).length → w1.cell? ⟨g, o + i, none⟩ = some (.int .u8 ((xs ++ ys).getD i 0 : Nat))) := fun i hi => (HB.out.cell (p := ⟨g, o + i, none⟩) hg).trans (HC.out i hi)
  rw [hNz] at HX ⊢
  have HZL := hid hzl
  clear r7 r6 r5 r4 hc1 HC hNz hzl
  unfold maxLen at r3
  go_wp2_with fail
  go_loopw [6] (fun i wr => ∃ k : Nat, N ≤ k ∧ k ≤ N + 4 ∧ i = .int .i64 k ∧ Hid ((xs ++ zs).take k = (xs ++ ys).take k) ∧ ∃ q, wr = w1.drewN q) (fun i _ => N + 4 - (intOf i).toNat)
  case atStart => exact ⟨N, Nat.le_refl _, by omega, rfl, by rw [Hid, List.take_left' HN.out, List.take_left' HN.out], 0, rfl⟩
  case round =>
    obtain ⟨k, hk0, hk, rfl, ht, q, rfl⟩ := hrel
    by_cases hlt : k < N + 4
    · have c1 := HC1.out k (by rw [HNZ.out]; exact hlt)
      have c2 := HC'.out k (by rw [HNN.out]; exact hlt)
      have e1 : Hid ((xs ++ zs).take (k + 1) = (xs ++ zs).take k ++ [(xs ++ zs).getD k 0]) := by
        have hi : k < (xs ++ zs).length := by rw [HNZ.out]; exact hlt
        rw [Hid, List.take_succ_eq_append_getElem hi, List.getD_eq_getElem?_getD, List.getElem?_eq_getElem hi]; rfl
      have e2 : Hid ((xs ++ ys).take (k + 1) = (xs ++ ys).take k ++ [(xs ++ ys).getD k 0]) := by
        have hi : k < (xs ++ ys).length := by rw [HNN.out]; exact hlt
        rw [Hid, List.take_succ_eq_append_getElem hi, List.getD_eq_getElem?_getD, List.getElem?_eq_getElem hi]; rfl
      generalize (xs ++ zs).getD k 0 = x at c1 e1
      generalize (xs ++ ys).getD k 0 = y at c2 e2
      have hlt' : k < N + 4 := hlt
      by_cases hxy : x = y
      · subst hxy
        go_wp2_with fail
        go_quiet (fail)
        go_wp2
        go_roundw
        case rel => exact ⟨k + 1, by omega, by omega, by go_num, by rw [Hid, e1.out, e2.out, ht.out], _, rfl⟩
        case measure => simp [intOf]; omega
      · have hb : ((x : Int) != (y : Int)) = true := by simp; omega
        go_wp2_with fail
        go_quiet (fail)
        go_wp2
        go_ret2
        refine ⟨below_drewN (below_drewN HB.out _) _, _, _, rfl, .inr ⟨?_, rfl, rfl⟩⟩
        rw [HZ.out]
        intro e
        apply hxy
        have h1 := e1.out
        rw [e, e2.out] at h1
        have := (List.append_inj' h1 rfl).2
        simpa using this.symm
    · go_wp2
      go_ret2
      refine ⟨below_drewN HB.out _, _, _, rfl, .inl ⟨?_, rfl, ?_⟩⟩
      · rw [HZ.out]
        have h1 := ht.out
        rw [List.take_of_length_le (by rw [HNZ.out]; omega), List.take_of_length_le (by rw [HNN.out]; omega)] at h1
        exact List.append_cancel_left h1
      · have := BySl.take (k := N) (bs := xs ++ zs) (b := b) (w := w1) (a := some ⟨g1, o1, none⟩) (cap := k1) (by rw [HNZ.out]; exact HX.out) (by rw [HNZ.out]; omega)
        rw [List.take_left' HN.out] at this
        exact this.kept ((Kept.refl _ _).drewN _)

end Go.Proofs.YtampnikdmgojjaaGreat.Crc
end
