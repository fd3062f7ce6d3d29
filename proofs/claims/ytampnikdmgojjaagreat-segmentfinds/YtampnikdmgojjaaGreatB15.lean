/- Of the proof: the texts FrKit, FrSame, FrPut, SgVal, SgMany, SgValM, SgValue, SgPut, SgGetM, FrFirst, FrRecord, one behind the other. -/
import Derived.Test.YtampnikdmgojjaaGreatB14
import Derived.Laws.ResultCell
import Derived.Stop.BytesEq
import Derived.Test.YtampnikdmgojjaaGreatB6
import Derived.Test.YtampnikdmgojjaaGreatB9
import Derived.Deep.RegionLaw
import Derived.Deep.RegionHeld3
section
/-
  Records as a whole: made, loaded, stored; the statements' Own and Back; which are the same.
-/
namespace Go.Proofs.YtampnikdmgojjaaGreat
open Go.RowKit
open Tlv (Tr BySlS AgreeS Agree)
open Crc (hid Kept Tab)

section
variable {P : Program}
theorem results_cell_mid {fn : Func} {p : Tmp} {ty : TypeId} (h : fn.results = #[.cell p ty]) (tmps : Array Value) (w : World) (g o : Nat) (cs : List Value) (d : TypeDesc)
    (hp : tmps.getD p undef = .pointer (some ⟨g, o, none⟩)) (hc : w.rangeAt g o cs)
    (hu : P.underlying ty = some d) (hd : d.isRow = true) (hi : (P.info? ty).map (·.size) = some cs.length) :
    (results fn tmps).run P w = .ok (.agg cs.toArray) w := by
  have hp' : tmps[p]?.getD undef = .pointer (some ⟨g, o, none⟩) := by simpa using hp
  simp [results, h, hp', asAddr, run_loadVar_mid w g o ty cs d hc hu hd hi]
theorem results_cell_mid2 {fn : Func} {p u : Tmp} {ty : TypeId} (h : fn.results = #[.cell p ty, .tmp u]) (tmps : Array Value) (w : World) (g o : Nat) (cs : List Value) (d : TypeDesc)
    (hp : tmps.getD p undef = .pointer (some ⟨g, o, none⟩)) (hc : w.rangeAt g o cs)
    (hu : P.underlying ty = some d) (hd : d.isRow = true) (hi : (P.info? ty).map (·.size) = some cs.length) :
    (results fn tmps).run P w = .ok (.tuple #[.agg cs.toArray, tmps.getD u undef]) w := by
  have hp' : tmps[p]?.getD undef = .pointer (some ⟨g, o, none⟩) := by simpa using hp
  rw [results_cell_tmp h]
  simp [hp', asAddr, run_loadVar_mid w g o ty cs d hc hu hd hi]
theorem results_cell_mid3 {fn : Func} {p u z : Tmp} {ty : TypeId} (h : fn.results = #[.cell p ty, .tmp u, .tmp z]) (tmps : Array Value) (w : World) (g o : Nat) (cs : List Value) (d : TypeDesc)
    (hp : tmps.getD p undef = .pointer (some ⟨g, o, none⟩)) (hc : w.rangeAt g o cs)
    (hu : P.underlying ty = some d) (hd : d.isRow = true) (hi : (P.info? ty).map (·.size) = some cs.length) :
    (results fn tmps).run P w = .ok (.tuple #[.agg cs.toArray, tmps.getD u undef, tmps.getD z undef]) w := by
  have hp' : tmps[p]?.getD undef = .pointer (some ⟨g, o, none⟩) := by simpa using hp
  simp only [results, h]
  simp [Result.andThen, hp', asAddr, run_loadVar_mid w g o ty cs d hc hu hd hi]
end

theorem there_of_block {w : World} {g : Nat} {cs : Array Value} {t : TypeId} (h : w.heap[g]? = some (.cells cs t (0, 0))) (o n : Nat) (hn : o + n ≤ cs.size) : w.there g o n := fun j hj => by
  have hlt : o + j < cs.size := by omega
  rw [cell_of_row w g (o + j) cs t (0, 0) h, frozen_of_row w g _ cs t h]
  exact ⟨by simp [hlt], rfl⟩

theorem range_new (w : World) (C : List Value) (ty : TypeId) : (w.alloc (.cells C.toArray ty)).rangeAt w.heap.size 0 C := fun j v hv => by
  rw [Nat.zero_add, World.cell?_alloc_at _ _ _ _ rfl]
  simpa using hv
theorem there_new (w : World) (C : List Value) (ty : TypeId) : (w.alloc (.cells C.toArray ty)).there w.heap.size 0 C.length := there_of_block (heap_alloc_new _ _) 0 C.length (by simp)

theorem rangeAt_below {B : Nat} {w w' : World} {g o : Nat} {C : List Value} (h : w.rangeAt g o C) (hb : Below B w w') (hg : g < B) : w'.rangeAt g o C := fun j v hv => (hb.cell (p := ⟨g, o + j, none⟩) hg).trans (h j v hv)
theorem there_below {B : Nat} {w w' : World} {g o n : Nat} (h : w.there g o n) (hb : Below B w w') (hg : g < B) : w'.there g o n := fun j hj => by
  rw [hb.cell (p := ⟨g, o + j, none⟩) hg, hb.frozen (p := ⟨g, o + j, none⟩) hg]
  exact h j hj
theorem rangeAt_kept {b : Nat} {w w' : World} {g o : Nat} {C : List Value} (h : w.rangeAt g o C) (hk : Kept b w w') (hg : g < w.heap.size) (hb : g ≠ b) : w'.rangeAt g o C := fun j v hv => (hk.cell (p := ⟨g, o + j, none⟩) hg hb).trans (h j v hv)
theorem there_kept {b : Nat} {w w' : World} {g o n : Nat} (h : w.there g o n) (hk : Kept b w w') (hg : g < w.heap.size) (hb : g ≠ b) : w'.there g o n := fun j hj => by
  rw [hk.cell (p := ⟨g, o + j, none⟩) hg hb, hk.frozen (p := ⟨g, o + j, none⟩) hg hb]
  exact h j hj

/-- The part of a record that is its name. -/
theorem rangeAt_name {w : World} {g o : Nat} {k : Int} {nm : List Int} {v : Value} (h : w.rangeAt g o (recA k nm v)) : w.rangeAt g (o + 1) (u8s nm) := fun j u hj => by
  have hlt := (List.getElem?_eq_some_iff.1 hj).1
  have := h (1 + j) u (by rw [recA, Nat.add_comm, List.getElem?_cons_succ, List.getElem?_append_left hlt]; exact hj)
  rw [← this]
  congr 2
  omega

theorem setCells_below {B g : Nat} (h : B ≤ g) (w : World) (o : Nat) (cs : List Value) : Below B w (w.setCells g o cs) := by
  induction cs generalizing w o with
  | nil => exact Below.refl _ _
  | cons c cs ih => rw [World.setCells]; exact ((Below.refl B w).setCell (p := ⟨g, o, none⟩) h c).trans (ih _ _)
theorem setCells_size (w : World) (g o : Nat) (cs : List Value) : (w.setCells g o cs).heap.size = w.heap.size := by
  induction cs generalizing w o with
  | nil => rfl
  | cons c cs ih => rw [World.setCells, ih]; simp

/-- A record of no kind, no name, no body. -/
def zRec : List Value := recA 0 (List.replicate 32 0) (.slice none 0 0)
theorem zRec_length : zRec.length = 34 := rfl
theorem zRec_one : ∀ v ∈ zRec, v.oneCell' = true := recA_one _ _ _ _ _

theorem ex32 {nm : List Int} (h : nm.length = 32) : ∃ x0 x1 x2 x3 x4 x5 x6 x7 x8 x9 x10 x11 x12 x13 x14 x15 x16 x17 x18 x19 x20 x21 x22 x23 x24 x25 x26 x27 x28 x29 x30 x31,
    nm = [x0, x1, x2, x3, x4, x5, x6, x7, x8, x9, x10, x11, x12, x13, x14, x15, x16, x17, x18, x19, x20, x21, x22, x23, x24, x25, x26, x27, x28, x29, x30, x31] := by
  match nm, h with
  | [x0, x1, x2, x3, x4, x5, x6, x7, x8, x9, x10, x11, x12, x13, x14, x15, x16, x17, x18, x19, x20, x21, x22, x23, x24, x25, x26, x27, x28, x29, x30, x31], _ => exact ⟨_, _, _, _, _, _, _, _, _, _, _, _, _, _, _, _, _, _, _, _, _, _, _, _, _, _, _, _, _, _, _, _, rfl⟩


theorem wpList_build3 {ops : Array Oper} {rest : List Oper} {o : Oper} {a : Act} {w : World} {Q : Exit → Act → World → Prop} (hg : o.guard = none) (ty : TypeId) (x y z : Operand) (ho : o.op = .build ty #[(0, x), (1, y), (2, z)])
    (vx vy vz : Value) (hx : a.eval x = vx) (hy : a.eval y = vy) (hz : a.eval z = vz) (C : Array Value) (hb : Tryz.prog.built ty [(0, vx), (1, vy), (2, vz)] = some C)
    (h : wpList Tryz.prog ops Q rest (a.put o.dst (.agg C)) w) : wpList Tryz.prog ops Q (o :: rest) a w := by
  have e : Tryz.prog.built ty ((#[(0, x), (1, y), (2, z)] : Array (Nat × Operand)).map fun (i, x) => (i, a.eval x)).toList = some C := by
    rw [← hb]
    simp only [List.map_toArray, List.map_cons, List.map_nil, hx, hy, hz]
  refine wpList_build hg ty _ ho (by rw [e]; rfl) ?_
  rw [e]
  exact h



end Go.Proofs.YtampnikdmgojjaaGreat
end

section
/-
  Which records are the same: the program's answer, and the reference's.
-/
namespace Go.Proofs.YtampnikdmgojjaaGreat
open Go.RowKit
open Tlv (Tr BySlS AgreeS Agree)
open Crc (hid Kept Tab)

theorem wpList_bare {P : Program} {ops : Array Oper} {Q : Exit → Act → World → Prop} {a : Act} {w : World} {rest : List Oper} {dst : Option Tmp} {op : Op} {type : TypeId} {pos : String} {after : Array Edge} {g : Option (Nat × Bool)}
    (hw : Region.wanted ⟨dst, op, type, pos, after, g⟩ (yielded ops a.tmps) = true) (h : wpList P ops Q (⟨dst, op, type, pos, after, none⟩ :: rest) a w) : wpList P ops Q (⟨dst, op, type, pos, after, g⟩ :: rest) a w := by
  unfold wpList at h ⊢
  rw [if_pos hw]
  rw [if_pos (by rfl)] at h
  exact h

theorem cells_u8s (l : List Int) (h : ∀ x ∈ l, 0 ≤ x ∧ x ≤ 255) : (l.map fun x => x.toNat.toUInt8).map Extern.Stop.cell = u8s l := by
  unfold u8s
  rw [List.map_map]
  apply List.map_congr_left
  intro x hx
  have := h x hx
  simp [Extern.Stop.cell]
  omega
theorem map_inj : ∀ (xs ys : List Int), (∀ x ∈ xs, 0 ≤ x ∧ x ≤ 255) → (∀ x ∈ ys, 0 ≤ x ∧ x ≤ 255) → (xs.map fun x => x.toNat.toUInt8) = (ys.map fun x => x.toNat.toUInt8) → xs = ys
  | [], [], _, _, _ => rfl
  | [], _ :: _, _, _, h => by simp at h
  | _ :: _, [], _, _, h => by simp at h
  | x :: xs, y :: ys, h1, h2, h => by
    simp only [List.map_cons, List.cons.injEq] at h
    have hx := h1 x (by simp)
    have hy := h2 y (by simp)
    have e := congrArg UInt8.toNat h.1
    simp at e
    have e2 : x = y := by omega
    rw [e2, map_inj xs ys (fun z hz => h1 z (by simp [hz])) (fun z hz => h2 z (by simp [hz])) h.2]

/-- Two names. -/
theorem eqName (xs ys : List Int) (hx : xs.length = 32) (hy : ys.length = 32) (bx : ∀ x ∈ xs, 0 ≤ x ∧ x ≤ 255) (bY : ∀ x ∈ ys, 0 ≤ x ∧ x ≤ 255) (w : World) :
    (Op.equalIn 10000 46 (.agg (u8s xs).toArray) (.agg (u8s ys).toArray)).run Tryz.prog w = .ok (decide (xs = ys)) w := by
  have h := run_equalIn_bytes (P := Tryz.prog) w 9998 46 5 32 Tryz.underlying46 Tryz.underlying5 Tryz.sizeOf5 (xs.map fun x => x.toNat.toUInt8) (ys.map fun x => x.toNat.toUInt8) (by simpa using hx) (by simpa using hy)
  rw [cells_u8s xs bx, cells_u8s ys bY] at h
  have e : ((xs.map fun x => x.toNat.toUInt8) == (ys.map fun x => x.toNat.toUInt8)) = decide (xs = ys) := by
    rw [Bool.eq_iff_iff]
    simp only [beq_iff_eq, decide_eq_true_eq]
    exact ⟨map_inj xs ys bx bY, fun e => by rw [e]⟩
  rw [e] at h
  exact h

/-- Records are the same. -/
def sameR (k k' : Int) (nm nm' bs bs' : List Int) : Bool := decide (k = k') && (decide (nm = nm') && decide (bs = bs'))



end Go.Proofs.YtampnikdmgojjaaGreat
end

section
/-
  What Size and Put answer.
-/
namespace Go.Proofs.YtampnikdmgojjaaGreat
open Go.RowKit
open Tlv (Tr BySlS AgreeS Agree)
open Crc (hid Kept Tab)

/-- A table at b, its rows filled or not. -/
def TabX (w : World) (b : Nat) : Prop := ∃ f n, (f = 0 ∨ f = 1) ∧ Tab w b f n
theorem TabX.below {w w' : World} {b : Nat} (h : TabX w b) (k : Below w.heap.size w w') : TabX w' b := by
  obtain ⟨f, n, hf, ht⟩ := h
  exact ⟨f, n, hf, ht.below k⟩
theorem TabX.lt {w : World} {b : Nat} (h : TabX w b) : b < w.heap.size := by
  obtain ⟨f, n, hf, ht⟩ := h
  exact ht.1
theorem TabX.kept {b g : Nat} {w w' : World} (h : TabX w b) (k : Kept g w w') (hg : b ≠ g) : TabX w' b := by
  obtain ⟨f, n, hf, ht⟩ := h
  exact ⟨f, n, hf, ht.kept k hg⟩
theorem TabX.of {b : Nat} {n : Int} {w : World} (h : Tab w b 1 n) : TabX w b := ⟨1, n, .inr rfl, h⟩

theorem toCrc {S : Nat → Prop} {b : Nat} {w : World} {v : Value} {xs : List Int} (h : BySlS S w v xs) (hS : ∀ g, S g → g ≠ b ∧ g < w.heap.size) : Crc.BySl b w v (nats xs) := by
  obtain ⟨a, cap, rfl, h2, h3, h4, h5, h6, h7⟩ := h
  refine ⟨a, cap, by rw [nats_length], by rw [nats_length]; exact h2, h3, fun e => ⟨by rw [(h4 e).1]; rfl, (h4 e).2⟩, by rw [nats_length]; exact h5, nats_lt _ h6, fun hne => ?_⟩
  have hne' : xs ≠ [] := fun e => hne (by rw [e]; rfl)
  obtain ⟨g, o, e, hg, hc⟩ := h7 hne'
  refine ⟨g, o, e, (hS g hg).1, (hS g hg).2, fun i hi => ?_⟩
  rw [nats_length] at hi
  rw [hc i hi]
  have hx := h6 (xs.getD i 0) (by rw [List.getD_eq_getElem?_getD, List.getElem?_eq_getElem hi]; simp)
  simp only [nats, List.getD_eq_getElem?_getD, List.getElem?_map, List.getElem?_eq_getElem hi, Option.map_some, Option.getD_some] at hx ⊢
  congr 2
  omega

theorem ofCrc {b : Nat} {w : World} {v : Value} {xs : List Nat} (h : Crc.BySl b w v xs) : BySlS (fun g => g ≠ b ∧ g < w.heap.size) w v (ints xs) := by
  obtain ⟨a, cap, rfl, h2, h3, h4, h5, h6, h7⟩ := h
  refine ⟨a, cap, by rw [ints_length], by rw [ints_length]; exact h2, h3, fun e => ⟨by rw [(h4 e).1]; rfl, (h4 e).2⟩, by rw [ints_length]; exact h5, ints_bd _ h6, fun hne => ?_⟩
  have hne' : xs ≠ [] := fun e => hne (by rw [e]; rfl)
  obtain ⟨g, o, e, hg, hg2, hc⟩ := h7 hne'
  refine ⟨g, o, e, ⟨hg, hg2⟩, fun i hi => ?_⟩
  rw [ints_length] at hi
  rw [hc i hi]
  simp [ints, List.getElem?_eq_getElem hi]

theorem BySlS.mono {S S' : Nat → Prop} {w : World} {v : Value} {xs : List Int} (h : BySlS S w v xs) (hS : ∀ g, S g → S' g) : BySlS S' w v xs := h.agree (fun _ _ => rfl) hS
theorem BySlS.kept {b : Nat} {S : Nat → Prop} {w w' : World} {v : Value} {xs : List Int} (h : BySlS S w v xs) (k : Kept b w w') (hS : ∀ g, S g → g ≠ b ∧ g < w.heap.size) : BySlS S w' v xs := h.agree (fun g hg => k.block g (hS g hg).2 (hS g hg).1) (fun _ h => h)
theorem BySlS.below {B : Nat} {S : Nat → Prop} {w w' : World} {v : Value} {xs : List Int} (h : BySlS S w v xs) (k : Below B w w') (hS : ∀ g, S g → g < B) : BySlS S w' v xs := h.agree (fun g hg => k.block g (hS g hg)) (fun _ h => h)

theorem rightB_of {k : Int} {nm bs : List Int} (h : RightR k nm bs) : rightB k bs.length = true := by
  obtain ⟨h1, h2, h3, _⟩ := h
  simp [rightB]; omega
theorem right_of {k : Int} {nm bs : List Int} (h : rightB k bs.length = true) (hn : nm.length = 32) (hx : ∀ x ∈ nm, 0 ≤ x ∧ x ≤ 255) (hy : ∀ x ∈ bs, 0 ≤ x ∧ x ≤ 255) : RightR k nm bs := by
  simp [rightB] at h
  exact ⟨by omega, by omega, by omega, hn, hx, hy⟩






end Go.Proofs.YtampnikdmgojjaaGreat
end

section
/-
  An entry's value in tlv's words.
-/
namespace Go.Proofs.YtampnikdmgojjaaGreat.Sg
open Go.RowKit
open Tlv (Tr Agree)
open Sim (hid Kp No)

/-- An entry's value, and that of entries. -/
def entT (e : Ent) : Tr 2 := Tr.mk 3 0 [] [(Tr.mk 2 0 e.1 [] : Tr 1), Tr.mk 1 e.2.1 [] [], Tr.mk 1 e.2.2.1 [] [], Tr.mk 1 e.2.2.2 [] []]
def entsT (d : List Ent) : Tr 3 := Tr.mk 3 0 [] (d.map entT)

set_option maxHeartbeats 1000000 in
set_option maxRecDepth 100000 in
theorem segnum_any (n : Int) (w : World) (h0 : 0 ≤ n) (h1 : n ≤ 1000000) : Calls Tryz.prog 75 #[.int .i64 n] w fun e w' => e = .returned (.agg #[.int .i64 1, .int .u64 n, .slice none 0 0, .slice none 0 0]) ∧ Below w.heap.size w w' := by
  have hwk : IntKind.u64.wrap n = n := by rw [IntKind.wrap_u64]; omega
  have HN := hid (Tlv.number_any n)
  clear h0 h1
  go_enter Tryz.func75, Tryz.ntmps75
  go_wp2_with fail
  refine (HN.out _).mono ?_
  rintro e w1 ⟨rfl, hb⟩
  have HB := hid hb
  obtain ⟨hc, hf⟩ := Tlv.bcell hb
  have g0 : w1.cell? ⟨w.heap.size, 0, none⟩ = some (.int .i64 0) := (hc _ _ (by simp)).trans (by simp [go_sem])
  have g1 : w1.cell? ⟨w.heap.size, 1, none⟩ = some (.int .u64 0) := (hc _ _ (by simp)).trans (by simp [go_sem])
  have g2 : w1.cell? ⟨w.heap.size, 2, none⟩ = some (.slice none 0 0) := (hc _ _ (by simp)).trans (by simp [go_sem])
  have g3 : w1.cell? ⟨w.heap.size, 3, none⟩ = some (.slice none 0 0) := (hc _ _ (by simp)).trans (by simp [go_sem])
  have gf : ∀ o, w1.frozen? ⟨w.heap.size, o, none⟩ = false := fun o => (hf _ _ (by simp)).trans (by simp [go_sem])
  have hz : w.heap.size < w1.heap.size := by have := hb.size; simp at this; omega
  clear hb hc hf hwk
  go_wp2_with fail
  obtain ⟨q0, q1, q2, q3⟩ := Tlv.set4_read (u0 := .int .i64 1) (u1 := .int .u64 n) (u2 := .slice none 0 0) (u3 := .slice none 0 0) g0 g1 g2 g3
  refine bodyPost_ret (v := .agg #[.int .i64 1, .int .u64 n, .slice none 0 0, .slice none 0 0]) (by simp [results, Tryz.results75, go_sem, q0, q1, q2, q3]) rfl ⟨rfl, ?_⟩
  exact (((Below.refl _ w).alloc (Nat.le_refl _) _).trans (HB.out.mono (by simp))).trans (Tlv.bset4 (Nat.le_refl _) _ _ _ _)

/-- Four values laid in a row. -/
theorem four_in {w : World} (nm : List Int) (p q r : Int) (vn : Value) (h0 : 0 ≤ p ∧ p ≤ 1000000) (h1 : 0 ≤ q ∧ q ≤ 1000000) (h2 : 0 ≤ r ∧ r ≤ 1000000) (bn : Tlv.BySl 0 w.heap.size w vn nm) (ty : TypeId) (C : Array Value)
    (hC : C = #[.int .i64 2, .int .u64 0, vn, .slice none 0 0, .int .i64 1, .int .u64 p, .slice none 0 0, .slice none 0 0, .int .i64 1, .int .u64 q, .slice none 0 0, .slice none 0 0, .int .i64 1, .int .u64 r, .slice none 0 0, .slice none 0 0]) :
    Tlv.KSl 0 (w.heap.size + 1) (w.alloc (.cells C ty)) (Tlv.Rep 0 (w.heap.size + 1) (w.alloc (.cells C ty)) 1)
      (.slice (some ⟨w.heap.size, 0, none⟩) 4 4) [(Tr.mk 2 0 nm [] : Tr 1), Tr.mk 1 p [] [], Tr.mk 1 q [] [], Tr.mk 1 r [] []] := by
  subst hC
  have hA : ∀ o : Obj, Agree 0 w.heap.size w (w.alloc o) := fun o => (Agree.refl _ _ _).alloc (Nat.le_refl _) _
  have hc : ∀ (C : Array Value) (j : Nat), (w.alloc (.cells C ty)).cell? ⟨w.heap.size, j, none⟩ = C[j]? := fun C j => World.cell?_alloc_at _ _ _ _ rfl
  refine ⟨_, 4, rfl, Nat.le_refl _, by decide, by simp, by simp, fun _ => ⟨w.heap.size, 0, rfl, Nat.zero_le _, by omega, fun j t hj => ?_⟩⟩
  match j, hj with
  | 0, hj =>
    simp only [List.getElem?_cons_zero, Option.some.injEq] at hj
    subst hj
    exact ⟨_, _, hc _ _, hc _ _, hc _ _, hc _ _, rep2 (bn.agree (hA _) (Nat.le_refl _) (by omega))⟩
  | 1, hj =>
    simp only [List.getElem?_cons_succ, List.getElem?_cons_zero, Option.some.injEq] at hj
    subst hj
    exact ⟨_, _, hc _ _, hc _ _, hc _ _, hc _ _, rep1 _ h0.1 (by omega)⟩
  | 2, hj =>
    simp only [List.getElem?_cons_succ, List.getElem?_cons_zero, Option.some.injEq] at hj
    subst hj
    exact ⟨_, _, hc _ _, hc _ _, hc _ _, hc _ _, rep1 _ h1.1 (by omega)⟩
  | 3, hj =>
    simp only [List.getElem?_cons_succ, List.getElem?_cons_zero, Option.some.injEq] at hj
    subst hj
    exact ⟨_, _, hc _ _, hc _ _, hc _ _, hc _ _, rep1 _ h2.1 (by omega)⟩

theorem many4 {L : Nat} {w : World} {p q r : Int} {nm : List Int} {vn : Value} (h0 : 0 ≤ p ∧ p ≤ 1000000) (h1 : 0 ≤ q ∧ q ≤ 1000000) (h2 : 0 ≤ r ∧ r ≤ 1000000) (bn : Tlv.BySl L w.heap.size w vn nm) :
    Calls Tryz.prog 52 #[.slice (some ⟨w.heap.size, 0, none⟩) 4 4] (w.alloc (.cells #[.int .i64 2, .int .u64 0, vn, .slice none 0 0, .int .i64 1, .int .u64 p, .slice none 0 0, .slice none 0 0, .int .i64 1, .int .u64 q, .slice none 0 0, .slice none 0 0, .int .i64 1, .int .u64 r, .slice none 0 0, .slice none 0 0] 87))
      fun e w' => ∃ a3 l3 p3 a4 l4 p4, e = .returned (.agg #[.int .i64 3, .int .u64 0, .slice a3 l3 p3, .slice a4 l4 p4]) ∧ Tlv.Rep w.heap.size w'.heap.size w' 2 (entT (nm, p, q, r)) (.slice a3 l3 p3) (.slice a4 l4 p4) ∧ Below w.heap.size w w' := by
  have h := four_in (w := w) nm p q r vn h0 h1 h2 (bn.agree (Agree.refl _ _ _) (Nat.zero_le _) (Nat.le_refl _)) 87 _ rfl
  refine (Tlv.many_any _ _ _ (by simpa using h) (by omega)).mono ?_
  rintro e w5 ⟨sb', sk', rfl, hr5, hb5⟩
  obtain ⟨a3, l3, p3, a4, l4, p4, rfl, rfl⟩ := hr5.sl
  exact ⟨_, _, _, _, _, _, rfl, hr5.agree (Agree.refl _ _ _) (by simp) (Nat.le_refl _), ((Below.refl _ w).alloc (Nat.le_refl _) _).trans (hb5.mono (by simp))⟩

theorem nameIn {W : World} {g o : Nat} {e : Ent} (he : EOk e) (hg : g < W.heap.size) (h : W.rangeAt g o (entC e)) : Tlv.BySl 0 W.heap.size W (.slice (some ⟨g, o, none⟩) 32 32) e.1 := by
  refine ⟨_, 32, by rw [he.1], by rw [he.1]; omega, by decide, by simp, by rw [he.1]; omega, he.2, fun _ => ⟨g, o, rfl, Nat.zero_le _, hg, fun i hi => ?_⟩⟩
  have := h i (.int .u8 (e.1.getD i 0)) (by
    rw [entC, List.getElem?_append_left (by rw [b8_length]; exact hi)]
    simp [b8, List.getElem?_eq_getElem hi])
  exact this

set_option maxHeartbeats 2000000 in
set_option maxRecDepth 100000 in
theorem entval_any (nm : List Int) (p q r : Int) (w : World) (he : EOk (nm, p, q, r)) (h0 : 0 ≤ p ∧ p ≤ 1000000) (h1 : 0 ≤ q ∧ q ≤ 1000000) (h2 : 0 ≤ r ∧ r ≤ 1000000) :
    Calls Tryz.prog 53 #[.agg (entC (nm, p, q, r)).toArray] w fun e w' => ∃ a3 l3 p3 a4 l4 p4, e = .returned (.agg #[.int .i64 3, .int .u64 0, .slice a3 l3 p3, .slice a4 l4 p4]) ∧ Tlv.Rep w.heap.size w'.heap.size w' 2 (entT (nm, p, q, r)) (.slice a3 l3 p3) (.slice a4 l4 p4) ∧ Below w.heap.size w w' := by
  have HE := hid he
  have hpl : ∀ (W : World) (g : Nat), W.rangeAt g 0 (entC (nm, p, q, r)) → W.cell? ⟨g, 32, none⟩ = some (.int .i64 p) ∧ W.cell? ⟨g, 33, none⟩ = some (.int .i64 q) ∧ W.cell? ⟨g, 34, none⟩ = some (.int .i64 r) := fun W g h => by
    have h := rng_place he h
    exact ⟨h 0 _ rfl, h 1 _ rfl, h 2 _ rfl⟩
  have HPL := hid hpl
  clear hpl he
  obtain ⟨C, hC⟩ : ∃ C, entC (nm, p, q, r) = C := ⟨_, rfl⟩
  have HC := hid hC
  rw [hC]
  clear hC
  go_enter Tryz.func53, Tryz.ntmps53
  go_wp2
  obtain ⟨W0, hW0⟩ : ∃ W0, (w.alloc (.cells C.toArray 64)).alloc (.cells #[.int .i64 0, .int .u64 0, .slice none 0 0, .slice none 0 0] 87) = W0 := ⟨_, rfl⟩
  have hz : W0.heap.size = w.heap.size + 2 := by rw [← hW0]; simp
  have hbel : Below w.heap.size w W0 := by rw [← hW0]; exact ((Below.refl _ _).alloc (Nat.le_refl _) _).alloc (by simp) _
  have hrg : W0.rangeAt w.heap.size 0 C := by
    rw [← hW0]
    refine World.rangeAt_alloc (fun j v hv => ?_) _
    rw [Nat.zero_add, World.cell?_alloc_at _ _ _ _ rfl]
    simpa using hv
  have HG : Hid (∀ j u, (#[.int .i64 0, .int .u64 0, .slice none 0 0, .slice none 0 0] : Array Value)[j]? = some u → W0.cell? ⟨w.heap.size + 1, j, none⟩ = some u) := fun j u hj => by
    rw [← hW0, World.cell?_alloc_at _ _ _ _ (by simp), hj]
  have HF : Hid (∀ j, W0.frozen? ⟨w.heap.size + 1, j, none⟩ = false) := fun j => by
    rw [← hW0, World.frozen?_alloc_at _ _ _ _ (by simp)]
  rw [hW0]
  clear hW0
  have hplC := HPL.out W0 w.heap.size (by rw [HC.out]; exact hrg)
  have r32 : ∀ V, Below (w.heap.size + 1) W0 V → V.cell? ⟨w.heap.size, 32, none⟩ = some (.int .i64 p) := fun V h => (h.cell (p := ⟨w.heap.size, 32, none⟩) (by simp)).trans hplC.1
  have r33 : ∀ V, Below (w.heap.size + 1) W0 V → V.cell? ⟨w.heap.size, 33, none⟩ = some (.int .i64 q) := fun V h => (h.cell (p := ⟨w.heap.size, 33, none⟩) (by simp)).trans hplC.2.1
  have r34 : ∀ V, Below (w.heap.size + 1) W0 V → V.cell? ⟨w.heap.size, 34, none⟩ = some (.int .i64 r) := fun V h => (h.cell (p := ⟨w.heap.size, 34, none⟩) (by simp)).trans hplC.2.2
  have hwn := nameIn (W := W0) (g := w.heap.size) (o := 0) HE.out (by omega) (by rw [HC.out]; exact hrg)
  have K44n := hid (bytes44 (S := fun V => Below W0.heap.size W0 V) HE.out.1 (fun V h => h) hwn)
  have HZ := hid hz
  have HZ2 : Hid (w.heap.size + 1 ≤ W0.heap.size) := by rw [Hid]; omega
  have HBEL := hid hbel
  clear hz hbel hrg hwn hplC
  go_region_held3 (fun V => Below (w.heap.size + 1) W0 V) (first | (with_reducible exact Below.refl _ _) | (with_reducible exact (Below.refl _ _).drew) | (with_reducible exact HK2.out.mono HZ2.out) | (with_reducible exact HK3.out.mono HZ2.out) | (with_reducible exact HK4.out.mono HZ2.out) | (with_reducible exact HK5.out.mono HZ2.out) | (with_reducible exact (HK5.out.alloc HK5.out.size _).mono HZ2.out) | (with_reducible exact HK6.out.mono HZ2.out) | (with_reducible exact (HK6.out.mono HZ2.out).trans (Tlv.bset4 (Nat.le_refl _) _ _ _ _))) (first
    | (go_at_call 74; refine (K44n.out _ ?_).mono ?_; (with_reducible exact (Below.refl _ _).drew); rintro e w2 ⟨an, cn, rfl, hv3, hb3⟩; have HV2 := hid hv3; have HK2 : Hid (Below W0.heap.size W0 w2) := (Below.refl _ _).drew.trans hb3; clear hv3 hb3)
    | (go_at_call_of 75 (Value.int .i64 p); refine (segnum_any p _ h0.1 h0.2).mono ?_; rintro e w3 ⟨rfl, hb3⟩; have HV3 := hid (bySl_lift HV2.out hb3); have HK3 : Hid (Below W0.heap.size W0 w3) := HK2.out.trans (hb3.mono HK2.out.size); clear hb3)
    | (go_at_call_of 75 (Value.int .i64 q); refine (segnum_any q _ h1.1 h1.2).mono ?_; rintro e w4 ⟨rfl, hb4⟩; have HV4 := hid (bySl_lift HV3.out hb4); have HK4 : Hid (Below W0.heap.size W0 w4) := HK3.out.trans (hb4.mono HK3.out.size); clear hb4)
    | (go_at_call_of 75 (Value.int .i64 r); refine (segnum_any r _ h2.1 h2.2).mono ?_; rintro e w5 ⟨rfl, hb5⟩; have HV5 := hid (bySl_lift HV4.out hb5); have HK5 : Hid (Below W0.heap.size W0 w5) := HK4.out.trans (hb5.mono HK4.out.size); clear hb5)
    | (go_at_call 52; refine (many4 h0 h1 h2 HV5.out).mono ?_; rintro e w6 ⟨a3, l3, p3, a4, l4, p4, rfl, hr6, hb6⟩; have HR6 := hid hr6; have HK6 : Hid (Below W0.heap.size W0 w6) := HK5.out.trans (hb6.mono HK5.out.size); have hz6 : w.heap.size + 1 < w6.heap.size := (by have h1 := HK6.out.size; have h2 := HZ.out; omega); have hf6 : ∀ j, w6.frozen? ⟨w.heap.size + 1, j, none⟩ = false := (fun j => (HK6.out.frozen (p := ⟨w.heap.size + 1, j, none⟩) (by have h2 := HZ.out; simp; omega)).trans (HF.out j)); have hc6 : ∀ j u, (#[.int .i64 0, .int .u64 0, .slice none 0 0, .slice none 0 0] : Array Value)[j]? = some u → w6.cell? ⟨w.heap.size + 1, j, none⟩ = some u := (fun j u hj => (HK6.out.cell (p := ⟨w.heap.size + 1, j, none⟩) (by have h2 := HZ.out; simp; omega)).trans (HG.out j u hj)); have g0 := hc6 0 _ rfl; have g1 := hc6 1 _ rfl; have g2 := hc6 2 _ rfl; have g3 := hc6 3 _ rfl; clear hr6 hb6 hc6))
  go_wp2_with fail
  obtain ⟨q0, q1, q2, q3⟩ := Tlv.set4_read (u0 := .int .i64 3) (u1 := .int .u64 0) (u2 := .slice a3 l3 p3) (u3 := .slice a4 l4 p4) g0 g1 g2 g3
  refine bodyPost_ret (v := .agg #[.int .i64 3, .int .u64 0, .slice a3 l3 p3, .slice a4 l4 p4]) (by simp [results, Tryz.results53, go_sem, q0, q1, q2, q3]) rfl ⟨_, _, _, _, _, _, rfl, ?_, ?_⟩
  · have h1 := HK5.out.size
    have h2 := HZ.out
    exact HR6.out.agree (Agree.set4 _ (.inl (by omega)) _ _ _ _) (by omega) (by simp)
  · exact HBEL.out.trans (((HK6.out.mono HZ2.out).mono (Nat.le_succ _)).trans (Tlv.bset4 (Nat.le_succ _) _ _ _ _))
end Go.Proofs.YtampnikdmgojjaaGreat.Sg
end

section
/-
  Many of tlv with nothing: a list that is not there.
-/
namespace Go.Proofs.YtampnikdmgojjaaGreat.Sg
open Go.RowKit
open Tlv (Tr Agree bcell set4_read cell_far4 bset4)
open Sim (hid Kp No)
attribute [local go_sem ↓] Go.wp_at_zero Go.wp_at_succ

theorem bclone_none (w : World) : Calls Tryz.prog 59 #[.slice none 0 0] w fun e w' => e = .returned (.slice none 0 0) ∧ Below w.heap.size w w' := by
  have q22 := Tlv.Tryz.nilEq
  go_enter Tryz.func59, Tryz.ntmps59
  go_wp2
  go_ret
  exact ⟨rfl, Below.refl _ _⟩

set_option maxHeartbeats 2000000 in
set_option maxRecDepth 100000 in
theorem clone_none (w : World) : Calls Tryz.prog 73 #[.agg #[.int .i64 3, .int .u64 0, .slice none 0 0, .slice none 0 0], .int .i64 131072] w fun e w' => e = .returned (.tuple #[.agg #[.int .i64 3, .int .u64 0, .slice none 0 0, .slice none 0 0], .bool true]) ∧ Below w.heap.size w w' := by
  have HB := hid bclone_none
  go_enter Tryz.func73, Tryz.ntmps73
  go_upto_region 3 with fail
  obtain ⟨W0, hW0⟩ : ∃ W0, W0 = (w.alloc (Obj.cells #[Value.int IntKind.i64 3, Value.int IntKind.u64 0, Value.slice none 0 0, Value.slice none 0 0] 87)).alloc (Obj.cells #[Value.int IntKind.i64 0, Value.int IntKind.u64 0, Value.slice none 0 0, Value.slice none 0 0] 87) := ⟨_, rfl⟩
  have HW0 := hid hW0
  clear hW0
  go_cut [6] (fun s wx => ∃ (g : Nat), s = .pointer (some ⟨g, 0, none⟩) ∧ w.heap.size + 2 ≤ g ∧ g < wx.heap.size ∧ wx.cell? ⟨g, 0, none⟩ = some (.int .i64 3) ∧ wx.cell? ⟨g, 1, none⟩ = some (.int .u64 0) ∧
    wx.cell? ⟨g, 2, none⟩ = some (.slice none 0 0) ∧ wx.cell? ⟨g, 3, none⟩ = some (.slice none 0 0) ∧ (∀ o, wx.frozen? ⟨g, o, none⟩ = false) ∧ Hid (Below (w.heap.size + 2) W0 wx))
  case first =>
    go_region_held3 (fun w' => w'.cell? ⟨w.heap.size, 0, none⟩ = some (.int .i64 3) ∧ w'.cell? ⟨w.heap.size, 1, none⟩ = some (.int .u64 0) ∧ w'.cell? ⟨w.heap.size, 2, none⟩ = some (.slice none 0 0)) (first | go_keep | (refine ⟨?_, ?_, ?_⟩ <;> (rw [cell_far4 (by simp; omega)]; assumption)))
      ((go_at_call 59; refine (HB.out _).mono ?_; rintro e w1 ⟨rfl, hb⟩; have Hb := hid hb; obtain ⟨hc, hf⟩ := bcell hb; have hz := hb.size; clear hb; have q0 : w1.cell? ⟨w.heap.size, 0, none⟩ = some (.int .i64 3) := (hc _ _ (by simp; try omega)).trans (by simp [go_sem]); have q1 : w1.cell? ⟨w.heap.size, 1, none⟩ = some (.int .u64 0) := (hc _ _ (by simp; try omega)).trans (by simp [go_sem]); have q2 : w1.cell? ⟨w.heap.size, 2, none⟩ = some (.slice none 0 0) := (hc _ _ (by simp; try omega)).trans (by simp [go_sem])))
    · go_wp2_with fail
      go_meet
      simp at hz
      refine ⟨w1.heap.size, rfl, by omega, by simp, by simp, by simp, by simp, by simp, by simp, ?_⟩
      rw [HW0.out]
      exact (((Below.refl _ _).drew).trans (Hb.out.mono (by simp))).alloc (by omega) _
    · go_wp2_with fail
      go_meet
      simp at hz
      obtain ⟨r0, r1, r2, r3⟩ := set4_read (w := w1) (b := w.heap.size + 1 + 1) (u0 := .int .i64 3) (u1 := .int .u64 0) (u2 := .slice none 0 0) (u3 := .slice none 0 0) (x0 := .int .i64 0) (x1 := .int .u64 0) (x2 := .slice none 0 0) (x3 := .slice none 0 0) ((hc _ _ (by simp)).trans (by simp [go_sem])) ((hc _ _ (by simp)).trans (by simp [go_sem])) ((hc _ _ (by simp)).trans (by simp [go_sem])) ((hc _ _ (by simp)).trans (by simp [go_sem]))
      refine ⟨w.heap.size + 1 + 1, rfl, by omega, by simp; omega, r0, r1, r2, r3, ?_, ?_⟩
      · intro o
        simp only [World.frozen?_setCell]
        rw [hf _ _ (by simp)]
        simp [go_sem]
      · rw [HW0.out]
        exact ((((Below.refl _ _).alloc (by simp) _).drew).trans (Hb.out.mono (by simp))).trans (bset4 (by omega) _ _ _ _)
  case rest =>
    obtain ⟨g, rfl, hg0, hg1, e0, e1, e2, e3, hfr, HX⟩ := hcut
    have xb : ∀ o, wc.cell? ⟨w.heap.size, o, none⟩ = W0.cell? ⟨w.heap.size, o, none⟩ := fun o => HX.out.cell (p := ⟨w.heap.size, o, none⟩) (by simp)
    have b3 : wc.cell? ⟨w.heap.size, 3, none⟩ = some (.slice none 0 0) := by rw [xb, HW0.out]; simp [go_sem]
    have xr : ∀ o, wc.cell? ⟨w.heap.size + 1, o, none⟩ = W0.cell? ⟨w.heap.size + 1, o, none⟩ := fun o => HX.out.cell (p := ⟨w.heap.size + 1, o, none⟩) (by simp)
    have xf : ∀ o, wc.frozen? ⟨w.heap.size + 1, o, none⟩ = W0.frozen? ⟨w.heap.size + 1, o, none⟩ := fun o => HX.out.frozen (p := ⟨w.heap.size + 1, o, none⟩) (by simp)
    have r0 : wc.cell? ⟨w.heap.size + 1, 0, none⟩ = some (.int .i64 0) := by rw [xr, HW0.out]; simp [go_sem]
    have r1 : wc.cell? ⟨w.heap.size + 1, 1, none⟩ = some (.int .u64 0) := by rw [xr, HW0.out]; simp [go_sem]
    have r2 : wc.cell? ⟨w.heap.size + 1, 2, none⟩ = some (.slice none 0 0) := by rw [xr, HW0.out]; simp [go_sem]
    have r3 : wc.cell? ⟨w.heap.size + 1, 3, none⟩ = some (.slice none 0 0) := by rw [xr, HW0.out]; simp [go_sem]
    have rf : ∀ o, wc.frozen? ⟨w.heap.size + 1, o, none⟩ = false := fun o => by rw [xf, HW0.out]; simp [go_sem]
    clear xb xf xr
    have hB0 : Hid (Below w.heap.size w W0) := by rw [Hid, HW0.out]; exact ((Below.refl _ _).alloc (Nat.le_refl _) _).alloc (by simp) _
    go_wp2
    refine wp_loop_rounds 1 ?_
    rw [rounds_succ]
    go_wp2_with fail
    obtain ⟨q0, q1, q2, q3⟩ := set4_read (u0 := .int .i64 3) (u1 := .int .u64 0) (u2 := .slice none 0 0) (u3 := .slice none 0 0) r0 r1 r2 r3
    refine bodyPost_ret (v := .tuple #[.agg #[.int .i64 3, .int .u64 0, .slice none 0 0, .slice none 0 0], .bool true]) (by simp [results, Tryz.results73, go_sem, q0, q1, q2, q3]) rfl ⟨rfl, ?_⟩
    exact (hB0.out.trans (HX.out.mono (by omega))).trans (bset4 (by omega) _ _ _ _)

set_option maxHeartbeats 400000 in
theorem many_none (w : World) : Calls Tryz.prog 52 #[.slice none 0 0] w fun e w' => e = .returned (.agg #[.int .i64 3, .int .u64 0, .slice none 0 0, .slice none 0 0]) ∧ Below w.heap.size w w' := by
  have HC := hid clone_none
  go_enter Tryz.func52, Tryz.ntmps52
  go_wp2_with fail
  refine (HC.out _).mono ?_
  rintro e w1 ⟨rfl, hb1⟩
  have Hb1 := hid hb1
  obtain ⟨hc, hf⟩ := bcell hb1
  have hz := hb1.size
  simp at hz
  have hgw : w.heap.size < w1.heap.size := by omega
  have g0 : w1.cell? ⟨w.heap.size, 0, none⟩ = some (.int .i64 0) := by rw [hc _ _ (by simp)]; simp [go_sem]
  have g1 : w1.cell? ⟨w.heap.size, 1, none⟩ = some (.int .u64 0) := by rw [hc _ _ (by simp)]; simp [go_sem]
  have g2 : w1.cell? ⟨w.heap.size, 2, none⟩ = some (.slice none 0 0) := by rw [hc _ _ (by simp)]; simp [go_sem]
  have g3 : w1.cell? ⟨w.heap.size, 3, none⟩ = some (.slice none 0 0) := by rw [hc _ _ (by simp)]; simp [go_sem]
  have gf : ∀ o, w1.frozen? ⟨w.heap.size, o, none⟩ = false := fun o => by rw [hf _ _ (by simp)]; simp [go_sem]
  clear hc hf hb1
  go_wp2_with fail
  obtain ⟨q0, q1, q2, q3⟩ := set4_read (u0 := .int .i64 3) (u1 := .int .u64 0) (u2 := .slice none 0 0) (u3 := .slice none 0 0) g0 g1 g2 g3
  refine bodyPost_ret (v := .agg #[.int .i64 3, .int .u64 0, .slice none 0 0, .slice none 0 0]) (by simp [results, Tryz.results52, go_sem, q0, q1, q2, q3, hgw]) rfl ⟨rfl, ?_⟩
  exact (((((Below.refl _ w).alloc (Nat.le_refl _) _).trans (Hb1.out.mono (by simp))).trans (bset4 (Nat.le_refl _) _ _ _ _)).alloc (by simp; omega) _)
end Go.Proofs.YtampnikdmgojjaaGreat.Sg
end

section
/-
  A list of values that grows in a variable: one round's memory.
-/
namespace Go.Proofs.YtampnikdmgojjaaGreat.Sg
open Go.RowKit
open Tlv (Tr Agree CInv cellsK cell4)
open Sim (hid Kp No)

/-- The variable at block w1.heap.size holds a list's value: the first k entries'. -/
def VI (w1 : World) (d : List Ent) (k : Nat) (v : Value) (wr : World) : Prop :=
  wr.cell? ⟨w1.heap.size, 0, none⟩ = some (.int .i64 3) ∧ wr.cell? ⟨w1.heap.size, 1, none⟩ = some (.int .u64 0) ∧ wr.cell? ⟨w1.heap.size, 2, none⟩ = some (.slice none 0 0) ∧ wr.cell? ⟨w1.heap.size, 3, none⟩ = some v ∧
    (∀ o, wr.frozen? ⟨w1.heap.size, o, none⟩ = false) ∧ w1.heap.size < wr.heap.size ∧ CInv (w1.heap.size + 1) ((d.map entT).take k) v wr ∧ Below w1.heap.size w1 wr

theorem push_run {n base L B k : Nat} {ts : List (Tr n)} {t : Tr n} {av : Option Addr} {cv : Nat} {sb sk : Value} (w : World) (hk : ts.length = k) (h : CInv base ts (.slice av k cv) w) (hb : base ≤ w.heap.size) (hr : Tlv.Rep L B w n t sb sk) (hL : base ≤ L) (hB : B ≤ w.heap.size)
    (hd : ∀ r, (Value.slice av k cv).ownBlock = some r → r < L ∨ B ≤ r) (hl : k + 1 ≤ 2000000) (ty : TypeId) :
    ∃ g' cap w', (Builtin.append_ #[85, 85] ty #[.slice av k cv, .slice (some ⟨w.heap.size, 0, none⟩) 1 1]).run Tryz.prog (w.alloc (.cells #[.int .i64 t.hd.1, .int .u64 t.hd.2.1, sb, sk] 87)) = .ok (.slice (some ⟨g', 0, none⟩) (k + 1) cap) w' ∧
      CInv base (ts ++ [t]) (.slice (some ⟨g', 0, none⟩) (k + 1) cap) w' ∧ (w.alloc (.cells #[.int .i64 t.hd.1, .int .u64 t.hd.2.1, sb, sk] 87)).grownBy w' (Value.slice av k cv).ownBlock := by
  obtain ⟨i0, hi, hz0, hz1, hz2⟩ := info_parts Tlv.Tryz.info87
  have hlt := h.lt
  have hA : Agree base w.heap.size w (w.alloc (.cells #[.int .i64 t.hd.1, .int .u64 t.hd.2.1, sb, sk] 87)) := (Agree.refl _ _ _).alloc (Nat.le_refl _) _
  obtain ⟨ps, hl2, hown, hkid⟩ := h.agree hA (by simp)
  have hr2 := hr.agree (L' := L) (B' := B) (hA.mono hL hB) (Nat.le_refl _) (Nat.le_refl _)
  rw [hk] at hown
  have hone : ∀ u ∈ cell4 t (sb, sk), u.oneCell' = true := by
    obtain ⟨_, _, _, _, _, _, rfl, rfl⟩ := hr.sl
    intro u hu
    simp only [cell4, List.mem_cons, List.not_mem_nil, or_false] at hu
    rcases hu with rfl | rfl | rfl | rfl <;> rfl
  obtain ⟨g', cap, w', hrun, ho, hgr, hat, hlt'⟩ := run_append_lies (P := Tryz.prog) (w.alloc (.cells #[.int .i64 t.hd.1, .int .u64 t.hd.2.1, sb, sk] 87)) 85 ty base 87 i0 _ 4 64 Tryz.underlying85 hi hz0 hz1 hz2 rfl (by decide) (.slice av k cv) k (cellsK ts ps) hown ⟨w.heap.size, 0, none⟩ 1 1 (cell4 t (sb, sk)) rfl
    (World.news_of_block (cs := #[.int .i64 t.hd.1, .int .u64 t.hd.2.1, sb, sk]) (t := 87) (fr := (0, 0)) (heap_alloc_new w _)) hone (by omega) (by unfold maxLen; omega) (by omega) (by simp; omega) _ rfl
  refine ⟨g', cap, w', hrun, ?_, hgr⟩
  have P := CInv.push (g := g') (cap := cap) hl2 hkid hr2 hL (by simp; omega) hd (by rw [hk]; exact ho) hgr hat
  rw [hk] at P
  exact P

theorem VI.start (w1 : World) (d : List Ent) : VI w1 d 0 (.slice none 0 0) (w1.alloc (.cells #[.int .i64 3, .int .u64 0, .slice none 0 0, .slice none 0 0] 87)) :=
  ⟨by simp, by simp, by simp, by simp, by simp, by simp, by simpa using CInv.nil _ _, (Below.refl _ _).alloc (Nat.le_refl _) _⟩

theorem VI.step {w1 wr W1 w2 : World} {d : List Ent} {k cv : Nat} {av : Option Addr} {e : Ent} {sb sk : Value} (h : VI w1 d k (.slice av k cv) wr) (hk : Kp No wr W1) (hb : Below W1.heap.size W1 w2) (hr : Tlv.Rep W1.heap.size w2.heap.size w2 2 (entT e) sb sk) (he : d[k]? = some e) (hl : k + 1 ≤ 2000000) (ty : TypeId) :
    ∃ g' cap w4, (Builtin.append_ #[85, 85] ty #[.slice av k cv, .slice (some ⟨w2.heap.size, 0, none⟩) 1 1]).run Tryz.prog (w2.alloc (.cells #[.int .i64 3, .int .u64 0, sb, sk] 87)) = .ok (.slice (some ⟨g', 0, none⟩) (k + 1) cap) w4 ∧
      w4.cell? ⟨w1.heap.size, 3, none⟩ = some (.slice av k cv) ∧ w4.frozen? ⟨w1.heap.size, 3, none⟩ = false ∧ w1.heap.size < w4.heap.size ∧
      VI w1 d (k + 1) (.slice (some ⟨g', 0, none⟩) (k + 1) cap) (w4.setCell ⟨w1.heap.size, 3, none⟩ (.slice (some ⟨g', 0, none⟩) (k + 1) cap)) ∧ Kp (fun x => x = w1.heap.size ∨ (Value.slice av k cv).ownBlock = some x) W1 w4 := by
  obtain ⟨h0, h1, h2, h3, hf, hs, hc, hw⟩ := h
  have hlk : ((d.map entT).take k).length = k := by
    have := (List.getElem?_eq_some_iff.1 he).1
    rw [List.length_take, List.length_map]
    omega
  have hz1 := hk.size
  have hz2 := hb.size
  have hA : Agree (w1.heap.size + 1) wr.heap.size wr w2 := fun j _ hj => (hb.block j (by omega)).trans (hk.block j hj (fun x => x))
  have hc2 := hc.agree hA (by omega)
  obtain ⟨g', cap, w4, hrun, hC, hgr⟩ := push_run w2 hlk hc2 (by omega) hr (by omega) (Nat.le_refl _) (fun r hr => .inl (by have := (hc.lt r hr).2; omega)) hl ty
  have hne : ∀ r, (Value.slice av k cv).ownBlock = some r → w1.heap.size + 1 ≤ r := fun r hr => (hc.lt r hr).1
  have hnb : some w1.heap.size ≠ (Value.slice av k cv).ownBlock := fun e => by have := hne _ e.symm; omega
  have hzg := hgr.size
  simp at hzg
  have cc : ∀ j, w4.cell? ⟨w1.heap.size, j, none⟩ = wr.cell? ⟨w1.heap.size, j, none⟩ := fun j => by
    rw [hgr.cell_far ⟨w1.heap.size, j, none⟩ (by simp; omega) hnb, World.cell?_alloc_past _ _ _ (by omega), hb.cell (p := ⟨w1.heap.size, j, none⟩) (by simp; omega)]
    exact hk.cell (p := ⟨w1.heap.size, j, none⟩) hs (fun x => x)
  have cf : ∀ j, w4.frozen? ⟨w1.heap.size, j, none⟩ = false := fun j => by
    rw [hgr.frozen_far ⟨w1.heap.size, j, none⟩ (by simp; omega) hnb, World.frozen?_alloc_past _ _ _ (by omega), hb.frozen (p := ⟨w1.heap.size, j, none⟩) (by simp; omega), hk.frozen (p := ⟨w1.heap.size, j, none⟩) hs (fun x => x)]
    exact hf j
  have htake : (d.map entT).take (k + 1) = (d.map entT).take k ++ [entT e] := by
    rw [List.take_add_one, List.getElem?_map, he]
    rfl
  have hKp : Kp (fun x => x = w1.heap.size ∨ (Value.slice av k cv).ownBlock = some x) W1 w4 := (((Kp.refl _ W1).trans (Kp.below hb : Kp No _ _) (fun _ hx => hx.elim)).alloc _).grown hgr (fun x hx => .inl (.inr hx))
  refine ⟨g', cap, w4, hrun, (cc 3).trans h3, cf 3, by omega, ⟨?_, ?_, ?_, ?_, fun o => ?_, ?_, ?_, ?_⟩, hKp⟩
  · rw [Sim.cell_other (by omega)]; exact (cc 0).trans h0
  · rw [Sim.cell_other (by omega)]; exact (cc 1).trans h1
  · rw [Sim.cell_other (by omega)]; exact (cc 2).trans h2
  · exact World.cell?_setCell_same _ _ _ ((cc 3).trans h3)
  · rw [World.frozen?_setCell]; exact cf o
  · simp; omega
  · rw [htake]
    exact hC.agree ((Agree.refl _ _ _).setCell (.inl (by simp)) _) (by simp)
  · have b1 : Below w1.heap.size w1 w2 := hw.trans ⟨by rw [hb.os, hk.os], by rw [hb.tape, hk.tape], by rw [hb.output, hk.output], by omega, fun j hj => (hb.block j (by omega)).trans (hk.block j (by omega) (fun x => x))⟩
    exact ((b1.alloc (by omega) _).grown hgr (by simp; omega) (fun r hr => by have := hne r hr; omega)).setCell (by simp) _
end Go.Proofs.YtampnikdmgojjaaGreat.Sg
end

section
/-
  The value of entries in tlv's words.
-/
namespace Go.Proofs.YtampnikdmgojjaaGreat.Sg
open Go.RowKit
open Tlv (Tr Agree)
open Sim (hid Kp No)

theorem run_oneV (t n : Int) (sb sk : Value) (w : World) : (Instr.buildSlice 85 1 #[(0, .agg #[.int .i64 t, .int .u64 n, sb, sk])]).run Tryz.prog w = .ok (.slice (some ⟨w.heap.size, 0, none⟩) 1 1) (w.alloc (.cells #[.int .i64 t, .int .u64 n, sb, sk] 87)) := by kernel_rfl
theorem plB_bd {e : Ent} (h : plB e = true) : (0 ≤ e.2.1 ∧ e.2.1 ≤ 1000000) ∧ (0 ≤ e.2.2.1 ∧ e.2.2.1 ≤ 1000000) ∧ (0 ≤ e.2.2.2 ∧ e.2.2.2 ≤ 1000000) := by
  simp [plB] at h
  omega

set_option maxHeartbeats 4000000 in
set_option maxRecDepth 100000 in
theorem value_any (w : World) (v : Value) (d : List Ent) (P : Nat → Prop) (hv : EV P w v d) (hp : ∀ e ∈ d, plB e = true) (hl : d.length ≤ 1000000) :
    Calls Tryz.prog 29 #[v] w fun e w' => ∃ a3 l3 p3 a4 l4 p4, e = .returned (.agg #[.int .i64 3, .int .u64 0, .slice a3 l3 p3, .slice a4 l4 p4]) ∧ Tlv.Rep w.heap.size w'.heap.size w' 3 (entsT d) (.slice a3 l3 p3) (.slice a4 l4 p4) ∧ Below w.heap.size w w' := by
  obtain ⟨a, c, rfl, h2, h3, h4, h5, h6⟩ := hv
  obtain ⟨n, hn⟩ : ∃ n, d.length = n := ⟨_, rfl⟩
  have HN := hid hn
  have HP := hid hp
  rw [hn] at hl h2 ⊢
  have H6 := hid h6
  have HM := hid many_none
  clear hn h2 h3 h4 h5 h6 hp
  go_enter Tryz.func29, Tryz.ntmps29
  go_wp2_with fail
  refine (HM.out _).mono ?_
  rintro e w1 ⟨rfl, hb1⟩
  have HB1 := hid hb1
  have HW : Hid (Below w.heap.size w w1) := ((Below.refl _ _).alloc (Nat.le_refl _) _).trans (hb1.mono (by simp))
  have hzw : w.heap.size < w1.heap.size := by have := hb1.size; simp at this; omega
  clear hb1 HM
  go_wp2_with fail
  go_loopw [9] (fun i wr => ∃ (k : Nat) (av : Option Addr) (cv : Nat), i = .int .i64 (k : Int) ∧ k ≤ n ∧ Hid (VI w1 d k (.slice av k cv) wr)) (fun i _ => n - (intOf i).toNat)
  case atStart => exact ⟨0, none, 0, rfl, Nat.zero_le _, VI.start w1 d⟩
  case round =>
    obtain ⟨k, av, cv, rfl, hkn, HS⟩ := hrel
    have hKw : Kp No w wr := Kp.below (HW.out.trans (HS.out.2.2.2.2.2.2.2.mono (by omega)))
    by_cases hlt : k < n
    · have hltI : (k : Int) < (n : Int) := by omega
      have hwk : IntKind.i64.wrap ((k : Int) + 1) = ((k + 1 : Nat) : Int) := by rw [IntKind.wrap_i64]; omega
      obtain ⟨e, he⟩ : ∃ e, d[k]? = some e := ⟨_, List.getElem?_eq_getElem (by rw [HN.out]; exact hlt)⟩
      have HE := hid he
      obtain ⟨g, o, rfl, _, hr⟩ := H6.out (by intro e; have := HN.out; rw [e] at this; simp at this; omega)
      have hrow := hr.kp hKw (fun x => x)
      have HX := hid (hrow.2 k e he)
      have HI := hid (inf HX.out.1)
      have HVAL : Hid (∀ V, Calls Tryz.prog 53 #[.agg (entC e).toArray] V fun e' w' => ∃ a3 l3 p3 a4 l4 p4, e' = .returned (.agg #[.int .i64 3, .int .u64 0, .slice a3 l3 p3, .slice a4 l4 p4]) ∧ Tlv.Rep V.heap.size w'.heap.size w' 2 (entT e) (.slice a3 l3 p3) (.slice a4 l4 p4) ∧ Below V.heap.size V w') := fun V => by
        obtain ⟨q0, q1, q2⟩ := plB_bd (HP.out e (List.mem_of_getElem? he))
        obtain ⟨nm, p, q, r⟩ := e
        exact entval_any nm p q r V HX.out.1 q0 q1 q2
      obtain ⟨cx, hcx⟩ : ∃ cx, entC e = cx := ⟨_, rfl⟩
      have HRX : Hid (wr.rangeAt g (o + k * 35) cx) := by rw [← hcx]; exact HX.out.2
      rw [hcx] at HI HVAL
      have hcl : cx.length = 35 := by rw [← hcx]; exact entC_length HX.out.1
      have HO1 : Hid (cx.toArray.all (·.oneCell') = true) := by rw [← hcx]; exact all_oneCell_toArray (entC_one e)
      have HC0 : Hid (∃ v0, cx[0]? = some v0) := ⟨_, List.getElem?_eq_getElem (by omega)⟩
      clear hcx hr hrow he hKw
      go_wp2_with (first
        | (refine wpList_load_mid (by rfl) 64 _ (by rfl) g (o + k * 35) (by rfl) cx _ HRX.out Tryz.underlying64 rfl HI.out ?_)
        | (refine wpList_store_box (fun W => ∀ V, Kp No W V → V.rangeAt wr.heap.size 0 cx ∧ Kp No wr V) (by rfl) 64 _ _ (by rfl) wr.heap.size 0 cx.toArray (by rfl) (by rfl) (thereE wr _ _ _ (by rw [List.size_toArray, hcl]; exact Nat.le_refl _)) HI.out HO1.out (boxE wr _ cx rfl hcl) ?_; intro W1 hW1; have HW1 := hid hW1; clear hW1))
      have HKW := hid (HW1.out W1 (Kp.refl _ _)).2
      have hbx : wr.heap.size < W1.heap.size := by
        obtain ⟨v0, hv0⟩ := HC0.out
        exact World.block_lt_of_cell? _ _ ((HW1.out W1 (Kp.refl _ _)).1 0 v0 hv0)
      have HLX : Hid (∀ V, Kp (fun x => x = w1.heap.size ∨ (Value.slice av k cv).ownBlock = some x) W1 V → V.rangeAt wr.heap.size 0 cx) := fun V hV j u hu => by
        refine (hV.cell (p := ⟨wr.heap.size, _, none⟩) hbx (fun hx => ?_)).trans ((HW1.out W1 (Kp.refl _ _)).1 j u hu)
        rcases hx with hx | hx
        · have h1 := HS.out.2.2.2.2.2.1
          have h2 : wr.heap.size = w1.heap.size := hx
          omega
        · have h1 := (HS.out.2.2.2.2.2.2.1.lt wr.heap.size hx).2
          omega
      have c3 : ∀ V, Kp No W1 V → V.cell? ⟨w1.heap.size, 3, none⟩ = some (.slice av k cv) := fun V hV => ((HW1.out V hV).2.cell (p := ⟨w1.heap.size, 3, none⟩) HS.out.2.2.2.2.2.1 (fun x => x)).trans HS.out.2.2.2.1
      clear hcl hbx
      refine wp_region_held_drew (S := fun V => Kp (fun x => x = w1.heap.size ∨ (Value.slice av k cv).ownBlock = some x) W1 V) (by kernel_rfl) ((Kp.refl _ _).drew) (fun hHeld => ?_)
      refine wpAnyH_take (i := 0) (oi := { dst := some 13, op := Op.fieldAddr 87 (Operand.tmp 3) 3, type := 0, pos := "sealed.go:53", after := #[], guard := none }) (v := .pointer (some ⟨w1.heap.size, 3, none⟩)) rfl (by kernel_rfl) (by kernel_rfl) (by kernel_rfl) (fun _ _ _ h => h) (Or.inl ⟨by rfl, fun w' hw' => by (clear hw'; go_simp)⟩) hHeld ?_
      simp only [Act.put, List.setIfInBounds_toArray, List.set_cons_zero, List.set_cons_succ]
      refine wpAnyH_take (i := 2) (oi := { dst := some 15, op := Op.load 64 (Operand.tmp 5), type := 64, pos := "sealed.go:53", after := #[], guard := none }) (v := .agg cx.toArray) rfl (by kernel_rfl) (by kernel_rfl) (by kernel_rfl) (fun _ _ _ h => h) (yieldsIf_load_mid (by rfl) _ _ rfl wr.heap.size 0 rfl cx _ (HLX.out) Tryz.underlying64 rfl HI.out) hHeld ?_
      simp only [Act.put, List.setIfInBounds_toArray, List.set_cons_zero, List.set_cons_succ]
      refine wpAnyH_ready (rs := [1, 3]) (by kernel_rfl) (by simp) ?_
      refine (AllReadyH.cons (o := { dst := some 14, op := Op.load 85 (Operand.tmp 13), type := 85, pos := "sealed.go:53", after := #[{ on := 0, ground := Ground.data }], guard := none }) rfl (fun K hK => ?_) (AllReadyH.cons (o := { dst := some 16, op := Op.call { callee := Callee.value (Operand.func 53), args := #[Operand.tmp 15], argTypes := #[64] }, type := 87, pos := "sealed.go:53", after := #[{ on := 2, ground := Ground.data }], guard := none }) rfl (fun K hK => ?_) AllReadyH.nil))
      · have q3 := c3 (W1.drew) ((Kp.refl No W1).drew)
        go_simp
        refine hK.out _ _ ((((Kp.refl No W1).drew).ofNo)) (fun hh => ?_)
        clear hK K hHeld
        have hHeld := hh
        clear hh
        try simp only [Act.put, List.setIfInBounds_toArray, List.set_cons_zero, List.set_cons_succ]
        refine wpAnyH_ready (rs := [3]) (by kernel_rfl) (by simp) ?_
        refine (AllReadyH.cons (o := { dst := some 16, op := Op.call { callee := Callee.value (Operand.func 53), args := #[Operand.tmp 15], argTypes := #[64] }, type := 87, pos := "sealed.go:53", after := #[{ on := 2, ground := Ground.data }], guard := none }) rfl (fun K hK => ?_) AllReadyH.nil)
        go_simp
        refine (HVAL.out _).mono ?_
        rintro e' w2 ⟨a3, l3, p3, a4, l4, p4, rfl, hr2, hb2⟩
        have hb2' : Below W1.heap.size W1 w2 := (Below.refl _ _).drew.trans hb2
        obtain ⟨g', cap, w4, hap, k3, kf, ks, hvi, hkp⟩ := HS.out.step HKW.out hb2' hr2 HE.out (by omega) 85
        have HK2 : Hid (Kp No W1 w2) := Kp.below hb2'
        have HAP := hid hap
        have HVI := hid hvi
        have HKP := hid hkp
        clear hap hvi hkp hr2 hb2 hb2'
        go_wp2_with fail
        refine hK.out _ _ (HK2.out.ofNo) (fun hh => ?_)
        clear hK K hHeld
        have hHeld := hh
        clear hh
        try simp only [Act.put, List.setIfInBounds_toArray, List.set_cons_zero, List.set_cons_succ]
        refine wpAnyH_ready (rs := [4]) (by kernel_rfl) (by simp) ?_
        refine (AllReadyH.cons (o := { dst := some 17, op := Op.buildSlice 85 1 #[(0, Operand.tmp 16)], type := 85, pos := "sealed.go:53", after := #[{ on := 3, ground := Ground.data }], guard := none }) rfl (fun K hK => ?_) AllReadyH.nil)
        rw [if_pos (by rfl)]
        refine wp_valE (exec_sliceE 85 _ rfl (.agg #[.int .i64 3, .int .u64 0, .slice a3 l3 p3, .slice a4 l4 p4]) _ rfl (run_oneV _ _ _ _ _)) ?_
        refine hK.out _ _ ((HK2.out.alloc _).ofNo) (fun hh => ?_)
        clear hK K hHeld
        have hHeld := hh
        clear hh
        try simp only [Act.put, List.setIfInBounds_toArray, List.set_cons_zero, List.set_cons_succ]
        refine wpAnyH_ready (rs := [5]) (by kernel_rfl) (by simp) ?_
        refine (AllReadyH.cons (o := { dst := some 18, op := Op.call { callee := Callee.builtin Builtin.append, args := #[Operand.tmp 14, Operand.tmp 17], argTypes := #[85, 85] }, type := 85, pos := "sealed.go:53", after := #[{ on := 1, ground := Ground.data }, { on := 4, ground := Ground.data }, { on := 3, ground := Ground.chain }], guard := none }) rfl (fun K hK => ?_) AllReadyH.nil)
        rw [if_pos (by rfl)]
        refine wp_valE (exec_appE _ _ 85 rfl (.slice av k cv) (.slice (some ⟨w2.heap.size, 0, none⟩) 1 1) _ rfl rfl HAP.out) ?_
        refine hK.out _ _ (HKP.out) (fun hh => ?_)
        clear hK K hHeld
        have hHeld := hh
        clear hh
        try simp only [Act.put, List.setIfInBounds_toArray, List.set_cons_zero, List.set_cons_succ]
        refine wpAnyH_take (i := 6) (oi := { dst := some 19, op := Op.fieldAddr 87 (Operand.tmp 3) 3, type := 0, pos := "sealed.go:53", after := #[{ on := 0, ground := Ground.phase }, { on := 1, ground := Ground.phase }, { on := 2, ground := Ground.phase }, { on := 3, ground := Ground.phase }, { on := 4, ground := Ground.phase }, { on := 5, ground := Ground.phase }], guard := none }) (v := .pointer (some ⟨w1.heap.size, 3, none⟩)) rfl (by kernel_rfl) (by kernel_rfl) (by kernel_rfl) (fun _ _ _ h => h) (Or.inl ⟨by rfl, fun w' hw' => by (clear hw'; go_simp)⟩) hHeld ?_
        simp only [Act.put, List.setIfInBounds_toArray, List.set_cons_zero, List.set_cons_succ]
        refine wpAnyH_ready (rs := [7]) (by kernel_rfl) (by simp) ?_
        refine (AllReadyH.cons (o := { dst := none, op := Op.store 85 (Operand.tmp 19) (Operand.tmp 18), type := 0, pos := "sealed.go:53", after := #[{ on := 6, ground := Ground.data }, { on := 5, ground := Ground.data }, { on := 5, ground := Ground.chain }, { on := 0, ground := Ground.phase }, { on := 1, ground := Ground.phase }, { on := 2, ground := Ground.phase }, { on := 3, ground := Ground.phase }, { on := 4, ground := Ground.phase }, { on := 5, ground := Ground.phase }], guard := none }) rfl (fun K hK => ?_) AllReadyH.nil)
        go_simp
        refine hK.out _ _ ((HKP.out.setCell (p := ⟨w1.heap.size, 3, none⟩) (.inl (.inl rfl)) _)) (fun hh => ?_)
        clear hK K hHeld
        have hHeld := hh
        clear hh
        try simp only [Act.put, List.setIfInBounds_toArray, List.set_cons_zero, List.set_cons_succ]
        refine wpAnyH_done (by kernel_rfl) ?_ _
        clear hHeld
        go_wp2_with fail
        go_round
        case rel => exact ⟨k + 1, some ⟨g', 0, none⟩, cap, by first | rfl | go_num, by omega, HVI.out⟩
        case measure => simp [intOf]; omega
      · go_simp
        refine (HVAL.out _).mono ?_
        rintro e' w2 ⟨a3, l3, p3, a4, l4, p4, rfl, hr2, hb2⟩
        have hb2' : Below W1.heap.size W1 w2 := (Below.refl _ _).drew.trans hb2
        obtain ⟨g', cap, w4, hap, k3, kf, ks, hvi, hkp⟩ := HS.out.step HKW.out hb2' hr2 HE.out (by omega) 85
        have HK2 : Hid (Kp No W1 w2) := Kp.below hb2'
        have HAP := hid hap
        have HVI := hid hvi
        have HKP := hid hkp
        clear hap hvi hkp hr2 hb2 hb2'
        go_wp2_with fail
        refine hK.out _ _ (HK2.out.ofNo) (fun hh => ?_)
        clear hK K hHeld
        have hHeld := hh
        clear hh
        try simp only [Act.put, List.setIfInBounds_toArray, List.set_cons_zero, List.set_cons_succ]
        refine wpAnyH_ready (rs := [1, 4]) (by kernel_rfl) (by simp) ?_
        refine (AllReadyH.cons (o := { dst := some 14, op := Op.load 85 (Operand.tmp 13), type := 85, pos := "sealed.go:53", after := #[{ on := 0, ground := Ground.data }], guard := none }) rfl (fun K hK => ?_) (AllReadyH.cons (o := { dst := some 17, op := Op.buildSlice 85 1 #[(0, Operand.tmp 16)], type := 85, pos := "sealed.go:53", after := #[{ on := 3, ground := Ground.data }], guard := none }) rfl (fun K hK => ?_) AllReadyH.nil))
        · have q3 := c3 (w2) HK2.out
          go_simp
          refine hK.out _ _ ((HK2.out.ofNo)) (fun hh => ?_)
          clear hK K hHeld
          have hHeld := hh
          clear hh
          try simp only [Act.put, List.setIfInBounds_toArray, List.set_cons_zero, List.set_cons_succ]
          refine wpAnyH_ready (rs := [4]) (by kernel_rfl) (by simp) ?_
          refine (AllReadyH.cons (o := { dst := some 17, op := Op.buildSlice 85 1 #[(0, Operand.tmp 16)], type := 85, pos := "sealed.go:53", after := #[{ on := 3, ground := Ground.data }], guard := none }) rfl (fun K hK => ?_) AllReadyH.nil)
          rw [if_pos (by rfl)]
          refine wp_valE (exec_sliceE 85 _ rfl (.agg #[.int .i64 3, .int .u64 0, .slice a3 l3 p3, .slice a4 l4 p4]) _ rfl (run_oneV _ _ _ _ _)) ?_
          refine hK.out _ _ ((HK2.out.alloc _).ofNo) (fun hh => ?_)
          clear hK K hHeld
          have hHeld := hh
          clear hh
          try simp only [Act.put, List.setIfInBounds_toArray, List.set_cons_zero, List.set_cons_succ]
          refine wpAnyH_ready (rs := [5]) (by kernel_rfl) (by simp) ?_
          refine (AllReadyH.cons (o := { dst := some 18, op := Op.call { callee := Callee.builtin Builtin.append, args := #[Operand.tmp 14, Operand.tmp 17], argTypes := #[85, 85] }, type := 85, pos := "sealed.go:53", after := #[{ on := 1, ground := Ground.data }, { on := 4, ground := Ground.data }, { on := 3, ground := Ground.chain }], guard := none }) rfl (fun K hK => ?_) AllReadyH.nil)
          rw [if_pos (by rfl)]
          refine wp_valE (exec_appE _ _ 85 rfl (.slice av k cv) (.slice (some ⟨w2.heap.size, 0, none⟩) 1 1) _ rfl rfl HAP.out) ?_
          refine hK.out _ _ (HKP.out) (fun hh => ?_)
          clear hK K hHeld
          have hHeld := hh
          clear hh
          try simp only [Act.put, List.setIfInBounds_toArray, List.set_cons_zero, List.set_cons_succ]
          refine wpAnyH_take (i := 6) (oi := { dst := some 19, op := Op.fieldAddr 87 (Operand.tmp 3) 3, type := 0, pos := "sealed.go:53", after := #[{ on := 0, ground := Ground.phase }, { on := 1, ground := Ground.phase }, { on := 2, ground := Ground.phase }, { on := 3, ground := Ground.phase }, { on := 4, ground := Ground.phase }, { on := 5, ground := Ground.phase }], guard := none }) (v := .pointer (some ⟨w1.heap.size, 3, none⟩)) rfl (by kernel_rfl) (by kernel_rfl) (by kernel_rfl) (fun _ _ _ h => h) (Or.inl ⟨by rfl, fun w' hw' => by (clear hw'; go_simp)⟩) hHeld ?_
          simp only [Act.put, List.setIfInBounds_toArray, List.set_cons_zero, List.set_cons_succ]
          refine wpAnyH_ready (rs := [7]) (by kernel_rfl) (by simp) ?_
          refine (AllReadyH.cons (o := { dst := none, op := Op.store 85 (Operand.tmp 19) (Operand.tmp 18), type := 0, pos := "sealed.go:53", after := #[{ on := 6, ground := Ground.data }, { on := 5, ground := Ground.data }, { on := 5, ground := Ground.chain }, { on := 0, ground := Ground.phase }, { on := 1, ground := Ground.phase }, { on := 2, ground := Ground.phase }, { on := 3, ground := Ground.phase }, { on := 4, ground := Ground.phase }, { on := 5, ground := Ground.phase }], guard := none }) rfl (fun K hK => ?_) AllReadyH.nil)
          go_simp
          refine hK.out _ _ ((HKP.out.setCell (p := ⟨w1.heap.size, 3, none⟩) (.inl (.inl rfl)) _)) (fun hh => ?_)
          clear hK K hHeld
          have hHeld := hh
          clear hh
          try simp only [Act.put, List.setIfInBounds_toArray, List.set_cons_zero, List.set_cons_succ]
          refine wpAnyH_done (by kernel_rfl) ?_ _
          clear hHeld
          go_wp2_with fail
          go_round
          case rel => exact ⟨k + 1, some ⟨g', 0, none⟩, cap, by first | rfl | go_num, by omega, HVI.out⟩
          case measure => simp [intOf]; omega
        · rw [if_pos (by rfl)]
          refine wp_valE (exec_sliceE 85 _ rfl (.agg #[.int .i64 3, .int .u64 0, .slice a3 l3 p3, .slice a4 l4 p4]) _ rfl (run_oneV _ _ _ _ _)) ?_
          refine hK.out _ _ ((HK2.out.alloc _).ofNo) (fun hh => ?_)
          clear hK K hHeld
          have hHeld := hh
          clear hh
          try simp only [Act.put, List.setIfInBounds_toArray, List.set_cons_zero, List.set_cons_succ]
          refine wpAnyH_ready (rs := [1]) (by kernel_rfl) (by simp) ?_
          refine (AllReadyH.cons (o := { dst := some 14, op := Op.load 85 (Operand.tmp 13), type := 85, pos := "sealed.go:53", after := #[{ on := 0, ground := Ground.data }], guard := none }) rfl (fun K hK => ?_) AllReadyH.nil)
          have q3 := c3 (w2.alloc (.cells #[.int .i64 3, .int .u64 0, .slice a3 l3 p3, .slice a4 l4 p4] 87)) (HK2.out.alloc _)
          go_simp
          refine hK.out _ _ (((HK2.out.alloc _).ofNo)) (fun hh => ?_)
          clear hK K hHeld
          have hHeld := hh
          clear hh
          try simp only [Act.put, List.setIfInBounds_toArray, List.set_cons_zero, List.set_cons_succ]
          refine wpAnyH_ready (rs := [5]) (by kernel_rfl) (by simp) ?_
          refine (AllReadyH.cons (o := { dst := some 18, op := Op.call { callee := Callee.builtin Builtin.append, args := #[Operand.tmp 14, Operand.tmp 17], argTypes := #[85, 85] }, type := 85, pos := "sealed.go:53", after := #[{ on := 1, ground := Ground.data }, { on := 4, ground := Ground.data }, { on := 3, ground := Ground.chain }], guard := none }) rfl (fun K hK => ?_) AllReadyH.nil)
          rw [if_pos (by rfl)]
          refine wp_valE (exec_appE _ _ 85 rfl (.slice av k cv) (.slice (some ⟨w2.heap.size, 0, none⟩) 1 1) _ rfl rfl HAP.out) ?_
          refine hK.out _ _ (HKP.out) (fun hh => ?_)
          clear hK K hHeld
          have hHeld := hh
          clear hh
          try simp only [Act.put, List.setIfInBounds_toArray, List.set_cons_zero, List.set_cons_succ]
          refine wpAnyH_take (i := 6) (oi := { dst := some 19, op := Op.fieldAddr 87 (Operand.tmp 3) 3, type := 0, pos := "sealed.go:53", after := #[{ on := 0, ground := Ground.phase }, { on := 1, ground := Ground.phase }, { on := 2, ground := Ground.phase }, { on := 3, ground := Ground.phase }, { on := 4, ground := Ground.phase }, { on := 5, ground := Ground.phase }], guard := none }) (v := .pointer (some ⟨w1.heap.size, 3, none⟩)) rfl (by kernel_rfl) (by kernel_rfl) (by kernel_rfl) (fun _ _ _ h => h) (Or.inl ⟨by rfl, fun w' hw' => by (clear hw'; go_simp)⟩) hHeld ?_
          simp only [Act.put, List.setIfInBounds_toArray, List.set_cons_zero, List.set_cons_succ]
          refine wpAnyH_ready (rs := [7]) (by kernel_rfl) (by simp) ?_
          refine (AllReadyH.cons (o := { dst := none, op := Op.store 85 (Operand.tmp 19) (Operand.tmp 18), type := 0, pos := "sealed.go:53", after := #[{ on := 6, ground := Ground.data }, { on := 5, ground := Ground.data }, { on := 5, ground := Ground.chain }, { on := 0, ground := Ground.phase }, { on := 1, ground := Ground.phase }, { on := 2, ground := Ground.phase }, { on := 3, ground := Ground.phase }, { on := 4, ground := Ground.phase }, { on := 5, ground := Ground.phase }], guard := none }) rfl (fun K hK => ?_) AllReadyH.nil)
          go_simp
          refine hK.out _ _ ((HKP.out.setCell (p := ⟨w1.heap.size, 3, none⟩) (.inl (.inl rfl)) _)) (fun hh => ?_)
          clear hK K hHeld
          have hHeld := hh
          clear hh
          try simp only [Act.put, List.setIfInBounds_toArray, List.set_cons_zero, List.set_cons_succ]
          refine wpAnyH_done (by kernel_rfl) ?_ _
          clear hHeld
          go_wp2_with fail
          go_round
          case rel => exact ⟨k + 1, some ⟨g', 0, none⟩, cap, by first | rfl | go_num, by omega, HVI.out⟩
          case measure => simp [intOf]; omega
    · have hltI : ¬ (k : Int) < (n : Int) := by omega
      have hkn' : k = n := by omega
      have hS := HS.out
      obtain ⟨f0, f1, f2, f3, hf, hs, hc, hw⟩ := hS
      have hc' := hc.done (by rw [List.length_take, List.length_map, HN.out]; omega)
      rw [List.take_of_length_le (by rw [List.length_map, HN.out]; omega)] at hc'
      have HC := hid hc'
      have HBW := hid hw
      have xr : ∀ o, wr.cell? ⟨w.heap.size, o, none⟩ = (#[.int .i64 0, .int .u64 0, .slice none 0 0, .slice none 0 0] : Array Value)[o]? := fun o => by
        rw [hw.cell (p := ⟨w.heap.size, o, none⟩) (by simp; omega), HB1.out.cell (p := ⟨w.heap.size, o, none⟩) (by simp), World.cell?_alloc_at _ _ _ _ rfl]
      have xf : ∀ o, wr.frozen? ⟨w.heap.size, o, none⟩ = false := fun o => by
        rw [hw.frozen (p := ⟨w.heap.size, o, none⟩) (by simp; omega), HB1.out.frozen (p := ⟨w.heap.size, o, none⟩) (by simp), World.frozen?_alloc_at _ _ _ _ rfl]
      have r0 : wr.cell? ⟨w.heap.size, 0, none⟩ = some (.int .i64 0) := xr 0
      have r1 : wr.cell? ⟨w.heap.size, 1, none⟩ = some (.int .u64 0) := xr 1
      have r2 : wr.cell? ⟨w.heap.size, 2, none⟩ = some (.slice none 0 0) := xr 2
      have r3 : wr.cell? ⟨w.heap.size, 3, none⟩ = some (.slice none 0 0) := xr 3
      clear xr hc hc' hw hKw HS hkn'
      go_wp2_with fail
      obtain ⟨q0, q1, q2, q3⟩ := Tlv.set4_read (u0 := .int .i64 3) (u1 := .int .u64 0) (u2 := .slice none 0 0) (u3 := .slice av k cv) r0 r1 r2 r3
      refine bodyPost_ret (v := .agg #[.int .i64 3, .int .u64 0, .slice none 0 0, .slice av k cv]) (by simp [results, Tryz.results29, go_sem, q0, q1, q2, q3]) rfl ⟨_, _, _, _, _, _, rfl, ⟨by simp [entsT, Tr.mk, Tlv.Tr.hd], by simp [entsT, Tr.mk, Tlv.Tr.hd], Tlv.BySl.none _ _ _, ?_⟩, ?_⟩
      · have A4 := Agree.set4 (L := w1.heap.size + 1) (B := wr.heap.size) wr (b := w.heap.size) (o0 := 0) (o1 := 1) (o2 := 2) (o3 := 3) (.inl (by omega)) (.int .i64 3) (.int .u64 0) (.slice none 0 0) (.slice av k cv)
        exact HC.out.agree (L' := w.heap.size) (fun _ _ _ r => Tlv.Rep.agree (L' := w.heap.size) A4 (by omega) (by simp) r) A4 (by omega) (by simp)
      · exact (HW.out.trans (HBW.out.mono (by omega))).trans (Tlv.bset4 (Nat.le_refl _) _ _ _ _)
end Go.Proofs.YtampnikdmgojjaaGreat.Sg
end

section
/-
  The form of entries, and segment.Put.
-/
namespace Go.Proofs.YtampnikdmgojjaaGreat.Sg
open Go.RowKit
open Tlv (Tr Agree)
open Crc (Kept)
open Sim (hid Kp No)

theorem ent_bsz {e : Ent} (hn : e.1.length = 32) {room deep : Int} (hr : 68 ≤ room) (hd : 0 < deep) : (Tlv.bsz 2 (entT e) room deep).2 = true ∧ 0 ≤ (Tlv.bsz 2 (entT e) room deep).1 ∧ (Tlv.bsz 2 (entT e) room deep).1 ≤ 68 := by
  have b1 := Tlv.nsz_bd e.2.1
  have b2 := Tlv.nsz_bd e.2.2.1
  have b3 := Tlv.nsz_bd e.2.2.2
  rw [entT, Tlv.bsz_3 _ _ _ (by omega), Tlv.lsz_go hd]
  simp only [Tlv.lszGo]
  rw [Tlv.bsz_2 _ _ _ (by omega), hn, Tlv.bsz_1 _ _ _ (by simp; omega)]
  have d1 : decide (((32 : Nat) : Int) ≤ room - 0 - 3) = true := by simp; omega
  simp only [d1, if_true]
  have d2 : decide (Tlv.nsz e.2.1 ≤ room - (0 + (3 + ((32 : Nat) : Int))) - 3) = true := by simp; omega
  simp only [d2, if_true]
  rw [Tlv.bsz_1 _ _ _ (by simp; omega)]
  have d3 : decide (Tlv.nsz e.2.2.1 ≤ room - (0 + (3 + ((32 : Nat) : Int)) + (3 + Tlv.nsz e.2.1)) - 3) = true := by simp; omega
  simp only [d3, if_true]
  rw [Tlv.bsz_1 _ _ _ (by simp; omega)]
  have d4 : decide (Tlv.nsz e.2.2.2 ≤ room - (0 + (3 + ((32 : Nat) : Int)) + (3 + Tlv.nsz e.2.1) + (3 + Tlv.nsz e.2.2.1)) - 3) = true := by simp; omega
  simp only [d4, if_true]
  refine ⟨trivial, ?_, ?_⟩ <;> simp <;> omega

theorem ents_bsz : ∀ (d : List Ent), (∀ e ∈ d, e.1.length = 32) → ∀ (room acc : Int), 0 ≤ acc → acc + 71 * (d.length : Int) ≤ room → (Tlv.lszGo (Tlv.bsz 2) room 8 acc (d.map entT)).2 = true
  | [], _, _, _, _, _ => rfl
  | e :: d, h, room, acc, h0, h1 => by
    rw [List.map_cons, Tlv.lszGo]
    simp only [List.length_cons] at h1
    obtain ⟨b1, b2, b3⟩ := ent_bsz (h e (by simp)) (room := room - acc - 3) (deep := 8 - 1) (by omega) (by omega)
    rw [if_pos b1]
    exact ents_bsz d (fun x hx => h x (by simp [hx])) room _ (by omega) (by omega)

theorem entsT_right {d : List Ent} (h : ∀ e ∈ d, e.1.length = 32) (hl : d.length ≤ 900) : (Tlv.bsz 3 (entsT d) 65535 8).2 = true := by
  rw [entsT, Tlv.bsz_3 _ _ _ (by omega), Tlv.lsz_go (by omega)]
  exact ents_bsz d h _ _ (by omega) (by omega)

/-- The form of entries, and what it is sealed. -/
def formE (d : List Ent) : List Int := Tlv.formOf 3 (entsT d)
def sealE (d : List Ent) : List Int := sealI (formE d)

theorem szT_ents {d : List Ent} (h : ∀ e ∈ d, e.1.length = 32) (hl : d.length ≤ 900) : Tlv.szT 3 (entsT d) ≠ 0 := by
  have h1 := entsT_right h hl
  have h2 := Tlv.bsz_fits 3 _ _ _ h1
  rw [Tlv.szT, if_pos h1]
  omega
theorem formE_length {d : List Ent} (h : ∀ e ∈ d, e.1.length = 32) (hl : d.length ≤ 900) : (formE d).length ≤ 65538 := by
  have h1 := entsT_right h hl
  have h2 := Tlv.bsz_fits 3 _ _ _ h1
  have h3 := Tlv.bsz_len 3 _ _ _ h1
  have h4 : (formE d).length = 3 + (Tlv.bodyOf 3 (entsT d)).length := by rw [formE]; simp [Tlv.formOf]; omega
  omega

theorem RightP.places {d : List Ent} (h : RightP d) : ∀ e ∈ d, plB e = true := fun e he => by
  obtain ⟨i, hi⟩ := List.mem_iff_getElem?.1 he
  exact (h.2 i e (List.getElem?_eq_some_iff.1 hi).1 hi).1

set_option maxHeartbeats 1000000 in
set_option maxRecDepth 100000 in
theorem put_no (ad : Addr) (w : World) (v : Value) (d : List Ent) (P : Nat → Prop) (hv : EV P w v d) (hl : d.length ≤ 1000000) (hR : ¬ RightP d) :
    Calls Tryz.prog 7 #[.pointer (some ad), v] w fun e w' => e = .returned (.tuple #[.slice none 0 0, .int .i64 1]) ∧ Kp No w w' := by
  have HR := hid (right_any w v d P hv hl)
  have HN := hid hR
  obtain ⟨a, c, rfl, _⟩ := hv
  clear hR hl
  go_enter Tryz.func7, Tryz.ntmps7
  go_wp2_with fail
  refine HR.out.mono ?_
  rintro e w1 ⟨⟨b, rfl, hb⟩, hk⟩
  have hbf : b = false := by
    cases b with
    | false => rfl
    | true => exact absurd (hb.1 rfl) HN.out
  subst hbf
  have HK := hid hk
  clear hb hk
  go_wp2_with fail
  go_ret2
  exact ⟨rfl, HK.out⟩

set_option maxHeartbeats 2000000 in
set_option maxRecDepth 100000 in
theorem put_yes (b : Nat) (w : World) (v : Value) (d : List Ent) (P : Nat → Prop) (hT : TabX w b) (hv : EV P w v d) (hR : RightP d) :
    Calls Tryz.prog 7 #[.pointer (some ⟨b, 0, none⟩), v] w fun e w' => ∃ v', e = .returned (.tuple #[v', .int .i64 0]) ∧ Crc.Own w' w.heap.size v' (nats (sealE d)) ∧ Kept b w w' ∧ TabX w' b := by
  have hok := hv.ok
  have HOK : Hid (∀ e ∈ d, e.1.length = 32) := fun e he => (hok e he).1
  have HR := hid (right_any w v d P hv (by have := hR.1; omega))
  have HRR := hid hR
  have HV := hid hv
  have HT := hid hT
  have hbw := hT.lt
  obtain ⟨a, c, rfl, _⟩ := hv
  clear hR hT hok
  go_enter Tryz.func7, Tryz.ntmps7
  go_wp2_with fail
  refine HR.out.mono ?_
  rintro e w1 ⟨⟨bb, rfl, hb⟩, hk⟩
  have hbt : bb = true := hb.2 HRR.out
  subst hbt
  have HB1 : Hid (Below w.heap.size w w1) := ⟨hk.os, hk.tape, hk.output, hk.size, fun j hj => hk.block j hj (fun x => x)⟩
  have HV1 := hid (HV.out.kept hk)
  clear hb hk
  go_wp2_with fail
  refine (value_any w1 _ d P HV1.out HRR.out.places (by have := HRR.out.1; omega)).mono ?_
  rintro e w2 ⟨a3, l3, p3, a4, l4, p4, rfl, hr2, hb2⟩
  have HR2 := hid hr2
  have HB2 : Hid (Below w.heap.size w w2) := HB1.out.trans (hb2.mono HB1.out.size)
  clear hr2 hb2
  go_wp2_with fail
  refine (Tlv.Put_yes (entsT d) _ _ _ (HR2.out.agree (Agree.refl _ _ _) (Nat.zero_le _) (Nat.le_refl _)) (szT_ents HOK.out HRR.out.1)).mono ?_
  rintro e w3 ⟨vf, rfl, hf3, hb3⟩
  obtain ⟨af, cf, rfl, hrf⟩ := id hf3
  clear hrf
  have HF3 := hid hf3
  have HB3 : Hid (Below w.heap.size w w3) := HB2.out.trans (hb3.mono HB2.out.size)
  have hz2 : w.heap.size ≤ w2.heap.size := HB2.out.size
  clear hf3 hb3
  go_wp2_with fail
  obtain ⟨f, n, hf, ht⟩ := (HT.out.below HB3.out)
  have hcf : Crc.BySl b w3 (.slice af (Tlv.formOf 3 (entsT d)).length cf) (nats (formE d)) := toCrc HF3.out.toS (fun g hg => ⟨by omega, hg.2⟩)
  refine (Crc.seal_any b f n _ (nats (formE d)) _ hf ht hcf (by rw [nats_length]; have := formE_length HOK.out HRR.out.1; omega)).mono ?_
  rintro e w4 ⟨v', rfl, ho, hk4, ht4⟩
  have HO := hid ho
  have HK4 := hid hk4
  have HT4 := hid ht4
  clear ho hk4 ht4 ht hcf hf
  go_wp2_with fail
  go_ret2
  refine ⟨v', rfl, ?_, (Kept.below HB3.out).trans HK4.out, TabX.of HT4.out⟩
  rw [sealE, sealI_nats]
  exact HO.out.mono HB3.out.size
end Go.Proofs.YtampnikdmgojjaaGreat.Sg
end

section
/-
  Plain mathematics of segment's Get: which trees are entries' values, and what bytes answer.
-/
namespace Go.Proofs.YtampnikdmgojjaaGreat.Sg
open Go.RowKit
open Tlv (Tr)

/-- What the fields of a value tell, whatever is in them. -/
def entOf (k : Tr 8) : Ent := match k.kd with
  | [a, b, c, e] => (pad32 a.hd.2.2, wrap64 b.hd.2.1, wrap64 c.hd.2.1, wrap64 e.hd.2.1)
  | _ => ([], 0, 0, 0)
/-- A value that is one of right entries. -/
def GoodT (t : Tr 9) : Prop := (∀ k ∈ t.kd, k.kd.length = 4) ∧ RightP (t.kd.map entOf) ∧ Tlv.sameT 9 t 3 (entsT (t.kd.map entOf)) = true

theorem kd4 {k : Tr 8} (h : k.kd.length = 4) : ∃ a b c e, k.kd = [a, b, c, e] := by
  match hq : k.kd with
  | [a, b, c, e] => exact ⟨a, b, c, e, rfl⟩
  | [] => rw [hq] at h; simp at h
  | [_] => rw [hq] at h; simp at h
  | [_, _] => rw [hq] at h; simp at h
  | [_, _, _] => rw [hq] at h; simp at h
  | _ :: _ :: _ :: _ :: _ :: _ => rw [hq] at h; simp at h

theorem leaf7 {a : Tr 7} {tag x : Int} {ys : List Int} : Tlv.sameT 7 a 1 (Tr.mk tag x ys []) = true → a.hd = (tag, x, ys) := by
  simp only [Tlv.sameT, Bool.and_eq_true, decide_eq_true_eq]
  exact fun h => h.1

theorem same_ent {k : Tr 8} {e : Ent} (he : EOk e) (hp : plB e = true) (h : Tlv.sameT 8 k 2 (entT e) = true) : k.kd.length = 4 ∧ entOf k = e := by
  have q : Tlv.sameT 8 k 2 (entT e) = (decide (k.hd = (3, 0, [])) && Tlv.sameL (fun a b => Tlv.sameT 7 a 1 b) k.kd [Tr.mk 2 0 e.1 [], Tr.mk 1 e.2.1 [] [], Tr.mk 1 e.2.2.1 [] [], Tr.mk 1 e.2.2.2 [] []]) := rfl
  rw [q] at h
  simp only [Bool.and_eq_true, decide_eq_true_eq] at h
  have hl := Tlv.sameL_len h.2
  have hl4 : k.kd.length = 4 := hl
  refine ⟨hl4, ?_⟩
  obtain ⟨a, b, c, d, hk⟩ := kd4 hl4
  rw [hk] at h
  simp only [Tlv.sameL, Bool.and_eq_true] at h
  obtain ⟨_, h1, h2, h3, h4, _⟩ := h
  have l1 := leaf7 h1
  have l2 := leaf7 h2
  have l3 := leaf7 h3
  have l4 := leaf7 h4
  have b := plB_bd hp
  obtain ⟨nm, p, q, r⟩ := e
  rw [entOf, hk]
  dsimp only at *
  rw [l1, l2, l3, l4]
  dsimp only
  rw [← (pad32_same nm).2 he.1, IntWalk.wrap64_in _ ⟨by omega, by omega⟩, IntWalk.wrap64_in _ ⟨by omega, by omega⟩, IntWalk.wrap64_in _ ⟨by omega, by omega⟩]

theorem same_ents : ∀ (ks : List (Tr 8)) (d : List Ent), (∀ e ∈ d, EOk e) → (∀ e ∈ d, plB e = true) → Tlv.sameL (fun a b => Tlv.sameT 8 a 2 b) ks (d.map entT) = true → (∀ k ∈ ks, k.kd.length = 4) ∧ ks.map entOf = d
  | [], [], _, _, _ => ⟨by simp, rfl⟩
  | [], _ :: _, _, _, h => by simp [Tlv.sameL] at h
  | _ :: _, [], _, _, h => by simp [Tlv.sameL] at h
  | k :: ks, e :: d, ho, hp, h => by
    simp only [List.map_cons, Tlv.sameL, Bool.and_eq_true] at h
    obtain ⟨h1, h2⟩ := same_ent (ho e (by simp)) (hp e (by simp)) h.1
    obtain ⟨h3, h4⟩ := same_ents ks d (fun x hx => ho x (by simp [hx])) (fun x hx => hp x (by simp [hx])) h.2
    refine ⟨fun x hx => ?_, by rw [List.map_cons, h2, h4]⟩
    rcases List.mem_cons.1 hx with rfl | hx
    · exact h1
    · exact h3 x hx

theorem good_same {t : Tr 9} {d : List Ent} (ho : ∀ e ∈ d, EOk e) (hr : RightP d) (h : Tlv.sameT 9 t 3 (entsT d) = true) : GoodT t ∧ t.kd.map entOf = d := by
  have q : Tlv.sameT 9 t 3 (entsT d) = (decide (t.hd = (3, 0, [])) && Tlv.sameL (fun a b => Tlv.sameT 8 a 2 b) t.kd (d.map entT)) := rfl
  rw [q] at h
  simp only [Bool.and_eq_true, decide_eq_true_eq] at h
  obtain ⟨h1, h2⟩ := same_ents t.kd d ho hr.places h.2
  refine ⟨⟨h1, by rw [h2]; exact hr, ?_⟩, h2⟩
  rw [h2, q]
  simp [h.1, h.2]

/-- The numbers of entries are numbers. -/
theorem entsT_num {d : List Ent} (hp : ∀ e ∈ d, plB e = true) : Tlv.NumOk 3 (entsT d) := by
  refine ⟨Int.le_refl 0, (by decide : (0 : Int) ≤ 18446744073709551615), fun k hk => ?_⟩
  obtain ⟨e, he, rfl⟩ := List.mem_map.1 hk
  have b := plB_bd (hp e he)
  refine ⟨Int.le_refl 0, (by decide : (0 : Int) ≤ 18446744073709551615), fun j hj => ?_⟩
  have hj' : j ∈ ([Tr.mk 2 0 e.1 [], Tr.mk 1 e.2.1 [] [], Tr.mk 1 e.2.2.1 [] [], Tr.mk 1 e.2.2.2 [] []] : List (Tr 1)) := hj
  rcases List.mem_cons.1 hj' with rfl | hj1
  · exact ⟨Int.le_refl 0, (by decide : (0 : Int) ≤ 18446744073709551615), fun x hx => by cases hx⟩
  rcases List.mem_cons.1 hj1 with rfl | hj2
  · exact ⟨b.1.1, Int.le_trans b.1.2 (by decide), fun x hx => by cases hx⟩
  rcases List.mem_cons.1 hj2 with rfl | hj3
  · exact ⟨b.2.1.1, Int.le_trans b.2.1.2 (by decide), fun x hx => by cases hx⟩
  rcases List.mem_cons.1 hj3 with rfl | hj4
  · exact ⟨b.2.2.1, Int.le_trans b.2.2.2 (by decide), fun x hx => by cases hx⟩
  · cases hj4

theorem get_form {d : List Ent} (ho : ∀ e ∈ d, EOk e) (hr : RightP d) : ∃ t, Tlv.getT (formE d) = some t ∧ GoodT t ∧ t.kd.map entOf = d := by
  obtain ⟨t, h1, h2⟩ := Tlv.form_rd 3 8 (entsT d) 65535 [] (entsT_num hr.places) (by omega) (entsT_right (fun e he => (ho e he).1) hr.1)
  rw [List.append_nil] at h1
  obtain ⟨g1, g2⟩ := good_same ho hr h2
  exact ⟨t, by rw [Tlv.getT, formE, h1]; simp, g1, g2⟩

theorem form_get {bs : List Int} {t : Tr 9} (hb : ∀ x ∈ bs, 0 ≤ x ∧ x ≤ 255) (h : Tlv.getT bs = some t) (hg : GoodT t) : formE (t.kd.map entOf) = bs := by
  rw [Tlv.getT] at h
  cases hq : Tlv.rd 8 bs with
  | none => rw [hq] at h; simp at h
  | some p =>
    obtain ⟨u, m⟩ := p
    rw [hq] at h
    simp only at h
    split at h
    · rename_i hm
      cases h
      have h1 := (Tlv.rd_form 8 bs t m hb hq).1
      have h2 := Tlv.sameT_form 9 t 3 _ hg.2.2
      rw [formE, ← h2, h1, hm, List.take_length]
    · cases h

/-- What Get answers. -/
def GAns (bs : List Int) (f : Int) (d : List Ent) : Prop :=
  (bs.length < 4 ∧ f = 3 ∧ d = []) ∨ (4 ≤ bs.length ∧ sealI (bs.take (bs.length - 4)) ≠ bs ∧ f = 4 ∧ d = []) ∨
  (4 ≤ bs.length ∧ sealI (bs.take (bs.length - 4)) = bs ∧ (∀ t, Tlv.getT (bs.take (bs.length - 4)) = some t → ¬ GoodT t) ∧ f = 3 ∧ d = []) ∨
  (4 ≤ bs.length ∧ sealI (bs.take (bs.length - 4)) = bs ∧ ∃ t, Tlv.getT (bs.take (bs.length - 4)) = some t ∧ GoodT t ∧ f = 0 ∧ d = t.kd.map entOf)

theorem sealI_take (xs : List Int) : (sealI xs).take ((sealI xs).length - 4) = xs := by
  rw [sealI_length, Nat.add_sub_cancel, sealI, List.take_left']
  rfl
theorem gans_back {d d' : List Ent} {f : Int} (ho : ∀ e ∈ d, EOk e) (hr : RightP d) (h : GAns (sealE d) f d') : f = 0 ∧ d' = d := by
  have hl : 4 ≤ (sealE d).length := by rw [sealE, sealI_length]; omega
  have ht : (sealE d).take ((sealE d).length - 4) = formE d := sealI_take _
  obtain ⟨t, g1, g2, g3⟩ := get_form ho hr
  rw [GAns, ht] at h
  rcases h with ⟨h1, _⟩ | ⟨_, h1, _⟩ | ⟨_, _, h1, _⟩ | ⟨_, _, u, h1, _, h3, h4⟩
  · omega
  · exact absurd rfl h1
  · exact absurd g2 (h1 t g1)
  · rw [g1] at h1
    cases h1
    exact ⟨h3, by rw [h4, g3]⟩
theorem gans_zero {bs : List Int} {d : List Ent} (hb : ∀ x ∈ bs, 0 ≤ x ∧ x ≤ 255) (h : GAns bs 0 d) : RightP d ∧ sealE d = bs := by
  rcases h with ⟨_, h1, _⟩ | ⟨_, _, h1, _⟩ | ⟨_, _, _, h1, _⟩ | ⟨_, h0, t, h1, h2, _, rfl⟩
  · cases h1
  · cases h1
  · cases h1
  · refine ⟨h2.2.1, ?_⟩
    rw [sealE, form_get (fun x hx => hb x (List.mem_of_mem_take hx)) h1 h2, h0]
theorem gans_none {bs : List Int} {f : Int} {d : List Ent} (h : GAns bs f d) (hf : f ≠ 0) : d = [] := by
  rcases h with ⟨_, _, h1⟩ | ⟨_, _, _, h1⟩ | ⟨_, _, _, _, h1⟩ | ⟨_, _, t, _, _, h1, _⟩
  · exact h1
  · exact h1
  · exact h1
  · exact absurd h1 hf
end Go.Proofs.YtampnikdmgojjaaGreat.Sg
end

section
/-
  The form that bytes begin with, cut out by its own head.
-/
namespace Go.Proofs.YtampnikdmgojjaaGreat
open Go.RowKit
open Tlv (Tr BySlS AgreeS Agree)
open Crc (hid Kept Tab)

theorem bySl_take {L B : Nat} {w : World} {a : Option Addr} {cap E : Nat} {xs : List Int} (h : Tlv.BySl L B w (.slice a xs.length cap) xs) (hE : E ≤ xs.length) : Tlv.BySl L B w (.slice a E cap) (xs.take E) := by
  obtain ⟨a', cap', e, h2, h3, h4, h5, h6, h7⟩ := h
  simp only [Value.slice.injEq, true_and] at e
  obtain ⟨rfl, rfl⟩ := e
  have hl : (xs.take E).length = E := by rw [List.length_take]; omega
  refine ⟨a, cap, by rw [hl], by rw [hl]; omega, h3, fun e => ⟨by rw [(h4 e).1]; simp, (h4 e).2⟩, by rw [hl]; omega, fun x hx => h6 x (List.mem_of_mem_take hx), fun hne => ?_⟩
  obtain ⟨b, o, e, hL, hB, hc⟩ := h7 (fun e => hne (by rw [e]; simp))
  refine ⟨b, o, e, hL, hB, fun i hi => ?_⟩
  rw [hl] at hi
  rw [hc i (by omega)]
  simp [List.getElem?_take_of_lt hi]

end Go.Proofs.YtampnikdmgojjaaGreat
end

section
/-
  The record whose value a tree is, as the program finds it.
-/
namespace Go.Proofs.YtampnikdmgojjaaGreat
open Go.RowKit
open Tlv (Tr BySlS AgreeS Agree)
open Crc (hid Kept Tab)

theorem step_copy {P : Program} {ops : Array Oper} {o : Oper} {a : Act} {K : Act → World → Prop} {Q : Exit → Act → World → Prop} {E : Prop} (w : World) (hgd : o.guard = none) (d s : Operand) (dT sT : TypeId)
    (ho : o.op = .call { callee := .builtin .copy, args := #[d, s], argTypes := #[dT, sT] }) (elem : TypeId) (hu : P.underlying dT = some (.slice elem)) (hsz : (P.info? elem).map (·.size) = some 1)
    (g off dLen dCap : Nat) (ad : Addr) (sLen sCap : Nat) (hd : a.eval d = .slice (some ⟨g, off, none⟩) dLen dCap) (hs : a.eval s = .slice (some ad) sLen sCap)
    (cs : List Value) (hn : cs.length = Nat.min sLen dLen)
    (hsrc : ∀ j v, cs[j]? = some v → w.cell? (ad.add j) = some v) (ht : w.there g off cs.length) (h1 : ∀ v ∈ cs, v.oneCell' = true)
    (h : K (a.put o.dst (goInt cs.length)) (w.setCells g off cs)) : if Region.wanted o (yielded ops a.tmps) = true then Oper.wp P o a w K Q else E := by
  have hw : Region.wanted o (yielded ops a.tmps) = true := by simp [Region.wanted, hgd]
  rw [if_pos hw]
  have hrun := run_copy_cells (P := P) w dT sT o.type elem g off dLen dCap ad sLen sCap cs hu hsz hn hsrc (fun j hj => (ht j hj).1) (fun j hj => (ht j hj).2) h1
  unfold Oper.wp
  simp [execOp, ho, resolve, invoke, builtin, hd, hs, hrun, Result.andThen]
  exact h

theorem yields_build2 {P : Program} {ops : Array Oper} {S : World → Prop} {o : Oper} {a : Act} (hw : Region.wanted o (yielded ops a.tmps) = true) (t : TypeId) (i j : Nat) (x y : Operand) (ho : o.op = .build t #[(i, x), (j, y)])
    (vx vy : Value) (hx : a.eval x = vx) (hy : a.eval y = vy) (C : Array Value) (hb : P.built t [(i, vx), (j, vy)] = some C) : YieldsIf P ops S o (.agg C) a :=
  .inl ⟨hw, fun w _ => by
    have e : P.built t ((#[(i, x), (j, y)] : Array (Nat × Operand)).map fun (i, x) => (i, a.eval x)).toList = some C := by
      rw [← hb]
      simp only [List.map_toArray, List.map_cons, List.map_nil, hx, hy]
    unfold execOp
    simp only [ho, Sem.run_bind, run_build w t _ C e, Result.andThen_ok]
    rfl⟩


/-- What lies at g: a record of kind k, of no name yet, with the body v. -/
def Half (w W : World) (k : Int) (nm : List Int) (v : Value) (g : Nat) : Prop := Below w.heap.size w W ∧ w.heap.size ≤ g ∧ g < W.heap.size ∧ W.rangeAt g 0 (recA k nm v) ∧ W.there g 0 34

theorem Half.drew {w W : World} {k : Int} {nm : List Int} {v : Value} {g : Nat} (h : Half w W k nm v g) : Half w W.drew k nm v g := by
  obtain ⟨h1, h2, h3, h4, h5⟩ := h
  exact ⟨h1.drew, h2, h3, by rwa [World.rangeAt_drew], by rwa [World.there_drew]⟩

theorem app_right {A A0 T : List Value} {i : Nat} (h : A.length = A0.length) (hi : A.length ≤ i) : (A ++ T)[i]? = (A0 ++ T)[i]? := by
  rw [List.getElem?_append_right hi, List.getElem?_append_right (by omega), h]

theorem Half.named {w W : World} {k : Int} {bn : List Int} {v : Value} {g : Nat} (h : Half w W k (List.replicate 32 0) v g) (ht : W.there g 1 (u8s (bn.take 32)).length) : Half w (W.setCells g 1 (u8s (bn.take 32))) k (pad32 bn) v g := by
  obtain ⟨h1, h2, h3, h4, h5⟩ := h
  refine ⟨h1.trans (setCells_below h2 _ _ _), h2, by rw [setCells_size]; exact h3, fun j u hj => ?_, World.there_setCells h5 _ _ _⟩
  have hl : (u8s (bn.take 32)).length = (bn.take 32).length := u8s_length _
  have hl2 : (bn.take 32).length ≤ 32 := by rw [List.length_take]; omega
  have key : j = 0 ∨ (1 ≤ j ∧ j < 1 + (bn.take 32).length) ∨ 1 + (bn.take 32).length ≤ j := by omega
  rcases key with rfl | ⟨j1, j2⟩ | j3
  · rw [Nat.zero_add, World.cell?_setCells_out g _ 1 W ⟨g, 0, none⟩ (fun _ _ => .inl (by simp))]
    exact h4 0 u hj
  · obtain ⟨i, rfl⟩ : ∃ i, j = 1 + i := ⟨j - 1, by omega⟩
    have hi : i < (u8s (bn.take 32)).length := by omega
    rw [Nat.zero_add, World.cell?_setCells_in g _ 1 W (fun i hi => (ht i hi).1) i hi, ← hj, recA, Nat.add_comm, List.getElem?_cons_succ, show u8s (pad32 bn) = u8s (bn.take 32) ++ u8s (List.replicate (32 - bn.length) 0) by simp [pad32, u8s], List.append_assoc, List.getElem?_append_left hi]
    exact (List.getElem?_eq_getElem hi).symm
  · rw [Nat.zero_add, World.cell?_setCells_out g _ 1 W ⟨g, j, none⟩ (fun _ _ => .inr (by show 1 + _ ≤ j; omega))]
    have h6 := h4 j u (by
      rw [← hj]
      obtain ⟨i, rfl⟩ : ∃ i, j = i + 1 := ⟨j - 1, by omega⟩
      rw [recA, recA, List.getElem?_cons_succ, List.getElem?_cons_succ]
      have e1 : u8s (pad32 bn) = u8s (bn.take 32) ++ u8s (List.replicate (32 - bn.length) 0) := by simp [pad32, u8s]
      have e2 : u8s (List.replicate 32 0) = u8s (List.replicate (bn.take 32).length 0) ++ u8s (List.replicate (32 - bn.length) 0) := by
        simp only [u8s, List.map_replicate, List.replicate_append_replicate]
        congr 1
        rw [List.length_take]
        omega
      rw [e1, e2, List.append_assoc, List.append_assoc]
      exact app_right (by rw [u8s_length, u8s_length]; simp) (by rw [u8s_length, List.length_replicate]; omega))
    rw [Nat.zero_add] at h6
    exact h6

end Go.Proofs.YtampnikdmgojjaaGreat
end
