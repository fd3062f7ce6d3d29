/-
  Records as a whole: made, loaded, stored; the statements' Own and Back; which are the same.
-/
import Derived.Test.YthbhdbjjobfchaaFrMath
import Derived.Test.YthbhdbjjobfchaaTlvSame
import Derived.Laws.ResultCell
namespace Go.Proofs.Ythbhdbjjobfchaa
open Go.RowKit
open Tlv (Tr BySlS AgreeS Agree)
open Crc (hid Kept Tab)

section
variable {P : Program}
theorem results_cell_mid {fn : Func} {p : Tmp} {ty : TypeId} (h : fn.results = #[.cell p ty]) (tmps : Array Value) (w : World) (g o : Nat) (cs : List Value) (d : TypeDesc)
    (hp : tmps.getD p undef = .pointer (some ⟨g, o, none⟩)) (hc : w.rangeAt g o cs)
    (hu : P.underlying ty = some d) (hd : d.isRow = true) (hi : (P.info? ty).map (·.size) = some cs.length) :
    (results fn tmps).run P w = .ok (.agg cs.toArray) w := by
  have hp' : tmps[p]?.getD undef = .pointer (some ⟨g, o, none⟩) := by simpa using hp
  simp [results, h, hp', asAddr, run_loadVar_mid w g o ty cs d hc hu hd hi]
theorem results_cell_mid2 {fn : Func} {p u : Tmp} {ty : TypeId} (h : fn.results = #[.cell p ty, .tmp u]) (tmps : Array Value) (w : World) (g o : Nat) (cs : List Value) (d : TypeDesc)
    (hp : tmps.getD p undef = .pointer (some ⟨g, o, none⟩)) (hc : w.rangeAt g o cs)
    (hu : P.underlying ty = some d) (hd : d.isRow = true) (hi : (P.info? ty).map (·.size) = some cs.length) :
    (results fn tmps).run P w = .ok (.tuple #[.agg cs.toArray, tmps.getD u undef]) w := by
  have hp' : tmps[p]?.getD undef = .pointer (some ⟨g, o, none⟩) := by simpa using hp
  rw [results_cell_tmp h]
  simp [hp', asAddr, run_loadVar_mid w g o ty cs d hc hu hd hi]
theorem results_cell_mid3 {fn : Func} {p u z : Tmp} {ty : TypeId} (h : fn.results = #[.cell p ty, .tmp u, .tmp z]) (tmps : Array Value) (w : World) (g o : Nat) (cs : List Value) (d : TypeDesc)
    (hp : tmps.getD p undef = .pointer (some ⟨g, o, none⟩)) (hc : w.rangeAt g o cs)
    (hu : P.underlying ty = some d) (hd : d.isRow = true) (hi : (P.info? ty).map (·.size) = some cs.length) :
    (results fn tmps).run P w = .ok (.tuple #[.agg cs.toArray, tmps.getD u undef, tmps.getD z undef]) w := by
  have hp' : tmps[p]?.getD undef = .pointer (some ⟨g, o, none⟩) := by simpa using hp
  simp only [results, h]
  simp [Result.andThen, hp', asAddr, run_loadVar_mid w g o ty cs d hc hu hd hi]
end

theorem there_of_block {w : World} {g : Nat} {cs : Array Value} {t : TypeId} (h : w.heap[g]? = some (.cells cs t (0, 0))) (o n : Nat) (hn : o + n ≤ cs.size) : w.there g o n := fun j hj => by
  have hlt : o + j < cs.size := by omega
  rw [cell_of_row w g (o + j) cs t (0, 0) h, frozen_of_row w g _ cs t h]
  exact ⟨by simp [hlt], rfl⟩

theorem range_new (w : World) (C : List Value) (ty : TypeId) : (w.alloc (.cells C.toArray ty)).rangeAt w.heap.size 0 C := fun j v hv => by
  rw [Nat.zero_add, World.cell?_alloc_at _ _ _ _ rfl]
  simpa using hv
theorem there_new (w : World) (C : List Value) (ty : TypeId) : (w.alloc (.cells C.toArray ty)).there w.heap.size 0 C.length := there_of_block (heap_alloc_new _ _) 0 C.length (by simp)

theorem rangeAt_below {B : Nat} {w w' : World} {g o : Nat} {C : List Value} (h : w.rangeAt g o C) (hb : Below B w w') (hg : g < B) : w'.rangeAt g o C := fun j v hv => (hb.cell (p := ⟨g, o + j, none⟩) hg).trans (h j v hv)
theorem there_below {B : Nat} {w w' : World} {g o n : Nat} (h : w.there g o n) (hb : Below B w w') (hg : g < B) : w'.there g o n := fun j hj => by
  rw [hb.cell (p := ⟨g, o + j, none⟩) hg, hb.frozen (p := ⟨g, o + j, none⟩) hg]
  exact h j hj
theorem rangeAt_kept {b : Nat} {w w' : World} {g o : Nat} {C : List Value} (h : w.rangeAt g o C) (hk : Kept b w w') (hg : g < w.heap.size) (hb : g ≠ b) : w'.rangeAt g o C := fun j v hv => (hk.cell (p := ⟨g, o + j, none⟩) hg hb).trans (h j v hv)
theorem there_kept {b : Nat} {w w' : World} {g o n : Nat} (h : w.there g o n) (hk : Kept b w w') (hg : g < w.heap.size) (hb : g ≠ b) : w'.there g o n := fun j hj => by
  rw [hk.cell (p := ⟨g, o + j, none⟩) hg hb, hk.frozen (p := ⟨g, o + j, none⟩) hg hb]
  exact h j hj

/-- The part of a record that is its name. -/
theorem rangeAt_name {w : World} {g o : Nat} {k : Int} {nm : List Int} {v : Value} (h : w.rangeAt g o (recA k nm v)) : w.rangeAt g (o + 1) (u8s nm) := fun j u hj => by
  have hlt := (List.getElem?_eq_some_iff.1 hj).1
  have := h (1 + j) u (by rw [recA, Nat.add_comm, List.getElem?_cons_succ, List.getElem?_append_left hlt]; exact hj)
  rw [← this]
  congr 2
  omega

theorem setCells_below {B g : Nat} (h : B ≤ g) (w : World) (o : Nat) (cs : List Value) : Below B w (w.setCells g o cs) := by
  induction cs generalizing w o with
  | nil => exact Below.refl _ _
  | cons c cs ih => rw [World.setCells]; exact ((Below.refl B w).setCell (p := ⟨g, o, none⟩) h c).trans (ih _ _)
theorem setCells_size (w : World) (g o : Nat) (cs : List Value) : (w.setCells g o cs).heap.size = w.heap.size := by
  induction cs generalizing w o with
  | nil => rfl
  | cons c cs ih => rw [World.setCells, ih]; simp

/-- A record of no kind, no name, no body. -/
def zRec : List Value := recA 0 (List.replicate 32 0) (.slice none 0 0)
theorem zRec_length : zRec.length = 34 := rfl
theorem zRec_one : ∀ v ∈ zRec, v.oneCell' = true := recA_one _ _ _ _ _
theorem zero35 (w : World) : (zeroValue 35).run Try.prog w = .ok (.agg zRec.toArray) w := by kernel_rfl
theorem zero26 (w : World) : (zeroValue 26).run Try.prog w = .ok (.agg zRec.toArray) w := by kernel_rfl

theorem ex32 {nm : List Int} (h : nm.length = 32) : ∃ x0 x1 x2 x3 x4 x5 x6 x7 x8 x9 x10 x11 x12 x13 x14 x15 x16 x17 x18 x19 x20 x21 x22 x23 x24 x25 x26 x27 x28 x29 x30 x31,
    nm = [x0, x1, x2, x3, x4, x5, x6, x7, x8, x9, x10, x11, x12, x13, x14, x15, x16, x17, x18, x19, x20, x21, x22, x23, x24, x25, x26, x27, x28, x29, x30, x31] := by
  match nm, h with
  | [x0, x1, x2, x3, x4, x5, x6, x7, x8, x9, x10, x11, x12, x13, x14, x15, x16, x17, x18, x19, x20, x21, x22, x23, x24, x25, x26, x27, x28, x29, x30, x31], _ => exact ⟨_, _, _, _, _, _, _, _, _, _, _, _, _, _, _, _, _, _, _, _, _, _, _, _, _, _, _, _, _, _, _, _, rfl⟩

theorem built35 (k : Int) (nm : List Int) (h : nm.length = 32) (a : Option Addr) (l c : Nat) : Try.prog.built 35 [(0, .int .i64 k), (1, .agg (u8s nm).toArray), (2, .slice a l c)] = some (recA k nm (.slice a l c)).toArray := by
  obtain ⟨x0, x1, x2, x3, x4, x5, x6, x7, x8, x9, x10, x11, x12, x13, x14, x15, x16, x17, x18, x19, x20, x21, x22, x23, x24, x25, x26, x27, x28, x29, x30, x31, rfl⟩ := ex32 h
  kernel_rfl
theorem built26 (k : Int) (nm : List Int) (h : nm.length = 32) (a : Option Addr) (l c : Nat) : Try.prog.built 26 [(0, .int .i64 k), (1, .agg (u8s nm).toArray), (2, .slice a l c)] = some (recA k nm (.slice a l c)).toArray := by
  obtain ⟨x0, x1, x2, x3, x4, x5, x6, x7, x8, x9, x10, x11, x12, x13, x14, x15, x16, x17, x18, x19, x20, x21, x22, x23, x24, x25, x26, x27, x28, x29, x30, x31, rfl⟩ := ex32 h
  kernel_rfl

theorem wpList_build3 {ops : Array Oper} {rest : List Oper} {o : Oper} {a : Act} {w : World} {Q : Exit → Act → World → Prop} (hg : o.guard = none) (ty : TypeId) (x y z : Operand) (ho : o.op = .build ty #[(0, x), (1, y), (2, z)])
    (vx vy vz : Value) (hx : a.eval x = vx) (hy : a.eval y = vy) (hz : a.eval z = vz) (C : Array Value) (hb : Try.prog.built ty [(0, vx), (1, vy), (2, vz)] = some C)
    (h : wpList Try.prog ops Q rest (a.put o.dst (.agg C)) w) : wpList Try.prog ops Q (o :: rest) a w := by
  have e : Try.prog.built ty ((#[(0, x), (1, y), (2, z)] : Array (Nat × Operand)).map fun (i, x) => (i, a.eval x)).toList = some C := by
    rw [← hb]
    simp only [List.map_toArray, List.map_cons, List.map_nil, hx, hy, hz]
  refine wpList_build hg ty _ ho (by rw [e]; rfl) ?_
  rw [e]
  exact h

set_option maxHeartbeats 1000000 in
set_option maxRecDepth 100000 in
/-- Own. -/
theorem own11_any (k : Int) (nm : List Int) (a : Option Addr) (l c : Nat) (w : World) (hn : nm.length = 32) :
    Calls Try.prog 11 #[.agg (recA k nm (.slice a l c)).toArray] w fun e w' => e = .returned (.agg (recA k nm (.slice a l c)).toArray) ∧ Below w.heap.size w w' := by
  have hc0 := recA_0 k nm (.slice a l c)
  have hc33 := recA_33 k nm (.slice a l c) hn
  have HL := hid (recA_length k nm (.slice a l c) hn)
  have HO := hid (recA_one k nm a l c)
  have HB := hid (built35 k nm hn a l c)
  have HN := hid hn
  have hz := zero35
  clear hn
  obtain ⟨C, hC⟩ : ∃ C, recA k nm (.slice a l c) = C := ⟨_, rfl⟩
  have HC := hid hC
  rw [hC] at hc0 hc33 HL HO HB
  rw [hC]
  clear hC
  obtain ⟨Z, hZ⟩ : ∃ Z, zRec = Z := ⟨_, rfl⟩
  have HZL : Hid (Z.length = 34) := by rw [← hZ]; exact zRec_length
  rw [hZ] at hz
  clear hZ
  have HR := hid (range_new w C 26)
  have HT : Hid (World.there ((w.alloc (.cells C.toArray 26)).alloc (.cells Z.toArray 35)) (w.heap.size + 1) 0 C.toArray.size) := by
    have h := there_new (w.alloc (.cells C.toArray 26)) Z 35
    have e : C.toArray.size = 34 := by rw [List.size_toArray, HL.out]
    rw [Hid, e]
    rw [HZL.out] at h
    simpa using h
  have HI : Hid ((Try.prog.info? 35).map (·.size) = some C.length) := by rw [Hid, HL.out]; exact Try.info35
  have HI2 : Hid ((Try.prog.info? 35).map (·.size) = some C.toArray.size) := by rw [Hid, List.size_toArray, HL.out]; exact Try.info35
  have HI3 : Hid ((Try.prog.info? 23).map (·.size) = some (u8s nm).length) := by rw [Hid, u8s_length, HN.out]; kernel_rfl
  have H1 : Hid (C.toArray.all (·.oneCell') = true) := all_oneCell_toArray HO.out
  go_enter Try.func11, Try.ntmps11
  go_wp2_with (first
    | (refine wpList_load_mid (by rfl) 23 _ (by rfl) w.heap.size 1 (by rfl) (u8s nm) _ ?hc Try.underlying23 rfl HI3.out ?_; (case hc => exact rangeAt_name (k := k) (v := .slice a l c) (World.rangeAt_alloc (by rw [HC.out]; exact HR.out) _)))
    | (refine wpList_build3 (by rfl) 35 _ _ _ (by rfl) _ _ _ (by rfl) (by rfl) (by rfl) C.toArray HB.out ?_)
    | (refine wpList_store_mid (by rfl) 35 _ _ (by rfl) (w.heap.size + 1) 0 C.toArray (by rfl) (by rfl) ?ht HI2.out H1.out ?_; (case ht => exact HT.out)))
  have hr : World.rangeAt (((w.alloc (.cells C.toArray 26)).alloc (.cells Z.toArray 35)).setCells (w.heap.size + 1) 0 C) (w.heap.size + 1) 0 C := World.rangeAt_setCells_same _ _ _ _ HT.out
  refine bodyPost_ret (v := .agg C.toArray) ?_ rfl ⟨rfl, ?_⟩
  · exact results_cell_mid Try.results11 _ _ (w.heap.size + 1) 0 _ _ rfl hr Try.underlying35 rfl HI.out
  · exact (((Below.refl _ _).alloc (Nat.le_refl _) _).alloc (by simp) _).trans (setCells_below (by omega) _ _ _)

set_option maxHeartbeats 1000000 in
set_option maxRecDepth 100000 in
/-- Back. -/
theorem back23_any (k : Int) (nm : List Int) (a : Option Addr) (l c : Nat) (w : World) (hn : nm.length = 32) :
    Calls Try.prog 23 #[.agg (recA k nm (.slice a l c)).toArray] w fun e w' => e = .returned (.agg (recA k nm (.slice a l c)).toArray) ∧ Below w.heap.size w w' := by
  have hc0 := recA_0 k nm (.slice a l c)
  have hc33 := recA_33 k nm (.slice a l c) hn
  have HL := hid (recA_length k nm (.slice a l c) hn)
  have HO := hid (recA_one k nm a l c)
  have HB := hid (built26 k nm hn a l c)
  have HN := hid hn
  have hz := zero26
  clear hn
  obtain ⟨C, hC⟩ : ∃ C, recA k nm (.slice a l c) = C := ⟨_, rfl⟩
  have HC := hid hC
  rw [hC] at hc0 hc33 HL HO HB
  rw [hC]
  clear hC
  obtain ⟨Z, hZ⟩ : ∃ Z, zRec = Z := ⟨_, rfl⟩
  have HZL : Hid (Z.length = 34) := by rw [← hZ]; exact zRec_length
  rw [hZ] at hz
  clear hZ
  have HR := hid (range_new w C 35)
  have HT : Hid (World.there ((w.alloc (.cells C.toArray 35)).alloc (.cells Z.toArray 26)) (w.heap.size + 1) 0 C.toArray.size) := by
    have h := there_new (w.alloc (.cells C.toArray 35)) Z 26
    have e : C.toArray.size = 34 := by rw [List.size_toArray, HL.out]
    rw [Hid, e]
    rw [HZL.out] at h
    simpa using h
  have HI : Hid ((Try.prog.info? 26).map (·.size) = some C.length) := by rw [Hid, HL.out]; exact Try.info26
  have HI2 : Hid ((Try.prog.info? 26).map (·.size) = some C.toArray.size) := by rw [Hid, List.size_toArray, HL.out]; exact Try.info26
  have HI3 : Hid ((Try.prog.info? 23).map (·.size) = some (u8s nm).length) := by rw [Hid, u8s_length, HN.out]; kernel_rfl
  have H1 : Hid (C.toArray.all (·.oneCell') = true) := all_oneCell_toArray HO.out
  go_enter Try.func23, Try.ntmps23
  go_wp2_with (first
    | (refine wpList_load_mid (by rfl) 23 _ (by rfl) w.heap.size 1 (by rfl) (u8s nm) _ ?hc Try.underlying23 rfl HI3.out ?_; (case hc => exact rangeAt_name (k := k) (v := .slice a l c) (World.rangeAt_alloc (by rw [HC.out]; exact HR.out) _)))
    | (refine wpList_build3 (by rfl) 26 _ _ _ (by rfl) _ _ _ (by rfl) (by rfl) (by rfl) C.toArray HB.out ?_)
    | (refine wpList_store_mid (by rfl) 26 _ _ (by rfl) (w.heap.size + 1) 0 C.toArray (by rfl) (by rfl) ?ht HI2.out H1.out ?_; (case ht => exact HT.out)))
  have hr : World.rangeAt (((w.alloc (.cells C.toArray 35)).alloc (.cells Z.toArray 26)).setCells (w.heap.size + 1) 0 C) (w.heap.size + 1) 0 C := World.rangeAt_setCells_same _ _ _ _ HT.out
  refine bodyPost_ret (v := .agg C.toArray) ?_ rfl ⟨rfl, ?_⟩
  · exact results_cell_mid Try.results23 _ _ (w.heap.size + 1) 0 _ _ rfl hr Try.underlying26 rfl HI.out
  · exact (((Below.refl _ _).alloc (Nat.le_refl _) _).alloc (by simp) _).trans (setCells_below (by omega) _ _ _)

end Go.Proofs.Ythbhdbjjobfchaa
