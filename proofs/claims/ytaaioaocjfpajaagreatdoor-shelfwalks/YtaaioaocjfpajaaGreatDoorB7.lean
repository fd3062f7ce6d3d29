/- Of the proof: the texts FrKit, FrSame, FrPut, FrFirst, FrRecord, one behind the other. -/
import Derived.Test.YtaaioaocjfpajaaGreatDoorB6
import Derived.Laws.ResultCell
import Derived.Stop.BytesEq
import Derived.Deep.RegionLaw
import Derived.Deep.RegionHeld3
section
/-
  Records as a whole: made, loaded, stored; the statements' Own and Back; which are the same.
-/
namespace Go.Proofs.YtaaioaocjfpajaaGreatDoor
open Go.RowKit
open Tlv (Tr BySlS AgreeS Agree)
open Crc (hid Kept Tab)

section
variable {P : Program}
theorem results_cell_mid {fn : Func} {p : Tmp} {ty : TypeId} (h : fn.results = #[.cell p ty]) (tmps : Array Value) (w : World) (g o : Nat) (cs : List Value) (d : TypeDesc)
    (hp : tmps.getD p undef = .pointer (some ⟨g, o, none⟩)) (hc : w.rangeAt g o cs)
    (hu : P.underlying ty = some d) (hd : d.isRow = true) (hi : (P.info? ty).map (·.size) = some cs.length) :
    (results fn tmps).run P w = .ok (.agg cs.toArray) w := by
  have hp' : tmps[p]?.getD undef = .pointer (some ⟨g, o, none⟩) := by simpa using hp
  simp [results, h, hp', asAddr, run_loadVar_mid w g o ty cs d hc hu hd hi]
theorem results_cell_mid2 {fn : Func} {p u : Tmp} {ty : TypeId} (h : fn.results = #[.cell p ty, .tmp u]) (tmps : Array Value) (w : World) (g o : Nat) (cs : List Value) (d : TypeDesc)
    (hp : tmps.getD p undef = .pointer (some ⟨g, o, none⟩)) (hc : w.rangeAt g o cs)
    (hu : P.underlying ty = some d) (hd : d.isRow = true) (hi : (P.info? ty).map (·.size) = some cs.length) :
    (results fn tmps).run P w = .ok (.tuple #[.agg cs.toArray, tmps.getD u undef]) w := by
  have hp' : tmps[p]?.getD undef = .pointer (some ⟨g, o, none⟩) := by simpa using hp
  rw [results_cell_tmp h]
  simp [hp', asAddr, run_loadVar_mid w g o ty cs d hc hu hd hi]
theorem results_cell_mid3 {fn : Func} {p u z : Tmp} {ty : TypeId} (h : fn.results = #[.cell p ty, .tmp u, .tmp z]) (tmps : Array Value) (w : World) (g o : Nat) (cs : List Value) (d : TypeDesc)
    (hp : tmps.getD p undef = .pointer (some ⟨g, o, none⟩)) (hc : w.rangeAt g o cs)
    (hu : P.underlying ty = some d) (hd : d.isRow = true) (hi : (P.info? ty).map (·.size) = some cs.length) :
    (results fn tmps).run P w = .ok (.tuple #[.agg cs.toArray, tmps.getD u undef, tmps.getD z undef]) w := by
  have hp' : tmps[p]?.getD undef = .pointer (some ⟨g, o, none⟩) := by simpa using hp
  simp only [results, h]
  simp [Result.andThen, hp', asAddr, run_loadVar_mid w g o ty cs d hc hu hd hi]
end

theorem there_of_block {w : World} {g : Nat} {cs : Array Value} {t : TypeId} (h : w.heap[g]? = some (.cells cs t (0, 0))) (o n : Nat) (hn : o + n ≤ cs.size) : w.there g o n := fun j hj => by
  have hlt : o + j < cs.size := by omega
  rw [cell_of_row w g (o + j) cs t (0, 0) h, frozen_of_row w g _ cs t h]
  exact ⟨by simp [hlt], rfl⟩

theorem range_new (w : World) (C : List Value) (ty : TypeId) : (w.alloc (.cells C.toArray ty)).rangeAt w.heap.size 0 C := fun j v hv => by
  rw [Nat.zero_add, World.cell?_alloc_at _ _ _ _ rfl]
  simpa using hv
theorem there_new (w : World) (C : List Value) (ty : TypeId) : (w.alloc (.cells C.toArray ty)).there w.heap.size 0 C.length := there_of_block (heap_alloc_new _ _) 0 C.length (by simp)

theorem rangeAt_below {B : Nat} {w w' : World} {g o : Nat} {C : List Value} (h : w.rangeAt g o C) (hb : Below B w w') (hg : g < B) : w'.rangeAt g o C := fun j v hv => (hb.cell (p := ⟨g, o + j, none⟩) hg).trans (h j v hv)
theorem there_below {B : Nat} {w w' : World} {g o n : Nat} (h : w.there g o n) (hb : Below B w w') (hg : g < B) : w'.there g o n := fun j hj => by
  rw [hb.cell (p := ⟨g, o + j, none⟩) hg, hb.frozen (p := ⟨g, o + j, none⟩) hg]
  exact h j hj
theorem rangeAt_kept {b : Nat} {w w' : World} {g o : Nat} {C : List Value} (h : w.rangeAt g o C) (hk : Kept b w w') (hg : g < w.heap.size) (hb : g ≠ b) : w'.rangeAt g o C := fun j v hv => (hk.cell (p := ⟨g, o + j, none⟩) hg hb).trans (h j v hv)
theorem there_kept {b : Nat} {w w' : World} {g o n : Nat} (h : w.there g o n) (hk : Kept b w w') (hg : g < w.heap.size) (hb : g ≠ b) : w'.there g o n := fun j hj => by
  rw [hk.cell (p := ⟨g, o + j, none⟩) hg hb, hk.frozen (p := ⟨g, o + j, none⟩) hg hb]
  exact h j hj

/-- The part of a record that is its name. -/
theorem rangeAt_name {w : World} {g o : Nat} {k : Int} {nm : List Int} {v : Value} (h : w.rangeAt g o (recA k nm v)) : w.rangeAt g (o + 1) (u8s nm) := fun j u hj => by
  have hlt := (List.getElem?_eq_some_iff.1 hj).1
  have := h (1 + j) u (by rw [recA, Nat.add_comm, List.getElem?_cons_succ, List.getElem?_append_left hlt]; exact hj)
  rw [← this]
  congr 2
  omega

theorem setCells_below {B g : Nat} (h : B ≤ g) (w : World) (o : Nat) (cs : List Value) : Below B w (w.setCells g o cs) := by
  induction cs generalizing w o with
  | nil => exact Below.refl _ _
  | cons c cs ih => rw [World.setCells]; exact ((Below.refl B w).setCell (p := ⟨g, o, none⟩) h c).trans (ih _ _)
theorem setCells_size (w : World) (g o : Nat) (cs : List Value) : (w.setCells g o cs).heap.size = w.heap.size := by
  induction cs generalizing w o with
  | nil => rfl
  | cons c cs ih => rw [World.setCells, ih]; simp

/-- A record of no kind, no name, no body. -/
def zRec : List Value := recA 0 (List.replicate 32 0) (.slice none 0 0)
theorem zRec_length : zRec.length = 34 := rfl
theorem zRec_one : ∀ v ∈ zRec, v.oneCell' = true := recA_one _ _ _ _ _
theorem zero35 (w : World) : (zeroValue 56).run Tryz.prog w = .ok (.agg zRec.toArray) w := by kernel_rfl
theorem ex32 {nm : List Int} (h : nm.length = 32) : ∃ x0 x1 x2 x3 x4 x5 x6 x7 x8 x9 x10 x11 x12 x13 x14 x15 x16 x17 x18 x19 x20 x21 x22 x23 x24 x25 x26 x27 x28 x29 x30 x31,
    nm = [x0, x1, x2, x3, x4, x5, x6, x7, x8, x9, x10, x11, x12, x13, x14, x15, x16, x17, x18, x19, x20, x21, x22, x23, x24, x25, x26, x27, x28, x29, x30, x31] := by
  match nm, h with
  | [x0, x1, x2, x3, x4, x5, x6, x7, x8, x9, x10, x11, x12, x13, x14, x15, x16, x17, x18, x19, x20, x21, x22, x23, x24, x25, x26, x27, x28, x29, x30, x31], _ => exact ⟨_, _, _, _, _, _, _, _, _, _, _, _, _, _, _, _, _, _, _, _, _, _, _, _, _, _, _, _, _, _, _, _, rfl⟩

theorem built35 (k : Int) (nm : List Int) (h : nm.length = 32) (a : Option Addr) (l c : Nat) : Tryz.prog.built 56 [(0, .int .i64 k), (1, .agg (u8s nm).toArray), (2, .slice a l c)] = some (recA k nm (.slice a l c)).toArray := by
  obtain ⟨x0, x1, x2, x3, x4, x5, x6, x7, x8, x9, x10, x11, x12, x13, x14, x15, x16, x17, x18, x19, x20, x21, x22, x23, x24, x25, x26, x27, x28, x29, x30, x31, rfl⟩ := ex32 h
  kernel_rfl
theorem wpList_build3 {ops : Array Oper} {rest : List Oper} {o : Oper} {a : Act} {w : World} {Q : Exit → Act → World → Prop} (hg : o.guard = none) (ty : TypeId) (x y z : Operand) (ho : o.op = .build ty #[(0, x), (1, y), (2, z)])
    (vx vy vz : Value) (hx : a.eval x = vx) (hy : a.eval y = vy) (hz : a.eval z = vz) (C : Array Value) (hb : Tryz.prog.built ty [(0, vx), (1, vy), (2, vz)] = some C)
    (h : wpList Tryz.prog ops Q rest (a.put o.dst (.agg C)) w) : wpList Tryz.prog ops Q (o :: rest) a w := by
  have e : Tryz.prog.built ty ((#[(0, x), (1, y), (2, z)] : Array (Nat × Operand)).map fun (i, x) => (i, a.eval x)).toList = some C := by
    rw [← hb]
    simp only [List.map_toArray, List.map_cons, List.map_nil, hx, hy, hz]
  refine wpList_build hg ty _ ho (by rw [e]; rfl) ?_
  rw [e]
  exact h

set_option maxHeartbeats 1000000 in
set_option maxRecDepth 100000 in
/-- Own. -/
theorem own11_any (k : Int) (nm : List Int) (a : Option Addr) (l c : Nat) (w : World) (hn : nm.length = 32) :
    Calls Tryz.prog 31 #[.agg (recA k nm (.slice a l c)).toArray] w fun e w' => e = .returned (.agg (recA k nm (.slice a l c)).toArray) ∧ Below w.heap.size w w' := by
  have hc0 := recA_0 k nm (.slice a l c)
  have hc33 := recA_33 k nm (.slice a l c) hn
  have HL := hid (recA_length k nm (.slice a l c) hn)
  have HO := hid (recA_one k nm a l c)
  have HB := hid (built35 k nm hn a l c)
  have HN := hid hn
  have hz := zero35
  clear hn
  obtain ⟨C, hC⟩ : ∃ C, recA k nm (.slice a l c) = C := ⟨_, rfl⟩
  have HC := hid hC
  rw [hC] at hc0 hc33 HL HO HB
  rw [hC]
  clear hC
  obtain ⟨Z, hZ⟩ : ∃ Z, zRec = Z := ⟨_, rfl⟩
  have HZL : Hid (Z.length = 34) := by rw [← hZ]; exact zRec_length
  rw [hZ] at hz
  clear hZ
  have HR := hid (range_new w C 68)
  have HT : Hid (World.there ((w.alloc (.cells C.toArray 68)).alloc (.cells Z.toArray 56)) (w.heap.size + 1) 0 C.toArray.size) := by
    have h := there_new (w.alloc (.cells C.toArray 68)) Z 56
    have e : C.toArray.size = 34 := by rw [List.size_toArray, HL.out]
    rw [Hid, e]
    rw [HZL.out] at h
    simpa using h
  have HI : Hid ((Tryz.prog.info? 56).map (·.size) = some C.length) := by rw [Hid, HL.out]; exact Tryz.info35
  have HI2 : Hid ((Tryz.prog.info? 56).map (·.size) = some C.toArray.size) := by rw [Hid, List.size_toArray, HL.out]; exact Tryz.info35
  have HI3 : Hid ((Tryz.prog.info? 53).map (·.size) = some (u8s nm).length) := by rw [Hid, u8s_length, HN.out]; kernel_rfl
  have H1 : Hid (C.toArray.all (·.oneCell') = true) := all_oneCell_toArray HO.out
  go_enter Tryz.func31, Tryz.ntmps31
  go_wp2_with (first
    | (refine wpList_load_mid (by rfl) 53 _ (by rfl) w.heap.size 1 (by rfl) (u8s nm) _ ?hc Tryz.underlying53 rfl HI3.out ?_; (case hc => exact rangeAt_name (k := k) (v := .slice a l c) (World.rangeAt_alloc (by rw [HC.out]; exact HR.out) _)))
    | (refine wpList_build3 (by rfl) 56 _ _ _ (by rfl) _ _ _ (by rfl) (by rfl) (by rfl) C.toArray HB.out ?_)
    | (refine wpList_store_mid (by rfl) 56 _ _ (by rfl) (w.heap.size + 1) 0 C.toArray (by rfl) (by rfl) ?ht HI2.out H1.out ?_; (case ht => exact HT.out)))
  have hr : World.rangeAt (((w.alloc (.cells C.toArray 68)).alloc (.cells Z.toArray 56)).setCells (w.heap.size + 1) 0 C) (w.heap.size + 1) 0 C := World.rangeAt_setCells_same _ _ _ _ HT.out
  refine bodyPost_ret (v := .agg C.toArray) ?_ rfl ⟨rfl, ?_⟩
  · exact results_cell_mid Tryz.results31 _ _ (w.heap.size + 1) 0 _ _ rfl hr Tryz.underlying56 rfl HI.out
  · exact (((Below.refl _ _).alloc (Nat.le_refl _) _).alloc (by simp) _).trans (setCells_below (by omega) _ _ _)

end Go.Proofs.YtaaioaocjfpajaaGreatDoor
end

section
/-
  Which records are the same: the program's answer, and the reference's.
-/
namespace Go.Proofs.YtaaioaocjfpajaaGreatDoor
open Go.RowKit
open Tlv (Tr BySlS AgreeS Agree)
open Crc (hid Kept Tab)

theorem wpList_bare {P : Program} {ops : Array Oper} {Q : Exit → Act → World → Prop} {a : Act} {w : World} {rest : List Oper} {dst : Option Tmp} {op : Op} {type : TypeId} {pos : String} {after : Array Edge} {g : Option (Nat × Bool)}
    (hw : Region.wanted ⟨dst, op, type, pos, after, g⟩ (yielded ops a.tmps) = true) (h : wpList P ops Q (⟨dst, op, type, pos, after, none⟩ :: rest) a w) : wpList P ops Q (⟨dst, op, type, pos, after, g⟩ :: rest) a w := by
  unfold wpList at h ⊢
  rw [if_pos hw]
  rw [if_pos (by rfl)] at h
  exact h

theorem cells_u8s (l : List Int) (h : ∀ x ∈ l, 0 ≤ x ∧ x ≤ 255) : (l.map fun x => x.toNat.toUInt8).map Extern.Stop.cell = u8s l := by
  unfold u8s
  rw [List.map_map]
  apply List.map_congr_left
  intro x hx
  have := h x hx
  simp [Extern.Stop.cell]
  omega
theorem map_inj : ∀ (xs ys : List Int), (∀ x ∈ xs, 0 ≤ x ∧ x ≤ 255) → (∀ x ∈ ys, 0 ≤ x ∧ x ≤ 255) → (xs.map fun x => x.toNat.toUInt8) = (ys.map fun x => x.toNat.toUInt8) → xs = ys
  | [], [], _, _, _ => rfl
  | [], _ :: _, _, _, h => by simp at h
  | _ :: _, [], _, _, h => by simp at h
  | x :: xs, y :: ys, h1, h2, h => by
    simp only [List.map_cons, List.cons.injEq] at h
    have hx := h1 x (by simp)
    have hy := h2 y (by simp)
    have e := congrArg UInt8.toNat h.1
    simp at e
    have e2 : x = y := by omega
    rw [e2, map_inj xs ys (fun z hz => h1 z (by simp [hz])) (fun z hz => h2 z (by simp [hz])) h.2]

/-- Two names. -/
theorem eqName (xs ys : List Int) (hx : xs.length = 32) (hy : ys.length = 32) (bx : ∀ x ∈ xs, 0 ≤ x ∧ x ≤ 255) (bY : ∀ x ∈ ys, 0 ≤ x ∧ x ≤ 255) (w : World) :
    (Op.equalIn 10000 53 (.agg (u8s xs).toArray) (.agg (u8s ys).toArray)).run Tryz.prog w = .ok (decide (xs = ys)) w := by
  have h := run_equalIn_bytes (P := Tryz.prog) w 9998 53 5 32 Tryz.underlying53 Tryz.underlying5 Tryz.sizeOf5 (xs.map fun x => x.toNat.toUInt8) (ys.map fun x => x.toNat.toUInt8) (by simpa using hx) (by simpa using hy)
  rw [cells_u8s xs bx, cells_u8s ys bY] at h
  have e : ((xs.map fun x => x.toNat.toUInt8) == (ys.map fun x => x.toNat.toUInt8)) = decide (xs = ys) := by
    rw [Bool.eq_iff_iff]
    simp only [beq_iff_eq, decide_eq_true_eq]
    exact ⟨map_inj xs ys bx bY, fun e => by rw [e]⟩
  rw [e] at h
  exact h

/-- Records are the same. -/
def sameR (k k' : Int) (nm nm' bs bs' : List Int) : Bool := decide (k = k') && (decide (nm = nm') && decide (bs = bs'))

set_option maxHeartbeats 2000000 in
set_option maxRecDepth 100000 in
/-- Same. -/
theorem same17_any (k k' : Int) (nm nm' bs bs' : List Int) (v v' : Value) (w : World) (hn : nm.length = 32) (hn' : nm'.length = 32) (hx : ∀ x ∈ nm, 0 ≤ x ∧ x ≤ 255) (hx' : ∀ x ∈ nm', 0 ≤ x ∧ x ≤ 255)
    (hb : Tlv.BySl 0 w.heap.size w v bs) (hb' : Tlv.BySl 0 w.heap.size w v' bs') :
    Calls Tryz.prog 17 #[.agg (recA k nm v).toArray, .agg (recA k' nm' v').toArray] w fun e w' => e = .returned (.bool (sameR k k' nm nm' bs bs')) ∧ Below w.heap.size w w' := by
  obtain ⟨a, cap, rfl, hr⟩ := id hb
  obtain ⟨a', cap', rfl, hr'⟩ := id hb'
  clear hr hr'
  have HB := hid hb
  have HB' := hid hb'
  have hc0 := recA_0 k nm (.slice a bs.length cap)
  have hc33 := recA_33 k nm (.slice a bs.length cap) hn
  have hd0 := recA_0 k' nm' (.slice a' bs'.length cap')
  have hd33 := recA_33 k' nm' (.slice a' bs'.length cap') hn'
  have HE := hid (fun w => eqName nm nm' hn hn' hx hx' w)
  have HI : Hid ((Tryz.prog.info? 53).map (·.size) = some (u8s nm).length) := by rw [Hid, u8s_length, hn]; kernel_rfl
  have HI' : Hid ((Tryz.prog.info? 53).map (·.size) = some (u8s nm').length) := by rw [Hid, u8s_length, hn']; kernel_rfl
  clear hb hb' hn hn' hx hx'
  obtain ⟨C, hC⟩ : ∃ C, recA k nm (.slice a bs.length cap) = C := ⟨_, rfl⟩
  obtain ⟨D, hD⟩ : ∃ D, recA k' nm' (.slice a' bs'.length cap') = D := ⟨_, rfl⟩
  rw [hC] at hc0 hc33
  rw [hD] at hd0 hd33
  rw [hC, hD]
  have HC := hid hC
  have HD := hid hD
  clear hC hD
  have HR := hid (range_new w C 56)
  have HRD := hid (range_new (w.alloc (.cells C.toArray 56)) D 56)
  have hbel : Below w.heap.size w ((w.alloc (.cells C.toArray 56)).alloc (.cells D.toArray 56)) := ((Below.refl _ _).alloc (Nat.le_refl _) _).alloc (by simp) _
  have HBL := hid hbel
  clear hbel
  by_cases hk : k = k'
  · have HK := hid hk
    have hkb : (k == k') = true := by simpa using hk
    clear hk
    obtain ⟨b1, hb1⟩ : ∃ b1, decide (nm = nm') = b1 := ⟨_, rfl⟩
    rw [hb1] at HE
    have heq := HE.out
    have HB1 := hid hb1
    clear hb1 HE
    cases b1 with
    | false =>
      go_enter Tryz.func17, Tryz.ntmps17
      go_wp2_with (refine wpList_bare (by rfl) ?_; first
        | (refine wpList_load_mid (by rfl) 53 _ (by rfl) w.heap.size 1 (by rfl) (u8s nm) _ ?hc Tryz.underlying53 rfl HI.out ?_; (case hc => exact rangeAt_name (k := k) (v := .slice a bs.length cap) (World.rangeAt_alloc (by rw [HC.out]; exact HR.out) _)))
        | (refine wpList_load_mid (by rfl) 53 _ (by rfl) (w.heap.size + 1) 1 (by rfl) (u8s nm') _ ?hc Tryz.underlying53 rfl HI'.out ?_; (case hc => exact rangeAt_name (k := k') (v := .slice a' bs'.length cap') (by rw [HD.out]; simpa using HRD.out))))
      go_ret
      refine ⟨?_, HBL.out⟩
      have h1 := HB1.out
      rw [sameR, h1]
      simp
    | true =>
      go_enter Tryz.func17, Tryz.ntmps17
      go_wp2_with (refine wpList_bare (by rfl) ?_; first
        | (refine wpList_load_mid (by rfl) 53 _ (by rfl) w.heap.size 1 (by rfl) (u8s nm) _ ?hc Tryz.underlying53 rfl HI.out ?_; (case hc => exact rangeAt_name (k := k) (v := .slice a bs.length cap) (World.rangeAt_alloc (by rw [HC.out]; exact HR.out) _)))
        | (refine wpList_load_mid (by rfl) 53 _ (by rfl) (w.heap.size + 1) 1 (by rfl) (u8s nm') _ ?hc Tryz.underlying53 rfl HI'.out ?_; (case hc => exact rangeAt_name (k := k') (v := .slice a' bs'.length cap') (by rw [HD.out]; simpa using HRD.out))))
      refine (Tlv.equal_any _ _ bs bs' _ (bySl_lift HB.out HBL.out) (bySl_lift HB'.out HBL.out)).mono ?_
      rintro e w1 ⟨rfl, hw1⟩
      subst hw1
      generalize hdd : decide (bs = bs') = b2
      have HDD := hid hdd
      clear hdd
      go_wp2_with fail
      go_ret
      refine ⟨?_, HBL.out⟩
      have h1 := HB1.out
      have h2 := HDD.out
      have h3 := HK.out
      rw [sameR, h1, h2, h3]
      simp
  · have hkb : (k == k') = false := by simpa using hk
    have HK := hid hk
    clear hk HE
    go_enter Tryz.func17, Tryz.ntmps17
    go_wp2_with fail
    go_ret
    refine ⟨?_, HBL.out⟩
    rw [sameR, decide_eq_false HK.out]
    rfl

end Go.Proofs.YtaaioaocjfpajaaGreatDoor
end

section
/-
  What Size and Put answer.
-/
namespace Go.Proofs.YtaaioaocjfpajaaGreatDoor
open Go.RowKit
open Tlv (Tr BySlS AgreeS Agree)
open Crc (hid Kept Tab)

/-- A table at b, its rows filled or not. -/
def TabX (w : World) (b : Nat) : Prop := ∃ f n, (f = 0 ∨ f = 1) ∧ Tab w b f n
theorem TabX.below {w w' : World} {b : Nat} (h : TabX w b) (k : Below w.heap.size w w') : TabX w' b := by
  obtain ⟨f, n, hf, ht⟩ := h
  exact ⟨f, n, hf, ht.below k⟩
theorem TabX.lt {w : World} {b : Nat} (h : TabX w b) : b < w.heap.size := by
  obtain ⟨f, n, hf, ht⟩ := h
  exact ht.1
theorem TabX.kept {b g : Nat} {w w' : World} (h : TabX w b) (k : Kept g w w') (hg : b ≠ g) : TabX w' b := by
  obtain ⟨f, n, hf, ht⟩ := h
  exact ⟨f, n, hf, ht.kept k hg⟩
theorem TabX.of {b : Nat} {n : Int} {w : World} (h : Tab w b 1 n) : TabX w b := ⟨1, n, .inr rfl, h⟩

theorem toCrc {S : Nat → Prop} {b : Nat} {w : World} {v : Value} {xs : List Int} (h : BySlS S w v xs) (hS : ∀ g, S g → g ≠ b ∧ g < w.heap.size) : Crc.BySl b w v (nats xs) := by
  obtain ⟨a, cap, rfl, h2, h3, h4, h5, h6, h7⟩ := h
  refine ⟨a, cap, by rw [nats_length], by rw [nats_length]; exact h2, h3, fun e => ⟨by rw [(h4 e).1]; rfl, (h4 e).2⟩, by rw [nats_length]; exact h5, nats_lt _ h6, fun hne => ?_⟩
  have hne' : xs ≠ [] := fun e => hne (by rw [e]; rfl)
  obtain ⟨g, o, e, hg, hc⟩ := h7 hne'
  refine ⟨g, o, e, (hS g hg).1, (hS g hg).2, fun i hi => ?_⟩
  rw [nats_length] at hi
  rw [hc i hi]
  have hx := h6 (xs.getD i 0) (by rw [List.getD_eq_getElem?_getD, List.getElem?_eq_getElem hi]; simp)
  simp only [nats, List.getD_eq_getElem?_getD, List.getElem?_map, List.getElem?_eq_getElem hi, Option.map_some, Option.getD_some] at hx ⊢
  congr 2
  omega

theorem BySlS.mono {S S' : Nat → Prop} {w : World} {v : Value} {xs : List Int} (h : BySlS S w v xs) (hS : ∀ g, S g → S' g) : BySlS S' w v xs := h.agree (fun _ _ => rfl) hS
theorem BySlS.kept {b : Nat} {S : Nat → Prop} {w w' : World} {v : Value} {xs : List Int} (h : BySlS S w v xs) (k : Kept b w w') (hS : ∀ g, S g → g ≠ b ∧ g < w.heap.size) : BySlS S w' v xs := h.agree (fun g hg => k.block g (hS g hg).2 (hS g hg).1) (fun _ h => h)
theorem BySlS.below {B : Nat} {S : Nat → Prop} {w w' : World} {v : Value} {xs : List Int} (h : BySlS S w v xs) (k : Below B w w') (hS : ∀ g, S g → g < B) : BySlS S w' v xs := h.agree (fun g hg => k.block g (hS g hg)) (fun _ h => h)

theorem rightB_of {k : Int} {nm bs : List Int} (h : RightR k nm bs) : rightB k bs.length = true := by
  obtain ⟨h1, h2, h3, _⟩ := h
  simp [rightB]; omega
theorem right_of {k : Int} {nm bs : List Int} (h : rightB k bs.length = true) (hn : nm.length = 32) (hx : ∀ x ∈ nm, 0 ≤ x ∧ x ≤ 255) (hy : ∀ x ∈ bs, 0 ≤ x ∧ x ≤ 255) : RightR k nm bs := by
  simp [rightB] at h
  exact ⟨by omega, by omega, by omega, hn, hx, hy⟩

set_option maxHeartbeats 1000000 in
set_option maxRecDepth 100000 in
theorem size_yes (k : Int) (nm bs : List Int) (v : Value) (w : World) (hb : Tlv.BySl 0 w.heap.size w v bs) (hR : RightR k nm bs) :
    Calls Tryz.prog 44 #[.agg (recA k nm v).toArray] w fun e w' => e = .returned (.int .i64 ((49 + bs.length : Nat) : Int)) ∧ Below w.heap.size w w' := by
  obtain ⟨a, cap, rfl, hr⟩ := id hb
  clear hr
  have HB := hid hb
  have hn := hR.2.2.2.1
  have HC0 := hid (recA_0 k nm (.slice a bs.length cap))
  have HC33 := hid (recA_33 k nm (.slice a bs.length cap) hn)
  have HL := hid (recA_length k nm (.slice a bs.length cap) hn)
  have HRR := hid hR
  have HSZ := hid (szT_rec hR)
  have hl5 := hR.2.2.1
  clear hR hb
  have HV := hid (value_any k nm bs (.slice a bs.length cap))
  obtain ⟨C, hC⟩ : ∃ C, recA k nm (.slice a bs.length cap) = C := ⟨_, rfl⟩
  rw [hC] at HC0 HC33 HL HV
  rw [hC]
  clear hC hn
  have HR := hid (range_new w C 56)
  have HI : Hid ((Tryz.prog.info? 56).map (·.size) = some C.length) := by rw [Hid, HL.out]; exact Tryz.info35
  go_enter Tryz.func44, Tryz.ntmps44
  go_wp2_with (refine wpList_load_mid (by rfl) 56 _ (by rfl) w.heap.size 0 (by rfl) C _ ?hc Tryz.underlying56 rfl HI.out ?_; (case hc => exact HR.out))
  refine (right13_any C k _ _ _ _ HC0.out HC33.out).mono ?_
  rintro e w1 ⟨rfl, hb1⟩
  rw [rightB_of HRR.out]
  have HB1 : Hid (Below w.heap.size w w1) := ((Below.refl _ _).alloc (Nat.le_refl _) _).trans (hb1.mono (by simp))
  have HR1 := hid (rangeAt_below HR.out hb1 (by simp))
  clear hb1
  go_wp2_with (refine wpList_load_mid (by rfl) 56 _ (by rfl) w.heap.size 0 (by rfl) C _ ?hc Tryz.underlying56 rfl HI.out ?_; (case hc => exact HR1.out))
  refine (HV.out w1 HRR.out.1 HRR.out.2.1 HRR.out.2.2.2.1 HRR.out.2.2.2.2.1 (HB.out.agree (Agree.below HB1.out) (Nat.le_refl _) HB1.out.size)).mono ?_
  rintro e w2 ⟨sb, sk, rfl, hr2, hb2⟩
  have HR2 := hid hr2
  have HB2 := hid hb2
  clear hr2 hb2
  go_wp2_with fail
  refine (Tlv.size_any (recT k nm bs) sb sk _ (HR2.out.agree (Agree.refl _ _ _) (Nat.zero_le _) (Nat.le_refl _))).mono ?_
  rintro e w3 ⟨rfl, hb3⟩
  rw [HSZ.out]
  have HB3 := hid hb3
  clear hb3
  go_wp2_with fail
  go_ret
  refine ⟨congrArg (fun x => Ending.returned (Value.int .i64 x)) ?_, (HB1.out.trans (HB2.out.mono HB1.out.size)).trans (HB3.out.mono (Nat.le_trans HB1.out.size HB2.out.size))⟩
  simp
  omega

set_option maxHeartbeats 1000000 in
set_option maxRecDepth 100000 in
theorem put_no (ad : Addr) (k : Int) (nm bs : List Int) (a : Option Addr) (cap : Nat) (w : World) (hn : nm.length = 32) (hR : rightB k bs.length = false) :
    Calls Tryz.prog 105 #[.pointer (some ad), .agg (recA k nm (.slice a bs.length cap)).toArray] w fun e w' => e = .returned (.tuple #[.slice none 0 0, .int .i64 1]) ∧ Below w.heap.size w w' := by
  have HC0 := hid (recA_0 k nm (.slice a bs.length cap))
  have HC33 := hid (recA_33 k nm (.slice a bs.length cap) hn)
  have HL := hid (recA_length k nm (.slice a bs.length cap) hn)
  have HRR := hid hR
  clear hR
  obtain ⟨C, hC⟩ : ∃ C, recA k nm (.slice a bs.length cap) = C := ⟨_, rfl⟩
  rw [hC] at HC0 HC33 HL
  rw [hC]
  clear hC hn
  have HR := hid (range_new w C 56)
  have HI : Hid ((Tryz.prog.info? 56).map (·.size) = some C.length) := by rw [Hid, HL.out]; exact Tryz.info35
  go_enter Tryz.func105, Tryz.ntmps105
  go_wp2_with (refine wpList_load_mid (by rfl) 56 _ (by rfl) w.heap.size 0 (by rfl) C _ ?hc Tryz.underlying56 rfl HI.out ?_; (case hc => exact HR.out))
  refine (right13_any C k _ _ _ _ HC0.out HC33.out).mono ?_
  rintro e w1 ⟨rfl, hb1⟩
  rw [HRR.out]
  have HB1 : Hid (Below w.heap.size w w1) := ((Below.refl _ _).alloc (Nat.le_refl _) _).trans (hb1.mono (by simp))
  clear hb1
  go_wp2_with fail
  go_ret2
  exact ⟨rfl, HB1.out⟩

set_option maxHeartbeats 2000000 in
set_option maxRecDepth 100000 in
theorem put_yes (b : Nat) (k : Int) (nm bs : List Int) (v : Value) (w : World) (hT : TabX w b) (hb : Tlv.BySl 0 w.heap.size w v bs) (hR : RightR k nm bs) :
    Calls Tryz.prog 105 #[.pointer (some ⟨b, 0, none⟩), .agg (recA k nm v).toArray] w fun e w' => ∃ v', e = .returned (.tuple #[v', .int .i64 0]) ∧ Crc.Own w' w.heap.size v' (nats (frameR k nm bs)) ∧ Kept b w w' ∧ TabX w' b := by
  obtain ⟨a, cap, rfl, hr⟩ := id hb
  clear hr
  have HB := hid hb
  have hn := hR.2.2.2.1
  have HC0 := hid (recA_0 k nm (.slice a bs.length cap))
  have HC33 := hid (recA_33 k nm (.slice a bs.length cap) hn)
  have HL := hid (recA_length k nm (.slice a bs.length cap) hn)
  have HRR := hid hR
  have HSZ := hid (szT_rec hR)
  have HFL := hid (formR_length hR)
  have HT := hid hT
  have hbw := hT.lt
  clear hR hb hT
  have HV := hid (value_any k nm bs (.slice a bs.length cap))
  obtain ⟨C, hC⟩ : ∃ C, recA k nm (.slice a bs.length cap) = C := ⟨_, rfl⟩
  rw [hC] at HC0 HC33 HL HV
  rw [hC]
  clear hC hn
  have HR := hid (range_new w C 56)
  have HI : Hid ((Tryz.prog.info? 56).map (·.size) = some C.length) := by rw [Hid, HL.out]; exact Tryz.info35
  go_enter Tryz.func105, Tryz.ntmps105
  go_wp2_with (refine wpList_load_mid (by rfl) 56 _ (by rfl) w.heap.size 0 (by rfl) C _ ?hc Tryz.underlying56 rfl HI.out ?_; (case hc => exact HR.out))
  refine (right13_any C k _ _ _ _ HC0.out HC33.out).mono ?_
  rintro e w1 ⟨rfl, hb1⟩
  rw [rightB_of HRR.out]
  have HB1 : Hid (Below w.heap.size w w1) := ((Below.refl _ _).alloc (Nat.le_refl _) _).trans (hb1.mono (by simp))
  have HR1 := hid (rangeAt_below HR.out hb1 (by simp))
  clear hb1
  go_wp2_with (refine wpList_load_mid (by rfl) 56 _ (by rfl) w.heap.size 0 (by rfl) C _ ?hc Tryz.underlying56 rfl HI.out ?_; (case hc => exact HR1.out))
  refine (HV.out w1 HRR.out.1 HRR.out.2.1 HRR.out.2.2.2.1 HRR.out.2.2.2.2.1 (HB.out.agree (Agree.below HB1.out) (Nat.le_refl _) HB1.out.size)).mono ?_
  rintro e w2 ⟨sb, sk, rfl, hr2, hb2⟩
  have HR2 := hid hr2
  have HB2 : Hid (Below w.heap.size w w2) := HB1.out.trans (hb2.mono HB1.out.size)
  clear hr2 hb2
  go_wp2_with fail
  refine (Tlv.Put_yes (recT k nm bs) sb sk _ (HR2.out.agree (Agree.refl _ _ _) (Nat.zero_le _) (Nat.le_refl _)) (by rw [HSZ.out]; omega)).mono ?_
  rintro e w3 ⟨vf, rfl, hf3, hb3⟩
  obtain ⟨af, cf, rfl, hrf⟩ := id hf3
  clear hrf
  have HF3 := hid hf3
  have HB3 : Hid (Below w.heap.size w w3) := HB2.out.trans (hb3.mono HB2.out.size)
  have hz2 : w.heap.size ≤ w2.heap.size := HB2.out.size
  clear hf3 hb3
  go_wp2_with fail
  obtain ⟨f, n, hf, ht⟩ := (HT.out.below HB3.out)
  have hcf : Crc.BySl b w3 (.slice af (Tlv.formOf 2 (recT k nm bs)).length cf) (nats (formR k nm bs)) := toCrc HF3.out.toS (fun g hg => ⟨by omega, hg.2⟩)
  refine (Crc.seal_any b f n _ (nats (formR k nm bs)) _ hf ht hcf (by rw [nats_length, HFL.out]; have := HRR.out.2.2.1; omega)).mono ?_
  rintro e w4 ⟨v', rfl, ho, hk4, ht4⟩
  have HO := hid ho
  have HK4 := hid hk4
  have HT4 := hid ht4
  clear ho hk4 ht4 ht hcf hf
  go_wp2_with fail
  go_ret2
  refine ⟨v', rfl, ?_, (Kept.below HB3.out).trans HK4.out, TabX.of HT4.out⟩
  rw [frameR, sealI_nats]
  exact HO.out.mono HB3.out.size

end Go.Proofs.YtaaioaocjfpajaaGreatDoor
end

section
/-
  The form that bytes begin with, cut out by its own head.
-/
namespace Go.Proofs.YtaaioaocjfpajaaGreatDoor
open Go.RowKit
open Tlv (Tr BySlS AgreeS Agree)
open Crc (hid Kept Tab)

theorem bySl_take {L B : Nat} {w : World} {a : Option Addr} {cap E : Nat} {xs : List Int} (h : Tlv.BySl L B w (.slice a xs.length cap) xs) (hE : E ≤ xs.length) : Tlv.BySl L B w (.slice a E cap) (xs.take E) := by
  obtain ⟨a', cap', e, h2, h3, h4, h5, h6, h7⟩ := h
  simp only [Value.slice.injEq, true_and] at e
  obtain ⟨rfl, rfl⟩ := e
  have hl : (xs.take E).length = E := by rw [List.length_take]; omega
  refine ⟨a, cap, by rw [hl], by rw [hl]; omega, h3, fun e => ⟨by rw [(h4 e).1]; simp, (h4 e).2⟩, by rw [hl]; omega, fun x hx => h6 x (List.mem_of_mem_take hx), fun hne => ?_⟩
  obtain ⟨b, o, e, hL, hB, hc⟩ := h7 (fun e => hne (by rw [e]; simp))
  refine ⟨b, o, e, hL, hB, fun i hi => ?_⟩
  rw [hl] at hi
  rw [hc i (by omega)]
  simp [List.getElem?_take_of_lt hi]

set_option maxHeartbeats 2000000 in
set_option maxRecDepth 100000 in
theorem first_any (v : Value) (xs : List Int) (w : World) (h : Tlv.BySl 0 w.heap.size w v xs) :
    Calls Tryz.prog 131 #[v] w fun e w' => ((Tlv.rd 8 xs = none ∧ ∃ x y a l c a' l' c' sz, e = .returned (.tuple #[.agg #[.int .i64 x, .int .u64 y, .slice a l c, .slice a' l' c'], .int .i64 sz, .bool false])) ∨
      (∃ (t : Tr 9) (m : Nat) (a : Option Addr) (l c : Nat) (a' : Option Addr) (l' c' : Nat), Tlv.rd 8 xs = some (t, m) ∧ e = .returned (.tuple #[.agg #[.int .i64 t.hd.1, .int .u64 t.hd.2.1, .slice a l c, .slice a' l' c'], .int .i64 m, .bool true]) ∧ Tlv.Rep w.heap.size w'.heap.size w' 9 t (.slice a l c) (.slice a' l' c'))) ∧ Below w.heap.size w w' := by
  obtain ⟨a, cap, rfl, h2, h3, h4, h5, h6, h7⟩ := id h
  have H := hid h
  clear h h4
  by_cases hl : xs.length < 3
  · have hl' : (xs.length : Int) < 3 := by omega
    have HR := hid (rd_short hl)
    clear h7 h6 hl
    go_enter Tryz.func131, Tryz.ntmps131
    go_wp2_with fail
    refine bodyPost_ret (v := .tuple #[.agg #[.int .i64 0, .int .u64 0, .slice none 0 0, .slice none 0 0], .int .i64 0, .bool false]) (by simp [results, Tryz.results131, go_sem]) rfl ⟨.inl ⟨HR.out, 0, 0, none, 0, 0, none, 0, 0, 0, rfl⟩, ?_⟩
    exact (Below.refl _ _).alloc (Nat.le_refl _) _
  · obtain ⟨b, o, rfl, _, hb, hc⟩ := h7 (by intro e; subst e; simp at hl)
    have c1 := hc 1 (by omega)
    have c2 := hc 2 (by omega)
    have b1 := h6 (xs.getD 1 0) (by rw [List.getD_eq_getElem?_getD, List.getElem?_eq_getElem (by omega)]; simp)
    have b2 := h6 (xs.getD 2 0) (by rw [List.getD_eq_getElem?_getD, List.getElem?_eq_getElem (by omega)]; simp)
    have HEN : Hid (Tlv.endOf xs = 3 + (xs.getD 1 0 * 256 + xs.getD 2 0).toNat) := rfl
    generalize xs.getD 1 0 = x1 at *
    generalize xs.getD 2 0 = x2 at *
    have hl' : (3 : Int) ≤ xs.length := by omega
    have HL : Hid (3 ≤ xs.length) := by rw [Hid]; omega
    clear hc h6 h7 hl
    go_enter Tryz.func131, Tryz.ntmps131
    go_wp2_with fail
    go_quiet (fail)
    obtain ⟨E, hE⟩ : ∃ E : Nat, 3 + x1 * 256 + x2 = (E : Int) := ⟨(3 + x1 * 256 + x2).toNat, by omega⟩
    have HE : Hid (Tlv.endOf xs = E) := by rw [Hid, HEN.out]; omega
    have hE3 : 3 ≤ E := by omega
    rw [hE]
    obtain ⟨W1, hW1⟩ : ∃ W1, (w.alloc (Obj.cells #[Value.int IntKind.i64 0, Value.int IntKind.u64 0, Value.slice none 0 0, Value.slice none 0 0] 156)).drewN nq = W1 := ⟨_, rfl⟩
    have hbel : Below w.heap.size w W1 := by rw [← hW1]; exact below_drewN ((Below.refl _ _).alloc (Nat.le_refl _) _) _
    have HG : Hid (∀ j u, (#[.int .i64 0, .int .u64 0, .slice none 0 0, .slice none 0 0] : Array Value)[j]? = some u → W1.cell? ⟨w.heap.size, j, none⟩ = some u) := fun j u hj => by
      rw [← hW1]
      rw [World.cell?_drewN, World.cell?_alloc_at _ _ _ _ (by simp), hj]
    have HF : Hid (∀ j, W1.frozen? ⟨w.heap.size, j, none⟩ = false) := fun j => by
      rw [← hW1, World.frozen?_drewN, World.frozen?_alloc_at _ _ _ _ (by simp)]
    have hz1 : w.heap.size < W1.heap.size := by rw [← hW1]; simp
    rw [hW1]
    clear hW1 hE c1 c2 b1 b2 HEN nq
    have HBEL := hid hbel
    by_cases hlt : xs.length < E
    · have HR : Hid (Tlv.rd 8 xs = none) := rd_cut (by rw [HE.out]; exact hlt)
      have g0 := HG.out 0 _ rfl
      have g1 := HG.out 1 _ rfl
      have g2 := HG.out 2 _ rfl
      have g3 := HG.out 3 _ rfl
      have gf := HF.out
      clear hbel
      go_wp2_with fail
      obtain ⟨q0, q1, q2, q3⟩ := Tlv.set4_read (u0 := .int .i64 0) (u1 := .int .u64 0) (u2 := .slice none 0 0) (u3 := .slice none 0 0) g0 g1 g2 g3
      refine bodyPost_ret (v := .tuple #[.agg #[.int .i64 0, .int .u64 0, .slice none 0 0, .slice none 0 0], .int .i64 0, .bool false]) (by simp [results, Tryz.results131, go_sem, q0, q1, q2, q3]) rfl ⟨.inl ⟨HR.out, 0, 0, none, 0, 0, none, 0, 0, 0, rfl⟩, ?_⟩
      exact HBEL.out.trans (Tlv.bset4 (Nat.le_refl _) _ _ _ _)
    · have HLE : Hid (E ≤ xs.length) := by rw [Hid]; omega
      have hEc : E ≤ cap := by omega
      have hEm : (E : Int) ≤ xs.length := by omega
      clear hbel
      go_wp2_with fail
      refine (Tlv.get_any _ (xs.take E) _ (bySl_take (H.out.agree (Agree.below HBEL.out) (Nat.le_refl _) HBEL.out.size) HLE.out)).mono ?_
      rintro e w2 ⟨hres, hb2⟩
      have HB2 := hid hb2
      have hz2 : w.heap.size < w2.heap.size := by have := hb2.size; omega
      have gf : ∀ j, w2.frozen? ⟨w.heap.size, j, none⟩ = false := fun j => (hb2.frozen (p := ⟨w.heap.size, j, none⟩) hz1).trans (HF.out j)
      have hcg := fun j u hj => (hb2.cell (p := ⟨w.heap.size, j, none⟩) hz1).trans (HG.out j u hj)
      have g0 := hcg 0 _ rfl
      have g1 := hcg 1 _ rfl
      have g2 := hcg 2 _ rfl
      have g3 := hcg 3 _ rfl
      have HM : Hid (Tlv.getT (xs.take E) = (Tlv.rd 8 xs).map Prod.fst) := by rw [Hid, ← HE.out]; exact get_take HL.out (by rw [HE.out]; exact HLE.out)
      have hm := HM.out
      clear hcg hb2
      rcases hres with ⟨hn, rfl⟩ | ⟨t, sb, sk, hs, rfl, hr⟩
      · have HR : Hid (Tlv.rd 8 xs = none) := by
          rw [hn] at hm
          exact Option.map_eq_none_iff.1 hm.symm
        clear hm hn
        go_wp2_with fail
        obtain ⟨q0, q1, q2, q3⟩ := Tlv.set4_read (u0 := .int .i64 0) (u1 := .int .u64 0) (u2 := .slice none 0 0) (u3 := .slice none 0 0) g0 g1 g2 g3
        obtain ⟨r0, r1, r2, r3⟩ := Tlv.set4_read (u0 := .int .i64 0) (u1 := .int .u64 0) (u2 := .slice none 0 0) (u3 := .slice none 0 0) q0 q1 q2 q3
        refine bodyPost_ret (v := .tuple #[.agg #[.int .i64 0, .int .u64 0, .slice none 0 0, .slice none 0 0], .int .i64 E, .bool false]) (by simp [results, Tryz.results131, go_sem, r0, r1, r2, r3]) rfl ⟨.inl ⟨HR.out, 0, 0, none, 0, 0, none, 0, 0, E, rfl⟩, ?_⟩
        exact (HBEL.out.trans (HB2.out.mono HBEL.out.size)).trans ((Tlv.bset4 (Nat.le_refl _) _ _ _ _).trans (Tlv.bset4 (Nat.le_refl _) _ _ _ _))
      · have HR : Hid (Tlv.rd 8 xs = some (t, E)) := by
          rw [hs] at hm
          obtain ⟨⟨t', m⟩, hq, ht⟩ := Option.map_eq_some_iff.1 hm.symm
          have h1 := rd_end hq
          rw [HE.out] at h1
          simp only at ht
          rw [Hid, hq, ht, h1]
        obtain ⟨a1, l1, p1, a2, l2, p2, rfl, rfl⟩ := hr.sl
        have HRP := hid hr
        clear hm hs hr
        go_wp2_with fail
        obtain ⟨q0, q1, q2, q3⟩ := Tlv.set4_read (u0 := .int .i64 t.hd.1) (u1 := .int .u64 t.hd.2.1) (u2 := .slice a1 l1 p1) (u3 := .slice a2 l2 p2) g0 g1 g2 g3
        obtain ⟨r0, r1, r2, r3⟩ := Tlv.set4_read (u0 := .int .i64 t.hd.1) (u1 := .int .u64 t.hd.2.1) (u2 := .slice a1 l1 p1) (u3 := .slice a2 l2 p2) q0 q1 q2 q3
        refine bodyPost_ret (v := .tuple #[.agg #[.int .i64 t.hd.1, .int .u64 t.hd.2.1, .slice a1 l1 p1, .slice a2 l2 p2], .int .i64 E, .bool true]) (by simp [results, Tryz.results131, go_sem, r0, r1, r2, r3]) rfl ⟨.inr ⟨t, E, _, _, _, _, _, _, HR.out, rfl, ?_⟩, ?_⟩
        · exact (HRP.out.agree (Agree.set4 _ (.inl hz1) _ _ _ _) (by omega) (Nat.le_refl _)).agree (Agree.set4 _ (.inl (Nat.lt_succ_self _)) _ _ _ _) (Nat.le_succ _) (by simp)
        · exact (HBEL.out.trans (HB2.out.mono HBEL.out.size)).trans ((Tlv.bset4 (Nat.le_refl _) _ _ _ _).trans (Tlv.bset4 (Nat.le_refl _) _ _ _ _))
end Go.Proofs.YtaaioaocjfpajaaGreatDoor
end

section
/-
  The record whose value a tree is, as the program finds it.
-/
namespace Go.Proofs.YtaaioaocjfpajaaGreatDoor
open Go.RowKit
open Tlv (Tr BySlS AgreeS Agree)
open Crc (hid Kept Tab)

theorem step_copy {P : Program} {ops : Array Oper} {o : Oper} {a : Act} {K : Act → World → Prop} {Q : Exit → Act → World → Prop} {E : Prop} (w : World) (hgd : o.guard = none) (d s : Operand) (dT sT : TypeId)
    (ho : o.op = .call { callee := .builtin .copy, args := #[d, s], argTypes := #[dT, sT] }) (elem : TypeId) (hu : P.underlying dT = some (.slice elem)) (hsz : (P.info? elem).map (·.size) = some 1)
    (g off dLen dCap : Nat) (ad : Addr) (sLen sCap : Nat) (hd : a.eval d = .slice (some ⟨g, off, none⟩) dLen dCap) (hs : a.eval s = .slice (some ad) sLen sCap)
    (cs : List Value) (hn : cs.length = Nat.min sLen dLen)
    (hsrc : ∀ j v, cs[j]? = some v → w.cell? (ad.add j) = some v) (ht : w.there g off cs.length) (h1 : ∀ v ∈ cs, v.oneCell' = true)
    (h : K (a.put o.dst (goInt cs.length)) (w.setCells g off cs)) : if Region.wanted o (yielded ops a.tmps) = true then Oper.wp P o a w K Q else E := by
  have hw : Region.wanted o (yielded ops a.tmps) = true := by simp [Region.wanted, hgd]
  rw [if_pos hw]
  have hrun := run_copy_cells (P := P) w dT sT o.type elem g off dLen dCap ad sLen sCap cs hu hsz hn hsrc (fun j hj => (ht j hj).1) (fun j hj => (ht j hj).2) h1
  unfold Oper.wp
  simp [execOp, ho, resolve, invoke, builtin, hd, hs, hrun, Result.andThen]
  exact h

theorem yields_build2 {P : Program} {ops : Array Oper} {S : World → Prop} {o : Oper} {a : Act} (hw : Region.wanted o (yielded ops a.tmps) = true) (t : TypeId) (i j : Nat) (x y : Operand) (ho : o.op = .build t #[(i, x), (j, y)])
    (vx vy : Value) (hx : a.eval x = vx) (hy : a.eval y = vy) (C : Array Value) (hb : P.built t [(i, vx), (j, vy)] = some C) : YieldsIf P ops S o (.agg C) a :=
  .inl ⟨hw, fun w _ => by
    have e : P.built t ((#[(i, x), (j, y)] : Array (Nat × Operand)).map fun (i, x) => (i, a.eval x)).toList = some C := by
      rw [← hb]
      simp only [List.map_toArray, List.map_cons, List.map_nil, hx, hy]
    unfold execOp
    simp only [ho, Sem.run_bind, run_build w t _ C e, Result.andThen_ok]
    rfl⟩

theorem built35b (k : Int) (a : Option Addr) (l c : Nat) : Tryz.prog.built 56 [(0, .int .i64 k), (2, .slice a l c)] = some (recA k (List.replicate 32 0) (.slice a l c)).toArray := by kernel_rfl

/-- What lies at g: a record of kind k, of no name yet, with the body v. -/
def Half (w W : World) (k : Int) (nm : List Int) (v : Value) (g : Nat) : Prop := Below w.heap.size w W ∧ w.heap.size ≤ g ∧ g < W.heap.size ∧ W.rangeAt g 0 (recA k nm v) ∧ W.there g 0 34

theorem Half.drew {w W : World} {k : Int} {nm : List Int} {v : Value} {g : Nat} (h : Half w W k nm v g) : Half w W.drew k nm v g := by
  obtain ⟨h1, h2, h3, h4, h5⟩ := h
  exact ⟨h1.drew, h2, h3, by rwa [World.rangeAt_drew], by rwa [World.there_drew]⟩

theorem app_right {A A0 T : List Value} {i : Nat} (h : A.length = A0.length) (hi : A.length ≤ i) : (A ++ T)[i]? = (A0 ++ T)[i]? := by
  rw [List.getElem?_append_right hi, List.getElem?_append_right (by omega), h]

theorem Half.named {w W : World} {k : Int} {bn : List Int} {v : Value} {g : Nat} (h : Half w W k (List.replicate 32 0) v g) (ht : W.there g 1 (u8s (bn.take 32)).length) : Half w (W.setCells g 1 (u8s (bn.take 32))) k (pad32 bn) v g := by
  obtain ⟨h1, h2, h3, h4, h5⟩ := h
  refine ⟨h1.trans (setCells_below h2 _ _ _), h2, by rw [setCells_size]; exact h3, fun j u hj => ?_, World.there_setCells h5 _ _ _⟩
  have hl : (u8s (bn.take 32)).length = (bn.take 32).length := u8s_length _
  have hl2 : (bn.take 32).length ≤ 32 := by rw [List.length_take]; omega
  have key : j = 0 ∨ (1 ≤ j ∧ j < 1 + (bn.take 32).length) ∨ 1 + (bn.take 32).length ≤ j := by omega
  rcases key with rfl | ⟨j1, j2⟩ | j3
  · rw [Nat.zero_add, World.cell?_setCells_out g _ 1 W ⟨g, 0, none⟩ (fun _ _ => .inl (by simp))]
    exact h4 0 u hj
  · obtain ⟨i, rfl⟩ : ∃ i, j = 1 + i := ⟨j - 1, by omega⟩
    have hi : i < (u8s (bn.take 32)).length := by omega
    rw [Nat.zero_add, World.cell?_setCells_in g _ 1 W (fun i hi => (ht i hi).1) i hi, ← hj, recA, Nat.add_comm, List.getElem?_cons_succ, show u8s (pad32 bn) = u8s (bn.take 32) ++ u8s (List.replicate (32 - bn.length) 0) by simp [pad32, u8s], List.append_assoc, List.getElem?_append_left hi]
    exact (List.getElem?_eq_getElem hi).symm
  · rw [Nat.zero_add, World.cell?_setCells_out g _ 1 W ⟨g, j, none⟩ (fun _ _ => .inr (by show 1 + _ ≤ j; omega))]
    have h6 := h4 j u (by
      rw [← hj]
      obtain ⟨i, rfl⟩ : ∃ i, j = i + 1 := ⟨j - 1, by omega⟩
      rw [recA, recA, List.getElem?_cons_succ, List.getElem?_cons_succ]
      have e1 : u8s (pad32 bn) = u8s (bn.take 32) ++ u8s (List.replicate (32 - bn.length) 0) := by simp [pad32, u8s]
      have e2 : u8s (List.replicate 32 0) = u8s (List.replicate (bn.take 32).length 0) ++ u8s (List.replicate (32 - bn.length) 0) := by
        simp only [u8s, List.map_replicate, List.replicate_append_replicate]
        congr 1
        rw [List.length_take]
        omega
      rw [e1, e2, List.append_assoc, List.append_assoc]
      exact app_right (by rw [u8s_length, u8s_length]; simp) (by rw [u8s_length, List.length_replicate]; omega))
    rw [Nat.zero_add] at h6
    exact h6

set_option maxHeartbeats 4000000 in
set_option maxRecDepth 100000 in
theorem record_any (t : Tr 9) (sb sk : Value) (L B : Nat) (w : World) (h : Tlv.Rep L B w 9 t sb sk) (hB : B ≤ w.heap.size) (hr : (Tlv.bsz 9 t 65535 8).2 = true) :
    Calls Tryz.prog 133 #[.agg #[.int .i64 t.hd.1, .int .u64 t.hd.2.1, sb, sk]] w fun e w' => ((recOf t = none ∧ e = .returned (.tuple #[.agg zRec.toArray, .bool false])) ∨
      (∃ k nm bs a c, recOf t = some (k, nm, bs) ∧ e = .returned (.tuple #[.agg (recA k nm (.slice a bs.length c)).toArray, .bool true]) ∧ Tlv.BySl L B w' (.slice a bs.length c) bs ∧ nm.length = 32 ∧ ∀ x ∈ nm, 0 ≤ x ∧ x ≤ 255)) ∧ Below w.heap.size w w' := by
  have HREP := hid h
  obtain ⟨hn0, hn1, hby, hks⟩ := h
  obtain ⟨ab, cb, rfl, _⟩ := id hby
  obtain ⟨ak, ck, rfl, hk2, hk3, _, hkl, hk7⟩ := id hks
  have hz := zero35
  obtain ⟨Z, hZ⟩ : ∃ Z, zRec = Z := ⟨_, rfl⟩
  have HZ := hid hZ
  rw [hZ] at hz
  clear hZ
  by_cases h3 : t.kd.length = 3
  rotate_left
  · have hne : ((t.kd.length : Int) != 3) = true := by simp; omega
    have HRN : Hid (recOf t = none) := by
      rw [Hid, recOf]
      match hq : t.kd with
      | [] => rfl
      | [_] => rfl
      | [_, _] => rfl
      | [a, b, c] => rw [hq] at h3; simp at h3
      | _ :: _ :: _ :: _ :: _ => rfl
    clear hk7 hby hks h3 hr
    generalize t.kd.length = KL at *
    generalize t.hd.2.2 = bs at *
    generalize t.hd.2.1 = num at *
    generalize t.hd.1 = tag at *
    have HT : Hid (World.there ((w.alloc (.cells #[.int .i64 tag, .int .u64 num, .slice ab bs.length cb, .slice ak KL ck] 156)).alloc (.cells Z.toArray 56)) (w.heap.size + 1) 0 Z.toArray.size) := by
      have h := there_new (w.alloc (.cells #[.int .i64 tag, .int .u64 num, .slice ab bs.length cb, .slice ak KL ck] 156)) Z 56
      rw [Hid]
      simpa using h
    have HI2 : Hid ((Tryz.prog.info? 56).map (·.size) = some Z.toArray.size) := by rw [← HZ.out]; exact Tryz.info35
    have H1 : Hid (Z.toArray.all (·.oneCell') = true) := by rw [← HZ.out]; exact all_oneCell_toArray zRec_one
    go_enter Tryz.func133, Tryz.ntmps133
    go_wp2_with (refine wpList_store_mid (by rfl) 56 _ _ (by rfl) (w.heap.size + 1) 0 Z.toArray (by rfl) (by rfl) ?ht HI2.out H1.out ?_; (case ht => exact HT.out))
    have hr : World.rangeAt (((w.alloc (.cells #[.int .i64 tag, .int .u64 num, .slice ab bs.length cb, .slice ak KL ck] 156)).alloc (.cells Z.toArray 56)).setCells (w.heap.size + 1) 0 Z) (w.heap.size + 1) 0 Z := World.rangeAt_setCells_same _ _ _ _ HT.out
    refine bodyPost_ret (v := .tuple #[.agg Z.toArray, .bool false]) ?_ rfl ⟨.inl ⟨HRN.out, by rw [HZ.out]⟩, ?_⟩
    · exact results_cell_mid2 Tryz.results133 _ _ (w.heap.size + 1) 0 _ _ rfl hr Tryz.underlying56 rfl HI2.out
    · exact (((Below.refl _ _).alloc (Nat.le_refl _) _).alloc (by simp) _).trans (setCells_below (by omega) _ _ _)
  · obtain ⟨ka, kb, kc, hkd⟩ : ∃ ka kb kc, t.kd = [ka, kb, kc] := by
      match hq : t.kd with
      | [a, b, c] => exact ⟨a, b, c, rfl⟩
      | [] => rw [hq] at h3; simp at h3
      | [_] => rw [hq] at h3; simp at h3
      | [_, _] => rw [hq] at h3; simp at h3
      | _ :: _ :: _ :: _ :: _ => rw [hq] at h3; simp at h3
    obtain ⟨bk, ok, rfl, hbL, hbB, hcell⟩ := hk7 (by rw [hkd]; simp)
    have HREP3 : Hid (Tlv.Rep L B w 9 t (.slice ab t.hd.2.2.length cb) (.slice (some ⟨bk, ok, none⟩) 3 ck)) := by
      have h := HREP.out
      rwa [h3] at h
    obtain ⟨sa, ska, a0, a1, a2, a3, ra⟩ := hcell 0 ka (by rw [hkd]; rfl)
    obtain ⟨sbb, skb, b0, b1, b2, b3, rb⟩ := hcell 1 kb (by rw [hkd]; rfl)
    obtain ⟨sc, skc, c0, c1, c2, c3, rc⟩ := hcell 2 kc (by rw [hkd]; rfl)
    simp only [Nat.zero_mul, Nat.reduceMul, Nat.add_zero] at a1 b2 c2
    obtain ⟨an0, an1, _, _⟩ := ra
    obtain ⟨_, _, bby, _⟩ := rb
    obtain ⟨_, _, cby, _⟩ := rc
    obtain ⟨k, hk⟩ : ∃ k, wrap64 ka.hd.2.1 = k := ⟨_, rfl⟩
    have HEQ := hid (recOf_eq hkd hr an0 an1 hk.symm)
    have HCB := hid cby
    have HBB := hid bby
    obtain ⟨abb, cbb, rfl, hbb2, hbb3, hbb4, hbb5, hbb6, hbb7⟩ := id bby
    obtain ⟨ac, cc, rfl, _⟩ := id cby
    have HB7 := hid hbb7
    have HB4 := hid hbb4
    clear hcell a0 a2 a3 b0 b1 b3 c0 c1 c3 hbb7 hbb4 hk7 hby hks cby bby h3 hbb6
    rw [hkd]
    simp only [List.length_cons, List.length_nil, Nat.zero_add, Nat.reduceAdd]
    have HKB : Hid (bk < w.heap.size) := by rw [Hid]; omega
    have hK := HKB.out
    generalize hbn : kb.hd.2.2 = bn at *
    generalize hcs : kc.hd.2.2 = cs at *
    generalize hka : ka.hd.2.1 = num0 at *
    generalize hT2 : t.hd.2.2 = bs at *
    generalize hT1 : t.hd.2.1 = num at *
    generalize hT0 : t.hd.1 = tag at *
    have HK := hid hk
    have HH := hid (And.intro hT0 (And.intro hT1 hT2))
    clear hT0 hT1 hT2 hka hcs hbn
    go_enter Tryz.func133, Tryz.ntmps133
    go_wp2_with fail
    obtain ⟨W0, hW0⟩ : ∃ W0, (w.alloc (.cells #[.int .i64 tag, .int .u64 num, .slice ab bs.length cb, .slice (some ⟨bk, ok, none⟩) 3 ck] 156)).alloc (.cells Z.toArray 56) = W0 := ⟨_, rfl⟩
    have hbel : Below w.heap.size w W0 := by rw [← hW0]; exact ((Below.refl _ _).alloc (Nat.le_refl _) _).alloc (by simp) _
    have HBEL := hid hbel
    have d0 : W0.cell? ⟨w.heap.size, 0, none⟩ = some (.int .i64 tag) := by rw [← hW0, World.cell?_alloc_lt _ _ _ (by simp), World.cell?_alloc_at _ _ _ _ rfl]; rfl
    have d1 : W0.cell? ⟨w.heap.size, 1, none⟩ = some (.int .u64 num) := by rw [← hW0, World.cell?_alloc_lt _ _ _ (by simp), World.cell?_alloc_at _ _ _ _ rfl]; rfl
    have d2 : W0.cell? ⟨w.heap.size, 2, none⟩ = some (.slice ab bs.length cb) := by rw [← hW0, World.cell?_alloc_lt _ _ _ (by simp), World.cell?_alloc_at _ _ _ _ rfl]; rfl
    have d3 : W0.cell? ⟨w.heap.size, 3, none⟩ = some (.slice (some ⟨bk, ok, none⟩) 3 ck) := by rw [← hW0, World.cell?_alloc_lt _ _ _ (by simp), World.cell?_alloc_at _ _ _ _ rfl]; rfl
    have HTR : Hid (W0.there (w.heap.size + 1) 0 34) := by
      have h := there_new (w.alloc (.cells #[.int .i64 tag, .int .u64 num, .slice ab bs.length cb, .slice (some ⟨bk, ok, none⟩) 3 ck] 156)) Z 56
      rw [hW0, ← HZ.out, zRec_length] at h
      rw [Hid]
      simpa using h
    have HD := hid (And.intro d0 (And.intro d1 (And.intro d2 d3)))
    have hz0 : w.heap.size + 1 < W0.heap.size := by rw [← hW0]; simp
    have hz1 : w.heap.size < W0.heap.size := by omega
    have hz2 : bk < W0.heap.size := by omega
    replace a1 := (hbel.cell (p := ⟨bk, ok + 1, none⟩) hK).trans a1
    replace b2 := (hbel.cell (p := ⟨bk, ok + 4 + 2, none⟩) hK).trans b2
    replace c2 := (hbel.cell (p := ⟨bk, ok + 8 + 2, none⟩) hK).trans c2
    rw [hW0]
    clear hW0 hbel
    go_cut [4] (fun p wx => ∃ g, p = .pointer (some ⟨g, 0, none⟩) ∧ Hid (Half W0 wx k (List.replicate 32 0) (.slice ac cs.length cc) g))
    case first =>
      obtain ⟨C0, hC0⟩ : ∃ C0, recA k (List.replicate 32 0) (.slice ac cs.length cc) = C0 := ⟨_, rfl⟩
      have HC0L : Hid (C0.length = 34) := by rw [← hC0]; exact recA_length _ _ _ (by simp)
      have HBU : Hid (Tryz.prog.built 56 [(0, .int .i64 k), (2, .slice ac cs.length cc)] = some C0.toArray) := by rw [← hC0]; exact built35b _ _ _ _
      have HI0 : Hid ((Tryz.prog.info? 56).map (·.size) = some C0.toArray.size) := by rw [Hid, show C0.toArray.size = 34 from HC0L.out]; exact Tryz.info35
      have H10 : Hid (C0.toArray.all (·.oneCell') = true) := by rw [← hC0]; exact all_oneCell_toArray (recA_one _ _ _ _ _)
      have HT0 : Hid (World.there (W0.drew.alloc (.cells Z.toArray 56)) W0.heap.size 0 C0.toArray.size) := by
        have h := there_new W0.drew Z 56
        rw [← HZ.out, zRec_length] at h
        rw [Hid, show C0.toArray.size = 34 from HC0L.out, ← HZ.out]
        exact h
      have HS1 : Hid (Below W0.heap.size W0 (W0.drew.alloc (.cells Z.toArray 56))) := (Below.refl _ _).drew.alloc (Nat.le_refl _) _
      have HS2 : Hid (Below W0.heap.size W0 ((W0.drew.alloc (.cells Z.toArray 56)).setCells W0.heap.size 0 C0)) := HS1.out.trans (setCells_below (Nat.le_refl _) _ _ _)
      have HALF : Hid (Half W0 ((W0.drew.alloc (.cells Z.toArray 56)).setCells W0.heap.size 0 C0) k (List.replicate 32 0) (.slice ac cs.length cc) W0.heap.size) := by
        refine ⟨HS2.out, Nat.le_refl _, by rw [setCells_size]; simp, ?_, ?_⟩
        · rw [hC0]
          exact World.rangeAt_setCells_same _ _ _ _ HT0.out
        · have h := World.there_setCells HT0.out W0.heap.size 0 C0
          rwa [show C0.toArray.size = 34 from HC0L.out] at h
      clear hC0
      have hkw : IntKind.i64.wrap num0 = k := by have h := hk; unfold wrap64 at h; rw [IntKind.wrap_i64]; exact h
      refine wp_region_held_drew (S := fun V => Below W0.heap.size W0 V) (by kernel_rfl) (Below.refl _ _).drew (fun hHeld => ?_)
      refine wpAnyH_take (i := 0) (oi := { dst := some 10, op := Op.fieldAddr 156 (Operand.tmp 1) 3, type := 0, pos := "frame.go:108", after := #[], guard := none }) (v := .pointer (some ⟨w.heap.size, 3, none⟩)) rfl (by kernel_rfl) (by kernel_rfl) (by kernel_rfl) (fun _ _ _ h => h) (Or.inl ⟨by rfl, fun w' hw' => by (clear hw'; go_simp)⟩) hHeld ?_
      simp only [Act.put, List.setIfInBounds_toArray, List.set_cons_zero, List.set_cons_succ]
      refine wpAnyH_take (i := 1) (oi := { dst := some 11, op := Op.load 154 (Operand.tmp 10), type := 154, pos := "frame.go:108", after := #[{ on := 0, ground := Ground.data }], guard := none }) (v := .slice (some ⟨bk, ok, none⟩) 3 ck) rfl (by kernel_rfl) (by kernel_rfl) (by kernel_rfl) (fun _ _ _ h => h) (Or.inl ⟨by rfl, fun w' hw' => by (have q := (hw'.cell (p := ⟨w.heap.size, 3, none⟩) hz1).trans d3; clear hw'; go_simp)⟩) hHeld ?_
      simp only [Act.put, List.setIfInBounds_toArray, List.set_cons_zero, List.set_cons_succ]
      refine wpAnyH_take (i := 2) (oi := { dst := some 12, op := Op.indexAddr 154 (Operand.tmp 11) (Operand.const (Value.int IntKind.i64 0)), type := 0, pos := "frame.go:108", after := #[{ on := 1, ground := Ground.data }], guard := none }) (v := .pointer (some ⟨bk, ok, none⟩)) rfl (by kernel_rfl) (by kernel_rfl) (by kernel_rfl) (fun _ _ _ h => h) (Or.inl ⟨by rfl, fun w' hw' => by (clear hw'; go_simp)⟩) hHeld ?_
      simp only [Act.put, List.setIfInBounds_toArray, List.set_cons_zero, List.set_cons_succ]
      refine wpAnyH_take (i := 3) (oi := { dst := some 13, op := Op.fieldAddr 156 (Operand.tmp 12) 1, type := 0, pos := "frame.go:108", after := #[{ on := 2, ground := Ground.data }], guard := none }) (v := .pointer (some ⟨bk, ok + 1, none⟩)) rfl (by kernel_rfl) (by kernel_rfl) (by kernel_rfl) (fun _ _ _ h => h) (Or.inl ⟨by rfl, fun w' hw' => by (clear hw'; go_simp)⟩) hHeld ?_
      simp only [Act.put, List.setIfInBounds_toArray, List.set_cons_zero, List.set_cons_succ]
      refine wpAnyH_take (i := 4) (oi := { dst := some 14, op := Op.load 153 (Operand.tmp 13), type := 153, pos := "frame.go:108", after := #[{ on := 3, ground := Ground.data }], guard := none }) (v := .int .u64 num0) rfl (by kernel_rfl) (by kernel_rfl) (by kernel_rfl) (fun _ _ _ h => h) (Or.inl ⟨by rfl, fun w' hw' => by (have q := (hw'.cell (p := ⟨bk, ok + 1, none⟩) hz2).trans a1; clear hw'; go_simp)⟩) hHeld ?_
      simp only [Act.put, List.setIfInBounds_toArray, List.set_cons_zero, List.set_cons_succ]
      refine wpAnyH_take (i := 5) (oi := { dst := some 15, op := Op.convert 153 3 (Operand.tmp 14), type := 3, pos := "frame.go:108", after := #[{ on := 4, ground := Ground.data }], guard := none }) (v := .int .i64 k) rfl (by kernel_rfl) (by kernel_rfl) (by kernel_rfl) (fun _ _ _ h => h) (Or.inl ⟨by rfl, fun w' hw' => by (clear hw'; go_simp)⟩) hHeld ?_
      simp only [Act.put, List.setIfInBounds_toArray, List.set_cons_zero, List.set_cons_succ]
      refine wpAnyH_take (i := 6) (oi := { dst := some 16, op := Op.fieldAddr 156 (Operand.tmp 1) 3, type := 0, pos := "frame.go:108", after := #[], guard := none }) (v := .pointer (some ⟨w.heap.size, 3, none⟩)) rfl (by kernel_rfl) (by kernel_rfl) (by kernel_rfl) (fun _ _ _ h => h) (Or.inl ⟨by rfl, fun w' hw' => by (clear hw'; go_simp)⟩) hHeld ?_
      simp only [Act.put, List.setIfInBounds_toArray, List.set_cons_zero, List.set_cons_succ]
      refine wpAnyH_take (i := 7) (oi := { dst := some 17, op := Op.load 154 (Operand.tmp 16), type := 154, pos := "frame.go:108", after := #[{ on := 6, ground := Ground.data }], guard := none }) (v := .slice (some ⟨bk, ok, none⟩) 3 ck) rfl (by kernel_rfl) (by kernel_rfl) (by kernel_rfl) (fun _ _ _ h => h) (Or.inl ⟨by rfl, fun w' hw' => by (have q := (hw'.cell (p := ⟨w.heap.size, 3, none⟩) hz1).trans d3; clear hw'; go_simp)⟩) hHeld ?_
      simp only [Act.put, List.setIfInBounds_toArray, List.set_cons_zero, List.set_cons_succ]
      refine wpAnyH_take (i := 8) (oi := { dst := some 18, op := Op.indexAddr 154 (Operand.tmp 17) (Operand.const (Value.int IntKind.i64 2)), type := 0, pos := "frame.go:108", after := #[{ on := 7, ground := Ground.data }], guard := none }) (v := .pointer (some ⟨bk, ok + 8, none⟩)) rfl (by kernel_rfl) (by kernel_rfl) (by kernel_rfl) (fun _ _ _ h => h) (Or.inl ⟨by rfl, fun w' hw' => by (clear hw'; go_simp)⟩) hHeld ?_
      simp only [Act.put, List.setIfInBounds_toArray, List.set_cons_zero, List.set_cons_succ]
      refine wpAnyH_take (i := 9) (oi := { dst := some 19, op := Op.fieldAddr 156 (Operand.tmp 18) 2, type := 0, pos := "frame.go:108", after := #[{ on := 8, ground := Ground.data }], guard := none }) (v := .pointer (some ⟨bk, ok + 8 + 2, none⟩)) rfl (by kernel_rfl) (by kernel_rfl) (by kernel_rfl) (fun _ _ _ h => h) (Or.inl ⟨by rfl, fun w' hw' => by (clear hw'; go_simp)⟩) hHeld ?_
      simp only [Act.put, List.setIfInBounds_toArray, List.set_cons_zero, List.set_cons_succ]
      refine wpAnyH_take (i := 10) (oi := { dst := some 20, op := Op.load 54 (Operand.tmp 19), type := 54, pos := "frame.go:108", after := #[{ on := 9, ground := Ground.data }], guard := none }) (v := .slice ac cs.length cc) rfl (by kernel_rfl) (by kernel_rfl) (by kernel_rfl) (fun _ _ _ h => h) (Or.inl ⟨by rfl, fun w' hw' => by (have q := (hw'.cell (p := ⟨bk, ok + 8 + 2, none⟩) hz2).trans c2; clear hw'; go_simp)⟩) hHeld ?_
      simp only [Act.put, List.setIfInBounds_toArray, List.set_cons_zero, List.set_cons_succ]
      refine wpAnyH_take (i := 11) (oi := { dst := some 21, op := Op.build 56 #[(0, Operand.tmp 15), (2, Operand.tmp 20)], type := 56, pos := "frame.go:108", after := #[{ on := 5, ground := Ground.data }, { on := 10, ground := Ground.data }], guard := none }) (v := .agg C0.toArray) rfl (by kernel_rfl) (by kernel_rfl) (by kernel_rfl) (fun _ _ _ h => h) (yields_build2 (by rfl) _ _ _ _ _ rfl _ _ rfl rfl _ HBU.out) hHeld ?_
      simp only [Act.put, List.setIfInBounds_toArray, List.set_cons_zero, List.set_cons_succ]
      refine wpAnyH_ready (rs := [12]) (by kernel_rfl) (by simp) ?_
      refine AllReadyH.cons (o := { dst := some 4, op := Op.alloc 56, type := 0, pos := "frame.go:108", after := #[], guard := none }) rfl (fun K hK => ?_) AllReadyH.nil
      go_simp
      refine hK.out _ _ HS1.out (fun hh => ?_)
      clear hK K hHeld
      have hHeld := hh
      clear hh
      try simp only [Act.put, List.setIfInBounds_toArray, List.set_cons_zero, List.set_cons_succ]
      refine wpAnyH_ready (rs := [13]) (by kernel_rfl) (by simp) ?_
      refine AllReadyH.cons (o := { dst := none, op := Op.store 56 (Operand.tmp 4) (Operand.tmp 21), type := 0, pos := "frame.go:108", after := #[{ on := 12, ground := Ground.data }, { on := 11, ground := Ground.data }, { on := 0, ground := Ground.phase }, { on := 1, ground := Ground.phase }, { on := 2, ground := Ground.phase }, { on := 3, ground := Ground.phase }, { on := 4, ground := Ground.phase }, { on := 5, ground := Ground.phase }, { on := 6, ground := Ground.phase }, { on := 7, ground := Ground.phase }, { on := 8, ground := Ground.phase }, { on := 9, ground := Ground.phase }, { on := 10, ground := Ground.phase }, { on := 11, ground := Ground.phase }, { on := 12, ground := Ground.phase }], guard := none }) rfl (fun K hK => ?_) AllReadyH.nil
      rw [if_pos (by rfl)]
      refine wp_store_mid 56 _ _ (by rfl) W0.heap.size 0 C0.toArray (by rfl) (by rfl) HT0.out HI0.out H10.out ?_
      refine hK.out _ _ HS2.out (fun hh => ?_)
      clear hK K hHeld hh
      refine wpAnyH_done (by kernel_rfl) ?_ _
      go_wp2_with fail
      go_meet
      exact ⟨_, rfl, HALF.out⟩
    case rest =>
      obtain ⟨g, rfl, HALF⟩ := hcut
      obtain ⟨hb1, hg0, hg1, hr1, ht1⟩ := HALF.out
      have HB1 := hid hb1
      have HR1 := hid hr1
      have HT1 := hid ht1
      replace d0 := (hb1.cell (p := ⟨w.heap.size, 0, none⟩) hz1).trans d0
      replace d1 := (hb1.cell (p := ⟨w.heap.size, 1, none⟩) hz1).trans d1
      replace d2 := (hb1.cell (p := ⟨w.heap.size, 2, none⟩) hz1).trans d2
      replace d3 := (hb1.cell (p := ⟨w.heap.size, 3, none⟩) hz1).trans d3
      replace b2 := (hb1.cell (p := ⟨bk, ok + 4 + 2, none⟩) hz2).trans b2
      clear hb1 hr1 ht1 a1 c2 hz
      go_wp2_with fail
      go_cut [29] (fun _ wx => Hid (Half W0 wx k (pad32 bn) (.slice ac cs.length cc) g))
      case first =>
        clear d0 d1 d2
        cases abb with
        | none =>
          obtain ⟨rfl, rfl⟩ := HB4.out rfl
          have hcp : ∀ w, (Builtin.copy_ #[54, 54] 3 #[Value.slice (some ⟨g, 1, none⟩) 32 32, Value.slice none 0 0]).run Tryz.prog w = .ok (.int .i64 0) w := fun w => run_copy_none w _ _ _ 5 _ _ _ _ _ _ Tryz.underlying54 (by kernel_rfl) (by rfl)
          go_region
          all_goals (go_wp2_with fail; go_meet)
          all_goals exact HALF.out.drew
        | some ad =>
          obtain ⟨CS, hCS⟩ : ∃ CS, u8s (bn.take 32) = CS := ⟨_, rfl⟩
          have HCL : Hid (CS.length = Nat.min bn.length 32) := by rw [Hid, ← hCS, u8s_length, List.length_take, Nat.min_comm]
          have HCO : Hid (∀ v ∈ CS, v.oneCell' = true) := by rw [← hCS]; exact u8s_one _
          have HCT : Hid (World.there wc.drew g 1 CS.length) := by
            intro j hj
            have h1 := HCL.out
            have h2 : Nat.min bn.length 32 ≤ 32 := Nat.min_le_right _ _
            have h := HT1.out (1 + j) (by omega)
            rw [Nat.zero_add] at h
            simpa using h
          have HSR : Hid (∀ j v, CS[j]? = some v → wc.drew.cell? (ad.add j) = some v) := by
            intro j v hj
            have hb := HBB.out.agree (Agree.below (HBEL.out.mono hB)) (Nat.le_refl _) (Nat.le_refl _)
            have hb' := hb.agree (Agree.below (HB1.out.mono (Nat.le_trans hB HBEL.out.size))) (Nat.le_refl _) (Nat.le_refl _)
            refine Tlv.bytes_news (B := B) (w := wc) (w' := wc.drew) (bs := bn) (l := bn.length) (c := cbb) (hb'.agree (Agree.refl _ _ _) (Nat.zero_le _) (Nat.le_refl _)) (Below.refl _ _).drew j v ?_
            rw [← hCS, u8s, List.map_take] at hj
            have hlt : j < 32 := by
              have := (List.getElem?_eq_some_iff.1 hj).1
              simp at this
              omega
            rwa [List.getElem?_take_of_lt hlt] at hj
          have HNX : Hid (Half W0 (wc.drew.setCells g 1 CS) k (pad32 bn) (.slice ac cs.length cc) g) := by
            rw [← hCS]
            exact HALF.out.drew.named (by rw [hCS]; exact HCT.out)
          have HI5 : Hid ((Tryz.prog.info? 5).map (·.size) = some 1) := by rw [Hid]; kernel_rfl
          clear hCS
          go_region_law (refine step_copy _ (by rfl) (.tmp 23) (.tmp 28) 54 54 (by rfl) 5 Tryz.underlying54 HI5.out g 1 32 32 ad bn.length cbb (by rfl) (by rfl) CS HCL.out HSR.out HCT.out HCO.out ?_)
          all_goals (go_wp2_with fail; go_meet)
          all_goals exact HNX.out
      case rest =>
        obtain ⟨V2, rfl⟩ : ∃ V2, V2 = wc := ⟨_, rfl⟩
        obtain ⟨hb2, hg0', hg2, hr2, ht2⟩ := hcut.out
        clear hcut HALF HR1 HT1 HB1 b2 hg1 d3
        have HB2 := hid hb2
        have HBW : Hid (Below w.heap.size w V2) := HBEL.out.trans (hb2.mono HBEL.out.size)
        obtain ⟨d0, d1, d2, d3⟩ := HD.out
        have HD0 := hid ((hb2.cell (p := ⟨w.heap.size, 0, none⟩) hz1).trans d0)
        have HD1 := hid ((hb2.cell (p := ⟨w.heap.size, 1, none⟩) hz1).trans d1)
        have HD2 := hid ((hb2.cell (p := ⟨w.heap.size, 2, none⟩) hz1).trans d2)
        have HD3 := hid ((hb2.cell (p := ⟨w.heap.size, 3, none⟩) hz1).trans d3)
        have HTR2 := hid (there_below HTR.out hb2 hz0)
        have hzw : w.heap.size + 1 < V2.heap.size := by have := hb2.size; omega
        clear d0 d1 d2 d3 HD
        have hc0 := recA_0 k (pad32 bn) (.slice ac cs.length cc)
        have hc33 := recA_33 k (pad32 bn) (.slice ac cs.length cc) (pad32_length _)
        have HKL := hid (recA_length k (pad32 bn) (.slice ac cs.length cc) (pad32_length _))
        have HKO := hid (recA_one k (pad32 bn) ac cs.length cc)
        have HV := hid (value_any k (pad32 bn) cs (.slice ac cs.length cc))
        obtain ⟨C, hC⟩ : ∃ C, recA k (pad32 bn) (.slice ac cs.length cc) = C := ⟨_, rfl⟩
        rw [hC] at hc0 hc33 HKL HKO HV hr2
        have HC := hid hC
        have HR2 := hid hr2
        have HIC : Hid ((Tryz.prog.info? 56).map (·.size) = some C.length) := by rw [Hid, HKL.out]; exact Tryz.info35
        have hld : ∀ V, Below V2.heap.size V2 V → (Instr.loadAt 56 (.pointer (some ⟨g, 0, none⟩))).run Tryz.prog V = .ok (.agg C.toArray) V := fun V hV => run_loadAt_mid V g 0 56 C _ (rangeAt_below HR2.out hV hg2) Tryz.underlying56 rfl HIC.out
        have hl0 : ∀ V, Below V2.heap.size V2 V → V.cell? ⟨w.heap.size, 0, none⟩ = some (.int .i64 tag) := fun V hV => (hV.cell (p := ⟨w.heap.size, 0, none⟩) (by simp; omega)).trans HD0.out
        have hl1 : ∀ V, Below V2.heap.size V2 V → V.cell? ⟨w.heap.size, 1, none⟩ = some (.int .u64 num) := fun V hV => (hV.cell (p := ⟨w.heap.size, 1, none⟩) (by simp; omega)).trans HD1.out
        have hl2 : ∀ V, Below V2.heap.size V2 V → V.cell? ⟨w.heap.size, 2, none⟩ = some (.slice ab bs.length cb) := fun V hV => (hV.cell (p := ⟨w.heap.size, 2, none⟩) (by simp; omega)).trans HD2.out
        have hl3 : ∀ V, Below V2.heap.size V2 V → V.cell? ⟨w.heap.size, 3, none⟩ = some (.slice (some ⟨bk, ok, none⟩) 3 ck) := fun V hV => (hV.cell (p := ⟨w.heap.size, 3, none⟩) (by simp; omega)).trans HD3.out
        have HCB2 := hid (HCB.out.agree (Agree.below (HBW.out.mono hB)) (Nat.le_refl _) (Nat.le_refl _))
        have HTB : Hid (∀ x ∈ pad32 bn, 0 ≤ x ∧ x ≤ 255) := by
          rw [Hid]
          intro x hx
          obtain ⟨_, _, _, _, _, _, _, h6, _⟩ := HBB.out
          rcases List.mem_append.1 hx with hx | hx
          · exact h6 x (List.mem_of_mem_take hx)
          · rw [(List.mem_replicate.1 hx).2]; omega
        clear hC hr2 hb2
        obtain ⟨okb, hokb⟩ : ∃ okb, (rightB k cs.length && Tlv.sameT 9 t 2 (recT k (pad32 bn) cs)) = okb := ⟨_, rfl⟩
        have HOK := hid hokb
        clear hokb
        go_wp2_with fail
        go_cut [39] (fun c wx => c = .bool (!okb) ∧ Hid (Below V2.heap.size V2 wx))
        case first =>
          cases hrb : rightB k cs.length with
          | false =>
            have HRB := hid hrb
            have HOF : Hid (okb = false) := by rw [Hid, ← HOK.out, hrb]; rfl
            clear hrb
            refine wp_region_held_drew (S := fun V => Below V2.heap.size V2 V) (by kernel_rfl) (Below.refl _ _).drew (fun hHeld => ?_)
            refine wpAnyH_take (i := 0) (oi := { dst := some 30, op := Op.load 56 (Operand.tmp 4), type := 56, pos := "frame.go:110", after := #[], guard := none }) (v := .agg C.toArray) rfl (by kernel_rfl) (by kernel_rfl) (by kernel_rfl) (fun _ _ _ h => h) (yieldsIf_load_mid (by rfl) _ _ rfl g 0 rfl C _ (fun V hV => rangeAt_below HR2.out hV hg2) Tryz.underlying56 rfl HIC.out) hHeld ?_
            simp only [Act.put, List.setIfInBounds_toArray, List.set_cons_zero, List.set_cons_succ]
            refine wpAnyH_ready (rs := [1]) (by kernel_rfl) (by simp) ?_
            refine AllReadyH.cons (o := { dst := some 31, op := Op.call { callee := Callee.value (Operand.func 71), args := #[Operand.tmp 30], argTypes := #[56] }, type := 4, pos := "frame.go:110", after := #[{ on := 0, ground := Ground.data }], guard := none }) rfl (fun K hK => ?_) AllReadyH.nil
            go_simp
            refine (right13_any C k _ _ _ _ hc0 hc33).mono ?_
            rintro e w3 ⟨rfl, hb3⟩
            rw [HRB.out]
            have HK3 : Hid (Below V2.heap.size V2 w3) := (Below.refl _ _).drew.trans hb3
            clear hb3
            go_wp2_with fail
            refine hK.out _ _ (HK3.out) (fun hh => ?_)
            clear hK K hHeld
            have hHeld := hh
            clear hh
            try simp only [Act.put, List.setIfInBounds_toArray, List.set_cons_zero, List.set_cons_succ]
            refine wpAnyH_take (i := 2) (oi := { dst := some 32, op := Op.unOp UnOp.not 4 (Operand.tmp 31), type := 4, pos := "frame.go:110", after := #[{ on := 1, ground := Ground.data }], guard := none }) (v := .bool true) rfl (by kernel_rfl) (by kernel_rfl) (by kernel_rfl) (fun _ _ _ h => h) (Or.inl ⟨by rfl, fun w' hw' => by (clear hw'; go_simp)⟩) hHeld ?_
            simp only [Act.put, List.setIfInBounds_toArray, List.set_cons_zero, List.set_cons_succ]
            refine wpAnyH_take (i := 3) (oi := { dst := some 33, op := Op.move (Operand.tmp 32), type := 4, pos := "frame.go:110", after := #[{ on := 2, ground := Ground.data }, { on := 1, ground := Ground.chain }], guard := none }) (v := .bool true) rfl (by kernel_rfl) (by kernel_rfl) (by kernel_rfl) (fun _ _ _ h => h) (Or.inl ⟨by rfl, fun w' hw' => by (clear hw'; go_simp)⟩) hHeld ?_
            simp only [Act.put, List.setIfInBounds_toArray, List.set_cons_zero, List.set_cons_succ]
            refine wpAnyH_take (i := 4) (oi := { dst := some 34, op := Op.load 156 (Operand.tmp 1), type := 156, pos := "frame.go:110", after := #[{ on := 3, ground := Ground.guard }], guard := some (3, false) }) (v := undef) rfl (by kernel_rfl) (by kernel_rfl) (by kernel_rfl) (fun _ _ _ h => h) (Or.inr ⟨by rfl, rfl⟩) hHeld ?_
            simp only [Act.put, List.setIfInBounds_toArray, List.set_cons_zero, List.set_cons_succ]
            refine wpAnyH_take (i := 5) (oi := { dst := some 35, op := Op.load 56 (Operand.tmp 4), type := 56, pos := "frame.go:110", after := #[{ on := 3, ground := Ground.guard }], guard := some (3, false) }) (v := undef) rfl (by kernel_rfl) (by kernel_rfl) (by kernel_rfl) (fun _ _ _ h => h) (Or.inr ⟨by rfl, rfl⟩) hHeld ?_
            simp only [Act.put, List.setIfInBounds_toArray, List.set_cons_zero, List.set_cons_succ]
            refine wpAnyH_take (i := 6) (oi := { dst := some 36, op := Op.call { callee := Callee.value (Operand.func 73), args := #[Operand.tmp 35], argTypes := #[56] }, type := 156, pos := "frame.go:110", after := #[{ on := 5, ground := Ground.data }, { on := 3, ground := Ground.chain }, { on := 3, ground := Ground.guard }], guard := some (3, false) }) (v := undef) rfl (by kernel_rfl) (by kernel_rfl) (by kernel_rfl) (fun _ _ _ h => h) (Or.inr ⟨by rfl, rfl⟩) hHeld ?_
            simp only [Act.put, List.setIfInBounds_toArray, List.set_cons_zero, List.set_cons_succ]
            refine wpAnyH_take (i := 7) (oi := { dst := some 37, op := Op.call { callee := Callee.value (Operand.func 172), args := #[Operand.tmp 34, Operand.tmp 36], argTypes := #[156, 156] }, type := 4, pos := "frame.go:110", after := #[{ on := 4, ground := Ground.data }, { on := 6, ground := Ground.data }, { on := 6, ground := Ground.chain }, { on := 3, ground := Ground.guard }], guard := some (3, false) }) (v := undef) rfl (by kernel_rfl) (by kernel_rfl) (by kernel_rfl) (fun _ _ _ h => h) (Or.inr ⟨by rfl, rfl⟩) hHeld ?_
            simp only [Act.put, List.setIfInBounds_toArray, List.set_cons_zero, List.set_cons_succ]
            refine wpAnyH_take (i := 8) (oi := { dst := some 38, op := Op.unOp UnOp.not 4 (Operand.tmp 37), type := 4, pos := "frame.go:110", after := #[{ on := 7, ground := Ground.data }, { on := 3, ground := Ground.guard }], guard := some (3, false) }) (v := undef) rfl (by kernel_rfl) (by kernel_rfl) (by kernel_rfl) (fun _ _ _ h => h) (Or.inr ⟨by rfl, rfl⟩) hHeld ?_
            simp only [Act.put, List.setIfInBounds_toArray, List.set_cons_zero, List.set_cons_succ]
            refine wpAnyH_take (i := 9) (oi := { dst := some 39, op := Op.pick (Operand.tmp 33) (Operand.const (Value.bool true)) (Operand.tmp 38), type := 4, pos := "frame.go:110", after := #[{ on := 3, ground := Ground.data }, { on := 8, ground := Ground.data }], guard := none }) (v := .bool true) rfl (by kernel_rfl) (by kernel_rfl) (by kernel_rfl) (fun _ _ _ h => h) (Or.inl ⟨by rfl, fun w' hw' => by (clear hw'; go_simp)⟩) hHeld ?_
            simp only [Act.put, List.setIfInBounds_toArray, List.set_cons_zero, List.set_cons_succ]
            refine wpAnyH_done (by kernel_rfl) ?_ _
            go_wp2_with fail
            go_meet
            exact ⟨by rw [HOF.out]; rfl, HK3.out⟩
          | true =>
            have HRB := hid hrb
            have HOF : Hid (Tlv.sameT 9 t 2 (recT k (pad32 bn) cs) = okb) := by rw [Hid, ← HOK.out, hrb]; rfl
            have hkb : 1 ≤ k ∧ k ≤ 9 := by have h := hrb; simp [rightB] at h; omega
            clear hrb
            have HVV : Hid (∀ V, Below V2.heap.size V2 V → Calls Tryz.prog 73 #[.agg C.toArray] V fun e w' => ∃ a3 l3 p3 a4 l4 p4, e = .returned (.agg #[.int .i64 3, .int .u64 0, .slice a3 l3 p3, .slice a4 l4 p4]) ∧ Tlv.Rep 0 w'.heap.size w' 2 (recT k (pad32 bn) cs) (.slice a3 l3 p3) (.slice a4 l4 p4) ∧ Below V.heap.size V w') := by
              intro V hV
              have hcb := HCB2.out.agree (Agree.below (hV.mono (Nat.le_trans hB HBW.out.size))) (Nat.zero_le _) (Nat.le_trans hB (Nat.le_trans HBW.out.size hV.size))
              refine (HV.out V hkb.1 hkb.2 (pad32_length _) HTB.out hcb).mono ?_
              rintro e w4 ⟨sb, sk, rfl, hr4, hb4⟩
              obtain ⟨a3, l3, p3, a4, l4, p4, rfl, rfl⟩ := hr4.sl
              exact ⟨_, _, _, _, _, _, rfl, hr4.agree (Agree.refl _ _ _) (Nat.zero_le _) (Nat.le_refl _), hb4⟩
            have HSS : Hid (∀ V sb' sk', Below V2.heap.size V2 V → Tlv.Rep 0 V.heap.size V 2 (recT k (pad32 bn) cs) sb' sk' → Calls Tryz.prog 172 #[.agg #[.int .i64 tag, .int .u64 num, .slice ab bs.length cb, .slice (some ⟨bk, ok, none⟩) 3 ck], .agg #[.int .i64 3, .int .u64 0, sb', sk']] V fun e w' => e = .returned (.bool okb) ∧ Below V.heap.size V w') := by
              intro V sb' sk' hV hR
              have h1 := HREP3.out.agree (Agree.below (HBW.out.mono hB)) (Nat.zero_le _) hB
              have h2 := h1.agree (L' := 0) (B' := V.heap.size) (Agree.below (hV.mono HBW.out.size)) (Nat.zero_le _) (Nat.le_trans HBW.out.size hV.size)
              have h3 := Tlv.Same_any t (recT k (pad32 bn) cs) _ _ _ _ V h2 hR (by omega)
              obtain ⟨e0, e1, e2⟩ := HH.out
              rw [e0, e1, HOF.out] at h3
              exact h3
            refine wp_region_held_drew (S := fun V => Below V2.heap.size V2 V) (by kernel_rfl) (Below.refl _ _).drew (fun hHeld => ?_)
            refine wpAnyH_take (i := 0) (oi := { dst := some 30, op := Op.load 56 (Operand.tmp 4), type := 56, pos := "frame.go:110", after := #[], guard := none }) (v := .agg C.toArray) rfl (by kernel_rfl) (by kernel_rfl) (by kernel_rfl) (fun _ _ _ h => h) (yieldsIf_load_mid (by rfl) _ _ rfl g 0 rfl C _ (fun V hV => rangeAt_below HR2.out hV hg2) Tryz.underlying56 rfl HIC.out) hHeld ?_
            simp only [Act.put, List.setIfInBounds_toArray, List.set_cons_zero, List.set_cons_succ]
            refine wpAnyH_ready (rs := [1]) (by kernel_rfl) (by simp) ?_
            refine AllReadyH.cons (o := { dst := some 31, op := Op.call { callee := Callee.value (Operand.func 71), args := #[Operand.tmp 30], argTypes := #[56] }, type := 4, pos := "frame.go:110", after := #[{ on := 0, ground := Ground.data }], guard := none }) rfl (fun K hK => ?_) AllReadyH.nil
            go_simp
            refine (right13_any C k _ _ _ _ hc0 hc33).mono ?_
            rintro e w3 ⟨rfl, hb3⟩
            rw [HRB.out]
            have HK3 : Hid (Below V2.heap.size V2 w3) := (Below.refl _ _).drew.trans hb3
            clear hb3
            go_wp2_with fail
            refine hK.out _ _ (HK3.out) (fun hh => ?_)
            clear hK K hHeld
            have hHeld := hh
            clear hh
            try simp only [Act.put, List.setIfInBounds_toArray, List.set_cons_zero, List.set_cons_succ]
            refine wpAnyH_take (i := 2) (oi := { dst := some 32, op := Op.unOp UnOp.not 4 (Operand.tmp 31), type := 4, pos := "frame.go:110", after := #[{ on := 1, ground := Ground.data }], guard := none }) (v := .bool false) rfl (by kernel_rfl) (by kernel_rfl) (by kernel_rfl) (fun _ _ _ h => h) (Or.inl ⟨by rfl, fun w' hw' => by (clear hw'; go_simp)⟩) hHeld ?_
            simp only [Act.put, List.setIfInBounds_toArray, List.set_cons_zero, List.set_cons_succ]
            refine wpAnyH_take (i := 3) (oi := { dst := some 33, op := Op.move (Operand.tmp 32), type := 4, pos := "frame.go:110", after := #[{ on := 2, ground := Ground.data }, { on := 1, ground := Ground.chain }], guard := none }) (v := .bool false) rfl (by kernel_rfl) (by kernel_rfl) (by kernel_rfl) (fun _ _ _ h => h) (Or.inl ⟨by rfl, fun w' hw' => by (clear hw'; go_simp)⟩) hHeld ?_
            simp only [Act.put, List.setIfInBounds_toArray, List.set_cons_zero, List.set_cons_succ]
            refine wpAnyH_take (i := 4) (oi := { dst := some 34, op := Op.load 156 (Operand.tmp 1), type := 156, pos := "frame.go:110", after := #[{ on := 3, ground := Ground.guard }], guard := some (3, false) }) (v := .agg #[.int .i64 tag, .int .u64 num, .slice ab bs.length cb, .slice (some ⟨bk, ok, none⟩) 3 ck]) rfl (by kernel_rfl) (by kernel_rfl) (by kernel_rfl) (fun _ _ _ h => h) (Or.inl ⟨by rfl, fun w' hw' => by (have q0 := hl0 _ hw'; have q1 := hl1 _ hw'; have q2 := hl2 _ hw'; have q3 := hl3 _ hw'; clear hw'; go_simp)⟩) hHeld ?_
            simp only [Act.put, List.setIfInBounds_toArray, List.set_cons_zero, List.set_cons_succ]
            refine wpAnyH_take (i := 5) (oi := { dst := some 35, op := Op.load 56 (Operand.tmp 4), type := 56, pos := "frame.go:110", after := #[{ on := 3, ground := Ground.guard }], guard := some (3, false) }) (v := .agg C.toArray) rfl (by kernel_rfl) (by kernel_rfl) (by kernel_rfl) (fun _ _ _ h => h) (yieldsIf_load_mid (by rfl) _ _ rfl g 0 rfl C _ (fun V hV => rangeAt_below HR2.out hV hg2) Tryz.underlying56 rfl HIC.out) hHeld ?_
            simp only [Act.put, List.setIfInBounds_toArray, List.set_cons_zero, List.set_cons_succ]
            refine wpAnyH_ready (rs := [6]) (by kernel_rfl) (by simp) ?_
            refine AllReadyH.cons (o := { dst := some 36, op := Op.call { callee := Callee.value (Operand.func 73), args := #[Operand.tmp 35], argTypes := #[56] }, type := 156, pos := "frame.go:110", after := #[{ on := 5, ground := Ground.data }, { on := 3, ground := Ground.chain }, { on := 3, ground := Ground.guard }], guard := some (3, false) }) rfl (fun K hK => ?_) AllReadyH.nil
            go_simp
            refine (HVV.out w3 HK3.out).mono ?_
            rintro e w4 ⟨a3, l3, p3, a4, l4, p4, rfl, hr4, hb4⟩
            have HR4 := hid hr4
            have HK4 : Hid (Below V2.heap.size V2 w4) := HK3.out.trans (hb4.mono HK3.out.size)
            clear hr4 hb4
            go_wp2_with fail
            refine hK.out _ _ (HK4.out) (fun hh => ?_)
            clear hK K hHeld
            have hHeld := hh
            clear hh
            try simp only [Act.put, List.setIfInBounds_toArray, List.set_cons_zero, List.set_cons_succ]
            refine wpAnyH_ready (rs := [7]) (by kernel_rfl) (by simp) ?_
            refine AllReadyH.cons (o := { dst := some 37, op := Op.call { callee := Callee.value (Operand.func 172), args := #[Operand.tmp 34, Operand.tmp 36], argTypes := #[156, 156] }, type := 4, pos := "frame.go:110", after := #[{ on := 4, ground := Ground.data }, { on := 6, ground := Ground.data }, { on := 6, ground := Ground.chain }, { on := 3, ground := Ground.guard }], guard := some (3, false) }) rfl (fun K hK => ?_) AllReadyH.nil
            go_simp
            refine (HSS.out w4 _ _ HK4.out HR4.out).mono ?_
            rintro e w5 ⟨rfl, hb5⟩
            have HK5 : Hid (Below V2.heap.size V2 w5) := HK4.out.trans (hb5.mono HK4.out.size)
            clear hb5
            go_wp2_with fail
            refine hK.out _ _ (HK5.out) (fun hh => ?_)
            clear hK K hHeld
            have hHeld := hh
            clear hh
            try simp only [Act.put, List.setIfInBounds_toArray, List.set_cons_zero, List.set_cons_succ]
            refine wpAnyH_take (i := 8) (oi := { dst := some 38, op := Op.unOp UnOp.not 4 (Operand.tmp 37), type := 4, pos := "frame.go:110", after := #[{ on := 7, ground := Ground.data }, { on := 3, ground := Ground.guard }], guard := some (3, false) }) (v := .bool (!okb)) rfl (by kernel_rfl) (by kernel_rfl) (by kernel_rfl) (fun _ _ _ h => h) (Or.inl ⟨by rfl, fun w' hw' => by (clear hw'; go_simp)⟩) hHeld ?_
            simp only [Act.put, List.setIfInBounds_toArray, List.set_cons_zero, List.set_cons_succ]
            refine wpAnyH_take (i := 9) (oi := { dst := some 39, op := Op.pick (Operand.tmp 33) (Operand.const (Value.bool true)) (Operand.tmp 38), type := 4, pos := "frame.go:110", after := #[{ on := 3, ground := Ground.data }, { on := 8, ground := Ground.data }], guard := none }) (v := .bool (!okb)) rfl (by kernel_rfl) (by kernel_rfl) (by kernel_rfl) (fun _ _ _ h => h) (Or.inl ⟨by rfl, fun w' hw' => by (clear hw'; go_simp)⟩) hHeld ?_
            simp only [Act.put, List.setIfInBounds_toArray, List.set_cons_zero, List.set_cons_succ]
            refine wpAnyH_done (by kernel_rfl) ?_ _
            go_wp2_with fail
            go_meet
            exact ⟨rfl, HK5.out⟩
        case rest =>
          obtain ⟨rfl, HKX⟩ := hcut
          clear hld hl0 hl1 hl2 hl3 HD0 HD1 HD2 HD3 hc0 hc33
          have hzz : V2.heap.size ≤ wc.heap.size := HKX.out.size
          have HTW := hid (there_below HTR2.out HKX.out hzw)
          have HRW := hid (rangeAt_below HR2.out HKX.out hg2)
          have HBF : Hid (Below w.heap.size w wc) := HBW.out.trans (HKX.out.mono HBW.out.size)
          have hz := zero35
          rw [HZ.out] at hz
          cases okb with
          | false =>
            have HN : Hid (recOf t = none) := by
              rw [Hid, HEQ.out, if_neg]
              intro h
              have h1 := HOK.out
              rw [h.1, h.2] at h1
              cases h1
            have HZS : Hid (Z.toArray.size = 34) := by rw [← HZ.out]; rfl
            have HTZ : Hid (wc.there (w.heap.size + 1) 0 Z.toArray.size) := by rw [Hid, HZS.out]; exact HTW.out
            have HI2 : Hid ((Tryz.prog.info? 56).map (·.size) = some Z.toArray.size) := by rw [← HZ.out]; exact Tryz.info35
            have H1 : Hid (Z.toArray.all (·.oneCell') = true) := by rw [← HZ.out]; exact all_oneCell_toArray zRec_one
            go_wp2_with (refine wpList_store_mid (by rfl) 56 _ _ (by rfl) (w.heap.size + 1) 0 Z.toArray (by rfl) (by rfl) HTZ.out HI2.out H1.out ?_)
            have hr : World.rangeAt (wc.setCells (w.heap.size + 1) 0 Z) (w.heap.size + 1) 0 Z := World.rangeAt_setCells_same _ _ _ _ HTZ.out
            refine bodyPost_ret (v := .tuple #[.agg Z.toArray, .bool false]) ?_ rfl ⟨.inl ⟨HN.out, by rw [HZ.out]⟩, ?_⟩
            · exact results_cell_mid2 Tryz.results133 _ _ (w.heap.size + 1) 0 _ _ rfl hr Tryz.underlying56 rfl HI2.out
            · exact HBF.out.trans (setCells_below (by omega) _ _ _)
          | true =>
            have HN : Hid (recOf t = some (k, pad32 bn, cs)) := by
              rw [Hid, HEQ.out, if_pos]
              have h1 := HOK.out
              simpa using h1
            have HCS : Hid (C.toArray.size = 34) := HKL.out
            have HTZ : Hid (wc.there (w.heap.size + 1) 0 C.toArray.size) := by rw [Hid, HCS.out]; exact HTW.out
            have HI2 : Hid ((Tryz.prog.info? 56).map (·.size) = some C.toArray.size) := HIC.out
            have H1 : Hid (C.toArray.all (·.oneCell') = true) := all_oneCell_toArray HKO.out
            go_wp2_with (first
              | (refine wpList_load_mid (by rfl) 56 _ (by rfl) g 0 (by rfl) C _ HRW.out Tryz.underlying56 rfl HIC.out ?_)
              | (refine wpList_store_mid (by rfl) 56 _ _ (by rfl) (w.heap.size + 1) 0 C.toArray (by rfl) (by rfl) HTZ.out HI2.out H1.out ?_))
            have hr : World.rangeAt (wc.setCells (w.heap.size + 1) 0 C) (w.heap.size + 1) 0 C := World.rangeAt_setCells_same _ _ _ _ HTZ.out
            have hbf : Below w.heap.size w (wc.setCells (w.heap.size + 1) 0 C) := HBF.out.trans (setCells_below (by omega) _ _ _)
            refine bodyPost_ret (v := .tuple #[.agg C.toArray, .bool true]) ?_ rfl ⟨.inr ⟨k, pad32 bn, cs, ac, cc, HN.out, by rw [HC.out], ?_, pad32_length _, HTB.out⟩, ?_⟩
            · exact results_cell_mid2 Tryz.results133 _ _ (w.heap.size + 1) 0 _ _ rfl hr Tryz.underlying56 rfl HI2.out
            · exact HCB.out.agree (Agree.below (hbf.mono hB)) (Nat.le_refl _) (Nat.le_refl _)
            · exact hbf
end Go.Proofs.YtaaioaocjfpajaaGreatDoor
end
