/-
  The iterator of a scan: one round's Take, walked by itself.
-/
import Derived.Test.YthbhdbjjobfchaaFrRange
import Derived.Test.YthbhdbjjobfchaaFrScanM
import Derived.Deep.RegionHeld3
namespace Go.Proofs.Ythbhdbjjobfchaa
open Go.RowKit
open Tlv (Tr BySlS AgreeS Agree)
open Crc (hid Kept Tab)

/-- What one Take of a scan leaves: the record in a variable of its own at gr. -/
def Tk (W wx : World) (b gr : Nat) (ar : Option Addr) (cr : Nat) (X : Int × (Int × List Int × List Int) × Nat) : Prop :=
  Kept b W wx ∧ TabX wx b ∧ W.heap.size ≤ gr ∧ gr < wx.heap.size ∧ wx.rangeAt gr 0 (recA X.2.1.1 X.2.1.2.1 (.slice ar X.2.1.2.2.length cr)) ∧
    BySlS (fun x => W.heap.size ≤ x ∧ x < wx.heap.size) wx (.slice ar X.2.1.2.2.length cr) X.2.1.2.2 ∧ (X.2.1.2.1.length = 32 ∧ ∀ y ∈ X.2.1.2.1, 0 ≤ y ∧ y ≤ 255)

theorem tk_a {W w1 : World} {b : Nat} {ar : Option Addr} {cr : Nat} {X : Int × (Int × List Int × List Int) × Nat} {Z : List Value} (hZ : Z.length = 34) (hk : Kept b W w1) (ht : TabX w1 b)
    (hby : BySlS (fun x => W.heap.size ≤ x ∧ x < w1.heap.size) w1 (.slice ar X.2.1.2.2.length cr) X.2.1.2.2) (hn : X.2.1.2.1.length = 32 ∧ ∀ y ∈ X.2.1.2.1, 0 ≤ y ∧ y ≤ 255) :
    Tk W ((w1.alloc (.cells Z.toArray 35)).setCells w1.heap.size 0 (recA X.2.1.1 X.2.1.2.1 (.slice ar X.2.1.2.2.length cr))) b w1.heap.size ar cr X := by
  have hz := hk.size
  have ka : Below w1.heap.size w1 (w1.alloc (.cells Z.toArray 35)) := (Below.refl _ _).alloc (Nat.le_refl _) _
  have hb2 := setCells_below (B := w1.heap.size) (Nat.le_refl _) (w1.alloc (.cells Z.toArray 35)) 0 (recA X.2.1.1 X.2.1.2.1 (.slice ar X.2.1.2.2.length cr))
  have hbb := ka.trans hb2
  refine ⟨hk.trans (Kept.below hbb), ht.below hbb, hz, by rw [setCells_size]; simp, ?_, ?_, hn⟩
  · refine World.rangeAt_setCells_same _ _ _ _ ?_
    have h := there_new w1 Z 35
    rwa [hZ, ← recA_length X.2.1.1 X.2.1.2.1 (.slice ar X.2.1.2.2.length cr) hn.1] at h
  · exact BySlS.mono (BySlS.below hby hbb (fun g hg => hg.2)) (fun g hg => ⟨hg.1, by rw [setCells_size]; simp; omega⟩)

theorem tk_b {W W1 w1 : World} {b : Nat} {ar : Option Addr} {cr : Nat} {X : Int × (Int × List Int × List Int) × Nat} (hb : b < W.heap.size) (h1 : Below W.heap.size W W1) (hs : W1.heap.size = W.heap.size + 1) (hth : W1.there W.heap.size 0 34) (hk : Kept b W1 w1) (ht : TabX w1 b)
    (hby : BySlS (fun x => W1.heap.size ≤ x ∧ x < w1.heap.size) w1 (.slice ar X.2.1.2.2.length cr) X.2.1.2.2) (hn : X.2.1.2.1.length = 32 ∧ ∀ y ∈ X.2.1.2.1, 0 ≤ y ∧ y ≤ 255) :
    Tk W (w1.setCells W.heap.size 0 (recA X.2.1.1 X.2.1.2.1 (.slice ar X.2.1.2.2.length cr))) b W.heap.size ar cr X := by
  have hz := hk.size
  have hb2 := setCells_below (B := W.heap.size) (Nat.le_refl _) w1 0 (recA X.2.1.1 X.2.1.2.1 (.slice ar X.2.1.2.2.length cr))
  have hth1 := there_kept hth hk (by omega) (by omega)
  refine ⟨Kept.then ((Kept.below h1).trans hk) hb2, ht.set (u := W) ⟨Nat.le_refl _, hb⟩, Nat.le_refl _, by rw [setCells_size]; omega, ?_, ?_, hn⟩
  · refine World.rangeAt_setCells_same _ _ _ _ ?_
    rw [recA_length _ _ _ hn.1]
    exact hth1
  · exact hby.agree (fun g hg => setCells_block _ _ _ _ _ (by omega)) (fun g hg => ⟨by omega, by rw [setCells_size]; exact hg.2⟩)

set_option maxHeartbeats 4000000 in
set_option maxRecDepth 100000 in
theorem tell_region {Q : Exit → Act → World → Prop} {u3 u5 u6 u7 u8 u9 u10 u11 u12 u13 u14 u15 u16 u17 u18 u19 u20 u21 u22 u23 u24 u25 u26 u27 u28 u29 u30 u31 u32 u33 u34 u35 : Value} {l p q b g o len cap k : Nat} {W : World} (xs : List Int) (X : Int × (Int × List Int × List Int) × Nat) (hX : takeF (xs.drop k) = X)
    (hk : k < len) (hc : len ≤ cap) (hT : TabX W b) (hp : W.cell? ⟨p, 0, none⟩ = some (.slice (some ⟨g, o, none⟩) len cap)) (hq : W.cell? ⟨q, 0, none⟩ = some (.pointer (some ⟨b, 0, none⟩))) (hpb : p ≠ b) (hqb : q ≠ b)
    (hv : BySlS (fun x => x ≠ b ∧ x < W.heap.size) W (.slice (some ⟨g, o + k, none⟩) (len - k) (cap - k)) (xs.drop k))
    (h : ∀ gr ar cr wx, Tk W wx b gr ar cr X → Q .normal { tmps := List.toArray (.func (.yield l) #[] #[] :: .pointer (some ⟨p, 0, none⟩) :: .pointer (some ⟨q, 0, none⟩) :: u3 :: .int .i64 (k : Int) :: .pointer (some ⟨gr, 0, none⟩) :: .int .i64 (X.2.2 : Nat) :: .int .i64 X.1 :: u8 :: u9 :: u10 :: u11 :: .tuple #[.agg (recA X.2.1.1 X.2.1.2.1 (.slice ar X.2.1.2.2.length cr)).toArray, .int .i64 (X.2.2 : Nat), .int .i64 X.1] :: .pointer (some ⟨b, 0, none⟩) :: .slice (some ⟨g, o, none⟩) len cap :: .int .i64 (k : Int) :: .slice (some ⟨g, o + k, none⟩) (len - k) (cap - k) :: .tuple #[.agg (recA X.2.1.1 X.2.1.2.1 (.slice ar X.2.1.2.2.length cr)).toArray, .int .i64 (X.2.2 : Nat), .int .i64 X.1] :: .agg (recA X.2.1.1 X.2.1.2.1 (.slice ar X.2.1.2.2.length cr)).toArray :: .int .i64 (X.2.2 : Nat) :: .int .i64 X.1 :: u21 :: u22 :: u23 :: u24 :: u25 :: u26 :: u27 :: u28 :: u29 :: u30 :: u31 :: u32 :: u33 :: u34 :: u35 :: []), defers := [] } wx) :
    (Code.region 2 #[{ dst := some 13, op := Op.load 30 (Operand.tmp 2), type := 30, pos := "scan.go:30", after := #[], guard := none }, { dst := some 14, op := Op.load 24 (Operand.tmp 1), type := 24, pos := "scan.go:30", after := #[], guard := none }, { dst := some 15, op := Op.move (Operand.tmp 4), type := 3, pos := "scan.go:30", after := #[], guard := none }, { dst := some 16, op := Op.slice 24 (Operand.tmp 14) (some (Operand.tmp 15)) none none, type := 24, pos := "scan.go:30", after := #[{ on := 1, ground := Ground.data }, { on := 2, ground := Ground.data }], guard := none }, { dst := some 17, op := Op.call { callee := Callee.value (Operand.func 19), args := #[Operand.tmp 13, Operand.tmp 16], argTypes := #[30, 24] }, type := 44, pos := "scan.go:30", after := #[{ on := 0, ground := Ground.data }, { on := 3, ground := Ground.data }], guard := none }, { dst := some 12, op := Op.move (Operand.tmp 17), type := 44, pos := "scan.go:30", after := #[{ on := 4, ground := Ground.data }], guard := none }, { dst := some 18, op := Op.extract (Operand.tmp 12) 0, type := 35, pos := "scan.go:30", after := #[{ on := 5, ground := Ground.data }], guard := none }, { dst := some 19, op := Op.extract (Operand.tmp 12) 1, type := 3, pos := "scan.go:30", after := #[{ on := 5, ground := Ground.data }, { on := 10, ground := Ground.gcOnly Departure.lateStores }], guard := none }, { dst := some 20, op := Op.extract (Operand.tmp 12) 2, type := 32, pos := "scan.go:30", after := #[{ on := 5, ground := Ground.data }, { on := 11, ground := Ground.gcOnly Departure.lateStores }], guard := none }, { dst := some 5, op := Op.alloc 35, type := 0, pos := "scan.go:30", after := #[], guard := none }, { dst := none, op := Op.store 35 (Operand.tmp 5) (Operand.tmp 18), type := 0, pos := "scan.go:30", after := #[{ on := 9, ground := Ground.data }, { on := 6, ground := Ground.data }, { on := 4, ground := Ground.chain }, { on := 0, ground := Ground.phase }, { on := 1, ground := Ground.phase }, { on := 2, ground := Ground.phase }, { on := 3, ground := Ground.phase }, { on := 4, ground := Ground.phase }, { on := 5, ground := Ground.phase }, { on := 6, ground := Ground.phase }, { on := 7, ground := Ground.textOnly Departure.lateStores }, { on := 8, ground := Ground.textOnly Departure.lateStores }, { on := 9, ground := Ground.phase }], guard := none }, { dst := some 6, op := Op.assign (Operand.tmp 19), type := 3, pos := "scan.go:30", after := #[{ on := 7, ground := Ground.data }, { on := 10, ground := Ground.chain }, { on := 0, ground := Ground.phase }, { on := 1, ground := Ground.phase }, { on := 2, ground := Ground.phase }, { on := 3, ground := Ground.phase }, { on := 4, ground := Ground.phase }, { on := 5, ground := Ground.phase }, { on := 6, ground := Ground.phase }, { on := 7, ground := Ground.phase }, { on := 8, ground := Ground.textOnly Departure.lateStores }, { on := 9, ground := Ground.phase }, { on := 10, ground := Ground.phase }], guard := none }, { dst := some 7, op := Op.assign (Operand.tmp 20), type := 32, pos := "scan.go:30", after := #[{ on := 8, ground := Ground.data }, { on := 11, ground := Ground.chain }, { on := 0, ground := Ground.phase }, { on := 1, ground := Ground.phase }, { on := 2, ground := Ground.phase }, { on := 3, ground := Ground.phase }, { on := 4, ground := Ground.phase }, { on := 5, ground := Ground.phase }, { on := 6, ground := Ground.phase }, { on := 7, ground := Ground.phase }, { on := 8, ground := Ground.phase }, { on := 9, ground := Ground.phase }, { on := 10, ground := Ground.phase }, { on := 11, ground := Ground.phase }], guard := none }] true).wp Try.prog Q { tmps := List.toArray (.func (.yield l) #[] #[] :: .pointer (some ⟨p, 0, none⟩) :: .pointer (some ⟨q, 0, none⟩) :: u3 :: .int .i64 (k : Int) :: u5 :: u6 :: u7 :: u8 :: u9 :: u10 :: u11 :: u12 :: u13 :: u14 :: u15 :: u16 :: u17 :: u18 :: u19 :: u20 :: u21 :: u22 :: u23 :: u24 :: u25 :: u26 :: u27 :: u28 :: u29 :: u30 :: u31 :: u32 :: u33 :: u34 :: u35 :: []), defers := [] } W := by
  have hpw := World.block_lt_of_cell? _ _ hp
  have hqw := World.block_lt_of_cell? _ _ hq
  simp only at hpw hqw
  have hbw := hT.lt
  have HV := hid hv
  have HT := hid hT
  have HX := hid hX
  have HH := hid h
  clear hv hT hX h
  have hz := zero35
  obtain ⟨Z, hZ⟩ : ∃ Z, zRec = Z := ⟨_, rfl⟩
  have HZ : Hid (Z.length = 34) := by rw [← hZ]; exact zRec_length
  rw [hZ] at hz
  clear hZ
  have hck : ¬ cap = k := by omega
  have hki : (k : Int) ≤ len := by omega
  have hk0 : (0 : Int) ≤ k := by omega
  have hkc : (k : Int) ≤ cap := by omega
  have HKC : Hid (k ≤ cap) := by rw [Hid]; omega
  refine wp_region_noPanic ?_
  refine wp_region_held_drew (S := fun V => V.cell? ⟨p, 0, none⟩ = some (.slice (some ⟨g, o, none⟩) len cap) ∧ V.cell? ⟨q, 0, none⟩ = some (.pointer (some ⟨b, 0, none⟩))) (by kernel_rfl) ⟨hp, hq⟩ (fun hHeld => ?_)
  refine wpAnyH_take (i := 0) (oi := { dst := some 13, op := Op.load 30 (Operand.tmp 2), type := 30, pos := "scan.go:30", after := #[], guard := none }) (v := .pointer (some ⟨b, 0, none⟩)) rfl (by kernel_rfl) (by kernel_rfl) (by kernel_rfl) (fun _ _ _ h => h) (Or.inl ⟨by rfl, fun w' hw' => by (obtain ⟨c1, c2⟩ := hw'; go_simp)⟩) hHeld ?_
  simp only [Act.put, List.setIfInBounds_toArray, List.set_cons_zero, List.set_cons_succ]
  refine wpAnyH_take (i := 1) (oi := { dst := some 14, op := Op.load 24 (Operand.tmp 1), type := 24, pos := "scan.go:30", after := #[], guard := none }) (v := .slice (some ⟨g, o, none⟩) len cap) rfl (by kernel_rfl) (by kernel_rfl) (by kernel_rfl) (fun _ _ _ h => h) (Or.inl ⟨by rfl, fun w' hw' => by (obtain ⟨c1, c2⟩ := hw'; go_simp)⟩) hHeld ?_
  simp only [Act.put, List.setIfInBounds_toArray, List.set_cons_zero, List.set_cons_succ]
  refine wpAnyH_take (i := 2) (oi := { dst := some 15, op := Op.move (Operand.tmp 4), type := 3, pos := "scan.go:30", after := #[], guard := none }) (v := .int .i64 (k : Int)) rfl (by kernel_rfl) (by kernel_rfl) (by kernel_rfl) (fun _ _ _ h => h) (Or.inl ⟨by rfl, fun w' hw' => by (clear hw'; go_simp)⟩) hHeld ?_
  simp only [Act.put, List.setIfInBounds_toArray, List.set_cons_zero, List.set_cons_succ]
  refine wpAnyH_take (i := 3) (oi := { dst := some 16, op := Op.slice 24 (Operand.tmp 14) (some (Operand.tmp 15)) none none, type := 24, pos := "scan.go:30", after := #[{ on := 1, ground := Ground.data }, { on := 2, ground := Ground.data }], guard := none }) (v := .slice (some ⟨g, o + k, none⟩) (len - k) (cap - k)) rfl (by kernel_rfl) (by kernel_rfl) (by kernel_rfl) (fun _ _ _ h => h) (Or.inl ⟨by rfl, fun w' hw' => by (clear hw'; go_simp)⟩) hHeld ?_
  simp only [Act.put, List.setIfInBounds_toArray, List.set_cons_zero, List.set_cons_succ]
  refine wpAnyH_ready (rs := [4, 9]) (by kernel_rfl) (by simp) ?_
  refine AllReadyH.cons (o := { dst := some 17, op := Op.call { callee := Callee.value (Operand.func 19), args := #[Operand.tmp 13, Operand.tmp 16], argTypes := #[30, 24] }, type := 44, pos := "scan.go:30", after := #[{ on := 0, ground := Ground.data }, { on := 3, ground := Ground.data }], guard := none }) rfl (fun K hK => ?_) (AllReadyH.cons (o := { dst := some 5, op := Op.alloc 35, type := 0, pos := "scan.go:30", after := #[], guard := none }) rfl (fun K hK => ?_) AllReadyH.nil)
  · go_simp
    refine (take_any b _ (xs.drop k) _ (HT.out.below ((Below.refl _ _).drew)) (BySlS.below HV.out ((Below.refl _ _).drew) (fun g hg => hg.2))).mono ?_
    rintro e w1 ⟨ar, cr, rfl, hby, hnx, hk1, ht1⟩
    rw [HX.out] at hby hnx
    rw [HX.out]
    replace hk1 : Kept b W w1 := (Kept.below (Below.refl _ _).drew).trans hk1
    have HTK := hid (tk_a (W := W) (w1 := w1) HZ.out hk1 ht1 hby hnx)
    have HS1 : Hid (w1.cell? ⟨p, 0, none⟩ = some (.slice (some ⟨g, o, none⟩) len cap) ∧ w1.cell? ⟨q, 0, none⟩ = some (.pointer (some ⟨b, 0, none⟩))) := ⟨(hk1.cell (p := ⟨p, 0, none⟩) hpw hpb).trans hp, (hk1.cell (p := ⟨q, 0, none⟩) hqw hqb).trans hq⟩
    have hz1 : W.heap.size ≤ w1.heap.size := hk1.size
    have HCL := hid (recA_length X.2.1.1 X.2.1.2.1 (.slice ar X.2.1.2.2.length cr) hnx.1)
    have HCO := hid (recA_one X.2.1.1 X.2.1.2.1 ar X.2.1.2.2.length cr)
    clear hby hnx hk1 ht1
    go_wp2_with fail
    refine hK.out _ _ HS1.out (fun hh => ?_)
    clear hK K hHeld
    have hHeld := hh
    clear hh
    try simp only [Act.put, List.setIfInBounds_toArray, List.set_cons_zero, List.set_cons_succ]
    refine wpAnyH_take (i := 5) (oi := { dst := some 12, op := Op.move (Operand.tmp 17), type := 44, pos := "scan.go:30", after := #[{ on := 4, ground := Ground.data }], guard := none }) (v := .tuple #[.agg (recA X.2.1.1 X.2.1.2.1 (.slice ar X.2.1.2.2.length cr)).toArray, .int .i64 (X.2.2 : Nat), .int .i64 X.1]) rfl (by kernel_rfl) (by kernel_rfl) (by kernel_rfl) (fun _ _ _ h => h) (Or.inl ⟨by rfl, fun w' hw' => by (clear hw'; go_simp)⟩) hHeld ?_
    simp only [Act.put, List.setIfInBounds_toArray, List.set_cons_zero, List.set_cons_succ]
    refine wpAnyH_take (i := 6) (oi := { dst := some 18, op := Op.extract (Operand.tmp 12) 0, type := 35, pos := "scan.go:30", after := #[{ on := 5, ground := Ground.data }], guard := none }) (v := .agg (recA X.2.1.1 X.2.1.2.1 (.slice ar X.2.1.2.2.length cr)).toArray) rfl (by kernel_rfl) (by kernel_rfl) (by kernel_rfl) (fun _ _ _ h => h) (Or.inl ⟨by rfl, fun w' hw' => by (clear hw'; go_simp)⟩) hHeld ?_
    simp only [Act.put, List.setIfInBounds_toArray, List.set_cons_zero, List.set_cons_succ]
    refine wpAnyH_take (i := 7) (oi := { dst := some 19, op := Op.extract (Operand.tmp 12) 1, type := 3, pos := "scan.go:30", after := #[{ on := 5, ground := Ground.data }, { on := 10, ground := Ground.gcOnly Departure.lateStores }], guard := none }) (v := .int .i64 (X.2.2 : Nat)) rfl (by kernel_rfl) (by kernel_rfl) (by kernel_rfl) (fun _ _ _ h => h) (Or.inl ⟨by rfl, fun w' hw' => by (clear hw'; go_simp)⟩) hHeld ?_
    simp only [Act.put, List.setIfInBounds_toArray, List.set_cons_zero, List.set_cons_succ]
    refine wpAnyH_take (i := 8) (oi := { dst := some 20, op := Op.extract (Operand.tmp 12) 2, type := 32, pos := "scan.go:30", after := #[{ on := 5, ground := Ground.data }, { on := 11, ground := Ground.gcOnly Departure.lateStores }], guard := none }) (v := .int .i64 X.1) rfl (by kernel_rfl) (by kernel_rfl) (by kernel_rfl) (fun _ _ _ h => h) (Or.inl ⟨by rfl, fun w' hw' => by (clear hw'; go_simp)⟩) hHeld ?_
    simp only [Act.put, List.setIfInBounds_toArray, List.set_cons_zero, List.set_cons_succ]
    refine wpAnyH_ready (rs := [9]) (by kernel_rfl) (by simp) ?_
    refine AllReadyH.cons (o := { dst := some 5, op := Op.alloc 35, type := 0, pos := "scan.go:30", after := #[], guard := none }) rfl (fun K hK => ?_) AllReadyH.nil
    go_simp
    have HS2 : Hid ((w1.alloc (.cells Z.toArray 35)).cell? ⟨p, 0, none⟩ = some (.slice (some ⟨g, o, none⟩) len cap) ∧ (w1.alloc (.cells Z.toArray 35)).cell? ⟨q, 0, none⟩ = some (.pointer (some ⟨b, 0, none⟩))) := ⟨(World.cell?_alloc_lt _ _ _ (by simp; omega)).trans HS1.out.1, (World.cell?_alloc_lt _ _ _ (by simp; omega)).trans HS1.out.2⟩
    refine hK.out _ _ HS2.out (fun hh => ?_)
    clear hK K hHeld
    have hHeld := hh
    clear hh
    try simp only [Act.put, List.setIfInBounds_toArray, List.set_cons_zero, List.set_cons_succ]
    obtain ⟨C, hC⟩ : ∃ C, recA X.2.1.1 X.2.1.2.1 (.slice ar X.2.1.2.2.length cr) = C := ⟨_, rfl⟩
    have HTH : Hid (World.there (w1.alloc (.cells Z.toArray 35)) w1.heap.size 0 C.toArray.size) := by
      have h := there_new w1 Z 35
      rw [Hid, show C.toArray.size = 34 by rw [List.size_toArray, ← hC]; exact HCL.out]
      rwa [HZ.out] at h
    have HIC : Hid ((Try.prog.info? 35).map (·.size) = some C.toArray.size) := by rw [Hid, show C.toArray.size = 34 by rw [List.size_toArray, ← hC]; exact HCL.out]; exact Try.info35
    have HOC : Hid (C.toArray.all (·.oneCell') = true) := by rw [← hC]; exact all_oneCell_toArray HCO.out
    have HS3 : Hid (((w1.alloc (.cells Z.toArray 35)).setCells w1.heap.size 0 C).cell? ⟨p, 0, none⟩ = some (.slice (some ⟨g, o, none⟩) len cap) ∧ ((w1.alloc (.cells Z.toArray 35)).setCells w1.heap.size 0 C).cell? ⟨q, 0, none⟩ = some (.pointer (some ⟨b, 0, none⟩))) := ⟨((setCells_below (Nat.le_refl w1.heap.size) _ _ _).cell (p := ⟨p, 0, none⟩) (by simp; omega)).trans HS2.out.1, ((setCells_below (Nat.le_refl w1.heap.size) _ _ _).cell (p := ⟨q, 0, none⟩) (by simp; omega)).trans HS2.out.2⟩
    rw [hC] at HTK
    rw [hC]
    have HC := hid hC
    clear hC
    refine wpAnyH_ready (rs := [10]) (by kernel_rfl) (by simp) ?_
    refine AllReadyH.cons (o := { dst := none, op := Op.store 35 (Operand.tmp 5) (Operand.tmp 18), type := 0, pos := "scan.go:30", after := #[{ on := 9, ground := Ground.data }, { on := 6, ground := Ground.data }, { on := 4, ground := Ground.chain }, { on := 0, ground := Ground.phase }, { on := 1, ground := Ground.phase }, { on := 2, ground := Ground.phase }, { on := 3, ground := Ground.phase }, { on := 4, ground := Ground.phase }, { on := 5, ground := Ground.phase }, { on := 6, ground := Ground.phase }, { on := 7, ground := Ground.textOnly Departure.lateStores }, { on := 8, ground := Ground.textOnly Departure.lateStores }, { on := 9, ground := Ground.phase }], guard := none }) rfl (fun K hK => ?_) AllReadyH.nil
    rw [if_pos (by rfl)]
    refine wp_store_mid 35 _ _ (by rfl) w1.heap.size 0 C.toArray (by rfl) (by rfl) HTH.out HIC.out HOC.out ?_
    refine hK.out _ _ HS3.out (fun hh => ?_)
    clear hK K hHeld
    have hHeld := hh
    clear hh
    refine wpAnyH_take (i := 11) (oi := { dst := some 6, op := Op.assign (Operand.tmp 19), type := 3, pos := "scan.go:30", after := #[{ on := 7, ground := Ground.data }, { on := 10, ground := Ground.chain }, { on := 0, ground := Ground.phase }, { on := 1, ground := Ground.phase }, { on := 2, ground := Ground.phase }, { on := 3, ground := Ground.phase }, { on := 4, ground := Ground.phase }, { on := 5, ground := Ground.phase }, { on := 6, ground := Ground.phase }, { on := 7, ground := Ground.phase }, { on := 8, ground := Ground.textOnly Departure.lateStores }, { on := 9, ground := Ground.phase }, { on := 10, ground := Ground.phase }], guard := none }) (v := .int .i64 (X.2.2 : Nat)) rfl (by kernel_rfl) (by kernel_rfl) (by kernel_rfl) (fun _ _ _ h => h) (Or.inl ⟨by rfl, fun w' hw' => by (clear hw'; go_simp)⟩) hHeld ?_
    simp only [Act.put, List.setIfInBounds_toArray, List.set_cons_zero, List.set_cons_succ]
    refine wpAnyH_take (i := 12) (oi := { dst := some 7, op := Op.assign (Operand.tmp 20), type := 32, pos := "scan.go:30", after := #[{ on := 8, ground := Ground.data }, { on := 11, ground := Ground.chain }, { on := 0, ground := Ground.phase }, { on := 1, ground := Ground.phase }, { on := 2, ground := Ground.phase }, { on := 3, ground := Ground.phase }, { on := 4, ground := Ground.phase }, { on := 5, ground := Ground.phase }, { on := 6, ground := Ground.phase }, { on := 7, ground := Ground.phase }, { on := 8, ground := Ground.phase }, { on := 9, ground := Ground.phase }, { on := 10, ground := Ground.phase }, { on := 11, ground := Ground.phase }], guard := none }) (v := .int .i64 X.1) rfl (by kernel_rfl) (by kernel_rfl) (by kernel_rfl) (fun _ _ _ h => h) (Or.inl ⟨by rfl, fun w' hw' => by (clear hw'; go_simp)⟩) hHeld ?_
    simp only [Act.put, List.setIfInBounds_toArray, List.set_cons_zero, List.set_cons_succ]
    refine wpAnyH_done (by kernel_rfl) ?_ _
    refine NoPanic.normal ?_
    rw [← HC.out] at HTK ⊢
    exact HH.out _ _ _ _ HTK.out
  · go_simp
    obtain ⟨W1, hW1⟩ : ∃ W1, (W.alloc (.cells Z.toArray 35)).drew = W1 := ⟨_, rfl⟩
    have hb1 : Below W.heap.size W W1 := by rw [← hW1]; exact ((Below.refl _ _).alloc (Nat.le_refl _) _).drew
    have hs1 : W1.heap.size = W.heap.size + 1 := by rw [← hW1]; simp
    have HTH1 : Hid (W1.there W.heap.size 0 34) := by
      rw [Hid, ← hW1, World.there_drew]
      have h := there_new W Z 35
      rwa [HZ.out] at h
    rw [hW1]
    clear hW1
    have HB1 := hid hb1
    have HSZ := hid hs1
    have HS1 : Hid (W1.cell? ⟨p, 0, none⟩ = some (.slice (some ⟨g, o, none⟩) len cap) ∧ W1.cell? ⟨q, 0, none⟩ = some (.pointer (some ⟨b, 0, none⟩))) := ⟨(hb1.cell (p := ⟨p, 0, none⟩) hpw).trans hp, (hb1.cell (p := ⟨q, 0, none⟩) hqw).trans hq⟩
    clear hb1 hs1
    refine hK.out _ _ HS1.out (fun hh => ?_)
    clear hK K hHeld
    have hHeld := hh
    clear hh
    try simp only [Act.put, List.setIfInBounds_toArray, List.set_cons_zero, List.set_cons_succ]
    refine wpAnyH_ready (rs := [4]) (by kernel_rfl) (by simp) ?_
    refine AllReadyH.cons (o := { dst := some 17, op := Op.call { callee := Callee.value (Operand.func 19), args := #[Operand.tmp 13, Operand.tmp 16], argTypes := #[30, 24] }, type := 44, pos := "scan.go:30", after := #[{ on := 0, ground := Ground.data }, { on := 3, ground := Ground.data }], guard := none }) rfl (fun K hK => ?_) AllReadyH.nil
    go_simp
    refine (take_any b _ (xs.drop k) _ (HT.out.below HB1.out) (BySlS.mono (BySlS.below HV.out HB1.out (fun g hg => hg.2)) (fun g hg => ⟨hg.1, Nat.lt_of_lt_of_le hg.2 HB1.out.size⟩))).mono ?_
    rintro e w1 ⟨ar, cr, rfl, hby, hnx, hk1, ht1⟩
    rw [HX.out] at hby hnx
    rw [HX.out]
    have HTK := hid (tk_b (W := W) (W1 := W1) (w1 := w1) hbw HB1.out HSZ.out HTH1.out hk1 ht1 hby hnx)
    have HS2 : Hid (w1.cell? ⟨p, 0, none⟩ = some (.slice (some ⟨g, o, none⟩) len cap) ∧ w1.cell? ⟨q, 0, none⟩ = some (.pointer (some ⟨b, 0, none⟩))) := ⟨(hk1.cell (p := ⟨p, 0, none⟩) (Nat.lt_of_lt_of_le hpw HB1.out.size) hpb).trans HS1.out.1, (hk1.cell (p := ⟨q, 0, none⟩) (Nat.lt_of_lt_of_le hqw HB1.out.size) hqb).trans HS1.out.2⟩
    have HTH2 := hid (there_kept HTH1.out hk1 (by have := HSZ.out; omega) (by omega))
    have HCL := hid (recA_length X.2.1.1 X.2.1.2.1 (.slice ar X.2.1.2.2.length cr) hnx.1)
    have HCO := hid (recA_one X.2.1.1 X.2.1.2.1 ar X.2.1.2.2.length cr)
    clear hby hnx hk1 ht1
    go_wp2_with fail
    refine hK.out _ _ HS2.out (fun hh => ?_)
    clear hK K hHeld
    have hHeld := hh
    clear hh
    try simp only [Act.put, List.setIfInBounds_toArray, List.set_cons_zero, List.set_cons_succ]
    refine wpAnyH_take (i := 5) (oi := { dst := some 12, op := Op.move (Operand.tmp 17), type := 44, pos := "scan.go:30", after := #[{ on := 4, ground := Ground.data }], guard := none }) (v := .tuple #[.agg (recA X.2.1.1 X.2.1.2.1 (.slice ar X.2.1.2.2.length cr)).toArray, .int .i64 (X.2.2 : Nat), .int .i64 X.1]) rfl (by kernel_rfl) (by kernel_rfl) (by kernel_rfl) (fun _ _ _ h => h) (Or.inl ⟨by rfl, fun w' hw' => by (clear hw'; go_simp)⟩) hHeld ?_
    simp only [Act.put, List.setIfInBounds_toArray, List.set_cons_zero, List.set_cons_succ]
    refine wpAnyH_take (i := 6) (oi := { dst := some 18, op := Op.extract (Operand.tmp 12) 0, type := 35, pos := "scan.go:30", after := #[{ on := 5, ground := Ground.data }], guard := none }) (v := .agg (recA X.2.1.1 X.2.1.2.1 (.slice ar X.2.1.2.2.length cr)).toArray) rfl (by kernel_rfl) (by kernel_rfl) (by kernel_rfl) (fun _ _ _ h => h) (Or.inl ⟨by rfl, fun w' hw' => by (clear hw'; go_simp)⟩) hHeld ?_
    simp only [Act.put, List.setIfInBounds_toArray, List.set_cons_zero, List.set_cons_succ]
    refine wpAnyH_take (i := 7) (oi := { dst := some 19, op := Op.extract (Operand.tmp 12) 1, type := 3, pos := "scan.go:30", after := #[{ on := 5, ground := Ground.data }, { on := 10, ground := Ground.gcOnly Departure.lateStores }], guard := none }) (v := .int .i64 (X.2.2 : Nat)) rfl (by kernel_rfl) (by kernel_rfl) (by kernel_rfl) (fun _ _ _ h => h) (Or.inl ⟨by rfl, fun w' hw' => by (clear hw'; go_simp)⟩) hHeld ?_
    simp only [Act.put, List.setIfInBounds_toArray, List.set_cons_zero, List.set_cons_succ]
    refine wpAnyH_take (i := 8) (oi := { dst := some 20, op := Op.extract (Operand.tmp 12) 2, type := 32, pos := "scan.go:30", after := #[{ on := 5, ground := Ground.data }, { on := 11, ground := Ground.gcOnly Departure.lateStores }], guard := none }) (v := .int .i64 X.1) rfl (by kernel_rfl) (by kernel_rfl) (by kernel_rfl) (fun _ _ _ h => h) (Or.inl ⟨by rfl, fun w' hw' => by (clear hw'; go_simp)⟩) hHeld ?_
    simp only [Act.put, List.setIfInBounds_toArray, List.set_cons_zero, List.set_cons_succ]
    obtain ⟨C, hC⟩ : ∃ C, recA X.2.1.1 X.2.1.2.1 (.slice ar X.2.1.2.2.length cr) = C := ⟨_, rfl⟩
    have HTH : Hid (w1.there W.heap.size 0 C.toArray.size) := by
      rw [Hid, show C.toArray.size = 34 by rw [List.size_toArray, ← hC]; exact HCL.out]
      exact HTH2.out
    have HIC : Hid ((Try.prog.info? 35).map (·.size) = some C.toArray.size) := by rw [Hid, show C.toArray.size = 34 by rw [List.size_toArray, ← hC]; exact HCL.out]; exact Try.info35
    have HOC : Hid (C.toArray.all (·.oneCell') = true) := by rw [← hC]; exact all_oneCell_toArray HCO.out
    have HS3 : Hid ((w1.setCells W.heap.size 0 C).cell? ⟨p, 0, none⟩ = some (.slice (some ⟨g, o, none⟩) len cap) ∧ (w1.setCells W.heap.size 0 C).cell? ⟨q, 0, none⟩ = some (.pointer (some ⟨b, 0, none⟩))) := ⟨((setCells_below (Nat.le_refl W.heap.size) _ _ _).cell (p := ⟨p, 0, none⟩) hpw).trans HS2.out.1, ((setCells_below (Nat.le_refl W.heap.size) _ _ _).cell (p := ⟨q, 0, none⟩) hqw).trans HS2.out.2⟩
    rw [hC] at HTK
    rw [hC]
    have HC := hid hC
    clear hC
    refine wpAnyH_ready (rs := [10]) (by kernel_rfl) (by simp) ?_
    refine AllReadyH.cons (o := { dst := none, op := Op.store 35 (Operand.tmp 5) (Operand.tmp 18), type := 0, pos := "scan.go:30", after := #[{ on := 9, ground := Ground.data }, { on := 6, ground := Ground.data }, { on := 4, ground := Ground.chain }, { on := 0, ground := Ground.phase }, { on := 1, ground := Ground.phase }, { on := 2, ground := Ground.phase }, { on := 3, ground := Ground.phase }, { on := 4, ground := Ground.phase }, { on := 5, ground := Ground.phase }, { on := 6, ground := Ground.phase }, { on := 7, ground := Ground.textOnly Departure.lateStores }, { on := 8, ground := Ground.textOnly Departure.lateStores }, { on := 9, ground := Ground.phase }], guard := none }) rfl (fun K hK => ?_) AllReadyH.nil
    rw [if_pos (by rfl)]
    refine wp_store_mid 35 _ _ (by rfl) W.heap.size 0 C.toArray (by rfl) (by rfl) HTH.out HIC.out HOC.out ?_
    refine hK.out _ _ HS3.out (fun hh => ?_)
    clear hK K hHeld
    have hHeld := hh
    clear hh
    refine wpAnyH_take (i := 11) (oi := { dst := some 6, op := Op.assign (Operand.tmp 19), type := 3, pos := "scan.go:30", after := #[{ on := 7, ground := Ground.data }, { on := 10, ground := Ground.chain }, { on := 0, ground := Ground.phase }, { on := 1, ground := Ground.phase }, { on := 2, ground := Ground.phase }, { on := 3, ground := Ground.phase }, { on := 4, ground := Ground.phase }, { on := 5, ground := Ground.phase }, { on := 6, ground := Ground.phase }, { on := 7, ground := Ground.phase }, { on := 8, ground := Ground.textOnly Departure.lateStores }, { on := 9, ground := Ground.phase }, { on := 10, ground := Ground.phase }], guard := none }) (v := .int .i64 (X.2.2 : Nat)) rfl (by kernel_rfl) (by kernel_rfl) (by kernel_rfl) (fun _ _ _ h => h) (Or.inl ⟨by rfl, fun w' hw' => by (clear hw'; go_simp)⟩) hHeld ?_
    simp only [Act.put, List.setIfInBounds_toArray, List.set_cons_zero, List.set_cons_succ]
    refine wpAnyH_take (i := 12) (oi := { dst := some 7, op := Op.assign (Operand.tmp 20), type := 32, pos := "scan.go:30", after := #[{ on := 8, ground := Ground.data }, { on := 11, ground := Ground.chain }, { on := 0, ground := Ground.phase }, { on := 1, ground := Ground.phase }, { on := 2, ground := Ground.phase }, { on := 3, ground := Ground.phase }, { on := 4, ground := Ground.phase }, { on := 5, ground := Ground.phase }, { on := 6, ground := Ground.phase }, { on := 7, ground := Ground.phase }, { on := 8, ground := Ground.phase }, { on := 9, ground := Ground.phase }, { on := 10, ground := Ground.phase }, { on := 11, ground := Ground.phase }], guard := none }) (v := .int .i64 X.1) rfl (by kernel_rfl) (by kernel_rfl) (by kernel_rfl) (fun _ _ _ h => h) (Or.inl ⟨by rfl, fun w' hw' => by (clear hw'; go_simp)⟩) hHeld ?_
    simp only [Act.put, List.setIfInBounds_toArray, List.set_cons_zero, List.set_cons_succ]
    refine wpAnyH_done (by kernel_rfl) ?_ _
    refine NoPanic.normal ?_
    rw [← HC.out] at HTK ⊢
    exact HH.out _ _ _ _ HTK.out
end Go.Proofs.Ythbhdbjjobfchaa
