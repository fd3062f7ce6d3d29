/- Of the proof: the texts FrTellR, FrTells, FrScanE, FrAlive, TlvRForm, TlvRefForm, FrRPut, FrLight, FrRow, one behind the other. -/
import Derived.Test.YtaaioaocjfpajaaGreatDoorB8
import Derived.Deep.RegionHeld3
import Derived.RangeFuncBox
import Derived.Test.YtaaioaocjfpajaaGreatDoorB6
import Derived.Test.YtaaioaocjfpajaaGreatDoorB5
import Derived.Deep.LoopGhost
import Derived.Test.YtaaioaocjfpajaaGreatDoorB7
import Derived.Deep.AppendLies
section
/-
  The iterator of a scan: one round's Take, walked by itself.
-/
namespace Go.Proofs.YtaaioaocjfpajaaGreatDoor
open Go.RowKit
open Tlv (Tr BySlS AgreeS Agree)
open Crc (hid Kept Tab)

/-- What one Take of a scan leaves: the record in a variable of its own at gr. -/
def Tk (W wx : World) (b gr : Nat) (ar : Option Addr) (cr : Nat) (X : Int × (Int × List Int × List Int) × Nat) : Prop :=
  Kept b W wx ∧ TabX wx b ∧ W.heap.size ≤ gr ∧ gr < wx.heap.size ∧ wx.rangeAt gr 0 (recA X.2.1.1 X.2.1.2.1 (.slice ar X.2.1.2.2.length cr)) ∧
    BySlS (fun x => W.heap.size ≤ x ∧ x < wx.heap.size) wx (.slice ar X.2.1.2.2.length cr) X.2.1.2.2 ∧ (X.2.1.2.1.length = 32 ∧ ∀ y ∈ X.2.1.2.1, 0 ≤ y ∧ y ≤ 255)

theorem tk_a {W w1 : World} {b : Nat} {ar : Option Addr} {cr : Nat} {X : Int × (Int × List Int × List Int) × Nat} {Z : List Value} (hZ : Z.length = 34) (hk : Kept b W w1) (ht : TabX w1 b)
    (hby : BySlS (fun x => W.heap.size ≤ x ∧ x < w1.heap.size) w1 (.slice ar X.2.1.2.2.length cr) X.2.1.2.2) (hn : X.2.1.2.1.length = 32 ∧ ∀ y ∈ X.2.1.2.1, 0 ≤ y ∧ y ≤ 255) :
    Tk W ((w1.alloc (.cells Z.toArray 56)).setCells w1.heap.size 0 (recA X.2.1.1 X.2.1.2.1 (.slice ar X.2.1.2.2.length cr))) b w1.heap.size ar cr X := by
  have hz := hk.size
  have ka : Below w1.heap.size w1 (w1.alloc (.cells Z.toArray 56)) := (Below.refl _ _).alloc (Nat.le_refl _) _
  have hb2 := setCells_below (B := w1.heap.size) (Nat.le_refl _) (w1.alloc (.cells Z.toArray 56)) 0 (recA X.2.1.1 X.2.1.2.1 (.slice ar X.2.1.2.2.length cr))
  have hbb := ka.trans hb2
  refine ⟨hk.trans (Kept.below hbb), ht.below hbb, hz, by rw [setCells_size]; simp, ?_, ?_, hn⟩
  · refine World.rangeAt_setCells_same _ _ _ _ ?_
    have h := there_new w1 Z 56
    rwa [hZ, ← recA_length X.2.1.1 X.2.1.2.1 (.slice ar X.2.1.2.2.length cr) hn.1] at h
  · exact BySlS.mono (BySlS.below hby hbb (fun g hg => hg.2)) (fun g hg => ⟨hg.1, by rw [setCells_size]; simp; omega⟩)

theorem tk_b {W W1 w1 : World} {b : Nat} {ar : Option Addr} {cr : Nat} {X : Int × (Int × List Int × List Int) × Nat} (hb : b < W.heap.size) (h1 : Below W.heap.size W W1) (hs : W1.heap.size = W.heap.size + 1) (hth : W1.there W.heap.size 0 34) (hk : Kept b W1 w1) (ht : TabX w1 b)
    (hby : BySlS (fun x => W1.heap.size ≤ x ∧ x < w1.heap.size) w1 (.slice ar X.2.1.2.2.length cr) X.2.1.2.2) (hn : X.2.1.2.1.length = 32 ∧ ∀ y ∈ X.2.1.2.1, 0 ≤ y ∧ y ≤ 255) :
    Tk W (w1.setCells W.heap.size 0 (recA X.2.1.1 X.2.1.2.1 (.slice ar X.2.1.2.2.length cr))) b W.heap.size ar cr X := by
  have hz := hk.size
  have hb2 := setCells_below (B := W.heap.size) (Nat.le_refl _) w1 0 (recA X.2.1.1 X.2.1.2.1 (.slice ar X.2.1.2.2.length cr))
  have hth1 := there_kept hth hk (by omega) (by omega)
  refine ⟨Kept.then ((Kept.below h1).trans hk) hb2, ht.set (u := W) ⟨Nat.le_refl _, hb⟩, Nat.le_refl _, by rw [setCells_size]; omega, ?_, ?_, hn⟩
  · refine World.rangeAt_setCells_same _ _ _ _ ?_
    rw [recA_length _ _ _ hn.1]
    exact hth1
  · exact hby.agree (fun g hg => setCells_block _ _ _ _ _ (by omega)) (fun g hg => ⟨by omega, by rw [setCells_size]; exact hg.2⟩)

set_option maxHeartbeats 4000000 in
set_option maxRecDepth 100000 in
theorem tell_region {Q : Exit → Act → World → Prop} {u3 u5 u6 u7 u8 u9 u10 u11 u12 u13 u14 u15 u16 u17 u18 u19 u20 u21 u22 u23 u24 u25 u26 u27 u28 u29 u30 u31 u32 u33 u34 u35 : Value} {l p q b g o len cap k : Nat} {W : World} (xs : List Int) (X : Int × (Int × List Int × List Int) × Nat) (hX : takeF (xs.drop k) = X)
    (hk : k < len) (hc : len ≤ cap) (hT : TabX W b) (hp : W.cell? ⟨p, 0, none⟩ = some (.slice (some ⟨g, o, none⟩) len cap)) (hq : W.cell? ⟨q, 0, none⟩ = some (.pointer (some ⟨b, 0, none⟩))) (hpb : p ≠ b) (hqb : q ≠ b)
    (hv : BySlS (fun x => x ≠ b ∧ x < W.heap.size) W (.slice (some ⟨g, o + k, none⟩) (len - k) (cap - k)) (xs.drop k))
    (h : ∀ gr ar cr wx, Tk W wx b gr ar cr X → Q .normal { tmps := List.toArray (.func (.yield l) #[] #[] :: .pointer (some ⟨p, 0, none⟩) :: .pointer (some ⟨q, 0, none⟩) :: u3 :: .int .i64 (k : Int) :: .pointer (some ⟨gr, 0, none⟩) :: .int .i64 (X.2.2 : Nat) :: .int .i64 X.1 :: u8 :: u9 :: u10 :: u11 :: .tuple #[.agg (recA X.2.1.1 X.2.1.2.1 (.slice ar X.2.1.2.2.length cr)).toArray, .int .i64 (X.2.2 : Nat), .int .i64 X.1] :: .pointer (some ⟨b, 0, none⟩) :: .slice (some ⟨g, o, none⟩) len cap :: .int .i64 (k : Int) :: .slice (some ⟨g, o + k, none⟩) (len - k) (cap - k) :: .tuple #[.agg (recA X.2.1.1 X.2.1.2.1 (.slice ar X.2.1.2.2.length cr)).toArray, .int .i64 (X.2.2 : Nat), .int .i64 X.1] :: .agg (recA X.2.1.1 X.2.1.2.1 (.slice ar X.2.1.2.2.length cr)).toArray :: .int .i64 (X.2.2 : Nat) :: .int .i64 X.1 :: u21 :: u22 :: u23 :: u24 :: u25 :: u26 :: u27 :: u28 :: u29 :: u30 :: u31 :: u32 :: u33 :: u34 :: u35 :: []), defers := [] } wx) :
    (Code.region 2 #[{ dst := some 13, op := Op.load 32 (Operand.tmp 2), type := 32, pos := "scan.go:30", after := #[], guard := none }, { dst := some 14, op := Op.load 54 (Operand.tmp 1), type := 54, pos := "scan.go:30", after := #[], guard := none }, { dst := some 15, op := Op.move (Operand.tmp 4), type := 3, pos := "scan.go:30", after := #[], guard := none }, { dst := some 16, op := Op.slice 54 (Operand.tmp 14) (some (Operand.tmp 15)) none none, type := 54, pos := "scan.go:30", after := #[{ on := 1, ground := Ground.data }, { on := 2, ground := Ground.data }], guard := none }, { dst := some 17, op := Op.call { callee := Callee.value (Operand.func 97), args := #[Operand.tmp 13, Operand.tmp 16], argTypes := #[32, 54] }, type := 186, pos := "scan.go:30", after := #[{ on := 0, ground := Ground.data }, { on := 3, ground := Ground.data }], guard := none }, { dst := some 12, op := Op.move (Operand.tmp 17), type := 186, pos := "scan.go:30", after := #[{ on := 4, ground := Ground.data }], guard := none }, { dst := some 18, op := Op.extract (Operand.tmp 12) 0, type := 56, pos := "scan.go:30", after := #[{ on := 5, ground := Ground.data }], guard := none }, { dst := some 19, op := Op.extract (Operand.tmp 12) 1, type := 3, pos := "scan.go:30", after := #[{ on := 5, ground := Ground.data }, { on := 10, ground := Ground.gcOnly Departure.lateStores }], guard := none }, { dst := some 20, op := Op.extract (Operand.tmp 12) 2, type := 26, pos := "scan.go:30", after := #[{ on := 5, ground := Ground.data }, { on := 11, ground := Ground.gcOnly Departure.lateStores }], guard := none }, { dst := some 5, op := Op.alloc 56, type := 0, pos := "scan.go:30", after := #[], guard := none }, { dst := none, op := Op.store 56 (Operand.tmp 5) (Operand.tmp 18), type := 0, pos := "scan.go:30", after := #[{ on := 9, ground := Ground.data }, { on := 6, ground := Ground.data }, { on := 4, ground := Ground.chain }, { on := 0, ground := Ground.phase }, { on := 1, ground := Ground.phase }, { on := 2, ground := Ground.phase }, { on := 3, ground := Ground.phase }, { on := 4, ground := Ground.phase }, { on := 5, ground := Ground.phase }, { on := 6, ground := Ground.phase }, { on := 7, ground := Ground.textOnly Departure.lateStores }, { on := 8, ground := Ground.textOnly Departure.lateStores }, { on := 9, ground := Ground.phase }], guard := none }, { dst := some 6, op := Op.assign (Operand.tmp 19), type := 3, pos := "scan.go:30", after := #[{ on := 7, ground := Ground.data }, { on := 10, ground := Ground.chain }, { on := 0, ground := Ground.phase }, { on := 1, ground := Ground.phase }, { on := 2, ground := Ground.phase }, { on := 3, ground := Ground.phase }, { on := 4, ground := Ground.phase }, { on := 5, ground := Ground.phase }, { on := 6, ground := Ground.phase }, { on := 7, ground := Ground.phase }, { on := 8, ground := Ground.textOnly Departure.lateStores }, { on := 9, ground := Ground.phase }, { on := 10, ground := Ground.phase }], guard := none }, { dst := some 7, op := Op.assign (Operand.tmp 20), type := 26, pos := "scan.go:30", after := #[{ on := 8, ground := Ground.data }, { on := 11, ground := Ground.chain }, { on := 0, ground := Ground.phase }, { on := 1, ground := Ground.phase }, { on := 2, ground := Ground.phase }, { on := 3, ground := Ground.phase }, { on := 4, ground := Ground.phase }, { on := 5, ground := Ground.phase }, { on := 6, ground := Ground.phase }, { on := 7, ground := Ground.phase }, { on := 8, ground := Ground.phase }, { on := 9, ground := Ground.phase }, { on := 10, ground := Ground.phase }, { on := 11, ground := Ground.phase }], guard := none }] true).wp Tryz.prog Q { tmps := List.toArray (.func (.yield l) #[] #[] :: .pointer (some ⟨p, 0, none⟩) :: .pointer (some ⟨q, 0, none⟩) :: u3 :: .int .i64 (k : Int) :: u5 :: u6 :: u7 :: u8 :: u9 :: u10 :: u11 :: u12 :: u13 :: u14 :: u15 :: u16 :: u17 :: u18 :: u19 :: u20 :: u21 :: u22 :: u23 :: u24 :: u25 :: u26 :: u27 :: u28 :: u29 :: u30 :: u31 :: u32 :: u33 :: u34 :: u35 :: []), defers := [] } W := by
  have hpw := World.block_lt_of_cell? _ _ hp
  have hqw := World.block_lt_of_cell? _ _ hq
  simp only at hpw hqw
  have hbw := hT.lt
  have HV := hid hv
  have HT := hid hT
  have HX := hid hX
  have HH := hid h
  clear hv hT hX h
  have hz := zero35
  obtain ⟨Z, hZ⟩ : ∃ Z, zRec = Z := ⟨_, rfl⟩
  have HZ : Hid (Z.length = 34) := by rw [← hZ]; exact zRec_length
  rw [hZ] at hz
  clear hZ
  have hck : ¬ cap = k := by omega
  have hki : (k : Int) ≤ len := by omega
  have hk0 : (0 : Int) ≤ k := by omega
  have hkc : (k : Int) ≤ cap := by omega
  have HKC : Hid (k ≤ cap) := by rw [Hid]; omega
  refine wp_region_noPanic ?_
  refine wp_region_held_drew (S := fun V => V.cell? ⟨p, 0, none⟩ = some (.slice (some ⟨g, o, none⟩) len cap) ∧ V.cell? ⟨q, 0, none⟩ = some (.pointer (some ⟨b, 0, none⟩))) (by kernel_rfl) ⟨hp, hq⟩ (fun hHeld => ?_)
  refine wpAnyH_take (i := 0) (oi := { dst := some 13, op := Op.load 32 (Operand.tmp 2), type := 32, pos := "scan.go:30", after := #[], guard := none }) (v := .pointer (some ⟨b, 0, none⟩)) rfl (by kernel_rfl) (by kernel_rfl) (by kernel_rfl) (fun _ _ _ h => h) (Or.inl ⟨by rfl, fun w' hw' => by (obtain ⟨c1, c2⟩ := hw'; go_simp)⟩) hHeld ?_
  simp only [Act.put, List.setIfInBounds_toArray, List.set_cons_zero, List.set_cons_succ]
  refine wpAnyH_take (i := 1) (oi := { dst := some 14, op := Op.load 54 (Operand.tmp 1), type := 54, pos := "scan.go:30", after := #[], guard := none }) (v := .slice (some ⟨g, o, none⟩) len cap) rfl (by kernel_rfl) (by kernel_rfl) (by kernel_rfl) (fun _ _ _ h => h) (Or.inl ⟨by rfl, fun w' hw' => by (obtain ⟨c1, c2⟩ := hw'; go_simp)⟩) hHeld ?_
  simp only [Act.put, List.setIfInBounds_toArray, List.set_cons_zero, List.set_cons_succ]
  refine wpAnyH_take (i := 2) (oi := { dst := some 15, op := Op.move (Operand.tmp 4), type := 3, pos := "scan.go:30", after := #[], guard := none }) (v := .int .i64 (k : Int)) rfl (by kernel_rfl) (by kernel_rfl) (by kernel_rfl) (fun _ _ _ h => h) (Or.inl ⟨by rfl, fun w' hw' => by (clear hw'; go_simp)⟩) hHeld ?_
  simp only [Act.put, List.setIfInBounds_toArray, List.set_cons_zero, List.set_cons_succ]
  refine wpAnyH_take (i := 3) (oi := { dst := some 16, op := Op.slice 54 (Operand.tmp 14) (some (Operand.tmp 15)) none none, type := 54, pos := "scan.go:30", after := #[{ on := 1, ground := Ground.data }, { on := 2, ground := Ground.data }], guard := none }) (v := .slice (some ⟨g, o + k, none⟩) (len - k) (cap - k)) rfl (by kernel_rfl) (by kernel_rfl) (by kernel_rfl) (fun _ _ _ h => h) (Or.inl ⟨by rfl, fun w' hw' => by (clear hw'; go_simp)⟩) hHeld ?_
  simp only [Act.put, List.setIfInBounds_toArray, List.set_cons_zero, List.set_cons_succ]
  refine wpAnyH_ready (rs := [4, 9]) (by kernel_rfl) (by simp) ?_
  refine AllReadyH.cons (o := { dst := some 17, op := Op.call { callee := Callee.value (Operand.func 97), args := #[Operand.tmp 13, Operand.tmp 16], argTypes := #[32, 54] }, type := 186, pos := "scan.go:30", after := #[{ on := 0, ground := Ground.data }, { on := 3, ground := Ground.data }], guard := none }) rfl (fun K hK => ?_) (AllReadyH.cons (o := { dst := some 5, op := Op.alloc 56, type := 0, pos := "scan.go:30", after := #[], guard := none }) rfl (fun K hK => ?_) AllReadyH.nil)
  · go_simp
    refine (take_any b _ (xs.drop k) _ (HT.out.below ((Below.refl _ _).drew)) (BySlS.below HV.out ((Below.refl _ _).drew) (fun g hg => hg.2))).mono ?_
    rintro e w1 ⟨ar, cr, rfl, hby, hnx, hk1, ht1⟩
    rw [HX.out] at hby hnx
    rw [HX.out]
    replace hk1 : Kept b W w1 := (Kept.below (Below.refl _ _).drew).trans hk1
    have HTK := hid (tk_a (W := W) (w1 := w1) HZ.out hk1 ht1 hby hnx)
    have HS1 : Hid (w1.cell? ⟨p, 0, none⟩ = some (.slice (some ⟨g, o, none⟩) len cap) ∧ w1.cell? ⟨q, 0, none⟩ = some (.pointer (some ⟨b, 0, none⟩))) := ⟨(hk1.cell (p := ⟨p, 0, none⟩) hpw hpb).trans hp, (hk1.cell (p := ⟨q, 0, none⟩) hqw hqb).trans hq⟩
    have hz1 : W.heap.size ≤ w1.heap.size := hk1.size
    have HCL := hid (recA_length X.2.1.1 X.2.1.2.1 (.slice ar X.2.1.2.2.length cr) hnx.1)
    have HCO := hid (recA_one X.2.1.1 X.2.1.2.1 ar X.2.1.2.2.length cr)
    clear hby hnx hk1 ht1
    go_wp2_with fail
    refine hK.out _ _ HS1.out (fun hh => ?_)
    clear hK K hHeld
    have hHeld := hh
    clear hh
    try simp only [Act.put, List.setIfInBounds_toArray, List.set_cons_zero, List.set_cons_succ]
    refine wpAnyH_take (i := 5) (oi := { dst := some 12, op := Op.move (Operand.tmp 17), type := 186, pos := "scan.go:30", after := #[{ on := 4, ground := Ground.data }], guard := none }) (v := .tuple #[.agg (recA X.2.1.1 X.2.1.2.1 (.slice ar X.2.1.2.2.length cr)).toArray, .int .i64 (X.2.2 : Nat), .int .i64 X.1]) rfl (by kernel_rfl) (by kernel_rfl) (by kernel_rfl) (fun _ _ _ h => h) (Or.inl ⟨by rfl, fun w' hw' => by (clear hw'; go_simp)⟩) hHeld ?_
    simp only [Act.put, List.setIfInBounds_toArray, List.set_cons_zero, List.set_cons_succ]
    refine wpAnyH_take (i := 6) (oi := { dst := some 18, op := Op.extract (Operand.tmp 12) 0, type := 56, pos := "scan.go:30", after := #[{ on := 5, ground := Ground.data }], guard := none }) (v := .agg (recA X.2.1.1 X.2.1.2.1 (.slice ar X.2.1.2.2.length cr)).toArray) rfl (by kernel_rfl) (by kernel_rfl) (by kernel_rfl) (fun _ _ _ h => h) (Or.inl ⟨by rfl, fun w' hw' => by (clear hw'; go_simp)⟩) hHeld ?_
    simp only [Act.put, List.setIfInBounds_toArray, List.set_cons_zero, List.set_cons_succ]
    refine wpAnyH_take (i := 7) (oi := { dst := some 19, op := Op.extract (Operand.tmp 12) 1, type := 3, pos := "scan.go:30", after := #[{ on := 5, ground := Ground.data }, { on := 10, ground := Ground.gcOnly Departure.lateStores }], guard := none }) (v := .int .i64 (X.2.2 : Nat)) rfl (by kernel_rfl) (by kernel_rfl) (by kernel_rfl) (fun _ _ _ h => h) (Or.inl ⟨by rfl, fun w' hw' => by (clear hw'; go_simp)⟩) hHeld ?_
    simp only [Act.put, List.setIfInBounds_toArray, List.set_cons_zero, List.set_cons_succ]
    refine wpAnyH_take (i := 8) (oi := { dst := some 20, op := Op.extract (Operand.tmp 12) 2, type := 26, pos := "scan.go:30", after := #[{ on := 5, ground := Ground.data }, { on := 11, ground := Ground.gcOnly Departure.lateStores }], guard := none }) (v := .int .i64 X.1) rfl (by kernel_rfl) (by kernel_rfl) (by kernel_rfl) (fun _ _ _ h => h) (Or.inl ⟨by rfl, fun w' hw' => by (clear hw'; go_simp)⟩) hHeld ?_
    simp only [Act.put, List.setIfInBounds_toArray, List.set_cons_zero, List.set_cons_succ]
    refine wpAnyH_ready (rs := [9]) (by kernel_rfl) (by simp) ?_
    refine AllReadyH.cons (o := { dst := some 5, op := Op.alloc 56, type := 0, pos := "scan.go:30", after := #[], guard := none }) rfl (fun K hK => ?_) AllReadyH.nil
    go_simp
    have HS2 : Hid ((w1.alloc (.cells Z.toArray 56)).cell? ⟨p, 0, none⟩ = some (.slice (some ⟨g, o, none⟩) len cap) ∧ (w1.alloc (.cells Z.toArray 56)).cell? ⟨q, 0, none⟩ = some (.pointer (some ⟨b, 0, none⟩))) := ⟨(World.cell?_alloc_lt _ _ _ (by simp; omega)).trans HS1.out.1, (World.cell?_alloc_lt _ _ _ (by simp; omega)).trans HS1.out.2⟩
    refine hK.out _ _ HS2.out (fun hh => ?_)
    clear hK K hHeld
    have hHeld := hh
    clear hh
    try simp only [Act.put, List.setIfInBounds_toArray, List.set_cons_zero, List.set_cons_succ]
    obtain ⟨C, hC⟩ : ∃ C, recA X.2.1.1 X.2.1.2.1 (.slice ar X.2.1.2.2.length cr) = C := ⟨_, rfl⟩
    have HTH : Hid (World.there (w1.alloc (.cells Z.toArray 56)) w1.heap.size 0 C.toArray.size) := by
      have h := there_new w1 Z 56
      rw [Hid, show C.toArray.size = 34 by rw [List.size_toArray, ← hC]; exact HCL.out]
      rwa [HZ.out] at h
    have HIC : Hid ((Tryz.prog.info? 56).map (·.size) = some C.toArray.size) := by rw [Hid, show C.toArray.size = 34 by rw [List.size_toArray, ← hC]; exact HCL.out]; exact Tryz.info35
    have HOC : Hid (C.toArray.all (·.oneCell') = true) := by rw [← hC]; exact all_oneCell_toArray HCO.out
    have HS3 : Hid (((w1.alloc (.cells Z.toArray 56)).setCells w1.heap.size 0 C).cell? ⟨p, 0, none⟩ = some (.slice (some ⟨g, o, none⟩) len cap) ∧ ((w1.alloc (.cells Z.toArray 56)).setCells w1.heap.size 0 C).cell? ⟨q, 0, none⟩ = some (.pointer (some ⟨b, 0, none⟩))) := ⟨((setCells_below (Nat.le_refl w1.heap.size) _ _ _).cell (p := ⟨p, 0, none⟩) (by simp; omega)).trans HS2.out.1, ((setCells_below (Nat.le_refl w1.heap.size) _ _ _).cell (p := ⟨q, 0, none⟩) (by simp; omega)).trans HS2.out.2⟩
    rw [hC] at HTK
    rw [hC]
    have HC := hid hC
    clear hC
    refine wpAnyH_ready (rs := [10]) (by kernel_rfl) (by simp) ?_
    refine AllReadyH.cons (o := { dst := none, op := Op.store 56 (Operand.tmp 5) (Operand.tmp 18), type := 0, pos := "scan.go:30", after := #[{ on := 9, ground := Ground.data }, { on := 6, ground := Ground.data }, { on := 4, ground := Ground.chain }, { on := 0, ground := Ground.phase }, { on := 1, ground := Ground.phase }, { on := 2, ground := Ground.phase }, { on := 3, ground := Ground.phase }, { on := 4, ground := Ground.phase }, { on := 5, ground := Ground.phase }, { on := 6, ground := Ground.phase }, { on := 7, ground := Ground.textOnly Departure.lateStores }, { on := 8, ground := Ground.textOnly Departure.lateStores }, { on := 9, ground := Ground.phase }], guard := none }) rfl (fun K hK => ?_) AllReadyH.nil
    rw [if_pos (by rfl)]
    refine wp_store_mid 56 _ _ (by rfl) w1.heap.size 0 C.toArray (by rfl) (by rfl) HTH.out HIC.out HOC.out ?_
    refine hK.out _ _ HS3.out (fun hh => ?_)
    clear hK K hHeld
    have hHeld := hh
    clear hh
    refine wpAnyH_take (i := 11) (oi := { dst := some 6, op := Op.assign (Operand.tmp 19), type := 3, pos := "scan.go:30", after := #[{ on := 7, ground := Ground.data }, { on := 10, ground := Ground.chain }, { on := 0, ground := Ground.phase }, { on := 1, ground := Ground.phase }, { on := 2, ground := Ground.phase }, { on := 3, ground := Ground.phase }, { on := 4, ground := Ground.phase }, { on := 5, ground := Ground.phase }, { on := 6, ground := Ground.phase }, { on := 7, ground := Ground.phase }, { on := 8, ground := Ground.textOnly Departure.lateStores }, { on := 9, ground := Ground.phase }, { on := 10, ground := Ground.phase }], guard := none }) (v := .int .i64 (X.2.2 : Nat)) rfl (by kernel_rfl) (by kernel_rfl) (by kernel_rfl) (fun _ _ _ h => h) (Or.inl ⟨by rfl, fun w' hw' => by (clear hw'; go_simp)⟩) hHeld ?_
    simp only [Act.put, List.setIfInBounds_toArray, List.set_cons_zero, List.set_cons_succ]
    refine wpAnyH_take (i := 12) (oi := { dst := some 7, op := Op.assign (Operand.tmp 20), type := 26, pos := "scan.go:30", after := #[{ on := 8, ground := Ground.data }, { on := 11, ground := Ground.chain }, { on := 0, ground := Ground.phase }, { on := 1, ground := Ground.phase }, { on := 2, ground := Ground.phase }, { on := 3, ground := Ground.phase }, { on := 4, ground := Ground.phase }, { on := 5, ground := Ground.phase }, { on := 6, ground := Ground.phase }, { on := 7, ground := Ground.phase }, { on := 8, ground := Ground.phase }, { on := 9, ground := Ground.phase }, { on := 10, ground := Ground.phase }, { on := 11, ground := Ground.phase }], guard := none }) (v := .int .i64 X.1) rfl (by kernel_rfl) (by kernel_rfl) (by kernel_rfl) (fun _ _ _ h => h) (Or.inl ⟨by rfl, fun w' hw' => by (clear hw'; go_simp)⟩) hHeld ?_
    simp only [Act.put, List.setIfInBounds_toArray, List.set_cons_zero, List.set_cons_succ]
    refine wpAnyH_done (by kernel_rfl) ?_ _
    refine NoPanic.normal ?_
    rw [← HC.out] at HTK ⊢
    exact HH.out _ _ _ _ HTK.out
  · go_simp
    obtain ⟨W1, hW1⟩ : ∃ W1, (W.alloc (.cells Z.toArray 56)).drew = W1 := ⟨_, rfl⟩
    have hb1 : Below W.heap.size W W1 := by rw [← hW1]; exact ((Below.refl _ _).alloc (Nat.le_refl _) _).drew
    have hs1 : W1.heap.size = W.heap.size + 1 := by rw [← hW1]; simp
    have HTH1 : Hid (W1.there W.heap.size 0 34) := by
      rw [Hid, ← hW1, World.there_drew]
      have h := there_new W Z 56
      rwa [HZ.out] at h
    rw [hW1]
    clear hW1
    have HB1 := hid hb1
    have HSZ := hid hs1
    have HS1 : Hid (W1.cell? ⟨p, 0, none⟩ = some (.slice (some ⟨g, o, none⟩) len cap) ∧ W1.cell? ⟨q, 0, none⟩ = some (.pointer (some ⟨b, 0, none⟩))) := ⟨(hb1.cell (p := ⟨p, 0, none⟩) hpw).trans hp, (hb1.cell (p := ⟨q, 0, none⟩) hqw).trans hq⟩
    clear hb1 hs1
    refine hK.out _ _ HS1.out (fun hh => ?_)
    clear hK K hHeld
    have hHeld := hh
    clear hh
    try simp only [Act.put, List.setIfInBounds_toArray, List.set_cons_zero, List.set_cons_succ]
    refine wpAnyH_ready (rs := [4]) (by kernel_rfl) (by simp) ?_
    refine AllReadyH.cons (o := { dst := some 17, op := Op.call { callee := Callee.value (Operand.func 97), args := #[Operand.tmp 13, Operand.tmp 16], argTypes := #[32, 54] }, type := 186, pos := "scan.go:30", after := #[{ on := 0, ground := Ground.data }, { on := 3, ground := Ground.data }], guard := none }) rfl (fun K hK => ?_) AllReadyH.nil
    go_simp
    refine (take_any b _ (xs.drop k) _ (HT.out.below HB1.out) (BySlS.mono (BySlS.below HV.out HB1.out (fun g hg => hg.2)) (fun g hg => ⟨hg.1, Nat.lt_of_lt_of_le hg.2 HB1.out.size⟩))).mono ?_
    rintro e w1 ⟨ar, cr, rfl, hby, hnx, hk1, ht1⟩
    rw [HX.out] at hby hnx
    rw [HX.out]
    have HTK := hid (tk_b (W := W) (W1 := W1) (w1 := w1) hbw HB1.out HSZ.out HTH1.out hk1 ht1 hby hnx)
    have HS2 : Hid (w1.cell? ⟨p, 0, none⟩ = some (.slice (some ⟨g, o, none⟩) len cap) ∧ w1.cell? ⟨q, 0, none⟩ = some (.pointer (some ⟨b, 0, none⟩))) := ⟨(hk1.cell (p := ⟨p, 0, none⟩) (Nat.lt_of_lt_of_le hpw HB1.out.size) hpb).trans HS1.out.1, (hk1.cell (p := ⟨q, 0, none⟩) (Nat.lt_of_lt_of_le hqw HB1.out.size) hqb).trans HS1.out.2⟩
    have HTH2 := hid (there_kept HTH1.out hk1 (by have := HSZ.out; omega) (by omega))
    have HCL := hid (recA_length X.2.1.1 X.2.1.2.1 (.slice ar X.2.1.2.2.length cr) hnx.1)
    have HCO := hid (recA_one X.2.1.1 X.2.1.2.1 ar X.2.1.2.2.length cr)
    clear hby hnx hk1 ht1
    go_wp2_with fail
    refine hK.out _ _ HS2.out (fun hh => ?_)
    clear hK K hHeld
    have hHeld := hh
    clear hh
    try simp only [Act.put, List.setIfInBounds_toArray, List.set_cons_zero, List.set_cons_succ]
    refine wpAnyH_take (i := 5) (oi := { dst := some 12, op := Op.move (Operand.tmp 17), type := 186, pos := "scan.go:30", after := #[{ on := 4, ground := Ground.data }], guard := none }) (v := .tuple #[.agg (recA X.2.1.1 X.2.1.2.1 (.slice ar X.2.1.2.2.length cr)).toArray, .int .i64 (X.2.2 : Nat), .int .i64 X.1]) rfl (by kernel_rfl) (by kernel_rfl) (by kernel_rfl) (fun _ _ _ h => h) (Or.inl ⟨by rfl, fun w' hw' => by (clear hw'; go_simp)⟩) hHeld ?_
    simp only [Act.put, List.setIfInBounds_toArray, List.set_cons_zero, List.set_cons_succ]
    refine wpAnyH_take (i := 6) (oi := { dst := some 18, op := Op.extract (Operand.tmp 12) 0, type := 56, pos := "scan.go:30", after := #[{ on := 5, ground := Ground.data }], guard := none }) (v := .agg (recA X.2.1.1 X.2.1.2.1 (.slice ar X.2.1.2.2.length cr)).toArray) rfl (by kernel_rfl) (by kernel_rfl) (by kernel_rfl) (fun _ _ _ h => h) (Or.inl ⟨by rfl, fun w' hw' => by (clear hw'; go_simp)⟩) hHeld ?_
    simp only [Act.put, List.setIfInBounds_toArray, List.set_cons_zero, List.set_cons_succ]
    refine wpAnyH_take (i := 7) (oi := { dst := some 19, op := Op.extract (Operand.tmp 12) 1, type := 3, pos := "scan.go:30", after := #[{ on := 5, ground := Ground.data }, { on := 10, ground := Ground.gcOnly Departure.lateStores }], guard := none }) (v := .int .i64 (X.2.2 : Nat)) rfl (by kernel_rfl) (by kernel_rfl) (by kernel_rfl) (fun _ _ _ h => h) (Or.inl ⟨by rfl, fun w' hw' => by (clear hw'; go_simp)⟩) hHeld ?_
    simp only [Act.put, List.setIfInBounds_toArray, List.set_cons_zero, List.set_cons_succ]
    refine wpAnyH_take (i := 8) (oi := { dst := some 20, op := Op.extract (Operand.tmp 12) 2, type := 26, pos := "scan.go:30", after := #[{ on := 5, ground := Ground.data }, { on := 11, ground := Ground.gcOnly Departure.lateStores }], guard := none }) (v := .int .i64 X.1) rfl (by kernel_rfl) (by kernel_rfl) (by kernel_rfl) (fun _ _ _ h => h) (Or.inl ⟨by rfl, fun w' hw' => by (clear hw'; go_simp)⟩) hHeld ?_
    simp only [Act.put, List.setIfInBounds_toArray, List.set_cons_zero, List.set_cons_succ]
    obtain ⟨C, hC⟩ : ∃ C, recA X.2.1.1 X.2.1.2.1 (.slice ar X.2.1.2.2.length cr) = C := ⟨_, rfl⟩
    have HTH : Hid (w1.there W.heap.size 0 C.toArray.size) := by
      rw [Hid, show C.toArray.size = 34 by rw [List.size_toArray, ← hC]; exact HCL.out]
      exact HTH2.out
    have HIC : Hid ((Tryz.prog.info? 56).map (·.size) = some C.toArray.size) := by rw [Hid, show C.toArray.size = 34 by rw [List.size_toArray, ← hC]; exact HCL.out]; exact Tryz.info35
    have HOC : Hid (C.toArray.all (·.oneCell') = true) := by rw [← hC]; exact all_oneCell_toArray HCO.out
    have HS3 : Hid ((w1.setCells W.heap.size 0 C).cell? ⟨p, 0, none⟩ = some (.slice (some ⟨g, o, none⟩) len cap) ∧ (w1.setCells W.heap.size 0 C).cell? ⟨q, 0, none⟩ = some (.pointer (some ⟨b, 0, none⟩))) := ⟨((setCells_below (Nat.le_refl W.heap.size) _ _ _).cell (p := ⟨p, 0, none⟩) hpw).trans HS2.out.1, ((setCells_below (Nat.le_refl W.heap.size) _ _ _).cell (p := ⟨q, 0, none⟩) hqw).trans HS2.out.2⟩
    rw [hC] at HTK
    rw [hC]
    have HC := hid hC
    clear hC
    refine wpAnyH_ready (rs := [10]) (by kernel_rfl) (by simp) ?_
    refine AllReadyH.cons (o := { dst := none, op := Op.store 56 (Operand.tmp 5) (Operand.tmp 18), type := 0, pos := "scan.go:30", after := #[{ on := 9, ground := Ground.data }, { on := 6, ground := Ground.data }, { on := 4, ground := Ground.chain }, { on := 0, ground := Ground.phase }, { on := 1, ground := Ground.phase }, { on := 2, ground := Ground.phase }, { on := 3, ground := Ground.phase }, { on := 4, ground := Ground.phase }, { on := 5, ground := Ground.phase }, { on := 6, ground := Ground.phase }, { on := 7, ground := Ground.textOnly Departure.lateStores }, { on := 8, ground := Ground.textOnly Departure.lateStores }, { on := 9, ground := Ground.phase }], guard := none }) rfl (fun K hK => ?_) AllReadyH.nil
    rw [if_pos (by rfl)]
    refine wp_store_mid 56 _ _ (by rfl) W.heap.size 0 C.toArray (by rfl) (by rfl) HTH.out HIC.out HOC.out ?_
    refine hK.out _ _ HS3.out (fun hh => ?_)
    clear hK K hHeld
    have hHeld := hh
    clear hh
    refine wpAnyH_take (i := 11) (oi := { dst := some 6, op := Op.assign (Operand.tmp 19), type := 3, pos := "scan.go:30", after := #[{ on := 7, ground := Ground.data }, { on := 10, ground := Ground.chain }, { on := 0, ground := Ground.phase }, { on := 1, ground := Ground.phase }, { on := 2, ground := Ground.phase }, { on := 3, ground := Ground.phase }, { on := 4, ground := Ground.phase }, { on := 5, ground := Ground.phase }, { on := 6, ground := Ground.phase }, { on := 7, ground := Ground.phase }, { on := 8, ground := Ground.textOnly Departure.lateStores }, { on := 9, ground := Ground.phase }, { on := 10, ground := Ground.phase }], guard := none }) (v := .int .i64 (X.2.2 : Nat)) rfl (by kernel_rfl) (by kernel_rfl) (by kernel_rfl) (fun _ _ _ h => h) (Or.inl ⟨by rfl, fun w' hw' => by (clear hw'; go_simp)⟩) hHeld ?_
    simp only [Act.put, List.setIfInBounds_toArray, List.set_cons_zero, List.set_cons_succ]
    refine wpAnyH_take (i := 12) (oi := { dst := some 7, op := Op.assign (Operand.tmp 20), type := 26, pos := "scan.go:30", after := #[{ on := 8, ground := Ground.data }, { on := 11, ground := Ground.chain }, { on := 0, ground := Ground.phase }, { on := 1, ground := Ground.phase }, { on := 2, ground := Ground.phase }, { on := 3, ground := Ground.phase }, { on := 4, ground := Ground.phase }, { on := 5, ground := Ground.phase }, { on := 6, ground := Ground.phase }, { on := 7, ground := Ground.phase }, { on := 8, ground := Ground.phase }, { on := 9, ground := Ground.phase }, { on := 10, ground := Ground.phase }, { on := 11, ground := Ground.phase }], guard := none }) (v := .int .i64 X.1) rfl (by kernel_rfl) (by kernel_rfl) (by kernel_rfl) (fun _ _ _ h => h) (Or.inl ⟨by rfl, fun w' hw' => by (clear hw'; go_simp)⟩) hHeld ?_
    simp only [Act.put, List.setIfInBounds_toArray, List.set_cons_zero, List.set_cons_succ]
    refine wpAnyH_done (by kernel_rfl) ?_ _
    refine NoPanic.normal ?_
    rw [← HC.out] at HTK ⊢
    exact HH.out _ _ _ _ HTK.out
end Go.Proofs.YtaaioaocjfpajaaGreatDoor
end

section
/-
  What the iterator of a scan tells, round by round.
-/
namespace Go.Proofs.YtaaioaocjfpajaaGreatDoor
open Go.RowKit Go.Shelf
open Tlv (Tr BySlS AgreeS Agree)
open Crc (hid Kept Tab)
attribute [local go_sem] Oper.semAt_some

theorem wpListIn_val {F : Fence} {n : Nat} {P : Program} {ops : Array Oper} {rest : List Oper} {o : Oper} {a : Act} {Q : Exit → Act → World → Prop} {w w' : World} {v : Value} (hgd : o.guard = none) (hd : ∀ c, o.op ≠ .defer c) (hF : ∀ f, F.fn f)
    (hr : (execOp a.eval o).run P w = .ok (.value v) w') (h : wpListIn F n P ops Q rest (a.put o.dst v) w') : wpListIn F n P ops Q (o :: rest) a w := by
  unfold wpListIn
  rw [if_pos (by simp [Region.wanted, hgd])]
  refine ⟨fun f _ => hF f, ?_⟩
  rw [Oper.semAt_eq _ _ _ hd, hr]
  exact h
theorem wpListIn_skip {F : Fence} {n : Nat} {P : Program} {ops : Array Oper} {rest : List Oper} {o : Oper} {a : Act} {Q : Exit → Act → World → Prop} {w w' : World} (hgd : o.guard = none) (hd : ∀ c, o.op ≠ .defer c) (hF : ∀ f, F.fn f)
    (hr : (execOp a.eval o).run P w = .ok .skip w') (h : wpListIn F n P ops Q rest (a.put o.dst undef) w') : wpListIn F n P ops Q (o :: rest) a w := by
  unfold wpListIn
  rw [if_pos (by simp [Region.wanted, hgd])]
  refine ⟨fun f _ => hF f, ?_⟩
  rw [Oper.semAt_eq _ _ _ hd, hr]
  exact h

theorem exec_load {P : Program} {o : Oper} {a : Act} {w : World} (ty : TypeId) (x : Operand) (ho : o.op = .load ty x) (b off : Nat) (hx : a.eval x = .pointer (some ⟨b, off, none⟩)) (cs : List Value) (d : TypeDesc) (hc : w.rangeAt b off cs)
    (hu : P.underlying ty = some d) (hd : d.isRow = true) (hi : (P.info? ty).map (·.size) = some cs.length) : (execOp a.eval o).run P w = .ok (.value (.agg cs.toArray)) w := by
  unfold execOp
  simp only [ho, hx, Instr.loadAt, Instr.sureAddr, Sem.run_bind, Sem.run_pure, Result.andThen_ok, run_loadVar_mid w b off ty cs d hc hu hd hi]
theorem exec_store {P : Program} {o : Oper} {a : Act} {w : World} (ty : TypeId) (x y : Operand) (ho : o.op = .store ty x y) (b off : Nat) (cells : Array Value) (hx : a.eval x = .pointer (some ⟨b, off, none⟩)) (hy : a.eval y = .agg cells)
    (ht : w.there b off cells.size) (hi : (P.info? ty).map (·.size) = some cells.size) (h1 : cells.all (·.oneCell') = true) : (execOp a.eval o).run P w = .ok .skip (w.setCells b off cells.toList) := by
  unfold execOp
  simp only [ho, hx, hy, Instr.storeAt, Instr.sureAddr, Sem.run_bind, Sem.run_pure, Result.andThen_ok, run_storeVar_mid w b off ty cells ht hi h1]
theorem exec_build3 {P : Program} {o : Oper} {a : Act} {w : World} (ty : TypeId) (x y z : Operand) (ho : o.op = .build ty #[(0, x), (1, y), (2, z)]) (vx vy vz : Value) (hx : a.eval x = vx) (hy : a.eval y = vy) (hz : a.eval z = vz) (C : Array Value)
    (hb : P.built ty [(0, vx), (1, vy), (2, vz)] = some C) : (execOp a.eval o).run P w = .ok (.value (.agg C)) w := by
  have e : P.built ty ((#[(0, x), (1, y), (2, z)] : Array (Nat × Operand)).map fun (i, x) => (i, a.eval x)).toList = some C := by
    rw [← hb]
    simp only [List.map_toArray, List.map_cons, List.map_nil, hx, hy, hz]
  unfold execOp
  simp only [ho, Sem.run_bind, run_build w ty _ C e, Result.andThen_ok]
  rfl

/-- A placed record's cells. -/
def placedA (p n : Nat) (C : List Value) : List Value := .int .i64 (p : Int) :: .int .i64 (n : Int) :: C
theorem built62 (p n : Nat) (k : Int) (nm : List Int) (h : nm.length = 32) (a : Option Addr) (l c : Nat) : Tryz.prog.built 60 [(0, .int .i64 (p : Int)), (1, .int .i64 (n : Int)), (2, .agg (recA k nm (.slice a l c)).toArray)] = some (placedA p n (recA k nm (.slice a l c))).toArray := by
  obtain ⟨x0, x1, x2, x3, x4, x5, x6, x7, x8, x9, x10, x11, x12, x13, x14, x15, x16, x17, x18, x19, x20, x21, x22, x23, x24, x25, x26, x27, x28, x29, x30, x31, rfl⟩ := ex32 h
  kernel_rfl

theorem BySlS.putl {B : Nat} {S : Nat → Prop} {U W : World} {v : Value} {xs : List Int} (h : BySlS S U v xs) (k : Putl B U W) : BySlS S W v xs := by
  obtain ⟨a, cap, h1, h2, h3, h4, h5, h6, h7⟩ := h
  refine ⟨a, cap, h1, h2, h3, h4, h5, h6, fun hne => ?_⟩
  obtain ⟨g, o, e, hS, hc⟩ := h7 hne
  exact ⟨g, o, e, hS, fun i hi => k.cell (hc i hi)⟩

/-- The iterator's world: the table at b; the bytes; both below B; the two boxes that it has taken along, at p and q. -/
def Ts (B b p q : Nat) (v : Value) (xs : List Int) (W : World) : Prop :=
  (B ≤ W.heap.size ∧ b < B ∧ p < B ∧ q < B ∧ p ≠ b ∧ q ≠ b) ∧ TabX W b ∧ BySlS (fun x => x ≠ b ∧ x < B) W v xs ∧ W.cell? ⟨p, 0, none⟩ = some v ∧ W.cell? ⟨q, 0, none⟩ = some (.pointer (some ⟨b, 0, none⟩))

theorem tabX_below {B b : Nat} {w w' : World} (h : TabX w b) (k : Below B w w') (hb : b < B) : TabX w' b := by
  obtain ⟨f, n, hf, h1, h2, h3, h4, h5, h6, h7⟩ := h
  have c : ∀ j, w'.cell? ⟨b, j, none⟩ = w.cell? ⟨b, j, none⟩ := fun j => k.cell (p := ⟨b, j, none⟩) hb
  refine ⟨f, n, hf, Nat.lt_of_lt_of_le h1 k.size, (c _).trans h2, (c _).trans h3, (c _).trans h4, fun j hj => ?_, fun e j hj => (c _).trans (h6 e j hj), fun j => (k.frozen (p := ⟨b, j, none⟩) hb).trans (h7 j)⟩
  obtain ⟨x, hx⟩ := h5 j hj
  exact ⟨x, (c _).trans hx⟩

theorem Ts.below {B b p q : Nat} {v : Value} {xs : List Int} {U V : World} (h : Ts B b p q v xs U) (k : Below B U V) : Ts B b p q v xs V := by
  obtain ⟨⟨h1, h2, h3, h4, h5, h6⟩, ht, hv, hp, hq⟩ := h
  exact ⟨⟨Nat.le_trans h1 k.size, h2, h3, h4, h5, h6⟩, tabX_below ht k h2, BySlS.below hv k (fun g hg => hg.2), (k.cell (p := ⟨p, 0, none⟩) h3).trans hp, (k.cell (p := ⟨q, 0, none⟩) h4).trans hq⟩
theorem Ts.took {B b p q : Nat} {v : Value} {xs : List Int} {U V : World} (h : Ts B b p q v xs U) (k : Kept b U V) (t : TabX V b) : Ts B b p q v xs V := by
  obtain ⟨⟨h1, h2, h3, h4, h5, h6⟩, _, hv, hp, hq⟩ := h
  exact ⟨⟨Nat.le_trans h1 k.size, h2, h3, h4, h5, h6⟩, t, BySlS.kept hv k (fun g hg => ⟨hg.1, by omega⟩), (k.cell (p := ⟨p, 0, none⟩) (by simp; omega) h5).trans hp, (k.cell (p := ⟨q, 0, none⟩) (by simp; omega) h6).trans hq⟩

/-- The values of round k. -/
def Vs (b : Nat) (xs : List Int) (k m : Nat) (vs : Array Value) (U : World) : Prop :=
  ∃ (x : Item) (a : Option Addr) (c : Nat), (tl xs 0)[k]? = some x ∧ vs = #[.agg (placedA x.1 x.2.2.2 (recA x.2.2.1.1 x.2.2.1.2.1 (.slice a x.2.2.1.2.2.length c))).toArray, .int .i64 x.2.1] ∧
    BySlS (fun g => m ≤ g ∧ g ≠ b ∧ g < U.heap.size) U (.slice a x.2.2.1.2.2.length c) x.2.2.1.2.2 ∧ (x.2.2.1.2.1.length = 32 ∧ ∀ y ∈ x.2.2.1.2.1, 0 ≤ y ∧ y ≤ 255)

theorem wide_d {n : Nat} : Fence.wide.depth.isSome = true → 1 ≤ n := fun h => by simp [Fence.wide] at h

theorem bySlS_drop {S : Nat → Prop} {w : World} {b o cap E : Nat} {xs : List Int} (h : BySlS S w (.slice (some ⟨b, o, none⟩) xs.length cap) xs) (hE : E < xs.length) : BySlS S w (.slice (some ⟨b, o + E, none⟩) (xs.length - E) (cap - E)) (xs.drop E) := by
  obtain ⟨a', cap', e, h2, h3, h4, h5, h6, h7⟩ := h
  simp only [Value.slice.injEq, true_and] at e
  obtain ⟨rfl, rfl⟩ := e
  have hl : (xs.drop E).length = xs.length - E := List.length_drop
  refine ⟨_, cap - E, by rw [hl], by rw [hl]; omega, by unfold maxLen at *; omega, by simp, by rw [hl]; omega, fun x hx => h6 x (List.mem_of_mem_drop hx), fun _ => ?_⟩
  obtain ⟨b', o', e, hS, hc⟩ := h7 (by intro e; subst e; simp at hE)
  simp only [Option.some.injEq, Addr.mk.injEq, and_true] at e
  obtain ⟨rfl, rfl⟩ := e
  refine ⟨b, o + E, rfl, hS, fun i hi => ?_⟩
  rw [hl] at hi
  rw [Nat.add_assoc, hc (E + i) (by omega)]
  simp

set_option maxHeartbeats 4000000 in
set_option maxRecDepth 100000 in
theorem tells_frames (n B b p q : Nat) (v : Value) (xs : List Int) :
    Tells n 127 #[.pointer (some ⟨p, 0, none⟩), .pointer (some ⟨q, 0, none⟩)] b (Ts B b p q v xs) (Vs b xs) (tl xs 0).length := by
  intro l J Jx W hT hJ hY h0
  obtain ⟨_, _, hv0, _, _⟩ := id hT
  obtain ⟨a0, cap, rfl, hcap, hmax, _, h47, _, _⟩ := id hv0
  have HT := hid hT
  have HJ := hid hJ
  have HY := hid hY
  have H0 := hid h0
  unfold maxLen at hmax
  clear hT hJ hY h0 hv0
  obtain ⟨_, _, _, hp0, _⟩ := HT.out
  obtain ⟨_, _, _, _, hq0⟩ := HT.out
  refine callsIn_of_wp Tryz.func127 rfl trivial ?_ rfl
  simp only [Tryz.ntmps127, List.size_toArray, List.length_cons, List.length_nil, Nat.reduceAdd, Nat.reduceSub, Array.replicate_succ, Array.replicate_zero, List.push_toArray, List.append_toArray, List.nil_append, List.cons_append]
  gi_wp2_with fail
  clear hp0 hq0
  gi_loopw [4] (fun i wr => ∃ k P : Nat, P ≤ xs.length ∧ i = .int .i64 P ∧ Hid ((tl xs 0).drop k = tl xs P ∧ k ≤ (tl xs 0).length) ∧ Hid (∃ m, m ≤ wr.heap.size ∧ J k m wr) ∧ Hid (Ts B b p q (.slice a0 xs.length cap) xs wr)) (fun i _ => xs.length - (intOf i).toNat)
  case atStart => exact ⟨0, 0, Nat.zero_le _, rfl, ⟨rfl, Nat.zero_le _⟩, ⟨_, Nat.le_refl _, H0.out⟩, HT⟩
  case round =>
    obtain ⟨k, P, hP, rfl, HD, HJk, HTk⟩ := hrel
    obtain ⟨⟨hB1, hB2, hB3, hB4, hB5, hB6⟩, htab, hv, hp, hq⟩ := HTk.out
    by_cases hlt : P < xs.length
    · obtain ⟨a', cap', ev, _, _, _, _, _, h7⟩ := id hv
      simp only [Value.slice.injEq, true_and] at ev
      obtain ⟨rfl, rfl⟩ := ev
      obtain ⟨g, o, rfl, hgb, _⟩ := h7 (by intro e; subst e; simp at hlt)
      obtain ⟨L, hL, hLc⟩ := tl_head hlt
      have hkN : k < (tl xs 0).length := by
        have h := congrArg List.length HD.out.1
        rw [hL, List.length_drop, List.length_cons] at h
        omega
      have HAT : Hid ((tl xs 0)[k]? = some (P, takeF (xs.drop P))) := by
        have h := congrArg (fun l : List Item => l[0]?) HD.out.1
        rw [hL] at h
        rw [Hid]
        simpa using h
      have HDR : Hid ((tl xs 0).drop (k + 1) = L) := by
        have h := congrArg (fun l : List Item => l.drop 1) HD.out.1
        rw [hL] at h
        rw [Hid]
        simpa [List.drop_drop, Nat.add_comm] using h
      have HLC := hid hLc
      have HKN : Hid (k + 1 ≤ (tl xs 0).length) := hkN
      have HVV : Hid (BySlS (fun x => x ≠ b ∧ x < wr.heap.size) wr (.slice (some ⟨g, o + P, none⟩) (xs.length - P) (cap - P)) (xs.drop P)) := BySlS.mono (bySlS_drop hv hlt) (fun g hg => ⟨hg.1, Nat.lt_of_lt_of_le hg.2 hB1⟩)
      have HTAB := hid htab
      have hPi : (P : Int) < (xs.length : Int) := by omega
      clear hv h7 htab hL hLc
      gi_wp2_with fail
      refine wpIn_wide.2 (tell_region xs (takeF (xs.drop P)) rfl hlt hcap HTAB.out hp hq hB5 hB6 HVV.out (fun gr ar cr wx hTk => ?_))
      obtain ⟨X, hX⟩ : ∃ X, takeF (xs.drop P) = X := ⟨_, rfl⟩
      have HP0 : Hid (X.1 = 0 → 4 ≤ X.2.2 ∧ X.2.2 ≤ xs.length - P) := by
        rw [Hid, ← hX]
        intro h
        have h1 := takeF_pos h
        rw [List.length_drop] at h1
        exact h1
      rw [hX] at hTk HAT HLC
      rw [hX]
      clear hX
      obtain ⟨hk1, ht1, hg0, hg1, hrg, hby, hnx⟩ := hTk
      have HT2 := hid (HTk.out.took hk1 ht1)
      obtain ⟨m, hmw, hJm⟩ := HJk.out
      have HJ2 := hid (HJ.out k m _ _ hJm HT2.out hk1)
      have hmx : m ≤ wx.heap.size := Nat.le_trans hmw hk1.size
      have HVS : Hid (Vs b xs k m #[.agg (placedA P X.2.2 (recA X.2.1.1 X.2.1.2.1 (.slice ar X.2.1.2.2.length cr))).toArray, .int .i64 X.1] wx) :=
        ⟨(P, X), ar, cr, HAT.out, rfl, BySlS.mono hby (fun g hg => ⟨by omega, by omega, hg.2⟩), hnx⟩
      have HBU := hid (built62 P X.2.2 X.2.1.1 X.2.1.2.1 hnx.1 ar X.2.1.2.2.length cr)
      have HCL := hid (recA_length X.2.1.1 X.2.1.2.1 (.slice ar X.2.1.2.2.length cr) hnx.1)
      have HRG := hid hrg
      obtain ⟨fn, tmps, assign, body, hy, hR⟩ := HY.out k m wx _ hkN hmx HJ2.out HT2.out HVS.out
      obtain ⟨C, hC⟩ : ∃ C, recA X.2.1.1 X.2.1.2.1 (.slice ar X.2.1.2.2.length cr) = C := ⟨_, rfl⟩
      rw [hC] at HBU HCL HRG hy
      rw [hC]
      have HIC : Hid ((Tryz.prog.info? 56).map (·.size) = some C.length) := by rw [Hid, HCL.out]; exact Tryz.info35
      generalize hPA : placedA P X.2.2 C = PA at *
      have HR := hid hR
      generalize hf : X.1 = f at *
      generalize hn : X.2.2 = N at *
      have HF := hid (And.intro hf hn)
      clear hf hn hPA hC hk1 ht1 hby hnx hrg hp hq hR HVS HVV hJm hmw hmx
      gi_wp2_with (first
        | (refine wpListIn_val (by rfl) (fun _ h => by cases h) (fun _ => trivial) (exec_load 56 _ (by rfl) gr 0 (by rfl) C _ HRG.out Tryz.underlying56 rfl HIC.out) ?_)
        | (refine wpListIn_val (by rfl) (fun _ h => by cases h) (fun _ => trivial) (exec_build3 60 _ _ _ (by rfl) _ _ _ (by rfl) (by rfl) (by rfl) PA.toArray HBU.out) ?_))
      refine ⟨wide_d, HR.out.mono ?_⟩
      rintro e W3 (⟨rfl, hJ3, hT3⟩ | ⟨rfl, hJx3⟩)
      · have HJ3 := hid hJ3
        have HT3 := hid hT3
        clear hJ3 hT3
        by_cases hf0 : f = 0
        · have hP0 := HP0.out hf0
          have HLL : Hid ((tl xs 0).drop (k + 1) = tl xs (P + N)) := by
            rcases HLC.out with ⟨_, h⟩ | ⟨h, _⟩
            · rw [Hid, HDR.out, h]
            · exact absurd hf0 h
          have hfb : (f != 0) = false := by simp [hf0]
          clear hf0
          gi_wp2
          go_roundw
          case rel => exact ⟨k + 1, P + N, by omega, by go_num, ⟨HLL.out, HKN.out⟩, ⟨_, Nat.le_refl _, HJ3.out⟩, HT3⟩
          case measure => simp [intOf]; omega
        · have HLL : Hid (k + 1 = (tl xs 0).length) := by
            rcases HLC.out with ⟨h, _⟩ | ⟨_, h⟩
            · exact absurd h hf0
            · have h2 := HDR.out
              rw [h] at h2
              have h3 := congrArg List.length h2
              rw [List.length_drop, List.length_nil] at h3
              rw [Hid]
              omega
          have hfb : (f != 0) = true := by simp [hf0]
          clear hf0
          gi_wp2
          refine bodyPost_ret (results_none rfl _ _ _) rfl ?_
          exact ⟨⟨_, rfl⟩, .inl ⟨_, by rw [← HLL.out]; exact HJ3.out, HT3.out⟩⟩
      · have HJx := hid hJx3
        clear hJx3
        gi_wp2
        refine bodyPost_ret (results_none rfl _ _ _) rfl ?_
        exact ⟨⟨_, rfl⟩, .inr ⟨k + 1, HKN.out, HJx.out⟩⟩
    · have HLL : Hid (k = (tl xs 0).length) := by
        have h := congrArg List.length HD.out.1
        rw [tl_end (p := P) (by omega), List.length_drop, List.length_nil] at h
        have := HD.out.2
        rw [Hid]
        omega
      clear hv
      gi_wp2
      go_end0
      obtain ⟨m, _, hJm⟩ := HJk.out
      exact ⟨⟨_, rfl⟩, .inl ⟨m, by rw [← HLL.out]; exact hJm, HTk.out⟩⟩

/-- frames. -/
theorem frames_any (g : Option Addr) (a : Option Addr) (len cap : Nat) (w : World) :
    Calls Tryz.prog 91 #[.pointer g, .slice a len cap] w fun e w' => e = .returned (.func (.func 127) #[] #[.pointer (some ⟨w.heap.size + 1, 0, none⟩), .pointer (some ⟨w.heap.size, 0, none⟩)]) ∧
      w' = (w.alloc (.cells #[.pointer g] 32)).alloc (.cells #[.slice a len cap] 54) := by
  have hmf : ∀ (fn : Fn) (first cap : Array Value) (w : World), (Instr.makeFunc fn first cap).run Tryz.prog w = .ok (.func fn first cap) w := fun _ _ _ _ => rfl
  go_enter Tryz.func91, Tryz.ntmps91
  go_wp2
  go_ret
  exact ⟨rfl, rfl⟩
end Go.Proofs.YtaaioaocjfpajaaGreatDoor
end

section
/-
  Scan of no table, and of no byte; Take and At of no table.
-/
namespace Go.Proofs.YtaaioaocjfpajaaGreatDoor
open Go.RowKit Go.Shelf
open Tlv (Tr BySlS AgreeS Agree)
open Crc (hid Kept Tab)
attribute [local go_sem] Oper.semAt_some

end Go.Proofs.YtaaioaocjfpajaaGreatDoor
end

section
/-
  What must come at any rate: the chapter's example, and a record.
-/
namespace Go.Proofs.YtaaioaocjfpajaaGreatDoor
open Go.RowKit
open Tlv (Tr BySlS AgreeS Agree)
open Crc (hid Kept Tab)
theorem wpList_build2 {P : Program} {ops : Array Oper} {rest : List Oper} {o : Oper} {a : Act} {w : World} {Q : Exit → Act → World → Prop} (hg : o.guard = none) (ty : TypeId) (i j : Nat) (x y : Operand) (ho : o.op = .build ty #[(i, x), (j, y)])
    (vx vy : Value) (hx : a.eval x = vx) (hy : a.eval y = vy) (C : Array Value) (hb : P.built ty [(i, vx), (j, vy)] = some C)
    (h : wpList P ops Q rest (a.put o.dst (.agg C)) w) : wpList P ops Q (o :: rest) a w := by
  have e : P.built ty ((#[(i, x), (j, y)] : Array (Nat × Operand)).map fun (i, x) => (i, a.eval x)).toList = some C := by
    rw [← hb]
    simp only [List.map_toArray, List.map_cons, List.map_nil, hx, hy]
  refine wpList_build hg ty _ ho (by rw [e]; rfl) ?_
  rw [e]
  exact h

theorem zeros32 : ∀ y ∈ List.replicate 32 (0 : Int), 0 ≤ y ∧ y ≤ 255 := by
  intro y hy
  rw [(List.mem_replicate.1 hy).2]
  omega
theorem rightX : RightR 1 (List.replicate 32 0) [120] := ⟨by omega, by omega, by simp, by simp, zeros32, by simp⟩

end Go.Proofs.YtaaioaocjfpajaaGreatDoor
end

section
/-
  Plain mathematics: the form as the reference makes it is the form.
-/
namespace Go.Proofs.YtaaioaocjfpajaaGreatDoor.Tlv
end Go.Proofs.YtaaioaocjfpajaaGreatDoor.Tlv
end

section
/-
  What the reference's form makes of a tree.
-/
namespace Go.Proofs.YtaaioaocjfpajaaGreatDoor.Tlv
open Go.RowKit
attribute [local go_sem ↓] Go.wp_at_zero Go.wp_at_succ

end Go.Proofs.YtaaioaocjfpajaaGreatDoor.Tlv
end

section
/-
  What the reference's Put answers.
-/
namespace Go.Proofs.YtaaioaocjfpajaaGreatDoor
open Go.RowKit
open Tlv (Tr BySlS AgreeS Agree)
open Crc (hid Kept Tab)
end Go.Proofs.YtaaioaocjfpajaaGreatDoor
end

section
/-
  Are records few, and short? Put, Size and the reference's Put of any record.
-/
namespace Go.Proofs.YtaaioaocjfpajaaGreatDoor
open Go.RowKit
open Tlv (Tr BySlS AgreeS Agree)
open Crc (hid Kept Tab)

/-- Few, and short. -/
def lightB (ls : List Nat) : Bool := decide (ls.length ≤ 20) && ls.all (fun l => decide (l ≤ 5100))

set_option maxHeartbeats 1000000 in
set_option maxRecDepth 100000 in
theorem light_any (a : Option Addr) (cap : Nat) (ls : List Nat) (w : World) (hm : ls.length ≤ 4611686018427387904) (hls : ∀ l ∈ ls, l ≤ 9223372036854775807)
    (h : ∀ i, i < ls.length → ∃ g o x c, a = some ⟨g, o, none⟩ ∧ w.cell? ⟨g, o + i * 34 + 33, none⟩ = some (.slice x (ls.getD i 0) c)) :
    Calls Tryz.prog 9 #[.slice a ls.length cap] w fun e w' => e = .returned (.bool (lightB ls)) ∧ w' = w := by
  have H := hid h
  have HM := hid hls
  clear h hls
  by_cases h20 : ls.length ≤ 20
  · have h20' : ¬ ((20 : Int) < ls.length) := by omega
    go_enter Tryz.func9, Tryz.ntmps9
    go_wp2
    go_loop [3] (fun i => ∃ k : Nat, k ≤ ls.length ∧ i = .int .i64 k ∧ Hid (∀ j, j < k → ls.getD j 0 ≤ 5100)) (fun i => ls.length - (intOf i).toNat)
    case atStart => exact ⟨0, Nat.zero_le _, rfl, fun j hj => absurd hj (by omega)⟩
    case round =>
      obtain ⟨k, hk, rfl, HJ⟩ := hrel
      by_cases hlt : k < ls.length
      · obtain ⟨g, o, x, c, rfl, hc⟩ := H.out k hlt
        have hx : ls.getD k 0 ≤ 9223372036854775807 := HM.out _ (by rw [List.getD_eq_getElem?_getD, List.getElem?_eq_getElem hlt]; simp)
        have HN : Hid (ls.getD k 0 ≤ 5100 → ∀ j, j < k + 1 → ls.getD j 0 ≤ 5100) := by
          intro h j hj
          by_cases e : j = k
          · rw [e]; exact h
          · exact HJ.out j (by omega)
        have HB : Hid (¬ ls.getD k 0 ≤ 5100 → lightB ls = false) := by
          intro h
          rw [lightB]
          have : ls.all (fun l => decide (l ≤ 5100)) = false := by
            rw [List.all_eq_false]
            refine ⟨ls[k], List.getElem_mem hlt, ?_⟩
            rw [List.getD_eq_getElem?_getD, List.getElem?_eq_getElem hlt] at h
            simpa using h
          rw [this, Bool.and_false]
        generalize ls.getD k 0 = l at *
        by_cases hl : l ≤ 5100
        · have hl' : ¬ ((5100 : Int) < l) := by omega
          go_wp2
          go_round
          case rel => exact ⟨k + 1, by omega, by go_num, HN.out hl⟩
          case measure => simp [intOf]; omega
        · have hl' : (5100 : Int) < l := by omega
          have HBB := hid (HB.out hl)
          clear hl
          go_wp2
          go_ret
          exact ⟨by rw [HBB.out]; rfl, rfl⟩
      · have HBB : Hid (lightB ls = true) := by
          have hk' : k = ls.length := by omega
          rw [Hid, lightB]
          simp only [Bool.and_eq_true, decide_eq_true_eq, List.all_eq_true]
          refine ⟨h20, fun l hl => ?_⟩
          obtain ⟨i, hi, rfl⟩ := List.getElem_of_mem hl
          have := HJ.out i (by omega)
          rwa [List.getD_eq_getElem?_getD, List.getElem?_eq_getElem hi, Option.getD_some] at this
        go_wp2
        go_ret
        exact ⟨by rw [HBB.out]; rfl, rfl⟩
  · have h20' : (20 : Int) < ls.length := by omega
    have HBB : Hid (lightB ls = false) := by rw [Hid, lightB, decide_eq_false h20, Bool.false_and]
    clear h20
    go_enter Tryz.func9, Tryz.ntmps9
    go_wp2
    go_ret
    exact ⟨by rw [HBB.out]; rfl, rfl⟩

/-- What Put answers of any record. -/
def putX (k : Int) (nm bs : List Int) : List Int := if rightB k bs.length then frameR k nm bs else []
def putF (k : Int) (l : Nat) : Int := if rightB k l then 0 else 1

theorem BySlS.len {S : Nat → Prop} {w : World} {v : Value} {xs : List Int} (h : BySlS S w v xs) : ∃ a c, v = .slice a xs.length c := by
  obtain ⟨a, c, rfl, _⟩ := h
  exact ⟨a, c, rfl⟩

theorem own_all {w : World} {base : Nat} {v : Value} {xs : List Int} (h : Crc.Own w base v (nats xs)) (hl : xs.length ≤ 100000) (hx : ∀ x ∈ xs, 0 ≤ x ∧ x ≤ 255) : BySlS (fun g => base ≤ g ∧ g < w.heap.size) w v xs := by
  rcases h.2 with ⟨rfl, h0⟩ | ⟨g, cap, cur, rfl, hb, hg, hn, hc, hs, ht⟩
  · rw [nats_length] at h0
    have : xs = [] := List.length_eq_zero_iff.1 h0
    subst this
    exact Tlv.BySlS.none _ _
  · rw [nats_length] at hn ⊢
    refine ⟨_, cap, rfl, hn, hc, by simp, by omega, hx, fun _ => ⟨g, 0, rfl, ⟨hb, (Array.getElem?_eq_some_iff.1 hg).1⟩, fun i hi => ?_⟩⟩
    have hi2 : i < (nats xs).length := by rw [nats_length]; exact hi
    rw [Nat.zero_add, World.ownsRow.cellAt (show w.ownsRow base 5 1 _ (nats xs).length (Crc.cl (nats xs)) from h) i (by omega), Crc.cl_at _ i hi2]
    have hb2 := hx (xs.getD i 0) (by rw [List.getD_eq_getElem?_getD, List.getElem?_eq_getElem hi]; simp)
    simp only [nats, List.getD_eq_getElem?_getD, List.getElem?_map, List.getElem?_eq_getElem hi, Option.map_some, Option.getD_some] at hb2 ⊢
    congr 2
    omega

theorem put_one (b : Nat) (k : Int) (nm bs : List Int) (v : Value) (w : World) (hT : TabX w b) (hb : Tlv.BySl 0 w.heap.size w v bs) (hn : nm.length = 32) (hx : ∀ x ∈ nm, 0 ≤ x ∧ x ≤ 255) :
    Calls Tryz.prog 105 #[.pointer (some ⟨b, 0, none⟩), .agg (recA k nm v).toArray] w fun e w' => ∃ a c, e = .returned (.tuple #[.slice a (putX k nm bs).length c, .int .i64 (putF k bs.length)]) ∧ BySlS (fun g => w.heap.size ≤ g ∧ g < w'.heap.size) w' (.slice a (putX k nm bs).length c) (putX k nm bs) ∧ Kept b w w' ∧ TabX w' b := by
  obtain ⟨av, cv, rfl, _, _, _, _, h6, _⟩ := id hb
  unfold putX putF
  cases hr : rightB k bs.length with
  | false =>
    refine (put_no _ k nm bs av cv w hn hr).mono ?_
    rintro e w1 ⟨rfl, hb1⟩
    exact ⟨none, 0, rfl, Tlv.BySlS.none _ _, Kept.below hb1, hT.below hb1⟩
  | true =>
    have hR := right_of hr hn hx h6
    refine (put_yes b k nm bs _ w hT hb hR).mono ?_
    rintro e w1 ⟨v', rfl, ho, hk, ht⟩
    have h1 := own_all ho (by rw [frameR_length hR]; have := hR.2.2.1; omega) (frameR_bd hR)
    obtain ⟨a, c, rfl⟩ := BySlS.len h1
    exact ⟨a, c, rfl, h1, hk, ht⟩

end Go.Proofs.YtaaioaocjfpajaaGreatDoor
end

section
/-
  A slice of placed records that a call builds by append: how it lies in memory.
-/
namespace Go.Proofs.YtaaioaocjfpajaaGreatDoor
open Go.RowKit
open Tlv (Tr BySlS AgreeS Agree)
open Crc (hid Kept Tab)

/-- A told record's cells, its body behind u. -/
def recI (x : Item) (u : Value) : List Value := recA x.2.2.1.1 x.2.2.1.2.1 u
def plI (x : Item) (u : Value) : List Value := placedA x.1 x.2.2.2 (recI x u)
def nmOk (x : Item) : Prop := x.2.2.1.2.1.length = 32 ∧ ∀ y ∈ x.2.2.1.2.1, 0 ≤ y ∧ y ≤ 255

theorem plI_length {x : Item} (h : nmOk x) (u : Value) : (plI x u).length = 36 := by rw [plI, placedA, List.length_cons, List.length_cons, recI, recA_length _ _ _ h.1]
theorem plI_one (x : Item) (a : Option Addr) (l c : Nat) : ∀ v ∈ plI x (.slice a l c), v.oneCell' = true := by
  intro v hv
  rcases List.mem_cons.1 hv with rfl | hv
  · rfl
  · rcases List.mem_cons.1 hv with rfl | hv
    · rfl
    · exact recA_one _ _ _ _ _ v hv

def cellsP : List Item → List Value → List Value
  | x :: L, u :: us => plI x u ++ cellsP L us
  | _, _ => []

theorem cellsP_snoc (x : Item) (u : Value) : ∀ (L : List Item) (us : List Value), us.length = L.length → cellsP (L ++ [x]) (us ++ [u]) = cellsP L us ++ plI x u
  | [], [], _ => by simp [cellsP]
  | [], _ :: _, h => by simp at h
  | _ :: _, [], h => by simp at h
  | y :: L, v :: us, h => by
    simp only [List.cons_append, cellsP, List.append_assoc]
    rw [cellsP_snoc x u L us (by simpa using h)]

theorem cellsP_at : ∀ (L : List Item) (us : List Value) (j : Nat) (x : Item) (u : Value) (r : Nat), (∀ y ∈ L, nmOk y) → L[j]? = some x → us[j]? = some u → r < 36 → (cellsP L us)[j * 36 + r]? = (plI x u)[r]?
  | [], _, _, _, _, _, _, h, _, _ => by simp at h
  | _ :: _, [], _, _, _, _, _, _, h, _ => by simp at h
  | y :: L, v :: us, 0, x, u, r, hn, h1, h2, h3 => by
    simp only [List.getElem?_cons_zero, Option.some.injEq] at h1 h2
    subst h1 h2
    simp only [cellsP, Nat.zero_mul, Nat.zero_add]
    rw [List.getElem?_append_left (by rw [plI_length (hn _ (List.mem_cons_self ..))]; exact h3)]
  | y :: L, v :: us, j + 1, x, u, r, hn, h1, h2, h3 => by
    simp only [List.getElem?_cons_succ] at h1 h2
    simp only [cellsP]
    have hl := plI_length (hn y (List.mem_cons_self ..)) v
    rw [List.getElem?_append_right (by rw [hl]; omega), hl, ← cellsP_at L us j x u r (fun z hz => hn z (List.mem_cons_of_mem _ hz)) h1 h2 h3]
    congr 1
    omega

/-- Cells from base on, b left out, stand. -/
structure CellsKept (base b : Nat) (w w' : World) : Prop where
  size : w.heap.size ≤ w'.heap.size
  block : ∀ g cs t fr, base ≤ g → g ≠ b → w.heap[g]? = some (.cells cs t fr) → w'.heap[g]? = some (.cells cs t fr)
  cell : ∀ g o v, base ≤ g → g ≠ b → w.cell? ⟨g, o, none⟩ = some v → w'.cell? ⟨g, o, none⟩ = some v

theorem CellsKept.of_kept {base b : Nat} {w w' : World} (k : Kept b w w') : CellsKept base b w w' :=
  ⟨k.size, fun g _ _ _ _ h2 h3 => (k.block g (Array.getElem?_eq_some_iff.1 h3).1 h2).trans h3, fun g o _ _ h2 h3 => (k.cell (p := ⟨g, o, none⟩) (World.block_lt_of_cell? _ _ h3) h2).trans h3⟩
theorem CellsKept.of_putl {base b B : Nat} {w w' : World} (k : Putl B w w') : CellsKept base b w w' :=
  ⟨by have := k.size; omega, fun _ _ _ _ _ _ h3 => k.block h3, fun _ _ _ _ _ h3 => k.cell h3⟩
/-- A store below base. -/
theorem CellsKept.of_set {base b z o : Nat} (w : World) (x : Value) (hz : z < base) : CellsKept base b w (w.setCell ⟨z, o, none⟩ x) :=
  ⟨by simp, fun g _ _ _ h1 _ h3 => (Below.heap_setCell _ _ _ _ (by simp; omega)).trans h3, fun g _ _ h1 _ h3 => (World.cell?_setCell_other _ _ _ _ (by simp only [ne_eq, Addr.mk.injEq, and_true, not_and]; omega)).trans h3⟩
theorem CellsKept.trans {base b : Nat} {u v w : World} (h : CellsKept base b u v) (k : CellsKept base b v w) : CellsKept base b u w :=
  ⟨Nat.le_trans h.size k.size, fun g cs t fr h1 h2 h3 => k.block g cs t fr h1 h2 (h.block g cs t fr h1 h2 h3), fun g o x h1 h2 h3 => k.cell g o x h1 h2 (h.cell g o x h1 h2 h3)⟩

/-- v is a slice of the placed records L that the call itself has built, in blocks from base on. -/
def PRow (ty : TypeId) (base b : Nat) (w : World) (v : Value) (L : List Item) : Prop :=
  ∃ us : List Value, us.length = L.length ∧ w.ownsRow base ty 36 v L.length (cellsP L us) ∧ (∀ x ∈ L, nmOk x) ∧
    ∀ (j : Nat) (x : Item) (u : Value), L[j]? = some x → us[j]? = some u → BySlS (fun g => base ≤ g ∧ g ≠ b ∧ g < w.heap.size ∧ v.ownBlock ≠ some g) w u x.2.2.1.2.2

theorem PRow.nil (ty : TypeId) (base b : Nat) (w : World) : PRow ty base b w (.slice none 0 0) [] := ⟨[], rfl, World.ownsRow_nil _ _ _ _, by simp, by simp⟩

theorem PRow.form {ty : TypeId} {base b : Nat} {w : World} {v : Value} {L : List Item} (h : PRow ty base b w v L) : ∃ a c, v = .slice a L.length c := by
  obtain ⟨us, _, hown, _⟩ := h
  rcases hown.2 with ⟨rfl, h0⟩ | ⟨g, cap, cur, rfl, _⟩
  · exact ⟨_, _, by rw [h0]⟩
  · exact ⟨_, _, rfl⟩
theorem bySlS_cells {base b : Nat} {S : Nat → Prop} {w w' : World} {u : Value} {xs : List Int} (h : BySlS S w u xs) (k : CellsKept base b w w') (hS : ∀ g, S g → base ≤ g ∧ g ≠ b) : BySlS S w' u xs := by
  obtain ⟨a, cap, h1, h2, h3, h4, h5, h6, h7⟩ := h
  refine ⟨a, cap, h1, h2, h3, h4, h5, h6, fun hne => ?_⟩
  obtain ⟨g, o, e, hg, hc⟩ := h7 hne
  exact ⟨g, o, e, hg, fun i hi => k.cell g _ _ (hS g hg).1 (hS g hg).2 (hc i hi)⟩

theorem PRow.cells {ty : TypeId} {base b : Nat} {w w' : World} {v : Value} {L : List Item} (h : PRow ty base b w v L) (k : CellsKept base b w w') (hb : b < base) : PRow ty base b w' v L := by
  obtain ⟨us, hl, hown, hn, hk⟩ := h
  have hz := k.size
  refine ⟨us, hl, ⟨hown.1, ?_⟩, hn, fun j x u hj hu => BySlS.mono (bySlS_cells (hk j x u hj hu) k (fun g hg => ⟨hg.1, hg.2.1⟩)) (fun g hg => ⟨hg.1, hg.2.1, by omega, hg.2.2.2⟩)⟩
  rcases hown.2 with h2 | ⟨g, cap, cur, hv, hg, hh, r⟩
  · exact Or.inl h2
  · exact Or.inr ⟨g, cap, cur, hv, hg, k.block g _ _ _ hg (by omega) hh, r⟩

/-- One record more, behind the append that lays it. -/
theorem PRow.push {ty : TypeId} {base b g cap : Nat} {L : List Item} {x : Item} {v u : Value} {us : List Value} {w w' : World} (hl : us.length = L.length) (hn : ∀ y ∈ L, nmOk y) (hx : nmOk x)
    (hk : ∀ (j : Nat) (x : Item) (u : Value), L[j]? = some x → us[j]? = some u → BySlS (fun g => base ≤ g ∧ g ≠ b ∧ g < w.heap.size ∧ v.ownBlock ≠ some g) w u x.2.2.1.2.2)
    (hu : BySlS (fun g => base ≤ g ∧ g ≠ b ∧ g < w.heap.size ∧ v.ownBlock ≠ some g) w u x.2.2.1.2.2)
    (hown : w'.ownsRow base ty 36 (.slice (some ⟨g, 0, none⟩) (L.length + 1) cap) (L.length + 1) (cellsP L us ++ plI x u)) (hgrow : w.grownBy w' v.ownBlock) (hat : v.ownBlock = some g ∨ g = w.heap.size) :
    PRow ty base b w' (.slice (some ⟨g, 0, none⟩) (L.length + 1) cap) (L ++ [x]) := by
  have old : ∀ {u : Value} {xs : List Int}, BySlS (fun g => base ≤ g ∧ g ≠ b ∧ g < w.heap.size ∧ v.ownBlock ≠ some g) w u xs → BySlS (fun q => base ≤ q ∧ q ≠ b ∧ q < w'.heap.size ∧ (Value.slice (some ⟨g, 0, none⟩) (L.length + 1) cap).ownBlock ≠ some q) w' u xs := by
    intro u xs h
    have hz := hgrow.size
    refine BySlS.mono (h.agree (fun q hq => hgrow.block q hq.2.2.1 (fun e => hq.2.2.2 e.symm)) (fun _ h => h)) (fun q hq => ⟨hq.1, hq.2.1, by omega, ?_⟩)
    intro e
    simp only [Value.ownBlock, Option.some.injEq] at e
    subst e
    rcases hat with h1 | h1
    · exact hq.2.2.2 h1
    · omega
  refine ⟨us ++ [u], by simp [hl], ?_, ?_, ?_⟩
  · rw [cellsP_snoc _ _ _ _ hl]
    simpa using hown
  · intro y hy
    rcases List.mem_append.1 hy with hy | hy
    · exact hn y hy
    · rw [List.mem_singleton.1 hy]; exact hx
  · intro j y q hj hq
    by_cases hlt : j < L.length
    · rw [List.getElem?_append_left hlt] at hj
      rw [List.getElem?_append_left (by omega)] at hq
      exact old (hk j y q hj hq)
    · have : j = L.length := by
        have := (List.getElem?_eq_some_iff.1 hj).1
        simp at this
        omega
      subst this
      rw [List.getElem?_append_right (Nat.le_refl _)] at hj
      rw [List.getElem?_append_right (by omega)] at hq
      simp [hl] at hj hq
      subst hj hq
      exact old hu

/-- One record of it. -/
theorem PRow.get {ty : TypeId} {base b : Nat} {w : World} {v : Value} {L : List Item} (h : PRow ty base b w v L) (j : Nat) (x : Item) (hj : L[j]? = some x) : ∃ g cap a c, v = .slice (some ⟨g, 0, none⟩) L.length cap ∧ base ≤ g ∧ g < w.heap.size ∧ nmOk x ∧
    w.rangeAt g (j * 36) (plI x (.slice a x.2.2.1.2.2.length c)) ∧ BySlS (fun q => base ≤ q ∧ q ≠ b ∧ q < w.heap.size ∧ q ≠ g) w (.slice a x.2.2.1.2.2.length c) x.2.2.1.2.2 := by
  obtain ⟨us, hl, hown, hn, hk⟩ := h
  have hjl := (List.getElem?_eq_some_iff.1 hj).1
  obtain ⟨u, hu⟩ : ∃ u, us[j]? = some u := ⟨us[j]'(by omega), List.getElem?_eq_getElem (by omega)⟩
  have hb := hk j x u hj hu
  obtain ⟨a, c, rfl, _⟩ := id hb
  rcases id hown.2 with ⟨_, h0⟩ | ⟨g, cap, cur, rfl, hg, hh, _⟩
  · omega
  · have hnx : nmOk x := hn x (List.mem_of_getElem? hj)
    refine ⟨g, cap, a, c, rfl, hg, (Array.getElem?_eq_some_iff.1 hh).1, hnx, fun r q hq => ?_, BySlS.mono hb (fun q hq => ⟨hq.1, hq.2.1, hq.2.2.1, fun e => hq.2.2.2 (by rw [e]; rfl)⟩)⟩
    have hr : r < 36 := by have := (List.getElem?_eq_some_iff.1 hq).1; rwa [plI_length hnx] at this
    rw [hown.cellAt (j * 36 + r) (by omega), cellsP_at L us j x _ r hn hj hu hr]
    exact hq

end Go.Proofs.YtaaioaocjfpajaaGreatDoor
end
