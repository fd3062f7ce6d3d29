/- Of the proof: the texts FrScans, one behind the other. -/
import Derived.Test.YthbhdbjjobfchaaB11
import Derived.Test.YthbhdbjjobfchaaB10
import Derived.Test.YthbhdbjjobfchaaB8
section
/-
  FrameScans, walked.
-/
namespace Go.Proofs.Ythbhdbjjobfchaa
open Go.RowKit Go.Shelf
open Tlv (Tr BySlS AgreeS Agree)
open Crc (hid Kept Tab)

/-- A record stored into a variable just made. -/
theorem box_rec (ty : TypeId) (w : World) {Z C : List Value} (hZ : Z.length = 34) (hC : C.length = 34) :
    World.there (w.alloc (.cells Z.toArray ty)) w.heap.size 0 C.toArray.size ∧ Below w.heap.size w ((w.alloc (.cells Z.toArray ty)).setCells w.heap.size 0 C) ∧
      ((w.alloc (.cells Z.toArray ty)).setCells w.heap.size 0 C).rangeAt w.heap.size 0 C ∧ ((w.alloc (.cells Z.toArray ty)).setCells w.heap.size 0 C).heap.size = w.heap.size + 1 := by
  have h := there_new w Z ty
  rw [hZ] at h
  have e : C.toArray.size = 34 := hC
  have h' : World.there (w.alloc (.cells Z.toArray ty)) w.heap.size 0 C.toArray.size := by rw [e]; exact h
  exact ⟨h', ((Below.refl _ _).alloc (Nat.le_refl _) _).trans (setCells_below (Nat.le_refl _) _ _ _), World.rangeAt_setCells_same _ _ _ _ h', by rw [setCells_size]; simp⟩

theorem scanR_length : ∀ (L : List Item) (p : Nat), (scanR L p).1.length ≤ L.length
  | [], p => by simp [scanR]
  | x :: L, p => by
    rw [scanR]
    split
    · have := scanR_length L (x.1 + x.2.2.2)
      simp only [List.length_cons]
      omega
    · simp
theorem scanF_length (xs : List Int) : (scanF xs).1.length ≤ xs.length := by
  have h1 := scanR_length (tl xs 0) 0
  have h2 := tl_length_le xs xs.length 0 (by omega)
  unfold scanF
  omega

set_option maxHeartbeats 8000000 in
set_option maxRecDepth 100000 in
theorem scans_main (v : Value) (xs : List Int) (z : Int) (w : World) (h : BySlS (fun g => g < w.heap.size) w v xs) (hz : -9223372036854775808 ≤ z ∧ z ≤ 9223372036854775807) :
    Calls Try.prog 4 #[v, .int .i64 z] w fun e w' => e = .returned (.bool true) ∧ Below w.heap.size w w' := by
  obtain ⟨a, cap, rfl, h2, h3, _, h5, h6, h7⟩ := id h
  have H := hid h
  have H7 := hid h7
  clear h h6 h7
  unfold maxLen at h3
  by_cases hl : 3000 < xs.length
  · have hl' : (3000 : Int) < xs.length := by omega
    go_enter Try.func4, Try.ntmps4
    go_wp2_with fail
    refine (alive_any _).mono ?_
    rintro e w3 ⟨rfl, hb3⟩
    have HB3 := hid hb3
    clear hb3
    go_wp2_with fail
    go_ret
    exact ⟨rfl, HB3.out⟩
  · have hl' : (xs.length : Int) ≤ 3000 := by omega
    have hz35 := zero35
    have hz26 := zero26
    obtain ⟨Z, hZ⟩ : ∃ Z, zRec = Z := ⟨_, rfl⟩
    have HZ := hid hZ
    have HZL : Hid (Z.length = 34) := by rw [← hZ]; exact zRec_length
    rw [hZ] at hz35 hz26
    clear hZ
    go_enter Try.func4, Try.ntmps4
    go_wp2_with fail
    refine (Crc.new_any w).mono ?_
    rintro e w1 ⟨rfl, hb1, hs1, ht1⟩
    have HB1 := hid hb1
    have HT1 : Hid (TabX w1 w.heap.size) := ⟨0, 0, .inl rfl, ht1⟩
    have HL1 : Hid (w.heap.size < w1.heap.size) := by rw [Hid]; omega
    clear hb1 hs1 ht1
    have HVA : Hid (∀ V, Kept w.heap.size w1 V → BySlS (fun g => g < w.heap.size) V (.slice a xs.length cap) xs) := fun V hV => BySlS.below H.out (Crc.Kept.toBelow HB1.out hV (Nat.le_refl _)) (fun g hg => hg)
    go_wp2_with fail
    refine (take_any w.heap.size _ xs w1 HT1.out (BySlS.mono (HVA.out w1 (Kept.below (Below.refl _ _))) (fun g hg => ⟨by omega, by have := HL1.out; omega⟩))).mono ?_
    rintro e w2 ⟨ar, cr, rfl, hby2, hnm2, hk2, ht2⟩
    obtain ⟨⟨f, ⟨k, nm, bs⟩, n⟩, hX⟩ : ∃ X, takeF xs = X := ⟨_, rfl⟩
    rw [hX] at hby2 hnm2 ⊢
    dsimp only at hby2 hnm2 ⊢
    have HX := hid hX
    have HNM := hid hnm2
    have HY2 := hid hby2
    have HK2 := hid hk2
    have HT2 := hid ht2
    obtain ⟨C, hC⟩ : ∃ C, recA k nm (.slice ar bs.length cr) = C := ⟨_, rfl⟩
    have HCL : Hid (C.length = 34) := by rw [← hC]; exact recA_length _ _ _ hnm2.1
    have HCO : Hid (C.toArray.all (·.oneCell') = true) := by rw [← hC]; exact all_oneCell_toArray (recA_one _ _ _ _ _)
    have HCI : Hid ((Try.prog.info? 35).map (·.size) = some C.toArray.size) := by rw [Hid, show C.toArray.size = 34 from HCL.out]; exact Try.info35
    have HC := hid hC
    rw [hC]
    clear hC hby2 hnm2 hk2 ht2 hX
    have HS2 := hid (box_rec 35 w2 HZL.out HCL.out)
    go_wp2_with (refine wpList_store_mid (by rfl) 35 _ _ (by rfl) w2.heap.size 0 C.toArray (by rfl) (by rfl) HS2.out.1 HCI.out HCO.out ?_)
    obtain ⟨W2, hW2⟩ : ∃ W2, (w2.alloc (.cells Z.toArray 35)).setCells w2.heap.size 0 C = W2 := ⟨_, rfl⟩
    rw [hW2] at HS2 ⊢
    clear hW2
    have HKW2 : Hid (Kept w.heap.size w1 W2) := HK2.out.trans (Kept.below HS2.out.2.1)
    have HTW2 := hid (HT2.out.below HS2.out.2.1)
    have HZ2 : Hid (w1.heap.size ≤ w2.heap.size ∧ w2.heap.size < W2.heap.size) := ⟨HK2.out.size, by have := HS2.out.2.2.2; omega⟩
    have HYW2 := hid (BySlS.below HY2.out HS2.out.2.1 (fun g hg => hg.2))
    have HCW2 := hid HS2.out.2.2.1
    clear HS2 HY2 HK2 HT2
    refine (rtake_any _ xs W2 ((HVA.out W2 HKW2.out).to (fun g hg => by have := HL1.out; have := HZ2.out; omega)) (by have := HL1.out; have := HZ2.out; omega) (by omega)).mono ?_
    rintro e w3 ⟨aq, cq, rfl, hby3, hnm3, hb3⟩
    rw [HX.out] at hby3 hnm3 ⊢
    dsimp only at hby3 hnm3 ⊢
    obtain ⟨D, hD⟩ : ∃ D, recA k nm (.slice aq bs.length cq) = D := ⟨_, rfl⟩
    have HDL : Hid (D.length = 34) := by rw [← hD]; exact recA_length _ _ _ hnm3.1
    have HDO : Hid (D.toArray.all (·.oneCell') = true) := by rw [← hD]; exact all_oneCell_toArray (recA_one _ _ _ _ _)
    have HDI : Hid ((Try.prog.info? 26).map (·.size) = some D.toArray.size) := by rw [Hid, show D.toArray.size = 34 from HDL.out]; exact Try.info26
    have HD := hid hD
    have HB3 := hid hb3
    have HY3 := hid hby3
    rw [hD]
    clear hD hby3 hnm3 hb3
    have HS3 := hid (box_rec 26 w3 HZL.out HDL.out)
    go_wp2_with (refine wpList_store_mid (by rfl) 26 _ _ (by rfl) w3.heap.size 0 D.toArray (by rfl) (by rfl) HS3.out.1 HDI.out HDO.out ?_)
    obtain ⟨W3, hW3⟩ : ∃ W3, (w3.alloc (.cells Z.toArray 26)).setCells w3.heap.size 0 D = W3 := ⟨_, rfl⟩
    rw [hW3] at HS3 ⊢
    clear hW3
    have HB33 : Hid (Below W2.heap.size W2 W3) := HB3.out.trans (HS3.out.2.1.mono HB3.out.size)
    have HKW3 : Hid (Kept w.heap.size w1 W3) := HKW2.out.trans (Kept.below HB33.out)
    have HTW3 := hid (HTW2.out.below HB33.out)
    have HZ3 : Hid (W2.heap.size ≤ w3.heap.size ∧ w3.heap.size < W3.heap.size) := ⟨HB3.out.size, by have := HS3.out.2.2.2; omega⟩
    have HYW3 := hid (BySlS.below HYW2.out HB33.out (fun g hg => by have := HZ2.out; omega))
    have HQW3 := hid (BySlS.below HY3.out HS3.out.2.1 (fun g hg => hg.2))
    have HCW3 := hid (rangeAt_below HCW2.out HB33.out HZ2.out.2)
    have HDW3 := hid HS3.out.2.2.1
    clear HS3 HY3 HB3 HYW2 HCW2 HTW2 HB33
    refine (scan_any w.heap.size _ xs W3 HTW3.out (BySlS.mono (HVA.out W3 HKW3.out) (fun g hg => ⟨by omega, by have := HL1.out; have := HZ2.out; have := HZ3.out; omega⟩)) (by omega)).mono ?_
    rintro e w4 ⟨al, cl, rfl, hp4, hk4, ht4⟩
    obtain ⟨⟨L, sp, sf⟩, hS⟩ : ∃ S, scanF xs = S := ⟨_, rfl⟩
    have HLL : Hid (L.length ≤ 80000) := by have h := scanF_length xs; rw [hS] at h; rw [Hid]; simp only at h; omega
    rw [hS] at hp4 ⊢
    dsimp only at hp4 ⊢
    have HS := hid hS
    have HP4 := hid hp4
    have HK4 := hid hk4
    have HKW4 : Hid (Kept w.heap.size w1 w4) := HKW3.out.trans hk4
    have HT4 := hid ht4
    have HZ4 : Hid (W3.heap.size ≤ w4.heap.size) := hk4.size
    have HC4 := hid (rangeAt_kept HCW3.out hk4 (by have := HZ3.out; have := HZ2.out; omega) (by have := HL1.out; have := HZ2.out; omega))
    have HD4 := hid (rangeAt_kept HDW3.out hk4 (by have := HZ3.out; omega) (by have := HL1.out; have := HZ2.out; have := HZ3.out; omega))
    have HY4 := hid (BySlS.kept HYW3.out hk4 (fun g hg => by have := HL1.out; have := HZ2.out; have := HZ3.out; omega))
    have HQ4 := hid (BySlS.kept HQW3.out hk4 (fun g hg => by have := HL1.out; have := HZ2.out; have := HZ3.out; omega))
    clear hS hp4 hk4 ht4 HTW3 HYW3 HQW3 HCW3 HDW3
    go_wp2_with fail
    refine (rscan_any w.heap.size _ xs w4 (BySlS.mono (HVA.out w4 HKW4.out) (fun g hg => by have := HL1.out; have := HZ2.out; have := HZ3.out; have := HZ4.out; omega)) (by have := HL1.out; have := HZ2.out; have := HZ3.out; have := HZ4.out; omega) (by have := HL1.out; have := HZ2.out; have := HZ3.out; have := HZ4.out; omega) (by omega)).mono ?_
    rintro e w5 ⟨ak, ck, rfl, hp5, hb5⟩
    rw [HS.out] at hp5 ⊢
    dsimp only at hp5 ⊢
    have HP5 := hid hp5
    have HKW5 : Hid (Kept w.heap.size w1 w5) := HKW4.out.trans (Kept.below hb5)
    have HT5 := hid (HT4.out.below hb5)
    have HZ5 : Hid (w4.heap.size ≤ w5.heap.size) := hb5.size
    have HR5 : Hid (PRow 62 W3.heap.size w.heap.size w5 (.slice al L.length cl) L) := HP4.out.cells (CellsKept.of_kept (Kept.below hb5)) (by have := HL1.out; have := HZ2.out; have := HZ3.out; omega)
    have HC5 := hid (rangeAt_below HC4.out hb5 (by have := HZ4.out; have := HZ3.out; have := HZ2.out; omega))
    have HD5 := hid (rangeAt_below HD4.out hb5 (by have := HZ4.out; have := HZ3.out; omega))
    have HY5 := hid (BySlS.below HY4.out hb5 (fun g hg => by have := HL1.out; have := HZ2.out; have := HZ3.out; have := HZ4.out; omega))
    have HQ5 := hid (BySlS.below HQ4.out hb5 (fun g hg => by have := HL1.out; have := HZ2.out; have := HZ3.out; have := HZ4.out; omega))
    clear hp5 hb5 HP4 HK4 HKW4 HT4 HC4 HD4 HY4 HQ4 HKW3 HKW2
    have HBK : Hid (∀ V, Calls Try.prog 23 #[.agg C.toArray] V fun e w' => e = .returned (.agg C.toArray) ∧ Below V.heap.size V w') := fun V => by
      have h := back23_any k nm ar bs.length cr V HNM.out.1
      rwa [HC.out] at h
    have HSM : Hid (∀ V, Below w5.heap.size w5 V → Calls Try.prog 18 #[.agg C.toArray, .agg D.toArray] V fun e w' => e = .returned (.bool true) ∧ Below V.heap.size V w') := fun V hV => by
      have h := same18_any k k nm nm bs bs (.slice ar bs.length cr) (.slice aq bs.length cq) V HNM.out.1 HNM.out.1 HNM.out.2 HNM.out.2
        ((BySlS.below HY5.out hV (fun g hg => by have := HZ2.out; have := HZ3.out; have := HZ4.out; have := HZ5.out; omega)).to (fun g hg => by have := HZ2.out; have := HZ3.out; have := HZ4.out; have := HZ5.out; have := hV.size; omega))
        ((BySlS.below HQ5.out hV (fun g hg => by have := HZ3.out; have := HZ4.out; have := HZ5.out; omega)).to (fun g hg => by have := HZ3.out; have := HZ4.out; have := HZ5.out; have := hV.size; omega))
      rw [HC.out, HD.out, show sameR k k nm nm bs bs = true from by simp [sameR]] at h
      exact h
    have HPL : Hid (∀ V, Below w5.heap.size w5 V → Calls Try.prog 25 #[.slice al L.length cl] V fun e w' => ∃ va vc, e = .returned (.slice va L.length vc) ∧ PRow 109 W3.heap.size w.heap.size w' (.slice va L.length vc) L ∧ Below V.heap.size V w') := fun V hV => by
      refine (placed_any (.slice al L.length cl) L W3.heap.size w.heap.size V (HR5.out.cells (CellsKept.of_kept (Kept.below hV)) (by have := HL1.out; have := HZ2.out; have := HZ3.out; omega)) HLL.out (by have := HL1.out; have := HZ2.out; have := HZ3.out; omega)).mono ?_
      rintro e w' ⟨v, rfl, hp, hb⟩
      obtain ⟨va, vc, rfl⟩ := hp.form
      exact ⟨va, vc, rfl, hp, hb⟩
    have HAL : Hid (∀ V va vc, Below w5.heap.size w5 V → PRow 109 W3.heap.size w.heap.size V (.slice va L.length vc) L → Calls Try.prog 24 #[.slice va L.length vc, .slice ak L.length ck] V fun e w' => e = .returned (.bool true) ∧ Below V.heap.size V w') := fun V va vc hV hp =>
      all_same _ _ L _ _ _ _ V hp (HP5.out.cells (CellsKept.of_kept (Kept.below hV)) (by have := HL1.out; have := HZ2.out; have := HZ3.out; have := HZ4.out; omega)) HLL.out
    have HCI' : Hid ((Try.prog.info? 35).map (·.size) = some C.length) := HCI.out
    have HDI' : Hid ((Try.prog.info? 26).map (·.size) = some D.length) := HDI.out
    have hw2a : w2.heap.size < w5.heap.size := by have := HZ2.out; have := HZ3.out; have := HZ4.out; have := HZ5.out; omega
    have hw3a : w3.heap.size < w5.heap.size := by have := HZ3.out; have := HZ4.out; have := HZ5.out; omega
    go_wp2_with fail
    refine wp_region_held_drew (S := fun V => Below w5.heap.size w5 V) (by kernel_rfl) (Below.refl _ _).drew (fun hHeld => ?_)
    refine wpAnyH_take (i := 0) (oi := { dst := some 52, op := Op.load 35 (Operand.tmp 6), type := 35, pos := "law.go:71", after := #[], guard := none }) (v := .agg C.toArray) rfl (by kernel_rfl) (by kernel_rfl) (by kernel_rfl) (fun _ _ _ h => h) (yieldsIf_load_mid (by rfl) _ _ rfl w2.heap.size 0 rfl C _ (fun V hV => rangeAt_below HC5.out hV hw2a) Try.underlying35 rfl HCI'.out) hHeld ?_
    simp only [Act.put, List.setIfInBounds_toArray, List.set_cons_zero, List.set_cons_succ]
    refine wpAnyH_take (i := 2) (oi := { dst := some 54, op := Op.load 26 (Operand.tmp 9), type := 26, pos := "law.go:71", after := #[], guard := none }) (v := .agg D.toArray) rfl (by kernel_rfl) (by kernel_rfl) (by kernel_rfl) (fun _ _ _ h => h) (yieldsIf_load_mid (by rfl) _ _ rfl w3.heap.size 0 rfl D _ (fun V hV => rangeAt_below HD5.out hV hw3a) Try.underlying26 rfl HDI'.out) hHeld ?_
    simp only [Act.put, List.setIfInBounds_toArray, List.set_cons_zero, List.set_cons_succ]
    refine wpAnyH_ready (rs := [1]) (by kernel_rfl) (by simp) ?_
    refine AllReadyH.cons (o := { dst := some 53, op := Op.call { callee := Callee.value (Operand.func 23), args := #[Operand.tmp 52], argTypes := #[35] }, type := 26, pos := "law.go:71", after := #[{ on := 0, ground := Ground.data }], guard := none }) rfl (fun K hK => ?_) AllReadyH.nil
    go_simp
    refine (HBK.out _).mono ?_
    rintro e v1 ⟨rfl, hb1⟩
    have K1 : Hid (Below w5.heap.size w5 v1) := (Below.refl _ _).drew.trans (hb1.mono (Nat.le_refl _))
    clear hb1
    go_wp2_with fail
    refine hK.out _ _ (K1.out) (fun hh => ?_)
    clear hK K hHeld
    have hHeld := hh
    clear hh
    try simp only [Act.put, List.setIfInBounds_toArray, List.set_cons_zero, List.set_cons_succ]
    refine wpAnyH_ready (rs := [3]) (by kernel_rfl) (by simp) ?_
    refine AllReadyH.cons (o := { dst := some 55, op := Op.call { callee := Callee.value (Operand.func 18), args := #[Operand.tmp 53, Operand.tmp 54], argTypes := #[26, 26] }, type := 4, pos := "law.go:71", after := #[{ on := 1, ground := Ground.data }, { on := 2, ground := Ground.data }, { on := 1, ground := Ground.chain }], guard := none }) rfl (fun K hK => ?_) AllReadyH.nil
    go_simp
    refine (HSM.out _ K1.out).mono ?_
    rintro e v2 ⟨rfl, hb2⟩
    have K2 : Hid (Below w5.heap.size w5 v2) := K1.out.trans (hb2.mono K1.out.size)
    clear hb2
    go_wp2_with fail
    refine hK.out _ _ (K2.out) (fun hh => ?_)
    clear hK K hHeld
    have hHeld := hh
    clear hh
    try simp only [Act.put, List.setIfInBounds_toArray, List.set_cons_zero, List.set_cons_succ]
    refine wpAnyH_take (i := 4) (oi := { dst := some 56, op := Op.unOp UnOp.not 4 (Operand.tmp 55), type := 4, pos := "law.go:71", after := #[{ on := 3, ground := Ground.data }], guard := none }) (v := .bool false) rfl (by kernel_rfl) (by kernel_rfl) (by kernel_rfl) (fun _ _ _ h => h) (Or.inl ⟨by rfl, fun w' hw' => by (clear hw'; go_simp)⟩) hHeld ?_
    simp only [Act.put, List.setIfInBounds_toArray, List.set_cons_zero, List.set_cons_succ]
    refine wpAnyH_take (i := 5) (oi := { dst := some 57, op := Op.move (Operand.tmp 56), type := 4, pos := "law.go:71", after := #[{ on := 4, ground := Ground.data }, { on := 3, ground := Ground.chain }], guard := none }) (v := .bool false) rfl (by kernel_rfl) (by kernel_rfl) (by kernel_rfl) (fun _ _ _ h => h) (Or.inl ⟨by rfl, fun w' hw' => by (clear hw'; go_simp)⟩) hHeld ?_
    simp only [Act.put, List.setIfInBounds_toArray, List.set_cons_zero, List.set_cons_succ]
    refine wpAnyH_take (i := 6) (oi := { dst := some 58, op := Op.move (Operand.tmp 7), type := 3, pos := "law.go:71", after := #[{ on := 5, ground := Ground.guard }], guard := some (5, false) }) (v := .int .i64 (n : Int)) rfl (by kernel_rfl) (by kernel_rfl) (by kernel_rfl) (fun _ _ _ h => h) (Or.inl ⟨by rfl, fun w' hw' => by (clear hw'; go_simp)⟩) hHeld ?_
    simp only [Act.put, List.setIfInBounds_toArray, List.set_cons_zero, List.set_cons_succ]
    refine wpAnyH_take (i := 7) (oi := { dst := some 59, op := Op.move (Operand.tmp 10), type := 3, pos := "law.go:71", after := #[{ on := 5, ground := Ground.guard }], guard := some (5, false) }) (v := .int .i64 (n : Int)) rfl (by kernel_rfl) (by kernel_rfl) (by kernel_rfl) (fun _ _ _ h => h) (Or.inl ⟨by rfl, fun w' hw' => by (clear hw'; go_simp)⟩) hHeld ?_
    simp only [Act.put, List.setIfInBounds_toArray, List.set_cons_zero, List.set_cons_succ]
    refine wpAnyH_take (i := 8) (oi := { dst := some 60, op := Op.binOp BinOp.neq 3 (Operand.tmp 58) (Operand.tmp 59) 3, type := 4, pos := "law.go:71", after := #[{ on := 6, ground := Ground.data }, { on := 7, ground := Ground.data }, { on := 5, ground := Ground.guard }], guard := some (5, false) }) (v := .bool false) rfl (by kernel_rfl) (by kernel_rfl) (by kernel_rfl) (fun _ _ _ h => h) (Or.inl ⟨by rfl, fun w' hw' => by (clear hw'; go_simp)⟩) hHeld ?_
    simp only [Act.put, List.setIfInBounds_toArray, List.set_cons_zero, List.set_cons_succ]
    refine wpAnyH_take (i := 9) (oi := { dst := some 61, op := Op.pick (Operand.tmp 57) (Operand.const (Value.bool true)) (Operand.tmp 60), type := 4, pos := "law.go:71", after := #[{ on := 5, ground := Ground.data }, { on := 8, ground := Ground.data }], guard := none }) (v := .bool false) rfl (by kernel_rfl) (by kernel_rfl) (by kernel_rfl) (fun _ _ _ h => h) (Or.inl ⟨by rfl, fun w' hw' => by (clear hw'; go_simp)⟩) hHeld ?_
    simp only [Act.put, List.setIfInBounds_toArray, List.set_cons_zero, List.set_cons_succ]
    refine wpAnyH_take (i := 10) (oi := { dst := some 62, op := Op.move (Operand.tmp 61), type := 4, pos := "law.go:71", after := #[{ on := 9, ground := Ground.data }, { on := 5, ground := Ground.chain }], guard := none }) (v := .bool false) rfl (by kernel_rfl) (by kernel_rfl) (by kernel_rfl) (fun _ _ _ h => h) (Or.inl ⟨by rfl, fun w' hw' => by (clear hw'; go_simp)⟩) hHeld ?_
    simp only [Act.put, List.setIfInBounds_toArray, List.set_cons_zero, List.set_cons_succ]
    refine wpAnyH_take (i := 11) (oi := { dst := some 63, op := Op.move (Operand.tmp 8), type := 32, pos := "law.go:71", after := #[{ on := 10, ground := Ground.guard }], guard := some (10, false) }) (v := .int .i64 f) rfl (by kernel_rfl) (by kernel_rfl) (by kernel_rfl) (fun _ _ _ h => h) (Or.inl ⟨by rfl, fun w' hw' => by (clear hw'; go_simp)⟩) hHeld ?_
    simp only [Act.put, List.setIfInBounds_toArray, List.set_cons_zero, List.set_cons_succ]
    refine wpAnyH_take (i := 12) (oi := { dst := some 64, op := Op.move (Operand.tmp 11), type := 32, pos := "law.go:71", after := #[{ on := 10, ground := Ground.guard }], guard := some (10, false) }) (v := .int .i64 f) rfl (by kernel_rfl) (by kernel_rfl) (by kernel_rfl) (fun _ _ _ h => h) (Or.inl ⟨by rfl, fun w' hw' => by (clear hw'; go_simp)⟩) hHeld ?_
    simp only [Act.put, List.setIfInBounds_toArray, List.set_cons_zero, List.set_cons_succ]
    refine wpAnyH_take (i := 13) (oi := { dst := some 65, op := Op.binOp BinOp.neq 32 (Operand.tmp 63) (Operand.tmp 64) 32, type := 4, pos := "law.go:71", after := #[{ on := 11, ground := Ground.data }, { on := 12, ground := Ground.data }, { on := 10, ground := Ground.guard }], guard := some (10, false) }) (v := .bool false) rfl (by kernel_rfl) (by kernel_rfl) (by kernel_rfl) (fun _ _ _ h => h) (Or.inl ⟨by rfl, fun w' hw' => by (clear hw'; go_simp)⟩) hHeld ?_
    simp only [Act.put, List.setIfInBounds_toArray, List.set_cons_zero, List.set_cons_succ]
    refine wpAnyH_take (i := 14) (oi := { dst := some 66, op := Op.pick (Operand.tmp 62) (Operand.const (Value.bool true)) (Operand.tmp 65), type := 4, pos := "law.go:71", after := #[{ on := 10, ground := Ground.data }, { on := 13, ground := Ground.data }], guard := none }) (v := .bool false) rfl (by kernel_rfl) (by kernel_rfl) (by kernel_rfl) (fun _ _ _ h => h) (Or.inl ⟨by rfl, fun w' hw' => by (clear hw'; go_simp)⟩) hHeld ?_
    simp only [Act.put, List.setIfInBounds_toArray, List.set_cons_zero, List.set_cons_succ]
    refine wpAnyH_take (i := 15) (oi := { dst := some 67, op := Op.move (Operand.tmp 66), type := 4, pos := "law.go:71", after := #[{ on := 14, ground := Ground.data }, { on := 10, ground := Ground.chain }], guard := none }) (v := .bool false) rfl (by kernel_rfl) (by kernel_rfl) (by kernel_rfl) (fun _ _ _ h => h) (Or.inl ⟨by rfl, fun w' hw' => by (clear hw'; go_simp)⟩) hHeld ?_
    simp only [Act.put, List.setIfInBounds_toArray, List.set_cons_zero, List.set_cons_succ]
    refine wpAnyH_take (i := 16) (oi := { dst := some 68, op := Op.move (Operand.tmp 12), type := 48, pos := "law.go:71", after := #[{ on := 15, ground := Ground.guard }], guard := some (15, false) }) (v := .slice al L.length cl) rfl (by kernel_rfl) (by kernel_rfl) (by kernel_rfl) (fun _ _ _ h => h) (Or.inl ⟨by rfl, fun w' hw' => by (clear hw'; go_simp)⟩) hHeld ?_
    simp only [Act.put, List.setIfInBounds_toArray, List.set_cons_zero, List.set_cons_succ]
    refine wpAnyH_take (i := 18) (oi := { dst := some 70, op := Op.move (Operand.tmp 15), type := 51, pos := "law.go:71", after := #[{ on := 15, ground := Ground.guard }], guard := some (15, false) }) (v := .slice ak L.length ck) rfl (by kernel_rfl) (by kernel_rfl) (by kernel_rfl) (fun _ _ _ h => h) (Or.inl ⟨by rfl, fun w' hw' => by (clear hw'; go_simp)⟩) hHeld ?_
    simp only [Act.put, List.setIfInBounds_toArray, List.set_cons_zero, List.set_cons_succ]
    refine wpAnyH_ready (rs := [17]) (by kernel_rfl) (by simp) ?_
    refine AllReadyH.cons (o := { dst := some 69, op := Op.call { callee := Callee.value (Operand.func 25), args := #[Operand.tmp 68], argTypes := #[48] }, type := 51, pos := "law.go:71", after := #[{ on := 16, ground := Ground.data }, { on := 15, ground := Ground.chain }, { on := 15, ground := Ground.guard }], guard := some (15, false) }) rfl (fun K hK => ?_) AllReadyH.nil
    go_simp
    refine (HPL.out _ K2.out).mono ?_
    rintro e v3 ⟨va, vc, rfl, hp3, hb3⟩
    have HP3 := hid hp3
    clear hp3
    have K3 : Hid (Below w5.heap.size w5 v3) := K2.out.trans (hb3.mono K2.out.size)
    clear hb3
    go_wp2_with fail
    refine hK.out _ _ (K3.out) (fun hh => ?_)
    clear hK K hHeld
    have hHeld := hh
    clear hh
    try simp only [Act.put, List.setIfInBounds_toArray, List.set_cons_zero, List.set_cons_succ]
    refine wpAnyH_ready (rs := [19]) (by kernel_rfl) (by simp) ?_
    refine AllReadyH.cons (o := { dst := some 71, op := Op.call { callee := Callee.value (Operand.func 24), args := #[Operand.tmp 69, Operand.tmp 70], argTypes := #[51, 51] }, type := 4, pos := "law.go:71", after := #[{ on := 17, ground := Ground.data }, { on := 18, ground := Ground.data }, { on := 17, ground := Ground.chain }, { on := 15, ground := Ground.guard }], guard := some (15, false) }) rfl (fun K hK => ?_) AllReadyH.nil
    go_simp
    refine (HAL.out _ _ _ K3.out HP3.out).mono ?_
    rintro e v4 ⟨rfl, hb4⟩
    have K4 : Hid (Below w5.heap.size w5 v4) := K3.out.trans (hb4.mono K3.out.size)
    clear hb4
    go_wp2_with fail
    refine hK.out _ _ (K4.out) (fun hh => ?_)
    clear hK K hHeld
    have hHeld := hh
    clear hh
    try simp only [Act.put, List.setIfInBounds_toArray, List.set_cons_zero, List.set_cons_succ]
    refine wpAnyH_take (i := 20) (oi := { dst := some 72, op := Op.unOp UnOp.not 4 (Operand.tmp 71), type := 4, pos := "law.go:71", after := #[{ on := 19, ground := Ground.data }, { on := 15, ground := Ground.guard }], guard := some (15, false) }) (v := .bool false) rfl (by kernel_rfl) (by kernel_rfl) (by kernel_rfl) (fun _ _ _ h => h) (Or.inl ⟨by rfl, fun w' hw' => by (clear hw'; go_simp)⟩) hHeld ?_
    simp only [Act.put, List.setIfInBounds_toArray, List.set_cons_zero, List.set_cons_succ]
    refine wpAnyH_take (i := 21) (oi := { dst := some 73, op := Op.pick (Operand.tmp 67) (Operand.const (Value.bool true)) (Operand.tmp 72), type := 4, pos := "law.go:71", after := #[{ on := 15, ground := Ground.data }, { on := 20, ground := Ground.data }], guard := none }) (v := .bool false) rfl (by kernel_rfl) (by kernel_rfl) (by kernel_rfl) (fun _ _ _ h => h) (Or.inl ⟨by rfl, fun w' hw' => by (clear hw'; go_simp)⟩) hHeld ?_
    simp only [Act.put, List.setIfInBounds_toArray, List.set_cons_zero, List.set_cons_succ]
    refine wpAnyH_take (i := 22) (oi := { dst := some 74, op := Op.move (Operand.tmp 73), type := 4, pos := "law.go:71", after := #[{ on := 21, ground := Ground.data }, { on := 19, ground := Ground.chain }], guard := none }) (v := .bool false) rfl (by kernel_rfl) (by kernel_rfl) (by kernel_rfl) (fun _ _ _ h => h) (Or.inl ⟨by rfl, fun w' hw' => by (clear hw'; go_simp)⟩) hHeld ?_
    simp only [Act.put, List.setIfInBounds_toArray, List.set_cons_zero, List.set_cons_succ]
    refine wpAnyH_take (i := 23) (oi := { dst := some 75, op := Op.move (Operand.tmp 13), type := 3, pos := "law.go:71", after := #[{ on := 22, ground := Ground.guard }], guard := some (22, false) }) (v := .int .i64 (sp : Int)) rfl (by kernel_rfl) (by kernel_rfl) (by kernel_rfl) (fun _ _ _ h => h) (Or.inl ⟨by rfl, fun w' hw' => by (clear hw'; go_simp)⟩) hHeld ?_
    simp only [Act.put, List.setIfInBounds_toArray, List.set_cons_zero, List.set_cons_succ]
    refine wpAnyH_take (i := 24) (oi := { dst := some 76, op := Op.move (Operand.tmp 16), type := 3, pos := "law.go:71", after := #[{ on := 22, ground := Ground.guard }], guard := some (22, false) }) (v := .int .i64 (sp : Int)) rfl (by kernel_rfl) (by kernel_rfl) (by kernel_rfl) (fun _ _ _ h => h) (Or.inl ⟨by rfl, fun w' hw' => by (clear hw'; go_simp)⟩) hHeld ?_
    simp only [Act.put, List.setIfInBounds_toArray, List.set_cons_zero, List.set_cons_succ]
    refine wpAnyH_take (i := 25) (oi := { dst := some 77, op := Op.binOp BinOp.neq 3 (Operand.tmp 75) (Operand.tmp 76) 3, type := 4, pos := "law.go:71", after := #[{ on := 23, ground := Ground.data }, { on := 24, ground := Ground.data }, { on := 22, ground := Ground.guard }], guard := some (22, false) }) (v := .bool false) rfl (by kernel_rfl) (by kernel_rfl) (by kernel_rfl) (fun _ _ _ h => h) (Or.inl ⟨by rfl, fun w' hw' => by (clear hw'; go_simp)⟩) hHeld ?_
    simp only [Act.put, List.setIfInBounds_toArray, List.set_cons_zero, List.set_cons_succ]
    refine wpAnyH_take (i := 26) (oi := { dst := some 78, op := Op.pick (Operand.tmp 74) (Operand.const (Value.bool true)) (Operand.tmp 77), type := 4, pos := "law.go:71", after := #[{ on := 22, ground := Ground.data }, { on := 25, ground := Ground.data }], guard := none }) (v := .bool false) rfl (by kernel_rfl) (by kernel_rfl) (by kernel_rfl) (fun _ _ _ h => h) (Or.inl ⟨by rfl, fun w' hw' => by (clear hw'; go_simp)⟩) hHeld ?_
    simp only [Act.put, List.setIfInBounds_toArray, List.set_cons_zero, List.set_cons_succ]
    refine wpAnyH_take (i := 27) (oi := { dst := some 79, op := Op.move (Operand.tmp 78), type := 4, pos := "law.go:71", after := #[{ on := 26, ground := Ground.data }, { on := 22, ground := Ground.chain }], guard := none }) (v := .bool false) rfl (by kernel_rfl) (by kernel_rfl) (by kernel_rfl) (fun _ _ _ h => h) (Or.inl ⟨by rfl, fun w' hw' => by (clear hw'; go_simp)⟩) hHeld ?_
    simp only [Act.put, List.setIfInBounds_toArray, List.set_cons_zero, List.set_cons_succ]
    refine wpAnyH_take (i := 28) (oi := { dst := some 80, op := Op.move (Operand.tmp 14), type := 32, pos := "law.go:71", after := #[{ on := 27, ground := Ground.guard }], guard := some (27, false) }) (v := .int .i64 sf) rfl (by kernel_rfl) (by kernel_rfl) (by kernel_rfl) (fun _ _ _ h => h) (Or.inl ⟨by rfl, fun w' hw' => by (clear hw'; go_simp)⟩) hHeld ?_
    simp only [Act.put, List.setIfInBounds_toArray, List.set_cons_zero, List.set_cons_succ]
    refine wpAnyH_take (i := 29) (oi := { dst := some 81, op := Op.move (Operand.tmp 17), type := 32, pos := "law.go:71", after := #[{ on := 27, ground := Ground.guard }], guard := some (27, false) }) (v := .int .i64 sf) rfl (by kernel_rfl) (by kernel_rfl) (by kernel_rfl) (fun _ _ _ h => h) (Or.inl ⟨by rfl, fun w' hw' => by (clear hw'; go_simp)⟩) hHeld ?_
    simp only [Act.put, List.setIfInBounds_toArray, List.set_cons_zero, List.set_cons_succ]
    refine wpAnyH_take (i := 30) (oi := { dst := some 82, op := Op.binOp BinOp.neq 32 (Operand.tmp 80) (Operand.tmp 81) 32, type := 4, pos := "law.go:71", after := #[{ on := 28, ground := Ground.data }, { on := 29, ground := Ground.data }, { on := 27, ground := Ground.guard }], guard := some (27, false) }) (v := .bool false) rfl (by kernel_rfl) (by kernel_rfl) (by kernel_rfl) (fun _ _ _ h => h) (Or.inl ⟨by rfl, fun w' hw' => by (clear hw'; go_simp)⟩) hHeld ?_
    simp only [Act.put, List.setIfInBounds_toArray, List.set_cons_zero, List.set_cons_succ]
    refine wpAnyH_take (i := 31) (oi := { dst := some 83, op := Op.pick (Operand.tmp 79) (Operand.const (Value.bool true)) (Operand.tmp 82), type := 4, pos := "law.go:71", after := #[{ on := 27, ground := Ground.data }, { on := 30, ground := Ground.data }], guard := none }) (v := .bool false) rfl (by kernel_rfl) (by kernel_rfl) (by kernel_rfl) (fun _ _ _ h => h) (Or.inl ⟨by rfl, fun w' hw' => by (clear hw'; go_simp)⟩) hHeld ?_
    simp only [Act.put, List.setIfInBounds_toArray, List.set_cons_zero, List.set_cons_succ]
    refine wpAnyH_done (by kernel_rfl) ?_ _
    have HK6 : Hid (Kept w.heap.size w1 v4) := HKW5.out.trans (Kept.below K4.out)
    have HT6 := hid (HT5.out.below K4.out)
    have HZ6 : Hid (w.heap.size < v4.heap.size ∧ 2 ≤ v4.heap.size) := by
      have := HL1.out
      have := HZ2.out
      have := HZ3.out
      have := HZ4.out
      have := HZ5.out
      have := K4.out.size
      exact ⟨by omega, by omega⟩
    clear hHeld K1 K2 K3 K4 HP3 HPL HAL HSM HBK HP5 HR5 HC5 HD5 HY5 HQ5 HT5 HKW5 HZ2 HZ3 HZ4 HZ5 hw2a hw3a
    by_cases hbad : z < 0 ∨ (xs.length : Int) ≤ z
    · go_wp2_with fail
      refine (at_bad w.heap.size a xs.length cap z v4 hbad).mono ?_
      rintro e w7 ⟨rfl, hb7⟩
      rw [HZ.out]
      have HZO : Hid (Z.toArray.all (·.oneCell') = true) := by rw [← HZ.out]; exact all_oneCell_toArray zRec_one
      have HZI : Hid ((Try.prog.info? 35).map (·.size) = some Z.toArray.size) := by rw [Hid, show Z.toArray.size = 34 from HZL.out]; exact Try.info35
      have HS7 := hid (box_rec 35 w7 HZL.out HZL.out)
      have HB7 := hid hb7
      clear hb7
      have HFIN : Hid (∀ V, Below ((w7.alloc (.cells Z.toArray 35)).setCells w7.heap.size 0 Z).heap.size ((w7.alloc (.cells Z.toArray 35)).setCells w7.heap.size 0 Z) V → Below w.heap.size w V) := fun V hV =>
        Crc.Kept.toBelow HB1.out (HK6.out.trans (Kept.below (HB7.out.trans ((HS7.out.2.1.trans (hV.mono HS7.out.2.1.size)).mono HB7.out.size)))) (Nat.le_refl _)
      by_cases hz1 : z < 0
      · go_wp2_with (refine wpList_store_mid (by rfl) 35 _ _ (by rfl) w7.heap.size 0 Z.toArray (by rfl) (by rfl) HS7.out.1 HZI.out HZO.out ?_)
        refine (alive_any _).mono ?_
        rintro e w8 ⟨rfl, hb8⟩
        have HB8 := hid (HFIN.out _ hb8)
        clear hb8
        go_wp2_with fail
        go_ret
        exact ⟨rfl, HB8.out⟩
      · have hz2 : (xs.length : Int) ≤ z := by omega
        go_wp2_with (refine wpList_store_mid (by rfl) 35 _ _ (by rfl) w7.heap.size 0 Z.toArray (by rfl) (by rfl) HS7.out.1 HZI.out HZO.out ?_)
        refine (alive_any _).mono ?_
        rintro e w8 ⟨rfl, hb8⟩
        have HB8 := hid (HFIN.out _ hb8)
        clear hb8
        go_wp2_with fail
        go_ret
        exact ⟨rfl, HB8.out⟩
    · obtain ⟨kk, rfl⟩ : ∃ kk : Nat, z = kk := ⟨z.toNat, by omega⟩
      have hkl : kk < xs.length := by omega
      have hkl' : (kk : Int) < (xs.length : Int) := by omega
      have hk0 : ¬ ((kk : Int) < 0) := by omega
      have hkn : ¬ ((xs.length : Int) ≤ (kk : Int)) := by omega
      obtain ⟨g, o, rfl, hgb, _⟩ := H7.out (by intro e; subst e; simp at hkl)
      go_wp2_with fail
      refine (at_any w.heap.size kk _ xs v4 HT6.out (BySlS.mono (HVA.out v4 HK6.out) (fun g hg => ⟨by omega, by have := HZ6.out; omega⟩)) hkl).mono ?_
      rintro e w7 ⟨ax, cx, rfl, hby7, hnm7, hk7, ht7⟩
      obtain ⟨⟨f', ⟨k', nm', bs'⟩, n'⟩, hX'⟩ : ∃ X, takeF (xs.drop kk) = X := ⟨_, rfl⟩
      rw [hX'] at hby7 hnm7 ⊢
      dsimp only at hby7 hnm7 ⊢
      have HX' := hid hX'
      have HNM' := hid hnm7
      have HY7 := hid hby7
      have HK7 := hid hk7
      obtain ⟨E, hE⟩ : ∃ E, recA k' nm' (.slice ax bs'.length cx) = E := ⟨_, rfl⟩
      have HEL : Hid (E.length = 34) := by rw [← hE]; exact recA_length _ _ _ hnm7.1
      have HEO : Hid (E.toArray.all (·.oneCell') = true) := by rw [← hE]; exact all_oneCell_toArray (recA_one _ _ _ _ _)
      have HEI : Hid ((Try.prog.info? 35).map (·.size) = some E.toArray.size) := by rw [Hid, show E.toArray.size = 34 from HEL.out]; exact Try.info35
      have HE := hid hE
      rw [hE]
      clear hE hby7 hnm7 hk7 ht7 hX'
      have HS7 := hid (box_rec 35 w7 HZL.out HEL.out)
      go_wp2_with (refine wpList_store_mid (by rfl) 35 _ _ (by rfl) w7.heap.size 0 E.toArray (by rfl) (by rfl) HS7.out.1 HEI.out HEO.out ?_)
      obtain ⟨W7, hW7⟩ : ∃ W7, (w7.alloc (.cells Z.toArray 35)).setCells w7.heap.size 0 E = W7 := ⟨_, rfl⟩
      rw [hW7] at HS7 ⊢
      clear hW7
      have HKW7 : Hid (Kept w.heap.size w1 W7) := (HK6.out.trans HK7.out).trans (Kept.below HS7.out.2.1)
      have HZ7 : Hid (v4.heap.size ≤ w7.heap.size ∧ w7.heap.size < W7.heap.size) := ⟨HK7.out.size, by have := HS7.out.2.2.2; omega⟩
      have HYW7 := hid (BySlS.below HY7.out HS7.out.2.1 (fun g hg => hg.2))
      have HEW7 := hid HS7.out.2.2.1
      clear HS7 HY7 HK7
      have HD7 : Hid (Tlv.BySl 0 W7.heap.size W7 (.slice (some ⟨g, o + kk, none⟩) (xs.length - kk) (cap - kk)) (xs.drop kk)) := (bySlS_drop (HVA.out W7 HKW7.out) hkl).to (fun g hg => by have := HZ6.out; have := HZ7.out; omega)
      refine (rtake_any _ (xs.drop kk) W7 HD7.out (by have := HZ6.out; have := HZ7.out; omega) (by rw [List.length_drop]; omega)).mono ?_
      rintro e w8 ⟨ay, cy, rfl, hby8, hnm8, hb8⟩
      rw [HX'.out] at hby8 hnm8 ⊢
      dsimp only at hby8 hnm8 ⊢
      obtain ⟨G, hG⟩ : ∃ G, recA k' nm' (.slice ay bs'.length cy) = G := ⟨_, rfl⟩
      have HGL : Hid (G.length = 34) := by rw [← hG]; exact recA_length _ _ _ hnm8.1
      have HGO : Hid (G.toArray.all (·.oneCell') = true) := by rw [← hG]; exact all_oneCell_toArray (recA_one _ _ _ _ _)
      have HGI : Hid ((Try.prog.info? 26).map (·.size) = some G.toArray.size) := by rw [Hid, show G.toArray.size = 34 from HGL.out]; exact Try.info26
      have HG := hid hG
      have HB8 := hid hb8
      have HY8 := hid hby8
      rw [hG]
      clear hG hby8 hnm8 hb8
      have HS8 := hid (box_rec 26 w8 HZL.out HGL.out)
      go_wp2_with (refine wpList_store_mid (by rfl) 26 _ _ (by rfl) w8.heap.size 0 G.toArray (by rfl) (by rfl) HS8.out.1 HGI.out HGO.out ?_)
      obtain ⟨W8, hW8⟩ : ∃ W8, (w8.alloc (.cells Z.toArray 26)).setCells w8.heap.size 0 G = W8 := ⟨_, rfl⟩
      rw [hW8] at HS8 ⊢
      clear hW8
      have HB78 : Hid (Below W7.heap.size W7 W8) := HB8.out.trans (HS8.out.2.1.mono HB8.out.size)
      have HKW8 : Hid (Kept w.heap.size w1 W8) := HKW7.out.trans (Kept.below HB78.out)
      have HZ8 : Hid (W7.heap.size ≤ w8.heap.size ∧ w8.heap.size < W8.heap.size) := ⟨HB8.out.size, by have := HS8.out.2.2.2; omega⟩
      have HYW8 := hid (BySlS.below HYW7.out HB78.out (fun g hg => by have := HZ7.out; omega))
      have HQW8 := hid (BySlS.below HY8.out HS8.out.2.1 (fun g hg => hg.2))
      have HEW8 := hid (rangeAt_below HEW7.out HB78.out HZ7.out.2)
      have HGW8 := hid HS8.out.2.2.1
      clear HS8 HY8 HB8 HYW7 HEW7 HB78 HKW7
      have HBK : Hid (∀ V, Calls Try.prog 23 #[.agg E.toArray] V fun e w' => e = .returned (.agg E.toArray) ∧ Below V.heap.size V w') := fun V => by
        have h := back23_any k' nm' ax bs'.length cx V HNM'.out.1
        rwa [HE.out] at h
      have HSM : Hid (∀ V, Below W8.heap.size W8 V → Calls Try.prog 18 #[.agg E.toArray, .agg G.toArray] V fun e w' => e = .returned (.bool true) ∧ Below V.heap.size V w') := fun V hV => by
        have h := same18_any k' k' nm' nm' bs' bs' (.slice ax bs'.length cx) (.slice ay bs'.length cy) V HNM'.out.1 HNM'.out.1 HNM'.out.2 HNM'.out.2
          ((BySlS.below HYW8.out hV (fun g hg => by have := HZ7.out; have := HZ8.out; omega)).to (fun g hg => by have := HZ7.out; have := HZ8.out; have := hV.size; omega))
          ((BySlS.below HQW8.out hV (fun g hg => by have := HZ8.out; omega)).to (fun g hg => by have := HZ8.out; have := hV.size; omega))
        rw [HE.out, HG.out, show sameR k' k' nm' nm' bs' bs' = true from by simp [sameR]] at h
        exact h
      have HEI' : Hid ((Try.prog.info? 35).map (·.size) = some E.length) := HEI.out
      have HGI' : Hid ((Try.prog.info? 26).map (·.size) = some G.length) := HGI.out
      have hw7a : w7.heap.size < W8.heap.size := by have := HZ7.out; have := HZ8.out; omega
      have hw8a : w8.heap.size < W8.heap.size := HZ8.out.2
      go_wp2_with fail
      refine wp_region_held_drew (S := fun V => Below W8.heap.size W8 V) (by kernel_rfl) (Below.refl _ _).drew (fun hHeld => ?_)
      refine wpAnyH_take (i := 0) (oi := { dst := some 112, op := Op.load 35 (Operand.tmp 18), type := 35, pos := "law.go:79", after := #[], guard := none }) (v := .agg E.toArray) rfl (by kernel_rfl) (by kernel_rfl) (by kernel_rfl) (fun _ _ _ h => h) (yieldsIf_load_mid (by rfl) _ _ rfl w7.heap.size 0 rfl E _ (fun V hV => rangeAt_below HEW8.out hV hw7a) Try.underlying35 rfl HEI'.out) hHeld ?_
      simp only [Act.put, List.setIfInBounds_toArray, List.set_cons_zero, List.set_cons_succ]
      refine wpAnyH_take (i := 2) (oi := { dst := some 114, op := Op.load 26 (Operand.tmp 19), type := 26, pos := "law.go:79", after := #[], guard := none }) (v := .agg G.toArray) rfl (by kernel_rfl) (by kernel_rfl) (by kernel_rfl) (fun _ _ _ h => h) (yieldsIf_load_mid (by rfl) _ _ rfl w8.heap.size 0 rfl G _ (fun V hV => rangeAt_below HGW8.out hV hw8a) Try.underlying26 rfl HGI'.out) hHeld ?_
      simp only [Act.put, List.setIfInBounds_toArray, List.set_cons_zero, List.set_cons_succ]
      refine wpAnyH_ready (rs := [1]) (by kernel_rfl) (by simp) ?_
      refine AllReadyH.cons (o := { dst := some 113, op := Op.call { callee := Callee.value (Operand.func 23), args := #[Operand.tmp 112], argTypes := #[35] }, type := 26, pos := "law.go:79", after := #[{ on := 0, ground := Ground.data }], guard := none }) rfl (fun K hK => ?_) AllReadyH.nil
      go_simp
      refine (HBK.out _).mono ?_
      rintro e u1 ⟨rfl, hb1⟩
      have J1 : Hid (Below W8.heap.size W8 u1) := (Below.refl _ _).drew.trans (hb1.mono (Nat.le_refl _))
      clear hb1
      go_wp2_with fail
      refine hK.out _ _ (J1.out) (fun hh => ?_)
      clear hK K hHeld
      have hHeld := hh
      clear hh
      try simp only [Act.put, List.setIfInBounds_toArray, List.set_cons_zero, List.set_cons_succ]
      refine wpAnyH_ready (rs := [3]) (by kernel_rfl) (by simp) ?_
      refine AllReadyH.cons (o := { dst := some 115, op := Op.call { callee := Callee.value (Operand.func 18), args := #[Operand.tmp 113, Operand.tmp 114], argTypes := #[26, 26] }, type := 4, pos := "law.go:79", after := #[{ on := 1, ground := Ground.data }, { on := 2, ground := Ground.data }, { on := 1, ground := Ground.chain }], guard := none }) rfl (fun K hK => ?_) AllReadyH.nil
      go_simp
      refine (HSM.out _ J1.out).mono ?_
      rintro e u2 ⟨rfl, hb2⟩
      have J2 : Hid (Below W8.heap.size W8 u2) := J1.out.trans (hb2.mono J1.out.size)
      clear hb2
      go_wp2_with fail
      refine hK.out _ _ (J2.out) (fun hh => ?_)
      clear hK K hHeld
      have hHeld := hh
      clear hh
      try simp only [Act.put, List.setIfInBounds_toArray, List.set_cons_zero, List.set_cons_succ]
      refine wpAnyH_take (i := 4) (oi := { dst := some 116, op := Op.move (Operand.tmp 115), type := 4, pos := "law.go:79", after := #[{ on := 3, ground := Ground.data }, { on := 3, ground := Ground.chain }], guard := none }) (v := .bool true) rfl (by kernel_rfl) (by kernel_rfl) (by kernel_rfl) (fun _ _ _ h => h) (Or.inl ⟨by rfl, fun w' hw' => by (clear hw'; go_simp)⟩) hHeld ?_
      simp only [Act.put, List.setIfInBounds_toArray, List.set_cons_zero, List.set_cons_succ]
      refine wpAnyH_take (i := 5) (oi := { dst := some 117, op := Op.move (Operand.tmp 8), type := 32, pos := "law.go:79", after := #[{ on := 4, ground := Ground.guard }], guard := some (4, true) }) (v := .int .i64 f') rfl (by kernel_rfl) (by kernel_rfl) (by kernel_rfl) (fun _ _ _ h => h) (Or.inl ⟨by rfl, fun w' hw' => by (clear hw'; go_simp)⟩) hHeld ?_
      simp only [Act.put, List.setIfInBounds_toArray, List.set_cons_zero, List.set_cons_succ]
      refine wpAnyH_take (i := 6) (oi := { dst := some 118, op := Op.move (Operand.tmp 11), type := 32, pos := "law.go:79", after := #[{ on := 4, ground := Ground.guard }], guard := some (4, true) }) (v := .int .i64 f') rfl (by kernel_rfl) (by kernel_rfl) (by kernel_rfl) (fun _ _ _ h => h) (Or.inl ⟨by rfl, fun w' hw' => by (clear hw'; go_simp)⟩) hHeld ?_
      simp only [Act.put, List.setIfInBounds_toArray, List.set_cons_zero, List.set_cons_succ]
      refine wpAnyH_take (i := 7) (oi := { dst := some 119, op := Op.binOp BinOp.eql 32 (Operand.tmp 117) (Operand.tmp 118) 32, type := 4, pos := "law.go:79", after := #[{ on := 5, ground := Ground.data }, { on := 6, ground := Ground.data }, { on := 4, ground := Ground.guard }], guard := some (4, true) }) (v := .bool true) rfl (by kernel_rfl) (by kernel_rfl) (by kernel_rfl) (fun _ _ _ h => h) (Or.inl ⟨by rfl, fun w' hw' => by (clear hw'; go_simp)⟩) hHeld ?_
      simp only [Act.put, List.setIfInBounds_toArray, List.set_cons_zero, List.set_cons_succ]
      refine wpAnyH_take (i := 8) (oi := { dst := some 120, op := Op.pick (Operand.tmp 116) (Operand.tmp 119) (Operand.const (Value.bool false)), type := 4, pos := "law.go:79", after := #[{ on := 4, ground := Ground.data }, { on := 7, ground := Ground.data }], guard := none }) (v := .bool true) rfl (by kernel_rfl) (by kernel_rfl) (by kernel_rfl) (fun _ _ _ h => h) (Or.inl ⟨by rfl, fun w' hw' => by (clear hw'; go_simp)⟩) hHeld ?_
      simp only [Act.put, List.setIfInBounds_toArray, List.set_cons_zero, List.set_cons_succ]
      refine wpAnyH_take (i := 9) (oi := { dst := some 121, op := Op.move (Operand.tmp 120), type := 4, pos := "law.go:79", after := #[{ on := 8, ground := Ground.data }, { on := 4, ground := Ground.chain }], guard := none }) (v := .bool true) rfl (by kernel_rfl) (by kernel_rfl) (by kernel_rfl) (fun _ _ _ h => h) (Or.inl ⟨by rfl, fun w' hw' => by (clear hw'; go_simp)⟩) hHeld ?_
      simp only [Act.put, List.setIfInBounds_toArray, List.set_cons_zero, List.set_cons_succ]
      refine wpAnyH_ready (rs := [10]) (by kernel_rfl) (by simp) ?_
      refine AllReadyH.cons (o := { dst := some 122, op := Op.call { callee := Callee.value (Operand.func 8), args := #[], argTypes := #[] }, type := 4, pos := "law.go:79", after := #[{ on := 9, ground := Ground.chain }, { on := 9, ground := Ground.guard }], guard := some (9, true) }) rfl (fun K hK => ?_) AllReadyH.nil
      go_simp
      refine (alive_any _).mono ?_
      rintro e u3 ⟨rfl, hb3⟩
      have J3 : Hid (Below W8.heap.size W8 u3) := J2.out.trans (hb3.mono J2.out.size)
      clear hb3
      go_wp2_with fail
      refine hK.out _ _ (J3.out) (fun hh => ?_)
      clear hK K hHeld
      have hHeld := hh
      clear hh
      try simp only [Act.put, List.setIfInBounds_toArray, List.set_cons_zero, List.set_cons_succ]
      refine wpAnyH_take (i := 11) (oi := { dst := some 123, op := Op.pick (Operand.tmp 121) (Operand.tmp 122) (Operand.const (Value.bool false)), type := 4, pos := "law.go:79", after := #[{ on := 9, ground := Ground.data }, { on := 10, ground := Ground.data }], guard := none }) (v := .bool true) rfl (by kernel_rfl) (by kernel_rfl) (by kernel_rfl) (fun _ _ _ h => h) (Or.inl ⟨by rfl, fun w' hw' => by (clear hw'; go_simp)⟩) hHeld ?_
      simp only [Act.put, List.setIfInBounds_toArray, List.set_cons_zero, List.set_cons_succ]
      refine wpAnyH_take (i := 12) (oi := { dst := some 4, op := Op.assign (Operand.tmp 123), type := 4, pos := "law.go:79", after := #[{ on := 11, ground := Ground.data }, { on := 10, ground := Ground.chain }, { on := 0, ground := Ground.phase }, { on := 1, ground := Ground.phase }, { on := 2, ground := Ground.phase }, { on := 3, ground := Ground.phase }, { on := 4, ground := Ground.phase }, { on := 5, ground := Ground.phase }, { on := 6, ground := Ground.phase }, { on := 7, ground := Ground.phase }, { on := 8, ground := Ground.phase }, { on := 9, ground := Ground.phase }, { on := 10, ground := Ground.phase }, { on := 11, ground := Ground.phase }], guard := none }) (v := .bool true) rfl (by kernel_rfl) (by kernel_rfl) (by kernel_rfl) (fun _ _ _ h => h) (Or.inl ⟨by rfl, fun w' hw' => by (clear hw'; go_simp)⟩) hHeld ?_
      simp only [Act.put, List.setIfInBounds_toArray, List.set_cons_zero, List.set_cons_succ]
      refine wpAnyH_done (by kernel_rfl) ?_ _
      go_wp2_with fail
      go_ret
      exact ⟨rfl, Crc.Kept.toBelow HB1.out (HKW8.out.trans (Kept.below J3.out)) (Nat.le_refl _)⟩
end Go.Proofs.Ythbhdbjjobfchaa
end
