/-
  What must come at any rate: the chapter's example, and a record.
-/
import Derived.Test.YthbhdbjjobfchaaFrScanE
import Derived.Test.YthbhdbjjobfchaaCrcSmall
namespace Go.Proofs.Ythbhdbjjobfchaa
open Go.RowKit
open Tlv (Tr BySlS AgreeS Agree)
open Crc (hid Kept Tab)

/-- A frame that Put has just made, as bytes. -/
theorem own_bytes {w : World} {b base : Nat} {v : Value} {xs : List Int} (h : Crc.Own w base v (nats xs)) (hb : b < base) (hl : xs.length ≤ 100000) (hx : ∀ x ∈ xs, 0 ≤ x ∧ x ≤ 255) : BySlS (fun g => g ≠ b ∧ g < w.heap.size) w v xs := by
  have h1 := ofCrc (h.bySl hb (by rw [nats_length]; exact hl) (nats_lt _ hx))
  rwa [ints_nats _ hx] at h1

theorem wpList_build2 {P : Program} {ops : Array Oper} {rest : List Oper} {o : Oper} {a : Act} {w : World} {Q : Exit → Act → World → Prop} (hg : o.guard = none) (ty : TypeId) (i j : Nat) (x y : Operand) (ho : o.op = .build ty #[(i, x), (j, y)])
    (vx vy : Value) (hx : a.eval x = vx) (hy : a.eval y = vy) (C : Array Value) (hb : P.built ty [(i, vx), (j, vy)] = some C)
    (h : wpList P ops Q rest (a.put o.dst (.agg C)) w) : wpList P ops Q (o :: rest) a w := by
  have e : P.built ty ((#[(i, x), (j, y)] : Array (Nat × Operand)).map fun (i, x) => (i, a.eval x)).toList = some C := by
    rw [← hb]
    simp only [List.map_toArray, List.map_cons, List.map_nil, hx, hy]
  refine wpList_build hg ty _ ho (by rw [e]; rfl) ?_
  rw [e]
  exact h

theorem zeros32 : ∀ y ∈ List.replicate 32 (0 : Int), 0 ≤ y ∧ y ≤ 255 := by
  intro y hy
  rw [(List.mem_replicate.1 hy).2]
  omega
theorem rightX : RightR 1 (List.replicate 32 0) [120] := ⟨by omega, by omega, by simp, by simp, zeros32, by simp⟩

/-- What a store of a whole record into a variable just made asks. -/
theorem store_facts (w : World) {Z C : List Value} (hZ : Z.length = 34) (hC : C.length = 34) : World.there (w.alloc (.cells Z.toArray 35)) w.heap.size 0 C.toArray.size := by
  have h := there_new w Z 35
  rw [hZ] at h
  have e : C.toArray.size = 34 := hC
  rw [e]
  exact h

set_option maxHeartbeats 4000000 in
set_option maxRecDepth 100000 in
theorem alive_any (w : World) :
    Calls Try.prog 8 #[] w fun e w' => e = .returned (.bool true) ∧ Below w.heap.size w w' := by
  have kc := fun (w : World) (C : Array Value) (n c : Nat) => Lib.run_convert_bytes_const (P := Try.prog) w 24 5 C n c Try.underlying24 Try.underlying5
  have hz := zero35
  obtain ⟨Z, hZ⟩ : ∃ Z, zRec = Z := ⟨_, rfl⟩
  have HZ : Hid (Z.length = 34) := by rw [← hZ]; exact zRec_length
  rw [hZ] at hz
  clear hZ
  go_enter Try.func8, Try.ntmps8
  go_wp2_with fail
  refine (Crc.new_any w).mono ?_
  rintro e w1 ⟨rfl, hb1, hs1, ht1⟩
  have HB1 := hid hb1
  have HT1 : Hid (TabX w1 w.heap.size) := ⟨0, 0, .inl rfl, ht1⟩
  have hlt1 : w.heap.size < w1.heap.size := by omega
  clear hb1 hs1 ht1
  go_wp2_with fail
  refine (take_any w.heap.size _ [] w1 HT1.out (Tlv.BySlS.none _ _)).mono ?_
  rintro e w2 ⟨a1, c1, rfl, _, hn1, hk2, ht2⟩
  rw [takeF_nil] at hn1 ⊢
  simp only [noRec, List.length_nil] at hn1 ⊢
  have HK2 := hid hk2
  have HT2 := hid ht2
  obtain ⟨C1, hC1⟩ : ∃ C1, recA 0 (List.replicate 32 0) (.slice a1 0 c1) = C1 := ⟨_, rfl⟩
  have HL1 : Hid (C1.length = 34) := by rw [← hC1]; exact recA_length _ _ _ hn1.1
  have HO1 : Hid (C1.toArray.all (·.oneCell') = true) := by rw [← hC1]; exact all_oneCell_toArray (recA_one _ _ _ _ _)
  have HI1 : Hid ((Try.prog.info? 35).map (·.size) = some C1.toArray.size) := by rw [Hid, show C1.toArray.size = 34 from HL1.out]; exact Try.info35
  rw [hC1]
  clear hC1 hk2 ht2 hn1
  have HS1 := hid (store_facts w2 HZ.out HL1.out)
  go_wp2_with (refine wpList_store_mid (by rfl) 35 _ _ (by rfl) w2.heap.size 0 C1.toArray (by rfl) (by rfl) HS1.out HI1.out HO1.out ?_)
  obtain ⟨W2, hW2⟩ : ∃ W2, (w2.alloc (.cells Z.toArray 35)).setCells w2.heap.size 0 C1 = W2 := ⟨_, rfl⟩
  have hbW : Below w2.heap.size w2 W2 := by rw [← hW2]; exact ((Below.refl _ _).alloc (Nat.le_refl _) _).trans (setCells_below (Nat.le_refl _) _ _ _)
  have HKW : Hid (Kept w.heap.size w1 W2) := HK2.out.trans (Kept.below hbW)
  have HTW := hid (HT2.out.below hbW)
  rw [hW2]
  clear hW2 hbW HS1 HK2 HT2
  refine (scan_empty w.heap.size W2 HTW.out).mono ?_
  rintro e w3 ⟨rfl, hk3, ht3⟩
  have HK3 : Hid (Kept w.heap.size w1 w3) := HKW.out.trans hk3
  have HT3 := hid ht3
  clear hk3 ht3 HKW HTW
  obtain ⟨W3, hW3⟩ : ∃ W3, w3.alloc (Obj.cells #[Value.int IntKind.u8 120] 5 (1, 2)) = W3 := ⟨_, rfl⟩
  have hb3 : Below w3.heap.size w3 W3 := by rw [← hW3]; exact (Below.refl _ _).alloc (Nat.le_refl _) _
  have hx3 : Tlv.BySl 0 W3.heap.size W3 (.slice (some ⟨w3.heap.size, 0, none⟩) 1 1) [120] := by
    rw [← hW3]
    exact (ofCrc (Crc.bySl_lit w.heap.size w3 (Nat.lt_of_lt_of_le hlt1 HK3.out.size) [120] (by decide) (by decide) (1, 2))).to (fun g hg => hg.2)
  have HPUT := hid (put_yes w.heap.size 1 (List.replicate 32 0) [120] (.slice (some ⟨w3.heap.size, 0, none⟩) 1 1) W3 (HT3.out.below hb3) hx3 rightX)
  have HKW : Hid (Kept w.heap.size w1 W3) := HK3.out.trans (Kept.below hb3)
  have HBU := hid (built35b 1 (some ⟨w3.heap.size, 0, none⟩) 1 1)
  obtain ⟨C2, hC2⟩ : ∃ C2, recA 1 (List.replicate 32 0) (.slice (some ⟨w3.heap.size, 0, none⟩) 1 1) = C2 := ⟨_, rfl⟩
  rw [hC2] at HBU HPUT
  clear hC2 hb3 hx3
  go_wp2_with (refine wpList_build2 (by rfl) 35 _ _ _ _ (by rfl) _ _ (by rfl) (by rfl) _ HBU.out ?_)
  clear kc hW3
  refine HPUT.out.mono ?_
  rintro e w4 ⟨v4, rfl, ho4, hk4, ht4⟩
  have HK4 : Hid (Kept w.heap.size w1 w4) := HKW.out.trans hk4
  have HT4 := hid ht4
  have hfl : (frameR 1 (List.replicate 32 0) [120]).length = 50 := frameR_length rightX
  have HBY := hid (own_bytes (b := w.heap.size) ho4 (by have h1 := HK3.out.size; have h2 := HKW.out.size; omega) (by rw [hfl]; omega) (frameR_bd rightX))
  have HTF : Hid (takeF (frameR 1 (List.replicate 32 0) [120]) = (0, (1, List.replicate 32 0, [120]), 50)) := by
    have h := take_frame rightX []
    rw [List.append_nil] at h
    exact h
  obtain ⟨a4, c4, rfl, _⟩ := id HBY.out
  generalize hfr : frameR 1 (List.replicate 32 0) [120] = fr at *
  rw [hfl]
  clear hk4 ht4 ho4 HPUT HBU hfr
  go_wp2_with fail
  rw [hfl] at HBY
  refine (take_any w.heap.size _ fr w4 HT4.out HBY.out).mono ?_
  rintro e w5 ⟨a5, c5, rfl, hby5, hn5, hk5, ht5⟩
  rw [HTF.out] at hby5 hn5 ⊢
  simp only [List.length_cons, List.length_nil, Nat.zero_add] at hby5 hn5 ⊢
  have HK5 : Hid (Kept w.heap.size w1 w5) := HK4.out.trans hk5
  have HB5 := hid hby5
  obtain ⟨C5, hC5⟩ : ∃ C5, recA 1 (List.replicate 32 0) (.slice a5 1 c5) = C5 := ⟨_, rfl⟩
  have HL5 : Hid (C5.length = 34) := by rw [← hC5]; exact recA_length _ _ _ hn5.1
  have HO5 : Hid (C5.toArray.all (·.oneCell') = true) := by rw [← hC5]; exact all_oneCell_toArray (recA_one _ _ _ _ _)
  have HI5 : Hid ((Try.prog.info? 35).map (·.size) = some C5.toArray.size) := by rw [Hid, show C5.toArray.size = 34 from HL5.out]; exact Try.info35
  have HC33 : Hid (C5[33]? = some (.slice a5 1 c5)) := by rw [← hC5]; exact recA_33 _ _ _ hn5.1
  rw [hC5]
  clear hC5 hk5 ht5 hn5 hby5
  have HS5 := hid (store_facts w5 HZ.out HL5.out)
  obtain ⟨W5, hW5⟩ : ∃ W5, (w5.alloc (.cells Z.toArray 35)).setCells w5.heap.size 0 C5 = W5 := ⟨_, rfl⟩
  have hbW5 : Below w5.heap.size w5 W5 := by rw [← hW5]; exact ((Below.refl _ _).alloc (Nat.le_refl _) _).trans (setCells_below (Nat.le_refl _) _ _ _)
  have hq5 : W5.cell? ⟨w5.heap.size, 33, none⟩ = some (.slice a5 1 c5) := by
    have h := World.rangeAt_setCells_same (w5.alloc (.cells Z.toArray 35)) w5.heap.size 0 C5 HS5.out
    rw [hW5] at h
    have h2 := h 33 _ HC33.out
    rwa [Nat.zero_add] at h2
  have hcv := Tlv.conv_bytes ((BySlS.below HB5.out hbW5 (fun g hg => hg.2)).to (fun g hg => hg.2))
  have HKF : Hid (Kept w.heap.size w1 W5) := HK5.out.trans (Kept.below hbW5)
  clear hbW5
  go_wp2_with (refine wpList_store_mid (by rfl) 35 _ _ (by rfl) w5.heap.size 0 C5.toArray (by rfl) (by rfl) HS5.out HI5.out HO5.out ?_)
  have hst : ((strOfNums [120]).toList == [120]) = true := by decide +kernel
  go_ret
  refine ⟨?_, Crc.Kept.toBelow HB1.out HKF.out (Nat.le_refl _)⟩
  rw [hst]
  rfl
end Go.Proofs.Ythbhdbjjobfchaa
