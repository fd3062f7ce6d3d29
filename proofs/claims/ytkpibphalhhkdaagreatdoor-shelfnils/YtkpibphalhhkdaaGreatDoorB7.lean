/- Of the proof: the texts FrPut, PkBegin, PkNil, SimFile, FrFirst, one behind the other. -/
import Derived.Test.YtkpibphalhhkdaaGreatDoorB6
import Derived.Test.YtkpibphalhhkdaaGreatDoorB1
import Derived.Test.YtkpibphalhhkdaaGreatDoorB2
import Derived.Test.YtkpibphalhhkdaaGreatDoorPkShelf
section
/-
  What Size and Put answer.
-/
namespace Go.Proofs.YtkpibphalhhkdaaGreatDoor
open Go.RowKit
open Tlv (Tr BySlS AgreeS Agree)
open Crc (hid Kept Tab)

/-- A table at b, its rows filled or not. -/
def TabX (w : World) (b : Nat) : Prop := ∃ f n, (f = 0 ∨ f = 1) ∧ Tab w b f n
theorem TabX.below {w w' : World} {b : Nat} (h : TabX w b) (k : Below w.heap.size w w') : TabX w' b := by
  obtain ⟨f, n, hf, ht⟩ := h
  exact ⟨f, n, hf, ht.below k⟩
theorem TabX.lt {w : World} {b : Nat} (h : TabX w b) : b < w.heap.size := by
  obtain ⟨f, n, hf, ht⟩ := h
  exact ht.1
theorem TabX.kept {b g : Nat} {w w' : World} (h : TabX w b) (k : Kept g w w') (hg : b ≠ g) : TabX w' b := by
  obtain ⟨f, n, hf, ht⟩ := h
  exact ⟨f, n, hf, ht.kept k hg⟩
theorem TabX.of {b : Nat} {n : Int} {w : World} (h : Tab w b 1 n) : TabX w b := ⟨1, n, .inr rfl, h⟩

theorem toCrc {S : Nat → Prop} {b : Nat} {w : World} {v : Value} {xs : List Int} (h : BySlS S w v xs) (hS : ∀ g, S g → g ≠ b ∧ g < w.heap.size) : Crc.BySl b w v (nats xs) := by
  obtain ⟨a, cap, rfl, h2, h3, h4, h5, h6, h7⟩ := h
  refine ⟨a, cap, by rw [nats_length], by rw [nats_length]; exact h2, h3, fun e => ⟨by rw [(h4 e).1]; rfl, (h4 e).2⟩, by rw [nats_length]; exact h5, nats_lt _ h6, fun hne => ?_⟩
  have hne' : xs ≠ [] := fun e => hne (by rw [e]; rfl)
  obtain ⟨g, o, e, hg, hc⟩ := h7 hne'
  refine ⟨g, o, e, (hS g hg).1, (hS g hg).2, fun i hi => ?_⟩
  rw [nats_length] at hi
  rw [hc i hi]
  have hx := h6 (xs.getD i 0) (by rw [List.getD_eq_getElem?_getD, List.getElem?_eq_getElem hi]; simp)
  simp only [nats, List.getD_eq_getElem?_getD, List.getElem?_map, List.getElem?_eq_getElem hi, Option.map_some, Option.getD_some] at hx ⊢
  congr 2
  omega

theorem ofCrc {b : Nat} {w : World} {v : Value} {xs : List Nat} (h : Crc.BySl b w v xs) : BySlS (fun g => g ≠ b ∧ g < w.heap.size) w v (ints xs) := by
  obtain ⟨a, cap, rfl, h2, h3, h4, h5, h6, h7⟩ := h
  refine ⟨a, cap, by rw [ints_length], by rw [ints_length]; exact h2, h3, fun e => ⟨by rw [(h4 e).1]; rfl, (h4 e).2⟩, by rw [ints_length]; exact h5, ints_bd _ h6, fun hne => ?_⟩
  have hne' : xs ≠ [] := fun e => hne (by rw [e]; rfl)
  obtain ⟨g, o, e, hg, hg2, hc⟩ := h7 hne'
  refine ⟨g, o, e, ⟨hg, hg2⟩, fun i hi => ?_⟩
  rw [ints_length] at hi
  rw [hc i hi]
  simp [ints, List.getElem?_eq_getElem hi]

theorem BySlS.mono {S S' : Nat → Prop} {w : World} {v : Value} {xs : List Int} (h : BySlS S w v xs) (hS : ∀ g, S g → S' g) : BySlS S' w v xs := h.agree (fun _ _ => rfl) hS
theorem BySlS.kept {b : Nat} {S : Nat → Prop} {w w' : World} {v : Value} {xs : List Int} (h : BySlS S w v xs) (k : Kept b w w') (hS : ∀ g, S g → g ≠ b ∧ g < w.heap.size) : BySlS S w' v xs := h.agree (fun g hg => k.block g (hS g hg).2 (hS g hg).1) (fun _ h => h)
theorem BySlS.below {B : Nat} {S : Nat → Prop} {w w' : World} {v : Value} {xs : List Int} (h : BySlS S w v xs) (k : Below B w w') (hS : ∀ g, S g → g < B) : BySlS S w' v xs := h.agree (fun g hg => k.block g (hS g hg)) (fun _ h => h)

theorem rightB_of {k : Int} {nm bs : List Int} (h : RightR k nm bs) : rightB k bs.length = true := by
  obtain ⟨h1, h2, h3, _⟩ := h
  simp [rightB]; omega
theorem right_of {k : Int} {nm bs : List Int} (h : rightB k bs.length = true) (hn : nm.length = 32) (hx : ∀ x ∈ nm, 0 ≤ x ∧ x ≤ 255) (hy : ∀ x ∈ bs, 0 ≤ x ∧ x ≤ 255) : RightR k nm bs := by
  simp [rightB] at h
  exact ⟨by omega, by omega, by omega, hn, hx, hy⟩

set_option maxHeartbeats 1000000 in
set_option maxRecDepth 100000 in
theorem size_no (k : Int) (nm bs : List Int) (a : Option Addr) (cap : Nat) (w : World) (hn : nm.length = 32) (hR : rightB k bs.length = false) :
    Calls Tryz.prog 26 #[.agg (recA k nm (.slice a bs.length cap)).toArray] w fun e w' => e = .returned (.int .i64 0) ∧ Below w.heap.size w w' := by
  have HC0 := hid (recA_0 k nm (.slice a bs.length cap))
  have HC33 := hid (recA_33 k nm (.slice a bs.length cap) hn)
  have HL := hid (recA_length k nm (.slice a bs.length cap) hn)
  have HRR := hid hR
  clear hR
  obtain ⟨C, hC⟩ : ∃ C, recA k nm (.slice a bs.length cap) = C := ⟨_, rfl⟩
  rw [hC] at HC0 HC33 HL
  rw [hC]
  clear hC hn
  have HR := hid (range_new w C 43)
  have HI : Hid ((Tryz.prog.info? 43).map (·.size) = some C.length) := by rw [Hid, HL.out]; exact Tryz.info35
  go_enter Tryz.func26, Tryz.ntmps26
  go_wp2_with (refine wpList_load_mid (by rfl) 43 _ (by rfl) w.heap.size 0 (by rfl) C _ ?hc Tryz.underlying43 rfl HI.out ?_; (case hc => exact HR.out))
  refine (right13_any C k _ _ _ _ HC0.out HC33.out).mono ?_
  rintro e w1 ⟨rfl, hb1⟩
  rw [HRR.out]
  have HB1 : Hid (Below w.heap.size w w1) := ((Below.refl _ _).alloc (Nat.le_refl _) _).trans (hb1.mono (by simp))
  clear hb1
  go_wp2_with fail
  go_ret
  exact ⟨rfl, HB1.out⟩

set_option maxHeartbeats 1000000 in
set_option maxRecDepth 100000 in
theorem size_yes (k : Int) (nm bs : List Int) (v : Value) (w : World) (hb : Tlv.BySl 0 w.heap.size w v bs) (hR : RightR k nm bs) :
    Calls Tryz.prog 26 #[.agg (recA k nm v).toArray] w fun e w' => e = .returned (.int .i64 ((49 + bs.length : Nat) : Int)) ∧ Below w.heap.size w w' := by
  obtain ⟨a, cap, rfl, hr⟩ := id hb
  clear hr
  have HB := hid hb
  have hn := hR.2.2.2.1
  have HC0 := hid (recA_0 k nm (.slice a bs.length cap))
  have HC33 := hid (recA_33 k nm (.slice a bs.length cap) hn)
  have HL := hid (recA_length k nm (.slice a bs.length cap) hn)
  have HRR := hid hR
  have HSZ := hid (szT_rec hR)
  have hl5 := hR.2.2.1
  clear hR hb
  have HV := hid (value_any k nm bs (.slice a bs.length cap))
  obtain ⟨C, hC⟩ : ∃ C, recA k nm (.slice a bs.length cap) = C := ⟨_, rfl⟩
  rw [hC] at HC0 HC33 HL HV
  rw [hC]
  clear hC hn
  have HR := hid (range_new w C 43)
  have HI : Hid ((Tryz.prog.info? 43).map (·.size) = some C.length) := by rw [Hid, HL.out]; exact Tryz.info35
  go_enter Tryz.func26, Tryz.ntmps26
  go_wp2_with (refine wpList_load_mid (by rfl) 43 _ (by rfl) w.heap.size 0 (by rfl) C _ ?hc Tryz.underlying43 rfl HI.out ?_; (case hc => exact HR.out))
  refine (right13_any C k _ _ _ _ HC0.out HC33.out).mono ?_
  rintro e w1 ⟨rfl, hb1⟩
  rw [rightB_of HRR.out]
  have HB1 : Hid (Below w.heap.size w w1) := ((Below.refl _ _).alloc (Nat.le_refl _) _).trans (hb1.mono (by simp))
  have HR1 := hid (rangeAt_below HR.out hb1 (by simp))
  clear hb1
  go_wp2_with (refine wpList_load_mid (by rfl) 43 _ (by rfl) w.heap.size 0 (by rfl) C _ ?hc Tryz.underlying43 rfl HI.out ?_; (case hc => exact HR1.out))
  refine (HV.out w1 HRR.out.1 HRR.out.2.1 HRR.out.2.2.2.1 HRR.out.2.2.2.2.1 (HB.out.agree (Agree.below HB1.out) (Nat.le_refl _) HB1.out.size)).mono ?_
  rintro e w2 ⟨sb, sk, rfl, hr2, hb2⟩
  have HR2 := hid hr2
  have HB2 := hid hb2
  clear hr2 hb2
  go_wp2_with fail
  refine (Tlv.size_any (recT k nm bs) sb sk _ (HR2.out.agree (Agree.refl _ _ _) (Nat.zero_le _) (Nat.le_refl _))).mono ?_
  rintro e w3 ⟨rfl, hb3⟩
  rw [HSZ.out]
  have HB3 := hid hb3
  clear hb3
  go_wp2_with fail
  go_ret
  refine ⟨congrArg (fun x => Ending.returned (Value.int .i64 x)) ?_, (HB1.out.trans (HB2.out.mono HB1.out.size)).trans (HB3.out.mono (Nat.le_trans HB1.out.size HB2.out.size))⟩
  simp
  omega

set_option maxHeartbeats 1000000 in
set_option maxRecDepth 100000 in
theorem put_nil (C : List Value) (w : World) :
    Calls Tryz.prog 86 #[.pointer none, .agg C.toArray] w fun e w' => e = .returned (.tuple #[.slice none 0 0, .int .i64 18]) ∧ Below w.heap.size w w' := by
  go_enter Tryz.func86, Tryz.ntmps86
  go_wp2_with fail
  go_ret2
  exact ⟨rfl, (Below.refl _ _).alloc (Nat.le_refl _) _⟩

set_option maxHeartbeats 1000000 in
set_option maxRecDepth 100000 in
theorem put_no (ad : Addr) (k : Int) (nm bs : List Int) (a : Option Addr) (cap : Nat) (w : World) (hn : nm.length = 32) (hR : rightB k bs.length = false) :
    Calls Tryz.prog 86 #[.pointer (some ad), .agg (recA k nm (.slice a bs.length cap)).toArray] w fun e w' => e = .returned (.tuple #[.slice none 0 0, .int .i64 1]) ∧ Below w.heap.size w w' := by
  have HC0 := hid (recA_0 k nm (.slice a bs.length cap))
  have HC33 := hid (recA_33 k nm (.slice a bs.length cap) hn)
  have HL := hid (recA_length k nm (.slice a bs.length cap) hn)
  have HRR := hid hR
  clear hR
  obtain ⟨C, hC⟩ : ∃ C, recA k nm (.slice a bs.length cap) = C := ⟨_, rfl⟩
  rw [hC] at HC0 HC33 HL
  rw [hC]
  clear hC hn
  have HR := hid (range_new w C 43)
  have HI : Hid ((Tryz.prog.info? 43).map (·.size) = some C.length) := by rw [Hid, HL.out]; exact Tryz.info35
  go_enter Tryz.func86, Tryz.ntmps86
  go_wp2_with (refine wpList_load_mid (by rfl) 43 _ (by rfl) w.heap.size 0 (by rfl) C _ ?hc Tryz.underlying43 rfl HI.out ?_; (case hc => exact HR.out))
  refine (right13_any C k _ _ _ _ HC0.out HC33.out).mono ?_
  rintro e w1 ⟨rfl, hb1⟩
  rw [HRR.out]
  have HB1 : Hid (Below w.heap.size w w1) := ((Below.refl _ _).alloc (Nat.le_refl _) _).trans (hb1.mono (by simp))
  clear hb1
  go_wp2_with fail
  go_ret2
  exact ⟨rfl, HB1.out⟩

set_option maxHeartbeats 2000000 in
set_option maxRecDepth 100000 in
theorem put_yes (b : Nat) (k : Int) (nm bs : List Int) (v : Value) (w : World) (hT : TabX w b) (hb : Tlv.BySl 0 w.heap.size w v bs) (hR : RightR k nm bs) :
    Calls Tryz.prog 86 #[.pointer (some ⟨b, 0, none⟩), .agg (recA k nm v).toArray] w fun e w' => ∃ v', e = .returned (.tuple #[v', .int .i64 0]) ∧ Crc.Own w' w.heap.size v' (nats (frameR k nm bs)) ∧ Kept b w w' ∧ TabX w' b := by
  obtain ⟨a, cap, rfl, hr⟩ := id hb
  clear hr
  have HB := hid hb
  have hn := hR.2.2.2.1
  have HC0 := hid (recA_0 k nm (.slice a bs.length cap))
  have HC33 := hid (recA_33 k nm (.slice a bs.length cap) hn)
  have HL := hid (recA_length k nm (.slice a bs.length cap) hn)
  have HRR := hid hR
  have HSZ := hid (szT_rec hR)
  have HFL := hid (formR_length hR)
  have HT := hid hT
  have hbw := hT.lt
  clear hR hb hT
  have HV := hid (value_any k nm bs (.slice a bs.length cap))
  obtain ⟨C, hC⟩ : ∃ C, recA k nm (.slice a bs.length cap) = C := ⟨_, rfl⟩
  rw [hC] at HC0 HC33 HL HV
  rw [hC]
  clear hC hn
  have HR := hid (range_new w C 43)
  have HI : Hid ((Tryz.prog.info? 43).map (·.size) = some C.length) := by rw [Hid, HL.out]; exact Tryz.info35
  go_enter Tryz.func86, Tryz.ntmps86
  go_wp2_with (refine wpList_load_mid (by rfl) 43 _ (by rfl) w.heap.size 0 (by rfl) C _ ?hc Tryz.underlying43 rfl HI.out ?_; (case hc => exact HR.out))
  refine (right13_any C k _ _ _ _ HC0.out HC33.out).mono ?_
  rintro e w1 ⟨rfl, hb1⟩
  rw [rightB_of HRR.out]
  have HB1 : Hid (Below w.heap.size w w1) := ((Below.refl _ _).alloc (Nat.le_refl _) _).trans (hb1.mono (by simp))
  have HR1 := hid (rangeAt_below HR.out hb1 (by simp))
  clear hb1
  go_wp2_with (refine wpList_load_mid (by rfl) 43 _ (by rfl) w.heap.size 0 (by rfl) C _ ?hc Tryz.underlying43 rfl HI.out ?_; (case hc => exact HR1.out))
  refine (HV.out w1 HRR.out.1 HRR.out.2.1 HRR.out.2.2.2.1 HRR.out.2.2.2.2.1 (HB.out.agree (Agree.below HB1.out) (Nat.le_refl _) HB1.out.size)).mono ?_
  rintro e w2 ⟨sb, sk, rfl, hr2, hb2⟩
  have HR2 := hid hr2
  have HB2 : Hid (Below w.heap.size w w2) := HB1.out.trans (hb2.mono HB1.out.size)
  clear hr2 hb2
  go_wp2_with fail
  refine (Tlv.Put_yes (recT k nm bs) sb sk _ (HR2.out.agree (Agree.refl _ _ _) (Nat.zero_le _) (Nat.le_refl _)) (by rw [HSZ.out]; omega)).mono ?_
  rintro e w3 ⟨vf, rfl, hf3, hb3⟩
  obtain ⟨af, cf, rfl, hrf⟩ := id hf3
  clear hrf
  have HF3 := hid hf3
  have HB3 : Hid (Below w.heap.size w w3) := HB2.out.trans (hb3.mono HB2.out.size)
  have hz2 : w.heap.size ≤ w2.heap.size := HB2.out.size
  clear hf3 hb3
  go_wp2_with fail
  obtain ⟨f, n, hf, ht⟩ := (HT.out.below HB3.out)
  have hcf : Crc.BySl b w3 (.slice af (Tlv.formOf 2 (recT k nm bs)).length cf) (nats (formR k nm bs)) := toCrc HF3.out.toS (fun g hg => ⟨by omega, hg.2⟩)
  refine (Crc.seal_any b f n _ (nats (formR k nm bs)) _ hf ht hcf (by rw [nats_length, HFL.out]; have := HRR.out.2.2.1; omega)).mono ?_
  rintro e w4 ⟨v', rfl, ho, hk4, ht4⟩
  have HO := hid ho
  have HK4 := hid hk4
  have HT4 := hid ht4
  clear ho hk4 ht4 ht hcf hf
  go_wp2_with fail
  go_ret2
  refine ⟨v', rfl, ?_, (Kept.below HB3.out).trans HK4.out, TabX.of HT4.out⟩
  rw [frameR, sealI_nats]
  exact HO.out.mono HB3.out.size

end Go.Proofs.YtkpibphalhhkdaaGreatDoor
end

section
/-
  A pack is begun.
-/
namespace Go.Proofs.YtkpibphalhhkdaaGreatDoor
open Go.RowKit Go.Shelf
open Sim (hid Kp No PS Done Blk nm pCreate finds pBytes)

theorem TabX.kp {L : Nat → Prop} {w w' : World} {b : Nat} (h : TabX w b) (k : Kp L w w') (hb : ¬ L b) : TabX w' b := by
  have hlt := h.lt
  obtain ⟨f, n, hf, ht⟩ := h
  refine ⟨f, n, hf, ?_⟩
  obtain ⟨h1, h2, h3, h4, h5, h6, h7⟩ := ht
  have c : ∀ j, w'.cell? ⟨b, j, none⟩ = w.cell? ⟨b, j, none⟩ := fun j => k.cell (p := ⟨b, j, none⟩) hlt hb
  refine ⟨Nat.lt_of_lt_of_le h1 k.size, (c _).trans h2, (c _).trans h3, (c _).trans h4, fun j hj => ?_, fun e j hj => (c _).trans (h6 e j hj), fun j => (k.frozen (p := ⟨b, j, none⟩) hlt hb).trans (h7 j)⟩
  obtain ⟨x, hx⟩ := h5 j hj
  exact ⟨x, (c _).trans hx⟩
theorem kp_kept {b : Nat} {w w' : World} (k : Crc.Kept b w w') : Kp (fun x => x = b) w w' := ⟨k.os, k.tape, k.output, k.size, fun i hi hL => k.block i hi hL⟩
theorem sys_kept {P : Nat → Prop} {N b s : Nat} {w w' : World} {p : PS} (h : Sim.Sys P N w s p) (k : Crc.Kept b w w') (hb : ¬ P b) : Sim.Sys P N w' s p :=
  h.kp (kp_kept k) (fun x hx => by rw [hx]; exact hb)

/-- A writer's cells. -/
def wrC (s b : Nat) (i sz ct : Int) (cl : Bool) : List Value := [.pointer (some ⟨s, 0, none⟩), .pointer (some ⟨b, 0, none⟩), .int .i64 i, .int .i64 sz, .int .i64 ct, .bool cl]
def WrAt (w : World) (g s b : Nat) (i sz ct : Int) (cl : Bool) : Prop := Blk w g 148 (wrC s b i sz ct cl)

theorem name_le (p : ByteArray) (hp : p.size ≤ 100) (i : Nat) (h : i < 100) : (sortB p i).size ≤ 20000000 := by
  have := dec_small i h
  have e : (sortB p i).size = p.size + (Lib.decDigits i).length := by
    rw [sortB, ByteArray.size_append]
    rfl
  omega

set_option maxHeartbeats 1000000 in
theorem begin_any {P : Nat → Prop} {N : Nat} (w : World) (s b : Nat) (p : PS) (i : Nat) (h1 : 1 ≤ i) (h2 : i < 100) (h : Sim.Sys P N w s p) (hN : N + 1 ≤ 1000) :
    Calls Tryz.prog 39 #[.pointer (some ⟨s, 0, none⟩), .pointer (some ⟨b, 0, none⟩), .int .i64 (i : Int)] w fun e w' =>
      (finds p (nm (nameP i)) = 0 ∧ e = .returned (.tuple #[.pointer none, .int .i64 6]) ∧ Kp No w w') ∨
      (finds p (nm (nameP i)) ≠ 0 ∧ ∃ x, p.files x = none ∧
        (((pCreate (nm (nameT i)) x p).1 ≠ 0 ∧ e = .returned (.tuple #[.pointer none, .int .i64 ((pCreate (nm (nameT i)) x p).1 : Nat)]) ∧ Done P (N + 1) w w' s (pCreate (nm (nameT i)) x p).2) ∨
         ((pCreate (nm (nameT i)) x p).1 = 0 ∧ ∃ g P', e = .returned (.tuple #[.pointer (some ⟨g, 0, none⟩), .int .i64 0]) ∧ WrAt w' g s b i 0 0 false ∧ Sim.Sys P' (N + 1) w' s (pCreate (nm (nameT i)) x p).2 ∧ Kp P w w' ∧ (∀ x, P' x → P x ∨ w.heap.size ≤ x) ∧ ¬ P' g ∧ w.heap.size ≤ g))) := by
  have HID : Hid (∀ V, Calls Tryz.prog 49 #[.int .i64 (i : Int)] V fun e w' => e = .returned (.bool true) ∧ w' = V) := fun V => by
    have h := isID_any (i : Int) V
    rwa [show idB (i : Int) = true from by simp [idB]; omega] at h
  have HNM := hid (fun V => pname_small i h1 h2 V)
  have HTM := hid (fun V => ptemp_small i h1 h2 V)
  have HSZ := hid (Sim.size_any w s p (nameP i) (name_le _ (by decide) i h2) h)
  have HCR := hid (fun V (k : Kp No w V) => Sim.create_any V s p (nameT i) (name_le _ (by decide) i h2) (h.kept k) hN)
  generalize (pBytes (nm (nameP i)) p).length = ln at HSZ
  by_cases h0 : finds p (nm (nameP i)) = 0
  · rw [h0] at HSZ
    go_enter Tryz.func39, Tryz.ntmps39
    go_wp2_with (first
      | (go_at_call 49; refine (HID.out _).mono ?_; rintro e w1 ⟨rfl, h⟩; subst w1)
      | (go_at_call 32; refine (HNM.out _).mono ?_; rintro e w1 ⟨rfl, h⟩; subst w1)
      | (go_at_call 31; refine HSZ.out.mono ?_; rintro e w1 ⟨rfl, h⟩; have HK := hid h; clear h))
    go_ret2
    exact .inl ⟨h0, rfl, HK.out⟩
  · have HF := hid h0
    obtain ⟨F, hF⟩ : ∃ F, finds p (nm (nameP i)) = F := ⟨_, rfl⟩
    rw [hF] at HSZ h0
    have hF0 : ¬ ((F : Int) = 0) := by omega
    clear hF
    go_enter Tryz.func39, Tryz.ntmps39
    go_wp2_with (first
      | (go_at_call 49; refine (HID.out _).mono ?_; rintro e w1 ⟨rfl, h⟩; subst w1)
      | (go_at_call 32; refine (HNM.out _).mono ?_; rintro e w1 ⟨rfl, h⟩; subst w1)
      | (go_at_call 42; refine (HTM.out _).mono ?_; rintro e w2 ⟨rfl, h⟩; subst w2)
      | (go_at_call 31; refine HSZ.out.mono ?_; rintro e w1 ⟨rfl, h⟩; have HK := hid h; clear h))
    refine (HCR.out w1 HK.out).mono ?_
    rintro e w3 ⟨x, hx, rfl, P', hS, hKp, hP'⟩
    have HX := hid (And.intro hx (And.intro hS (And.intro hKp hP')))
    clear hx hS hKp hP'
    by_cases hc : (pCreate (nm (nameT i)) x p).1 = 0
    · have HC := hid hc
      rw [hc]
      clear hc
      go_wp2_with fail
      go_ret2
      obtain ⟨hx, hS, hKp, hP'⟩ := HX.out
      have hk0 := HK.out.size
      have hk1 := hKp.size
      refine .inr ⟨HF.out, x, hx, .inr ⟨HC.out, w3.heap.size, P', rfl, Blk.new w3 148 (wrC s b i 0 0 false), hS.kept ((Kp.refl _ _).alloc _), ?_, fun y hy => ?_, fun hy => ?_, by omega⟩⟩
      · exact (HK.out.ofNo.trans hKp (fun _ hx => .inl hx)).alloc _
      · rcases hP' y hy with h | h
        · exact .inl h
        · right; omega
      · have := hS.lt _ hy; omega
    · have HC := hid hc
      obtain ⟨G, hG⟩ : ∃ G, (pCreate (nm (nameT i)) x p).1 = G := ⟨_, rfl⟩
      have HG := hid hG
      rw [hG] at hc ⊢
      have hG0 : ¬ ((G : Int) = 0) := by omega
      clear hG
      go_wp2_with fail
      go_ret2
      obtain ⟨hx, hS, hKp, hP'⟩ := HX.out
      refine .inr ⟨HF.out, x, hx, .inl ⟨HC.out, by rw [HG.out]; rfl, Done.after ⟨P', hS, hKp, hP'⟩ HK.out⟩⟩
end Go.Proofs.YtkpibphalhhkdaaGreatDoor
end

section
/-
  What is said of no file system, no table, no writer.
-/
namespace Go.Proofs.YtkpibphalhhkdaaGreatDoor
open Go.RowKit Go.Shelf
open Sim (hid Kp No PS Done Blk nm pCreate finds pBytes)

theorem begin_nil (v : Value) (z : Int) (w : World) : Calls Tryz.prog 39 #[.pointer none, v, .int .i64 z] w fun e w' => e = .returned (.tuple #[.pointer none, .int .i64 18]) ∧ w' = w := by
  go_enter Tryz.func39, Tryz.ntmps39
  go_wp2
  go_ret2
  exact ⟨rfl, rfl⟩
theorem begin_nilT (a : Addr) (z : Int) (w : World) : Calls Tryz.prog 39 #[.pointer (some a), .pointer none, .int .i64 z] w fun e w' => e = .returned (.tuple #[.pointer none, .int .i64 18]) ∧ w' = w := by
  go_enter Tryz.func39, Tryz.ntmps39
  go_wp2
  go_ret2
  exact ⟨rfl, rfl⟩
theorem wrongW_nil (w : World) : Calls Tryz.prog 66 #[.pointer none] w fun e w' => e = .returned (.int .i64 18) ∧ w' = w := by
  go_enter Tryz.func66, Tryz.ntmps66
  go_wp2
  go_ret
  exact ⟨rfl, rfl⟩
theorem wrongW_any (w : World) (g s b : Nat) (i sz ct : Int) (cl : Bool) (h : WrAt w g s b i sz ct cl) : Calls Tryz.prog 66 #[.pointer (some ⟨g, 0, none⟩)] w fun e w' => e = .returned (.int .i64 (if cl then 13 else 0)) ∧ w' = w := by
  have c0 : w.cell? ⟨g, 0, none⟩ = some (.pointer (some ⟨s, 0, none⟩)) := h.cell 0
  have c5 : w.cell? ⟨g, 5, none⟩ = some (.bool cl) := h.cell 5
  clear h
  cases cl with
  | false =>
    go_enter Tryz.func66, Tryz.ntmps66
    go_wp2
    go_ret
    exact ⟨rfl, rfl⟩
  | true =>
    go_enter Tryz.func66, Tryz.ntmps66
    go_wp2
    go_ret
    exact ⟨rfl, rfl⟩
theorem sizeW_nil (w : World) : Calls Tryz.prog 65 #[.pointer none] w fun e w' => e = .returned (.int .i64 0) ∧ w' = w := by
  go_enter Tryz.func65, Tryz.ntmps65
  go_wp2
  go_ret
  exact ⟨rfl, rfl⟩
theorem sealW_nil (w : World) : Calls Tryz.prog 41 #[.pointer none] w fun e w' => e = .returned (.int .i64 18) ∧ w' = w := by
  go_enter Tryz.func41, Tryz.ntmps41
  go_wp2_with (go_at_call 66; refine (wrongW_nil _).mono ?_; rintro e w1 ⟨rfl, h⟩; subst w1)
  go_ret
  exact ⟨rfl, rfl⟩
theorem drop_nil (z : Int) (w : World) : Calls Tryz.prog 28 #[.pointer none, .int .i64 z] w fun e w' => e = .returned (.int .i64 18) ∧ w' = w := by
  go_enter Tryz.func28, Tryz.ntmps28
  go_wp2
  go_ret
  exact ⟨rfl, rfl⟩
theorem clean_nil (w : World) : Calls Tryz.prog 18 #[.pointer none] w fun e w' => e = .returned (.tuple #[.int .i64 0, .int .i64 18]) ∧ w' = w := by
  go_enter Tryz.func18, Tryz.ntmps18
  go_wp2
  go_ret2
  exact ⟨rfl, rfl⟩
theorem pread_nil (v : Value) (z : Int) (w : World) : Calls Tryz.prog 43 #[.pointer none, v, .int .i64 z] w fun e w' => e = .returned (.tuple #[.slice none 0 0, .int .i64 18]) ∧ w' = w := by
  go_enter Tryz.func43, Tryz.ntmps43
  go_wp2
  go_ret2
  exact ⟨rfl, rfl⟩
theorem pread_nilT (a : Addr) (z : Int) (w : World) : Calls Tryz.prog 43 #[.pointer (some a), .pointer none, .int .i64 z] w fun e w' => e = .returned (.tuple #[.slice none 0 0, .int .i64 18]) ∧ w' = w := by
  go_enter Tryz.func43, Tryz.ntmps43
  go_wp2
  go_ret2
  exact ⟨rfl, rfl⟩
theorem load_nil (a : Addr) (z : Int) (w : World) : Calls Tryz.prog 27 #[.pointer none, .pointer (some a), .int .i64 z] w fun e w' => e = .returned (.tuple #[.slice none 0 0, .int .i64 18]) ∧ w' = w := by
  go_enter Tryz.func27, Tryz.ntmps27
  go_wp2_with (go_at_call 43; refine (pread_nil _ _ _).mono ?_; rintro e w1 ⟨rfl, h⟩; subst w1)
  go_ret2
  exact ⟨rfl, rfl⟩
/-- Nothing is picked of no file system. -/
theorem pickS_nil (f : Value) (w : World) : Calls Tryz.prog 56 #[.pointer none, f] w fun e w' => e = .returned (.slice none 0 0) ∧ w' = w := by
  go_enter Tryz.func56, Tryz.ntmps56
  go_wp2_with (go_at_call 76; refine (Sim.list_nil _).mono ?_; rintro e w1 ⟨rfl, h⟩; subst w1)
  go_loop [5, 13] (fun l i => l = .slice none 0 0 ∧ i = .int .i64 0) (fun _ _ => 0)
  case atStart => exact ⟨rfl, rfl⟩
  case round =>
    obtain ⟨rfl, rfl⟩ := hrel
    go_wp2
    go_ret
    exact ⟨rfl, rfl⟩
theorem pickI_nil (f : Value) (w : World) : Calls Tryz.prog 53 #[.pointer none, f] w fun e w' => e = .returned (.slice none 0 0) ∧ w' = w := by
  go_enter Tryz.func53, Tryz.ntmps53
  go_wp2_with (go_at_call 76; refine (Sim.list_nil _).mono ?_; rintro e w1 ⟨rfl, h⟩; subst w1)
  go_loop [5, 13] (fun l i => l = .slice none 0 0 ∧ i = .int .i64 0) (fun _ _ => 0)
  case atStart => exact ⟨rfl, rfl⟩
  case round =>
    obtain ⟨rfl, rfl⟩ := hrel
    go_wp2
    go_ret
    exact ⟨rfl, rfl⟩
theorem temps_nil (w : World) : Calls Tryz.prog 34 #[.pointer none] w fun e w' => e = .returned (.slice none 0 0) ∧ Below w.heap.size w w' := by
  go_enter Tryz.func34, Tryz.ntmps34
  go_wp2_with (go_at_call 56; refine (pickS_nil _ _).mono ?_; rintro e w1 ⟨rfl, h⟩; subst w1)
  go_ret
  exact ⟨rfl, Below.refl _ _⟩
theorem ids_nil (w : World) : Calls Tryz.prog 33 #[.pointer none] w fun e w' => e = .returned (.slice none 0 0) ∧ Below w.heap.size w w' := by
  have hs : Hid (∀ V, Calls Tryz.prog 55 #[.slice none 0 0] V fun e w' => e = .returned (.tuple #[]) ∧ w' = V) := fun V => Any.slices_Sort_int_none Sim.Tryz.sortI none 0 V
  go_enter Tryz.func33, Tryz.ntmps33
  go_wp2_with (first
    | (go_at_call 53; refine (pickI_nil _ _).mono ?_; rintro e w1 ⟨rfl, h⟩; subst w1)
    | (go_at_call 55; refine (hs.out _).mono ?_; rintro e w1 ⟨rfl, h⟩; subst w1))
  go_ret
  exact ⟨rfl, Below.refl _ _⟩
end Go.Proofs.YtkpibphalhhkdaaGreatDoor
end

section
/-
  A file is written: Append, Fsync, Flip.
-/
namespace Go.Proofs.YtkpibphalhhkdaaGreatDoor.Sim
open Go.RowKit Go.Maps

/-- A file's block, or its bytes', are written. -/
theorem rq_setF {P P' : Nat → Prop} {I J : PS → Prop} {W W' : World} {s b : Nat} {q : PS} {vs vf vc v' : Value} {u : Nat → Value} {f f' : Fl} (h : Rp P I W s q vs vf vc u) (hb : q.files b = some f)
    (K : Kp (fun k => k = b ∨ (u b).ownBlock = some k) W W') (hF : FileAt W' b v' f') (hv : ∀ k, v'.ownBlock = some k → (u b).ownBlock = some k ∨ W.heap.size ≤ k) (hPP : ∀ x, P x → P' x) (hlt : ∀ x, P' x → x < W'.heap.size) (hvP : ∀ k, v'.ownBlock = some k → P' k) (hi : J (setF b f' q)) :
    Rp P' J W' s (setF b f' q) vs vf vc (fun x => if x = b then v' else u x) ∧ Kp P W W' := by
  obtain ⟨hPb, hFb, hPu⟩ := h.file b f hb
  have nb : ∀ x t cs, Blk W x t cs → x ≠ b → t ≠ 5 → ¬ (x = b ∨ (u b).ownBlock = some x) := fun x t cs hx hne ht e => by
    rcases e with e | e
    · exact hne e
    · exact hFb.own.row.ne hx ht e
  have nm' : ∀ m l, MapAt W m l → ¬ (m = b ∨ (u b).ownBlock = some m) := fun m l hm e => by
    rcases e with e | e
    · exact hm.blk hFb.blk e
    · exact hm.row hFb.own.row e
  have KP : Kp P W W' := K.mono (fun x hx => by
    rcases hx with rfl | hx
    · exact .inl hPb
    · exact .inl (hPu x hx))
  refine ⟨?_, KP⟩
  exact {
    lt := hlt
    ps := hPP _ h.ps
    blk := h.blk.kp K (nb s _ _ h.blk (h.blk.ne hFb.blk (by decide)) (by decide))
    seen := by
      rcases h.seen with ⟨h1, h2⟩ | ⟨m, h1, h2⟩
      · exact .inl ⟨h1, h2⟩
      · exact .inr ⟨m, h1, h2.kp K (nm' m _ h2)⟩
    safe := by
      rcases h.safe with ⟨h1, h2⟩ | ⟨m, h1, h2⟩
      · exact .inl ⟨h1, h2⟩
      · exact .inr ⟨m, h1, h2.kp K (nm' m _ h2)⟩
    unmade := h.unmade
    mades := fun e => by obtain ⟨a, c, h1, h2, h3, h4, h5⟩ := h.mades e; exact ⟨a, c, h1, h2, h3, hPP _ h4, hPP _ h5⟩
    chg := h.chg.kp K (fun x hx e => by
      rcases e with e | e
      · exact h.chg.ne hFb.blk (by decide) (by rw [hx, e])
      · exact hFb.own.row.ne' h.chg (by decide) x e hx)
    pc := fun x hx => hPP _ (h.pc x hx)
    file := fun x g hg => by
      have hg' : (if x = b then some f' else q.files x) = some g := hg
      by_cases e : x = b
      · subst e
        rw [if_pos rfl] at hg' ⊢
        cases hg'
        exact ⟨hPP _ hPb, hF, hvP⟩
      · rw [if_neg e] at hg' ⊢
        obtain ⟨h1, h2, h3⟩ := h.file x g hg'
        exact ⟨hPP _ h1, h2.kp K (nb x _ _ h2.blk e (by decide)) (fun k hk e' => by
          rcases e' with e' | e'
          · exact h2.own.row.ne hFb.blk (by decide) (by rw [hk, e'])
          · exact h.sep b x f g hb hg' (Ne.symm e) k e' hk), fun k hk => hPP _ (h3 k hk)⟩
    sep := fun x y g g' hx hy hne k hk => by
      have hx' : (if x = b then some f' else q.files x) = some g := hx
      have hy' : (if y = b then some f' else q.files y) = some g' := hy
      by_cases ex : x = b
      · subst ex
        have ey : y ≠ x := Ne.symm hne
        rw [if_pos rfl] at hk
        rw [if_neg ey] at hy' ⊢
        rcases hv k hk with h1 | h1
        · exact h.sep x y f g' hb hy' hne k h1
        · intro e
          have := h.lt k ((h.file y g' hy').2.2 k e)
          omega
      · rw [if_neg ex] at hx' hk
        by_cases ey : y = b
        · subst ey
          rw [if_pos rfl]
          intro e
          rcases hv k e with h1 | h1
          · exact h.sep x y g f hx' hb hne k hk h1
          · have := h.lt k ((h.file x g hx').2.2 k hk)
            omega
        · rw [if_neg ey] at hy' ⊢
          exact h.sep x y g g' hx' hy' hne k hk
    inv := hi }

theorem rp_setF {P : Nat → Prop} {I : PS → Prop} {M : Nat} {W W' : World} {s b : Nat} {q : PS} {vs vf vc v' : Value} {u : Nat → Value} {f f' : Fl} (h : Rp P I W s q vs vf vc u) (hb : q.files b = some f)
    (K : Kp (fun k => k = b ∨ (u b).ownBlock = some k) W W') (hF : FileAt W' b v' f') (hv : ∀ k, v'.ownBlock = some k → (u b).ownBlock = some k ∨ W.heap.size ≤ k) (hi : PInv M (setF b f' q)) :
    Sys (Ext P W W') M W' s (setF b f' q) ∧ Kp P W W' := by
  obtain ⟨h1, h2⟩ := rq_setF (P' := Ext P W W') (J := PInv M) h hb K hF hv (fun x hx => .inl hx) (fun x hx => by
    rcases hx with hx | hx
    · exact Nat.lt_of_lt_of_le (h.lt x hx) K.size
    · exact hx.2) (fun k hk => by
    rcases hv k hk with h1 | h1
    · exact .inl ((h.file b f hb).2.2 k h1)
    · exact .inr ⟨h1, hF.own.row.lt k hk⟩) hi
  exact ⟨⟨vs, vf, vc, _, h1⟩, h2⟩

/-! ### Fsync -/
theorem fsync_nil (t : ByteArray) (w : World) : Calls Tryz.prog 89 #[.pointer none, .string t] w fun e w' => e = .returned (.int .i64 18) ∧ Kp No w w' := by
  go_enter Tryz.func89, Tryz.ntmps89
  go_wp2_with (go_at_call 51; refine (find_nil t _).mono ?_; rintro e w1 ⟨rfl, h1⟩; have H1 := hid h1; clear h1)
  go_ret
  exact ⟨rfl, H1.out.alloc _⟩

set_option maxHeartbeats 1000000 in
theorem fsync1_any (W : World) (x b : Nat) (a : Option Addr) (n cap m : Nat) (hx : W.cell? ⟨x, 0, none⟩ = some (.pointer (some ⟨b, 0, none⟩))) (hb : Blk W b 134 [.slice a n cap, .int .i64 (m : Int)]) :
    Calls Tryz.prog 125 #[.pointer (some ⟨x, 0, none⟩)] W fun e w' => e = .returned (.tuple #[]) ∧ ∃ W1, Kp No W W1 ∧ w' = W1.setCell ⟨b, 1, none⟩ (.int .i64 (n : Int)) := by
  have c0 : W.cell? ⟨b, 0, none⟩ = some (.slice a n cap) := hb.cell 0
  have c1 : W.cell? ⟨b, 1, none⟩ = some (.int .i64 (m : Int)) := hb.cell 1
  have f1 := hb.frozen 1
  clear hb
  go_enter Tryz.func125, Tryz.ntmps125
  go_wp2_with fail
  go_region
  all_goals
    go_wp2_with fail
    go_end0
    exact ⟨rfl, W.drew, (Kp.refl _ _).drew, rfl⟩

/-- A step that writes a file. -/
theorem step_file {P : Nat → Prop} {N : Nat} (w0 w : World) (s : Nat) (p : PS) (b : Nat) (f' : Fl) (hk0 : Kp No w0 w) (h : Sys P N w0 s p) (hN : N + 1 ≤ 1000) (fn : FuncId) (caps : Array Value) (ent : ∀ args w, (callFunc fn args).run Tryz.prog w = .ok (.enter fn args) w)
    (hc : ∀ W vs vf vc u, Kp (· = s) w W → Rp P (PInv (N + 1)) W s (tick p) vs vf vc u → Calls Tryz.prog fn caps W fun e w' => e = .returned (.tuple #[]) ∧ Sys (Ext P W w') (N + 1) w' s (setF b f' (tick p)) ∧ Kp P W w') :
    Calls Tryz.prog 60 #[.pointer (some ⟨s, 0, none⟩), .func (.func fn) #[] caps] w fun e w' => e = .returned (.int .i64 ((stp p (setF b f')).1 : Nat)) ∧ Done P (N + 1) w0 w' s (stp p (setF b f')).2 := by
  have hps := h.c.1
  cases hd : dead p with
  | true =>
    have e1 : stp p (setF b f') = (12, fall p) := by simp [stp, hd]
    rw [e1]
    refine (step_dead w s p (h.kept hk0) hd _).mono ?_
    rintro e w' ⟨rfl, hS, hk⟩
    exact ⟨rfl, P, hS.more (by omega) hN, (hk0.mono (fun _ h => h.elim)).trans hk (fun x hx => .inl (by subst hx; exact hps)), fun _ h => .inl h⟩
  | false =>
    have e1 : stp p (setF b f') = (0, setF b f' (tick p)) := by simp [stp, hd]
    rw [e1]
    refine step_live w s p (h.kept hk0) hd hN fn caps ent _ ?_
    rintro W kW ⟨vs, vf, vc, u, hR⟩
    refine (hc W vs vf vc u kW hR).mono ?_
    rintro e w' ⟨rfl, hS, hk⟩
    have kw : Kp P w0 W := (hk0.mono (fun _ h => h.elim)).trans kW (fun x hx => .inl (by subst hx; exact hps))
    refine ⟨rfl, _, hS, kw.trans hk (fun x hx => .inl hx), fun x hx => ?_⟩
    rcases hx with hx | hx
    · exact .inl hx
    · exact .inr (Nat.le_trans kw.size hx.1)

/-- The place of a box behind what a step has written. -/
theorem boxed {s : Nat} {w1 W : World} {v : Value} {t : TypeId} (hs : s < w1.heap.size) (k : Kp (· = s) (w1.alloc (.cells #[v] t)) W) : W.cell? ⟨w1.heap.size, 0, none⟩ = some v := by
  have := (Blk.new w1 t [v]).kp k (fun e => by omega)
  exact this.cell 0

set_option maxHeartbeats 1000000 in
theorem fsync_any {P : Nat → Prop} {N : Nat} (w : World) (s : Nat) (p : PS) (t : ByteArray) (ht : t.size ≤ 20000000) (h : Sys P N w s p) (hN : N + 1 ≤ 1000) :
    Calls Tryz.prog 89 #[.pointer (some ⟨s, 0, none⟩), .string t] w fun e w' => e = .returned (.int .i64 ((pFsync (nm t) p).1 : Nat)) ∧ Done P (N + 1) w w' s (pFsync (nm t) p).2 := by
  have HC := hid (find_any w s p t ht h)
  have hI := h.inv
  have H := hid h
  have hmk := hmf
  have hsl := h.c.2.1
  by_cases h0 : finds p (nm t) = 0
  · obtain ⟨b, hb⟩ := found_zero hI h0
    obtain ⟨_, hd, _⟩ := pBytes_of hb
    have hf := hI.hasFound hd
    have e1 : pFsync (nm t) p = stp p (setF b ⟨(fileAt p b).b, (fileAt p b).b.length⟩) := by simp [pFsync, h0, blockOf, hd]
    have HST : Hid (∀ w1, Kp No w w1 → Calls Tryz.prog 60 #[.pointer (some ⟨s, 0, none⟩), .func (.func 125) #[] #[.pointer (some ⟨w1.heap.size, 0, none⟩)]] (w1.alloc (.cells #[.pointer (some ⟨b, 0, none⟩)] 130)) fun e w' =>
        e = .returned (.int .i64 ((pFsync (nm t) p).1 : Nat)) ∧ Done P (N + 1) w w' s (pFsync (nm t) p).2) := by
      intro w1 hk
      rw [e1]
      refine step_file w _ s p b _ (hk.alloc _) h hN 125 _ (enters_of Tryz.func125 (by kernel_rfl) rfl) ?_
      intro W vs vf vc u kW hR
      obtain ⟨hPb, hFb, hPu⟩ := hR.file b _ hf
      obtain ⟨a, cap, hv, hle, _⟩ := hFb.own.shape
      have hblk := hFb.blk
      rw [hv] at hblk
      refine (fsync1_any W w1.heap.size b a _ cap _ (boxed (Nat.lt_of_lt_of_le hsl hk.size) kW) hblk).mono ?_
      rintro e w' ⟨rfl, W1, k1, rfl⟩
      have kK : Kp (fun k => k = b ∨ (u b).ownBlock = some k) W (W1.setCell ⟨b, 1, none⟩ (.int .i64 ((fileAt p b).b.length : Int))) := (k1.mono (fun _ h => h.elim)).setCell (p := ⟨b, 1, none⟩) (.inl (.inl rfl)) _
      have hS := rp_setF (f' := ⟨(fileAt p b).b, (fileAt p b).b.length⟩) (v' := u b) hR hf kK ?_ (fun k hk => .inl hk) (inv_setF hR.inv (show (fileAt p b).b.length ≤ 12000 * (N + 1) from hR.inv.lfile b (fileAt p b) hf))
      · exact ⟨rfl, hS.1, hS.2⟩
      · refine ⟨(hFb.blk.kp k1 (fun h => h)).setCell 1 _, ?_, hFb.byt, Nat.le_refl _⟩
        exact (hFb.own.kept k1).row.kp (Kp.set1 W1 b 1 _) (fun k hk e => hFb.own.row.ne hFb.blk (by decide) (by rw [hk, e]))
    rw [h0, hb] at HC
    have e0 : ptrV (some b) = .pointer (some ⟨b, 0, none⟩) := rfl
    rw [e0] at HC
    generalize pFsync (nm t) p = R at *
    clear e1 e0 hd hb h0 hI h hf
    go_enter Tryz.func89, Tryz.ntmps89
    go_wp2_with (first | (go_at_call 51; refine (HC.out).mono ?_; rintro e w1 ⟨rfl, h1⟩; have H1 := hid h1; clear h1) | (go_at_call 60; refine (HST.out w1 H1.out).mono ?_; rintro e w2 ⟨rfl, h2⟩; have H2 := hid h2; clear h2))
    go_ret
    exact ⟨rfl, H2.out⟩
  · have e1 : pFsync (nm t) p = (finds p (nm t), p) := by simp [pFsync, h0]
    have hn : foundP p (nm t) = none := by simp [foundP, h0]
    rw [e1]
    rw [hn] at HC
    have e0 : ptrV none = .pointer none := rfl
    rw [e0] at HC
    generalize finds p (nm t) = x at *
    have hne : ((x : Int) != 0) = true := by simp; omega
    clear e1 e0 hn h0 hI h
    go_enter Tryz.func89, Tryz.ntmps89
    go_wp2_with (go_at_call 51; refine (HC.out).mono ?_; rintro e w1 ⟨rfl, h1⟩; have H1 := hid h1; clear h1)
    go_ret
    exact ⟨rfl, (Done.of (H.out.more (by omega) hN) (Kp.refl _ _)).kept (H1.out.alloc _)⟩

/-! ### Append -/
set_option maxHeartbeats 4000000 in
theorem append1_any {Q : Nat → Prop} (W : World) (x y b : Nat) (v vb : Value) (bs ys : List Nat) (m : Nat) (hx : Blk W x 130 [.pointer (some ⟨b, 0, none⟩)]) (hy : Blk W y 41 [vb]) (hb : Blk W b 134 [v, .int .i64 (m : Int)]) (hv : OwnB W v bs) (hvb : ByP Q W vb ys) (hl : bs.length + ys.length ≤ 20000000) :
    Calls Tryz.prog 124 #[.pointer (some ⟨x, 0, none⟩), .pointer (some ⟨y, 0, none⟩)] W fun e w' => e = .returned (.tuple #[]) ∧ ∃ a' cap' W1, OwnB W1 (.slice a' (bs.length + ys.length) cap') (bs ++ ys) ∧ Kp (fun k => v.ownBlock = some k) W W1 ∧ ((Value.slice a' (bs.length + ys.length) cap').ownBlock = v.ownBlock ∨ (Value.slice a' (bs.length + ys.length) cap').ownBlock = some W.heap.size) ∧
      w' = W1.setCell ⟨b, 0, none⟩ (.slice a' (bs.length + ys.length) cap') := by
  have b0 : W.cell? ⟨x, 0, none⟩ = some (.pointer (some ⟨b, 0, none⟩)) := hx.cell 0
  have y0 : W.cell? ⟨y, 0, none⟩ = some vb := hy.cell 0
  have c0 : W.cell? ⟨b, 0, none⟩ = some v := hb.cell 0
  have f0 := hb.frozen 0
  have hxl := hx.lt
  have hyl := hy.lt
  have hbl := hb.lt
  have HOV := hid hv
  have HSR := hid hvb.src
  have hvx : Hid (v.ownBlock ≠ some x ∧ v.ownBlock ≠ some b) := ⟨hv.row.ne hx (by decide), hv.row.ne hb (by decide)⟩
  obtain ⟨a, cap, rfl, _⟩ := hv.shape
  obtain ⟨a1, cap1, rfl, _⟩ := hvb
  clear hx hy hb
  go_enter Tryz.func124, Tryz.ntmps124
  go_wp2_with fail
  go_region_law (refine step_app _ (by rfl) (.tmp 6) (.tmp 7) 41 5 (.int .u8 0) 1 1 (by rfl) Tryz.underlying41 Tryz.info5 rfl (by decide) (.slice a bs.length cap) (.slice a1 ys.length cap1) bs.length ys.length (cl bs) (cl ys) (by simp [Act.eval]) (by simp [Act.eval]) HOV.out.row HSR.out (by omega) (by decide) ?_; intro a2 cap2 w2 hr2 hg2 hb2; have HR2 := hid hr2; have HG2 := hid hg2; have HB2 := hid hb2; have z0 : w2.cell? ⟨b, 0, none⟩ = some (.slice a bs.length cap) := hg2.cell c0 (fun e => hvx.out.2 e.symm); have zf : w2.frozen? ⟨b, 0, none⟩ = false := ((Kp.ofGrown hg2).frozen (p := ⟨b, 0, none⟩) hbl (fun e => hvx.out.2 e)).trans f0; have zx : w2.cell? ⟨x, 0, none⟩ = some (.pointer (some ⟨b, 0, none⟩)) := hg2.cell b0 (fun e => hvx.out.1 e.symm); clear hr2 hg2 hb2)
  all_goals
    go_end0
    refine ⟨rfl, a2, cap2, w2, ?_, (Kp.refl _ _).drew.grown HG2.out (fun x hx => .inl hx), HB2.out, rfl⟩
    unfold OwnB
    rw [cl_append, List.length_append]
    exact HR2.out

theorem append_nil (t : ByteArray) (a : Option Addr) (n cap : Nat) (w : World) : Calls Tryz.prog 87 #[.pointer none, .string t, .slice a n cap] w fun e w' => e = .returned (.int .i64 18) ∧ Kp No w w' := by
  go_enter Tryz.func87, Tryz.ntmps87
  go_wp2_with (go_at_call 51; refine (find_nil t _).mono ?_; rintro e w1 ⟨rfl, h1⟩; have H1 : Hid (Kp No w w1) := ((Kp.refl _ _).alloc _).andNone h1; clear h1)
  go_ret
  exact ⟨rfl, H1.out.alloc _⟩

theorem used_le {N : Nat} {p : PS} (hI : PInv N p) : used p ≤ 1000 * 12000000 := by
  have h := sumBy_le (fun b => (fileAt p b).b.length) 12000000 (fun _ => false) p.seen (fun e he => by
    obtain ⟨f, hf⟩ := Option.isSome_iff_exists.1 (hI.hasSeen e he).1
    have := hI.lfile _ f hf
    have := hI.big
    simp only [fileAt, hf, Option.getD_some]
    omega)
  rw [sumBy_end _ _ _ (fun _ => rfl)] at h
  exact Nat.le_trans h (Nat.mul_le_mul_right _ (Nat.le_trans hI.lseen hI.big))

set_option maxHeartbeats 2000000 in
theorem append_any {P Q : Nat → Prop} {N : Nat} (w : World) (s : Nat) (p : PS) (t : ByteArray) (vb : Value) (ys : List Nat) (ht : t.size ≤ 20000000) (h : Sys P N w s p) (hN : N + 1 ≤ 1000) (hy : ByP Q w vb ys) (hQ : ∀ x, Q x → ¬ P x) (hl : ys.length ≤ 12000) :
    Calls Tryz.prog 87 #[.pointer (some ⟨s, 0, none⟩), .string t, vb] w fun e w' => e = .returned (.int .i64 ((pAppend (nm t) ys p).1 : Nat)) ∧ Done P (N + 1) w w' s (pAppend (nm t) ys p).2 := by
  have hI := h.inv
  have H := hid h
  have hmk := hmf
  have hsl := h.c.2.1
  have hps := h.c.1
  have hul := used_le hI
  have hrl := hI.room
  have HY := hid hy
  have HQ := hid hQ
  obtain ⟨a, cap, rfl, hy1, hy2, _⟩ := hy
  have hc0 : Hid (∀ V, Kp No w V → V.cell? ⟨s, 0, none⟩ = some (.int .i64 (p.room : Int))) := fun V k => by
    obtain ⟨vs, vf, vc, u, hR⟩ := h
    exact (k.cell (p := ⟨s, 0, none⟩) hsl (fun h => h)).trans (hR.c 0)
  have HC : Hid (Calls Tryz.prog 51 #[.pointer (some ⟨s, 0, none⟩), .string t] (w.alloc (.cells #[.slice a ys.length cap] 41)) fun e w' => e = .returned (.tuple #[ptrV (foundP p (nm t)), .int .i64 (finds p (nm t) : Nat)]) ∧ Kp No (w.alloc (.cells #[.slice a ys.length cap] 41)) w') := find_any _ s p t ht (h.kept ((Kp.refl _ _).alloc _))
  have HU : Hid (∀ V, Kp No w V → Calls Tryz.prog 123 #[.pointer (some ⟨s, 0, none⟩)] V fun e w' => e = .returned (.int .i64 (used p : Nat)) ∧ Kp No V w') := fun V k => used_any V s p (h.kept k)
  by_cases h0 : finds p (nm t) = 0
  · obtain ⟨b, hb⟩ := found_zero hI h0
    obtain ⟨_, hd, _⟩ := pBytes_of hb
    have hf := hI.hasFound hd
    rw [h0, hb] at HC
    have e0 : ptrV (some b) = .pointer (some ⟨b, 0, none⟩) := rfl
    rw [e0] at HC
    have HST : Hid (used p + ys.length ≤ p.room → ∀ w1, Kp No (w.alloc (.cells #[.slice a ys.length cap] 41)) w1 → ∀ W0, Kp No (w1.alloc (.cells #[.pointer (some ⟨b, 0, none⟩)] 130)) W0 → Calls Tryz.prog 60 #[.pointer (some ⟨s, 0, none⟩), .func (.func 124) #[] #[.pointer (some ⟨w1.heap.size, 0, none⟩), .pointer (some ⟨w.heap.size, 0, none⟩)]] W0 fun e w' =>
        e = .returned (.int .i64 ((pAppend (nm t) ys p).1 : Nat)) ∧ Done P (N + 1) w w' s (pAppend (nm t) ys p).2) := by
      intro hroom w1 hk1 W0 hk0
      have e1 : pAppend (nm t) ys p = stp p (setF b ⟨(fileAt p b).b ++ ys, (fileAt p b).safe⟩) := by
        have : ¬ (used p + ys.length > p.room) := by omega
        simp [pAppend, h0, blockOf, hd, this]
      rw [e1]
      have kA : Kp No w w1 := ((Kp.refl _ _).alloc _).andNone hk1
      have kB : Kp No w W0 := (kA.alloc _).andNone hk0
      have hz : w.heap.size < w1.heap.size := by have := hk1.size; simp at this; omega
      refine step_file w W0 s p b _ kB h hN 124 _ (enters_of Tryz.func124 (by kernel_rfl) rfl) ?_
      intro W vs vf vc u kW hR
      obtain ⟨hPb, hFb, hPu⟩ := hR.file b _ hf
      have hx : Blk W w1.heap.size 130 [.pointer (some ⟨b, 0, none⟩)] := ((Blk.new w1 130 [.pointer (some ⟨b, 0, none⟩)]).kp hk0 (fun h => h)).kp kW (fun e => by omega)
      have hyb : Blk W w.heap.size 41 [.slice a ys.length cap] := ((((Blk.new w 41 [.slice a ys.length cap]).kp hk1 (fun h => h)).kp (L := No) ((Kp.refl _ _).alloc _) (fun h => h)).kp hk0 (fun h => h)).kp kW (fun e => by omega)
      have hby : ByP Q W (.slice a ys.length cap) ys := (HY.out.kept kB).kp kW (fun x hx _ hq => HQ.out x hq (by subst hx; exact hps))
      have hfl : (fileAt p b).b.length ≤ 12000 * N := hI.lfile b _ hf
      have hbig := hI.big
      refine (append1_any W w1.heap.size w.heap.size b (u b) _ (fileAt p b).b ys _ hx hyb hFb.blk hFb.own hby (by omega)).mono ?_
      rintro e w' ⟨rfl, a', cap', W1, ho, k1, hbl, rfl⟩
      have kK : Kp (fun k => k = b ∨ (u b).ownBlock = some k) W (W1.setCell ⟨b, 0, none⟩ (.slice a' ((fileAt p b).b.length + ys.length) cap')) := (k1.mono (fun x hx => .inl (.inr hx))).setCell (p := ⟨b, 0, none⟩) (.inl (.inl rfl)) _
      have hbn : (u b).ownBlock ≠ some b := hFb.own.row.ne hFb.blk (by decide)
      have hB1 := hFb.blk.kp k1 (fun e => hbn e)
      have hS := rp_setF (f' := ⟨(fileAt p b).b ++ ys, (fileAt p b).safe⟩) (v' := .slice a' ((fileAt p b).b.length + ys.length) cap') hR hf kK ?_ (fun k hk => ?_) (inv_setF hR.inv (by simp; omega))
      · exact ⟨rfl, hS.1, hS.2⟩
      · refine ⟨hB1.setCell 0 _, ?_, fun x hx => ?_, by have := hFb.le; simp; omega⟩
        · exact ho.row.kp (Kp.set1 W1 b 0 _) (fun k hk e => ho.row.ne hB1 (by decide) (by rw [hk, e]))
        · rcases List.mem_append.1 hx with hx | hx
          · exact hFb.byt x hx
          · obtain ⟨_, _, _, _, _, _, _, h6, _⟩ := hby
            exact h6 x hx
      · rcases hbl with h1 | h1
        · rw [h1] at hk; exact .inl hk
        · rw [h1] at hk; simp at hk; exact .inr (by omega)
    have hbx : Hid (∀ V, Kp No (w.alloc (.cells #[.slice a ys.length cap] 41)) V → V.cell? ⟨w.heap.size, 0, none⟩ = some (.slice a ys.length cap)) := fun V k => ((Blk.new w 41 [.slice a ys.length cap]).kp k (fun h => h)).cell 0
    have hS0 : Hid (Kp No w (w.alloc (.cells #[.slice a ys.length cap] 41))) := (Kp.refl _ _).alloc _
    have e1 : used p + ys.length > p.room → pAppend (nm t) ys p = (11, p) := fun hr => by simp [pAppend, h0, hr]
    have HE := hid e1
    generalize pAppend (nm t) ys p = R at *
    clear e1 e0 hd hb h0 hI h hf
    generalize used p = U at *
    go_enter Tryz.func87, Tryz.ntmps87
    go_wp2_with (go_at_call 51; refine (HC.out).mono ?_; rintro e w1 ⟨rfl, h1⟩; have H1 := hid h1; clear h1)
    have kW : Hid (Kp No (w.alloc (.cells #[.slice a ys.length cap] 41)) (w1.alloc (.cells #[.pointer (some ⟨b, 0, none⟩)] 130))) := H1.out.alloc _
    have kWw : Hid (Kp No w (w1.alloc (.cells #[.pointer (some ⟨b, 0, none⟩)] 130))) := hS0.out.andNone kW.out
    have HST1 : Hid (U + ys.length ≤ p.room → ∀ W0, Kp No (w1.alloc (.cells #[.pointer (some ⟨b, 0, none⟩)] 130)) W0 → Calls Tryz.prog 60 #[.pointer (some ⟨s, 0, none⟩), .func (.func 124) #[] #[.pointer (some ⟨w1.heap.size, 0, none⟩), .pointer (some ⟨w.heap.size, 0, none⟩)]] W0 fun e w' =>
        e = .returned (.int .i64 (R.1 : Nat)) ∧ Done P (N + 1) w w' s R.2) := fun hr => HST.out hr w1 H1.out
    generalize hWx : w1.alloc (.cells #[.pointer (some ⟨b, 0, none⟩)] 130) = Wx at *
    clear hWx
    have r0 : ∀ V, Kp No Wx V → V.cell? ⟨w.heap.size, 0, none⟩ = some (.slice a ys.length cap) := fun V k => hbx.out V (kW.out.andNone k)
    have r1 : ∀ V, Kp No Wx V → V.cell? ⟨s, 0, none⟩ = some (.int .i64 (p.room : Int)) := fun V k => hc0.out V (kWw.out.andNone k)
    have hwr : IntKind.i64.wrap ((p.room : Int) - (U : Int)) = (p.room : Int) - (U : Int) := by rw [IntKind.wrap_i64]; omega
    by_cases hroom : U + ys.length ≤ p.room
    · have hle : ¬ ((p.room : Int) - (U : Int) < (ys.length : Int)) := by omega
      go_region_held3 (fun V => Kp No Wx V) (first | (with_reducible exact Kp.refl _ _) | (with_reducible exact (Kp.refl _ _).drew) | (with_reducible exact HK1.out)) (first | (go_at_call 123; refine (HU.out _ ?_).mono ?_; (with_reducible exact kWw.out.drew); rintro e w2 ⟨rfl, hk1⟩; have HK1 : Hid (Kp No Wx w2) := (Kp.refl _ _).drew.andNone hk1; clear hk1))
      go_wp2_with (go_at_call 60; refine (HST1.out hroom w2 HK1.out).mono ?_; rintro e w3 ⟨rfl, h3⟩; have H3 := hid h3; clear h3)
      go_ret
      exact ⟨rfl, H3.out⟩
    · have hgt : (p.room : Int) - (U : Int) < (ys.length : Int) := by omega
      have hR := HE.out (by omega)
      subst hR
      go_region_held3 (fun V => Kp No Wx V) (first | (with_reducible exact Kp.refl _ _) | (with_reducible exact (Kp.refl _ _).drew) | (with_reducible exact HK1.out)) (first | (go_at_call 123; refine (HU.out _ ?_).mono ?_; (with_reducible exact kWw.out.drew); rintro e w2 ⟨rfl, hk1⟩; have HK1 : Hid (Kp No Wx w2) := (Kp.refl _ _).drew.andNone hk1; clear hk1))
      go_wp2
      go_ret
      exact ⟨rfl, (Done.of (H.out.more (by omega) hN) (Kp.refl _ _)).kept (kWw.out.andNone HK1.out)⟩
  · have e1 : pAppend (nm t) ys p = (finds p (nm t), p) := by simp [pAppend, h0]
    have hn : foundP p (nm t) = none := by simp [foundP, h0]
    rw [e1]
    rw [hn] at HC
    have e0 : ptrV none = .pointer none := rfl
    rw [e0] at HC
    generalize finds p (nm t) = x at *
    have hne : ((x : Int) != 0) = true := by simp; omega
    clear e1 e0 hn h0 hI h
    go_enter Tryz.func87, Tryz.ntmps87
    go_wp2_with (go_at_call 51; refine (HC.out).mono ?_; rintro e w1 ⟨rfl, h1⟩; have H1 : Hid (Kp No w w1) := ((Kp.refl _ _).alloc _).andNone h1; clear h1)
    go_ret
    exact ⟨rfl, (Done.of (H.out.more (by omega) hN) (Kp.refl _ _)).kept (H1.out.alloc _)⟩


end Go.Proofs.YtkpibphalhhkdaaGreatDoor.Sim
end

section
/-
  The form that bytes begin with, cut out by its own head.
-/
namespace Go.Proofs.YtkpibphalhhkdaaGreatDoor
open Go.RowKit
open Tlv (Tr BySlS AgreeS Agree)
open Crc (hid Kept Tab)

theorem bySl_take {L B : Nat} {w : World} {a : Option Addr} {cap E : Nat} {xs : List Int} (h : Tlv.BySl L B w (.slice a xs.length cap) xs) (hE : E ≤ xs.length) : Tlv.BySl L B w (.slice a E cap) (xs.take E) := by
  obtain ⟨a', cap', e, h2, h3, h4, h5, h6, h7⟩ := h
  simp only [Value.slice.injEq, true_and] at e
  obtain ⟨rfl, rfl⟩ := e
  have hl : (xs.take E).length = E := by rw [List.length_take]; omega
  refine ⟨a, cap, by rw [hl], by rw [hl]; omega, h3, fun e => ⟨by rw [(h4 e).1]; simp, (h4 e).2⟩, by rw [hl]; omega, fun x hx => h6 x (List.mem_of_mem_take hx), fun hne => ?_⟩
  obtain ⟨b, o, e, hL, hB, hc⟩ := h7 (fun e => hne (by rw [e]; simp))
  refine ⟨b, o, e, hL, hB, fun i hi => ?_⟩
  rw [hl] at hi
  rw [hc i (by omega)]
  simp [List.getElem?_take_of_lt hi]

set_option maxHeartbeats 2000000 in
set_option maxRecDepth 100000 in
theorem first_any (v : Value) (xs : List Int) (w : World) (h : Tlv.BySl 0 w.heap.size w v xs) :
    Calls Tryz.prog 93 #[v] w fun e w' => ((Tlv.rd 8 xs = none ∧ ∃ x y a l c a' l' c' sz, e = .returned (.tuple #[.agg #[.int .i64 x, .int .u64 y, .slice a l c, .slice a' l' c'], .int .i64 sz, .bool false])) ∨
      (∃ (t : Tr 9) (m : Nat) (a : Option Addr) (l c : Nat) (a' : Option Addr) (l' c' : Nat), Tlv.rd 8 xs = some (t, m) ∧ e = .returned (.tuple #[.agg #[.int .i64 t.hd.1, .int .u64 t.hd.2.1, .slice a l c, .slice a' l' c'], .int .i64 m, .bool true]) ∧ Tlv.Rep w.heap.size w'.heap.size w' 9 t (.slice a l c) (.slice a' l' c'))) ∧ Below w.heap.size w w' := by
  obtain ⟨a, cap, rfl, h2, h3, h4, h5, h6, h7⟩ := id h
  have H := hid h
  clear h h4
  by_cases hl : xs.length < 3
  · have hl' : (xs.length : Int) < 3 := by omega
    have HR := hid (rd_short hl)
    clear h7 h6 hl
    go_enter Tryz.func93, Tryz.ntmps93
    go_wp2_with fail
    refine bodyPost_ret (v := .tuple #[.agg #[.int .i64 0, .int .u64 0, .slice none 0 0, .slice none 0 0], .int .i64 0, .bool false]) (by simp [results, Tryz.results93, go_sem]) rfl ⟨.inl ⟨HR.out, 0, 0, none, 0, 0, none, 0, 0, 0, rfl⟩, ?_⟩
    exact (Below.refl _ _).alloc (Nat.le_refl _) _
  · obtain ⟨b, o, rfl, _, hb, hc⟩ := h7 (by intro e; subst e; simp at hl)
    have c1 := hc 1 (by omega)
    have c2 := hc 2 (by omega)
    have b1 := h6 (xs.getD 1 0) (by rw [List.getD_eq_getElem?_getD, List.getElem?_eq_getElem (by omega)]; simp)
    have b2 := h6 (xs.getD 2 0) (by rw [List.getD_eq_getElem?_getD, List.getElem?_eq_getElem (by omega)]; simp)
    have HEN : Hid (Tlv.endOf xs = 3 + (xs.getD 1 0 * 256 + xs.getD 2 0).toNat) := rfl
    generalize xs.getD 1 0 = x1 at *
    generalize xs.getD 2 0 = x2 at *
    have hl' : (3 : Int) ≤ xs.length := by omega
    have HL : Hid (3 ≤ xs.length) := by rw [Hid]; omega
    clear hc h6 h7 hl
    go_enter Tryz.func93, Tryz.ntmps93
    go_wp2_with fail
    go_quiet (fail)
    obtain ⟨E, hE⟩ : ∃ E : Nat, 3 + x1 * 256 + x2 = (E : Int) := ⟨(3 + x1 * 256 + x2).toNat, by omega⟩
    have HE : Hid (Tlv.endOf xs = E) := by rw [Hid, HEN.out]; omega
    have hE3 : 3 ≤ E := by omega
    rw [hE]
    obtain ⟨W1, hW1⟩ : ∃ W1, (w.alloc (Obj.cells #[Value.int IntKind.i64 0, Value.int IntKind.u64 0, Value.slice none 0 0, Value.slice none 0 0] 122)).drewN nq = W1 := ⟨_, rfl⟩
    have hbel : Below w.heap.size w W1 := by rw [← hW1]; exact below_drewN ((Below.refl _ _).alloc (Nat.le_refl _) _) _
    have HG : Hid (∀ j u, (#[.int .i64 0, .int .u64 0, .slice none 0 0, .slice none 0 0] : Array Value)[j]? = some u → W1.cell? ⟨w.heap.size, j, none⟩ = some u) := fun j u hj => by
      rw [← hW1]
      rw [World.cell?_drewN, World.cell?_alloc_at _ _ _ _ (by simp), hj]
    have HF : Hid (∀ j, W1.frozen? ⟨w.heap.size, j, none⟩ = false) := fun j => by
      rw [← hW1, World.frozen?_drewN, World.frozen?_alloc_at _ _ _ _ (by simp)]
    have hz1 : w.heap.size < W1.heap.size := by rw [← hW1]; simp
    rw [hW1]
    clear hW1 hE c1 c2 b1 b2 HEN nq
    have HBEL := hid hbel
    by_cases hlt : xs.length < E
    · have HR : Hid (Tlv.rd 8 xs = none) := rd_cut (by rw [HE.out]; exact hlt)
      have g0 := HG.out 0 _ rfl
      have g1 := HG.out 1 _ rfl
      have g2 := HG.out 2 _ rfl
      have g3 := HG.out 3 _ rfl
      have gf := HF.out
      clear hbel
      go_wp2_with fail
      obtain ⟨q0, q1, q2, q3⟩ := Tlv.set4_read (u0 := .int .i64 0) (u1 := .int .u64 0) (u2 := .slice none 0 0) (u3 := .slice none 0 0) g0 g1 g2 g3
      refine bodyPost_ret (v := .tuple #[.agg #[.int .i64 0, .int .u64 0, .slice none 0 0, .slice none 0 0], .int .i64 0, .bool false]) (by simp [results, Tryz.results93, go_sem, q0, q1, q2, q3]) rfl ⟨.inl ⟨HR.out, 0, 0, none, 0, 0, none, 0, 0, 0, rfl⟩, ?_⟩
      exact HBEL.out.trans (Tlv.bset4 (Nat.le_refl _) _ _ _ _)
    · have HLE : Hid (E ≤ xs.length) := by rw [Hid]; omega
      have hEc : E ≤ cap := by omega
      have hEm : (E : Int) ≤ xs.length := by omega
      clear hbel
      go_wp2_with fail
      refine (Tlv.get_any _ (xs.take E) _ (bySl_take (H.out.agree (Agree.below HBEL.out) (Nat.le_refl _) HBEL.out.size) HLE.out)).mono ?_
      rintro e w2 ⟨hres, hb2⟩
      have HB2 := hid hb2
      have hz2 : w.heap.size < w2.heap.size := by have := hb2.size; omega
      have gf : ∀ j, w2.frozen? ⟨w.heap.size, j, none⟩ = false := fun j => (hb2.frozen (p := ⟨w.heap.size, j, none⟩) hz1).trans (HF.out j)
      have hcg := fun j u hj => (hb2.cell (p := ⟨w.heap.size, j, none⟩) hz1).trans (HG.out j u hj)
      have g0 := hcg 0 _ rfl
      have g1 := hcg 1 _ rfl
      have g2 := hcg 2 _ rfl
      have g3 := hcg 3 _ rfl
      have HM : Hid (Tlv.getT (xs.take E) = (Tlv.rd 8 xs).map Prod.fst) := by rw [Hid, ← HE.out]; exact get_take HL.out (by rw [HE.out]; exact HLE.out)
      have hm := HM.out
      clear hcg hb2
      rcases hres with ⟨hn, rfl⟩ | ⟨t, sb, sk, hs, rfl, hr⟩
      · have HR : Hid (Tlv.rd 8 xs = none) := by
          rw [hn] at hm
          exact Option.map_eq_none_iff.1 hm.symm
        clear hm hn
        go_wp2_with fail
        obtain ⟨q0, q1, q2, q3⟩ := Tlv.set4_read (u0 := .int .i64 0) (u1 := .int .u64 0) (u2 := .slice none 0 0) (u3 := .slice none 0 0) g0 g1 g2 g3
        obtain ⟨r0, r1, r2, r3⟩ := Tlv.set4_read (u0 := .int .i64 0) (u1 := .int .u64 0) (u2 := .slice none 0 0) (u3 := .slice none 0 0) q0 q1 q2 q3
        refine bodyPost_ret (v := .tuple #[.agg #[.int .i64 0, .int .u64 0, .slice none 0 0, .slice none 0 0], .int .i64 E, .bool false]) (by simp [results, Tryz.results93, go_sem, r0, r1, r2, r3]) rfl ⟨.inl ⟨HR.out, 0, 0, none, 0, 0, none, 0, 0, E, rfl⟩, ?_⟩
        exact (HBEL.out.trans (HB2.out.mono HBEL.out.size)).trans ((Tlv.bset4 (Nat.le_refl _) _ _ _ _).trans (Tlv.bset4 (Nat.le_refl _) _ _ _ _))
      · have HR : Hid (Tlv.rd 8 xs = some (t, E)) := by
          rw [hs] at hm
          obtain ⟨⟨t', m⟩, hq, ht⟩ := Option.map_eq_some_iff.1 hm.symm
          have h1 := rd_end hq
          rw [HE.out] at h1
          simp only at ht
          rw [Hid, hq, ht, h1]
        obtain ⟨a1, l1, p1, a2, l2, p2, rfl, rfl⟩ := hr.sl
        have HRP := hid hr
        clear hm hs hr
        go_wp2_with fail
        obtain ⟨q0, q1, q2, q3⟩ := Tlv.set4_read (u0 := .int .i64 t.hd.1) (u1 := .int .u64 t.hd.2.1) (u2 := .slice a1 l1 p1) (u3 := .slice a2 l2 p2) g0 g1 g2 g3
        obtain ⟨r0, r1, r2, r3⟩ := Tlv.set4_read (u0 := .int .i64 t.hd.1) (u1 := .int .u64 t.hd.2.1) (u2 := .slice a1 l1 p1) (u3 := .slice a2 l2 p2) q0 q1 q2 q3
        refine bodyPost_ret (v := .tuple #[.agg #[.int .i64 t.hd.1, .int .u64 t.hd.2.1, .slice a1 l1 p1, .slice a2 l2 p2], .int .i64 E, .bool true]) (by simp [results, Tryz.results93, go_sem, r0, r1, r2, r3]) rfl ⟨.inr ⟨t, E, _, _, _, _, _, _, HR.out, rfl, ?_⟩, ?_⟩
        · exact (HRP.out.agree (Agree.set4 _ (.inl hz1) _ _ _ _) (by omega) (Nat.le_refl _)).agree (Agree.set4 _ (.inl (Nat.lt_succ_self _)) _ _ _ _) (Nat.le_succ _) (by simp)
        · exact (HBEL.out.trans (HB2.out.mono HBEL.out.size)).trans ((Tlv.bset4 (Nat.le_refl _) _ _ _ _).trans (Tlv.bset4 (Nat.le_refl _) _ _ _ _))
end Go.Proofs.YtkpibphalhhkdaaGreatDoor
end
