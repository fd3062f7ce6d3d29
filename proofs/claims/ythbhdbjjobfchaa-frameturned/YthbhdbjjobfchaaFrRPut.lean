/-
  What the reference's Put answers.
-/
import Derived.Test.YthbhdbjjobfchaaFrPut
import Derived.Test.YthbhdbjjobfchaaTlvRefForm
namespace Go.Proofs.Ythbhdbjjobfchaa
open Go.RowKit
open Tlv (Tr BySlS AgreeS Agree)
open Crc (hid Kept Tab)

/-- Bytes leave some block alone. -/
theorem anyCrc {L B : Nat} {w : World} {v : Value} {xs : List Int} (h : Tlv.BySl L B w v xs) (h2 : 2 ≤ w.heap.size) (hB : B ≤ w.heap.size) : ∃ b, b < w.heap.size ∧ Crc.BySl b w v (nats xs) := by
  by_cases hx : xs = []
  · subst hx
    obtain ⟨a, cap, rfl, h2', h3, h4, h5, h6, h7⟩ := h
    exact ⟨0, by omega, a, cap, rfl, by simp [nats], h3, fun e => ⟨rfl, (h4 e).2⟩, by simp [nats], by simp [nats], fun h => absurd rfl h⟩
  · obtain ⟨a, cap, e, _, _, _, _, _, h7⟩ := id h
    obtain ⟨g, o, e2, _, hg, _⟩ := h7 hx
    have key : ∀ b, b ≠ g → Crc.BySl b w v (nats xs) := by
      intro b hb
      refine toCrc (S := fun x => x = g) ?_ (fun x hx => by subst hx; exact ⟨fun e => hb e.symm, by omega⟩)
      obtain ⟨a1, cap1, e1, q2, q3, q4, q5, q6, q7⟩ := h
      refine ⟨a1, cap1, e1, q2, q3, q4, q5, q6, fun hne => ?_⟩
      obtain ⟨g1, o1, r1, _, _, r3⟩ := q7 hne
      refine ⟨g1, o1, r1, ?_, r3⟩
      rw [e1] at e
      simp only [Value.slice.injEq] at e
      rw [e.1, e2] at r1
      simp only [Option.some.injEq, Addr.mk.injEq] at r1
      exact r1.1.symm
    by_cases h0 : g = 0
    · exact ⟨1, by omega, key 1 (by omega)⟩
    · exact ⟨0, by omega, key 0 (by omega)⟩

set_option maxHeartbeats 1000000 in
theorem refPut01 {n : Nat} (t : Tr n) (sb sk : Value) (w : World) (h : Tlv.RepS (fun b => b < w.heap.size) w n t sb sk) (hr : (Tlv.bsz n t 65535 8).2 = true) :
    Calls Try.prog 30 #[.agg #[.int .i64 t.hd.1, .int .u64 t.hd.2.1, sb, sk]] w fun e w' => ∃ a c, e = .returned (.tuple #[.slice a (Tlv.formOf n t).length c, .int .i64 0]) ∧ Tlv.BySl 0 w'.heap.size w' (.slice a (Tlv.formOf n t).length c) (Tlv.formOf n t) ∧ Below w.heap.size w w' := by
  obtain ⟨a1, l1, p1, a2, l2, p2, rfl, rfl⟩ := h.sl
  have H := hid h
  clear h
  have HE : Hid (Tlv.rform n t 8 = some (Tlv.formOf n t)) := by rw [Hid]; have := Tlv.rform_eq n t 8; rwa [if_pos (by simpa using hr)] at this
  clear hr
  go_enter Try.func30, Try.ntmps30
  go_wp2_with fail
  have k1 : Below w.heap.size w (w.alloc (Obj.cells #[.int .i64 t.hd.1, .int .u64 t.hd.2.1, .slice a1 l1 p1, .slice a2 l2 p2] 93)) := (Below.refl _ _).alloc (Nat.le_refl _) _
  refine (Tlv.form_any n w.heap.size t 8 _ _ _ (by simp) (H.out.agree (AgreeS.below k1 (fun _ h => h)) (fun _ h => h)) (by omega)).mono ?_
  rintro e w1 ⟨hres, hb1⟩
  have HB : Hid (Below w.heap.size w w1) := k1.trans (hb1.mono (by simp))
  clear k1 hb1
  rcases hres with ⟨hn, rfl⟩ | ⟨r, a, c, hs, rfl, hr⟩
  · have e := HE.out
    rw [hn] at e
    cases e
  · have HX : Hid (r = Tlv.formOf n t) := by
      have e := HE.out
      rw [hs] at e
      exact Option.some.inj e
    have HRR := hid hr
    clear hs hr
    go_wp2_with fail
    go_ret2
    rw [← HX.out]
    exact ⟨a, c, rfl, HRR.out, HB.out⟩

set_option maxHeartbeats 1000000 in
set_option maxRecDepth 100000 in
theorem rput_no (k : Int) (nm bs : List Int) (a : Option Addr) (cap : Nat) (w : World) (hn : nm.length = 32) (hR : rightB k bs.length = false) :
    Calls Try.prog 12 #[.agg (recA k nm (.slice a bs.length cap)).toArray] w fun e w' => e = .returned (.tuple #[.slice none 0 0, .int .i64 1]) ∧ Below w.heap.size w w' := by
  have HC0 := hid (recA_0 k nm (.slice a bs.length cap))
  have HC33 := hid (recA_33 k nm (.slice a bs.length cap) hn)
  have HL := hid (recA_length k nm (.slice a bs.length cap) hn)
  have HRR := hid hR
  clear hR
  obtain ⟨C, hC⟩ : ∃ C, recA k nm (.slice a bs.length cap) = C := ⟨_, rfl⟩
  rw [hC] at HC0 HC33 HL
  rw [hC]
  clear hC hn
  have HR := hid (range_new w C 26)
  have HI : Hid ((Try.prog.info? 26).map (·.size) = some C.length) := by rw [Hid, HL.out]; exact Try.info26
  go_enter Try.func12, Try.ntmps12
  go_wp2_with (refine wpList_load_mid (by rfl) 26 _ (by rfl) w.heap.size 0 (by rfl) C _ ?hc Try.underlying26 rfl HI.out ?_; (case hc => exact HR.out))
  refine (right14_any C k _ _ _ _ HC0.out HC33.out).mono ?_
  rintro e w1 ⟨rfl, hb1⟩
  rw [HRR.out]
  have HB1 : Hid (Below w.heap.size w w1) := ((Below.refl _ _).alloc (Nat.le_refl _) _).trans (hb1.mono (by simp))
  clear hb1
  go_wp2_with fail
  go_ret2
  exact ⟨rfl, HB1.out⟩

/-- A record's value of the reference's, as it was just laid: at g its own cells, at gs the three. -/
def Laid3 (w W : World) (k : Int) (nm bs : List Int) (g gs : Nat) : Prop :=
  Below w.heap.size w W ∧ w.heap.size + 2 ≤ W.heap.size ∧ W.cell? ⟨g, 0, none⟩ = some (.int .i64 3) ∧ W.cell? ⟨g, 1, none⟩ = some (.int .u64 0) ∧ W.cell? ⟨g, 2, none⟩ = some (.slice none 0 0) ∧ W.cell? ⟨g, 3, none⟩ = some (.slice (some ⟨gs, 0, none⟩) 3 3) ∧
    Tlv.RepS (fun b => b < W.heap.size) W 2 (recT k nm bs) (.slice none 0 0) (.slice (some ⟨gs, 0, none⟩) 3 3)

theorem laid3_of {w W : World} {k : Int} {nm bs : List Int} {vn vb : Value} {g gs : Nat} (hb : Below w.heap.size w W) (h0 : 0 ≤ k) (h1 : k ≤ 9) (hgs : gs < W.heap.size) (h2 : w.heap.size + 2 ≤ W.heap.size)
    (c4 : ∀ j u, (#[.int .i64 3, .int .u64 0, .slice none 0 0, .slice (some ⟨gs, 0, none⟩) 3 3] : Array Value)[j]? = some u → W.cell? ⟨g, j, none⟩ = some u)
    (c12 : ∀ j u, (#[.int .i64 1, .int .u64 k, .slice none 0 0, .slice none 0 0, .int .i64 2, .int .u64 0, vn, .slice none 0 0, .int .i64 2, .int .u64 0, vb, .slice none 0 0] : Array Value)[j]? = some u → W.cell? ⟨gs, j, none⟩ = some u)
    (bn : Tlv.BySl 0 w.heap.size w vn nm) (bb : Tlv.BySl 0 w.heap.size w vb bs) : Laid3 w W k nm bs g gs := by
  have hA : Agree 0 w.heap.size w W := Agree.below hb
  have hz := hb.size
  refine ⟨hb, h2, c4 0 _ rfl, c4 1 _ rfl, c4 2 _ rfl, c4 3 _ rfl, ?_⟩
  have z : Tlv.Rep 0 W.heap.size W 2 (recT k nm bs) (.slice none 0 0) (.slice (some ⟨gs, 0, none⟩) 3 3) := by
    refine ⟨by simp [recT, Tr.mk, Tlv.Tr.hd], by simp [recT, Tr.mk, Tlv.Tr.hd], Tlv.BySl.none _ _ _, _, 3, rfl, Nat.le_refl _, by decide, by simp, (by decide : (3 : Nat) ≤ 2199023255552), fun _ => ⟨gs, 0, rfl, Nat.zero_le _, hgs, fun j t hj => ?_⟩⟩
    have hj' : [(Tr.mk 1 k [] [] : Tr 1), Tr.mk 2 0 nm [], Tr.mk 2 0 bs []][j]? = some t := hj
    match j, hj' with
    | 0, hj =>
      simp only [List.getElem?_cons_zero, Option.some.injEq] at hj
      subst hj
      exact ⟨_, _, c12 0 _ rfl, c12 1 _ rfl, c12 2 _ rfl, c12 3 _ rfl, rep1 _ h0 (by omega)⟩
    | 1, hj =>
      simp only [List.getElem?_cons_succ, List.getElem?_cons_zero, Option.some.injEq] at hj
      subst hj
      exact ⟨_, _, c12 4 _ rfl, c12 5 _ rfl, c12 6 _ rfl, c12 7 _ rfl, rep2 (bn.agree hA (Nat.le_refl _) hz)⟩
    | 2, hj =>
      simp only [List.getElem?_cons_succ, List.getElem?_cons_zero, Option.some.injEq] at hj
      subst hj
      exact ⟨_, _, c12 8 _ rfl, c12 9 _ rfl, c12 10 _ rfl, c12 11 _ rfl, rep2 (bb.agree hA (Nat.le_refl _) hz)⟩
  exact z.toS.agree (fun _ _ => rfl) (fun b hb => hb.2)

set_option maxHeartbeats 2000000 in
set_option maxRecDepth 100000 in
theorem rput_yes (k : Int) (nm bs : List Int) (v : Value) (w : World) (hb : Tlv.BySl 0 w.heap.size w v bs) (hR : RightR k nm bs) :
    Calls Try.prog 12 #[.agg (recA k nm v).toArray] w fun e w' => ∃ v', e = .returned (.tuple #[v', .int .i64 0]) ∧ Crc.Own w' w.heap.size v' (nats (frameR k nm bs)) ∧ Below w.heap.size w w' := by
  obtain ⟨a, cap, rfl, hr⟩ := id hb
  clear hr
  have HB := hid hb
  have hn := hR.2.2.2.1
  have hc0 := recA_0 k nm (.slice a bs.length cap)
  have hc33 := recA_33 k nm (.slice a bs.length cap) hn
  have HL := hid (recA_length k nm (.slice a bs.length cap) hn)
  have HRR := hid hR
  have HFL := hid (formR_length hR)
  have hk0 := hR.1
  have hk1 := hR.2.1
  clear hR hb
  obtain ⟨C, hC⟩ : ∃ C, recA k nm (.slice a bs.length cap) = C := ⟨_, rfl⟩
  rw [hC] at hc0 hc33 HL
  rw [hC]
  have HC := hid hC
  clear hC
  have HR := hid (range_new w C 26)
  have HI : Hid ((Try.prog.info? 26).map (·.size) = some C.length) := by rw [Hid, HL.out]; exact Try.info26
  have HN := hid hn
  clear hn
  go_enter Try.func12, Try.ntmps12
  go_wp2_with (refine wpList_load_mid (by rfl) 26 _ (by rfl) w.heap.size 0 (by rfl) C _ ?hc Try.underlying26 rfl HI.out ?_; (case hc => exact HR.out))
  refine (right14_any C k _ _ _ _ hc0 hc33).mono ?_
  rintro e w1 ⟨rfl, hb1⟩
  rw [rightB_of HRR.out]
  have HB1 : Hid (Below w.heap.size w w1) := ((Below.refl _ _).alloc (Nat.le_refl _) _).trans (hb1.mono (by simp))
  have HR1 := hid (rangeAt_below HR.out hb1 (by simp))
  have hz1 : w.heap.size < w1.heap.size := by have := hb1.size; simp at this; omega
  have q0 := HR1.out 0 _ hc0
  have q33 := HR1.out 33 _ hc33
  simp only [Nat.zero_add] at q33
  have hwk : IntKind.u64.wrap k = k := by rw [IntKind.wrap_u64]; omega
  have HNM : Hid (Tlv.BySl 0 w1.heap.size w1 (.slice (some ⟨w.heap.size, 1, none⟩) 32 32) nm) := by
    have h := name_in (W := w1) (g := w.heap.size) (o := 0) (by rw [HC.out]; exact HR1.out) HN.out HRR.out.2.2.2.2.1
    rwa [Nat.zero_add] at h
  have HBB := hid (HB.out.agree (Agree.below HB1.out) (Nat.le_refl _) HB1.out.size)
  clear hb1 hc0 hc33
  go_wp2_with fail
  go_cut [4] (fun p wx => ∃ g gs, p = .pointer (some ⟨g, 0, none⟩) ∧ Hid (Laid3 w1 wx k nm bs g gs))
  case first =>
    go_region
    all_goals (go_wp2_with fail; go_meet)
    · have hbl := fun (A B : Obj) => (((Below.refl w1.heap.size w1).alloc (Nat.le_refl _) A).alloc (by simp) B).drew
      refine ⟨_, w1.heap.size, rfl, laid3_of (hbl _ _) (by omega) hk1 (by simp; omega) (by simp) (fun j u hj => ?_) (fun j u hj => ?_) HNM.out HBB.out⟩
      · rw [World.cell?_drew, World.cell?_alloc_at _ _ _ _ (by simp)]; exact hj
      · rw [World.cell?_drew, World.cell?_alloc_lt _ _ _ (by simp), World.cell?_alloc_at _ _ _ _ rfl]; exact hj
    · have hbl := fun (A B : Obj) => (((Below.refl w1.heap.size w1).alloc (Nat.le_refl _) A).alloc (by simp) B).drew
      refine ⟨_, w1.heap.size + 1, rfl, laid3_of (hbl _ _) (by omega) hk1 (by simp) (by simp) (fun j u hj => ?_) (fun j u hj => ?_) HNM.out HBB.out⟩
      · rw [World.cell?_drew, World.cell?_alloc_lt _ _ _ (by simp), World.cell?_alloc_at _ _ _ _ rfl]; exact hj
      · rw [World.cell?_drew, World.cell?_alloc_at _ _ _ _ (by simp)]; exact hj
  case rest =>
    obtain ⟨g, gs, rfl, HX⟩ := hcut
    obtain ⟨hbx, hbz, x0, x1, x2, x3, hrp⟩ := HX.out
    have HBX := hid hbx
    have HRP := hid hrp
    clear HX hbx hrp q0 q33
    go_wp2_with fail
    refine (refPut01 (recT k nm bs) _ _ _ HRP.out (recT_right HRR.out)).mono ?_
    rintro e w2 ⟨af, cf, rfl, hf2, hb2⟩
    have HF2 := hid hf2
    have HB2 := hid hb2
    clear hf2 hb2
    go_wp2_with fail
    have hz2 := HB2.out.size
    have hzx := HBX.out.size
    obtain ⟨b, hbw, hcb⟩ := anyCrc HF2.out (by omega) (Nat.le_refl _)
    refine (Crc.refSeal_any b _ _ w2 hbw hcb (by have h1 := HFL.out; have h2 := HRR.out.2.2.1; unfold formR at h1; rw [nats_length, h1]; omega)).mono ?_
    rintro e w3 ⟨v', rfl, ho, hb3⟩
    have HO := hid ho
    have HB3 := hid hb3
    clear ho hb3 hcb
    go_wp2_with fail
    go_ret2
    refine ⟨v', rfl, ?_, ((HB1.out.trans (HBX.out.mono HB1.out.size)).trans (HB2.out.mono (by have := HB1.out.size; omega))).trans (HB3.out.mono (by have := HB1.out.size; omega))⟩
    rw [frameR, sealI_nats]
    exact HO.out.mono (by have := HB1.out.size; omega)
end Go.Proofs.Ythbhdbjjobfchaa
