/-
  FrameForms, walked: which records are right, their frame, and which are the same.
-/
import Derived.Test.YthbhdbjjobfchaaFrLight
import Derived.Deep.RegionHeld3
namespace Go.Proofs.Ythbhdbjjobfchaa
open Go.RowKit
open Tlv (Tr BySlS AgreeS Agree)
open Crc (hid Kept Tab)

/-- Two records, laid in a row. -/
theorem run_two (k k' : Int) (nm nm' : List Int) (a a' : Option Addr) (l c l' c' : Nat) (hn : nm.length = 32) (hn' : nm'.length = 32) (w : World) :
    (Instr.buildSlice 28 2 #[(0, .agg (recA k nm (.slice a l c)).toArray), (1, .agg (recA k' nm' (.slice a' l' c')).toArray)]).run Try.prog w =
      .ok (.slice (some ⟨w.heap.size, 0, none⟩) 2 2) (w.alloc (.cells (recA k nm (.slice a l c) ++ recA k' nm' (.slice a' l' c')).toArray 26)) := by
  obtain ⟨x0, x1, x2, x3, x4, x5, x6, x7, x8, x9, x10, x11, x12, x13, x14, x15, x16, x17, x18, x19, x20, x21, x22, x23, x24, x25, x26, x27, x28, x29, x30, x31, rfl⟩ := ex32 hn
  obtain ⟨y0, y1, y2, y3, y4, y5, y6, y7, y8, y9, y10, y11, y12, y13, y14, y15, y16, y17, y18, y19, y20, y21, y22, y23, y24, y25, y26, y27, y28, y29, y30, y31, rfl⟩ := ex32 hn'
  kernel_rfl

theorem wpList_slice2 {P : Program} {ops : Array Oper} {rest : List Oper} {o : Oper} {a : Act} {w w' : World} {Q : Exit → Act → World → Prop} (hg : o.guard = none) (ty : TypeId) (x y : Operand) (ho : o.op = .buildSlice ty 2 #[(0, x), (1, y)])
    (vx vy v : Value) (hx : a.eval x = vx) (hy : a.eval y = vy) (hr : (Instr.buildSlice ty 2 #[(0, vx), (1, vy)]).run P w = .ok v w')
    (h : wpList P ops Q rest (a.put o.dst v) w') : wpList P ops Q (o :: rest) a w := by
  refine wpList_plain hg fun K hK => ?_
  unfold Oper.wp execOp
  have e : ((#[(0, x), (1, y)] : Array (Nat × Operand)).map fun (i, x) => (i, a.eval x)) = #[(0, vx), (1, vy)] := by simp [hx, hy]
  simp only [ho, Sem.run_bind, e, hr, Result.andThen_ok]
  exact hK _ _ h

set_option maxHeartbeats 4000000 in
set_option maxRecDepth 100000 in
theorem forms_main (k k' : Int) (nm nm' : List Int) (a a' : Option Addr) (l cap l' cap' : Nat) (w : World) (hn : nm.length = 32) (hn' : nm'.length = 32) (hx : ∀ x ∈ nm, 0 ≤ x ∧ x ≤ 255) (hx' : ∀ x ∈ nm', 0 ≤ x ∧ x ≤ 255) (h63 : l ≤ 9223372036854775807) (h63' : l' ≤ 9223372036854775807)
    (hby : lightB [l, l'] = true → ∃ bs bs' : List Int, bs.length = l ∧ bs'.length = l' ∧ Tlv.BySl 0 w.heap.size w (.slice a l cap) bs ∧ Tlv.BySl 0 w.heap.size w (.slice a' l' cap') bs') :
    Calls Try.prog 3 #[.agg (recA k nm (.slice a l cap)).toArray, .agg (recA k' nm' (.slice a' l' cap')).toArray] w fun e w' => e = .returned (.bool true) ∧ Below w.heap.size w w' := by
  have HBY := hid hby
  have HN := hid (And.intro hn hx)
  have HN' := hid (And.intro hn' hx')
  have HRUN := hid (run_two k k' nm nm' a a' l cap l' cap' hn hn')
  have HL := hid (recA_length k nm (.slice a l cap) hn)
  have HL' := hid (recA_length k' nm' (.slice a' l' cap') hn')
  have H33 := hid (recA_33 k nm (.slice a l cap) hn)
  have H33' := hid (recA_33 k' nm' (.slice a' l' cap') hn')
  have H0 := hid (recA_0 k nm (.slice a l cap))
  clear hby hn hn' hx hx'
  obtain ⟨C, hC⟩ : ∃ C, recA k nm (.slice a l cap) = C := ⟨_, rfl⟩
  obtain ⟨D, hD⟩ : ∃ D, recA k' nm' (.slice a' l' cap') = D := ⟨_, rfl⟩
  rw [hC, hD] at HRUN
  rw [hC] at HL H33 H0
  rw [hD] at HL' H33'
  rw [hC, hD]
  have HC := hid hC
  have HD := hid hD
  clear hC hD
  have HI : Hid ((Try.prog.info? 26).map (·.size) = some C.length) := by rw [Hid, HL.out]; exact Try.info26
  have HI' : Hid ((Try.prog.info? 26).map (·.size) = some D.length) := by rw [Hid, HL'.out]; exact Try.info26
  go_enter Try.func3, Try.ntmps3
  obtain ⟨W0, hW0⟩ : ∃ W0, (w.alloc (.cells C.toArray 26)).alloc (.cells D.toArray 26) = W0 := ⟨_, rfl⟩
  have hb0 : Below w.heap.size w W0 := by rw [← hW0]; exact ((Below.refl _ _).alloc (Nat.le_refl _) _).alloc (by simp) _
  have HB0 := hid hb0
  have hs0 : W0.heap.size = w.heap.size + 2 := by rw [← hW0]; simp
  have HR : Hid (W0.rangeAt w.heap.size 0 C) := by rw [← hW0]; exact World.rangeAt_alloc (range_new _ _ _) _
  have HR' : Hid (W0.rangeAt (w.heap.size + 1) 0 D) := by
    have h := range_new (w.alloc (.cells C.toArray 26)) D 26
    rw [hW0] at h
    rw [Hid]
    simpa using h
  have HS0 := hid hs0
  clear hs0 hb0
  go_wp2_with (first
    | (refine wpList_load_mid (by rfl) 26 _ (by rfl) w.heap.size 0 (by rfl) C _ HR.out Try.underlying26 rfl HI.out ?_)
    | (refine wpList_load_mid (by rfl) 26 _ (by rfl) (w.heap.size + 1) 0 (by rfl) D _ HR'.out Try.underlying26 rfl HI'.out ?_)
    | (refine wpList_slice2 (by rfl) 28 _ _ (by rfl) _ _ _ (by rfl) (by rfl) (HRUN.out W0) ?_))
  clear hW0
  obtain ⟨W1, hW1⟩ : ∃ W1, W0.alloc (.cells (C ++ D).toArray 26) = W1 := ⟨_, rfl⟩
  have hb1 : Below W0.heap.size W0 W1 := by rw [← hW1]; exact (Below.refl _ _).alloc (Nat.le_refl _) _
  have HRR : Hid (W1.rangeAt W0.heap.size 0 (C ++ D)) := by rw [← hW1]; exact range_new _ _ _
  rw [hW1]
  have HLI := hid (light_any (some ⟨W0.heap.size, 0, none⟩) 2 [l, l'] W1 (by simp) (by simp; omega) (by
    intro i hi
    have : i = 0 ∨ i = 1 := by simp at hi; omega
    rcases this with rfl | rfl
    · refine ⟨_, _, a, cap, rfl, ?_⟩
      exact HRR.out 33 _ (by rw [List.getElem?_append_left (by rw [HL.out]; omega)]; exact H33.out)
    · refine ⟨_, _, a', cap', rfl, ?_⟩
      have h := HRR.out (34 + 33) _ (by rw [List.getElem?_append_right (by rw [HL.out]; omega), HL.out]; exact H33'.out)
      simpa using h))
  have HB1 : Hid (Below w.heap.size w W1) := HB0.out.trans (hb1.mono HB0.out.size)
  have HR1 := hid (rangeAt_below HR.out hb1 (by have := HS0.out; omega))
  have HR1' := hid (rangeAt_below HR'.out hb1 (by have := HS0.out; omega))
  have hz1 : w.heap.size + 2 ≤ W1.heap.size := by have h := hb1.size; have h2 := HS0.out; omega
  clear hb1 hW1 HRR HR HR'
  refine HLI.out.mono ?_
  rintro e w2 ⟨rfl, hw2⟩
  rw [hw2]
  clear hw2 w2
  cases hli : lightB [l, l'] with
  | false =>
    go_wp2_with fail
    refine (alive_any W1).mono ?_
    rintro e w3 ⟨rfl, hb3⟩
    have HB3 := hid hb3
    clear hb3
    go_wp2_with fail
    go_ret
    exact ⟨rfl, HB1.out.trans (HB3.out.mono HB1.out.size)⟩
  | true =>
    obtain ⟨bs, bs', rfl, rfl, hb, hb'⟩ := HBY.out hli
    have HB := hid hb
    have HB' := hid hb'
    have KOWN := hid (fun V => own11_any k nm a bs.length cap V HN.out.1)
    have KOWN' := hid (fun V => own11_any k' nm' a' bs'.length cap' V HN'.out.1)
    have KPUT := hid (fun (bb : Nat) V ht hbb => put_one bb k nm bs (.slice a bs.length cap) V ht hbb HN.out.1 HN.out.2)
    have KRPUT := hid (fun V hbb => rput_one k nm bs (.slice a bs.length cap) V hbb HN.out.1 HN.out.2)
    have KSIZE := hid (fun V hbb => size_one k nm bs (.slice a bs.length cap) V hbb HN.out.1 HN.out.2)
    have KSAME := hid (fun V hbb hbb' => same17_any k k' nm nm' bs bs' (.slice a bs.length cap) (.slice a' bs'.length cap') V HN.out.1 HN'.out.1 HN.out.2 HN'.out.2 hbb hbb')
    have KRSAME := hid (fun V hbb hbb' => same18_any k k' nm nm' bs bs' (.slice a bs.length cap) (.slice a' bs'.length cap') V HN.out.1 HN'.out.1 HN.out.2 HN'.out.2 hbb hbb')
    rw [HC.out, HD.out] at KSAME KRSAME
    rw [HC.out] at KOWN KPUT KRPUT KSIZE
    rw [HD.out] at KOWN'
    have KR13 := hid (fun V => right13_any C k a bs.length cap V H0.out H33.out)
    have KR14 := hid (fun V => right14_any C k a bs.length cap V H0.out H33.out)
    obtain ⟨R, hR⟩ : ∃ R, rightB k bs.length = R := ⟨_, rfl⟩
    rw [hR] at KR13 KR14
    obtain ⟨sb, hsb⟩ : ∃ sb, sameR k k' nm nm' bs bs' = sb := ⟨_, rfl⟩
    rw [hsb] at KSAME KRSAME
    clear hsb hR hb hb' hli HLI
    go_wp2_with fail
    refine (Crc.new_any W1).mono ?_
    rintro e w3 ⟨rfl, hb3, hs3, ht3⟩
    have HB3 : Hid (Below w.heap.size w w3) := HB1.out.trans (hb3.mono HB1.out.size)
    have HT3 : Hid (TabX w3 W1.heap.size) := ⟨0, 0, .inl rfl, ht3⟩
    have HR3 := hid (rangeAt_below HR1.out hb3 (by omega))
    have HR3' := hid (rangeAt_below HR1'.out hb3 (by omega))
    have hz3 : W1.heap.size < w3.heap.size := by omega
    clear hb3 hs3 ht3
    go_wp2_with (refine wpList_load_mid (by rfl) 26 _ (by rfl) w.heap.size 0 (by rfl) C _ HR3.out Try.underlying26 rfl HI.out ?_)
    refine (KOWN.out w3).mono ?_
    rintro e w4 ⟨rfl, hb4⟩
    have HB4 : Hid (Below w.heap.size w w4) := HB3.out.trans (hb4.mono HB3.out.size)
    have HT4 := hid (HT3.out.below hb4)
    have HR4 := hid (rangeAt_below HR3.out hb4 (by omega))
    have HR4' := hid (rangeAt_below HR3'.out hb4 (by omega))
    have hz4 : w3.heap.size ≤ w4.heap.size := hb4.size
    clear hb4
    go_wp2_with fail
    refine (KPUT.out W1.heap.size w4 HT4.out (HB.out.agree (Agree.below HB4.out) (Nat.le_refl _) HB4.out.size)).mono ?_
    rintro e w5 ⟨ap, cp, rfl, hp5, hk5, ht5⟩
    have HKW : Hid (Below w.heap.size w w5) := Crc.Kept.toBelow HB4.out hk5 (by omega)
    have HP5 := hid hp5
    have HR5 := hid (rangeAt_kept HR4.out hk5 (by omega) (by omega))
    have HR5' := hid (rangeAt_kept HR4'.out hk5 (by omega) (by omega))
    have hz5 : w4.heap.size ≤ w5.heap.size := hk5.size
    clear hp5 hk5 ht5
    go_wp2_with (refine wpList_load_mid (by rfl) 26 _ (by rfl) w.heap.size 0 (by rfl) C _ HR5.out Try.underlying26 rfl HI.out ?_)
    refine (KRPUT.out w5 (HB.out.agree (Agree.below HKW.out) (Nat.le_refl _) HKW.out.size)).mono ?_
    rintro e w6 ⟨aq, cq, rfl, hq6, hb6⟩
    have HB6 : Hid (Below w.heap.size w w6) := HKW.out.trans (hb6.mono HKW.out.size)
    have HP6 : Hid (Tlv.BySl 0 w6.heap.size w6 (.slice ap (putX k nm bs).length cp) (putX k nm bs)) := (BySlS.below HP5.out hb6 (fun g hg => hg.2)).to (fun g hg => Nat.lt_of_lt_of_le hg.2 hb6.size)
    have HQ6 : Hid (Tlv.BySl 0 w6.heap.size w6 (.slice aq (putX k nm bs).length cq) (putX k nm bs)) := hq6.to (fun g hg => hg.2)
    have HR6 := hid (rangeAt_below HR5.out hb6 (by omega))
    have HR6' := hid (rangeAt_below HR5'.out hb6 (by omega))
    have hz6 : w5.heap.size ≤ w6.heap.size := hb6.size
    clear hq6 hb6
    have HX5 : Hid ((putX k nm bs).length ≤ 140737488355328) := by obtain ⟨_, _, _, _, _, _, h, _⟩ := HP6.out; exact h
    obtain ⟨X, hX⟩ : ∃ X, putX k nm bs = X := ⟨_, rfl⟩
    rw [hX] at HP6 HQ6 KSIZE HX5
    rw [hX]
    clear hX
    have hX5 := HX5.out
    generalize hpf : putF k bs.length = pf
    clear hpf
    go_wp2_with fail
    refine wp_region_held_drew (S := fun V => Below w6.heap.size w6 V) (by kernel_rfl) (Below.refl _ _).drew (fun hHeld => ?_)
    refine wpAnyH_take (i := 0) (oi := { dst := some 29, op := Op.load 26 (Operand.tmp 2), type := 26, pos := "law.go:58", after := #[], guard := none }) (v := .agg C.toArray) rfl (by kernel_rfl) (by kernel_rfl) (by kernel_rfl) (fun _ _ _ h => h) (yieldsIf_load_mid (by rfl) _ _ rfl w.heap.size 0 rfl C _ (fun V hV => rangeAt_below HR6.out hV (by omega)) Try.underlying26 rfl HI.out) hHeld ?_
    simp only [Act.put, List.setIfInBounds_toArray, List.set_cons_zero, List.set_cons_succ]
    refine wpAnyH_take (i := 3) (oi := { dst := some 32, op := Op.load 26 (Operand.tmp 2), type := 26, pos := "law.go:58", after := #[], guard := none }) (v := .agg C.toArray) rfl (by kernel_rfl) (by kernel_rfl) (by kernel_rfl) (fun _ _ _ h => h) (yieldsIf_load_mid (by rfl) _ _ rfl w.heap.size 0 rfl C _ (fun V hV => rangeAt_below HR6.out hV (by omega)) Try.underlying26 rfl HI.out) hHeld ?_
    simp only [Act.put, List.setIfInBounds_toArray, List.set_cons_zero, List.set_cons_succ]
    refine wpAnyH_ready (rs := [1]) (by kernel_rfl) (by simp) ?_
    refine AllReadyH.cons (o := { dst := some 30, op := Op.call { callee := Callee.value (Operand.func 11), args := #[Operand.tmp 29], argTypes := #[26] }, type := 35, pos := "law.go:58", after := #[{ on := 0, ground := Ground.data }], guard := none }) rfl (fun K hK => ?_) AllReadyH.nil
    go_simp
    refine (KOWN.out _).mono ?_
    rintro e v1 ⟨rfl, hb1⟩
    have K1 : Hid (Below w6.heap.size w6 v1) := ((Below.refl w6.heap.size w6).drew).trans (hb1.mono ((Below.refl w6.heap.size w6).drew).size)
    clear hb1
    go_wp2_with fail
    refine hK.out _ _ (K1.out) (fun hh => ?_)
    clear hK K hHeld
    have hHeld := hh
    clear hh
    try simp only [Act.put, List.setIfInBounds_toArray, List.set_cons_zero, List.set_cons_succ]
    refine wpAnyH_ready (rs := [2]) (by kernel_rfl) (by simp) ?_
    refine AllReadyH.cons (o := { dst := some 31, op := Op.call { callee := Callee.value (Operand.func 13), args := #[Operand.tmp 30], argTypes := #[35] }, type := 4, pos := "law.go:58", after := #[{ on := 1, ground := Ground.data }, { on := 1, ground := Ground.chain }], guard := none }) rfl (fun K hK => ?_) AllReadyH.nil
    go_simp
    refine (KR13.out _).mono ?_
    rintro e v2 ⟨rfl, hb2⟩
    have K2 : Hid (Below w6.heap.size w6 v2) := (K1.out).trans (hb2.mono (K1.out).size)
    clear hb2
    go_wp2_with fail
    refine hK.out _ _ (K2.out) (fun hh => ?_)
    clear hK K hHeld
    have hHeld := hh
    clear hh
    try simp only [Act.put, List.setIfInBounds_toArray, List.set_cons_zero, List.set_cons_succ]
    refine wpAnyH_ready (rs := [4]) (by kernel_rfl) (by simp) ?_
    refine AllReadyH.cons (o := { dst := some 33, op := Op.call { callee := Callee.value (Operand.func 14), args := #[Operand.tmp 32], argTypes := #[26] }, type := 4, pos := "law.go:58", after := #[{ on := 3, ground := Ground.data }, { on := 2, ground := Ground.chain }], guard := none }) rfl (fun K hK => ?_) AllReadyH.nil
    go_simp
    refine (KR14.out _).mono ?_
    rintro e v3 ⟨rfl, hb3⟩
    have K3 : Hid (Below w6.heap.size w6 v3) := (K2.out).trans (hb3.mono (K2.out).size)
    clear hb3
    go_wp2_with fail
    refine hK.out _ _ (K3.out) (fun hh => ?_)
    clear hK K hHeld
    have hHeld := hh
    clear hh
    try simp only [Act.put, List.setIfInBounds_toArray, List.set_cons_zero, List.set_cons_succ]
    refine wpAnyH_take (i := 5) (oi := { dst := some 34, op := Op.binOp BinOp.eql 4 (Operand.tmp 31) (Operand.tmp 33) 4, type := 4, pos := "law.go:58", after := #[{ on := 2, ground := Ground.data }, { on := 4, ground := Ground.data }], guard := none }) (v := .bool true) rfl (by kernel_rfl) (by kernel_rfl) (by kernel_rfl) (fun _ _ _ h => h) (Or.inl ⟨by rfl, fun w' hw' => by (clear hw'; go_simp)⟩) hHeld ?_
    simp only [Act.put, List.setIfInBounds_toArray, List.set_cons_zero, List.set_cons_succ]
    refine wpAnyH_take (i := 6) (oi := { dst := some 35, op := Op.move (Operand.tmp 34), type := 4, pos := "law.go:58", after := #[{ on := 5, ground := Ground.data }, { on := 4, ground := Ground.chain }], guard := none }) (v := .bool true) rfl (by kernel_rfl) (by kernel_rfl) (by kernel_rfl) (fun _ _ _ h => h) (Or.inl ⟨by rfl, fun w' hw' => by (clear hw'; go_simp)⟩) hHeld ?_
    simp only [Act.put, List.setIfInBounds_toArray, List.set_cons_zero, List.set_cons_succ]
    refine wpAnyH_take (i := 7) (oi := { dst := some 36, op := Op.load 26 (Operand.tmp 2), type := 26, pos := "law.go:58", after := #[{ on := 6, ground := Ground.guard }], guard := some (6, true) }) (v := .agg C.toArray) rfl (by kernel_rfl) (by kernel_rfl) (by kernel_rfl) (fun _ _ _ h => h) (yieldsIf_load_mid (by rfl) _ _ rfl w.heap.size 0 rfl C _ (fun V hV => rangeAt_below HR6.out hV (by omega)) Try.underlying26 rfl HI.out) hHeld ?_
    simp only [Act.put, List.setIfInBounds_toArray, List.set_cons_zero, List.set_cons_succ]
    refine wpAnyH_take (i := 10) (oi := { dst := some 39, op := Op.move (Operand.tmp 8), type := 24, pos := "law.go:58", after := #[{ on := 6, ground := Ground.guard }], guard := some (6, true) }) (v := .slice aq X.length cq) rfl (by kernel_rfl) (by kernel_rfl) (by kernel_rfl) (fun _ _ _ h => h) (Or.inl ⟨by rfl, fun w' hw' => by (clear hw'; go_simp)⟩) hHeld ?_
    simp only [Act.put, List.setIfInBounds_toArray, List.set_cons_zero, List.set_cons_succ]
    refine wpAnyH_take (i := 11) (oi := { dst := some 40, op := Op.call { callee := Callee.builtin Builtin.len, args := #[Operand.tmp 39], argTypes := #[24] }, type := 3, pos := "law.go:58", after := #[{ on := 10, ground := Ground.data }, { on := 6, ground := Ground.guard }], guard := some (6, true) }) (v := .int .i64 (X.length : Nat)) rfl (by kernel_rfl) (by kernel_rfl) (by kernel_rfl) (fun _ _ _ h => h) (Or.inl ⟨by rfl, fun w' hw' => by (clear hw'; go_simp)⟩) hHeld ?_
    simp only [Act.put, List.setIfInBounds_toArray, List.set_cons_zero, List.set_cons_succ]
    refine wpAnyH_ready (rs := [8]) (by kernel_rfl) (by simp) ?_
    refine AllReadyH.cons (o := { dst := some 37, op := Op.call { callee := Callee.value (Operand.func 11), args := #[Operand.tmp 36], argTypes := #[26] }, type := 35, pos := "law.go:58", after := #[{ on := 7, ground := Ground.data }, { on := 6, ground := Ground.chain }, { on := 6, ground := Ground.guard }], guard := some (6, true) }) rfl (fun K hK => ?_) AllReadyH.nil
    go_simp
    refine (KOWN.out _).mono ?_
    rintro e v4 ⟨rfl, hb4⟩
    have K4 : Hid (Below w6.heap.size w6 v4) := (K3.out).trans (hb4.mono (K3.out).size)
    clear hb4
    go_wp2_with fail
    refine hK.out _ _ (K4.out) (fun hh => ?_)
    clear hK K hHeld
    have hHeld := hh
    clear hh
    try simp only [Act.put, List.setIfInBounds_toArray, List.set_cons_zero, List.set_cons_succ]
    refine wpAnyH_ready (rs := [9]) (by kernel_rfl) (by simp) ?_
    refine AllReadyH.cons (o := { dst := some 38, op := Op.call { callee := Callee.value (Operand.func 15), args := #[Operand.tmp 37], argTypes := #[35] }, type := 3, pos := "law.go:58", after := #[{ on := 8, ground := Ground.data }, { on := 8, ground := Ground.chain }, { on := 6, ground := Ground.guard }], guard := some (6, true) }) rfl (fun K hK => ?_) AllReadyH.nil
    go_simp
    refine (KSIZE.out _ (HB.out.agree (Agree.below (HB6.out.trans ((K4.out).mono HB6.out.size))) (Nat.le_refl _) (HB6.out.trans ((K4.out).mono HB6.out.size)).size)).mono ?_
    rintro e v5 ⟨rfl, hb5⟩
    have K5 : Hid (Below w6.heap.size w6 v5) := (K4.out).trans (hb5.mono (K4.out).size)
    clear hb5
    go_wp2_with fail
    refine hK.out _ _ (K5.out) (fun hh => ?_)
    clear hK K hHeld
    have hHeld := hh
    clear hh
    try simp only [Act.put, List.setIfInBounds_toArray, List.set_cons_zero, List.set_cons_succ]
    refine wpAnyH_take (i := 12) (oi := { dst := some 41, op := Op.binOp BinOp.eql 3 (Operand.tmp 38) (Operand.tmp 40) 3, type := 4, pos := "law.go:58", after := #[{ on := 9, ground := Ground.data }, { on := 11, ground := Ground.data }, { on := 6, ground := Ground.guard }], guard := some (6, true) }) (v := .bool true) rfl (by kernel_rfl) (by kernel_rfl) (by kernel_rfl) (fun _ _ _ h => h) (Or.inl ⟨by rfl, fun w' hw' => by (clear hw'; go_simp)⟩) hHeld ?_
    simp only [Act.put, List.setIfInBounds_toArray, List.set_cons_zero, List.set_cons_succ]
    refine wpAnyH_take (i := 13) (oi := { dst := some 42, op := Op.pick (Operand.tmp 35) (Operand.tmp 41) (Operand.const (Value.bool false)), type := 4, pos := "law.go:58", after := #[{ on := 6, ground := Ground.data }, { on := 12, ground := Ground.data }], guard := none }) (v := .bool true) rfl (by kernel_rfl) (by kernel_rfl) (by kernel_rfl) (fun _ _ _ h => h) (Or.inl ⟨by rfl, fun w' hw' => by (clear hw'; go_simp)⟩) hHeld ?_
    simp only [Act.put, List.setIfInBounds_toArray, List.set_cons_zero, List.set_cons_succ]
    refine wpAnyH_take (i := 14) (oi := { dst := some 43, op := Op.move (Operand.tmp 42), type := 4, pos := "law.go:58", after := #[{ on := 13, ground := Ground.data }, { on := 9, ground := Ground.chain }], guard := none }) (v := .bool true) rfl (by kernel_rfl) (by kernel_rfl) (by kernel_rfl) (fun _ _ _ h => h) (Or.inl ⟨by rfl, fun w' hw' => by (clear hw'; go_simp)⟩) hHeld ?_
    simp only [Act.put, List.setIfInBounds_toArray, List.set_cons_zero, List.set_cons_succ]
    refine wpAnyH_take (i := 15) (oi := { dst := some 44, op := Op.move (Operand.tmp 6), type := 24, pos := "law.go:58", after := #[{ on := 14, ground := Ground.guard }], guard := some (14, true) }) (v := .slice ap X.length cp) rfl (by kernel_rfl) (by kernel_rfl) (by kernel_rfl) (fun _ _ _ h => h) (Or.inl ⟨by rfl, fun w' hw' => by (clear hw'; go_simp)⟩) hHeld ?_
    simp only [Act.put, List.setIfInBounds_toArray, List.set_cons_zero, List.set_cons_succ]
    refine wpAnyH_take (i := 16) (oi := { dst := some 45, op := Op.move (Operand.tmp 8), type := 24, pos := "law.go:58", after := #[{ on := 14, ground := Ground.guard }], guard := some (14, true) }) (v := .slice aq X.length cq) rfl (by kernel_rfl) (by kernel_rfl) (by kernel_rfl) (fun _ _ _ h => h) (Or.inl ⟨by rfl, fun w' hw' => by (clear hw'; go_simp)⟩) hHeld ?_
    simp only [Act.put, List.setIfInBounds_toArray, List.set_cons_zero, List.set_cons_succ]
    refine wpAnyH_ready (rs := [17]) (by kernel_rfl) (by simp) ?_
    refine AllReadyH.cons (o := { dst := some 46, op := Op.call { callee := Callee.value (Operand.func 16), args := #[Operand.tmp 44, Operand.tmp 45], argTypes := #[24, 24] }, type := 4, pos := "law.go:58", after := #[{ on := 15, ground := Ground.data }, { on := 16, ground := Ground.data }, { on := 14, ground := Ground.chain }, { on := 14, ground := Ground.guard }], guard := some (14, true) }) rfl (fun K hK => ?_) AllReadyH.nil
    go_simp
    refine (Tlv.refBytes_any _ _ X X _ (HP6.out.agree (Agree.below (K5.out)) (Nat.le_refl _) (K5.out).size) (HQ6.out.agree (Agree.below (K5.out)) (Nat.le_refl _) (K5.out).size)).mono ?_
    rintro e v6 ⟨rfl, hb6⟩
    rw [decide_eq_true rfl]
    have K6 : Hid (Below w6.heap.size w6 v6) := (K5.out).trans (hb6.mono (K5.out).size)
    clear hb6
    go_wp2_with fail
    refine hK.out _ _ (K6.out) (fun hh => ?_)
    clear hK K hHeld
    have hHeld := hh
    clear hh
    try simp only [Act.put, List.setIfInBounds_toArray, List.set_cons_zero, List.set_cons_succ]
    refine wpAnyH_take (i := 18) (oi := { dst := some 47, op := Op.pick (Operand.tmp 43) (Operand.tmp 46) (Operand.const (Value.bool false)), type := 4, pos := "law.go:58", after := #[{ on := 14, ground := Ground.data }, { on := 17, ground := Ground.data }], guard := none }) (v := .bool true) rfl (by kernel_rfl) (by kernel_rfl) (by kernel_rfl) (fun _ _ _ h => h) (Or.inl ⟨by rfl, fun w' hw' => by (clear hw'; go_simp)⟩) hHeld ?_
    simp only [Act.put, List.setIfInBounds_toArray, List.set_cons_zero, List.set_cons_succ]
    refine wpAnyH_take (i := 19) (oi := { dst := some 48, op := Op.move (Operand.tmp 47), type := 4, pos := "law.go:58", after := #[{ on := 18, ground := Ground.data }, { on := 17, ground := Ground.chain }], guard := none }) (v := .bool true) rfl (by kernel_rfl) (by kernel_rfl) (by kernel_rfl) (fun _ _ _ h => h) (Or.inl ⟨by rfl, fun w' hw' => by (clear hw'; go_simp)⟩) hHeld ?_
    simp only [Act.put, List.setIfInBounds_toArray, List.set_cons_zero, List.set_cons_succ]
    refine wpAnyH_take (i := 20) (oi := { dst := some 49, op := Op.move (Operand.tmp 7), type := 32, pos := "law.go:58", after := #[{ on := 19, ground := Ground.guard }], guard := some (19, true) }) (v := .int .i64 pf) rfl (by kernel_rfl) (by kernel_rfl) (by kernel_rfl) (fun _ _ _ h => h) (Or.inl ⟨by rfl, fun w' hw' => by (clear hw'; go_simp)⟩) hHeld ?_
    simp only [Act.put, List.setIfInBounds_toArray, List.set_cons_zero, List.set_cons_succ]
    refine wpAnyH_take (i := 21) (oi := { dst := some 50, op := Op.move (Operand.tmp 9), type := 32, pos := "law.go:58", after := #[{ on := 19, ground := Ground.guard }], guard := some (19, true) }) (v := .int .i64 pf) rfl (by kernel_rfl) (by kernel_rfl) (by kernel_rfl) (fun _ _ _ h => h) (Or.inl ⟨by rfl, fun w' hw' => by (clear hw'; go_simp)⟩) hHeld ?_
    simp only [Act.put, List.setIfInBounds_toArray, List.set_cons_zero, List.set_cons_succ]
    refine wpAnyH_take (i := 22) (oi := { dst := some 51, op := Op.binOp BinOp.eql 32 (Operand.tmp 49) (Operand.tmp 50) 32, type := 4, pos := "law.go:58", after := #[{ on := 20, ground := Ground.data }, { on := 21, ground := Ground.data }, { on := 19, ground := Ground.guard }], guard := some (19, true) }) (v := .bool true) rfl (by kernel_rfl) (by kernel_rfl) (by kernel_rfl) (fun _ _ _ h => h) (Or.inl ⟨by rfl, fun w' hw' => by (clear hw'; go_simp)⟩) hHeld ?_
    simp only [Act.put, List.setIfInBounds_toArray, List.set_cons_zero, List.set_cons_succ]
    refine wpAnyH_take (i := 23) (oi := { dst := some 52, op := Op.pick (Operand.tmp 48) (Operand.tmp 51) (Operand.const (Value.bool false)), type := 4, pos := "law.go:58", after := #[{ on := 19, ground := Ground.data }, { on := 22, ground := Ground.data }], guard := none }) (v := .bool true) rfl (by kernel_rfl) (by kernel_rfl) (by kernel_rfl) (fun _ _ _ h => h) (Or.inl ⟨by rfl, fun w' hw' => by (clear hw'; go_simp)⟩) hHeld ?_
    simp only [Act.put, List.setIfInBounds_toArray, List.set_cons_zero, List.set_cons_succ]
    refine wpAnyH_take (i := 24) (oi := { dst := some 53, op := Op.move (Operand.tmp 52), type := 4, pos := "law.go:58", after := #[{ on := 23, ground := Ground.data }, { on := 19, ground := Ground.chain }], guard := none }) (v := .bool true) rfl (by kernel_rfl) (by kernel_rfl) (by kernel_rfl) (fun _ _ _ h => h) (Or.inl ⟨by rfl, fun w' hw' => by (clear hw'; go_simp)⟩) hHeld ?_
    simp only [Act.put, List.setIfInBounds_toArray, List.set_cons_zero, List.set_cons_succ]
    refine wpAnyH_take (i := 25) (oi := { dst := some 54, op := Op.load 26 (Operand.tmp 2), type := 26, pos := "law.go:58", after := #[{ on := 24, ground := Ground.guard }], guard := some (24, true) }) (v := .agg C.toArray) rfl (by kernel_rfl) (by kernel_rfl) (by kernel_rfl) (fun _ _ _ h => h) (yieldsIf_load_mid (by rfl) _ _ rfl w.heap.size 0 rfl C _ (fun V hV => rangeAt_below HR6.out hV (by omega)) Try.underlying26 rfl HI.out) hHeld ?_
    simp only [Act.put, List.setIfInBounds_toArray, List.set_cons_zero, List.set_cons_succ]
    refine wpAnyH_take (i := 27) (oi := { dst := some 56, op := Op.load 26 (Operand.tmp 3), type := 26, pos := "law.go:58", after := #[{ on := 24, ground := Ground.guard }], guard := some (24, true) }) (v := .agg D.toArray) rfl (by kernel_rfl) (by kernel_rfl) (by kernel_rfl) (fun _ _ _ h => h) (yieldsIf_load_mid (by rfl) _ _ rfl (w.heap.size + 1) 0 rfl D _ (fun V hV => rangeAt_below HR6'.out hV (by omega)) Try.underlying26 rfl HI'.out) hHeld ?_
    simp only [Act.put, List.setIfInBounds_toArray, List.set_cons_zero, List.set_cons_succ]
    refine wpAnyH_take (i := 30) (oi := { dst := some 59, op := Op.load 26 (Operand.tmp 2), type := 26, pos := "law.go:58", after := #[{ on := 24, ground := Ground.guard }], guard := some (24, true) }) (v := .agg C.toArray) rfl (by kernel_rfl) (by kernel_rfl) (by kernel_rfl) (fun _ _ _ h => h) (yieldsIf_load_mid (by rfl) _ _ rfl w.heap.size 0 rfl C _ (fun V hV => rangeAt_below HR6.out hV (by omega)) Try.underlying26 rfl HI.out) hHeld ?_
    simp only [Act.put, List.setIfInBounds_toArray, List.set_cons_zero, List.set_cons_succ]
    refine wpAnyH_take (i := 31) (oi := { dst := some 60, op := Op.load 26 (Operand.tmp 3), type := 26, pos := "law.go:58", after := #[{ on := 24, ground := Ground.guard }], guard := some (24, true) }) (v := .agg D.toArray) rfl (by kernel_rfl) (by kernel_rfl) (by kernel_rfl) (fun _ _ _ h => h) (yieldsIf_load_mid (by rfl) _ _ rfl (w.heap.size + 1) 0 rfl D _ (fun V hV => rangeAt_below HR6'.out hV (by omega)) Try.underlying26 rfl HI'.out) hHeld ?_
    simp only [Act.put, List.setIfInBounds_toArray, List.set_cons_zero, List.set_cons_succ]
    refine wpAnyH_ready (rs := [26]) (by kernel_rfl) (by simp) ?_
    refine AllReadyH.cons (o := { dst := some 55, op := Op.call { callee := Callee.value (Operand.func 11), args := #[Operand.tmp 54], argTypes := #[26] }, type := 35, pos := "law.go:58", after := #[{ on := 25, ground := Ground.data }, { on := 24, ground := Ground.chain }, { on := 24, ground := Ground.guard }], guard := some (24, true) }) rfl (fun K hK => ?_) AllReadyH.nil
    go_simp
    refine (KOWN.out _).mono ?_
    rintro e v7 ⟨rfl, hb7⟩
    have K7 : Hid (Below w6.heap.size w6 v7) := (K6.out).trans (hb7.mono (K6.out).size)
    clear hb7
    go_wp2_with fail
    refine hK.out _ _ (K7.out) (fun hh => ?_)
    clear hK K hHeld
    have hHeld := hh
    clear hh
    try simp only [Act.put, List.setIfInBounds_toArray, List.set_cons_zero, List.set_cons_succ]
    refine wpAnyH_ready (rs := [28]) (by kernel_rfl) (by simp) ?_
    refine AllReadyH.cons (o := { dst := some 57, op := Op.call { callee := Callee.value (Operand.func 11), args := #[Operand.tmp 56], argTypes := #[26] }, type := 35, pos := "law.go:58", after := #[{ on := 27, ground := Ground.data }, { on := 26, ground := Ground.chain }, { on := 24, ground := Ground.guard }], guard := some (24, true) }) rfl (fun K hK => ?_) AllReadyH.nil
    go_simp
    refine (KOWN'.out _).mono ?_
    rintro e v8 ⟨rfl, hb8⟩
    have K8 : Hid (Below w6.heap.size w6 v8) := (K7.out).trans (hb8.mono (K7.out).size)
    clear hb8
    go_wp2_with fail
    refine hK.out _ _ (K8.out) (fun hh => ?_)
    clear hK K hHeld
    have hHeld := hh
    clear hh
    try simp only [Act.put, List.setIfInBounds_toArray, List.set_cons_zero, List.set_cons_succ]
    refine wpAnyH_ready (rs := [29]) (by kernel_rfl) (by simp) ?_
    refine AllReadyH.cons (o := { dst := some 58, op := Op.call { callee := Callee.value (Operand.func 17), args := #[Operand.tmp 55, Operand.tmp 57], argTypes := #[35, 35] }, type := 4, pos := "law.go:58", after := #[{ on := 26, ground := Ground.data }, { on := 28, ground := Ground.data }, { on := 28, ground := Ground.chain }, { on := 24, ground := Ground.guard }], guard := some (24, true) }) rfl (fun K hK => ?_) AllReadyH.nil
    go_simp
    refine (KSAME.out _ (HB.out.agree (Agree.below (HB6.out.trans ((K8.out).mono HB6.out.size))) (Nat.le_refl _) (HB6.out.trans ((K8.out).mono HB6.out.size)).size) (HB'.out.agree (Agree.below (HB6.out.trans ((K8.out).mono HB6.out.size))) (Nat.le_refl _) (HB6.out.trans ((K8.out).mono HB6.out.size)).size)).mono ?_
    rintro e v9 ⟨rfl, hb9⟩
    have K9 : Hid (Below w6.heap.size w6 v9) := (K8.out).trans (hb9.mono (K8.out).size)
    clear hb9
    go_wp2_with fail
    refine hK.out _ _ (K9.out) (fun hh => ?_)
    clear hK K hHeld
    have hHeld := hh
    clear hh
    try simp only [Act.put, List.setIfInBounds_toArray, List.set_cons_zero, List.set_cons_succ]
    refine wpAnyH_ready (rs := [32]) (by kernel_rfl) (by simp) ?_
    refine AllReadyH.cons (o := { dst := some 61, op := Op.call { callee := Callee.value (Operand.func 18), args := #[Operand.tmp 59, Operand.tmp 60], argTypes := #[26, 26] }, type := 4, pos := "law.go:58", after := #[{ on := 30, ground := Ground.data }, { on := 31, ground := Ground.data }, { on := 29, ground := Ground.chain }, { on := 24, ground := Ground.guard }], guard := some (24, true) }) rfl (fun K hK => ?_) AllReadyH.nil
    go_simp
    refine (KRSAME.out _ (HB.out.agree (Agree.below (HB6.out.trans ((K9.out).mono HB6.out.size))) (Nat.le_refl _) (HB6.out.trans ((K9.out).mono HB6.out.size)).size) (HB'.out.agree (Agree.below (HB6.out.trans ((K9.out).mono HB6.out.size))) (Nat.le_refl _) (HB6.out.trans ((K9.out).mono HB6.out.size)).size)).mono ?_
    rintro e v10 ⟨rfl, hb10⟩
    have K10 : Hid (Below w6.heap.size w6 v10) := (K9.out).trans (hb10.mono (K9.out).size)
    clear hb10
    go_wp2_with fail
    refine hK.out _ _ (K10.out) (fun hh => ?_)
    clear hK K hHeld
    have hHeld := hh
    clear hh
    try simp only [Act.put, List.setIfInBounds_toArray, List.set_cons_zero, List.set_cons_succ]
    refine wpAnyH_take (i := 33) (oi := { dst := some 62, op := Op.binOp BinOp.eql 4 (Operand.tmp 58) (Operand.tmp 61) 4, type := 4, pos := "law.go:58", after := #[{ on := 29, ground := Ground.data }, { on := 32, ground := Ground.data }, { on := 24, ground := Ground.guard }], guard := some (24, true) }) (v := .bool true) rfl (by kernel_rfl) (by kernel_rfl) (by kernel_rfl) (fun _ _ _ h => h) (Or.inl ⟨by rfl, fun w' hw' => by (clear hw'; go_simp)⟩) hHeld ?_
    simp only [Act.put, List.setIfInBounds_toArray, List.set_cons_zero, List.set_cons_succ]
    refine wpAnyH_take (i := 34) (oi := { dst := some 63, op := Op.pick (Operand.tmp 53) (Operand.tmp 62) (Operand.const (Value.bool false)), type := 4, pos := "law.go:58", after := #[{ on := 24, ground := Ground.data }, { on := 33, ground := Ground.data }], guard := none }) (v := .bool true) rfl (by kernel_rfl) (by kernel_rfl) (by kernel_rfl) (fun _ _ _ h => h) (Or.inl ⟨by rfl, fun w' hw' => by (clear hw'; go_simp)⟩) hHeld ?_
    simp only [Act.put, List.setIfInBounds_toArray, List.set_cons_zero, List.set_cons_succ]
    refine wpAnyH_take (i := 35) (oi := { dst := some 64, op := Op.move (Operand.tmp 63), type := 4, pos := "law.go:58", after := #[{ on := 34, ground := Ground.data }, { on := 32, ground := Ground.chain }], guard := none }) (v := .bool true) rfl (by kernel_rfl) (by kernel_rfl) (by kernel_rfl) (fun _ _ _ h => h) (Or.inl ⟨by rfl, fun w' hw' => by (clear hw'; go_simp)⟩) hHeld ?_
    simp only [Act.put, List.setIfInBounds_toArray, List.set_cons_zero, List.set_cons_succ]
    refine wpAnyH_ready (rs := [36]) (by kernel_rfl) (by simp) ?_
    refine AllReadyH.cons (o := { dst := some 65, op := Op.call { callee := Callee.value (Operand.func 8), args := #[], argTypes := #[] }, type := 4, pos := "law.go:58", after := #[{ on := 35, ground := Ground.chain }, { on := 35, ground := Ground.guard }], guard := some (35, true) }) rfl (fun K hK => ?_) AllReadyH.nil
    go_simp
    refine (alive_any _).mono ?_
    rintro e v11 ⟨rfl, hb11⟩
    have K11 : Hid (Below w6.heap.size w6 v11) := (K10.out).trans (hb11.mono (K10.out).size)
    clear hb11
    go_wp2_with fail
    refine hK.out _ _ (K11.out) (fun hh => ?_)
    clear hK K hHeld
    have hHeld := hh
    clear hh
    try simp only [Act.put, List.setIfInBounds_toArray, List.set_cons_zero, List.set_cons_succ]
    refine wpAnyH_take (i := 37) (oi := { dst := some 66, op := Op.pick (Operand.tmp 64) (Operand.tmp 65) (Operand.const (Value.bool false)), type := 4, pos := "law.go:58", after := #[{ on := 35, ground := Ground.data }, { on := 36, ground := Ground.data }], guard := none }) (v := .bool true) rfl (by kernel_rfl) (by kernel_rfl) (by kernel_rfl) (fun _ _ _ h => h) (Or.inl ⟨by rfl, fun w' hw' => by (clear hw'; go_simp)⟩) hHeld ?_
    simp only [Act.put, List.setIfInBounds_toArray, List.set_cons_zero, List.set_cons_succ]
    refine wpAnyH_take (i := 38) (oi := { dst := some 4, op := Op.assign (Operand.tmp 66), type := 4, pos := "law.go:58", after := #[{ on := 37, ground := Ground.data }, { on := 36, ground := Ground.chain }, { on := 0, ground := Ground.phase }, { on := 1, ground := Ground.phase }, { on := 2, ground := Ground.phase }, { on := 3, ground := Ground.phase }, { on := 4, ground := Ground.phase }, { on := 5, ground := Ground.phase }, { on := 6, ground := Ground.phase }, { on := 7, ground := Ground.phase }, { on := 8, ground := Ground.phase }, { on := 9, ground := Ground.phase }, { on := 10, ground := Ground.phase }, { on := 11, ground := Ground.phase }, { on := 12, ground := Ground.phase }, { on := 13, ground := Ground.phase }, { on := 14, ground := Ground.phase }, { on := 15, ground := Ground.phase }, { on := 16, ground := Ground.phase }, { on := 17, ground := Ground.phase }, { on := 18, ground := Ground.phase }, { on := 19, ground := Ground.phase }, { on := 20, ground := Ground.phase }, { on := 21, ground := Ground.phase }, { on := 22, ground := Ground.phase }, { on := 23, ground := Ground.phase }, { on := 24, ground := Ground.phase }, { on := 25, ground := Ground.phase }, { on := 26, ground := Ground.phase }, { on := 27, ground := Ground.phase }, { on := 28, ground := Ground.phase }, { on := 29, ground := Ground.phase }, { on := 30, ground := Ground.phase }, { on := 31, ground := Ground.phase }, { on := 32, ground := Ground.phase }, { on := 33, ground := Ground.phase }, { on := 34, ground := Ground.phase }, { on := 35, ground := Ground.phase }, { on := 36, ground := Ground.phase }, { on := 37, ground := Ground.phase }], guard := none }) (v := .bool true) rfl (by kernel_rfl) (by kernel_rfl) (by kernel_rfl) (fun _ _ _ h => h) (Or.inl ⟨by rfl, fun w' hw' => by (clear hw'; go_simp)⟩) hHeld ?_
    simp only [Act.put, List.setIfInBounds_toArray, List.set_cons_zero, List.set_cons_succ]
    refine wpAnyH_done (by kernel_rfl) ?_ _
    go_wp2_with fail
    go_ret
    exact ⟨rfl, HB6.out.trans (K11.out.mono HB6.out.size)⟩
end Go.Proofs.Ythbhdbjjobfchaa
