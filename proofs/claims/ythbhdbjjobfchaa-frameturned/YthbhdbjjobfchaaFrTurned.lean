/-
  FrameTurned, walked: a frame of which bits within 32 are turned, behind its first three bytes, is none.
-/
import Derived.Test.YthbhdbjjobfchaaFrLight
namespace Go.Proofs.Ythbhdbjjobfchaa
open Go.RowKit
open Tlv (Tr BySlS AgreeS Agree)
open Crc (hid Kept Tab turn)

theorem turn_get (xs : List Nat) (p m j : Nat) (h : j < p / 8) : ∀ k, (turn xs p m k)[j]? = xs[j]?
  | 0 => rfl
  | k + 1 => by
    rw [turn]
    split
    · rw [Crc.flip, List.getElem?_set_ne (by omega), turn_get xs p m j h k]
    · exact turn_get xs p m j h k

/-- A turned frame is none. -/
theorem take_turned {k : Int} {nm bs : List Int} (h : RightR k nm bs) {p m : Nat} (hp : 24 ≤ p) (hl : p + 32 ≤ 8 * (49 + bs.length)) (hm : m < 4294967296) (h0 : m ≠ 0) :
    takeF (ints (turn (nats (frameR k nm bs)) p m 32)) = noRec 16 ∨ takeF (ints (turn (nats (frameR k nm bs)) p m 32)) = noRec 4 := by
  have hfl := formR_length h
  have hbd := formR_bd h
  have hxl := nats_lt _ hbd
  have hlen : (ints (turn (nats (frameR k nm bs)) p m 32)).length = 49 + bs.length := by rw [ints_length, Crc.turn_len, nats_length, frameR_length h]
  obtain ⟨t0, hr0, _⟩ := Tlv.form_rd 2 8 (recT k nm bs) 65535 (sumI (formR k nm bs)) (recT_num h.1 h.2.1) (by omega) (recT_right h)
  have e0 : (formR k nm bs).length = Tlv.endOf (frameR k nm bs) := rd_end hr0
  have hget : ∀ j, j < 3 → (ints (turn (nats (frameR k nm bs)) p m 32))[j]? = (frameR k nm bs)[j]? := by
    intro j hj
    have e1 : (frameR k nm bs)[j]? = (ints (nats (frameR k nm bs)))[j]? := by rw [ints_nats _ (frameR_bd h)]
    rw [e1, ints, ints, List.getElem?_map, List.getElem?_map, turn_get _ _ _ _ (by omega)]
  have hend : Tlv.endOf (ints (turn (nats (frameR k nm bs)) p m 32)) = (formR k nm bs).length := by
    rw [e0]
    exact endOf_of (hget 1 (by omega)) (hget 2 (by omega))
  cases hr : Tlv.rd 8 (ints (turn (nats (frameR k nm bs)) p m 32)) with
  | none => exact .inl (takeF_none hr)
  | some x =>
    obtain ⟨t, q⟩ := x
    have hq := rd_end hr
    rw [hend] at hq
    right
    rw [takeF_some hr, if_neg (by rw [hlen, hq, hfl]; omega), if_pos]
    rw [hq]
    intro hc
    have hfr : nats (frameR k nm bs) = nats (formR k nm bs) ++ Crc.le4 (Crc.more 0 (nats (formR k nm bs))) := by rw [frameR, sealI_nats]
    have htl := Crc.turn_lt (xs := nats (frameR k nm bs)) (nats_lt _ (frameR_bd h)) p m 32
    refine Crc.burst_told (nats (formR k nm bs)) ((turn (nats (frameR k nm bs)) p m 32).take (formR k nm bs).length) ((turn (nats (frameR k nm bs)) p m 32).drop (formR k nm bs).length) p m hxl (fun x hx => htl x (List.mem_of_mem_take hx)) hm h0 ?_ ?_ ?_
    · rw [← hfr, nats_length, frameR_length h]; exact hl
    · rw [← hfr, List.take_append_drop]
    · have e1 : (ints (turn (nats (frameR k nm bs)) p m 32)).take (formR k nm bs).length = ints ((turn (nats (frameR k nm bs)) p m 32).take (formR k nm bs).length) := by rw [ints, ints, List.map_take]
      have e2 : ((ints (turn (nats (frameR k nm bs)) p m 32)).drop (formR k nm bs).length).take 4 = ints ((turn (nats (frameR k nm bs)) p m 32).drop (formR k nm bs).length) := by
        rw [ints, ints, List.map_drop, List.take_of_length_le]
        rw [List.length_drop, List.length_map, Crc.turn_len, nats_length, frameR_length h, hfl]
        omega
      rw [e1, e2, sumI, nats_ints] at hc
      have := congrArg nats hc
      rwa [nats_ints, nats_ints] at this

/-- One record, laid in a row. -/
theorem run_onerec (k : Int) (nm : List Int) (a : Option Addr) (l c : Nat) (hn : nm.length = 32) (w : World) :
    (Instr.buildSlice 28 1 #[(0, .agg (recA k nm (.slice a l c)).toArray)]).run Try.prog w =
      .ok (.slice (some ⟨w.heap.size, 0, none⟩) 1 1) (w.alloc (.cells (recA k nm (.slice a l c)).toArray 26)) := by
  obtain ⟨x0, x1, x2, x3, x4, x5, x6, x7, x8, x9, x10, x11, x12, x13, x14, x15, x16, x17, x18, x19, x20, x21, x22, x23, x24, x25, x26, x27, x28, x29, x30, x31, rfl⟩ := ex32 hn
  kernel_rfl

theorem wpList_slice1 {P : Program} {ops : Array Oper} {rest : List Oper} {o : Oper} {a : Act} {w w' : World} {Q : Exit → Act → World → Prop} (hg : o.guard = none) (ty : TypeId) (x : Operand) (ho : o.op = .buildSlice ty 1 #[(0, x)])
    (vx v : Value) (hx : a.eval x = vx) (hr : (Instr.buildSlice ty 1 #[(0, vx)]).run P w = .ok v w')
    (h : wpList P ops Q rest (a.put o.dst v) w') : wpList P ops Q (o :: rest) a w := by
  refine wpList_plain hg fun K hK => ?_
  unfold Oper.wp execOp
  have e : ((#[(0, x)] : Array (Nat × Operand)).map fun (i, x) => (i, a.eval x)) = #[(0, vx)] := by simp [hx]
  simp only [ho, Sem.run_bind, e, hr, Result.andThen_ok]
  exact hK _ _ h

/-- The row at g holds xs in wr; all else is as it was. -/
def Held (g : Nat) (W wr : World) (xs : List Nat) : Prop :=
  Kept g W wr ∧ wr.heap.size = W.heap.size ∧ (∀ j, j < xs.length → wr.cell? ⟨g, j, none⟩ = some (.int .u8 (xs.getD j 0 : Nat))) ∧ ∀ j, wr.frozen? ⟨g, j, none⟩ = false

theorem Held.set {g : Nat} {W wr : World} {xs : List Nat} (h : Held g W wr xs) (j x : Nat) (hj : j < xs.length) : Held g W (wr.setCell ⟨g, j, none⟩ (.int .u8 (x : Nat))) (xs.set j x) := by
  obtain ⟨h1, h2, h3, h4⟩ := h
  refine ⟨h1.setCell rfl _, by simpa using h2, fun i hi => ?_, fun i => by simpa using h4 i⟩
  simp only [List.length_set] at hi
  by_cases e : j = i
  · subst e
    rw [World.cell?_setCell_same _ _ _ (h3 j hj)]
    simp [hj]
  · rw [World.cell?_setCell_other _ _ _ _ (by simp only [ne_eq, Addr.mk.injEq, true_and, and_true]; omega), h3 i hi]
    simp [e]

theorem bit_test (m k : Nat) (hm : m < 4294967296) : (bits .and .u32 ((m : Int) / 2 ^ k) 1 == 1) = m.testBit k := by
  have e : ((m : Int) / 2 ^ k) = ((m / 2 ^ k : Nat) : Int) := by rw [Int.natCast_ediv, Int.natCast_pow]; rfl
  rw [e, Crc.and_one _ (Nat.lt_of_le_of_lt (Nat.div_le_self _ _) hm), Nat.testBit_eq_decide_div_mod_eq, Bool.eq_iff_iff]
  simp
  omega
theorem bit_xor (c q : Nat) (hc : c < 256) (hq : q < 8) : bits .xor .u8 (c : Int) (2 ^ q % 256) = ((c ^^^ 2 ^ q : Nat) : Int) := by
  have hp : 2 ^ q < 256 := Nat.pow_lt_pow_right (m := q) (n := 8) (by decide) hq
  have e : ((2 : Int) ^ q % 256) = ((2 ^ q : Nat) : Int) := by
    rw [Int.natCast_pow]
    apply Int.emod_eq_of_lt
    · exact Int.pow_nonneg (by decide)
    · have : (((2 ^ q : Nat)) : Int) < 256 := by omega
      rw [Int.natCast_pow] at this
      exact this
  rw [e]
  exact u8_xor_nat c (2 ^ q) hc hp

set_option maxHeartbeats 4000000 in
set_option maxRecDepth 100000 in
theorem turned_main (k : Int) (nm : List Int) (a : Option Addr) (l cap : Nat) (p : Int) (m : Nat) (w : World) (hn : nm.length = 32) (hx : ∀ x ∈ nm, 0 ≤ x ∧ x ≤ 255) (h63 : l ≤ 9223372036854775807) (hm : m < 4294967296) (hp0 : -9223372036854775808 ≤ p) (hp1 : p ≤ 9223372036854775807)
    (hby : lightB [l] = true → ∃ bs : List Int, bs.length = l ∧ Tlv.BySl 0 w.heap.size w (.slice a l cap) bs) :
    Calls Try.prog 6 #[.agg (recA k nm (.slice a l cap)).toArray, .int .i64 p, .int .u32 m] w fun e w' => e = .returned (.bool true) ∧ Below w.heap.size w w' := by
  have HBY := hid hby
  have HN := hid (And.intro hn hx)
  have HRUN := hid (run_onerec k nm a l cap hn)
  have HL := hid (recA_length k nm (.slice a l cap) hn)
  have H33 := hid (recA_33 k nm (.slice a l cap) hn)
  clear hby hn hx
  obtain ⟨C, hC⟩ : ∃ C, recA k nm (.slice a l cap) = C := ⟨_, rfl⟩
  rw [hC] at HRUN HL H33
  rw [hC]
  have HC := hid hC
  clear hC
  have HI : Hid ((Try.prog.info? 26).map (·.size) = some C.length) := by rw [Hid, HL.out]; exact Try.info26
  go_enter Try.func6, Try.ntmps6
  obtain ⟨W0, hW0⟩ : ∃ W0, w.alloc (.cells C.toArray 26) = W0 := ⟨_, rfl⟩
  have hb0 : Below w.heap.size w W0 := by rw [← hW0]; exact (Below.refl _ _).alloc (Nat.le_refl _) _
  have HB0 := hid hb0
  have HS0 : Hid (W0.heap.size = w.heap.size + 1) := by rw [Hid, ← hW0]; simp
  have HR : Hid (W0.rangeAt w.heap.size 0 C) := by rw [← hW0]; exact range_new _ _ _
  clear hb0
  go_wp2_with (first
    | (refine wpList_load_mid (by rfl) 26 _ (by rfl) w.heap.size 0 (by rfl) C _ HR.out Try.underlying26 rfl HI.out ?_)
    | (refine wpList_slice1 (by rfl) 28 _ (by rfl) _ _ (by rfl) (HRUN.out W0) ?_))
  clear hW0
  obtain ⟨W1, hW1⟩ : ∃ W1, W0.alloc (.cells C.toArray 26) = W1 := ⟨_, rfl⟩
  have hb1 : Below W0.heap.size W0 W1 := by rw [← hW1]; exact (Below.refl _ _).alloc (Nat.le_refl _) _
  have HRR : Hid (W1.rangeAt W0.heap.size 0 C) := by rw [← hW1]; exact range_new _ _ _
  rw [hW1]
  have HLI := hid (light_any (some ⟨W0.heap.size, 0, none⟩) 1 [l] W1 (by simp) (by simp; omega) (by
    intro i hi
    have : i = 0 := by simpa using hi
    subst this
    refine ⟨_, _, a, cap, rfl, ?_⟩
    exact HRR.out 33 _ H33.out))
  have HB1 : Hid (Below w.heap.size w W1) := HB0.out.trans (hb1.mono HB0.out.size)
  have HR1 := hid (rangeAt_below HR.out hb1 (by have := HS0.out; omega))
  have hz1 : w.heap.size + 1 ≤ W1.heap.size := by have h := hb1.size; have h2 := HS0.out; omega
  clear hb1 hW1 HRR HR
  refine HLI.out.mono ?_
  rintro e w2 ⟨rfl, hw2⟩
  rw [hw2]
  clear hw2 w2
  have hend : Hid (∀ V, Below w.heap.size w V → Calls Try.prog 8 #[] V fun e w' => e = .returned (.bool true) ∧ Hid (Below w.heap.size w w')) := by
    intro V hV
    refine (alive_any V).mono ?_
    rintro e w5 ⟨rfl, hb5⟩
    exact ⟨rfl, hV.trans (hb5.mono hV.size)⟩
  cases hli : lightB [l] with
  | false =>
    go_wp2_with fail
    refine (hend.out W1 HB1.out).mono ?_
    rintro e w3 ⟨rfl, HB3⟩
    go_wp2_with fail
    go_ret
    exact ⟨rfl, HB3.out⟩
  | true =>
    obtain ⟨bs, rfl, hb⟩ := HBY.out hli
    have HB := hid hb
    have HLE : Hid (bs.length ≤ 5100) := by simp [lightB] at hli; exact hli
    clear hli HLI hb
    by_cases hm0 : m = 0
    · subst hm0
      go_wp2_with fail
      refine (hend.out W1 HB1.out).mono ?_
      rintro e w3 ⟨rfl, HB3⟩
      go_wp2_with fail
      go_ret
      exact ⟨rfl, HB3.out⟩
    have hmb : ((m : Int) == 0) = false := by simp; omega
    have HM0 := hid hm0
    clear hm0
    go_wp2_with fail
    clear hmb
    refine (Crc.new_any W1).mono ?_
    rintro e w3 ⟨rfl, hb3, hs3, ht3⟩
    have HB3 : Hid (Below w.heap.size w w3) := HB1.out.trans (hb3.mono HB1.out.size)
    have HT3 : Hid (TabX w3 W1.heap.size) := ⟨0, 0, .inl rfl, ht3⟩
    have HR3 := hid (rangeAt_below HR1.out hb3 (by omega))
    have hz3 : W1.heap.size < w3.heap.size := by omega
    clear hb3 hs3 ht3
    have KOWN := hid (fun V => own11_any k nm a bs.length cap V HN.out.1)
    rw [HC.out] at KOWN
    go_wp2_with (refine wpList_load_mid (by rfl) 26 _ (by rfl) w.heap.size 0 (by rfl) C _ HR3.out Try.underlying26 rfl HI.out ?_)
    refine (KOWN.out w3).mono ?_
    rintro e w4 ⟨rfl, hb4⟩
    have HB4 : Hid (Below w.heap.size w w4) := HB3.out.trans (hb4.mono HB3.out.size)
    have HT4 := hid (HT3.out.below hb4)
    have HR4 := hid (rangeAt_below HR3.out hb4 (by omega))
    have hz4 : w3.heap.size ≤ w4.heap.size := hb4.size
    clear hb4
    cases hri : rightB k bs.length with
    | false =>
      have KPN := hid (put_no ⟨W1.heap.size, 0, none⟩ k nm bs a cap w4 HN.out.1 hri)
      rw [HC.out] at KPN
      clear hri
      go_wp2_with fail
      refine KPN.out.mono ?_
      rintro e w5 ⟨rfl, hb5⟩
      have HB5 : Hid (Below w.heap.size w w5) := HB4.out.trans (hb5.mono HB4.out.size)
      clear hb5
      go_wp2_with fail
      refine (hend.out w5 HB5.out).mono ?_
      rintro e w6 ⟨rfl, HB6⟩
      go_wp2_with fail
      go_ret
      exact ⟨rfl, HB6.out⟩
    | true =>
      have h6 : ∀ x ∈ bs, 0 ≤ x ∧ x ≤ 255 := by obtain ⟨_, _, _, _, _, _, _, h, _⟩ := HB.out; exact h
      have HRI := hid (right_of hri HN.out.1 HN.out.2 h6)
      have KPY := hid (put_yes W1.heap.size k nm bs (.slice a bs.length cap) w4 HT4.out (HB.out.agree (Agree.below HB4.out) (Nat.le_refl _) HB4.out.size) HRI.out)
      rw [HC.out] at KPY
      clear hri h6
      go_wp2_with fail
      refine KPY.out.mono ?_
      rintro e w5 ⟨v5, rfl, ho5, hk5, ht5⟩
      have hfl := frameR_length HRI.out
      have HK5 : Hid (Below w.heap.size w w5) := Crc.Kept.toBelow HB4.out hk5 (by omega)
      have HT5 := hid ht5
      have HR5 := hid (rangeAt_kept HR4.out hk5 (by omega) (by omega))
      have hz5 : w4.heap.size ≤ w5.heap.size := hk5.size
      have HTT := hid (fun p m => @take_turned k nm bs HRI.out p m)
      have HXB := hid (nats_lt _ (frameR_bd HRI.out))
      obtain ⟨zs, hzs⟩ : ∃ zs, nats (frameR k nm bs) = zs := ⟨_, rfl⟩
      have hzl : zs.length = 49 + bs.length := by rw [← hzs, nats_length, hfl]
      rw [hzs] at ho5 HXB HTT
      have HO5 := hid ho5
      clear ho5 hk5 ht5 hzs hfl KPY
      obtain ⟨g, cp, cur, rfl, hg1, hgc, hgl, hgm⟩ : ∃ g cap cur, v5 = .slice (some ⟨g, 0, none⟩) zs.length cap ∧ w4.heap.size ≤ g ∧ w5.heap[g]? = some (.cells cur 5 (0, 0)) ∧ zs.length ≤ cap ∧ Hid (cap ≤ maxLen) := by
        rcases HO5.out.2 with ⟨_, h⟩ | ⟨g, cap, cur, h, h1, h2, h3, h4, _⟩
        · omega
        · exact ⟨g, cap, cur, h, h1, h2, h3, h4⟩
      have hgs : g < w5.heap.size := (Array.getElem?_eq_some_iff.1 hgc).1
      have HG : Hid (Held g w5 w5 zs) := by
        refine ⟨Crc.Kept.refl _ _, rfl, fun j hj => ?_, fun j => by simp [World.frozen?, hgc]⟩
        have h1 : w5.ownsRow w4.heap.size 5 1 (.slice (some ⟨g, 0, none⟩) zs.length cp) zs.length (Crc.cl zs) := HO5.out
        rw [h1.cellAt j (by omega)]
        exact Crc.cl_at zs j hj
      have HZL := hid hzl
      have hle := HLE.out
      obtain ⟨N, hN⟩ : ∃ N, zs.length = N := ⟨_, rfl⟩
      rw [hN] at hgl ⊢
      have HNN := hid hN
      have hNb : 49 ≤ N ∧ N ≤ 5149 := by omega
      clear hgc HO5 hzl hN hle
      by_cases hA : p < 24 ∨ 8 * (N : Int) - 32 < p
      · by_cases hp : p < 24
        · clear hA
          go_wp2_with fail
          refine (hend.out w5 HK5.out).mono ?_
          rintro e w6 ⟨rfl, HB6⟩
          go_wp2_with fail
          go_ret
          exact ⟨rfl, HB6.out⟩
        · have hp2 : 8 * (N : Int) - 32 < p := by omega
          clear hA
          go_wp2_with fail
          refine (hend.out w5 HK5.out).mono ?_
          rintro e w6 ⟨rfl, HB6⟩
          go_wp2_with fail
          go_ret
          exact ⟨rfl, HB6.out⟩
      · obtain ⟨A, rfl⟩ : ∃ A : Nat, p = A := ⟨p.toNat, by omega⟩
        have hA0 : 24 ≤ A := by omega
        have hA1 : A + 32 ≤ 8 * N := by omega
        have hAi : ¬ ((A : Int) < 24) := by omega
        have hAj : ¬ (8 * (N : Int) - 32 < (A : Int)) := by omega
        have HE := hid (HTT.out A m hA0 (by have h1 := HZL.out; have h2 := HNN.out; omega) hm HM0.out)
        clear hA HTT hp0 hp1
        go_wp2_with fail
        go_loopw [10] (fun i wr => ∃ k : Nat, k ≤ 32 ∧ i = .int .i64 k ∧ Hid (Held g w5 wr (turn zs A m k))) (fun i _ => 32 - (intOf i).toNat)
        case atStart => exact ⟨0, by omega, rfl, HG⟩
        case round =>
          obtain ⟨k, hk, rfl, H⟩ := hrel
          by_cases hlt : k < 32
          · obtain ⟨J, hJ⟩ : ∃ J, (A + k) / 8 = J := ⟨_, rfl⟩
            obtain ⟨Q, hQ⟩ : ∃ Q, (A + k) % 8 = Q := ⟨_, rfl⟩
            have hJi : ((A : Int) + (k : Int)) / 8 = (J : Int) := by omega
            have hQi : ((A : Int) + (k : Int)) % 8 = (Q : Int) := by omega
            have hJl : J < N := by omega
            have hQl : Q < 8 := by omega
            have hlen : (turn zs A m k).length = N := by rw [Crc.turn_len, HNN.out]
            have c1 := H.out.2.2.1 J (by omega)
            have f1 := H.out.2.2.2 J
            have hT : Hid (turn zs A m (k + 1) = if m.testBit k then (turn zs A m k).set J ((turn zs A m k).getD J 0 ^^^ 2 ^ Q) else turn zs A m k) := by rw [Hid, turn, Crc.flip, hJ, hQ]
            have hs := hid (fun x => H.out.set J x (by omega))
            have hcb : (turn zs A m k).getD J 0 < 256 := by
              have hi : J < (turn zs A m k).length := by omega
              have := Crc.turn_lt HXB.out A m k (turn zs A m k)[J] (List.getElem_mem hi)
              simpa [List.getElem?_eq_getElem hi] using this
            generalize turn zs A m k = ts at *
            generalize ts.getD J 0 = c at *
            have HJ := hid hJ
            have HQ := hid hQ
            clear hJ hQ hlen
            have ht1 := bit_test m k hm
            have hx1 := bit_xor c Q hcb hQl
            cases hbit : m.testBit k
            · rw [hbit] at ht1 hT
              clear hx1 hbit
              go_wp2_with fail
              refine ⟨⟨k + 1, by omega, by go_num, ?_⟩, by simp [intOf]; omega⟩
              rw [hT.out]
              exact H
            · rw [hbit] at ht1 hT
              clear hbit
              go_wp2_with fail
              refine ⟨⟨k + 1, by omega, by go_num, ?_⟩, by simp [intOf]; omega⟩
              rw [hT.out]
              exact hs.out _
          · have : k = 32 := by omega
            subst this
            go_wp2_with fail
            have hlen : (turn zs A m 32).length = N := by rw [Crc.turn_len, HNN.out]
            have HV6 : Hid (BySlS (fun x => x ≠ W1.heap.size ∧ x < wr.heap.size) wr (.slice (some ⟨g, 0, none⟩) N cp) (ints (turn zs A m 32))) := by
              refine ⟨_, cp, by rw [ints_length, hlen], by rw [ints_length, hlen]; exact hgl, hgm.out, by simp, by rw [ints_length, hlen]; omega, ints_bd _ (Crc.turn_lt HXB.out A m 32), fun _ => ⟨g, 0, rfl, ⟨by omega, by rw [H.out.2.1]; exact hgs⟩, fun i hi => ?_⟩⟩
              rw [ints_length] at hi
              rw [Nat.zero_add, H.out.2.2.1 i hi]
              simp [ints, List.getElem?_eq_getElem hi]
            have HT6 : Hid (TabX wr W1.heap.size) := HT5.out.kept H.out.1 (by omega)
            have HB6 : Hid (Below w.heap.size w wr) := HK5.out.trans ⟨H.out.1.os, H.out.1.tape, H.out.1.output, H.out.1.size, fun i hi => H.out.1.block i (by omega) (by omega)⟩
            have HR6 : Hid (wr.rangeAt w.heap.size 0 C) := rangeAt_kept HR5.out H.out.1 (by omega) (by omega)
            have hz6 : wr.heap.size = w5.heap.size := H.out.2.1
            obtain ⟨fx, hfx, htk⟩ : ∃ fx, (fx = 16 ∨ fx = 4) ∧ takeF (ints (turn zs A m 32)) = noRec fx := by
              rcases HE.out with h | h
              · exact ⟨16, .inl rfl, h⟩
              · exact ⟨4, .inr rfl, h⟩
            have HTK := hid htk
            clear htk HE H hlen
            refine (take_any W1.heap.size _ _ wr HT6.out HV6.out).mono ?_
            rintro e w6 ⟨a6, c6, rfl, _, hn6, hk6, ht6⟩
            rw [HTK.out] at hn6 ⊢
            simp only [noRec, List.length_nil] at hn6 ⊢
            have HB7 : Hid (Below w.heap.size w w6) := Crc.Kept.toBelow HB6.out hk6 (by omega)
            have HR7 := hid (rangeAt_kept HR6.out hk6 (by omega) (by omega))
            have hz7 : wr.heap.size ≤ w6.heap.size := hk6.size
            obtain ⟨C6, hC6⟩ : ∃ C6, recA 0 (List.replicate 32 0) (.slice a6 0 c6) = C6 := ⟨_, rfl⟩
            have HL6 : Hid (C6.length = 34) := by rw [← hC6]; exact recA_length _ _ _ hn6.1
            have HO6 : Hid (C6.toArray.all (·.oneCell') = true) := by rw [← hC6]; exact all_oneCell_toArray (recA_one _ _ _ _ _)
            have HI6 : Hid ((Try.prog.info? 35).map (·.size) = some C6.toArray.size) := by rw [Hid, show C6.toArray.size = 34 from HL6.out]; exact Try.info35
            rw [hC6]
            clear hC6 hk6 ht6 hn6
            have hz := zero35
            obtain ⟨Z, hZ⟩ : ∃ Z, zRec = Z := ⟨_, rfl⟩
            have HZ : Hid (Z.length = 34) := by rw [← hZ]; exact zRec_length
            have HZO : Hid (Z.toArray.all (·.oneCell') = true) := by rw [← hZ]; exact all_oneCell_toArray zRec_one
            have HZI : Hid ((Try.prog.info? 35).map (·.size) = some Z.toArray.size) := by rw [← hZ]; exact Try.info35
            have KTN := hid (fun V => take_nil (some ⟨g, 0, none⟩) N cp V)
            have KAN := hid (fun V => at_nil (some ⟨g, 0, none⟩) N cp 0 V)
            rw [hZ] at hz KTN KAN
            clear hZ
            have HS6 := hid (store_facts w6 HZ.out HL6.out)
            have stb : Hid (∀ (V : World) (D : List Value), Below w.heap.size w V → V.rangeAt w.heap.size 0 C → w.heap.size < V.heap.size → Below w.heap.size w ((V.alloc (.cells Z.toArray 35)).setCells V.heap.size 0 D) ∧ ((V.alloc (.cells Z.toArray 35)).setCells V.heap.size 0 D).rangeAt w.heap.size 0 C ∧ w.heap.size < ((V.alloc (.cells Z.toArray 35)).setCells V.heap.size 0 D).heap.size) := by
              intro V D h1 h2 h3
              have hb := ((Below.refl V.heap.size V).alloc (Nat.le_refl _) (.cells Z.toArray 35)).trans (setCells_below (Nat.le_refl V.heap.size) _ 0 D)
              exact ⟨h1.trans (hb.mono h1.size), rangeAt_below h2 hb h3, Nat.lt_of_lt_of_le h3 hb.size⟩
            go_wp2_with (first
              | (refine wpList_store_mid (by rfl) 35 _ _ (by rfl) w6.heap.size 0 C6.toArray (by rfl) (by rfl) HS6.out HI6.out HO6.out ?_)
              | (refine wpList_load_mid (by rfl) 26 _ (by rfl) w.heap.size 0 (by rfl) C _ (stb.out w6 C6 HB7.out HR7.out (by omega)).2.1 Try.underlying26 rfl HI.out ?_))
            obtain ⟨hb8, hr8, hz8⟩ := stb.out w6 C6 HB7.out HR7.out (by omega)
            generalize (w6.alloc (.cells Z.toArray 35)).setCells w6.heap.size 0 C6 = W8 at *
            refine (KOWN.out W8).mono ?_
            rintro e w9 ⟨rfl, hb9⟩
            have HB9 : Hid (Below w.heap.size w w9) := hb8.trans (hb9.mono hb8.size)
            have HR9 := hid (rangeAt_below hr8 hb9 hz8)
            have hz9 : w.heap.size < w9.heap.size := Nat.lt_of_lt_of_le hz8 hb9.size
            clear hb8 hr8 hb9 hz8
            go_wp2_with fail
            refine (put_nil C w9).mono ?_
            rintro e w10 ⟨rfl, hb10⟩
            have HB10 : Hid (Below w.heap.size w w10) := HB9.out.trans (hb10.mono HB9.out.size)
            have HR10 := hid (rangeAt_below HR9.out hb10 hz9)
            have hz10 : w.heap.size < w10.heap.size := Nat.lt_of_lt_of_le hz9 hb10.size
            clear hb10
            go_wp2_with fail
            refine (KTN.out w10).mono ?_
            rintro e w11 ⟨rfl, hb11⟩
            have HB11 : Hid (Below w.heap.size w w11) := HB10.out.trans (hb11.mono HB10.out.size)
            have HR11 := hid (rangeAt_below HR10.out hb11 hz10)
            have hz11 : w.heap.size < w11.heap.size := Nat.lt_of_lt_of_le hz10 hb11.size
            clear hb11
            have HS11 := hid (store_facts w11 HZ.out HZ.out)
            go_wp2_with (refine wpList_store_mid (by rfl) 35 _ _ (by rfl) w11.heap.size 0 Z.toArray (by rfl) (by rfl) HS11.out HZI.out HZO.out ?_)
            obtain ⟨hb12, hr12, hz12⟩ := stb.out w11 Z HB11.out HR11.out hz11
            generalize (w11.alloc (.cells Z.toArray 35)).setCells w11.heap.size 0 Z = W12 at *
            refine (scan_nil (some ⟨g, 0, none⟩) N cp W12).mono ?_
            rintro e w13 ⟨rfl, hb13⟩
            have HB13 : Hid (Below w.heap.size w w13) := hb12.trans (hb13.mono hb12.size)
            have HR13 := hid (rangeAt_below hr12 hb13 hz12)
            have hz13 : w.heap.size < w13.heap.size := Nat.lt_of_lt_of_le hz12 hb13.size
            clear hb12 hr12 hz12 hb13
            go_wp2_with fail
            refine (KAN.out w13).mono ?_
            rintro e w14 ⟨rfl, hb14⟩
            have HB14 : Hid (Below w.heap.size w w14) := HB13.out.trans (hb14.mono HB13.out.size)
            have HR14 := hid (rangeAt_below HR13.out hb14 hz13)
            have hz14 : w.heap.size < w14.heap.size := Nat.lt_of_lt_of_le hz13 hb14.size
            clear hb14
            have HS14 := hid (store_facts w14 HZ.out HZ.out)
            have HB15 := hid (stb.out w14 Z HB14.out HR14.out hz14).1
            have HEND := hid (fun V (h : Below w.heap.size w V) => hend.out V h)
            rcases hfx with rfl | rfl
            all_goals
              go_wp2_with (refine wpList_store_mid (by rfl) 35 _ _ (by rfl) w14.heap.size 0 Z.toArray (by rfl) (by rfl) HS14.out HZI.out HZO.out ?_)
              refine (HEND.out _ HB15.out).mono ?_
              rintro e w16 ⟨rfl, HB16⟩
              go_wp2_with fail
              go_ret
              exact ⟨rfl, HB16.out⟩
end Go.Proofs.Ythbhdbjjobfchaa
