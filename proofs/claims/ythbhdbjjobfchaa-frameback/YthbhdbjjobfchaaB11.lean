/- Of the proof: the texts FrTurned, FrBackR, FrAll, FrPlaced, one behind the other. -/
import Derived.Test.YthbhdbjjobfchaaB10
import Derived.Test.YthbhdbjjobfchaaB8
section
/-
  FrameTurned, walked: a frame of which bits within 32 are turned, behind its first three bytes, is none.
-/
namespace Go.Proofs.Ythbhdbjjobfchaa
open Go.RowKit
open Tlv (Tr BySlS AgreeS Agree)
open Crc (hid Kept Tab turn)

theorem turn_get (xs : List Nat) (p m j : Nat) (h : j < p / 8) : ∀ k, (turn xs p m k)[j]? = xs[j]?
  | 0 => rfl
  | k + 1 => by
    rw [turn]
    split
    · rw [Crc.flip, List.getElem?_set_ne (by omega), turn_get xs p m j h k]
    · exact turn_get xs p m j h k

/-- A turned frame is none. -/
theorem take_turned {k : Int} {nm bs : List Int} (h : RightR k nm bs) {p m : Nat} (hp : 24 ≤ p) (hl : p + 32 ≤ 8 * (49 + bs.length)) (hm : m < 4294967296) (h0 : m ≠ 0) :
    takeF (ints (turn (nats (frameR k nm bs)) p m 32)) = noRec 16 ∨ takeF (ints (turn (nats (frameR k nm bs)) p m 32)) = noRec 4 := by
  have hfl := formR_length h
  have hbd := formR_bd h
  have hxl := nats_lt _ hbd
  have hlen : (ints (turn (nats (frameR k nm bs)) p m 32)).length = 49 + bs.length := by rw [ints_length, Crc.turn_len, nats_length, frameR_length h]
  obtain ⟨t0, hr0, _⟩ := Tlv.form_rd 2 8 (recT k nm bs) 65535 (sumI (formR k nm bs)) (recT_num h.1 h.2.1) (by omega) (recT_right h)
  have e0 : (formR k nm bs).length = Tlv.endOf (frameR k nm bs) := rd_end hr0
  have hget : ∀ j, j < 3 → (ints (turn (nats (frameR k nm bs)) p m 32))[j]? = (frameR k nm bs)[j]? := by
    intro j hj
    have e1 : (frameR k nm bs)[j]? = (ints (nats (frameR k nm bs)))[j]? := by rw [ints_nats _ (frameR_bd h)]
    rw [e1, ints, ints, List.getElem?_map, List.getElem?_map, turn_get _ _ _ _ (by omega)]
  have hend : Tlv.endOf (ints (turn (nats (frameR k nm bs)) p m 32)) = (formR k nm bs).length := by
    rw [e0]
    exact endOf_of (hget 1 (by omega)) (hget 2 (by omega))
  cases hr : Tlv.rd 8 (ints (turn (nats (frameR k nm bs)) p m 32)) with
  | none => exact .inl (takeF_none hr)
  | some x =>
    obtain ⟨t, q⟩ := x
    have hq := rd_end hr
    rw [hend] at hq
    right
    rw [takeF_some hr, if_neg (by rw [hlen, hq, hfl]; omega), if_pos]
    rw [hq]
    intro hc
    have hfr : nats (frameR k nm bs) = nats (formR k nm bs) ++ Crc.le4 (Crc.more 0 (nats (formR k nm bs))) := by rw [frameR, sealI_nats]
    have htl := Crc.turn_lt (xs := nats (frameR k nm bs)) (nats_lt _ (frameR_bd h)) p m 32
    refine Crc.burst_told (nats (formR k nm bs)) ((turn (nats (frameR k nm bs)) p m 32).take (formR k nm bs).length) ((turn (nats (frameR k nm bs)) p m 32).drop (formR k nm bs).length) p m hxl (fun x hx => htl x (List.mem_of_mem_take hx)) hm h0 ?_ ?_ ?_
    · rw [← hfr, nats_length, frameR_length h]; exact hl
    · rw [← hfr, List.take_append_drop]
    · have e1 : (ints (turn (nats (frameR k nm bs)) p m 32)).take (formR k nm bs).length = ints ((turn (nats (frameR k nm bs)) p m 32).take (formR k nm bs).length) := by rw [ints, ints, List.map_take]
      have e2 : ((ints (turn (nats (frameR k nm bs)) p m 32)).drop (formR k nm bs).length).take 4 = ints ((turn (nats (frameR k nm bs)) p m 32).drop (formR k nm bs).length) := by
        rw [ints, ints, List.map_drop, List.take_of_length_le]
        rw [List.length_drop, List.length_map, Crc.turn_len, nats_length, frameR_length h, hfl]
        omega
      rw [e1, e2, sumI, nats_ints] at hc
      have := congrArg nats hc
      rwa [nats_ints, nats_ints] at this

/-- One record, laid in a row. -/
theorem run_onerec (k : Int) (nm : List Int) (a : Option Addr) (l c : Nat) (hn : nm.length = 32) (w : World) :
    (Instr.buildSlice 28 1 #[(0, .agg (recA k nm (.slice a l c)).toArray)]).run Try.prog w =
      .ok (.slice (some ⟨w.heap.size, 0, none⟩) 1 1) (w.alloc (.cells (recA k nm (.slice a l c)).toArray 26)) := by
  obtain ⟨x0, x1, x2, x3, x4, x5, x6, x7, x8, x9, x10, x11, x12, x13, x14, x15, x16, x17, x18, x19, x20, x21, x22, x23, x24, x25, x26, x27, x28, x29, x30, x31, rfl⟩ := ex32 hn
  kernel_rfl

theorem wpList_slice1 {P : Program} {ops : Array Oper} {rest : List Oper} {o : Oper} {a : Act} {w w' : World} {Q : Exit → Act → World → Prop} (hg : o.guard = none) (ty : TypeId) (x : Operand) (ho : o.op = .buildSlice ty 1 #[(0, x)])
    (vx v : Value) (hx : a.eval x = vx) (hr : (Instr.buildSlice ty 1 #[(0, vx)]).run P w = .ok v w')
    (h : wpList P ops Q rest (a.put o.dst v) w') : wpList P ops Q (o :: rest) a w := by
  refine wpList_plain hg fun K hK => ?_
  unfold Oper.wp execOp
  have e : ((#[(0, x)] : Array (Nat × Operand)).map fun (i, x) => (i, a.eval x)) = #[(0, vx)] := by simp [hx]
  simp only [ho, Sem.run_bind, e, hr, Result.andThen_ok]
  exact hK _ _ h

/-- The row at g holds xs in wr; all else is as it was. -/
def Held (g : Nat) (W wr : World) (xs : List Nat) : Prop :=
  Kept g W wr ∧ wr.heap.size = W.heap.size ∧ (∀ j, j < xs.length → wr.cell? ⟨g, j, none⟩ = some (.int .u8 (xs.getD j 0 : Nat))) ∧ ∀ j, wr.frozen? ⟨g, j, none⟩ = false

theorem Held.set {g : Nat} {W wr : World} {xs : List Nat} (h : Held g W wr xs) (j x : Nat) (hj : j < xs.length) : Held g W (wr.setCell ⟨g, j, none⟩ (.int .u8 (x : Nat))) (xs.set j x) := by
  obtain ⟨h1, h2, h3, h4⟩ := h
  refine ⟨h1.setCell rfl _, by simpa using h2, fun i hi => ?_, fun i => by simpa using h4 i⟩
  simp only [List.length_set] at hi
  by_cases e : j = i
  · subst e
    rw [World.cell?_setCell_same _ _ _ (h3 j hj)]
    simp [hj]
  · rw [World.cell?_setCell_other _ _ _ _ (by simp only [ne_eq, Addr.mk.injEq, true_and, and_true]; omega), h3 i hi]
    simp [e]

theorem bit_test (m k : Nat) (hm : m < 4294967296) : (bits .and .u32 ((m : Int) / 2 ^ k) 1 == 1) = m.testBit k := by
  have e : ((m : Int) / 2 ^ k) = ((m / 2 ^ k : Nat) : Int) := by rw [Int.natCast_ediv, Int.natCast_pow]; rfl
  rw [e, Crc.and_one _ (Nat.lt_of_le_of_lt (Nat.div_le_self _ _) hm), Nat.testBit_eq_decide_div_mod_eq, Bool.eq_iff_iff]
  simp
  omega
theorem bit_xor (c q : Nat) (hc : c < 256) (hq : q < 8) : bits .xor .u8 (c : Int) (2 ^ q % 256) = ((c ^^^ 2 ^ q : Nat) : Int) := by
  have hp : 2 ^ q < 256 := Nat.pow_lt_pow_right (m := q) (n := 8) (by decide) hq
  have e : ((2 : Int) ^ q % 256) = ((2 ^ q : Nat) : Int) := by
    rw [Int.natCast_pow]
    apply Int.emod_eq_of_lt
    · exact Int.pow_nonneg (by decide)
    · have : (((2 ^ q : Nat)) : Int) < 256 := by omega
      rw [Int.natCast_pow] at this
      exact this
  rw [e]
  exact u8_xor_nat c (2 ^ q) hc hp

set_option maxHeartbeats 4000000 in
set_option maxRecDepth 100000 in
theorem turned_main (k : Int) (nm : List Int) (a : Option Addr) (l cap : Nat) (p : Int) (m : Nat) (w : World) (hn : nm.length = 32) (hx : ∀ x ∈ nm, 0 ≤ x ∧ x ≤ 255) (h63 : l ≤ 9223372036854775807) (hm : m < 4294967296) (hp0 : -9223372036854775808 ≤ p) (hp1 : p ≤ 9223372036854775807)
    (hby : lightB [l] = true → ∃ bs : List Int, bs.length = l ∧ Tlv.BySl 0 w.heap.size w (.slice a l cap) bs) :
    Calls Try.prog 6 #[.agg (recA k nm (.slice a l cap)).toArray, .int .i64 p, .int .u32 m] w fun e w' => e = .returned (.bool true) ∧ Below w.heap.size w w' := by
  have HBY := hid hby
  have HN := hid (And.intro hn hx)
  have HRUN := hid (run_onerec k nm a l cap hn)
  have HL := hid (recA_length k nm (.slice a l cap) hn)
  have H33 := hid (recA_33 k nm (.slice a l cap) hn)
  clear hby hn hx
  obtain ⟨C, hC⟩ : ∃ C, recA k nm (.slice a l cap) = C := ⟨_, rfl⟩
  rw [hC] at HRUN HL H33
  rw [hC]
  have HC := hid hC
  clear hC
  have HI : Hid ((Try.prog.info? 26).map (·.size) = some C.length) := by rw [Hid, HL.out]; exact Try.info26
  go_enter Try.func6, Try.ntmps6
  obtain ⟨W0, hW0⟩ : ∃ W0, w.alloc (.cells C.toArray 26) = W0 := ⟨_, rfl⟩
  have hb0 : Below w.heap.size w W0 := by rw [← hW0]; exact (Below.refl _ _).alloc (Nat.le_refl _) _
  have HB0 := hid hb0
  have HS0 : Hid (W0.heap.size = w.heap.size + 1) := by rw [Hid, ← hW0]; simp
  have HR : Hid (W0.rangeAt w.heap.size 0 C) := by rw [← hW0]; exact range_new _ _ _
  clear hb0
  go_wp2_with (first
    | (refine wpList_load_mid (by rfl) 26 _ (by rfl) w.heap.size 0 (by rfl) C _ HR.out Try.underlying26 rfl HI.out ?_)
    | (refine wpList_slice1 (by rfl) 28 _ (by rfl) _ _ (by rfl) (HRUN.out W0) ?_))
  clear hW0
  obtain ⟨W1, hW1⟩ : ∃ W1, W0.alloc (.cells C.toArray 26) = W1 := ⟨_, rfl⟩
  have hb1 : Below W0.heap.size W0 W1 := by rw [← hW1]; exact (Below.refl _ _).alloc (Nat.le_refl _) _
  have HRR : Hid (W1.rangeAt W0.heap.size 0 C) := by rw [← hW1]; exact range_new _ _ _
  rw [hW1]
  have HLI := hid (light_any (some ⟨W0.heap.size, 0, none⟩) 1 [l] W1 (by simp) (by simp; omega) (by
    intro i hi
    have : i = 0 := by simpa using hi
    subst this
    refine ⟨_, _, a, cap, rfl, ?_⟩
    exact HRR.out 33 _ H33.out))
  have HB1 : Hid (Below w.heap.size w W1) := HB0.out.trans (hb1.mono HB0.out.size)
  have HR1 := hid (rangeAt_below HR.out hb1 (by have := HS0.out; omega))
  have hz1 : w.heap.size + 1 ≤ W1.heap.size := by have h := hb1.size; have h2 := HS0.out; omega
  clear hb1 hW1 HRR HR
  refine HLI.out.mono ?_
  rintro e w2 ⟨rfl, hw2⟩
  rw [hw2]
  clear hw2 w2
  have hend : Hid (∀ V, Below w.heap.size w V → Calls Try.prog 8 #[] V fun e w' => e = .returned (.bool true) ∧ Hid (Below w.heap.size w w')) := by
    intro V hV
    refine (alive_any V).mono ?_
    rintro e w5 ⟨rfl, hb5⟩
    exact ⟨rfl, hV.trans (hb5.mono hV.size)⟩
  cases hli : lightB [l] with
  | false =>
    go_wp2_with fail
    refine (hend.out W1 HB1.out).mono ?_
    rintro e w3 ⟨rfl, HB3⟩
    go_wp2_with fail
    go_ret
    exact ⟨rfl, HB3.out⟩
  | true =>
    obtain ⟨bs, rfl, hb⟩ := HBY.out hli
    have HB := hid hb
    have HLE : Hid (bs.length ≤ 5100) := by simp [lightB] at hli; exact hli
    clear hli HLI hb
    by_cases hm0 : m = 0
    · subst hm0
      go_wp2_with fail
      refine (hend.out W1 HB1.out).mono ?_
      rintro e w3 ⟨rfl, HB3⟩
      go_wp2_with fail
      go_ret
      exact ⟨rfl, HB3.out⟩
    have hmb : ((m : Int) == 0) = false := by simp; omega
    have HM0 := hid hm0
    clear hm0
    go_wp2_with fail
    clear hmb
    refine (Crc.new_any W1).mono ?_
    rintro e w3 ⟨rfl, hb3, hs3, ht3⟩
    have HB3 : Hid (Below w.heap.size w w3) := HB1.out.trans (hb3.mono HB1.out.size)
    have HT3 : Hid (TabX w3 W1.heap.size) := ⟨0, 0, .inl rfl, ht3⟩
    have HR3 := hid (rangeAt_below HR1.out hb3 (by omega))
    have hz3 : W1.heap.size < w3.heap.size := by omega
    clear hb3 hs3 ht3
    have KOWN := hid (fun V => own11_any k nm a bs.length cap V HN.out.1)
    rw [HC.out] at KOWN
    go_wp2_with (refine wpList_load_mid (by rfl) 26 _ (by rfl) w.heap.size 0 (by rfl) C _ HR3.out Try.underlying26 rfl HI.out ?_)
    refine (KOWN.out w3).mono ?_
    rintro e w4 ⟨rfl, hb4⟩
    have HB4 : Hid (Below w.heap.size w w4) := HB3.out.trans (hb4.mono HB3.out.size)
    have HT4 := hid (HT3.out.below hb4)
    have HR4 := hid (rangeAt_below HR3.out hb4 (by omega))
    have hz4 : w3.heap.size ≤ w4.heap.size := hb4.size
    clear hb4
    cases hri : rightB k bs.length with
    | false =>
      have KPN := hid (put_no ⟨W1.heap.size, 0, none⟩ k nm bs a cap w4 HN.out.1 hri)
      rw [HC.out] at KPN
      clear hri
      go_wp2_with fail
      refine KPN.out.mono ?_
      rintro e w5 ⟨rfl, hb5⟩
      have HB5 : Hid (Below w.heap.size w w5) := HB4.out.trans (hb5.mono HB4.out.size)
      clear hb5
      go_wp2_with fail
      refine (hend.out w5 HB5.out).mono ?_
      rintro e w6 ⟨rfl, HB6⟩
      go_wp2_with fail
      go_ret
      exact ⟨rfl, HB6.out⟩
    | true =>
      have h6 : ∀ x ∈ bs, 0 ≤ x ∧ x ≤ 255 := by obtain ⟨_, _, _, _, _, _, _, h, _⟩ := HB.out; exact h
      have HRI := hid (right_of hri HN.out.1 HN.out.2 h6)
      have KPY := hid (put_yes W1.heap.size k nm bs (.slice a bs.length cap) w4 HT4.out (HB.out.agree (Agree.below HB4.out) (Nat.le_refl _) HB4.out.size) HRI.out)
      rw [HC.out] at KPY
      clear hri h6
      go_wp2_with fail
      refine KPY.out.mono ?_
      rintro e w5 ⟨v5, rfl, ho5, hk5, ht5⟩
      have hfl := frameR_length HRI.out
      have HK5 : Hid (Below w.heap.size w w5) := Crc.Kept.toBelow HB4.out hk5 (by omega)
      have HT5 := hid ht5
      have HR5 := hid (rangeAt_kept HR4.out hk5 (by omega) (by omega))
      have hz5 : w4.heap.size ≤ w5.heap.size := hk5.size
      have HTT := hid (fun p m => @take_turned k nm bs HRI.out p m)
      have HXB := hid (nats_lt _ (frameR_bd HRI.out))
      obtain ⟨zs, hzs⟩ : ∃ zs, nats (frameR k nm bs) = zs := ⟨_, rfl⟩
      have hzl : zs.length = 49 + bs.length := by rw [← hzs, nats_length, hfl]
      rw [hzs] at ho5 HXB HTT
      have HO5 := hid ho5
      clear ho5 hk5 ht5 hzs hfl KPY
      obtain ⟨g, cp, cur, rfl, hg1, hgc, hgl, hgm⟩ : ∃ g cap cur, v5 = .slice (some ⟨g, 0, none⟩) zs.length cap ∧ w4.heap.size ≤ g ∧ w5.heap[g]? = some (.cells cur 5 (0, 0)) ∧ zs.length ≤ cap ∧ Hid (cap ≤ maxLen) := by
        rcases HO5.out.2 with ⟨_, h⟩ | ⟨g, cap, cur, h, h1, h2, h3, h4, _⟩
        · omega
        · exact ⟨g, cap, cur, h, h1, h2, h3, h4⟩
      have hgs : g < w5.heap.size := (Array.getElem?_eq_some_iff.1 hgc).1
      have HG : Hid (Held g w5 w5 zs) := by
        refine ⟨Crc.Kept.refl _ _, rfl, fun j hj => ?_, fun j => by simp [World.frozen?, hgc]⟩
        have h1 : w5.ownsRow w4.heap.size 5 1 (.slice (some ⟨g, 0, none⟩) zs.length cp) zs.length (Crc.cl zs) := HO5.out
        rw [h1.cellAt j (by omega)]
        exact Crc.cl_at zs j hj
      have HZL := hid hzl
      have hle := HLE.out
      obtain ⟨N, hN⟩ : ∃ N, zs.length = N := ⟨_, rfl⟩
      rw [hN] at hgl ⊢
      have HNN := hid hN
      have hNb : 49 ≤ N ∧ N ≤ 5149 := by omega
      clear hgc HO5 hzl hN hle
      by_cases hA : p < 24 ∨ 8 * (N : Int) - 32 < p
      · by_cases hp : p < 24
        · clear hA
          go_wp2_with fail
          refine (hend.out w5 HK5.out).mono ?_
          rintro e w6 ⟨rfl, HB6⟩
          go_wp2_with fail
          go_ret
          exact ⟨rfl, HB6.out⟩
        · have hp2 : 8 * (N : Int) - 32 < p := by omega
          clear hA
          go_wp2_with fail
          refine (hend.out w5 HK5.out).mono ?_
          rintro e w6 ⟨rfl, HB6⟩
          go_wp2_with fail
          go_ret
          exact ⟨rfl, HB6.out⟩
      · obtain ⟨A, rfl⟩ : ∃ A : Nat, p = A := ⟨p.toNat, by omega⟩
        have hA0 : 24 ≤ A := by omega
        have hA1 : A + 32 ≤ 8 * N := by omega
        have hAi : ¬ ((A : Int) < 24) := by omega
        have hAj : ¬ (8 * (N : Int) - 32 < (A : Int)) := by omega
        have HE := hid (HTT.out A m hA0 (by have h1 := HZL.out; have h2 := HNN.out; omega) hm HM0.out)
        clear hA HTT hp0 hp1
        go_wp2_with fail
        go_loopw [10] (fun i wr => ∃ k : Nat, k ≤ 32 ∧ i = .int .i64 k ∧ Hid (Held g w5 wr (turn zs A m k))) (fun i _ => 32 - (intOf i).toNat)
        case atStart => exact ⟨0, by omega, rfl, HG⟩
        case round =>
          obtain ⟨k, hk, rfl, H⟩ := hrel
          by_cases hlt : k < 32
          · obtain ⟨J, hJ⟩ : ∃ J, (A + k) / 8 = J := ⟨_, rfl⟩
            obtain ⟨Q, hQ⟩ : ∃ Q, (A + k) % 8 = Q := ⟨_, rfl⟩
            have hJi : ((A : Int) + (k : Int)) / 8 = (J : Int) := by omega
            have hQi : ((A : Int) + (k : Int)) % 8 = (Q : Int) := by omega
            have hJl : J < N := by omega
            have hQl : Q < 8 := by omega
            have hlen : (turn zs A m k).length = N := by rw [Crc.turn_len, HNN.out]
            have c1 := H.out.2.2.1 J (by omega)
            have f1 := H.out.2.2.2 J
            have hT : Hid (turn zs A m (k + 1) = if m.testBit k then (turn zs A m k).set J ((turn zs A m k).getD J 0 ^^^ 2 ^ Q) else turn zs A m k) := by rw [Hid, turn, Crc.flip, hJ, hQ]
            have hs := hid (fun x => H.out.set J x (by omega))
            have hcb : (turn zs A m k).getD J 0 < 256 := by
              have hi : J < (turn zs A m k).length := by omega
              have := Crc.turn_lt HXB.out A m k (turn zs A m k)[J] (List.getElem_mem hi)
              simpa [List.getElem?_eq_getElem hi] using this
            generalize turn zs A m k = ts at *
            generalize ts.getD J 0 = c at *
            have HJ := hid hJ
            have HQ := hid hQ
            clear hJ hQ hlen
            have ht1 := bit_test m k hm
            have hx1 := bit_xor c Q hcb hQl
            cases hbit : m.testBit k
            · rw [hbit] at ht1 hT
              clear hx1 hbit
              go_wp2_with fail
              refine ⟨⟨k + 1, by omega, by go_num, ?_⟩, by simp [intOf]; omega⟩
              rw [hT.out]
              exact H
            · rw [hbit] at ht1 hT
              clear hbit
              go_wp2_with fail
              refine ⟨⟨k + 1, by omega, by go_num, ?_⟩, by simp [intOf]; omega⟩
              rw [hT.out]
              exact hs.out _
          · have : k = 32 := by omega
            subst this
            go_wp2_with fail
            have hlen : (turn zs A m 32).length = N := by rw [Crc.turn_len, HNN.out]
            have HV6 : Hid (BySlS (fun x => x ≠ W1.heap.size ∧ x < wr.heap.size) wr (.slice (some ⟨g, 0, none⟩) N cp) (ints (turn zs A m 32))) := by
              refine ⟨_, cp, by rw [ints_length, hlen], by rw [ints_length, hlen]; exact hgl, hgm.out, by simp, by rw [ints_length, hlen]; omega, ints_bd _ (Crc.turn_lt HXB.out A m 32), fun _ => ⟨g, 0, rfl, ⟨by omega, by rw [H.out.2.1]; exact hgs⟩, fun i hi => ?_⟩⟩
              rw [ints_length] at hi
              rw [Nat.zero_add, H.out.2.2.1 i hi]
              simp [ints, List.getElem?_eq_getElem hi]
            have HT6 : Hid (TabX wr W1.heap.size) := HT5.out.kept H.out.1 (by omega)
            have HB6 : Hid (Below w.heap.size w wr) := HK5.out.trans ⟨H.out.1.os, H.out.1.tape, H.out.1.output, H.out.1.size, fun i hi => H.out.1.block i (by omega) (by omega)⟩
            have HR6 : Hid (wr.rangeAt w.heap.size 0 C) := rangeAt_kept HR5.out H.out.1 (by omega) (by omega)
            have hz6 : wr.heap.size = w5.heap.size := H.out.2.1
            obtain ⟨fx, hfx, htk⟩ : ∃ fx, (fx = 16 ∨ fx = 4) ∧ takeF (ints (turn zs A m 32)) = noRec fx := by
              rcases HE.out with h | h
              · exact ⟨16, .inl rfl, h⟩
              · exact ⟨4, .inr rfl, h⟩
            have HTK := hid htk
            clear htk HE H hlen
            refine (take_any W1.heap.size _ _ wr HT6.out HV6.out).mono ?_
            rintro e w6 ⟨a6, c6, rfl, _, hn6, hk6, ht6⟩
            rw [HTK.out] at hn6 ⊢
            simp only [noRec, List.length_nil] at hn6 ⊢
            have HB7 : Hid (Below w.heap.size w w6) := Crc.Kept.toBelow HB6.out hk6 (by omega)
            have HR7 := hid (rangeAt_kept HR6.out hk6 (by omega) (by omega))
            have hz7 : wr.heap.size ≤ w6.heap.size := hk6.size
            obtain ⟨C6, hC6⟩ : ∃ C6, recA 0 (List.replicate 32 0) (.slice a6 0 c6) = C6 := ⟨_, rfl⟩
            have HL6 : Hid (C6.length = 34) := by rw [← hC6]; exact recA_length _ _ _ hn6.1
            have HO6 : Hid (C6.toArray.all (·.oneCell') = true) := by rw [← hC6]; exact all_oneCell_toArray (recA_one _ _ _ _ _)
            have HI6 : Hid ((Try.prog.info? 35).map (·.size) = some C6.toArray.size) := by rw [Hid, show C6.toArray.size = 34 from HL6.out]; exact Try.info35
            rw [hC6]
            clear hC6 hk6 ht6 hn6
            have hz := zero35
            obtain ⟨Z, hZ⟩ : ∃ Z, zRec = Z := ⟨_, rfl⟩
            have HZ : Hid (Z.length = 34) := by rw [← hZ]; exact zRec_length
            have HZO : Hid (Z.toArray.all (·.oneCell') = true) := by rw [← hZ]; exact all_oneCell_toArray zRec_one
            have HZI : Hid ((Try.prog.info? 35).map (·.size) = some Z.toArray.size) := by rw [← hZ]; exact Try.info35
            have KTN := hid (fun V => take_nil (some ⟨g, 0, none⟩) N cp V)
            have KAN := hid (fun V => at_nil (some ⟨g, 0, none⟩) N cp 0 V)
            rw [hZ] at hz KTN KAN
            clear hZ
            have HS6 := hid (store_facts w6 HZ.out HL6.out)
            have stb : Hid (∀ (V : World) (D : List Value), Below w.heap.size w V → V.rangeAt w.heap.size 0 C → w.heap.size < V.heap.size → Below w.heap.size w ((V.alloc (.cells Z.toArray 35)).setCells V.heap.size 0 D) ∧ ((V.alloc (.cells Z.toArray 35)).setCells V.heap.size 0 D).rangeAt w.heap.size 0 C ∧ w.heap.size < ((V.alloc (.cells Z.toArray 35)).setCells V.heap.size 0 D).heap.size) := by
              intro V D h1 h2 h3
              have hb := ((Below.refl V.heap.size V).alloc (Nat.le_refl _) (.cells Z.toArray 35)).trans (setCells_below (Nat.le_refl V.heap.size) _ 0 D)
              exact ⟨h1.trans (hb.mono h1.size), rangeAt_below h2 hb h3, Nat.lt_of_lt_of_le h3 hb.size⟩
            go_wp2_with (first
              | (refine wpList_store_mid (by rfl) 35 _ _ (by rfl) w6.heap.size 0 C6.toArray (by rfl) (by rfl) HS6.out HI6.out HO6.out ?_)
              | (refine wpList_load_mid (by rfl) 26 _ (by rfl) w.heap.size 0 (by rfl) C _ (stb.out w6 C6 HB7.out HR7.out (by omega)).2.1 Try.underlying26 rfl HI.out ?_))
            obtain ⟨hb8, hr8, hz8⟩ := stb.out w6 C6 HB7.out HR7.out (by omega)
            generalize (w6.alloc (.cells Z.toArray 35)).setCells w6.heap.size 0 C6 = W8 at *
            refine (KOWN.out W8).mono ?_
            rintro e w9 ⟨rfl, hb9⟩
            have HB9 : Hid (Below w.heap.size w w9) := hb8.trans (hb9.mono hb8.size)
            have HR9 := hid (rangeAt_below hr8 hb9 hz8)
            have hz9 : w.heap.size < w9.heap.size := Nat.lt_of_lt_of_le hz8 hb9.size
            clear hb8 hr8 hb9 hz8
            go_wp2_with fail
            refine (put_nil C w9).mono ?_
            rintro e w10 ⟨rfl, hb10⟩
            have HB10 : Hid (Below w.heap.size w w10) := HB9.out.trans (hb10.mono HB9.out.size)
            have HR10 := hid (rangeAt_below HR9.out hb10 hz9)
            have hz10 : w.heap.size < w10.heap.size := Nat.lt_of_lt_of_le hz9 hb10.size
            clear hb10
            go_wp2_with fail
            refine (KTN.out w10).mono ?_
            rintro e w11 ⟨rfl, hb11⟩
            have HB11 : Hid (Below w.heap.size w w11) := HB10.out.trans (hb11.mono HB10.out.size)
            have HR11 := hid (rangeAt_below HR10.out hb11 hz10)
            have hz11 : w.heap.size < w11.heap.size := Nat.lt_of_lt_of_le hz10 hb11.size
            clear hb11
            have HS11 := hid (store_facts w11 HZ.out HZ.out)
            go_wp2_with (refine wpList_store_mid (by rfl) 35 _ _ (by rfl) w11.heap.size 0 Z.toArray (by rfl) (by rfl) HS11.out HZI.out HZO.out ?_)
            obtain ⟨hb12, hr12, hz12⟩ := stb.out w11 Z HB11.out HR11.out hz11
            generalize (w11.alloc (.cells Z.toArray 35)).setCells w11.heap.size 0 Z = W12 at *
            refine (scan_nil (some ⟨g, 0, none⟩) N cp W12).mono ?_
            rintro e w13 ⟨rfl, hb13⟩
            have HB13 : Hid (Below w.heap.size w w13) := hb12.trans (hb13.mono hb12.size)
            have HR13 := hid (rangeAt_below hr12 hb13 hz12)
            have hz13 : w.heap.size < w13.heap.size := Nat.lt_of_lt_of_le hz12 hb13.size
            clear hb12 hr12 hz12 hb13
            go_wp2_with fail
            refine (KAN.out w13).mono ?_
            rintro e w14 ⟨rfl, hb14⟩
            have HB14 : Hid (Below w.heap.size w w14) := HB13.out.trans (hb14.mono HB13.out.size)
            have HR14 := hid (rangeAt_below HR13.out hb14 hz13)
            have hz14 : w.heap.size < w14.heap.size := Nat.lt_of_lt_of_le hz13 hb14.size
            clear hb14
            have HS14 := hid (store_facts w14 HZ.out HZ.out)
            have HB15 := hid (stb.out w14 Z HB14.out HR14.out hz14).1
            have HEND := hid (fun V (h : Below w.heap.size w V) => hend.out V h)
            rcases hfx with rfl | rfl
            all_goals
              go_wp2_with (refine wpList_store_mid (by rfl) 35 _ _ (by rfl) w14.heap.size 0 Z.toArray (by rfl) (by rfl) HS14.out HZI.out HZO.out ?_)
              refine (HEND.out _ HB15.out).mono ?_
              rintro e w16 ⟨rfl, HB16⟩
              go_wp2_with fail
              go_ret
              exact ⟨rfl, HB16.out⟩
end Go.Proofs.Ythbhdbjjobfchaa
end

section
/-
  Three rows that a call builds side by side: bytes, ends, records.
-/
namespace Go.Proofs.Ythbhdbjjobfchaa
open Go.RowKit Go.Shelf
open Tlv (Tr BySlS AgreeS Agree)
open Crc (hid Kept Tab)

/-- One of the list: a record, and where its body lies. -/
abbrev El : Type := Rec × Option Addr × Nat
def elV (z : El) : Value := .slice z.2.1 z.1.2.2.length z.2.2
def elC (z : El) : List Value := recA z.1.1 z.1.2.1 (elV z)
def elOk (z : El) : Prop := z.1.2.1.length = 32 ∧ ∀ y ∈ z.1.2.1, 0 ≤ y ∧ y ≤ 255
theorem elC_length {z : El} (h : elOk z) : (elC z).length = 34 := recA_length _ _ _ h.1
theorem elC_one (z : El) : ∀ v ∈ elC z, v.oneCell' = true := recA_one _ _ _ _ _
def recsC : List El → List Value
  | [] => []
  | z :: zs => elC z ++ recsC zs
theorem recsC_snoc (z : El) : ∀ zs : List El, recsC (zs ++ [z]) = recsC zs ++ elC z
  | [] => by simp [recsC]
  | x :: zs => by rw [List.cons_append, recsC, recsC, recsC_snoc z zs, List.append_assoc]
theorem recsC_at : ∀ (zs : List El) (j : Nat) (z : El) (r : Nat), (∀ y ∈ zs, elOk y) → zs[j]? = some z → r < 34 → (recsC zs)[j * 34 + r]? = (elC z)[r]?
  | [], j, z, r, _, h, _ => by simp at h
  | x :: zs, 0, z, r, ho, h, hr => by
    simp only [List.getElem?_cons_zero, Option.some.injEq] at h
    subst h
    rw [recsC, Nat.zero_mul, Nat.zero_add, List.getElem?_append_left (by rw [elC_length (ho _ List.mem_cons_self)]; exact hr)]
  | x :: zs, j + 1, z, r, ho, h, hr => by
    have hl := elC_length (ho _ List.mem_cons_self)
    rw [recsC, List.getElem?_append_right (by rw [hl]; omega), hl, show (j + 1) * 34 + r - 34 = j * 34 + r by omega]
    exact recsC_at zs j z r (fun y hy => ho y (List.mem_cons_of_mem _ hy)) (by simpa using h) hr

/-- Where the frames end. -/
def endsL (rs : List Rec) : List Nat := (List.range rs.length).map fun j => (cat (rs.take (j + 1))).length
theorem endsL_length (rs : List Rec) : (endsL rs).length = rs.length := by simp [endsL]
theorem endsL_at {rs : List Rec} {j : Nat} (h : j < rs.length) : (endsL rs)[j]? = some (cat (rs.take (j + 1))).length := by simp [endsL, h]
theorem endsL_snoc (rs : List Rec) (r : Rec) : endsL (rs ++ [r]) = endsL rs ++ [(cat (rs ++ [r])).length] := by
  apply List.ext_getElem?
  intro j
  by_cases h : j < rs.length
  · rw [endsL_at (by simp; omega), List.getElem?_append_left (by rw [endsL_length]; exact h), endsL_at h, List.take_append_of_le_length (by omega)]
  · by_cases h2 : j = rs.length
    · subst h2
      rw [endsL_at (by simp), List.getElem?_append_right (by rw [endsL_length]; omega), endsL_length, List.take_of_length_le (by simp)]
      simp
    · rw [List.getElem?_eq_none (by rw [endsL_length]; simp; omega), List.getElem?_eq_none (by simp [endsL_length]; omega)]
def nums (l : List Nat) : List Value := l.map fun (n : Nat) => Value.int .i64 (n : Int)

theorem info8 : (Try.prog.info? 5).map (fun i => (i.zero, i.size, i.bytes)) = some (some (.int .u8 0), 1, 1) := by kernel_rfl
theorem info64 : (Try.prog.info? 3).map (fun i => (i.zero, i.size, i.bytes)) = some (some (.int .i64 0), 1, 8) := by kernel_rfl
theorem infoR : (Try.prog.info? 26).map (fun i => (i.zero, i.size, i.bytes)) = some (some (.agg zRec.toArray), 34, 64) := by kernel_rfl

/-- The three rows, in blocks from B on, each in one of its own; all else from w1 on is as it was, the table's block b left out. -/
structure R3 (B b : Nat) (w1 wr : World) (va ve vw : Value) (xa : List Int) (xe : List Nat) (zs : List El) : Prop where
  kept : Kept b w1 wr
  tab : TabX wr b
  all : wr.ownsRow B 5 1 va xa.length (u8s xa)
  ends : wr.ownsRow B 3 1 ve xe.length (nums xe)
  want : wr.ownsRow B 26 34 vw zs.length (recsC zs)
  ae : ∀ q, va.ownBlock = some q → ve.ownBlock ≠ some q
  aw : ∀ q, va.ownBlock = some q → vw.ownBlock ≠ some q
  ew : ∀ q, ve.ownBlock = some q → vw.ownBlock ≠ some q

theorem R3.start {b : Nat} {w1 : World} (h : TabX w1 b) : R3 w1.heap.size b w1 w1 (.slice none 0 0) (.slice none 0 0) (.slice none 0 0) [] [] [] :=
  ⟨Kept.refl _ _, h, World.ownsRow_nil _ _ _ _, World.ownsRow_nil _ _ _ _, World.ownsRow_nil _ _ _ _, fun _ h => (by cases h), fun _ h => (by cases h), fun _ h => (by cases h)⟩

theorem ownsRow_of_kept {ty : TypeId} {base b n k : Nat} {w w' : World} {v : Value} {cs : List Value} (h : w.ownsRow base ty k v n cs) (hk : Kept b w w') (hb : b < base) : w'.ownsRow base ty k v n cs := by
  refine ⟨h.1, ?_⟩
  rcases h.2 with h2 | ⟨g, cap, cur, hv, hg, hh, r⟩
  · exact Or.inl h2
  · exact Or.inr ⟨g, cap, cur, hv, hg, (hk.block g (Array.getElem?_eq_some_iff.1 hh).1 (by omega)).trans hh, r⟩

section
variable {B b : Nat} {w1 wr W : World} {va ve vw : Value} {xa : List Int} {xe : List Nat} {zs : List El}

theorem R3.on (h : R3 B b w1 wr va ve vw xa xe zs) (hk : Kept b wr W) (ht : TabX W b) (hb : b < B) : R3 B b w1 W va ve vw xa xe zs :=
  ⟨h.kept.trans hk, ht, ownsRow_of_kept h.all hk hb, ownsRow_of_kept h.ends hk hb, ownsRow_of_kept h.want hk hb, h.ae, h.aw, h.ew⟩
theorem R3.below (h : R3 B b w1 wr va ve vw xa xe zs) (hk : Below wr.heap.size wr W) (hb : b < B) : R3 B b w1 W va ve vw xa xe zs := h.on (Kept.below hk) (h.tab.below hk) hb

theorem kept_grown {row : Option Nat} (h : Kept b w1 wr) (hg : wr.grownBy W row) (hr : ∀ q, row = some q → w1.heap.size ≤ q) : Kept b w1 W :=
  ⟨hg.os.trans h.os, hg.tape.trans h.tape, hg.output.trans h.output, Nat.le_trans h.size hg.size, fun i hi hb => (hg.block i (Nat.lt_of_lt_of_le hi h.size) (fun e => by have := hr i e.symm; omega)).trans (h.block i hi hb)⟩
theorem tab_grown {row : Option Nat} (h : TabX wr b) (hg : wr.grownBy W row) (hr : ∀ q, row = some q → q ≠ b) : TabX W b := by
  cases row with
  | none => exact h.below ⟨hg.os, hg.tape, hg.output, hg.size, fun k hk => hg.block k hk (by simp)⟩
  | some q => exact h.kept (g := q) ⟨hg.os, hg.tape, hg.output, hg.size, fun k hk hq => hg.block k hk (fun e => hq (Option.some.inj e))⟩ (fun e => hr q rfl e.symm)

/-- Bytes laid behind the first row. -/
theorem R3.push_all (h : R3 B b w1 wr va ve vw xa xe zs) (hb : b < B) (hB : B = w1.heap.size) {S : Nat → Prop} {a : Option Addr} {c : Nat} {ys : List Int} (hy : BySlS S wr (.slice a ys.length c) ys) (hne : ys ≠ []) (hl : xa.length + ys.length ≤ 1000000000) :
    ∃ g cap W, (Builtin.append_ #[24, 24] 24 #[va, .slice a ys.length c]).run Try.prog wr = .ok (.slice (some ⟨g, 0, none⟩) (xa.length + ys.length) cap) W ∧
      R3 B b w1 W (.slice (some ⟨g, 0, none⟩) (xa.length + ys.length) cap) ve vw (xa ++ ys) xe zs := by
  obtain ⟨i, hi, hiz⟩ := Option.map_eq_some_iff.1 info8
  simp only [Prod.mk.injEq] at hiz
  obtain ⟨z1, z2, z3⟩ := hiz
  obtain ⟨a', c', e, _, _, _, _, hx, hc⟩ := hy
  simp only [Value.slice.injEq, true_and] at e
  obtain ⟨rfl, rfl⟩ := e
  obtain ⟨gy, oy, rfl, _, hcell⟩ := hc hne
  have hpos := List.length_pos_iff.2 hne
  have hk := h.kept.size
  obtain ⟨g2, cap2, W2, hap, hown2, hgrow, hat, hg2⟩ := run_append_lies (P := Try.prog) wr 24 24 B 5 i (.int .u8 0) 1 1 Try.underlying24 hi z1 z2 z3 rfl (by omega)
    va xa.length _ h.all ⟨gy, oy, none⟩ ys.length c (u8s ys) (by rw [u8s_length]; omega) (fun j u hj => by
      rw [u8s, List.getElem?_map, Option.map_eq_some_iff] at hj
      obtain ⟨y, hy, rfl⟩ := hj
      have := hcell j (List.getElem?_eq_some_iff.1 hy).1
      rw [List.getD_eq_getElem?_getD, hy] at this
      have e : (⟨gy, oy, none⟩ : Addr).add j = ⟨gy, oy + j, none⟩ := by first | rfl | simp [Addr.add]
      rw [e]
      exact this) (u8s_one ys) hpos (by unfold maxLen; omega) (by omega) (by omega) _ rfl
  have hlt := h.all.lt
  refine ⟨g2, cap2, W2, hap, kept_grown h.kept hgrow (fun q e => by have := hlt q e; omega), tab_grown h.tab hgrow (fun q e => by have := hlt q e; omega), ?_, h.ends.kept hgrow ?_, h.want.kept hgrow ?_, ?_, ?_, h.ew⟩
  · rw [List.length_append, u8s, List.map_append]
    exact hown2
  · by_cases e : ve.ownBlock = none
    · exact .inl e
    · right
      intro e2
      obtain ⟨q, hq⟩ := Option.ne_none_iff_exists'.1 e
      exact h.ae q (by rw [← e2]; exact hq) hq
  · by_cases e : vw.ownBlock = none
    · exact .inl e
    · right
      intro e2
      obtain ⟨q, hq⟩ := Option.ne_none_iff_exists'.1 e
      exact h.aw q (by rw [← e2]; exact hq) hq
  · intro q hq e2
    simp only [Value.ownBlock, Option.some.injEq] at hq
    subst hq
    rcases hat with h1 | h1
    · exact h.ae _ h1 e2
    · have := h.ends.lt _ e2; omega
  · intro q hq e2
    simp only [Value.ownBlock, Option.some.injEq] at hq
    subst hq
    rcases hat with h1 | h1
    · exact h.aw _ h1 e2
    · have := h.want.lt _ e2; omega

theorem run_oneint (n : Int) (w : World) : (Instr.buildSlice 60 1 #[(0, .int .i64 n)]).run Try.prog w = .ok (.slice (some ⟨w.heap.size, 0, none⟩) 1 1) (w.alloc (.cells #[.int .i64 n] 3)) := by kernel_rfl

/-- A number laid behind the second row. -/
theorem R3.push_end (h : R3 B b w1 wr va ve vw xa xe zs) (hb : b < B) (hB : B = w1.heap.size) (n : Nat) (hl : xe.length ≤ 1000000) :
    ∃ g cap W, (Builtin.append_ #[60, 60] 60 #[ve, .slice (some ⟨wr.heap.size, 0, none⟩) 1 1]).run Try.prog (wr.alloc (.cells #[.int .i64 (n : Int)] 3)) = .ok (.slice (some ⟨g, 0, none⟩) (xe.length + 1) cap) W ∧
      R3 B b w1 W va (.slice (some ⟨g, 0, none⟩) (xe.length + 1) cap) vw xa (xe ++ [n]) zs := by
  obtain ⟨i, hi, hiz⟩ := Option.map_eq_some_iff.1 info64
  simp only [Prod.mk.injEq] at hiz
  obtain ⟨z1, z2, z3⟩ := hiz
  have hal : Below wr.heap.size wr (wr.alloc (.cells #[.int .i64 (n : Int)] 3)) := (Below.refl _ _).alloc (Nat.le_refl _) _
  have hsz : (wr.alloc (.cells #[.int .i64 (n : Int)] 3)).heap.size = wr.heap.size + 1 := by simp
  have hr := range_new wr [.int .i64 (n : Int)] 3
  have h' := h.below hal hb
  have hk := h'.kept.size
  have hk0 := h.kept.size
  obtain ⟨W1, hW1⟩ : ∃ W1, wr.alloc (.cells #[.int .i64 (n : Int)] 3) = W1 := ⟨_, rfl⟩
  rw [show (wr.alloc (.cells [.int .i64 (n : Int)].toArray 3)) = W1 from hW1] at hr
  rw [hW1] at h' hk hsz ⊢
  obtain ⟨g2, cap2, W2, hap, hown2, hgrow, hat, hg2⟩ := run_append_lies (P := Try.prog) W1 60 60 B 3 i (.int .i64 0) 1 8 Try.underlying60 hi z1 z2 z3 rfl (by omega)
    ve xe.length _ h'.ends ⟨wr.heap.size, 0, none⟩ 1 1 [.int .i64 (n : Int)] rfl (fun j u hj => by rw [Addr.add_lit]; exact hr j u hj) (by simp [Value.oneCell']) (by omega) (by unfold maxLen; omega) (by omega) (by omega) _ rfl
  have hlt := h'.ends.lt
  refine ⟨g2, cap2, W2, hap, kept_grown h'.kept hgrow (fun q e => by have := hlt q e; omega), tab_grown h'.tab hgrow (fun q e => by have := hlt q e; omega), h'.all.kept hgrow ?_, ?_, h'.want.kept hgrow ?_, ?_, h.aw, ?_⟩
  · by_cases e : va.ownBlock = none
    · exact .inl e
    · right
      intro e2
      obtain ⟨q, hq⟩ := Option.ne_none_iff_exists'.1 e
      exact h.ae q hq (by rw [← e2]; exact hq)
  · rw [List.length_append, nums, List.map_append]
    exact hown2
  · by_cases e : vw.ownBlock = none
    · exact .inl e
    · right
      intro e2
      obtain ⟨q, hq⟩ := Option.ne_none_iff_exists'.1 e
      exact h.ew q (by rw [← e2]; exact hq) hq
  · intro q hq e2
    simp only [Value.ownBlock, Option.some.injEq] at e2
    subst e2
    rcases hat with h1 | h1
    · exact h.ae _ hq h1
    · have := h.all.lt _ hq; omega
  · intro q hq e2
    simp only [Value.ownBlock, Option.some.injEq] at hq
    subst hq
    rcases hat with h1 | h1
    · exact h.ew _ h1 e2
    · have := h.want.lt _ e2; omega

/-- A record laid behind the third row. -/
theorem R3.push_want (h : R3 B b w1 wr va ve vw xa xe zs) (hb : b < B) (hB : B = w1.heap.size) (z : El) (hz : elOk z) (hl : zs.length ≤ 1000000) :
    ∃ g cap W, (Builtin.append_ #[28, 28] 28 #[vw, .slice (some ⟨wr.heap.size, 0, none⟩) 1 1]).run Try.prog (wr.alloc (.cells (elC z).toArray 26)) = .ok (.slice (some ⟨g, 0, none⟩) (zs.length + 1) cap) W ∧
      R3 B b w1 W va ve (.slice (some ⟨g, 0, none⟩) (zs.length + 1) cap) xa xe (zs ++ [z]) := by
  obtain ⟨i, hi, hiz⟩ := Option.map_eq_some_iff.1 infoR
  simp only [Prod.mk.injEq] at hiz
  obtain ⟨z1, z2, z3⟩ := hiz
  have hal : Below wr.heap.size wr (wr.alloc (.cells (elC z).toArray 26)) := (Below.refl _ _).alloc (Nat.le_refl _) _
  have hsz : (wr.alloc (.cells (elC z).toArray 26)).heap.size = wr.heap.size + 1 := by simp
  have hr := range_new wr (elC z) 26
  have h' := h.below hal hb
  have hk := h'.kept.size
  have hk0 := h.kept.size
  generalize hW1 : wr.alloc (.cells (elC z).toArray 26) = W1 at *
  obtain ⟨g2, cap2, W2, hap, hown2, hgrow, hat, hg2⟩ := run_append_lies (P := Try.prog) W1 28 28 B 26 i (.agg zRec.toArray) 34 64 Try.underlying28 hi z1 z2 z3 rfl (by omega)
    vw zs.length _ h'.want ⟨wr.heap.size, 0, none⟩ 1 1 (elC z) (by rw [elC_length hz]) (fun j u hj => by rw [Addr.add_lit]; exact hr j u hj) (elC_one z) (by omega) (by unfold maxLen; omega) (by omega) (by omega) _ rfl
  have hlt := h'.want.lt
  refine ⟨g2, cap2, W2, hap, kept_grown h'.kept hgrow (fun q e => by have := hlt q e; omega), tab_grown h'.tab hgrow (fun q e => by have := hlt q e; omega), h'.all.kept hgrow ?_, h'.ends.kept hgrow ?_, ?_, h.ae, ?_, ?_⟩
  · by_cases e : va.ownBlock = none
    · exact .inl e
    · right
      intro e2
      obtain ⟨q, hq⟩ := Option.ne_none_iff_exists'.1 e
      exact h.aw q hq (by rw [← e2]; exact hq)
  · by_cases e : ve.ownBlock = none
    · exact .inl e
    · right
      intro e2
      obtain ⟨q, hq⟩ := Option.ne_none_iff_exists'.1 e
      exact h.ew q hq (by rw [← e2]; exact hq)
  · rw [List.length_append, recsC_snoc]
    exact hown2
  · intro q hq e2
    simp only [Value.ownBlock, Option.some.injEq] at e2
    subst e2
    rcases hat with h1 | h1
    · exact h.aw _ hq h1
    · have := h.all.lt _ hq; omega
  · intro q hq e2
    simp only [Value.ownBlock, Option.some.injEq] at e2
    subst e2
    rcases hat with h1 | h1
    · exact h.ew _ hq h1
    · have := h.ends.lt _ hq; omega
end
end Go.Proofs.Ythbhdbjjobfchaa
end

section
/-
  The document's comparing of two lists of placed records, where they are the same.
-/
namespace Go.Proofs.Ythbhdbjjobfchaa
open Go.RowKit Go.Shelf
open Tlv (Tr BySlS AgreeS Agree)
open Crc (hid Kept Tab)

set_option maxHeartbeats 2000000 in
set_option maxRecDepth 100000 in
theorem all_same (u v : Value) (L : List Item) (B B' b b' : Nat) (w : World) (hu : PRow 109 B b w u L) (hv : PRow 109 B' b' w v L) (hl : L.length ≤ 80000) :
    Calls Try.prog 24 #[u, v] w fun e w' => e = .returned (.bool true) ∧ Below w.heap.size w w' := by
  obtain ⟨ua, uc, rfl⟩ := hu.form
  obtain ⟨va, vc, rfl⟩ := hv.form
  have HU := hid hu
  have HV := hid hv
  clear hu hv
  go_enter Try.func24, Try.ntmps24
  go_wp2_with fail
  go_loopw [5] (fun i wr => ∃ j : Nat, j ≤ L.length ∧ i = .int .i64 (j : Int) ∧ Hid (Below w.heap.size w wr)) (fun i _ => L.length - (intOf i).toNat)
  case atStart => exact ⟨0, Nat.zero_le _, rfl, Below.refl _ _⟩
  case round =>
    obtain ⟨j, hj, rfl, HB⟩ := hrel
    by_cases hlt : j < L.length
    · have hx : L[j]? = some L[j] := List.getElem?_eq_getElem hlt
      obtain ⟨gu, uc', au, cu, eu, _, hgu, hnu, hru, hbu⟩ := HU.out.get j _ hx
      obtain ⟨gv, vc', av, cv, ev, _, hgv, hnv, hrv, hbv⟩ := HV.out.get j _ hx
      simp only [Value.slice.injEq, true_and] at eu ev
      obtain ⟨rfl, rfl⟩ := eu
      obtain ⟨rfl, rfl⟩ := ev
      generalize L[j] = x at *
      have hji : (j : Int) < (L.length : Int) := by omega
      have HRU := hid (rangeAt_below hru HB.out hgu)
      have HRV := hid (rangeAt_below hrv HB.out hgv)
      have HBU := hid (BySlS.mono (BySlS.below hbu HB.out (fun g hg => hg.2.2.1)) (S' := fun g => g < w.heap.size) (fun g hg => hg.2.2.1))
      have HBV := hid (BySlS.mono (BySlS.below hbv HB.out (fun g hg => hg.2.2.1)) (S' := fun g => g < w.heap.size) (fun g hg => hg.2.2.1))
      have HX := hid hnu
      clear hru hrv hbu hbv hx hnv hnu
      have hgu' : gu < wr.heap.size := Nat.lt_of_lt_of_le hgu HB.out.size
      have hgv' : gv < wr.heap.size := Nat.lt_of_lt_of_le hgv HB.out.size
      have cu0 : wr.cell? ⟨gu, j * 36, none⟩ = some (.int .i64 (x.1 : Int)) := HRU.out 0 _ rfl
      have cv0 : wr.cell? ⟨gv, j * 36, none⟩ = some (.int .i64 (x.1 : Int)) := HRV.out 0 _ rfl
      have cu1 : wr.cell? ⟨gu, j * 36 + 1, none⟩ = some (.int .i64 (x.2.2.2 : Int)) := HRU.out 1 _ rfl
      have cv1 : wr.cell? ⟨gv, j * 36 + 1, none⟩ = some (.int .i64 (x.2.2.2 : Int)) := HRV.out 1 _ rfl
      have HCU : Hid (wr.rangeAt gu (j * 36 + 2) (recA x.2.2.1.1 x.2.2.1.2.1 (.slice au x.2.2.1.2.2.length cu))) := fun i q hq => by rw [Nat.add_assoc]; exact HRU.out (2 + i) q (by rw [Nat.add_comm 2 i]; exact hq)
      have HCV : Hid (wr.rangeAt gv (j * 36 + 2) (recA x.2.2.1.1 x.2.2.1.2.1 (.slice av x.2.2.1.2.2.length cv))) := fun i q hq => by rw [Nat.add_assoc]; exact HRV.out (2 + i) q (by rw [Nat.add_comm 2 i]; exact hq)
      have hle := HB.out.size
      have HSM := hid (same18_any x.2.2.1.1 x.2.2.1.1 x.2.2.1.2.1 x.2.2.1.2.1 x.2.2.1.2.2 x.2.2.1.2.2 (.slice au x.2.2.1.2.2.length cu) (.slice av x.2.2.1.2.2.length cv) wr.drew HX.out.1 HX.out.1 HX.out.2 HX.out.2
        ((BySlS.below HBU.out (Below.refl _ _).drew (fun g hg => Nat.lt_of_lt_of_le hg hle)).to (fun g hg => Nat.lt_of_lt_of_le hg hle)) ((BySlS.below HBV.out (Below.refl _ _).drew (fun g hg => Nat.lt_of_lt_of_le hg hle)).to (fun g hg => Nat.lt_of_lt_of_le hg hle)))
      have HLU := hid (recA_length x.2.2.1.1 x.2.2.1.2.1 (.slice au x.2.2.1.2.2.length cu) HX.out.1)
      have HLV := hid (recA_length x.2.2.1.1 x.2.2.1.2.1 (.slice av x.2.2.1.2.2.length cv) HX.out.1)
      have hsm : sameR x.2.2.1.1 x.2.2.1.1 x.2.2.1.2.1 x.2.2.1.2.1 x.2.2.1.2.2 x.2.2.1.2.2 = true := by simp [sameR]
      rw [hsm] at HSM
      generalize recA x.2.2.1.1 x.2.2.1.2.1 (.slice au x.2.2.1.2.2.length cu) = CU at *
      generalize recA x.2.2.1.1 x.2.2.1.2.1 (.slice av x.2.2.1.2.2.length cv) = CV at *
      have HIU : Hid ((Try.prog.info? 26).map (·.size) = some CU.length) := by rw [Hid, HLU.out]; exact Try.info26
      have HIV : Hid ((Try.prog.info? 26).map (·.size) = some CV.length) := by rw [Hid, HLV.out]; exact Try.info26
      generalize x.1 = P at *
      generalize x.2.2.2 = N at *
      clear hsm hgu hgv HRU HRV HBU HBV HX HLU HLV
      go_wp2_with fail
      refine wp_region_held_drew (S := fun V => Below wr.heap.size wr V) (by kernel_rfl) (Below.refl _ _).drew (fun hHeld => ?_)
      refine wpAnyH_take (i := 0) (oi := { dst := some 17, op := Op.move (Operand.tmp 0), type := 51, pos := "ref.go:87", after := #[], guard := none }) (v := .slice (some ⟨gu, 0, none⟩) L.length uc) rfl (by kernel_rfl) (by kernel_rfl) (by kernel_rfl) (fun _ _ _ h => h) (Or.inl ⟨by rfl, fun w' hw' => by (clear hw'; go_simp)⟩) hHeld ?_
      simp only [Act.put, List.setIfInBounds_toArray, List.set_cons_zero, List.set_cons_succ]
      refine wpAnyH_take (i := 1) (oi := { dst := some 18, op := Op.move (Operand.tmp 5), type := 3, pos := "ref.go:87", after := #[], guard := none }) (v := .int .i64 (j : Int)) rfl (by kernel_rfl) (by kernel_rfl) (by kernel_rfl) (fun _ _ _ h => h) (Or.inl ⟨by rfl, fun w' hw' => by (clear hw'; go_simp)⟩) hHeld ?_
      simp only [Act.put, List.setIfInBounds_toArray, List.set_cons_zero, List.set_cons_succ]
      refine wpAnyH_take (i := 2) (oi := { dst := some 19, op := Op.indexAddr 51 (Operand.tmp 17) (Operand.tmp 18), type := 0, pos := "ref.go:87", after := #[{ on := 0, ground := Ground.data }, { on := 1, ground := Ground.data }], guard := none }) (v := .pointer (some ⟨gu, j * 36, none⟩)) rfl (by kernel_rfl) (by kernel_rfl) (by kernel_rfl) (fun _ _ _ h => h) (Or.inl ⟨by rfl, fun w' hw' => by (clear hw'; go_simp)⟩) hHeld ?_
      simp only [Act.put, List.setIfInBounds_toArray, List.set_cons_zero, List.set_cons_succ]
      refine wpAnyH_take (i := 3) (oi := { dst := some 20, op := Op.fieldAddr 109 (Operand.tmp 19) 0, type := 0, pos := "ref.go:87", after := #[{ on := 2, ground := Ground.data }], guard := none }) (v := .pointer (some ⟨gu, j * 36, none⟩)) rfl (by kernel_rfl) (by kernel_rfl) (by kernel_rfl) (fun _ _ _ h => h) (Or.inl ⟨by rfl, fun w' hw' => by (clear hw'; go_simp)⟩) hHeld ?_
      simp only [Act.put, List.setIfInBounds_toArray, List.set_cons_zero, List.set_cons_succ]
      refine wpAnyH_take (i := 4) (oi := { dst := some 21, op := Op.load 3 (Operand.tmp 20), type := 3, pos := "ref.go:87", after := #[{ on := 3, ground := Ground.data }], guard := none }) (v := .int .i64 (P : Int)) rfl (by kernel_rfl) (by kernel_rfl) (by kernel_rfl) (fun _ _ _ h => h) (Or.inl ⟨by rfl, fun w' hw' => by (have q := (hw'.cell (p := ⟨gu, j * 36, none⟩) hgu').trans cu0; clear hw'; go_simp)⟩) hHeld ?_
      simp only [Act.put, List.setIfInBounds_toArray, List.set_cons_zero, List.set_cons_succ]
      refine wpAnyH_take (i := 5) (oi := { dst := some 22, op := Op.move (Operand.tmp 1), type := 51, pos := "ref.go:87", after := #[], guard := none }) (v := .slice (some ⟨gv, 0, none⟩) L.length vc) rfl (by kernel_rfl) (by kernel_rfl) (by kernel_rfl) (fun _ _ _ h => h) (Or.inl ⟨by rfl, fun w' hw' => by (clear hw'; go_simp)⟩) hHeld ?_
      simp only [Act.put, List.setIfInBounds_toArray, List.set_cons_zero, List.set_cons_succ]
      refine wpAnyH_take (i := 6) (oi := { dst := some 23, op := Op.move (Operand.tmp 5), type := 3, pos := "ref.go:87", after := #[], guard := none }) (v := .int .i64 (j : Int)) rfl (by kernel_rfl) (by kernel_rfl) (by kernel_rfl) (fun _ _ _ h => h) (Or.inl ⟨by rfl, fun w' hw' => by (clear hw'; go_simp)⟩) hHeld ?_
      simp only [Act.put, List.setIfInBounds_toArray, List.set_cons_zero, List.set_cons_succ]
      refine wpAnyH_take (i := 7) (oi := { dst := some 24, op := Op.indexAddr 51 (Operand.tmp 22) (Operand.tmp 23), type := 0, pos := "ref.go:87", after := #[{ on := 5, ground := Ground.data }, { on := 6, ground := Ground.data }], guard := none }) (v := .pointer (some ⟨gv, j * 36, none⟩)) rfl (by kernel_rfl) (by kernel_rfl) (by kernel_rfl) (fun _ _ _ h => h) (Or.inl ⟨by rfl, fun w' hw' => by (clear hw'; go_simp)⟩) hHeld ?_
      simp only [Act.put, List.setIfInBounds_toArray, List.set_cons_zero, List.set_cons_succ]
      refine wpAnyH_take (i := 8) (oi := { dst := some 25, op := Op.fieldAddr 109 (Operand.tmp 24) 0, type := 0, pos := "ref.go:87", after := #[{ on := 7, ground := Ground.data }], guard := none }) (v := .pointer (some ⟨gv, j * 36, none⟩)) rfl (by kernel_rfl) (by kernel_rfl) (by kernel_rfl) (fun _ _ _ h => h) (Or.inl ⟨by rfl, fun w' hw' => by (clear hw'; go_simp)⟩) hHeld ?_
      simp only [Act.put, List.setIfInBounds_toArray, List.set_cons_zero, List.set_cons_succ]
      refine wpAnyH_take (i := 9) (oi := { dst := some 26, op := Op.load 3 (Operand.tmp 25), type := 3, pos := "ref.go:87", after := #[{ on := 8, ground := Ground.data }], guard := none }) (v := .int .i64 (P : Int)) rfl (by kernel_rfl) (by kernel_rfl) (by kernel_rfl) (fun _ _ _ h => h) (Or.inl ⟨by rfl, fun w' hw' => by (have q := (hw'.cell (p := ⟨gv, j * 36, none⟩) hgv').trans cv0; clear hw'; go_simp)⟩) hHeld ?_
      simp only [Act.put, List.setIfInBounds_toArray, List.set_cons_zero, List.set_cons_succ]
      refine wpAnyH_take (i := 10) (oi := { dst := some 27, op := Op.binOp BinOp.neq 3 (Operand.tmp 21) (Operand.tmp 26) 3, type := 4, pos := "ref.go:87", after := #[{ on := 4, ground := Ground.data }, { on := 9, ground := Ground.data }], guard := none }) (v := .bool false) rfl (by kernel_rfl) (by kernel_rfl) (by kernel_rfl) (fun _ _ _ h => h) (Or.inl ⟨by rfl, fun w' hw' => by (clear hw'; go_simp)⟩) hHeld ?_
      simp only [Act.put, List.setIfInBounds_toArray, List.set_cons_zero, List.set_cons_succ]
      refine wpAnyH_take (i := 11) (oi := { dst := some 28, op := Op.move (Operand.tmp 27), type := 4, pos := "ref.go:87", after := #[{ on := 10, ground := Ground.data }], guard := none }) (v := .bool false) rfl (by kernel_rfl) (by kernel_rfl) (by kernel_rfl) (fun _ _ _ h => h) (Or.inl ⟨by rfl, fun w' hw' => by (clear hw'; go_simp)⟩) hHeld ?_
      simp only [Act.put, List.setIfInBounds_toArray, List.set_cons_zero, List.set_cons_succ]
      refine wpAnyH_take (i := 12) (oi := { dst := some 29, op := Op.move (Operand.tmp 0), type := 51, pos := "ref.go:87", after := #[{ on := 11, ground := Ground.guard }], guard := some (11, false) }) (v := .slice (some ⟨gu, 0, none⟩) L.length uc) rfl (by kernel_rfl) (by kernel_rfl) (by kernel_rfl) (fun _ _ _ h => h) (Or.inl ⟨by rfl, fun w' hw' => by (clear hw'; go_simp)⟩) hHeld ?_
      simp only [Act.put, List.setIfInBounds_toArray, List.set_cons_zero, List.set_cons_succ]
      refine wpAnyH_take (i := 13) (oi := { dst := some 30, op := Op.move (Operand.tmp 5), type := 3, pos := "ref.go:87", after := #[{ on := 11, ground := Ground.guard }], guard := some (11, false) }) (v := .int .i64 (j : Int)) rfl (by kernel_rfl) (by kernel_rfl) (by kernel_rfl) (fun _ _ _ h => h) (Or.inl ⟨by rfl, fun w' hw' => by (clear hw'; go_simp)⟩) hHeld ?_
      simp only [Act.put, List.setIfInBounds_toArray, List.set_cons_zero, List.set_cons_succ]
      refine wpAnyH_take (i := 14) (oi := { dst := some 31, op := Op.indexAddr 51 (Operand.tmp 29) (Operand.tmp 30), type := 0, pos := "ref.go:87", after := #[{ on := 12, ground := Ground.data }, { on := 13, ground := Ground.data }, { on := 11, ground := Ground.guard }], guard := some (11, false) }) (v := .pointer (some ⟨gu, j * 36, none⟩)) rfl (by kernel_rfl) (by kernel_rfl) (by kernel_rfl) (fun _ _ _ h => h) (Or.inl ⟨by rfl, fun w' hw' => by (clear hw'; go_simp)⟩) hHeld ?_
      simp only [Act.put, List.setIfInBounds_toArray, List.set_cons_zero, List.set_cons_succ]
      refine wpAnyH_take (i := 15) (oi := { dst := some 32, op := Op.fieldAddr 109 (Operand.tmp 31) 1, type := 0, pos := "ref.go:87", after := #[{ on := 14, ground := Ground.data }, { on := 11, ground := Ground.guard }], guard := some (11, false) }) (v := .pointer (some ⟨gu, j * 36 + 1, none⟩)) rfl (by kernel_rfl) (by kernel_rfl) (by kernel_rfl) (fun _ _ _ h => h) (Or.inl ⟨by rfl, fun w' hw' => by (clear hw'; go_simp)⟩) hHeld ?_
      simp only [Act.put, List.setIfInBounds_toArray, List.set_cons_zero, List.set_cons_succ]
      refine wpAnyH_take (i := 16) (oi := { dst := some 33, op := Op.load 3 (Operand.tmp 32), type := 3, pos := "ref.go:87", after := #[{ on := 15, ground := Ground.data }, { on := 11, ground := Ground.guard }], guard := some (11, false) }) (v := .int .i64 (N : Int)) rfl (by kernel_rfl) (by kernel_rfl) (by kernel_rfl) (fun _ _ _ h => h) (Or.inl ⟨by rfl, fun w' hw' => by (have q := (hw'.cell (p := ⟨gu, j * 36 + 1, none⟩) hgu').trans cu1; clear hw'; go_simp)⟩) hHeld ?_
      simp only [Act.put, List.setIfInBounds_toArray, List.set_cons_zero, List.set_cons_succ]
      refine wpAnyH_take (i := 17) (oi := { dst := some 34, op := Op.move (Operand.tmp 1), type := 51, pos := "ref.go:87", after := #[{ on := 11, ground := Ground.guard }], guard := some (11, false) }) (v := .slice (some ⟨gv, 0, none⟩) L.length vc) rfl (by kernel_rfl) (by kernel_rfl) (by kernel_rfl) (fun _ _ _ h => h) (Or.inl ⟨by rfl, fun w' hw' => by (clear hw'; go_simp)⟩) hHeld ?_
      simp only [Act.put, List.setIfInBounds_toArray, List.set_cons_zero, List.set_cons_succ]
      refine wpAnyH_take (i := 18) (oi := { dst := some 35, op := Op.move (Operand.tmp 5), type := 3, pos := "ref.go:87", after := #[{ on := 11, ground := Ground.guard }], guard := some (11, false) }) (v := .int .i64 (j : Int)) rfl (by kernel_rfl) (by kernel_rfl) (by kernel_rfl) (fun _ _ _ h => h) (Or.inl ⟨by rfl, fun w' hw' => by (clear hw'; go_simp)⟩) hHeld ?_
      simp only [Act.put, List.setIfInBounds_toArray, List.set_cons_zero, List.set_cons_succ]
      refine wpAnyH_take (i := 19) (oi := { dst := some 36, op := Op.indexAddr 51 (Operand.tmp 34) (Operand.tmp 35), type := 0, pos := "ref.go:87", after := #[{ on := 17, ground := Ground.data }, { on := 18, ground := Ground.data }, { on := 11, ground := Ground.guard }], guard := some (11, false) }) (v := .pointer (some ⟨gv, j * 36, none⟩)) rfl (by kernel_rfl) (by kernel_rfl) (by kernel_rfl) (fun _ _ _ h => h) (Or.inl ⟨by rfl, fun w' hw' => by (clear hw'; go_simp)⟩) hHeld ?_
      simp only [Act.put, List.setIfInBounds_toArray, List.set_cons_zero, List.set_cons_succ]
      refine wpAnyH_take (i := 20) (oi := { dst := some 37, op := Op.fieldAddr 109 (Operand.tmp 36) 1, type := 0, pos := "ref.go:87", after := #[{ on := 19, ground := Ground.data }, { on := 11, ground := Ground.guard }], guard := some (11, false) }) (v := .pointer (some ⟨gv, j * 36 + 1, none⟩)) rfl (by kernel_rfl) (by kernel_rfl) (by kernel_rfl) (fun _ _ _ h => h) (Or.inl ⟨by rfl, fun w' hw' => by (clear hw'; go_simp)⟩) hHeld ?_
      simp only [Act.put, List.setIfInBounds_toArray, List.set_cons_zero, List.set_cons_succ]
      refine wpAnyH_take (i := 21) (oi := { dst := some 38, op := Op.load 3 (Operand.tmp 37), type := 3, pos := "ref.go:87", after := #[{ on := 20, ground := Ground.data }, { on := 11, ground := Ground.guard }], guard := some (11, false) }) (v := .int .i64 (N : Int)) rfl (by kernel_rfl) (by kernel_rfl) (by kernel_rfl) (fun _ _ _ h => h) (Or.inl ⟨by rfl, fun w' hw' => by (have q := (hw'.cell (p := ⟨gv, j * 36 + 1, none⟩) hgv').trans cv1; clear hw'; go_simp)⟩) hHeld ?_
      simp only [Act.put, List.setIfInBounds_toArray, List.set_cons_zero, List.set_cons_succ]
      refine wpAnyH_take (i := 22) (oi := { dst := some 39, op := Op.binOp BinOp.neq 3 (Operand.tmp 33) (Operand.tmp 38) 3, type := 4, pos := "ref.go:87", after := #[{ on := 16, ground := Ground.data }, { on := 21, ground := Ground.data }, { on := 11, ground := Ground.guard }], guard := some (11, false) }) (v := .bool false) rfl (by kernel_rfl) (by kernel_rfl) (by kernel_rfl) (fun _ _ _ h => h) (Or.inl ⟨by rfl, fun w' hw' => by (clear hw'; go_simp)⟩) hHeld ?_
      simp only [Act.put, List.setIfInBounds_toArray, List.set_cons_zero, List.set_cons_succ]
      refine wpAnyH_take (i := 23) (oi := { dst := some 40, op := Op.pick (Operand.tmp 28) (Operand.const (Value.bool true)) (Operand.tmp 39), type := 4, pos := "ref.go:87", after := #[{ on := 11, ground := Ground.data }, { on := 22, ground := Ground.data }], guard := none }) (v := .bool false) rfl (by kernel_rfl) (by kernel_rfl) (by kernel_rfl) (fun _ _ _ h => h) (Or.inl ⟨by rfl, fun w' hw' => by (clear hw'; go_simp)⟩) hHeld ?_
      simp only [Act.put, List.setIfInBounds_toArray, List.set_cons_zero, List.set_cons_succ]
      refine wpAnyH_take (i := 24) (oi := { dst := some 41, op := Op.move (Operand.tmp 40), type := 4, pos := "ref.go:87", after := #[{ on := 23, ground := Ground.data }, { on := 11, ground := Ground.chain }], guard := none }) (v := .bool false) rfl (by kernel_rfl) (by kernel_rfl) (by kernel_rfl) (fun _ _ _ h => h) (Or.inl ⟨by rfl, fun w' hw' => by (clear hw'; go_simp)⟩) hHeld ?_
      simp only [Act.put, List.setIfInBounds_toArray, List.set_cons_zero, List.set_cons_succ]
      refine wpAnyH_take (i := 25) (oi := { dst := some 42, op := Op.move (Operand.tmp 0), type := 51, pos := "ref.go:87", after := #[{ on := 24, ground := Ground.guard }], guard := some (24, false) }) (v := .slice (some ⟨gu, 0, none⟩) L.length uc) rfl (by kernel_rfl) (by kernel_rfl) (by kernel_rfl) (fun _ _ _ h => h) (Or.inl ⟨by rfl, fun w' hw' => by (clear hw'; go_simp)⟩) hHeld ?_
      simp only [Act.put, List.setIfInBounds_toArray, List.set_cons_zero, List.set_cons_succ]
      refine wpAnyH_take (i := 26) (oi := { dst := some 43, op := Op.move (Operand.tmp 5), type := 3, pos := "ref.go:87", after := #[{ on := 24, ground := Ground.guard }], guard := some (24, false) }) (v := .int .i64 (j : Int)) rfl (by kernel_rfl) (by kernel_rfl) (by kernel_rfl) (fun _ _ _ h => h) (Or.inl ⟨by rfl, fun w' hw' => by (clear hw'; go_simp)⟩) hHeld ?_
      simp only [Act.put, List.setIfInBounds_toArray, List.set_cons_zero, List.set_cons_succ]
      refine wpAnyH_take (i := 27) (oi := { dst := some 44, op := Op.indexAddr 51 (Operand.tmp 42) (Operand.tmp 43), type := 0, pos := "ref.go:87", after := #[{ on := 25, ground := Ground.data }, { on := 26, ground := Ground.data }, { on := 24, ground := Ground.guard }], guard := some (24, false) }) (v := .pointer (some ⟨gu, j * 36, none⟩)) rfl (by kernel_rfl) (by kernel_rfl) (by kernel_rfl) (fun _ _ _ h => h) (Or.inl ⟨by rfl, fun w' hw' => by (clear hw'; go_simp)⟩) hHeld ?_
      simp only [Act.put, List.setIfInBounds_toArray, List.set_cons_zero, List.set_cons_succ]
      refine wpAnyH_take (i := 28) (oi := { dst := some 45, op := Op.fieldAddr 109 (Operand.tmp 44) 2, type := 0, pos := "ref.go:87", after := #[{ on := 27, ground := Ground.data }, { on := 24, ground := Ground.guard }], guard := some (24, false) }) (v := .pointer (some ⟨gu, j * 36 + 2, none⟩)) rfl (by kernel_rfl) (by kernel_rfl) (by kernel_rfl) (fun _ _ _ h => h) (Or.inl ⟨by rfl, fun w' hw' => by (clear hw'; go_simp)⟩) hHeld ?_
      simp only [Act.put, List.setIfInBounds_toArray, List.set_cons_zero, List.set_cons_succ]
      refine wpAnyH_take (i := 29) (oi := { dst := some 46, op := Op.load 26 (Operand.tmp 45), type := 26, pos := "ref.go:87", after := #[{ on := 28, ground := Ground.data }, { on := 24, ground := Ground.guard }], guard := some (24, false) }) (v := .agg CU.toArray) rfl (by kernel_rfl) (by kernel_rfl) (by kernel_rfl) (fun _ _ _ h => h) (yieldsIf_load_mid (by rfl) _ _ rfl gu (j * 36 + 2) rfl CU _ (fun w' hw' => rangeAt_below HCU.out hw' hgu') Try.underlying26 rfl HIU.out) hHeld ?_
      simp only [Act.put, List.setIfInBounds_toArray, List.set_cons_zero, List.set_cons_succ]
      refine wpAnyH_take (i := 30) (oi := { dst := some 47, op := Op.move (Operand.tmp 1), type := 51, pos := "ref.go:87", after := #[{ on := 24, ground := Ground.guard }], guard := some (24, false) }) (v := .slice (some ⟨gv, 0, none⟩) L.length vc) rfl (by kernel_rfl) (by kernel_rfl) (by kernel_rfl) (fun _ _ _ h => h) (Or.inl ⟨by rfl, fun w' hw' => by (clear hw'; go_simp)⟩) hHeld ?_
      simp only [Act.put, List.setIfInBounds_toArray, List.set_cons_zero, List.set_cons_succ]
      refine wpAnyH_take (i := 31) (oi := { dst := some 48, op := Op.move (Operand.tmp 5), type := 3, pos := "ref.go:87", after := #[{ on := 24, ground := Ground.guard }], guard := some (24, false) }) (v := .int .i64 (j : Int)) rfl (by kernel_rfl) (by kernel_rfl) (by kernel_rfl) (fun _ _ _ h => h) (Or.inl ⟨by rfl, fun w' hw' => by (clear hw'; go_simp)⟩) hHeld ?_
      simp only [Act.put, List.setIfInBounds_toArray, List.set_cons_zero, List.set_cons_succ]
      refine wpAnyH_take (i := 32) (oi := { dst := some 49, op := Op.indexAddr 51 (Operand.tmp 47) (Operand.tmp 48), type := 0, pos := "ref.go:87", after := #[{ on := 30, ground := Ground.data }, { on := 31, ground := Ground.data }, { on := 24, ground := Ground.guard }], guard := some (24, false) }) (v := .pointer (some ⟨gv, j * 36, none⟩)) rfl (by kernel_rfl) (by kernel_rfl) (by kernel_rfl) (fun _ _ _ h => h) (Or.inl ⟨by rfl, fun w' hw' => by (clear hw'; go_simp)⟩) hHeld ?_
      simp only [Act.put, List.setIfInBounds_toArray, List.set_cons_zero, List.set_cons_succ]
      refine wpAnyH_take (i := 33) (oi := { dst := some 50, op := Op.fieldAddr 109 (Operand.tmp 49) 2, type := 0, pos := "ref.go:87", after := #[{ on := 32, ground := Ground.data }, { on := 24, ground := Ground.guard }], guard := some (24, false) }) (v := .pointer (some ⟨gv, j * 36 + 2, none⟩)) rfl (by kernel_rfl) (by kernel_rfl) (by kernel_rfl) (fun _ _ _ h => h) (Or.inl ⟨by rfl, fun w' hw' => by (clear hw'; go_simp)⟩) hHeld ?_
      simp only [Act.put, List.setIfInBounds_toArray, List.set_cons_zero, List.set_cons_succ]
      refine wpAnyH_take (i := 34) (oi := { dst := some 51, op := Op.load 26 (Operand.tmp 50), type := 26, pos := "ref.go:87", after := #[{ on := 33, ground := Ground.data }, { on := 24, ground := Ground.guard }], guard := some (24, false) }) (v := .agg CV.toArray) rfl (by kernel_rfl) (by kernel_rfl) (by kernel_rfl) (fun _ _ _ h => h) (yieldsIf_load_mid (by rfl) _ _ rfl gv (j * 36 + 2) rfl CV _ (fun w' hw' => rangeAt_below HCV.out hw' hgv') Try.underlying26 rfl HIV.out) hHeld ?_
      simp only [Act.put, List.setIfInBounds_toArray, List.set_cons_zero, List.set_cons_succ]
      refine wpAnyH_ready (rs := [35]) (by kernel_rfl) (by simp) ?_
      refine AllReadyH.cons (o := { dst := some 52, op := Op.call { callee := Callee.value (Operand.func 18), args := #[Operand.tmp 46, Operand.tmp 51], argTypes := #[26, 26] }, type := 4, pos := "ref.go:87", after := #[{ on := 29, ground := Ground.data }, { on := 34, ground := Ground.data }, { on := 24, ground := Ground.chain }, { on := 24, ground := Ground.guard }], guard := some (24, false) }) rfl (fun K hK => ?_) AllReadyH.nil
      go_simp
      refine HSM.out.mono ?_
      rintro e w1 ⟨rfl, hb1⟩
      have HB1 : Hid (Below wr.heap.size wr w1) := (Below.refl _ _).drew.trans (hb1.mono (Nat.le_refl _))
      clear hb1
      go_wp2_with fail
      refine hK.out _ _ (HB1.out) (fun hh => ?_)
      clear hK K hHeld
      have hHeld := hh
      clear hh
      try simp only [Act.put, List.setIfInBounds_toArray, List.set_cons_zero, List.set_cons_succ]
      refine wpAnyH_take (i := 36) (oi := { dst := some 53, op := Op.unOp UnOp.not 4 (Operand.tmp 52), type := 4, pos := "ref.go:87", after := #[{ on := 35, ground := Ground.data }, { on := 24, ground := Ground.guard }], guard := some (24, false) }) (v := .bool false) rfl (by kernel_rfl) (by kernel_rfl) (by kernel_rfl) (fun _ _ _ h => h) (Or.inl ⟨by rfl, fun w' hw' => by (clear hw'; go_simp)⟩) hHeld ?_
      simp only [Act.put, List.setIfInBounds_toArray, List.set_cons_zero, List.set_cons_succ]
      refine wpAnyH_take (i := 37) (oi := { dst := some 54, op := Op.pick (Operand.tmp 41) (Operand.const (Value.bool true)) (Operand.tmp 53), type := 4, pos := "ref.go:87", after := #[{ on := 24, ground := Ground.data }, { on := 36, ground := Ground.data }], guard := none }) (v := .bool false) rfl (by kernel_rfl) (by kernel_rfl) (by kernel_rfl) (fun _ _ _ h => h) (Or.inl ⟨by rfl, fun w' hw' => by (clear hw'; go_simp)⟩) hHeld ?_
      simp only [Act.put, List.setIfInBounds_toArray, List.set_cons_zero, List.set_cons_succ]
      refine wpAnyH_done (by kernel_rfl) ?_ _
      go_wp2_with fail
      exact ⟨⟨j + 1, by omega, by go_num, HB.out.trans (HB1.out.mono hle)⟩, by simp [intOf]; omega⟩
    · go_wp2_with fail
      refine bodyPost_ret (v := .bool true) (by simp [results, Try.results24, go_sem]) rfl ⟨rfl, HB.out⟩
end Go.Proofs.Ythbhdbjjobfchaa
end

section
/-
  The program's placed records as the document's.
-/
namespace Go.Proofs.Ythbhdbjjobfchaa
open Go.RowKit Go.Shelf
open Tlv (Tr BySlS AgreeS Agree)
open Crc (hid Kept Tab)

theorem wp_val {P : Program} {o : Oper} {a : Act} {K : Act → World → Prop} {Q : Exit → Act → World → Prop} {w w' : World} {v : Value} (hr : (execOp a.eval o).run P w = .ok (.value v) w') (h : K (a.put o.dst v) w') : Oper.wp P o a w K Q := by
  unfold Oper.wp
  rw [hr]
  exact h

/-- All blocks below n but that of v's row are kept. -/
def KeptBut (n : Nat) (v : Value) (w V : World) : Prop := ∀ i, i < n → v.ownBlock ≠ some i → V.heap[i]? = w.heap[i]?

set_option maxHeartbeats 2000000 in
set_option maxRecDepth 100000 in
theorem placed_any (u : Value) (L : List Item) (B b : Nat) (w : World) (hu : PRow 62 B b w u L) (hl : L.length ≤ 80000) (hb : b < B) :
    Calls Try.prog 25 #[u] w fun e w' => ∃ v, e = .returned v ∧ PRow 109 B b w' v L ∧ Below w.heap.size w w' := by
  obtain ⟨ua, uc, rfl⟩ := hu.form
  have HU := hid hu
  clear hu
  go_enter Try.func25, Try.ntmps25
  go_wp2_with fail
  go_loopw [3, 4] (fun o i wr => ∃ (j rn : Nat) (ra : Option Addr) (rc : Nat), j ≤ L.length ∧ o = .slice ra rn rc ∧ i = .int .i64 (j : Int) ∧ Hid (PRow 109 B b wr (.slice ra rn rc) (L.take j) ∧ Below w.heap.size w wr ∧ ∀ r, (Value.slice ra rn rc).ownBlock = some r → w.heap.size ≤ r)) (fun _ i _ => L.length - (intOf i).toNat)
  case atStart => exact ⟨0, 0, none, 0, Nat.zero_le _, rfl, rfl, PRow.nil _ _ _ _, Below.refl _ _, by simp [Value.ownBlock]⟩
  case round =>
    obtain ⟨j, rn, ra, rc, hj, rfl, rfl, HS⟩ := hrel
    by_cases hlt : j < L.length
    · obtain ⟨s1, s2, s3⟩ := HS.out
      have hrn : rn = (L.take j).length := by
        obtain ⟨_, _, e⟩ := s1.form
        simp only [Value.slice.injEq] at e
        exact e.2.1
      have hx : L[j]? = some L[j] := List.getElem?_eq_getElem hlt
      have htk : L.take (j + 1) = L.take j ++ [L[j]] := by rw [List.take_add_one, hx]; rfl
      obtain ⟨gu, uc', au, cu, eu, hgB, hgu, hnu, hru, hbu⟩ := HU.out.get j _ hx
      simp only [Value.slice.injEq, true_and] at eu
      obtain ⟨rfl, rfl⟩ := eu
      generalize L[j] = x at *
      have hji : (j : Int) < (L.length : Int) := by omega
      have hle := s2.size
      have hgu' : gu < wr.heap.size := Nat.lt_of_lt_of_le hgu hle
      have hgn : (Value.slice ra rn rc).ownBlock ≠ some gu := fun e => by have := s3 gu e; omega
      have HRU := hid (rangeAt_below hru s2 hgu)
      have HBU := hid (BySlS.below hbu s2 (fun g hg => hg.2.2.1))
      have cu0 : wr.cell? ⟨gu, j * 36, none⟩ = some (.int .i64 (x.1 : Int)) := HRU.out 0 _ rfl
      have cu1 : wr.cell? ⟨gu, j * 36 + 1, none⟩ = some (.int .i64 (x.2.2.2 : Int)) := HRU.out 1 _ rfl
      have HCU : Hid (wr.rangeAt gu (j * 36 + 2) (recA x.2.2.1.1 x.2.2.1.2.1 (.slice au x.2.2.1.2.2.length cu))) := fun i q hq => by rw [Nat.add_assoc]; exact HRU.out (2 + i) q (by rw [Nat.add_comm 2 i]; exact hq)
      have HLU := hid (recA_length x.2.2.1.1 x.2.2.1.2.1 (.slice au x.2.2.1.2.2.length cu) hnu.1)
      have HBK := hid (back23_any x.2.2.1.1 x.2.2.1.2.1 au x.2.2.1.2.2.length cu wr.drew hnu.1)
      have HBD := hid (rbuilt x.1 x.2.2.2 x.2.2.1.1 x.2.2.1.2.1 hnu.1 au x.2.2.1.2.2.length cu)
      have HBS := fun W => hid (rrun_onepl x.1 x.2.2.2 x.2.2.1.1 x.2.2.1.2.1 au x.2.2.1.2.2.length cu hnu.1 W)
      have HQL := hid (plI_length (x := x) hnu (.slice au x.2.2.1.2.2.length cu))
      have HQO := hid (plI_one x au x.2.2.1.2.2.length cu)
      obtain ⟨C, hC⟩ : ∃ C, recA x.2.2.1.1 x.2.2.1.2.1 (.slice au x.2.2.1.2.2.length cu) = C := ⟨_, rfl⟩
      have HQE : Hid (plI x (.slice au x.2.2.1.2.2.length cu) = placedA x.1 x.2.2.2 C) := by rw [Hid, ← hC]; rfl
      rw [HQE.out] at HQL HQO
      rw [hC] at HCU HLU HBK HBD HBS
      obtain ⟨PA, hPA⟩ : ∃ PA, placedA x.1 x.2.2.2 C = PA := ⟨_, rfl⟩
      rw [hPA] at HQL HQO HBD HBS HQE
      have HIU : Hid ((Try.prog.info? 35).map (·.size) = some C.length) := by rw [Hid, HLU.out]; exact Try.info35
      have HKP := hid (And.intro s1 (And.intro s2 (And.intro s3 (And.intro htk (And.intro hnu hrn)))))
      have HKC : Hid (∀ V o, KeptBut wr.heap.size (.slice ra rn rc) wr V → V.cell? ⟨gu, o, none⟩ = wr.cell? ⟨gu, o, none⟩) := fun V o h => World.cell?_of_block (a := ⟨gu, o, none⟩) (h gu hgu' hgn)
      generalize x.1 = P at *
      generalize x.2.2.2 = N at *
      clear s1 s2 s3 htk hx hnu hrn hru hbu hC hPA HRU HLU HS
      go_wp2_with fail
      refine wp_region_held_drew (S := fun V => KeptBut wr.heap.size (.slice ra rn rc) wr V) (by kernel_rfl) (fun _ _ _ => rfl) (fun hHeld => ?_)
      refine wpAnyH_take (i := 0) (oi := { dst := some 11, op := Op.move (Operand.tmp 3), type := 51, pos := "law.go:22", after := #[], guard := none }) (v := .slice ra rn rc) rfl (by kernel_rfl) (by kernel_rfl) (by kernel_rfl) (fun _ _ _ h => h) (Or.inl ⟨by rfl, fun w' hw' => by (clear hw'; go_simp)⟩) hHeld ?_
      simp only [Act.put, List.setIfInBounds_toArray, List.set_cons_zero, List.set_cons_succ]
      refine wpAnyH_take (i := 1) (oi := { dst := some 12, op := Op.move (Operand.tmp 0), type := 48, pos := "law.go:22", after := #[], guard := none }) (v := .slice (some ⟨gu, 0, none⟩) L.length uc) rfl (by kernel_rfl) (by kernel_rfl) (by kernel_rfl) (fun _ _ _ h => h) (Or.inl ⟨by rfl, fun w' hw' => by (clear hw'; go_simp)⟩) hHeld ?_
      simp only [Act.put, List.setIfInBounds_toArray, List.set_cons_zero, List.set_cons_succ]
      refine wpAnyH_take (i := 2) (oi := { dst := some 13, op := Op.move (Operand.tmp 4), type := 3, pos := "law.go:22", after := #[], guard := none }) (v := .int .i64 (j : Int)) rfl (by kernel_rfl) (by kernel_rfl) (by kernel_rfl) (fun _ _ _ h => h) (Or.inl ⟨by rfl, fun w' hw' => by (clear hw'; go_simp)⟩) hHeld ?_
      simp only [Act.put, List.setIfInBounds_toArray, List.set_cons_zero, List.set_cons_succ]
      refine wpAnyH_take (i := 3) (oi := { dst := some 14, op := Op.indexAddr 48 (Operand.tmp 12) (Operand.tmp 13), type := 0, pos := "law.go:22", after := #[{ on := 1, ground := Ground.data }, { on := 2, ground := Ground.data }], guard := none }) (v := .pointer (some ⟨gu, j * 36, none⟩)) rfl (by kernel_rfl) (by kernel_rfl) (by kernel_rfl) (fun _ _ _ h => h) (Or.inl ⟨by rfl, fun w' hw' => by (clear hw'; go_simp)⟩) hHeld ?_
      simp only [Act.put, List.setIfInBounds_toArray, List.set_cons_zero, List.set_cons_succ]
      refine wpAnyH_take (i := 4) (oi := { dst := some 15, op := Op.fieldAddr 62 (Operand.tmp 14) 0, type := 0, pos := "law.go:22", after := #[{ on := 3, ground := Ground.data }], guard := none }) (v := .pointer (some ⟨gu, j * 36, none⟩)) rfl (by kernel_rfl) (by kernel_rfl) (by kernel_rfl) (fun _ _ _ h => h) (Or.inl ⟨by rfl, fun w' hw' => by (clear hw'; go_simp)⟩) hHeld ?_
      simp only [Act.put, List.setIfInBounds_toArray, List.set_cons_zero, List.set_cons_succ]
      refine wpAnyH_take (i := 5) (oi := { dst := some 16, op := Op.load 3 (Operand.tmp 15), type := 3, pos := "law.go:22", after := #[{ on := 4, ground := Ground.data }], guard := none }) (v := .int .i64 (P : Int)) rfl (by kernel_rfl) (by kernel_rfl) (by kernel_rfl) (fun _ _ _ h => h) (Or.inl ⟨by rfl, fun w' hw' => by (have q := (HKC.out _ (j * 36) hw').trans cu0; clear hw'; go_simp)⟩) hHeld ?_
      simp only [Act.put, List.setIfInBounds_toArray, List.set_cons_zero, List.set_cons_succ]
      refine wpAnyH_take (i := 6) (oi := { dst := some 17, op := Op.move (Operand.tmp 0), type := 48, pos := "law.go:22", after := #[], guard := none }) (v := .slice (some ⟨gu, 0, none⟩) L.length uc) rfl (by kernel_rfl) (by kernel_rfl) (by kernel_rfl) (fun _ _ _ h => h) (Or.inl ⟨by rfl, fun w' hw' => by (clear hw'; go_simp)⟩) hHeld ?_
      simp only [Act.put, List.setIfInBounds_toArray, List.set_cons_zero, List.set_cons_succ]
      refine wpAnyH_take (i := 7) (oi := { dst := some 18, op := Op.move (Operand.tmp 4), type := 3, pos := "law.go:22", after := #[], guard := none }) (v := .int .i64 (j : Int)) rfl (by kernel_rfl) (by kernel_rfl) (by kernel_rfl) (fun _ _ _ h => h) (Or.inl ⟨by rfl, fun w' hw' => by (clear hw'; go_simp)⟩) hHeld ?_
      simp only [Act.put, List.setIfInBounds_toArray, List.set_cons_zero, List.set_cons_succ]
      refine wpAnyH_take (i := 8) (oi := { dst := some 19, op := Op.indexAddr 48 (Operand.tmp 17) (Operand.tmp 18), type := 0, pos := "law.go:22", after := #[{ on := 6, ground := Ground.data }, { on := 7, ground := Ground.data }], guard := none }) (v := .pointer (some ⟨gu, j * 36, none⟩)) rfl (by kernel_rfl) (by kernel_rfl) (by kernel_rfl) (fun _ _ _ h => h) (Or.inl ⟨by rfl, fun w' hw' => by (clear hw'; go_simp)⟩) hHeld ?_
      simp only [Act.put, List.setIfInBounds_toArray, List.set_cons_zero, List.set_cons_succ]
      refine wpAnyH_take (i := 9) (oi := { dst := some 20, op := Op.fieldAddr 62 (Operand.tmp 19) 1, type := 0, pos := "law.go:22", after := #[{ on := 8, ground := Ground.data }], guard := none }) (v := .pointer (some ⟨gu, j * 36 + 1, none⟩)) rfl (by kernel_rfl) (by kernel_rfl) (by kernel_rfl) (fun _ _ _ h => h) (Or.inl ⟨by rfl, fun w' hw' => by (clear hw'; go_simp)⟩) hHeld ?_
      simp only [Act.put, List.setIfInBounds_toArray, List.set_cons_zero, List.set_cons_succ]
      refine wpAnyH_take (i := 10) (oi := { dst := some 21, op := Op.load 3 (Operand.tmp 20), type := 3, pos := "law.go:22", after := #[{ on := 9, ground := Ground.data }], guard := none }) (v := .int .i64 (N : Int)) rfl (by kernel_rfl) (by kernel_rfl) (by kernel_rfl) (fun _ _ _ h => h) (Or.inl ⟨by rfl, fun w' hw' => by (have q := (HKC.out _ (j * 36 + 1) hw').trans cu1; clear hw'; go_simp)⟩) hHeld ?_
      simp only [Act.put, List.setIfInBounds_toArray, List.set_cons_zero, List.set_cons_succ]
      refine wpAnyH_take (i := 11) (oi := { dst := some 22, op := Op.move (Operand.tmp 0), type := 48, pos := "law.go:22", after := #[], guard := none }) (v := .slice (some ⟨gu, 0, none⟩) L.length uc) rfl (by kernel_rfl) (by kernel_rfl) (by kernel_rfl) (fun _ _ _ h => h) (Or.inl ⟨by rfl, fun w' hw' => by (clear hw'; go_simp)⟩) hHeld ?_
      simp only [Act.put, List.setIfInBounds_toArray, List.set_cons_zero, List.set_cons_succ]
      refine wpAnyH_take (i := 12) (oi := { dst := some 23, op := Op.move (Operand.tmp 4), type := 3, pos := "law.go:22", after := #[], guard := none }) (v := .int .i64 (j : Int)) rfl (by kernel_rfl) (by kernel_rfl) (by kernel_rfl) (fun _ _ _ h => h) (Or.inl ⟨by rfl, fun w' hw' => by (clear hw'; go_simp)⟩) hHeld ?_
      simp only [Act.put, List.setIfInBounds_toArray, List.set_cons_zero, List.set_cons_succ]
      refine wpAnyH_take (i := 13) (oi := { dst := some 24, op := Op.indexAddr 48 (Operand.tmp 22) (Operand.tmp 23), type := 0, pos := "law.go:22", after := #[{ on := 11, ground := Ground.data }, { on := 12, ground := Ground.data }], guard := none }) (v := .pointer (some ⟨gu, j * 36, none⟩)) rfl (by kernel_rfl) (by kernel_rfl) (by kernel_rfl) (fun _ _ _ h => h) (Or.inl ⟨by rfl, fun w' hw' => by (clear hw'; go_simp)⟩) hHeld ?_
      simp only [Act.put, List.setIfInBounds_toArray, List.set_cons_zero, List.set_cons_succ]
      refine wpAnyH_take (i := 14) (oi := { dst := some 25, op := Op.fieldAddr 62 (Operand.tmp 24) 2, type := 0, pos := "law.go:22", after := #[{ on := 13, ground := Ground.data }], guard := none }) (v := .pointer (some ⟨gu, j * 36 + 2, none⟩)) rfl (by kernel_rfl) (by kernel_rfl) (by kernel_rfl) (fun _ _ _ h => h) (Or.inl ⟨by rfl, fun w' hw' => by (clear hw'; go_simp)⟩) hHeld ?_
      simp only [Act.put, List.setIfInBounds_toArray, List.set_cons_zero, List.set_cons_succ]
      refine wpAnyH_take (i := 15) (oi := { dst := some 26, op := Op.load 35 (Operand.tmp 25), type := 35, pos := "law.go:22", after := #[{ on := 14, ground := Ground.data }], guard := none }) (v := .agg C.toArray) rfl (by kernel_rfl) (by kernel_rfl) (by kernel_rfl) (fun _ _ _ h => h) (yieldsIf_load_mid (by rfl) _ _ rfl gu (j * 36 + 2) rfl C _ (fun w' hw' => fun i q hq => (HKC.out _ _ hw').trans (HCU.out i q hq)) Try.underlying35 rfl HIU.out) hHeld ?_
      simp only [Act.put, List.setIfInBounds_toArray, List.set_cons_zero, List.set_cons_succ]
      refine wpAnyH_ready (rs := [16]) (by kernel_rfl) (by simp) ?_
      refine AllReadyH.cons (o := { dst := some 27, op := Op.call { callee := Callee.value (Operand.func 23), args := #[Operand.tmp 26], argTypes := #[35] }, type := 26, pos := "law.go:22", after := #[{ on := 15, ground := Ground.data }], guard := none }) rfl (fun K hK => ?_) AllReadyH.nil
      go_simp
      refine HBK.out.mono ?_
      rintro e w1 ⟨rfl, hb1⟩
      have HB1 : Hid (Below wr.heap.size wr w1) := (Below.refl _ _).drew.trans (hb1.mono (Nat.le_refl _))
      clear hb1
      go_wp2_with fail
      refine hK.out _ _ (fun i hi _ => HB1.out.block i hi) (fun hh => ?_)
      clear hK K hHeld
      have hHeld := hh
      clear hh
      try simp only [Act.put, List.setIfInBounds_toArray, List.set_cons_zero, List.set_cons_succ]
      refine wpAnyH_take (i := 17) (oi := { dst := some 28, op := Op.build 109 #[(0, Operand.tmp 16), (1, Operand.tmp 21), (2, Operand.tmp 27)], type := 109, pos := "law.go:22", after := #[{ on := 5, ground := Ground.data }, { on := 10, ground := Ground.data }, { on := 16, ground := Ground.data }], guard := none }) (v := .agg PA.toArray) rfl (by kernel_rfl) (by kernel_rfl) (by kernel_rfl) (fun _ _ _ h => h) (Or.inl ⟨by rfl, fun w' _ => exec_build3 109 (.tmp 16) (.tmp 21) (.tmp 27) rfl (.int .i64 (P : Int)) (.int .i64 (N : Int)) (.agg C.toArray) rfl rfl rfl PA.toArray HBD.out⟩) hHeld ?_
      simp only [Act.put, List.setIfInBounds_toArray, List.set_cons_zero, List.set_cons_succ]
      have hs1 := HB1.out.size
      have hal : Below w1.heap.size w1 (w1.alloc (.cells PA.toArray 109)) := (Below.refl _ _).alloc (Nat.le_refl _) _
      have HAL := hid hal
      obtain ⟨s1, s2, s3, htk, hnu, hrn⟩ := HKP.out
      obtain ⟨us, hul, hown, hn, hk⟩ := s1
      obtain ⟨i, hi, hiz⟩ : ∃ i, Try.prog.info? 109 = some i ∧ (i.zero, i.size, i.bytes) = (some (.agg zPl.toArray), 36, 80) := Option.map_eq_some_iff.1 rinfo'
      simp only [Prod.mk.injEq] at hiz
      obtain ⟨z1, z2, z3⟩ := hiz
      have hrk : rn ≤ 80000 := by rw [hrn, List.length_take]; omega
      rw [← hrn] at hown
      have hKW : CellsKept B b wr (w1.alloc (.cells PA.toArray 109)) := (CellsKept.of_kept (Kept.below HB1.out)).trans (CellsKept.of_kept (Kept.below hal))
      obtain ⟨g2, cap2, W2, hap, hown2, hgrow, hat, hg2⟩ := run_append_lies (P := Try.prog) (w1.alloc (.cells PA.toArray 109)) 51 51 B 109 i (.agg zPl.toArray) 36 80 Try.underlying51 hi z1 z2 z3 rfl (by omega) (.slice ra rn rc) rn _ (ownsRow_kept hown hKW hb) ⟨w1.heap.size, 0, none⟩ 1 1 PA (by rw [HQL.out]) (fun j u h => by rw [Addr.add_lit]; exact range_new w1 PA 109 j u h) HQO.out (by omega) (by unfold maxLen; omega) (by omega) (by simp; omega) _ rfl
      have HAP := hid hap
      have HROW := hid (And.intro hul (And.intro hn hk))
      have HALL := hid (And.intro hown2 (And.intro hgrow (And.intro hat hg2)))
      have HS18 : Hid (KeptBut wr.heap.size (.slice ra rn rc) wr (w1.alloc (.cells PA.toArray 109))) := fun i hi _ => (hal.block i (by omega)).trans (HB1.out.block i hi)
      have HS19 : Hid (KeptBut wr.heap.size (.slice ra rn rc) wr W2) := fun i hi hne => (hgrow.block i (by simp; omega) (fun e => hne e.symm)).trans (HS18.out i hi hne)
      clear hown2 hgrow hat hg2 hap hi z1 z2 z3 hown hn hk hul s2 s3 htk hnu hrn hal hKW
      refine wpAnyH_ready (rs := [18]) (by kernel_rfl) (by simp) ?_
      refine AllReadyH.cons (o := { dst := some 29, op := Op.buildSlice 51 1 #[(0, Operand.tmp 28)], type := 51, pos := "law.go:22", after := #[{ on := 17, ground := Ground.data }], guard := none }) rfl (fun K hK => ?_) AllReadyH.nil
      rw [if_pos (by rfl)]
      refine wp_val (exec_slice1 51 _ rfl (.agg PA.toArray) _ rfl (HBS _).out) ?_
      refine hK.out _ _ HS18.out (fun hh => ?_)
      clear hK K hHeld
      have hHeld := hh
      clear hh
      try simp only [Act.put, List.setIfInBounds_toArray, List.set_cons_zero, List.set_cons_succ]
      refine wpAnyH_ready (rs := [19]) (by kernel_rfl) (by simp) ?_
      refine AllReadyH.cons (o := { dst := some 30, op := Op.call { callee := Callee.builtin Builtin.append, args := #[Operand.tmp 11, Operand.tmp 29], argTypes := #[51, 51] }, type := 51, pos := "law.go:22", after := #[{ on := 0, ground := Ground.data }, { on := 18, ground := Ground.data }, { on := 16, ground := Ground.chain }], guard := none }) rfl (fun K hK => ?_) AllReadyH.nil
      rw [if_pos (by rfl)]
      refine wp_val (exec_append _ _ 51 rfl (.slice ra rn rc) (.slice (some ⟨w1.heap.size, 0, none⟩) 1 1) _ rfl rfl HAP.out) ?_
      refine hK.out _ _ HS19.out (fun hh => ?_)
      clear hK K hHeld
      have hHeld := hh
      clear hh
      try simp only [Act.put, List.setIfInBounds_toArray, List.set_cons_zero, List.set_cons_succ]
      refine wpAnyH_take (i := 20) (oi := { dst := some 3, op := Op.assign (Operand.tmp 30), type := 51, pos := "law.go:22", after := #[{ on := 19, ground := Ground.data }, { on := 19, ground := Ground.chain }, { on := 0, ground := Ground.phase }, { on := 1, ground := Ground.phase }, { on := 2, ground := Ground.phase }, { on := 3, ground := Ground.phase }, { on := 4, ground := Ground.phase }, { on := 5, ground := Ground.phase }, { on := 6, ground := Ground.phase }, { on := 7, ground := Ground.phase }, { on := 8, ground := Ground.phase }, { on := 9, ground := Ground.phase }, { on := 10, ground := Ground.phase }, { on := 11, ground := Ground.phase }, { on := 12, ground := Ground.phase }, { on := 13, ground := Ground.phase }, { on := 14, ground := Ground.phase }, { on := 15, ground := Ground.phase }, { on := 16, ground := Ground.phase }, { on := 17, ground := Ground.phase }, { on := 18, ground := Ground.phase }, { on := 19, ground := Ground.phase }], guard := none }) (v := .slice (some ⟨g2, 0, none⟩) (rn + 1) cap2) rfl (by kernel_rfl) (by kernel_rfl) (by kernel_rfl) (fun _ _ _ h => h) (Or.inl ⟨by rfl, fun w' hw' => by (clear hw'; go_simp)⟩) hHeld ?_
      simp only [Act.put, List.setIfInBounds_toArray, List.set_cons_zero, List.set_cons_succ]
      refine wpAnyH_done (by kernel_rfl) ?_ _
      go_wp2_with fail
      obtain ⟨s1, s2, s3, htk, hnu, hrn⟩ := HKP.out
      obtain ⟨hul, hn, hk⟩ := HROW.out
      obtain ⟨hown2, hgrow, hat, hg2⟩ := HALL.out
      have hal := HAL.out
      have hs3 := hal.size
      have hlt2 := s1.lt
      refine ⟨⟨j + 1, rn + 1, some ⟨g2, 0, none⟩, cap2, by omega, rfl, by go_num, ?_, ?_, ?_⟩, by simp [intOf]; omega⟩
      · rw [htk, hrn]
        rw [hrn, ← HQE.out] at hown2
        have up : ∀ {u : Value} {ys : List Int}, BySlS (fun q => B ≤ q ∧ q ≠ b ∧ q < wr.heap.size ∧ (Value.slice ra rn rc).ownBlock ≠ some q) wr u ys → BySlS (fun q => B ≤ q ∧ q ≠ b ∧ q < (w1.alloc (.cells PA.toArray 109)).heap.size ∧ (Value.slice ra rn rc).ownBlock ≠ some q) (w1.alloc (.cells PA.toArray 109)) u ys := fun h =>
          h.agree (fun q hq => (hal.block q (by omega)).trans (HB1.out.block q hq.2.2.1)) (fun q hq => ⟨hq.1, hq.2.1, by omega, hq.2.2.2⟩)
        refine PRow.push hul hn hnu (fun j x u h1 h2 => up (hk j x u h1 h2)) (up ?_) hown2 hgrow (by simpa using hat)
        exact BySlS.mono HBU.out (fun q hq => ⟨hq.1, hq.2.1, by omega, fun e => by have := s3 q e; omega⟩)
      · exact ((s2.trans (HB1.out.mono hle)).trans (hal.mono (by omega))).grown hgrow (by simp; omega) (fun q e => s3 q e)
      · intro r hr
        simp only [Value.ownBlock, Option.some.injEq] at hr
        subst hr
        rcases hat with h | h
        · exact s3 _ h
        · simp at h; omega
    · obtain ⟨s1, s2, s3⟩ := HS.out
      have e : L.take j = L := List.take_of_length_le (by omega)
      rw [e] at s1
      have HF := hid (And.intro s1 s2)
      clear s1 s2 s3 e HS
      go_wp2_with fail
      exact bodyPost_ret (v := .slice ra rn rc) (by simp [results, Try.results25, go_sem]) rfl ⟨_, rfl, HF.out.1, HF.out.2⟩
end Go.Proofs.Ythbhdbjjobfchaa
end
