/-
  CrcBursts, walked.
-/
import Derived.Test.YtigjapiapgkgmaaBurst
import Derived.Test.YtigjapiapgkgmaaOpen
import Derived.Test.YtigjapiapgkgmaaSums
namespace Go.Proofs.Ytigjapiapgkgmaa
open Go.RowKit

/-- The row at g holds xs in wr; all else is as it was. -/
def Held (g : Nat) (W wr : World) (xs : List Nat) : Prop :=
  Kept g W wr ∧ wr.heap.size = W.heap.size ∧ (∀ j, j < xs.length → wr.cell? ⟨g, j, none⟩ = some (.int .u8 (xs.getD j 0 : Nat))) ∧ ∀ j, wr.frozen? ⟨g, j, none⟩ = false

theorem Held.set {g : Nat} {W wr : World} {xs : List Nat} (h : Held g W wr xs) (j x : Nat) (hj : j < xs.length) : Held g W (wr.setCell ⟨g, j, none⟩ (.int .u8 (x : Nat))) (xs.set j x) := by
  obtain ⟨h1, h2, h3, h4⟩ := h
  refine ⟨h1.setCell rfl _, by simpa using h2, fun i hi => ?_, fun i => by simpa using h4 i⟩
  simp only [List.length_set] at hi
  by_cases e : j = i
  · subst e
    rw [World.cell?_setCell_same _ _ _ (h3 j hj)]
    simp [hj]
  · rw [World.cell?_setCell_other _ _ _ _ (by simp only [ne_eq, Addr.mk.injEq, true_and, and_true]; omega), h3 i hi]
    simp [e]

theorem Held.rebase {g b : Nat} {W W' : World} {xs : List Nat} (h : Held g W W xs) (k : Kept b W W') (hb : g ≠ b) (hg : g < W.heap.size) : Held g W' W' xs := by
  obtain ⟨_, _, h3, h4⟩ := h
  exact ⟨Kept.refl _ _, rfl, fun j hj => (k.cell (p := ⟨g, j, none⟩) hg hb).trans (h3 j hj), fun j => (k.frozen (p := ⟨g, j, none⟩) hg hb).trans (h4 j)⟩

theorem opn_sealed (xs : List Nat) : opn (xs ++ le4 (more 0 xs)) = (0, xs) := by
  have hl : (xs ++ le4 (more 0 xs)).length = xs.length + 4 := by simp [le4_len]
  have ht : (xs ++ le4 (more 0 xs)).take xs.length = xs := List.take_left' rfl
  have hd : (xs ++ le4 (more 0 xs)).drop xs.length = le4 (more 0 xs) := List.drop_left' rfl
  rw [opn, hl, Nat.add_sub_cancel, ht, hd, if_neg (by omega), if_pos rfl]

theorem opn_turned (xs : List Nat) (hx : ∀ x ∈ xs, x < 256) (p m : Nat) (hm : m < 4294967296) (h0 : m ≠ 0) (hp : p + 32 ≤ 8 * (xs ++ le4 (more 0 xs)).length) : opn (turn (xs ++ le4 (more 0 xs)) p m 32) = (4, []) := by
  have hl : (turn (xs ++ le4 (more 0 xs)) p m 32).length = xs.length + 4 := by rw [turn_len]; simp [le4_len]
  have hb : ∀ x ∈ xs ++ le4 (more 0 xs), x < 256 := by
    intro x h
    rcases List.mem_append.1 h with h | h
    · exact hx x h
    · exact le4_lt (more_lt _ _) x h
  have ht := turn_lt hb p m 32
  rw [opn, hl, if_neg (by omega), if_neg]
  exact burst_told xs _ _ p m hx (fun x h => ht x (List.mem_of_mem_take h)) hm h0 hp (List.take_append_drop _ _).symm

theorem bit_test (m k : Nat) (hm : m < 4294967296) : (bits .and .u32 ((m : Int) / 2 ^ k) 1 == 1) = m.testBit k := by
  have e : ((m : Int) / 2 ^ k) = ((m / 2 ^ k : Nat) : Int) := by rw [Int.natCast_ediv, Int.natCast_pow]; rfl
  rw [e, and_one _ (Nat.lt_of_le_of_lt (Nat.div_le_self _ _) hm), Nat.testBit_eq_decide_div_mod_eq, Bool.eq_iff_iff]
  simp
  omega
theorem bit_xor (c q : Nat) (hc : c < 256) (hq : q < 8) : bits .xor .u8 (c : Int) (2 ^ q % 256) = ((c ^^^ 2 ^ q : Nat) : Int) := by
  have hp : 2 ^ q < 256 := Nat.pow_lt_pow_right (m := q) (n := 8) (by decide) hq
  have e : ((2 : Int) ^ q % 256) = ((2 ^ q : Nat) : Int) := by
    rw [Int.natCast_pow]
    apply Int.emod_eq_of_lt
    · exact Int.pow_nonneg (by decide)
    · have : (((2 ^ q : Nat)) : Int) < 256 := by omega
      rw [Int.natCast_pow] at this
      exact this
  rw [e]
  exact u8_xor_nat c (2 ^ q) hc hp

set_option maxHeartbeats 2000000 in
set_option maxRecDepth 100000 in
theorem bursts_walk (v1 : Value) (xs : List Nat) (p : Int) (m : Nat) (w : World) (h1 : BySl w.heap.size w v1 xs) (l1 : xs.length ≤ 3000) (hm : m < 4294967296) (hp0 : -9223372036854775808 ≤ p) (hp1 : p ≤ 9223372036854775807) :
    Calls Try.prog 6 #[v1, .int .i64 p, .int .u32 m] w fun e w' => e = .returned (.bool true) ∧ Below w.heap.size w w' := by
  have H1 := hid h1
  obtain ⟨a1, k1, rfl, r1⟩ := h1
  have X1 := hid r1.2.2.2.2.1
  clear r1
  obtain ⟨L1, hL1⟩ : ∃ L, xs.length = L := ⟨_, rfl⟩
  rw [hL1] at H1 l1 ⊢
  have HL1 := hid hL1
  clear hL1
  have hnot : ∀ (x : Bool) (w : World), (Op.unary .not (.bool x)).run Try.prog w = .ok (.bool (!x)) w := fun _ _ => rfl
  go_enter Try.func6, Try.ntmps6
  go_wp2_with fail
  refine (new_any w).mono ?_
  rintro e w1 ⟨rfl, hb1, hs1, ht1⟩
  have HT1 := hid ht1
  have HK1 : Hid (Kept w.heap.size w w1) := Kept.below hb1
  clear hb1 hs1 ht1
  go_wp2_with fail
  refine (seal_any w.heap.size 0 0 _ xs _ (.inl rfl) HT1.out (H1.out.kept HK1.out) (by rw [HL1.out]; omega)).mono ?_
  rintro e w2 ⟨v2, rfl, ho2, hk2, ht2⟩
  have hw1 : w.heap.size < w1.heap.size := HT1.out.1
  have HBS := hid (opn_sealed xs)
  have HBT := hid (opn_turned xs X1.out p.toNat m hm)
  have hxb : ∀ x ∈ xs ++ le4 (more 0 xs), x < 256 := by
    intro x hx
    rcases List.mem_append.1 hx with h | h
    · exact X1.out x h
    · exact le4_lt (more_lt _ _) x h
  obtain ⟨zs, hzs⟩ : ∃ zs, xs ++ le4 (more 0 xs) = zs := ⟨_, rfl⟩
  have hzl : zs.length = L1 + 4 := by rw [← hzs, List.length_append, HL1.out]; rfl
  rw [hzs] at ho2 hxb HBS HBT
  have HXB := hid hxb
  clear hxb hzs
  rw [hzl] at HBT
  have HO2 := hid ho2
  have HT2 := hid ht2
  have HK2 := hid (HK1.out.trans hk2)
  have HV2 : Hid (BySl w.heap.size w2 v2 zs) := Own.bySl ho2 hw1 (by omega) HXB.out
  clear ho2 ht2 hk2
  obtain ⟨g, cap, cur, rfl, hg1, hgc, hgl, hgm⟩ : ∃ g cap cur, v2 = .slice (some ⟨g, 0, none⟩) zs.length cap ∧ w1.heap.size ≤ g ∧ w2.heap[g]? = some (.cells cur 5 (0, 0)) ∧ zs.length ≤ cap ∧ Hid (cap ≤ maxLen) := by
    rcases HO2.out.2 with ⟨_, h⟩ | ⟨g, cap, cur, h, h1, h2, h3, h4, _⟩
    · omega
    · exact ⟨g, cap, cur, h, h1, h2, h3, h4⟩
  have hgs : g < w2.heap.size := (Array.getElem?_eq_some_iff.1 hgc).1
  have HG : Hid (Held g w2 w2 zs) := by
    refine ⟨Kept.refl _ _, rfl, fun j hj => ?_, fun j => by simp [World.frozen?, hgc]⟩
    have h1 : w2.ownsRow w1.heap.size 5 1 (.slice (some ⟨g, 0, none⟩) zs.length cap) zs.length (cl zs) := HO2.out
    rw [h1.cellAt j (by omega)]
    exact cl_at zs j hj
  have HZL := hid hzl
  rw [hzl] at HV2 hgl ⊢
  clear hgc HO2 hzl
  go_wp2_with fail
  refine (open_all w.heap.size 1 _ _ zs _ (.inr rfl) HT2.out HV2.out (by rw [HZL.out]; omega)).mono ?_
  rw [HBS.out]
  rintro e w3 ⟨hk3, ⟨f3, hf3, ht3⟩, v3, rfl, hv3⟩
  have hgb : g ≠ w.heap.size := by omega
  have HG3 := hid (HG.out.rebase hk3 hgb hgs)
  have HT3 := hid ht3
  have HK3 := hid (HK2.out.trans hk3)
  have hgs3 : g < w3.heap.size := Nat.lt_of_lt_of_le hgs hk3.size
  have HV3 := hid hv3
  obtain ⟨a3, k3, e3, r3⟩ := id hv3
  subst e3
  clear r3 hv3 hk3 ht3 HG HT2 HK2 HT1 HK1 HV2 HBS
  rw [HL1.out] at HV3 ⊢
  go_wp2_with fail
  refine (bytes_any w.heap.size _ _ xs xs _ HV3.out (H1.out.kept HK3.out)).mono ?_
  rintro e w4 ⟨rfl, hb4⟩
  rw [decide_eq_true rfl]
  have HG4 := hid (HG3.out.rebase (Kept.below (b := w.heap.size) hb4) hgb hgs3)
  have HT4 := hid (HT3.out.below hb4)
  have HK4 := hid (HK3.out.trans (Kept.below hb4))
  have hgs4 : g < w4.heap.size := Nat.lt_of_lt_of_le hgs3 hb4.size
  obtain ⟨n4, hn4⟩ : ∃ n, (if zs.length < 4 then wrap64 (0 + (xs.length : Int)) else wrap64 (wrap64 (0 + (xs.length : Int)) + (zs.length - 4 : Nat))) = n := ⟨_, rfl⟩
  rw [hn4] at HT4
  clear hb4 HG3 HT3 HK3 hn4 HV3
  by_cases hA : p < 0 ∨ 8 * (L1 : Int) < p ∨ m = 0
  · have hend : Hid (Calls Try.prog 8 #[] w4 fun e w' => e = .returned (.bool true) ∧ Hid (Below w.heap.size w w')) := by
      refine (alive_any w4).mono ?_
      rintro e w5 ⟨rfl, hb5⟩
      exact ⟨rfl, (Kept.toBelow (Below.refl _ _) HK4.out (Nat.le_refl _)).trans (hb5.mono HK4.out.size)⟩
    by_cases hp : p < 0
    · clear hA
      go_wp2_with fail
      refine hend.out.mono ?_
      rintro e w5 ⟨rfl, HB5⟩
      go_wp2_with fail
      go_ret
      exact ⟨rfl, HB5.out⟩
    · by_cases hp2 : 8 * (L1 : Int) < p
      · clear hA
        go_wp2_with fail
        refine hend.out.mono ?_
        rintro e w5 ⟨rfl, HB5⟩
        go_wp2_with fail
        go_ret
        exact ⟨rfl, HB5.out⟩
      · have hm0 : m = 0 := by omega
        subst hm0
        clear hA
        go_wp2_with fail
        refine hend.out.mono ?_
        rintro e w5 ⟨rfl, HB5⟩
        go_wp2_with fail
        go_ret
        exact ⟨rfl, HB5.out⟩
  · obtain ⟨A, rfl⟩ : ∃ A : Nat, p = A := ⟨p.toNat, by omega⟩
    have hA1 : A ≤ 8 * L1 := by omega
    have hm0 : m ≠ 0 := by omega
    have hmb : ((m : Int) == 0) = false := by simp; omega
    have HE : Hid (opn (turn zs A m 32) = (4, [])) := HBT.out hm0 (by omega)
    have HM0 := hid hm0
    clear hA HBT hm0 hp0 hp1
    go_wp2_with fail
    clear hmb
    go_loopw [11] (fun i wr => ∃ k : Nat, k ≤ 32 ∧ i = .int .i64 k ∧ Hid (Held g w4 wr (turn zs A m k))) (fun i _ => 32 - (intOf i).toNat)
    case atStart => exact ⟨0, by omega, rfl, HG4⟩
    case round =>
      obtain ⟨k, hk, rfl, H⟩ := hrel
      by_cases hlt : k < 32
      · obtain ⟨J, hJ⟩ : ∃ J, (A + k) / 8 = J := ⟨_, rfl⟩
        obtain ⟨Q, hQ⟩ : ∃ Q, (A + k) % 8 = Q := ⟨_, rfl⟩
        have hJi : ((A : Int) + (k : Int)) / 8 = (J : Int) := by omega
        have hQi : ((A : Int) + (k : Int)) % 8 = (Q : Int) := by omega
        have hJl : J < L1 + 4 := by omega
        have hQl : Q < 8 := by omega
        have hlen : (turn zs A m k).length = L1 + 4 := by rw [turn_len, HZL.out]
        have c1 := H.out.2.2.1 J (by omega)
        have f1 := H.out.2.2.2 J
        have hT : Hid (turn zs A m (k + 1) = if m.testBit k then (turn zs A m k).set J ((turn zs A m k).getD J 0 ^^^ 2 ^ Q) else turn zs A m k) := by rw [Hid, turn, flip, hJ, hQ]
        have hs := hid (fun x => H.out.set J x (by omega))
        have hcb : (turn zs A m k).getD J 0 < 256 := by
          have hi : J < (turn zs A m k).length := by omega
          have := turn_lt HXB.out A m k (turn zs A m k)[J] (List.getElem_mem hi)
          simpa [List.getElem?_eq_getElem hi] using this
        generalize turn zs A m k = ts at *
        generalize ts.getD J 0 = c at *
        have HJ := hid hJ
        have HQ := hid hQ
        clear hJ hQ hlen
        have ht1 := bit_test m k hm
        have hx1 := bit_xor c Q hcb hQl
        cases hbit : m.testBit k
        · rw [hbit] at ht1 hT
          clear hx1 hbit
          go_wp2_with fail
          refine ⟨⟨k + 1, by omega, by go_num, ?_⟩, by simp [intOf]; omega⟩
          rw [hT.out]
          exact H
        · rw [hbit] at ht1 hT
          clear hbit
          go_wp2_with fail
          refine ⟨⟨k + 1, by omega, by go_num, ?_⟩, by simp [intOf]; omega⟩
          rw [hT.out]
          exact hs.out _
      · have : k = 32 := by omega
        subst this
        go_wp2_with fail
        have HT5 : Hid (Tab wr w.heap.size f3 n4) := HT4.out.kept H.out.1 (by omega)
        have hlen : (turn zs A m 32).length = L1 + 4 := by rw [turn_len, HZL.out]
        have HV5 : Hid (BySl w.heap.size wr (.slice (some ⟨g, 0, none⟩) (L1 + 4) cap) (turn zs A m 32)) := by
          refine ⟨_, cap, by rw [hlen], by omega, hgm.out, by simp, by omega, turn_lt HXB.out A m 32, fun _ => ⟨g, 0, rfl, hgb, by rw [H.out.2.1]; exact hgs4, fun i hi => ?_⟩⟩
          rw [Nat.zero_add]
          exact H.out.2.2.1 i hi
        have hk5 : Hid (Below w.heap.size w wr) := by
          have h4 := Kept.toBelow (Below.refl _ _) HK4.out (Nat.le_refl _)
          exact h4.trans ⟨H.out.1.os, H.out.1.tape, H.out.1.output, H.out.1.size, fun i hi => H.out.1.block i (Nat.lt_of_lt_of_le hi HK4.out.size) (by omega)⟩
        have hl5 : Hid ((turn zs A m 32).length ≤ 4000) := by rw [Hid, hlen]; omega
        clear hlen
        refine (open_all w.heap.size f3 n4 _ (turn zs A m 32) _ hf3 HT5.out HV5.out hl5.out).mono ?_
        rw [HE.out]
        rintro e w6 ⟨hk6, _, v6, rfl, hv6⟩
        have HB6 : Hid (Below w.heap.size w w6) := Kept.toBelow hk5.out hk6 (Nat.le_refl _)
        obtain ⟨a6, k6, e6, r6⟩ := id hv6
        subst e6
        clear r6 hv6 hk6
        go_wp2_with fail
        refine (alive_any w6).mono ?_
        rintro e w7 ⟨rfl, hb7⟩
        have HB7 := hid hb7
        clear hb7
        go_wp2_with fail
        go_ret
        exact ⟨rfl, HB6.out.trans (HB7.out.mono HB6.out.size)⟩

set_option maxHeartbeats 400000 in
theorem bursts_other (a1 : Option Addr) (L1 k1 : Nat) (p m : Int) (w : World) (h1 : 3000 < L1) (b1 : L1 ≤ 9223372036854775807) :
    Calls Try.prog 6 #[.slice a1 L1 k1, .int .i64 p, .int .u32 m] w fun e w' => e = .returned (.bool true) ∧ Below w.heap.size w w' := by
  go_enter Try.func6, Try.ntmps6
  go_wp2_with fail
  refine (alive_any w).mono ?_
  rintro e w1 ⟨rfl, hb⟩
  have HB := hid hb
  clear hb
  go_wp2_with fail
  go_ret
  exact ⟨rfl, HB.out⟩

end Go.Proofs.Ytigjapiapgkgmaa
