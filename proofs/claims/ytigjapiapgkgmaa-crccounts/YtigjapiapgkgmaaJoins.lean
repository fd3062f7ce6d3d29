/-
  CrcJoins, walked: the sum of two parts by their sums is that of both, and noughts are what they are.
-/
import Derived.Test.YtigjapiapgkgmaaApp
import Derived.Test.YtigjapiapgkgmaaPower
namespace Go.Proofs.Ytigjapiapgkgmaa
open Go.RowKit

theorem more_zeros (s n : Nat) : more s (List.replicate n 0) = nt (stps (8 * n) (nt s)) := by rw [more, reg_zeros]

theorem made_cl (m : Nat) : (madeCells (Value.int .u8 0).cells (m * 1)).toList = cl (List.replicate m 0) := by
  apply List.ext_getElem?
  intro i
  simp only [madeCells, cl, Value.cells, Nat.mul_one]
  by_cases h : i < m
  · simp [h, Nat.mod_one]
  · simp [h]

/-- make([]byte, m). -/
theorem make_bytes {ops : Array Oper} {rest : List Oper} {o : Oper} {a : Act} {Q : Exit → Act → World → Prop} (w : World) (hgd : o.guard = none) (l c : Operand) (hop : o.op = Op.makeSlice 23 l c)
    (L C : Int) (m : Nat) (hl : a.eval l = .int .i64 L) (hc : a.eval c = .int .i64 C) (hL : L = (m : Int)) (hC : C = (m : Int)) (hm : m ≤ 100000)
    (hK : ∀ w', Own w' w.heap.size (.slice (some ⟨w.heap.size, 0, none⟩) m m) (List.replicate m 0) → Below w.heap.size w w' → wpList Try.prog ops Q rest (a.put o.dst (.slice (some ⟨w.heap.size, 0, none⟩) m m)) w') :
    wpList Try.prog ops Q (o :: rest) a w := by
  obtain ⟨i0, hi, hz0, hz1, hz2⟩ := info_parts Try.info5
  refine wpList_make_full w hgd l c 23 hop w.heap.size 5 i0 (.int .u8 0) 1 Try.underlying23 hi hz0 hz1 .i64 .i64 L C m hl hc hL hC (by rw [hz2]; omega) (by unfold maxLen; omega) (Nat.le_refl _) ?_
  intro w' h1 h2
  refine hK w' ?_ ((Below.refl _ w).grown h2 (Nat.le_refl _) (by intro k hk; cases hk))
  unfold Own
  rw [made_cl] at h1
  rw [List.length_replicate]
  exact h1

set_option maxHeartbeats 2000000 in
set_option maxRecDepth 100000 in
theorem joins_walk (v1 v2 : Value) (xs ys : List Nat) (s : Nat) (n : Int) (w : World) (h1 : BySl w.heap.size w v1 xs) (h2 : BySl w.heap.size w v2 ys) (l1 : xs.length ≤ 3000) (l2 : ys.length ≤ 3000)
    (hs : s < 4294967296) (hn0 : -9223372036854775808 ≤ n) (hn1 : n ≤ 9223372036854775807) :
    Calls Try.prog 4 #[v1, v2, .int .u32 s, .int .i64 n] w fun e w' => e = .returned (.bool true) ∧ Below w.heap.size w w' := by
  have H1 := hid h1
  have H2 := hid h2
  obtain ⟨a1, k1, rfl, r1⟩ := h1
  obtain ⟨a2, k2, rfl, r2⟩ := h2
  have X1 := hid r1.2.2.2.2.1
  have X2 := hid r2.2.2.2.2.1
  clear r1 r2
  obtain ⟨L1, hL1⟩ : ∃ L, xs.length = L := ⟨_, rfl⟩
  obtain ⟨L2, hL2⟩ : ∃ L, ys.length = L := ⟨_, rfl⟩
  rw [hL1] at H1 l1 ⊢
  rw [hL2] at H2 l2 ⊢
  have HL1 := hid hL1
  have HL2 := hid hL2
  clear hL1 hL2
  go_enter Try.func4, Try.ntmps4
  go_wp2_with fail
  refine (new_any w).mono ?_
  rintro e w1 ⟨rfl, hb1, hs1, ht1⟩
  have HB1 := hid hb1
  have HS1 := hid hs1
  have HT1 := hid ht1
  clear hb1 hs1 ht1
  have HK1 : Hid (Kept w.heap.size w w1) := Kept.below HB1.out
  go_wp2_with fail
  refine (sum_any w.heap.size 0 0 _ xs _ (.inl rfl) HT1.out (H1.out.kept HK1.out)).mono ?_
  rintro e w2 ⟨rfl, hk2, ht2⟩
  have HK2 := hid (HK1.out.trans hk2)
  have HT2 := hid ht2
  clear hk2 ht2
  obtain ⟨S1, hS1⟩ : ∃ S, more 0 xs = S := ⟨_, rfl⟩
  have HS1' := hid hS1
  rw [hS1]
  clear hS1
  go_wp2_with fail
  refine (sum_any w.heap.size 1 _ _ ys _ (.inr rfl) HT2.out (H2.out.kept HK2.out)).mono ?_
  rintro e w3 ⟨rfl, hk3, ht3⟩
  have HK3 := hid (HK2.out.trans hk3)
  have HT3 := hid ht3
  clear hk3 ht3
  obtain ⟨S2, hS2⟩ : ∃ S, more 0 ys = S := ⟨_, rfl⟩
  have HS2' := hid hS2
  rw [hS2]
  clear hS2
  go_wp2_with fail
  refine (join_any _ S1 S2 L2 (by rw [← HS1'.out]; exact more_lt _ _) (by rw [← HS2'.out]; exact more_lt _ _) (by omega) (by omega) _).mono ?_
  rintro e w4 ⟨rfl, hw4⟩
  subst w4
  have hj : Hid (stps (8 * (L2 : Int).toNat) S1 ^^^ S2 = more 0 (xs ++ ys)) := by
    rw [Hid, ← HS2'.out, show (L2 : Int).toNat = ys.length by have := HL2.out; omega, join_more (by rw [← HS1'.out]; exact more_lt _ _) ys X2.out, ← HS1'.out, more_more 0 xs ys X1.out]
  rw [hj.out]
  have hb3 : w.heap.size < w3.heap.size := HT3.out.1
  have HB3 : Hid (Below w.heap.size w w3) := Kept.toBelow (Below.refl _ _) HK3.out (Nat.le_refl _)
  go_wp2_with (at_builtin; first | (refine app_bytes _ rfl _ _ rfl w3.heap.size w.heap.size _ _ [] xs rfl rfl (own_empty w3) (H1.out.kept (HK3.out.alloc _)) (by have := HL1.out; simp; omega) (by simp) ?_; intro v' w4 hown4 hbel4) | (refine app_bytes _ rfl _ _ rfl w3.heap.size w.heap.size _ _ ([] ++ xs) ys rfl rfl hown4 (H2.out.kept (Kept.below ((HB3.out.alloc (Nat.le_of_lt hb3) _).trans (hbel4.mono (Nat.le_of_lt hb3))))) (by have := HL1.out; have := HL2.out; simp; omega) (by have := hbel4.size; simp at this; omega) ?_; intro v'' w5 hown5 hbel5))
  have HB5 : Hid (Below w3.heap.size w3 w5) := (((Below.refl _ w3).alloc (Nat.le_refl _) _).trans hbel4).trans hbel5
  have hxy : Hid (BySl w.heap.size w5 v'' (xs ++ ys)) := Own.bySl (by simpa using hown5) hb3 (by have := HL1.out; have := HL2.out; simp; omega) (by
    intro x hx
    rcases List.mem_append.1 hx with h | h
    · exact X1.out x h
    · exact X2.out x h)
  have HT5 := hid (HT3.out.below HB5.out)
  have HB5' : Hid (Below w.heap.size w w5) := HB3.out.trans (HB5.out.mono (Nat.le_of_lt hb3))
  clear hown4 hbel4 hown5 hbel5 HB5 HK3 HT3
  obtain ⟨a5, k5, e5, r5⟩ := id hxy.out
  clear r5
  subst e5
  refine (refSum_any w.heap.size _ (xs ++ ys) _ hxy.out).mono ?_
  rintro e w6 ⟨rfl, hw6⟩
  subst w6
  have hb5 : w.heap.size < w5.heap.size := HT5.out.1
  by_cases hbig : 3000 < n
  · go_wp2_with fail
    refine (alive_any w5).mono ?_
    rintro e w7 ⟨rfl, hb7⟩
    have HB7 := hid hb7
    clear hb7
    go_wp2_with fail
    go_ret
    exact ⟨rfl, HB5'.out.trans (HB7.out.mono (Nat.le_of_lt hb5))⟩
  · by_cases hneg : n < 0
    · go_wp2_with (at_make; refine make_bytes w5 rfl _ _ rfl _ _ 0 rfl rfl rfl rfl (by omega) ?_; intro w6 hown6 hbel6)
      have HB6 := hid hbel6
      have H6 : Hid (BySl w.heap.size w6 (.slice (some ⟨w5.heap.size, 0, none⟩) 0 0) []) := Own.bySl hown6 hb5 (by simp) (by simp)
      clear hown6 hbel6
      have ez : nt (stps (8 * n.toNat) (nt s)) = s := by rw [show n.toNat = 0 by omega, Nat.mul_zero, stps_nought, nt_nt hs]
      refine (zeros_any ⟨w.heap.size, 0, none⟩ s n hs hn1 _).mono ?_
      rw [ez]
      rintro e w7 ⟨rfl, hw7⟩
      subst w7
      go_wp2_with fail
      refine (refMore_any w.heap.size s hs _ [] _ H6.out).mono ?_
      rw [show more s [] = s from nt_nt hs]
      rintro e w7 ⟨rfl, hw7⟩
      subst w7
      go_wp2_with fail
      refine (join_none _ _ _ n hneg _).mono ?_
      rintro e w7 ⟨rfl, hw7⟩
      subst w7
      go_wp2_with fail
      refine (alive_any w6).mono ?_
      rintro e w7 ⟨rfl, hb7⟩
      have HB7 := hid hb7
      clear hb7
      go_wp2_with fail
      go_ret
      exact ⟨rfl, (HB5'.out.trans (HB6.out.mono (Nat.le_of_lt hb5))).trans (HB7.out.mono (by have := HB6.out.size; omega))⟩
    · obtain ⟨m, rfl⟩ : ∃ m : Nat, n = m := ⟨n.toNat, by omega⟩
      go_wp2_with (at_make; refine make_bytes w5 rfl _ _ rfl _ _ m rfl rfl rfl rfl (by omega) ?_; intro w6 hown6 hbel6)
      have HB6 := hid hbel6
      have H6 : Hid (BySl w.heap.size w6 (.slice (some ⟨w5.heap.size, 0, none⟩) m m) (List.replicate m 0)) := Own.bySl hown6 hb5 (by simp; omega) (by intro x hx; rw [List.eq_of_mem_replicate hx]; decide)
      clear hown6 hbel6
      refine (zeros_any ⟨w.heap.size, 0, none⟩ s m hs hn1 _).mono ?_
      rw [show (m : Int).toNat = m by omega, ← more_zeros]
      rintro e w7 ⟨rfl, hw7⟩
      subst w7
      obtain ⟨Z, hZ⟩ : ∃ Z, more s (List.replicate m 0) = Z := ⟨_, rfl⟩
      have HZ := hid hZ
      rw [hZ]
      clear hZ
      go_wp2_with fail
      refine (refMore_any w.heap.size s hs _ (List.replicate m 0) _ H6.out).mono ?_
      rw [HZ.out]
      rintro e w7 ⟨rfl, hw7⟩
      subst w7
      go_wp2_with fail
      refine (alive_any w6).mono ?_
      rintro e w7 ⟨rfl, hb7⟩
      have HB7 := hid hb7
      clear hb7
      go_wp2_with fail
      go_ret
      exact ⟨rfl, (HB5'.out.trans (HB6.out.mono (Nat.le_of_lt hb5))).trans (HB7.out.mono (by have := HB6.out.size; omega))⟩

set_option maxHeartbeats 400000 in
theorem joins_other (v1 v2 : Value) (a1 a2 : Option Addr) (L1 L2 k1 k2 : Nat) (s n : Int) (w : World) (e1 : v1 = .slice a1 L1 k1) (e2 : v2 = .slice a2 L2 k2) (h : 3000 < L1 ∨ 3000 < L2) (b1 : L1 ≤ 9223372036854775807) (b2 : L2 ≤ 9223372036854775807) :
    Calls Try.prog 4 #[v1, v2, .int .u32 s, .int .i64 n] w fun e w' => e = .returned (.bool true) ∧ Below w.heap.size w w' := by
  subst e1 e2
  by_cases h1 : 3000 < L1
  · clear h
    go_enter Try.func4, Try.ntmps4
    go_wp2_with fail
    refine (alive_any w).mono ?_
    rintro e w1 ⟨rfl, hb⟩
    have HB := hid hb
    clear hb
    go_wp2_with fail
    go_ret
    exact ⟨rfl, HB.out⟩
  · have h2 : 3000 < L2 := by omega
    clear h
    go_enter Try.func4, Try.ntmps4
    go_wp2_with fail
    refine (alive_any w).mono ?_
    rintro e w1 ⟨rfl, hb⟩
    have HB := hid hb
    clear hb
    go_wp2_with fail
    go_ret
    exact ⟨rfl, HB.out⟩

end Go.Proofs.Ytigjapiapgkgmaa
