/-
  Open and the reference's Open answer the same; CrcSums, walked.
-/
import Derived.Test.YtigjapiapgkgmaaRefOpen
namespace Go.Proofs.Ytigjapiapgkgmaa
open Go.RowKit

/-- What opening says: a fault's number, and bytes. -/
def opn (bs : List Nat) : Int × List Nat :=
  if bs.length < 4 then (3, []) else if le4 (more 0 (bs.take (bs.length - 4))) = bs.drop (bs.length - 4) then (0, bs.take (bs.length - 4)) else (4, [])

theorem four (ys : List Nat) (h : ys.length = 4) : ∃ y0 y1 y2 y3, ys = [y0, y1, y2, y3] := by
  match ys, h with
  | [y0, y1, y2, y3], _ => exact ⟨y0, y1, y2, y3, rfl⟩

theorem open_all (b f : Nat) (n : Int) (v : Value) (bs : List Nat) (w : World) (hf : f = 0 ∨ f = 1) (ht : Tab w b f n) (h : BySl b w v bs) (hl : bs.length ≤ 4000) :
    Calls Try.prog 10 #[.pointer (some ⟨b, 0, none⟩), v] w fun e w' => Kept b w w' ∧ (∃ f', (f' = 0 ∨ f' = 1) ∧ Tab w' b f' (if bs.length < 4 then n else wrap64 (n + (bs.length - 4 : Nat)))) ∧
      ∃ v', e = .returned (.tuple #[v', .int .i64 (opn bs).1]) ∧ BySl b w' v' (opn bs).2 := by
  by_cases hs : bs.length < 4
  · refine (open_short b v bs w h hs).mono ?_
    rintro e w' ⟨rfl, rfl⟩
    rw [opn, if_pos hs, if_pos hs]
    exact ⟨Kept.refl _ _, ⟨f, hf, ht⟩, _, rfl, BySl.none _ _⟩
  · obtain ⟨y0, y1, y2, y3, hy⟩ := four (bs.drop (bs.length - 4)) (by rw [List.length_drop]; omega)
    have e : bs = bs.take (bs.length - 4) ++ [y0, y1, y2, y3] := by rw [← hy, List.take_append_drop]
    have hx : (bs.take (bs.length - 4)).length = bs.length - 4 := List.length_take_of_le (by omega)
    rw [opn, if_neg hs, if_neg hs, hy]
    generalize bs.take (bs.length - 4) = xs at *
    refine (open_any b f n v xs y0 y1 y2 y3 w hf ht (by rw [← e]; exact h) (by omega)).mono ?_
    rintro e w' ⟨hk, ht', v', q, rfl, ⟨h1, rfl, h3⟩ | ⟨h1, rfl, rfl⟩⟩
    · rw [if_pos h1, ← hx]
      exact ⟨hk, ⟨1, .inr rfl, ht'⟩, _, rfl, h3⟩
    · rw [if_neg h1, ← hx]
      exact ⟨hk, ⟨1, .inr rfl, ht'⟩, _, rfl, BySl.none _ _⟩

theorem refOpen_all (b : Nat) (v : Value) (bs : List Nat) (w : World) (hb : b < w.heap.size) (h : BySl b w v bs) (hl : bs.length ≤ 4000) :
    Calls Try.prog 11 #[v] w fun e w' => Below w.heap.size w w' ∧ ∃ v', e = .returned (.tuple #[v', .int .i64 (opn bs).1]) ∧ BySl b w' v' (opn bs).2 := by
  by_cases hs : bs.length < 4
  · refine (refOpen_short b v bs w h hs).mono ?_
    rintro e w' ⟨rfl, rfl⟩
    rw [opn, if_pos hs]
    exact ⟨Below.refl _ _, _, rfl, BySl.none _ _⟩
  · have hy : (bs.drop (bs.length - 4)).length = 4 := by rw [List.length_drop]; omega
    have e : bs = bs.take (bs.length - 4) ++ bs.drop (bs.length - 4) := (List.take_append_drop _ _).symm
    have hx : (bs.take (bs.length - 4)).length = bs.length - 4 := List.length_take_of_le (by omega)
    rw [opn, if_neg hs]
    generalize bs.take (bs.length - 4) = xs at *
    generalize bs.drop (bs.length - 4) = ys at *
    refine (refOpen_any b v xs ys w hb (by rw [← e]; exact h) hy (by omega)).mono ?_
    rintro e w' ⟨hk, v', q, rfl, ⟨h1, rfl, h3⟩ | ⟨h1, rfl, rfl⟩⟩
    · rw [if_pos h1]
      exact ⟨hk, _, rfl, h3⟩
    · rw [if_neg h1]
      exact ⟨hk, _, rfl, BySl.none _ _⟩

set_option maxHeartbeats 2000000 in
set_option maxRecDepth 100000 in
theorem sums_walk (s : Nat) (v1 v2 : Value) (xs ys : List Nat) (w : World) (h1 : BySl w.heap.size w v1 xs) (h2 : BySl w.heap.size w v2 ys) (l1 : xs.length ≤ 3000) (l2 : ys.length ≤ 3000) (hs : s < 4294967296) :
    Calls Try.prog 3 #[.int .u32 s, v1, v2] w fun e w' => e = .returned (.bool true) ∧ Below w.heap.size w w' := by
  have H1 := hid h1
  have H2 := hid h2
  obtain ⟨a1, k1, rfl, r1⟩ := h1
  obtain ⟨a2, k2, rfl, r2⟩ := h2
  have X1 := hid r1.2.2.2.2.1
  clear r1 r2
  obtain ⟨L1, hL1⟩ : ∃ L, xs.length = L := ⟨_, rfl⟩
  obtain ⟨L2, hL2⟩ : ∃ L, ys.length = L := ⟨_, rfl⟩
  rw [hL1] at H1 l1 ⊢
  rw [hL2] at H2 l2 ⊢
  have HL1 := hid hL1
  have HL2 := hid hL2
  clear hL1 hL2
  go_enter Try.func3, Try.ntmps3
  go_wp2_with fail
  refine (new_any w).mono ?_
  rintro e w1 ⟨rfl, hb1, hs1, ht1⟩
  have HT1 := hid ht1
  have HK1 : Hid (Kept w.heap.size w w1) := Kept.below hb1
  clear hb1 hs1 ht1
  go_wp2_with fail
  refine (open_all w.heap.size 0 0 _ ys _ (.inl rfl) HT1.out (H2.out.kept HK1.out) (by rw [HL2.out]; omega)).mono ?_
  rintro e w2 ⟨hk2, ⟨f2, hf2, ht2⟩, vx, rfl, hx2⟩
  have HT2 := hid ht2
  have HK2 := hid (HK1.out.trans hk2)
  obtain ⟨ax, kx, ex, rx⟩ := id hx2
  have HX := hid hx2
  subst ex
  clear hk2 ht2 hx2 rx
  go_wp2_with fail
  refine (refOpen_all w.heap.size _ ys _ HT2.out.1 (H2.out.kept HK2.out) (by rw [HL2.out]; omega)).mono ?_
  rintro e w3 ⟨hb3, vy, rfl, hy3⟩
  have HT3 := hid (HT2.out.below hb3)
  have HX3 := hid (HX.out.kept (Kept.below hb3))
  have HK3 := hid (HK2.out.trans (Kept.below hb3))
  obtain ⟨ay, ky, ey, ry⟩ := id hy3
  have HY3 := hid hy3
  subst ey
  clear hb3 hy3 ry HX HT2 HT1 HK1 HK2
  obtain ⟨n2, hn2⟩ : ∃ n, (if ys.length < 4 then (0 : Int) else wrap64 (0 + (ys.length - 4 : Nat))) = n := ⟨_, rfl⟩
  rw [hn2] at HT3
  clear hn2
  obtain ⟨OL, hOL⟩ : ∃ O, (opn ys).2.length = O := ⟨_, rfl⟩
  obtain ⟨OC, hOC⟩ : ∃ O, (opn ys).1 = O := ⟨_, rfl⟩
  rw [hOL] at HX3 HY3 ⊢
  rw [hOC]
  clear hOL hOC
  go_wp2_with fail
  refine (sum_any w.heap.size f2 n2 _ xs _ hf2 HT3.out (H1.out.kept HK3.out)).mono ?_
  rintro e w4 ⟨rfl, hk4, ht4⟩
  have HT4 := hid ht4
  have HX4 := hid (HX3.out.kept hk4)
  have HY4 := hid (HY3.out.kept hk4)
  have HK4 := hid (HK3.out.trans hk4)
  clear hk4 ht4 HX3 HY3 HK3 HT3
  obtain ⟨S1, hS1⟩ : ∃ S, more 0 xs = S := ⟨_, rfl⟩
  have HS1 := hid hS1
  rw [hS1]
  clear hS1
  go_wp2_with fail
  refine (refSum_any w.heap.size _ xs _ (H1.out.kept HK4.out)).mono ?_
  rw [HS1.out]
  rintro e w5 ⟨rfl, hw5⟩
  subst w5
  go_wp2_with fail
  refine (more_any w.heap.size 1 _ s hs _ xs _ (.inr rfl) HT4.out (H1.out.kept HK4.out)).mono ?_
  rintro e w6 ⟨rfl, hk6, ht6⟩
  have HT6 := hid ht6
  have HX6 := hid (HX4.out.kept hk6)
  have HY6 := hid (HY4.out.kept hk6)
  have HK6 := hid (HK4.out.trans hk6)
  clear hk6 ht6 HX4 HY4 HK4 HT4
  obtain ⟨S2, hS2⟩ : ∃ S, more s xs = S := ⟨_, rfl⟩
  have HS2 := hid hS2
  rw [hS2]
  clear hS2
  go_wp2_with fail
  refine (refMore_any w.heap.size s hs _ xs _ (H1.out.kept HK6.out)).mono ?_
  rw [HS2.out]
  rintro e w7 ⟨rfl, hw7⟩
  subst w7
  go_wp2_with fail
  refine (seal_any w.heap.size 1 _ _ xs _ (.inr rfl) HT6.out (H1.out.kept HK6.out) (by rw [HL1.out]; omega)).mono ?_
  rintro e w8 ⟨v8, rfl, ho8, hk8, ht8⟩
  rw [HS1.out] at ho8
  have hw6 : w.heap.size < w6.heap.size := HT6.out.1
  have hxl : (xs ++ le4 S1).length ≤ 100000 := by have := HL1.out; simp [le4_len]; omega
  have hxb : ∀ x ∈ xs ++ le4 S1, x < 256 := by
    intro x hx
    rcases List.mem_append.1 hx with h | h
    · exact X1.out x h
    · exact le4_lt (by rw [← HS1.out]; exact more_lt _ _) x h
  have HXL := hid hxl
  have HXB := hid hxb
  clear hxl hxb
  have HV8 := hid (Own.bySl ho8 hw6 HXL.out HXB.out)
  have HT8 := hid ht8
  have HX8 := hid (HX6.out.kept hk8)
  have HY8 := hid (HY6.out.kept hk8)
  have HK8 := hid (HK6.out.trans hk8)
  obtain ⟨a8, k8, e8, r8⟩ := id HV8.out
  subst e8
  clear ho8 hk8 ht8 r8 HX6 HY6 HK6 HT6
  obtain ⟨L8, hL8⟩ : ∃ L, (xs ++ le4 S1).length = L := ⟨_, rfl⟩
  rw [hL8] at HV8 ⊢
  have HL8 := hid hL8
  clear hL8
  go_wp2_with fail
  refine (refSeal_any w.heap.size _ xs _ HT8.out.1 (H1.out.kept HK8.out) (by rw [HL1.out]; omega)).mono ?_
  rw [HS1.out]
  rintro e w9 ⟨v9, rfl, ho9, hb9⟩
  have HV9 := hid (Own.bySl ho9 HT8.out.1 HXL.out HXB.out)
  have HV9' := hid (HV8.out.kept (Kept.below hb9))
  have HX9 := hid (HX8.out.kept (Kept.below hb9))
  have HY9 := hid (HY8.out.kept (Kept.below hb9))
  have HK9 := hid (HK8.out.trans (Kept.below hb9))
  obtain ⟨a9, k9, e9, r9⟩ := id HV9.out
  subst e9
  clear ho9 hb9 r9 HX8 HY8 HK8 HT8
  rw [HL8.out] at HV9 ⊢
  go_wp2_with fail
  refine (bytes_any w.heap.size _ _ _ _ _ HV9'.out HV9.out).mono ?_
  rintro e w10 ⟨rfl, hb10⟩
  have HX10 := hid (HX9.out.kept (Kept.below hb10))
  have HY10 := hid (HY9.out.kept (Kept.below hb10))
  have HK10 := hid (HK9.out.trans (Kept.below hb10))
  rw [decide_eq_true rfl]
  clear hb10
  go_wp2_with fail
  refine (bytes_any w.heap.size _ _ _ _ _ HX10.out HY10.out).mono ?_
  rintro e w11 ⟨rfl, hb11⟩
  have HK11 := hid (HK10.out.trans (Kept.below hb11))
  rw [decide_eq_true rfl]
  clear hb11
  go_wp2_with fail
  refine (alive_any w11).mono ?_
  rintro e w12 ⟨rfl, hb12⟩
  have HB12 := hid hb12
  clear hb12
  go_wp2_with fail
  go_ret
  exact ⟨rfl, (Kept.toBelow (Below.refl _ _) HK11.out (Nat.le_refl _)).trans (HB12.out.mono HK11.out.size)⟩

set_option maxHeartbeats 400000 in
theorem sums_other (v1 v2 : Value) (a1 a2 : Option Addr) (L1 L2 k1 k2 : Nat) (s : Int) (w : World) (e1 : v1 = .slice a1 L1 k1) (e2 : v2 = .slice a2 L2 k2) (h : 3000 < L1 ∨ 3000 < L2) (b1 : L1 ≤ 9223372036854775807) (b2 : L2 ≤ 9223372036854775807) :
    Calls Try.prog 3 #[.int .u32 s, v1, v2] w fun e w' => e = .returned (.bool true) ∧ Below w.heap.size w w' := by
  subst e1 e2
  by_cases h1 : 3000 < L1
  · clear h
    go_enter Try.func3, Try.ntmps3
    go_wp2_with fail
    refine (alive_any w).mono ?_
    rintro e w1 ⟨rfl, hb⟩
    have HB := hid hb
    clear hb
    go_wp2_with fail
    go_ret
    exact ⟨rfl, HB.out⟩
  · have h2 : 3000 < L2 := by omega
    clear h
    go_enter Try.func3, Try.ntmps3
    go_wp2_with fail
    refine (alive_any w).mono ?_
    rintro e w1 ⟨rfl, hb⟩
    have HB := hid hb
    clear hb
    go_wp2_with fail
    go_ret
    exact ⟨rfl, HB.out⟩

end Go.Proofs.Ytigjapiapgkgmaa
