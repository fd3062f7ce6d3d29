/-
  What the reference's Open does.
-/
import Derived.Test.YtigjapiapgkgmaaOpen
namespace Go.Proofs.Ytigjapiapgkgmaa
open Go.RowKit

set_option maxHeartbeats 400000 in
theorem refOpen_short (b : Nat) (v : Value) (bs : List Nat) (w : World) (h : BySl b w v bs) (hl : bs.length < 4) :
    Calls Try.prog 11 #[v] w fun e w' => e = .returned (.tuple #[.slice none 0 0, .int .i64 3]) ∧ w' = w := by
  obtain ⟨a, cap, rfl, r⟩ := h
  clear r
  go_enter Try.func11, Try.ntmps11
  go_wp2_with fail
  go_ret2
  exact ⟨rfl, rfl⟩

set_option maxHeartbeats 2000000 in
set_option maxRecDepth 100000 in
theorem refOpen_any (b : Nat) (v : Value) (xs ys : List Nat) (w : World) (hb : b < w.heap.size) (h : BySl b w v (xs ++ ys)) (hy : ys.length = 4) (hl : xs.length ≤ 4000) :
    Calls Try.prog 11 #[v] w fun e w' => Below w.heap.size w w' ∧
      ∃ v' q, e = .returned (.tuple #[v', .int .i64 q]) ∧ ((le4 (more 0 xs) = ys ∧ q = 0 ∧ BySl b w' v' xs) ∨ (le4 (more 0 xs) ≠ ys ∧ q = 4 ∧ v' = .slice none 0 0)) := by
  have H := hid h
  obtain ⟨a, cap, rfl, h2, h3, h4, h5, h6, h7⟩ := h
  have hN : (xs ++ ys).length = xs.length + 4 := by rw [List.length_append, hy]
  have H1 : Hid (BySl b w (.slice a xs.length cap) xs) := by
    have := BySl.take H.out (k := xs.length) (by omega)
    rw [List.take_left' rfl] at this
    exact this
  obtain ⟨g, o, rfl, hgb, hg, hc⟩ := h7 (by intro e; rw [e] at hN; simp at hN)
  have HX6 := hid h6
  rw [hN] at H h2 ⊢
  obtain ⟨N, hN2⟩ : ∃ N, xs.length = N := ⟨_, rfl⟩
  have HN := hid hN2
  rw [hN2] at hN H h2 hl H1 ⊢
  have HC := hid hc
  have HNN := hid hN
  have HY := hid hy
  clear hN2 hc h7 h6 h4 h5 hN hy
  unfold maxLen at h3
  go_enter Try.func11, Try.ntmps11
  go_wp2_with fail
  refine (refSeal_any b _ xs _ hb H1.out (by rw [HN.out]; exact hl)).mono ?_
  rintro e w1 ⟨v1, rfl, hown, hbel⟩
  have hbz := hbel.size
  have HX : Hid (BySl b w1 v1 (xs ++ le4 (more 0 xs))) := Own.bySl hown hb (by have := HN.out; simp [le4_len]; omega) (by
    intro x hx
    rcases List.mem_append.1 hx with h | h
    · exact HX6.out x (List.mem_append_left _ h)
    · exact le4_lt (more_lt _ _) x h)
  obtain ⟨zs, hz⟩ : ∃ zs, le4 (more 0 xs) = zs := ⟨_, rfl⟩
  have hzl : zs.length = 4 := by rw [← hz]; rfl
  rw [hz] at HX
  have HZ := hid hz
  have HB := hid hbel
  clear hown hbel hz
  have hNz : (xs ++ zs).length = N + 4 := by rw [List.length_append, hzl, HN.out]
  obtain ⟨a1, k1, e1, r2, r3, r4, r5, r6, r7⟩ := id HX.out
  subst e1
  rw [hNz] at r2
  obtain ⟨g1, o1, rfl, hg1b, hg1, hc1⟩ := r7 (by intro e; rw [e] at hNz; simp at hNz)
  have HC1 := hid hc1
  have HNZ := hid hNz
  have HC' : Hid (∀ i, i < (xs ++ ys).length → w1.cell? ⟨g, o + i, none⟩ = some (.int .u8 ((xs ++ ys).getD i 0 : Nat))) := fun i hi => (HB.out.cell (p := ⟨g, o + i, none⟩) hg).trans (HC.out i hi)
  rw [hNz] at HX ⊢
  have HZL := hid hzl
  clear r7 r6 r5 r4 hc1 HC hNz hzl
  unfold maxLen at r3
  go_wp2_with fail
  go_loopw [6] (fun i wr => ∃ k : Nat, N ≤ k ∧ k ≤ N + 4 ∧ i = .int .i64 k ∧ Hid ((xs ++ zs).take k = (xs ++ ys).take k) ∧ ∃ q, wr = w1.drewN q) (fun i _ => N + 4 - (intOf i).toNat)
  case atStart => exact ⟨N, Nat.le_refl _, by omega, rfl, by rw [Hid, List.take_left' HN.out, List.take_left' HN.out], 0, rfl⟩
  case round =>
    obtain ⟨k, hk0, hk, rfl, ht, q, rfl⟩ := hrel
    by_cases hlt : k < N + 4
    · have c1 := HC1.out k (by rw [HNZ.out]; exact hlt)
      have c2 := HC'.out k (by rw [HNN.out]; exact hlt)
      have e1 : Hid ((xs ++ zs).take (k + 1) = (xs ++ zs).take k ++ [(xs ++ zs).getD k 0]) := by
        have hi : k < (xs ++ zs).length := by rw [HNZ.out]; exact hlt
        rw [Hid, List.take_succ_eq_append_getElem hi, List.getD_eq_getElem?_getD, List.getElem?_eq_getElem hi]; rfl
      have e2 : Hid ((xs ++ ys).take (k + 1) = (xs ++ ys).take k ++ [(xs ++ ys).getD k 0]) := by
        have hi : k < (xs ++ ys).length := by rw [HNN.out]; exact hlt
        rw [Hid, List.take_succ_eq_append_getElem hi, List.getD_eq_getElem?_getD, List.getElem?_eq_getElem hi]; rfl
      generalize (xs ++ zs).getD k 0 = x at c1 e1
      generalize (xs ++ ys).getD k 0 = y at c2 e2
      have hlt' : k < N + 4 := hlt
      by_cases hxy : x = y
      · subst hxy
        go_wp2_with fail
        go_quiet (fail)
        go_wp2
        go_roundw
        case rel => exact ⟨k + 1, by omega, by omega, by go_num, by rw [Hid, e1.out, e2.out, ht.out], _, rfl⟩
        case measure => simp [intOf]; omega
      · have hb : ((x : Int) != (y : Int)) = true := by simp; omega
        go_wp2_with fail
        go_quiet (fail)
        go_wp2
        go_ret2
        refine ⟨below_drewN (below_drewN HB.out _) _, _, _, rfl, .inr ⟨?_, rfl, rfl⟩⟩
        rw [HZ.out]
        intro e
        apply hxy
        have h1 := e1.out
        rw [e, e2.out] at h1
        have := (List.append_inj' h1 rfl).2
        simpa using this.symm
    · go_wp2
      go_ret2
      refine ⟨below_drewN HB.out _, _, _, rfl, .inl ⟨?_, rfl, ?_⟩⟩
      · rw [HZ.out]
        have h1 := ht.out
        rw [List.take_of_length_le (by rw [HNZ.out]; omega), List.take_of_length_le (by rw [HNN.out]; omega)] at h1
        exact List.append_cancel_left h1
      · have := BySl.take (k := N) (bs := xs ++ zs) (b := b) (w := w1) (a := some ⟨g1, o1, none⟩) (cap := k1) (by rw [HNZ.out]; exact HX.out) (by rw [HNZ.out]; omega)
        rw [List.take_left' HN.out] at this
        exact this.kept ((Kept.refl _ _).drewN _)

end Go.Proofs.Ytigjapiapgkgmaa
