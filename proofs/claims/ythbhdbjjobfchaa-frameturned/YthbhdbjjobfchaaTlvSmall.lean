/-
  What the small functions of tlv that make values do, and the reference's Bytes.
-/
import Derived.Test.YthbhdbjjobfchaaTlvBase
namespace Go.Proofs.Ythbhdbjjobfchaa.Tlv
open Go.RowKit

theorem Agree.set4 {L B b : Nat} (w : World) (hp : b < L ∨ B ≤ b) (u0 u1 u2 u3 : Value) {o0 o1 o2 o3 : Nat} : Agree L B w ((((w.setCell ⟨b, o0, none⟩ u0).setCell ⟨b, o1, none⟩ u1).setCell ⟨b, o2, none⟩ u2).setCell ⟨b, o3, none⟩ u3) :=
  ((((Agree.refl L B w).setCell hp _).setCell hp _).setCell hp _).setCell hp _

theorem bset4 {B b : Nat} {w : World} (hp : B ≤ b) (u0 u1 u2 u3 : Value) {o0 o1 o2 o3 : Nat} : Below B w ((((w.setCell ⟨b, o0, none⟩ u0).setCell ⟨b, o1, none⟩ u1).setCell ⟨b, o2, none⟩ u2).setCell ⟨b, o3, none⟩ u3) :=
  ((((Below.refl B w).setCell hp _).setCell hp _).setCell hp _).setCell hp _

set_option maxHeartbeats 400000 in
theorem bytes_any (v : Value) (bs : List Int) (w : World) (h : BySl 0 w.heap.size w v bs) :
    Calls Try.prog 44 #[v] w fun e w' => ∃ v', e = .returned (.agg #[.int .i64 2, .int .u64 0, v', .slice none 0 0]) ∧ BySl w.heap.size w'.heap.size w' v' bs ∧ Below w.heap.size w w' := by
  obtain ⟨a, cap, rfl, hr⟩ := id h
  clear hr
  have H : Hid (BySl 0 w.heap.size w (.slice a bs.length cap) bs) := h
  clear h
  go_enter Try.func44, Try.ntmps44
  go_wp2_with fail
  refine (clone_bytes _ bs _ (H.out.agree ((Agree.refl _ _ _).alloc (Nat.le_refl _) _) (Nat.le_refl _) (by simp))).mono ?_
  rintro e w1 ⟨v', rfl, hv, hb⟩
  obtain ⟨a', cap', rfl, hr'⟩ := id hv
  clear hr'
  have hz : w.heap.size < w1.heap.size := by have := hb.size; simp at this; omega
  have Hv := hid hv
  have Hb := hid hb
  obtain ⟨hc, hf⟩ := bcell hb
  clear hv hb
  go_wp2_with fail
  refine bodyPost_ret (v := .agg #[.int .i64 2, .int .u64 0, .slice a' bs.length cap', .slice none 0 0]) (by simp [results, Try.results44, go_sem, hc]) rfl ⟨_, rfl, ?_, ?_⟩
  · exact Hv.out.agree (Agree.set4 _ (.inl (by simp)) _ _ _ _) (by simp) (by simp)
  · exact (((Below.refl _ w).alloc (Nat.le_refl _) _).trans (Hb.out.mono (by simp))).trans (bset4 (Nat.le_refl _) _ _ _ _)

set_option maxHeartbeats 400000 in
theorem refBytes_any (v v' : Value) (xs ys : List Int) (w : World) (h : BySl 0 w.heap.size w v xs) (h' : BySl 0 w.heap.size w v' ys) :
    Calls Try.prog 16 #[v, v'] w fun e w' => e = .returned (.bool (decide (xs = ys))) ∧ Below w.heap.size w w' := by
  obtain ⟨a, cap, rfl, h2, h3, h4, h5, h6, h7⟩ := h
  obtain ⟨a', cap', rfl, h2', h3', h4', h5', h6', h7'⟩ := h'
  have A := hid h7
  have A' := hid h7'
  clear h7 h7' h4 h4' h6 h6'
  by_cases hl : xs.length = ys.length
  · have hlb : ((xs.length : Int) != (ys.length : Int)) = false := by simp [hl]
    have HL := hid hl
    clear hl
    go_enter Try.func16, Try.ntmps16
    go_wp2
    go_loopw [5] (fun i wr => ∃ k : Nat, k ≤ xs.length ∧ i = .int .i64 k ∧ Hid (xs.take k = ys.take k) ∧ ∃ q, wr = w.drewN q) (fun i _ => xs.length - (intOf i).toNat)
    case atStart => exact ⟨0, Nat.zero_le _, rfl, by simp [Hid], 0, rfl⟩
    case round =>
      obtain ⟨k, hk, rfl, ht, q, rfl⟩ := hrel
      by_cases hlt : k < xs.length
      · have hlt' : k < ys.length := by have := HL.out; omega
        obtain ⟨b, o, rfl, _, _, hc⟩ := A.out (by intro e; subst e; simp at hlt)
        obtain ⟨b', o', rfl, _, _, hc'⟩ := A'.out (by intro e; subst e; simp at hlt')
        have c1 := hc k hlt
        have c2 := hc' k hlt'
        clear hc hc'
        have e1 : Hid (xs.take (k + 1) = xs.take k ++ [xs.getD k 0]) := by rw [List.take_succ_eq_append_getElem hlt]; simp [Hid, List.getElem?_eq_getElem hlt]
        have e2 : Hid (ys.take (k + 1) = ys.take k ++ [ys.getD k 0]) := by rw [List.take_succ_eq_append_getElem hlt']; simp [Hid, List.getElem?_eq_getElem hlt']
        generalize xs.getD k 0 = x at c1 e1
        generalize ys.getD k 0 = y at c2 e2
        by_cases hxy : x = y
        · subst hxy
          go_wp2_with fail
          go_quiet (fail)
          go_wp2
          go_roundw
          case rel => exact ⟨k + 1, by omega, by go_num, by rw [Hid, e1.out, e2.out, ht.out], _, rfl⟩
          case measure => simp [intOf]; omega
        · have hb : (x != y) = true := by simpa using hxy
          go_wp2_with fail
          go_quiet (fail)
          go_wp2
          go_ret
          refine ⟨?_, ?_⟩
          · rw [decide_eq_false (by intro e; apply hxy; have h1 := e1.out; rw [e, e2.out] at h1; have := (List.append_inj' h1 rfl).2; simpa using this.symm)]
            rfl
          · exact below_drewN (below_drewN (Below.refl _ _) _) _
      · go_wp2
        go_ret
        refine ⟨?_, ?_⟩
        · rw [decide_eq_true (by have := ht.out; have hL := HL.out; rwa [List.take_of_length_le (by omega), List.take_of_length_le (by omega)] at this)]
          rfl
        · exact below_drewN (Below.refl _ _) _
  · have hlb : ((xs.length : Int) != (ys.length : Int)) = true := by simp; omega
    go_enter Try.func16, Try.ntmps16
    go_wp2
    go_ret
    refine ⟨?_, Below.refl _ _⟩
    rw [decide_eq_false (by intro e; exact hl (by rw [e]))]
    rfl

end Go.Proofs.Ythbhdbjjobfchaa.Tlv
