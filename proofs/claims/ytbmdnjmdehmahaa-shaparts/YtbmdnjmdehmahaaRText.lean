/-
  The reference's Text, walked.
-/
import Derived.Test.YtbmdnjmdehmahaaCompare
import Derived.Laws.Concat
namespace Go.Proofs.Ytbmdnjmdehmahaa
open Go.RowKit

/-- A row of bytes as a string. -/
def strB (l : List Nat) : ByteArray := ⟨(l.map Nat.toUInt8).toArray⟩
theorem strB_append (a b : List Nat) : strB a ++ strB b = strB (a ++ b) := by
  apply ByteArray.ext
  simp [strB, ByteArray.data_append]

set_option maxRecDepth 100000 in
/-- One digit out of the digits' text. -/
theorem digit_cut (k : Nat) (hk : k < 16) (w : World) : (Instr.slice 9 (.string ⟨#[48, 49, 50, 51, 52, 53, 54, 55, 56, 57, 97, 98, 99, 100, 101, 102]⟩) (some (.int .u8 (k : Int))) (some (.int .u8 ((k : Int) + 1))) none).run Try.prog w = .ok (.string (strB [hexd k])) w := by
  have : k = 0 ∨ k = 1 ∨ k = 2 ∨ k = 3 ∨ k = 4 ∨ k = 5 ∨ k = 6 ∨ k = 7 ∨ k = 8 ∨ k = 9 ∨ k = 10 ∨ k = 11 ∨ k = 12 ∨ k = 13 ∨ k = 14 ∨ k = 15 := by omega
  rcases this with rfl | rfl | rfl | rfl | rfl | rfl | rfl | rfl | rfl | rfl | rfl | rfl | rfl | rfl | rfl | rfl <;> (simp [Instr.slice, run_underlying Try.underlying9]; rfl)

set_option maxHeartbeats 1000000 in
set_option maxRecDepth 100000 in
theorem rtext_any (h : List Nat) (w : World) (h32 : h.length = 32) (hw : ∀ x ∈ h, x < 256) :
    Calls Try.prog 22 #[.agg (u8s h).toArray] w fun e w' => e = .returned (.string (strB (hexOf h))) ∧ Below w.heap.size w w' := by
  have H32 := hid h32
  have HW := hid hw
  clear h32 hw
  obtain ⟨cs, hcs⟩ : ∃ cs, u8s h = cs := ⟨_, rfl⟩
  have HCS := hid hcs
  rw [hcs]
  clear hcs
  go_enter Try.func22, Try.ntmps22
  go_wp2_with fail
  obtain ⟨W1, hW1⟩ : ∃ W1, w.alloc (.cells cs.toArray 30) = W1 := ⟨_, rfl⟩
  have HB : Hid (BytesAt W1 w.heap.size 0 h ∧ Below w.heap.size w W1 ∧ W1.heap.size = w.heap.size + 1) := by
    rw [Hid, ← hW1, ← HCS.out]
    exact ⟨BytesAt.of_block (heap_alloc_new _ _), (Below.refl _ _).alloc (Nat.le_refl _) _, by simp⟩
  rw [hW1]
  clear hW1
  go_loopw [4, 5] (fun t x wr => ∃ (i : Nat) (T : ByteArray), x = .int .i64 i ∧ t = .string T ∧ i ≤ 32 ∧ Hid (T = strB (hexOf (h.take i)) ∧ Below W1.heap.size W1 wr)) (fun _ x _ => 32 - (intOf x).toNat)
  case atStart => exact ⟨0, _, rfl, rfl, by omega, rfl, Below.refl _ _⟩
  case round =>
    obtain ⟨i, T, rfl, rfl, hi, HI⟩ := hrel
    by_cases hlt : i < 32
    · have c1 := (Kp.below (l := []) HI.out.2).bytes HB.out.1 (by have := HB.out.2.2; omega) (by simp) i (by rw [H32.out]; exact hlt)
      rw [Nat.zero_add] at c1
      have hc256 : h.getD i 0 < 256 := getD_lt HW.out i
      have HT : Hid (h.take (i + 1) = h.take i ++ [h.getD i 0]) := by
        rw [Hid, List.take_succ_eq_append_getElem (by rw [H32.out]; exact hlt)]
        simp [List.getElem?_eq_getElem (show i < h.length by rw [H32.out]; exact hlt)]
      obtain ⟨c, hc⟩ : ∃ c, h.getD i 0 = c := ⟨_, rfl⟩
      rw [hc] at c1 hc256 HT
      clear hc
      have hsh : (c : Int) / 16 = ((c / 16 : Nat) : Int) := by omega
      have hrm : (c : Int) % 16 = ((c % 16 : Nat) : Int) := by omega
      have d1 := digit_cut (c / 16) (by omega)
      have d2 := digit_cut (c % 16) (by omega)
      have q1 : c / 16 < 16 := by omega
      have q2 : c % 16 < 16 := by omega
      obtain ⟨p1, hp1⟩ : ∃ c1, c / 16 = c1 := ⟨_, rfl⟩
      obtain ⟨p2, hp2⟩ : ∃ c2, c % 16 = c2 := ⟨_, rfl⟩
      have HCC : Hid (hexOf (h.take (i + 1)) = hexOf (h.take i) ++ [hexd p1] ++ [hexd p2]) := by rw [Hid, HT.out, hexOf_snoc, hp1, hp2]
      rw [hp1] at d1 hsh q1
      rw [hp2] at d2 hrm q2
      clear hp1 hp2
      have hltI : (i : Int) < 32 := by omega
      have h0I : (0 : Int) ≤ (i : Int) := by omega
      have w1 : IntKind.u8.wrap ((p1 : Int) + 1) = (p1 : Int) + 1 := by rw [IntKind.wrap_u8]; omega
      have w2 : IntKind.u8.wrap ((p2 : Int) + 1) = (p2 : Int) + 1 := by rw [IntKind.wrap_u8]; omega
      have w3 : IntKind.u8.wrap (p1 : Int) = (p1 : Int) := by rw [IntKind.wrap_u8]; omega
      have w4 : IntKind.u8.wrap (p2 : Int) = (p2 : Int) := by rw [IntKind.wrap_u8]; omega
      have t1 : (c : Int).tdiv 16 = (p1 : Int) := by rw [Int.tdiv_eq_ediv_of_nonneg (by omega)]; exact hsh
      have t2 : (c : Int).tmod 16 = (p2 : Int) := by rw [Int.tmod_eq_emod_of_nonneg (by omega)]; exact hrm
      have hT : Hid (T.size = 2 * i) := by
        rw [Hid, HI.out.1]
        show ((hexOf (h.take i)).map Nat.toUInt8).toArray.size = 2 * i
        rw [List.size_toArray, List.length_map, hexOf_length, List.length_take, H32.out]
        omega
      have HD1 : Hid ((strB [hexd p1]).size = 1) := rfl
      have HD2 : Hid ((strB [hexd p2]).size = 1) := rfl
      obtain ⟨D1, hD1⟩ : ∃ D, strB [hexd p1] = D := ⟨_, rfl⟩
      obtain ⟨D2, hD2⟩ : ∃ D, strB [hexd p2] = D := ⟨_, rfl⟩
      rw [hD1] at d1 HD1
      rw [hD2] at d2 HD2
      have hS1 := fun w => run_string_add_sum (P := Try.prog) (w := w) T D1 (by have := hT.out; have := HD1.out; omega)
      have hS2 := fun w => run_string_add_sum (P := Try.prog) (w := w) (T ++ D1) D2 (by have := hT.out; have := HD1.out; have := HD2.out; rw [ByteArray.size_append]; omega)
      have HTT : Hid (T ++ D1 ++ D2 = strB (hexOf (h.take (i + 1)))) := by
        rw [Hid, HCC.out, HI.out.1, ← hD1, ← hD2, strB_append, strB_append]
      obtain ⟨T1, hT1⟩ : ∃ t, T ++ D1 = t := ⟨_, rfl⟩
      rw [hT1] at hS1 hS2 HTT
      clear hT1
      obtain ⟨T2, hT2⟩ : ∃ t, T1 ++ D2 = t := ⟨_, rfl⟩
      rw [hT2] at hS2 HTT
      clear hT2 hD1 hD2
      go_wp2_with fail
      go_quiet (fail)
      have HB2 : Hid (Below W1.heap.size W1 (wr.drewN nq)) := HI.out.2.trans (below_drewN (Below.refl _ _) nq)
      obtain ⟨wq, hwq⟩ : ∃ wq, wr.drewN nq = wq := ⟨_, rfl⟩
      rw [hwq] at HB2 ⊢
      clear hwq
      go_wp2_with fail
      exact ⟨⟨i + 1, T2, rfl, rfl, by omega, HTT.out, HB2.out⟩, by simp [intOf]; omega⟩
    · have HT : Hid (T = strB (hexOf h)) := by rw [Hid, HI.out.1, List.take_of_length_le (by rw [H32.out]; omega)]
      have hge : (32 : Int) ≤ (i : Int) := by omega
      have HBX := hid (HB.out.2.1.trans (HI.out.2.mono (by have := HB.out.2.2; omega)))
      go_wp2_with fail
      go_ret
      rw [HT.out]
      exact ⟨rfl, HBX.out⟩
end Go.Proofs.Ytbmdnjmdehmahaa
