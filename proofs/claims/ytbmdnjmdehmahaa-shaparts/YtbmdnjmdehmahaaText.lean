/-
  A hash as text: Text, walked.
-/
import Derived.Test.YtbmdnjmdehmahaaBuilder
import Derived.Test.YtbmdnjmdehmahaaHash
namespace Go.Proofs.Ytbmdnjmdehmahaa
open Go.RowKit

/-- A digit of base 16, as a byte. -/
def hexd (k : Nat) : Nat := if k < 10 then 48 + k else 87 + k
/-- Two digits a byte. -/
def hexOf (h : List Nat) : List Nat := h.flatMap fun c => [hexd (c / 16), hexd (c % 16)]
theorem hexOf_snoc (h : List Nat) (c : Nat) : hexOf (h ++ [c]) = hexOf h ++ [hexd (c / 16)] ++ [hexd (c % 16)] := by simp [hexOf]
theorem hexOf_length (h : List Nat) : (hexOf h).length = 2 * h.length := by
  induction h with
  | nil => rfl
  | cons c r ih => simp [hexOf] at ih ⊢; omega

theorem hexd_lt (k : Nat) (h : k < 16) : hexd k < 256 := by unfold hexd; split <;> omega
theorem byteCells_u8s (l : List Nat) (h : ∀ x ∈ l, x < 256) : Lib.byteCells (l.map Nat.toUInt8) = u8s l := by
  unfold Lib.byteCells u8s
  rw [List.map_map]
  apply List.map_congr_left
  intro x hx
  have := h x hx
  simp
  omega
theorem hexOf_lt (h : List Nat) (hw : ∀ x ∈ h, x < 256) : ∀ x ∈ hexOf h, x < 256 := by
  intro x hx
  obtain ⟨c, hc, hx⟩ := List.mem_flatMap.1 hx
  have := hw c hc
  simp only [List.mem_cons, List.not_mem_nil, or_false] at hx
  rcases hx with rfl | rfl
  · exact hexd_lt _ (by omega)
  · exact hexd_lt _ (by omega)
set_option maxRecDepth 100000 in
/-- A digit's byte out of the digits' text. -/
theorem digit_at (k : Nat) (hk : k < 16) (w : World) : (Instr.index 9 (.string ⟨#[48, 49, 50, 51, 52, 53, 54, 55, 56, 57, 97, 98, 99, 100, 101, 102]⟩) (.int .u8 (k : Int))).run Try.prog w = .ok (.int .u8 (hexd k : Nat)) w := by
  have : k = 0 ∨ k = 1 ∨ k = 2 ∨ k = 3 ∨ k = 4 ∨ k = 5 ∨ k = 6 ∨ k = 7 ∨ k = 8 ∨ k = 9 ∨ k = 10 ∨ k = 11 ∨ k = 12 ∨ k = 13 ∨ k = 14 ∨ k = 15 := by omega
  rcases this with rfl | rfl | rfl | rfl | rfl | rfl | rfl | rfl | rfl | rfl | rfl | rfl | rfl | rfl | rfl | rfl <;> (simp [Instr.index, asIntOf, run_underlying Try.underlying9]; rfl)
/-- An array's element. -/
theorem elem_at (h : List Nat) (i : Nat) (hl : h.length = 32) (hi : i < 32) (w : World) : (Instr.index 30 (.agg (u8s h).toArray) (.int .i64 (i : Int))).run Try.prog w = .ok (.int .u8 ((h.getD i 0 : Nat) : Int)) w := by
  have e := u8s_at h i (by omega)
  simp [Instr.index, asIntOf, run_underlying Try.underlying30, Try.sizeOf5, part, Try.isAgg5, e]
  intro h
  omega
theorem and_15 (c : Nat) (hc : c < 256) : bits .and .u8 (c : Int) 15 = ((c % 16 : Nat) : Int) := by
  have h := u8_and_nat c 15 hc (by decide)
  rw [show (15 : Nat) = 2 ^ 4 - 1 from rfl, Nat.and_two_pow_sub_one_eq_mod] at h
  exact h

set_option maxHeartbeats 1000000 in
set_option maxRecDepth 100000 in
theorem text_any (h : List Nat) (w : World) (h32 : h.length = 32) (hw : ∀ x ∈ h, x < 256) :
    Calls Try.prog 20 #[.agg (u8s h).toArray] w fun e w' => e = .returned (.string ⟨((hexOf h).map Nat.toUInt8).toArray⟩) ∧ Below w.heap.size w w' := by
  have H32 := hid h32
  have HW := hid hw
  clear h32 hw
  obtain ⟨cs, hcs⟩ : ∃ cs, u8s h = cs := ⟨_, rfl⟩
  have HCS := hid hcs
  rw [hcs]
  clear hcs
  have HI : Hid ((Try.prog.info? 30).map (·.size) = some cs.toArray.size) := by rw [Hid, List.size_toArray, ← HCS.out, u8s_length, H32.out]; exact Try.info30
  go_enter Try.func20, Try.ntmps20
  go_wp2_with (refine wpList_load_row (by rfl) 30 _ (by rfl) w.heap.size (by rfl) 30 cs.toArray (0, 0) _ ?hg Try.underlying30 rfl HI.out ?_; (case hg => exact heap_alloc2_old _ _ _))
  obtain ⟨W1, hW1⟩ : ∃ W1, (w.alloc (Obj.cells cs.toArray 30)).alloc (Obj.cells #[Value.pointer none, Value.slice none 0 0] 90) = W1 := ⟨_, rfl⟩
  have HB : Hid (Below w.heap.size w W1 ∧ W1.heap.size = w.heap.size + 2) := by rw [Hid, ← hW1]; exact ⟨((Below.refl _ _).alloc (Nat.le_refl _) _).alloc (by simp) _, by simp⟩
  have HBU : Hid (Lib.IsBuilder 90 5 (w.heap.size + 1) (w.heap.size + 1) [] W1) := by
    have h := Lib.fresh_isBuilder 90 5 (w.alloc (Obj.cells cs.toArray 30))
    rw [hW1] at h
    rw [Hid]
    simpa using h
  rw [hW1]
  clear hW1
  go_loopw [7] (fun s wr => ∃ i : Nat, s = .int .i64 i ∧ i ≤ 32 ∧ Hid (Lib.IsBuilder 90 5 (w.heap.size + 1) (w.heap.size + 1) (u8s (hexOf (h.take i))) wr ∧ Below (w.heap.size + 1) W1 wr)) (fun s _ => 32 - (intOf s).toNat)
  case atStart => exact ⟨0, rfl, by omega, HBU.out, Below.refl _ _⟩
  case round =>
    obtain ⟨i, rfl, hi, HX⟩ := hrel
    by_cases hlt : i < 32
    · have hix := elem_at h i H32.out hlt
      rw [HCS.out] at hix
      have hc256 : h.getD i 0 < 256 := getD_lt HW.out i
      have HT : Hid (h.take (i + 1) = h.take i ++ [h.getD i 0]) := by
        rw [Hid, List.take_succ_eq_append_getElem (by rw [H32.out]; exact hlt)]
        simp [List.getElem?_eq_getElem (show i < h.length by rw [H32.out]; exact hlt)]
      have HLN : Hid ((hexOf (h.take i)).length ≤ 64) := by rw [Hid, hexOf_length, List.length_take]; omega
      have HBS := hid HX.out.2.size
      have HBZ := hid HB.out.2
      obtain ⟨c, hc⟩ : ∃ c, h.getD i 0 = c := ⟨_, rfl⟩
      rw [hc] at hix hc256 HT
      clear hc
      have hsh : (c : Int) / 16 = ((c / 16 : Nat) : Int) := by omega
      have d1 := digit_at (c / 16) (by omega)
      have d2 := digit_at (c % 16) (by omega)
      have han := and_15 c hc256
      obtain ⟨c1, hc1⟩ : ∃ c1, c / 16 = c1 := ⟨_, rfl⟩
      obtain ⟨c2, hc2⟩ : ∃ c2, c % 16 = c2 := ⟨_, rfl⟩
      have HCC : Hid (hexOf (h.take (i + 1)) = hexOf (h.take i) ++ [hexd c1] ++ [hexd c2]) := by rw [Hid, HT.out, hexOf_snoc, hc1, hc2]
      rw [hc1] at d1 hsh
      rw [hc2] at d2 han
      clear hc1 hc2
      have hltI : (i : Int) < 32 := by omega
      go_wp2_with fail
      refine (wbyte_any (w.heap.size + 1) (w.heap.size + 1) (hexd c1) (hexOf (h.take i)) wr HX.out.1 (by have := HLN.out; omega) (by have := HBS.out; have := HBZ.out; omega)).mono ?_
      rintro e w2 ⟨rfl, hb2, hk2⟩
      have HB2 := hid hb2
      have HK2 := hid hk2
      clear hb2 hk2
      go_wp2_with fail
      refine (wbyte_any (w.heap.size + 1) (w.heap.size + 1) (hexd c2) (hexOf (h.take i) ++ [hexd c1]) w2 (.inr HB2.out) (by have := HLN.out; simp; omega) (by have := HBS.out; have := HBZ.out; have := HK2.out.size; omega)).mono ?_
      rintro e w3 ⟨rfl, hb3, hk3⟩
      have HB3 := hid hb3
      have HK3 := hid hk3
      clear hb3 hk3
      go_wp2_with fail
      go_roundw
      case rel =>
        refine ⟨i + 1, by go_num, by omega, ?_, (HX.out.2.trans HK2.out).trans HK3.out⟩
        rw [HCC.out]
        exact .inr HB3.out
      case measure => simp [intOf]; omega
    · have HT : Hid (h.take i = h) := List.take_of_length_le (by rw [H32.out]; omega)
      have hge : (32 : Int) ≤ (i : Int) := by omega
      go_wp2_with fail
      have hbu := HX.out.1
      rw [HT.out] at hbu
      have HBW := hid HX.out.2
      refine (bstring_any (w.heap.size + 1) (w.heap.size + 1) ((hexOf h).map Nat.toUInt8) wr (by rw [byteCells_u8s _ (hexOf_lt h HW.out)]; exact hbu) (by have := HX.out.2.size; have := HB.out.2; omega)).mono ?_
      rintro e w2 ⟨rfl, hb2⟩
      have HB2 := hid hb2
      clear hb2
      go_wp2_with fail
      go_ret
      exact ⟨rfl, HB.out.1.trans ((HBW.out.trans HB2.out).mono (by omega))⟩
end Go.Proofs.Ytbmdnjmdehmahaa
