/-
  A new gear; bytes in memory; the reference's Hash and Find.
-/
import Derived.Test.YtinijgkkmfdfiaaDoorGear
namespace Go.Proofs.YtinijgkkmfdfiaaDoor
open Go.RowKit

def Z56 : Array Value := #[.int .u64 0, .int .u32 0, .int .i32 0, .int .u32 0] ++ Array.replicate 256 (.int .u64 0)
theorem zero56 (w : World) : Sem.run Tryd.prog (zeroValue 97) w = .ok (.agg Z56) w := by kernel_rfl
def G56 (s : Nat) : Array Value := Z56.setIfInBounds 0 (.int .u64 s)
theorem Z56_ne : (Z56 = #[]) = False := eq_false (fun h => by have := congrArg Array.size h; simp [Z56] at this)
theorem G56_zero (s : Nat) : (G56 s)[0]? = some (.int .u64 s) := by
  rw [G56, Array.getElem?_setIfInBounds_self_of_lt (by simp [Z56])]
theorem G56_at (s j : Nat) (h : j ≠ 0) : (G56 s)[j]? = Z56[j]? := by rw [G56, Array.getElem?_setIfInBounds_ne (Ne.symm h)]
theorem Z56_1 : Z56[1]? = some (.int .u32 0) := by kernel_rfl
theorem Z56_2 : Z56[2]? = some (.int .i32 0) := by kernel_rfl
theorem Z56_at (j : Nat) (h : j < 256) : Z56[4 + j]? = some (.int .u64 0) := by
  rw [Z56, Array.getElem?_append_right (by simp)]
  simp [h]

set_option maxRecDepth 100000 in
/-- New. -/
theorem new_any (s : Nat) (hs : s < M64) (w : World) :
    Calls Tryd.prog 43 #[.int .u64 s] w fun e w' => e = .returned (.pointer (some ⟨w.heap.size, 0, none⟩)) ∧ Below w.heap.size w w' ∧ w'.heap.size = w.heap.size + 1 ∧ Gr w' w.heap.size s 0 := by
  have hz := zero56
  have hne := Z56_ne
  have hg : Z56.setIfInBounds 0 (.int .u64 s) = G56 s := rfl
  go_enter Tryd.func43, Tryd.ntmps43
  go_wp2
  go_ret
  have ho : ∀ j, (w.alloc (.cells (G56 s) 97)).cell? ⟨w.heap.size, j, none⟩ = (G56 s)[j]? := fun j => World.cell?_alloc_at _ _ _ _ rfl
  refine ⟨rfl, (Below.refl _ _).alloc (Nat.le_refl _) _, by simp, by simp, (ho 0).trans (G56_zero s), (ho 1).trans ((G56_at s 1 (by decide)).trans Z56_1), (ho 2).trans ((G56_at s 2 (by decide)).trans Z56_2), fun j hj => ⟨_, ((ho _).trans (G56_at s _ (by omega))).trans (Z56_at j hj)⟩, fun e => absurd e (by decide), fun j => World.frozen?_alloc_at _ _ _ _ rfl, hs⟩

/-- v is a slice of the bytes bs, in blocks other than b. -/
def BySl (b : Nat) (w : World) (v : Value) (bs : List Nat) : Prop :=
  ∃ a cap, v = .slice a bs.length cap ∧ bs.length ≤ cap ∧ cap ≤ maxLen ∧ (a = none → bs = [] ∧ cap = 0) ∧ bs.length ≤ 140737488355328 ∧ (∀ x ∈ bs, x < 256) ∧
    (bs ≠ [] → ∃ g o, a = some ⟨g, o, none⟩ ∧ g ≠ b ∧ g < w.heap.size ∧ ∀ i, i < bs.length → w.cell? ⟨g, o + i, none⟩ = some (.int .u8 (bs.getD i 0 : Nat)))

theorem BySl.kept {b : Nat} {w w' : World} {v : Value} {bs : List Nat} (h : BySl b w v bs) (k : Kept b w w') : BySl b w' v bs := by
  obtain ⟨a, cap, h1, h2, h3, h4, h5, h6, h7⟩ := h
  refine ⟨a, cap, h1, h2, h3, h4, h5, h6, fun hne => ?_⟩
  obtain ⟨g, o, e, hgb, hg, hc⟩ := h7 hne
  exact ⟨g, o, e, hgb, Nat.lt_of_lt_of_le hg k.size, fun i hi => (k.cell (p := ⟨g, o + i, none⟩) hg hgb).trans (hc i hi)⟩
theorem BySl.below {b : Nat} {w w' : World} {v : Value} {bs : List Nat} (h : BySl b w v bs) (k : Below w.heap.size w w') : BySl b w' v bs := h.kept (Kept.below k)
/-- A block that was not there yet is none of the slice's. -/
theorem BySl.other {b c : Nat} {w : World} {v : Value} {bs : List Nat} (h : BySl b w v bs) (hc : w.heap.size ≤ c) : BySl c w v bs := by
  obtain ⟨a, cap, h1, h2, h3, h4, h5, h6, h7⟩ := h
  refine ⟨a, cap, h1, h2, h3, h4, h5, h6, fun hne => ?_⟩
  obtain ⟨g, o, e, hgb, hg, hc'⟩ := h7 hne
  exact ⟨g, o, e, by omega, hg, hc'⟩
theorem BySl.none (b : Nat) (w : World) : BySl b w (.slice none 0 0) [] := ⟨_, 0, rfl, Nat.le_refl _, Nat.zero_le _, fun _ => ⟨rfl, rfl⟩, by simp, by simp, fun h => absurd rfl h⟩

theorem getD_lt {bs : List Nat} (h : ∀ x ∈ bs, x < 256) {k : Nat} (hk : k < bs.length) : bs.getD k 0 < 256 := by
  rw [getD_at hk]
  exact h _ (List.getElem_mem hk)

theorem refRoll_i (s h c : Nat) : IntKind.u64.wrap (IntKind.u64.wrap (2 * (h : Int)) + ((rowOf s c : Nat) : Int)) = ((roll s h c : Nat) : Int) := by
  rw [IntKind.wrap_u64, IntKind.wrap_u64, roll, M64]
  omega

set_option maxHeartbeats 1600000 in
set_option maxRecDepth 100000 in
/-- The reference's Hash. -/
theorem refHash_any (b s : Nat) (hs : s < M64) (v : Value) (bs : List Nat) (w : World) (hv : BySl b w v bs) :
    Calls Tryd.prog 41 #[.int .u64 s, v] w fun e w' => e = .returned (.int .u64 (hashOf s bs : Nat)) ∧ w' = w := by
  obtain ⟨a, cap, rfl, h2, h3, h4, h5, h6, h7⟩ := hv
  have H6 := hid h6
  have H7 := hid h7
  clear h6 h7 h4
  go_enter Tryd.func41, Tryd.ntmps41
  go_wp2
  go_loopw [5, 6] (fun r i wr => ∃ k : Nat, k ≤ bs.length ∧ i = .int .i64 k ∧ r = .int .u64 (hashOf s (bs.take k) : Nat) ∧ wr = w) (fun _ i _ => bs.length - (intOf i).toNat)
  case atStart => exact ⟨0, Nat.zero_le _, rfl, by rw [List.take_zero, hashOf, hashFrom_nil]; rfl, rfl⟩
  case round =>
    obtain ⟨k, hk, rfl, rfl, hwr⟩ := hrel
    subst wr
    by_cases hlt : k < bs.length
    · obtain ⟨g, o, rfl, _, _, hc⟩ := H7.out (by intro e; subst e; simp at hlt)
      have c1 := hc k hlt
      clear hc
      have hx := getD_lt H6.out hlt
      have hsn := hid (hashOf_succ s bs k hlt)
      generalize bs.getD k 0 = c at *
      generalize hashOf s (bs.take k) = r at *
      have hr := refRoll_i s r c
      have hki : (k : Int) < (bs.length : Int) := by omega
      go_wp2_with (go_at_call 49; refine (refRow_any s c hs hx _).mono ?_; rintro e w2 ⟨rfl, h2⟩; subst w2)
      go_roundw
      case rel => exact ⟨k + 1, by omega, by go_num, by rw [hsn.out], by first | rfl | trivial⟩
      case measure => simp [intOf]; omega
    · have e : bs.take k = bs := List.take_of_length_le (by omega)
      rw [e]
      go_wp2
      go_ret
      exact ⟨rfl, rfl⟩

theorem and_i (h m : Nat) (hh : h < M64) (hm : m < M64) : bits .and .u64 (h : Int) (m : Int) = ((h &&& m : Nat) : Int) := u64_and_nat h m hh hm

end Go.Proofs.YtinijgkkmfdfiaaDoor
