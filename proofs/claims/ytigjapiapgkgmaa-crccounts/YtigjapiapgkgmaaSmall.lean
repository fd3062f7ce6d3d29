/-
  A new table; the chapter's example; whether bytes are the same; how many were counted.
-/
import Derived.Test.YtigjapiapgkgmaaMore
import Derived.Lib.SlBytesConst
namespace Go.Proofs.Ytigjapiapgkgmaa
open Go.RowKit

def Z61 : Array Value := #[.int .u32 0, .int .i32 0, .int .u32 0] ++ (Array.replicate 256 (.int .u32 0) ++ #[.int .i64 0])
theorem zero61 (w : World) : (zeroValue 61).run Try.prog w = .ok (.agg Z61) w := by kernel_rfl
theorem Z61_at (j : Nat) (h : j < 256) : Z61[3 + j]? = some (.int .u32 0) := by
  rw [Z61, Array.getElem?_append_right (by simp), Array.getElem?_append_left (by simp; omega)]
  simp [h]

set_option maxHeartbeats 400000 in
set_option maxRecDepth 100000 in
theorem new_any (w : World) :
    Calls Try.prog 9 #[] w fun e w' => e = .returned (.pointer (some ⟨w.heap.size, 0, none⟩)) ∧ Below w.heap.size w w' ∧ w'.heap.size = w.heap.size + 1 ∧ Tab w' w.heap.size 0 0 := by
  have hz := zero61
  go_enter Try.func9, Try.ntmps9
  go_wp2
  go_ret
  have ho : ∀ j, (w.alloc (.cells Z61 61)).cell? ⟨w.heap.size, j, none⟩ = Z61[j]? := fun j => World.cell?_alloc_at _ _ _ _ rfl
  refine ⟨rfl, (Below.refl _ _).alloc (Nat.le_refl _) _, by simp, by simp, ho 0, ho 1, ho 259, fun j hj => ⟨_, (ho _).trans (Z61_at j hj)⟩, fun e => absurd e (by decide), fun j => World.frozen?_alloc_at _ _ _ _ rfl⟩

theorem bySl_lit (b : Nat) (w : World) (hb : b < w.heap.size) (l : List Nat) (hl : l.length ≤ 1000) (hx : ∀ x ∈ l, x < 256) (fr : Nat × Nat) :
    BySl b (w.alloc (Obj.cells (l.map fun x : Nat => Value.int .u8 (x : Int)).toArray 5 fr)) (.slice (some ⟨w.heap.size, 0, none⟩) l.length l.length) l := by
  refine ⟨_, l.length, rfl, Nat.le_refl _, by unfold maxLen; omega, by simp, by omega, hx, fun _ => ⟨w.heap.size, 0, rfl, by omega, by simp, fun i hi => ?_⟩⟩
  rw [Nat.zero_add, World.cell?_alloc_mark]
  simp [List.getElem?_eq_getElem hi]

theorem alive_sum : more 0 [49, 50, 51, 52, 53, 54, 55, 56, 57] = 3808858755 := by decide +kernel

set_option maxHeartbeats 1000000 in
set_option maxRecDepth 100000 in
theorem alive_any (w : World) :
    Calls Try.prog 8 #[] w fun e w' => e = .returned (.bool true) ∧ Below w.heap.size w w' := by
  have kc := fun (w : World) (C : Array Value) (n c : Nat) => Lib.run_convert_bytes_const (P := Try.prog) w 23 5 C n c Try.underlying23 Try.underlying5
  go_enter Try.func8, Try.ntmps8
  go_wp2_with fail
  refine (new_any _).mono ?_
  rintro e w1 ⟨rfl, hb, hs, ht⟩
  have HS := hid hs
  have HB := hid hb
  have HT := hid ht
  clear hs hb ht
  go_wp2_with fail
  have hk := (HB.out.alloc HB.out.size (Obj.cells #[Value.int IntKind.u8 49, Value.int IntKind.u8 50, Value.int IntKind.u8 51, Value.int IntKind.u8 52, Value.int IntKind.u8 53, Value.int IntKind.u8 54, Value.int IntKind.u8 55, Value.int IntKind.u8 56, Value.int IntKind.u8 57] 5 (9, 10)))
  refine (sum_any w.heap.size 0 0 _ [49, 50, 51, 52, 53, 54, 55, 56, 57] _ (.inl rfl) (HT.out.below ((Below.refl _ _).alloc (Nat.le_refl _) _)) (bySl_lit w.heap.size w1 (by have := HS.out; omega) [49, 50, 51, 52, 53, 54, 55, 56, 57] (by decide) (by decide) (9, 10))).mono ?_
  rintro e w2 ⟨rfl, hk2, ht2⟩
  rw [alive_sum]
  go_wp2_with fail
  go_ret
  exact ⟨rfl, Kept.toBelow hk hk2 (Nat.le_refl _)⟩

set_option maxHeartbeats 400000 in
theorem bytes_any (b : Nat) (v v' : Value) (xs ys : List Nat) (w : World) (h : BySl b w v xs) (h' : BySl b w v' ys) :
    Calls Try.prog 16 #[v, v'] w fun e w' => e = .returned (.bool (decide (xs = ys))) ∧ Below w.heap.size w w' := by
  obtain ⟨a, cap, rfl, h2, h3, h4, h5, h6, h7⟩ := h
  obtain ⟨a', cap', rfl, h2', h3', h4', h5', h6', h7'⟩ := h'
  have A := hid h7
  have A' := hid h7'
  clear h7 h7' h4 h4' h6 h6'
  by_cases hl : xs.length = ys.length
  · have hlb : ((xs.length : Int) != (ys.length : Int)) = false := by simp [hl]
    have HL := hid hl
    clear hl
    go_enter Try.func16, Try.ntmps16
    go_wp2
    go_loopw [5] (fun i wr => ∃ k : Nat, k ≤ xs.length ∧ i = .int .i64 k ∧ Hid (xs.take k = ys.take k) ∧ ∃ q, wr = w.drewN q) (fun i _ => xs.length - (intOf i).toNat)
    case atStart => exact ⟨0, Nat.zero_le _, rfl, by simp [Hid], 0, rfl⟩
    case round =>
      obtain ⟨k, hk, rfl, ht, q, rfl⟩ := hrel
      by_cases hlt : k < xs.length
      · have hlt' : k < ys.length := by have := HL.out; omega
        obtain ⟨g, o, rfl, _, _, hc⟩ := A.out (by intro e; subst e; simp at hlt)
        obtain ⟨g', o', rfl, _, _, hc'⟩ := A'.out (by intro e; subst e; simp at hlt')
        have c1 := hc k hlt
        have c2 := hc' k hlt'
        clear hc hc'
        have e1 : Hid (xs.take (k + 1) = xs.take k ++ [xs.getD k 0]) := by rw [List.take_succ_eq_append_getElem hlt]; simp [Hid, List.getElem?_eq_getElem hlt]
        have e2 : Hid (ys.take (k + 1) = ys.take k ++ [ys.getD k 0]) := by rw [List.take_succ_eq_append_getElem hlt']; simp [Hid, List.getElem?_eq_getElem hlt']
        generalize xs.getD k 0 = x at c1 e1
        generalize ys.getD k 0 = y at c2 e2
        by_cases hxy : x = y
        · subst hxy
          go_wp2_with fail
          go_quiet (fail)
          go_wp2
          go_roundw
          case rel => exact ⟨k + 1, by omega, by go_num, by rw [Hid, e1.out, e2.out, ht.out], _, rfl⟩
          case measure => simp [intOf]; omega
        · have hb : ((x : Int) != (y : Int)) = true := by simp; omega
          go_wp2_with fail
          go_quiet (fail)
          go_wp2
          go_ret
          refine ⟨?_, ?_⟩
          · rw [decide_eq_false (by intro e; apply hxy; have h1 := e1.out; rw [e, e2.out] at h1; have := (List.append_inj' h1 rfl).2; simpa using this.symm)]
            rfl
          · exact below_drewN (below_drewN (Below.refl _ _) _) _
      · go_wp2
        go_ret
        refine ⟨?_, ?_⟩
        · rw [decide_eq_true (by have := ht.out; have hL := HL.out; rwa [List.take_of_length_le (by omega), List.take_of_length_le (by omega)] at this)]
          rfl
        · exact below_drewN (Below.refl _ _) _
  · have hlb : ((xs.length : Int) != (ys.length : Int)) = true := by simp; omega
    go_enter Try.func16, Try.ntmps16
    go_wp2
    go_ret
    refine ⟨?_, Below.refl _ _⟩
    rw [decide_eq_false (by intro e; exact hl (by rw [e]))]
    rfl

/-- How many bytes were counted. -/
theorem done_any (b f : Nat) (n : Int) (w : World) (h : Tab w b f n) :
    Calls Try.prog 21 #[.pointer (some ⟨b, 0, none⟩)] w fun e w' => e = .returned (.int .i64 n) ∧ w' = w := by
  have hl := run_call_load (P := Try.prog) Try.func36 (by kernel_rfl) (by kernel_rfl) (by kernel_rfl) .i64 (by kernel_rfl) h.2.2.2.1
  have H := hid h
  clear h
  go_enter Try.func21, Try.ntmps21
  go_wp2
  go_ret
  exact ⟨rfl, rfl⟩

end Go.Proofs.Ytigjapiapgkgmaa
