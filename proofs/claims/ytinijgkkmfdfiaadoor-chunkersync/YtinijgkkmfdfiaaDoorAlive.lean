/-
  alive: the chapter's example.
-/
import Derived.Test.YtinijgkkmfdfiaaDoorApi
import Derived.Lib.SlBytesConst
import Derived.Laws.BytesArg
namespace Go.Proofs.YtinijgkkmfdfiaaDoor
open Go.RowKit

theorem split_ten : split (endB 0 4 4 (maskAt 2)) [48, 49, 50, 51, 52, 53, 54, 55, 56, 57] = [[48, 49, 50, 51], [52, 53, 54, 55], [56, 57]] := by decide +kernel
theorem right_ten : rightB ((4 : Nat) : Int) ((2 ^ 2 : Nat) : Int) ((4 : Nat) : Int) = true := by decide +kernel

/-- Bytes as a string. -/
theorem conv_any {P : Nat → Prop} {w : World} {v : Value} {bs : List Nat} (h : ByP P w v bs) (hne : bs ≠ []) : (convert 25 9 v).run Tryd.prog w = .ok (.string (strOfNums (bs.map fun x : Nat => (x : Int)))) w := by
  obtain ⟨a, cap, rfl, _, _, _, _, _, h7⟩ := h
  obtain ⟨g, o, rfl, _, _, hc⟩ := h7 hne
  refine run_convert_bytes_arg w 25 5 Tryd.underlying25 Tryd.underlying5 g o bs.length cap (bs.map fun x : Nat => (x : Int)) (by simp) (fun i hi => ?_) 9 Tryd.underlying9
  rw [hc i hi]
  simp [List.getElem?_eq_getElem hi]

set_option maxHeartbeats 1000000 in
theorem alive_any (w : World) (hT : Tab w) : Calls Tryd.prog 7 #[] w fun e w' => e = .returned (.bool true) ∧ Below w.heap.size w w' := by
  have kc := fun (w : World) (C : Array Value) (n c : Nat) => Lib.run_convert_bytes_const (P := Tryd.prog) w 25 5 C n c Tryd.underlying25 Tryd.underlying5
  have HT := hid hT
  have h2 := hT.lt
  clear hT
  go_enter Tryd.func7, Tryd.ntmps7
  go_wp2_with fail
  clear kc
  have HBY : Hid (ByP (fun _ => True) (w.alloc (.cells #[.int .u8 48, .int .u8 49, .int .u8 50, .int .u8 51, .int .u8 52, .int .u8 53, .int .u8 54, .int .u8 55, .int .u8 56, .int .u8 57] 5 (10, 11))) (.slice (some ⟨w.heap.size, 0, none⟩) 10 10) [48, 49, 50, 51, 52, 53, 54, 55, 56, 57]) := by
    refine ⟨_, 10, rfl, by decide, by decide, by simp, by decide, by decide, fun _ => ⟨w.heap.size, 0, rfl, trivial, by simp, fun i hi => ?_⟩⟩
    rw [cell_of_row _ w.heap.size (0 + i) _ 5 (10, 11) (heap_alloc_new _ _), Nat.zero_add]
    simp only [List.length_cons, List.length_nil] at hi
    have : ∀ i, i < 10 → (#[.int .u8 48, .int .u8 49, .int .u8 50, .int .u8 51, .int .u8 52, .int .u8 53, .int .u8 54, .int .u8 55, .int .u8 56, .int .u8 57] : Array Value)[i]? = some (.int .u8 (([48, 49, 50, 51, 52, 53, 54, 55, 56, 57] : List Nat).getD i 0 : Nat)) := by
      intro i hi
      rcases i with _ | _ | _ | _ | _ | _ | _ | _ | _ | _ | i <;> first | rfl | omega
    exact this i (by omega)
  have HB0 : Hid (Below w.heap.size w (w.alloc (.cells #[.int .u8 48, .int .u8 49, .int .u8 50, .int .u8 51, .int .u8 52, .int .u8 53, .int .u8 54, .int .u8 55, .int .u8 56, .int .u8 57] 5 (10, 11)))) := (Below.refl _ _).alloc (Nat.le_refl _) _
  have HC : Hid (∀ W, Tab W → ByP (fun _ => True) W (.slice (some ⟨w.heap.size, 0, none⟩) 10 10) [48, 49, 50, 51, 52, 53, 54, 55, 56, 57] → Calls Tryd.prog 8 #[.agg #[.int .u64 0, .int .i64 4, .int .i64 4, .int .i64 4], .slice (some ⟨w.heap.size, 0, none⟩) 10 10] W fun e w' => ∃ g cap u0 u2, e = .returned (.tuple #[.slice (some ⟨g, 0, none⟩) 3 cap, .int .i64 0]) ∧ 3 ≤ cap ∧ cap ≤ maxLen ∧ w'.cell? ⟨g, 0, none⟩ = some u0 ∧ w'.cell? ⟨g, 2, none⟩ = some u2 ∧
      (convert 25 9 u0).run Tryd.prog w' = .ok (.string { data := #[48, 49, 50, 51] }) w' ∧ (convert 25 9 u2).run Tryd.prog w' = .ok (.string { data := #[56, 57] }) w' ∧ Below W.heap.size W w') := fun W hW hB => by
    refine (split_yes 0 4 2 4 (by decide) (by decide) right_ten W hW _ _ hB (by decide)).mono ?_
    rintro e w' ⟨a, cap, he, hO, hb⟩
    rw [split_ten] at he hO
    obtain ⟨vals, r1, r2, r3, r4⟩ := hO
    have hv : vals.length = 3 := by simpa using r2
    have r1' : w'.ownsRow 0 25 1 (.slice a 3 cap) 3 vals := by rw [← hv]; have := r1; unfold Row at this; rw [hv] at this ⊢; exact this
    rcases r1'.2 with ⟨e1, e2⟩ | ⟨g, cap', cur, e1, hb', hgg, hn, hc, hs, ht⟩
    · omega
    · simp only [Value.slice.injEq, true_and] at e1
      obtain ⟨rfl, rfl⟩ := e1
      have hh : w'.ownsRow 0 25 1 (.slice (some ⟨g, 0, none⟩) 3 cap) 3 vals := r1'
      obtain ⟨u0, hu0, b0⟩ := r3 0 (by decide)
      obtain ⟨u2, hu2, b2⟩ := r3 2 (by decide)
      refine ⟨g, cap, u0, u2, he, by omega, hc, by rw [hh.cellAt 0 (by omega), hu0], by rw [hh.cellAt 2 (by omega), hu2], conv_any b0 (by simp), conv_any b2 (by simp), hb⟩
  generalize w.alloc (.cells #[.int .u8 48, .int .u8 49, .int .u8 50, .int .u8 51, .int .u8 52, .int .u8 53, .int .u8 54, .int .u8 55, .int .u8 56, .int .u8 57] 5 (10, 11)) = W at *
  refine (HC.out W (HT.out.below HB0.out h2) HBY.out).mono ?_
  rintro e w' ⟨g, cap, u0, u2, rfl, hc1, hc2, c0, c2, k0, k2, hb⟩
  have HB := hid hb
  clear hb HC HBY
  go_wp2
  go_ret
  exact ⟨rfl, HB0.out.trans (HB.out.mono HB0.out.size)⟩

end Go.Proofs.YtinijgkkmfdfiaaDoor
