/-
  An engine in memory; (*sync.Once).Do of its words, primes, New, Blocks.
-/
import Derived.Test.YtbmdnjmdehmahaaReckon
namespace Go.Proofs.Ytbmdnjmdehmahaa
open Go.RowKit

/-- An engine lies at b: f says whether its words are reckoned, n how many blocks it has gone through. -/
def Eng (w : World) (b f : Nat) (n : Int) : Prop :=
  b < w.heap.size ∧ w.cell? ⟨b, 0, none⟩ = some (.int .u32 f) ∧ w.cell? ⟨b, 1, none⟩ = some (.int .i32 0) ∧ w.cell? ⟨b, 75, none⟩ = some (.int .i64 n) ∧ (∀ j, 3 ≤ j → j < 75 → ∃ x, w.cell? ⟨b, j, none⟩ = some x) ∧
    (f = 1 → WordsAt w b 3 first8 ∧ WordsAt w b 11 words64) ∧ ∀ j, w.frozen? ⟨b, j, none⟩ = false

theorem Eng.kept {l : List Nat} {b f : Nat} {n : Int} {w w' : World} (h : Eng w b f n) (k : Kp l w w') (hg : b ∉ l) : Eng w' b f n := by
  obtain ⟨h1, h2, h3, h4, h5, h6, h7⟩ := h
  have ho : ∀ j, w'.cell? ⟨b, j, none⟩ = w.cell? ⟨b, j, none⟩ := fun j => k.cell (p := ⟨b, j, none⟩) h1 hg
  refine ⟨Nat.lt_of_lt_of_le h1 k.size, (ho 0).trans h2, (ho 1).trans h3, (ho _).trans h4, fun j h3 hj => ?_, fun e => ⟨k.words (h6 e).1 h1 hg, k.words (h6 e).2 h1 hg⟩, fun j => (k.frozen (p := ⟨b, j, none⟩) h1 hg).trans (h7 j)⟩
  obtain ⟨x, hx⟩ := h5 j h3 hj
  exact ⟨x, (ho _).trans hx⟩
theorem Eng.below {b f : Nat} {n : Int} {w w' : World} (h : Eng w b f n) (k : Below w.heap.size w w') : Eng w' b f n := h.kept (l := []) (Kp.below k) (by simp)

theorem Eng.add {b f : Nat} {n : Int} {w : World} (h : Eng w b f n) (m : Int) : Eng (w.setCell ⟨b, 75, none⟩ (.int .i64 m)) b f m := by
  obtain ⟨h1, h2, h3, h4, h5, h6, h7⟩ := h
  have ho : ∀ j, j ≠ 75 → (w.setCell ⟨b, 75, none⟩ (.int .i64 m)).cell? ⟨b, j, none⟩ = w.cell? ⟨b, j, none⟩ := fun j hj => cell_set _ _ _ _ _ hj
  refine ⟨by simpa using h1, (ho 0 (by omega)).trans h2, (ho 1 (by omega)).trans h3, World.cell?_setCell_same _ _ _ h4, fun j h3 hj => ?_, fun e => ⟨fun i hi => (ho _ (by have : i < 8 := hi; omega)).trans ((h6 e).1 i hi), fun i hi => (ho _ (by have : i < 64 := hi; omega)).trans ((h6 e).2 i hi)⟩, fun j => by simpa using h7 j⟩
  obtain ⟨x, hx⟩ := h5 j h3 hj
  exact ⟨x, (ho _ (by omega)).trans hx⟩

set_option maxHeartbeats 1600000 in
set_option maxRecDepth 100000 in
theorem slow_any (b : Nat) (n : Int) (w : World) (h : Eng w b 0 n) :
    Calls Try.prog 54 #[.pointer (some ⟨b, 0, none⟩), .func (.func 45) #[.pointer (some ⟨b, 3, none⟩)] #[]] w fun e w' => e = .returned (.tuple #[]) ∧ Kp [b] w w' ∧ Eng w' b 1 n := by
  obtain ⟨hb, h0, h1, h75, hr, -, hf⟩ := h
  have f0 := hf 0
  have f1 := hf 1
  have HR := hid hr
  have HF := hid hf
  clear hr hf
  have hl := run_call_load (P := Try.prog) Try.func62 (by kernel_rfl) (by kernel_rfl) (by kernel_rfl) .u32 (by kernel_rfl) (w := w.setCell ⟨b, 1, none⟩ (.int .i32 1)) (a := ⟨b, 0, none⟩) (x := 0) ((World.cell?_setCell_other _ ⟨b, 1, none⟩ ⟨b, 0, none⟩ _ (by simp)).trans h0)
  have hnot : ∀ (x : Bool) (w : World), (Op.unary .not (.bool x)).run Try.prog w = .ok (.bool (!x)) w := fun _ _ => rfl
  go_enter_defers Try.func54, Try.ntmps54
  go_wp2_with (first | (go_at_call 63; refine (lock_free ⟨b, 1, none⟩ _ (by go_simp) (by go_simp)).mono ?_; rintro e w' ⟨rfl, rfl⟩) | (go_at_call 53; go_in))
  refine (reckon_any b _ (by simpa using hb) (fun j k1 k2 => ?_) (fun j => by simpa using HF.out j)).mono ?_
  · obtain ⟨x, hx⟩ := HR.out j k1 k2
    exact ⟨x, (cell_set _ _ _ _ _ (by omega)).trans hx⟩
  rintro e w2 ⟨rfl, K, hkeys, hstart, hcells, hsome, hfz⟩
  go_wp2
  -- the door: two deferred calls, the last laid first
  have hw1 : Kp [b] w (w.setCell ⟨b, 1, none⟩ (.int .i32 1)) := (Kp.refl [b] w).setCell (p := ⟨b, 1, none⟩) (.inl (by simp)) _
  have d0 : w2.cell? ⟨b, 0, none⟩ = some (.int .u32 0) := (hcells 0 (by omega)).trans ((World.cell?_setCell_other _ ⟨b, 1, none⟩ ⟨b, 0, none⟩ _ (by simp)).trans h0)
  have d1 : w2.cell? ⟨b, 1, none⟩ = some (.int .i32 1) := (hcells 1 (by omega)).trans (World.cell?_setCell_same _ _ _ h1)
  have d75 : w2.cell? ⟨b, 75, none⟩ = some (.int .i64 n) := (hcells 75 (by omega)).trans ((World.cell?_setCell_other _ ⟨b, 1, none⟩ ⟨b, 75, none⟩ _ (by simp)).trans h75)
  have g : ∀ j, w2.frozen? ⟨b, j, none⟩ = false := fun j => by rw [hfz j]; simpa using HF.out j
  refine leaves_cons (f := 65) (args := #[.pointer (some ⟨b, 0, none⟩), .bool true]) (by simp) (by simp [go_sem]) ?_
  refine (store_deferred ⟨b, 0, none⟩ (.int .u32 0) .returning _ d0 (g 0)).mono ?_
  rintro e u' w3 ⟨rfl, rfl, rfl⟩
  refine leaves_cons (f := 64) (args := #[.pointer (some ⟨b, 1, none⟩)]) (by simp [settle]) (by simp [go_sem]) ?_
  refine (unlock_deferred ⟨b, 1, none⟩ _ _ ?_ (by simpa using g 1)).mono ?_
  · refine (World.cell?_setCell_other _ ⟨b, 0, none⟩ ⟨b, 1, none⟩ _ (by simp)).trans ?_
    rw [World.cell?_drew]
    exact d1
  rintro e u' w3 ⟨rfl, rfl, rfl⟩
  have hk : Kp [b] w ((w2.drew.setCell ⟨b, 0, none⟩ (.int .u32 1)).setCell ⟨b, 1, none⟩ (.int .i32 0)) := ((hw1.trans K).drew.setCell (p := ⟨b, 0, none⟩) (.inl (by simp)) _).setCell (p := ⟨b, 1, none⟩) (.inl (by simp)) _
  have c1 : (w2.drew.setCell ⟨b, 0, none⟩ (.int .u32 1)).cell? ⟨b, 1, none⟩ = some (.int .i32 1) := (World.cell?_setCell_other _ ⟨b, 0, none⟩ ⟨b, 1, none⟩ _ (by simp)).trans (by rw [World.cell?_drew]; exact d1)
  have ho : ∀ j, 1 < j → ((w2.drew.setCell ⟨b, 0, none⟩ (.int .u32 1)).setCell ⟨b, 1, none⟩ (.int .i32 0)).cell? ⟨b, j, none⟩ = w2.cell? ⟨b, j, none⟩ := fun j hj => by
    rw [cell_set _ _ _ _ _ (by omega), cell_set _ _ _ _ _ (by omega), World.cell?_drew]
  have ht : Eng ((w2.drew.setCell ⟨b, 0, none⟩ (.int .u32 1)).setCell ⟨b, 1, none⟩ (.int .i32 0)) b 1 n := by
    refine ⟨by have := K.size; simp at this; simp; omega, ?_, ?_, ?_, ?_, ?_, ?_⟩
    · rw [World.cell?_setCell_other _ ⟨b, 1, none⟩ ⟨b, 0, none⟩ _ (by simp)]
      exact World.cell?_setCell_same _ _ _ (by rw [World.cell?_drew]; exact d0)
    · exact World.cell?_setCell_same _ _ _ c1
    · rw [ho 75 (by omega)]; exact d75
    · intro j k1 k2
      obtain ⟨x, hx⟩ := hsome j k1 k2
      exact ⟨x, (ho j (by omega)).trans hx⟩
    · intro _
      exact ⟨fun j hj => (ho (3 + j) (by omega)).trans (hstart j (by have : j < 8 := hj; omega) hj), fun j hj => (ho (11 + j) (by omega)).trans (hkeys j hj)⟩
    · intro j
      simpa using g j
  exact ⟨_, results_none rfl _ _ _, rfl, hk, ht⟩

set_option maxRecDepth 100000 in
/-- '(*sync.Once).Do' of an engine's words. -/
theorem do_any (b f : Nat) (n : Int) (w : World) (hf : f = 0 ∨ f = 1) (h : Eng w b f n) :
    Calls Try.prog 44 #[.pointer (some ⟨b, 0, none⟩), .func (.func 45) #[.pointer (some ⟨b, 3, none⟩)] #[]] w fun e w' => e = .returned (.tuple #[]) ∧ Kp [b] w w' ∧ Eng w' b 1 n := by
  rcases hf with rfl | rfl
  · have h0 := h.2.1
    have hl := run_call_load (P := Try.prog) Try.func62 (by kernel_rfl) (by kernel_rfl) (by kernel_rfl) .u32 (by kernel_rfl) h0
    have hnot : ∀ (x : Bool) (w : World), (Op.unary .not (.bool x)).run Try.prog w = .ok (.bool (!x)) w := fun _ _ => rfl
    have H := hid h
    clear h
    go_enter Try.func44, Try.ntmps44
    go_wp2_with (first | (go_at_call 54; refine (slow_any b n _ H.out).mono ?_; rintro e w' ⟨rfl, hk, ht⟩) | (go_at_call 53; go_in))
    go_end0
    exact ⟨rfl, hk, ht⟩
  · refine (do_done ⟨b, 0, none⟩ _ w h.2.1).mono ?_
    rintro e w' ⟨rfl, rfl⟩
    exact ⟨rfl, Kp.refl _ _, h⟩

theorem Kp.eng {b f : Nat} {n : Int} {w : World} (h : Eng w b f n) (q : Nat) : Eng (w.drewN q) b f n := h.below (below_drewN (Below.refl _ _) q)

set_option maxHeartbeats 1000000 in
set_option maxRecDepth 100000 in
/-- The words of primes, reckoned if they are not. -/
theorem prim_any (b f : Nat) (n : Int) (w : World) (hf : f = 0 ∨ f = 1) (h : Eng w b f n) :
    Calls Try.prog 29 #[.pointer (some ⟨b, 0, none⟩)] w fun e w' => e = .returned (.pointer (some ⟨b, 3, none⟩)) ∧ Kp [b] w w' ∧ Eng w' b 1 n := by
  have H := hid h
  clear h
  have hmf : ∀ (fn : Fn) (first cap : Array Value) (w : World), (Instr.makeFunc fn first cap).run Try.prog w = .ok (.func fn first cap) w := fun _ _ _ _ => rfl
  go_enter Try.func29, Try.ntmps29
  go_upto_region 1 with fail
  go_region_held3 (fun _ => True) (trivial) (first | (go_at_call 44; refine (do_any b f n _ hf (H.out.below (Below.refl _ _).drew)).mono ?_; rintro e w1 ⟨rfl, hk, ht⟩))
  have HK := hid ((Kp.refl [b] w).drew.trans hk)
  have HT := hid ht
  clear hk ht
  go_wp2_with fail
  go_ret
  exact ⟨rfl, HK.out, HT.out⟩

def Z71 : Array Value := #[.int .u32 0, .int .i32 0, .int .u32 0] ++ (Array.replicate 72 (.int .u32 0) ++ #[.int .i64 0])
theorem zero71 : Try.zeroCells71 = Z71 := by kernel_rfl
theorem Z71_at (j : Nat) (h : j < 72) : Z71[3 + j]? = some (.int .u32 0) := by
  rw [Z71, Array.getElem?_append_right (by simp), Array.getElem?_append_left (by simp; omega)]
  simp [h]

set_option maxHeartbeats 400000 in
set_option maxRecDepth 100000 in
theorem new_any (w : World) :
    Calls Try.prog 8 #[] w fun e w' => e = .returned (.pointer (some ⟨w.heap.size, 0, none⟩)) ∧ Below w.heap.size w w' ∧ w'.heap.size = w.heap.size + 1 ∧ Eng w' w.heap.size 0 0 := by
  go_enter Try.func8, Try.ntmps8
  go_wp2
  rw [zero71]
  go_ret
  have ho : ∀ j, (w.alloc (.cells Z71 71)).cell? ⟨w.heap.size, j, none⟩ = Z71[j]? := fun j => World.cell?_alloc_at _ _ _ _ rfl
  refine ⟨rfl, (Below.refl _ _).alloc (Nat.le_refl _) _, by simp, by simp, ho 0, ho 1, ho 75, fun j h1 h2 => ⟨_, (ho _).trans (by have := Z71_at (j - 3) (by omega); rwa [show 3 + (j - 3) = j by omega] at this)⟩, fun e => absurd e (by decide), fun j => World.frozen?_alloc_at _ _ _ _ rfl⟩

/-- How many blocks were counted. -/
theorem blocks_any (b f : Nat) (n : Int) (w : World) (h : Eng w b f n) :
    Calls Try.prog 17 #[.pointer (some ⟨b, 0, none⟩)] w fun e w' => e = .returned (.int .i64 n) ∧ w' = w := by
  have hl := run_call_load (P := Try.prog) Try.func46 (by kernel_rfl) (by kernel_rfl) (by kernel_rfl) .i64 (by kernel_rfl) h.2.2.2.1
  have H := hid h
  clear h
  go_enter Try.func17, Try.ntmps17
  go_wp2
  go_ret
  exact ⟨rfl, rfl⟩
end Go.Proofs.Ytbmdnjmdehmahaa
