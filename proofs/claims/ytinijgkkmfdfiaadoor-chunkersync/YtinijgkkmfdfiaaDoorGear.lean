/-
  A gear in memory; what fill, Do, New, Row and Roll of it do.
-/
import Derived.Test.YtinijgkkmfdfiaaDoorBase
import Derived.Deep.RegionWith
namespace Go.Proofs.YtinijgkkmfdfiaaDoor
open Go.RowKit

set_option maxHeartbeats 1000000 in
set_option maxRecDepth 100000 in
theorem fill_any (s b : Nat) (hs : s < M64) (w : World) (h0 : w.cell? ⟨b, 0, none⟩ = some (.int .u64 s)) (hc : ∀ j, j < 256 → ∃ x, w.cell? ⟨b, 4 + j, none⟩ = some x) (hf : ∀ j, w.frozen? ⟨b, j, none⟩ = false) :
    Calls Tryd.prog 56 #[.pointer (some ⟨b, 0, none⟩)] w fun e w' => e = .returned (.tuple #[]) ∧ Filled s b w w' 256 := by
  have HC := hid hc
  have HF := hid hf
  have H0 := hid h0
  clear hc hf h0
  go_enter Tryd.func56, Tryd.ntmps56
  go_wp2
  go_loopw [3] (fun i wr => ∃ k : Nat, k ≤ 256 ∧ i = .int .i64 k ∧ Hid (Filled s b w wr k)) (fun i _ => 256 - (intOf i).toNat)
  case atStart => exact ⟨0, by omega, rfl, Kept.refl _ _, rfl, by omega, fun _ _ => rfl, fun _ => rfl⟩
  case round =>
    obtain ⟨k, hk, rfl, H⟩ := hrel
    by_cases hlt : k < 256
    · obtain ⟨x, hx⟩ := HC.out k hlt
      have c0 := (H.out.2.2.2.1 0 (.inl (by omega))).trans H0.out
      have c1 := (H.out.2.2.2.1 (4 + k) (.inr (Nat.le_refl _))).trans hx
      have f1 := (H.out.2.2.2.2 (4 + k)).trans (HF.out _)
      have hlt1 : (k : Int) < 256 := by omega
      have hk8 : IntKind.u8.wrap (k : Int) = k := by rw [IntKind.wrap_u8]; omega
      go_wp2
      go_region_with (go_at_call 59; refine (row_any s k hs hlt _).mono ?_; rintro e w2 ⟨rfl, h2⟩; subst w2)
      all_goals go_wp2
      all_goals go_roundw
      all_goals first | exact ⟨k + 1, by omega, by go_num, H.out.drew.next x hx⟩ | (simp [intOf]; omega)
    · have : k = 256 := by omega
      subst this
      go_wp2
      go_end0
      exact ⟨rfl, H.out⟩

/-- A gear of seed s lies at b: f says whether its rows are filled. -/
def Gr (w : World) (b s f : Nat) : Prop :=
  b < w.heap.size ∧ w.cell? ⟨b, 0, none⟩ = some (.int .u64 s) ∧ w.cell? ⟨b, 1, none⟩ = some (.int .u32 f) ∧ w.cell? ⟨b, 2, none⟩ = some (.int .i32 0) ∧ (∀ j, j < 256 → ∃ x, w.cell? ⟨b, 4 + j, none⟩ = some x) ∧
    (f = 1 → ∀ j, j < 256 → w.cell? ⟨b, 4 + j, none⟩ = some (.int .u64 (rowOf s j : Nat))) ∧ (∀ j, w.frozen? ⟨b, j, none⟩ = false) ∧ s < M64

set_option maxHeartbeats 1600000 in
set_option maxRecDepth 100000 in
theorem slow_any (b s : Nat) (w : World) (h : Gr w b s 0) :
    Calls Tryd.prog 58 #[.pointer (some ⟨b, 1, none⟩), .func (.func 56) #[.pointer (some ⟨b, 0, none⟩)] #[]] w fun e w' => e = .returned (.tuple #[]) ∧ Kept b w w' ∧ Gr w' b s 1 := by
  obtain ⟨hb, h00, h0, h1, hr, -, hf, hs⟩ := h
  have f0 := hf 1
  have f1 := hf 2
  have HR := hid hr
  have HF := hid hf
  have H00 := hid h00
  clear hr hf h00
  have hl := run_call_load (P := Tryd.prog) Tryd.func60 (by kernel_rfl) (by kernel_rfl) (by kernel_rfl) .u32 (by kernel_rfl) (w := w.setCell ⟨b, 2, none⟩ (.int .i32 1)) (a := ⟨b, 1, none⟩) (x := 0) ((World.cell?_setCell_other _ ⟨b, 2, none⟩ ⟨b, 1, none⟩ _ (by simp)).trans h0)
  have hnot : ∀ (x : Bool) (w : World), (Op.unary .not (.bool x)).run Tryd.prog w = .ok (.bool (!x)) w := fun _ _ => rfl
  go_enter_defers Tryd.func58, Tryd.ntmps58
  go_wp2_with (first | (go_at_call 61; refine (lock_free ⟨b, 2, none⟩ _ (by go_simp) (by go_simp)).mono ?_; rintro e w' ⟨rfl, rfl⟩) | (go_at_call 57; go_in))
  refine (fill_any s b hs _ ((World.cell?_setCell_other _ ⟨b, 2, none⟩ ⟨b, 0, none⟩ _ (by simp)).trans H00.out) (fun j hj => ?_) (fun j => by simpa using HF.out j)).mono ?_
  · obtain ⟨x, hx⟩ := HR.out j hj
    exact ⟨x, (World.cell?_setCell_other _ _ _ _ (by simp only [ne_eq, Addr.mk.injEq, true_and, and_true]; omega)).trans hx⟩
  rintro e w2 ⟨rfl, K, hsz, hrows, hcells, hfz⟩
  go_wp2
  -- the door: two deferred calls, the last laid first
  have hw1 : Kept b w (w.setCell ⟨b, 2, none⟩ (.int .i32 1)) := (Kept.refl b w).setCell (p := ⟨b, 2, none⟩) rfl _
  have d00 : w2.cell? ⟨b, 0, none⟩ = some (.int .u64 s) := (hcells 0 (by omega)).trans ((World.cell?_setCell_other _ ⟨b, 2, none⟩ ⟨b, 0, none⟩ _ (by simp)).trans H00.out)
  have d0 : w2.cell? ⟨b, 1, none⟩ = some (.int .u32 0) := (hcells 1 (by omega)).trans ((World.cell?_setCell_other _ ⟨b, 2, none⟩ ⟨b, 1, none⟩ _ (by simp)).trans h0)
  have d1 : w2.cell? ⟨b, 2, none⟩ = some (.int .i32 1) := (hcells 2 (by omega)).trans (World.cell?_setCell_same _ _ _ h1)
  have g : ∀ j, w2.frozen? ⟨b, j, none⟩ = false := fun j => by rw [hfz j]; simpa using HF.out j
  refine leaves_cons (f := 63) (args := #[.pointer (some ⟨b, 1, none⟩), .bool true]) (by simp) (by simp [go_sem]) ?_
  refine (store_deferred ⟨b, 1, none⟩ (.int .u32 0) .returning _ d0 (g 1)).mono ?_
  rintro e u' w3 ⟨rfl, rfl, rfl⟩
  refine leaves_cons (f := 62) (args := #[.pointer (some ⟨b, 2, none⟩)]) (by simp [settle]) (by simp [go_sem]) ?_
  refine (unlock_deferred ⟨b, 2, none⟩ _ _ ?_ (by simpa using g 2)).mono ?_
  · refine (World.cell?_setCell_other _ ⟨b, 1, none⟩ ⟨b, 2, none⟩ _ (by simp)).trans ?_
    rw [World.cell?_drew]
    exact d1
  rintro e u' w3 ⟨rfl, rfl, rfl⟩
  have hk : Kept b w ((w2.drew.setCell ⟨b, 1, none⟩ (.int .u32 1)).setCell ⟨b, 2, none⟩ (.int .i32 0)) := ((hw1.trans K).drew.setCell (p := ⟨b, 1, none⟩) rfl _).setCell (p := ⟨b, 2, none⟩) rfl _
  have c1 : (w2.drew.setCell ⟨b, 1, none⟩ (.int .u32 1)).cell? ⟨b, 2, none⟩ = some (.int .i32 1) := (World.cell?_setCell_other _ ⟨b, 1, none⟩ ⟨b, 2, none⟩ _ (by simp)).trans (by rw [World.cell?_drew]; exact d1)
  have ho : ∀ j, j ≠ 1 → j ≠ 2 → ((w2.drew.setCell ⟨b, 1, none⟩ (.int .u32 1)).setCell ⟨b, 2, none⟩ (.int .i32 0)).cell? ⟨b, j, none⟩ = w2.cell? ⟨b, j, none⟩ := fun j hj hj2 => by
    rw [World.cell?_setCell_other _ ⟨b, 2, none⟩ ⟨b, j, none⟩ _ (by simp only [ne_eq, Addr.mk.injEq, true_and, and_true]; omega), World.cell?_setCell_other _ ⟨b, 1, none⟩ ⟨b, j, none⟩ _ (by simp only [ne_eq, Addr.mk.injEq, true_and, and_true]; omega), World.cell?_drew]
  have ht : Gr ((w2.drew.setCell ⟨b, 1, none⟩ (.int .u32 1)).setCell ⟨b, 2, none⟩ (.int .i32 0)) b s 1 := by
    refine ⟨by have := hsz; simp at this; simp; omega, ?_, ?_, ?_, ?_, ?_, ?_, hs⟩
    · rw [ho 0 (by omega) (by omega)]; exact d00
    · rw [World.cell?_setCell_other _ ⟨b, 2, none⟩ ⟨b, 1, none⟩ _ (by simp)]
      exact World.cell?_setCell_same _ _ _ (by rw [World.cell?_drew]; exact d0)
    · exact World.cell?_setCell_same _ _ _ c1
    · intro j hj
      exact ⟨_, (ho (4 + j) (by omega) (by omega)).trans (hrows j hj)⟩
    · intro _ j hj
      exact (ho (4 + j) (by omega) (by omega)).trans (hrows j hj)
    · intro j
      simpa using g j
  exact ⟨_, results_none rfl _ _ _, rfl, hk, ht⟩

/-- '(*sync.Once).Do' of a gear. -/
theorem do_any (b s f : Nat) (w : World) (hf : f = 0 ∨ f = 1) (h : Gr w b s f) :
    Calls Tryd.prog 55 #[.pointer (some ⟨b, 1, none⟩), .func (.func 56) #[.pointer (some ⟨b, 0, none⟩)] #[]] w fun e w' => e = .returned (.tuple #[]) ∧ Kept b w w' ∧ Gr w' b s 1 := by
  rcases hf with rfl | rfl
  · have h0 := h.2.2.1
    have hl := run_call_load (P := Tryd.prog) Tryd.func60 (by kernel_rfl) (by kernel_rfl) (by kernel_rfl) .u32 (by kernel_rfl) h0
    have hnot : ∀ (x : Bool) (w : World), (Op.unary .not (.bool x)).run Tryd.prog w = .ok (.bool (!x)) w := fun _ _ => rfl
    have H := hid h
    clear h
    go_enter Tryd.func55, Tryd.ntmps55
    go_wp2_with (first | (go_at_call 58; refine (slow_any b s _ H.out).mono ?_; rintro e w' ⟨rfl, hk, ht⟩) | (go_at_call 57; go_in))
    go_end0
    exact ⟨rfl, hk, ht⟩
  · refine (do_done ⟨b, 1, none⟩ _ w h.2.2.1).mono ?_
    rintro e w' ⟨rfl, rfl⟩
    exact ⟨rfl, Kept.refl _ _, h⟩

theorem Gr.kept {b s f g : Nat} {w w' : World} (h : Gr w b s f) (k : Kept g w w') (hg : b ≠ g) : Gr w' b s f := by
  obtain ⟨h1, h2, h3, h4, h5, h6, h7, h8⟩ := h
  have ho : ∀ j, w'.cell? ⟨b, j, none⟩ = w.cell? ⟨b, j, none⟩ := fun j => k.cell (p := ⟨b, j, none⟩) h1 hg
  refine ⟨Nat.lt_of_lt_of_le h1 k.size, (ho 0).trans h2, (ho 1).trans h3, (ho _).trans h4, fun j hj => ?_, fun e j hj => (ho _).trans (h6 e j hj), fun j => (k.frozen (p := ⟨b, j, none⟩) h1 hg).trans (h7 j), h8⟩
  obtain ⟨x, hx⟩ := h5 j hj
  exact ⟨x, (ho _).trans hx⟩
theorem Gr.below {b s f : Nat} {w w' : World} (h : Gr w b s f) {B : Nat} (k : Below B w w') (hB : b < B) : Gr w' b s f := by
  obtain ⟨h1, h2, h3, h4, h5, h6, h7, h8⟩ := h
  have ho : ∀ j, w'.cell? ⟨b, j, none⟩ = w.cell? ⟨b, j, none⟩ := fun j => k.cell (p := ⟨b, j, none⟩) hB
  refine ⟨Nat.lt_of_lt_of_le h1 k.size, (ho 0).trans h2, (ho 1).trans h3, (ho _).trans h4, fun j hj => ?_, fun e j hj => (ho _).trans (h6 e j hj), fun j => (World.frozen?_of_block (w := w) (k.block b hB)).trans (h7 j), h8⟩
  obtain ⟨x, hx⟩ := h5 j hj
  exact ⟨x, (ho _).trans hx⟩

set_option maxHeartbeats 1600000 in
set_option maxRecDepth 100000 in
/-- Row. -/
theorem row10_any (b s f c : Nat) (hc : c < 256) (w : World) (hf : f = 0 ∨ f = 1) (h : Gr w b s f) :
    Calls Tryd.prog 51 #[.pointer (some ⟨b, 0, none⟩), .int .u8 c] w fun e w' => e = .returned (.int .u64 (rowOf s c : Nat)) ∧ Kept b w w' ∧ Gr w' b s 1 := by
  have T := hid h
  clear h
  have hmf : ∀ (fn : Fn) (first cap : Array Value) (w : World), (Instr.makeFunc fn first cap).run Tryd.prog w = .ok (.func fn first cap) w := fun _ _ _ _ => rfl
  have hj2 : 0 ≤ (c : Int) ∧ (c : Int) < 256 := by omega
  go_enter Tryd.func51, Tryd.ntmps51
  go_wp2_with (go_at_call 55; refine (do_any b s f _ hf T.out).mono ?_; rintro e w1 ⟨rfl, hk, ht⟩; have c2 := ht.2.2.2.2.2.1 rfl c hc; have HT := hid ht; have HK := hid hk; clear ht hk)
  go_ret
  exact ⟨rfl, HK.out, HT.out⟩
/-- .. of a nil gear. -/
theorem row10_nil (c : Nat) (w : World) : Calls Tryd.prog 51 #[.pointer none, .int .u8 c] w fun e w' => e = .returned (.int .u64 0) ∧ w' = w := by
  go_enter Tryd.func51, Tryd.ntmps51
  go_wp2
  go_ret
  exact ⟨rfl, rfl⟩

theorem roll_i (s h c : Nat) : IntKind.u64.wrap (IntKind.u64.wrap ((h : Int) * 2) + ((rowOf s c : Nat) : Int)) = ((roll s h c : Nat) : Int) := by
  rw [IntKind.wrap_u64, IntKind.wrap_u64, roll, M64]
  omega
set_option maxHeartbeats 1600000 in
/-- Roll. -/
theorem roll12_any (b s f h c : Nat) (hc : c < 256) (w : World) (hf : f = 0 ∨ f = 1) (hg : Gr w b s f) :
    Calls Tryd.prog 45 #[.pointer (some ⟨b, 0, none⟩), .int .u64 h, .int .u8 c] w fun e w' => e = .returned (.int .u64 (roll s h c : Nat)) ∧ Kept b w w' ∧ Gr w' b s 1 := by
  have T := hid hg
  clear hg
  have hr := roll_i s h c
  go_enter Tryd.func45, Tryd.ntmps45
  go_wp2_with (go_at_call 51; refine (row10_any b s f c hc _ hf T.out).mono ?_; rintro e w1 ⟨rfl, hk, ht⟩; have HT := hid ht; have HK := hid hk; clear ht hk)
  go_ret
  exact ⟨rfl, HK.out, HT.out⟩
theorem roll12_nil (h c : Nat) (w : World) : Calls Tryd.prog 45 #[.pointer none, .int .u64 h, .int .u8 c] w fun e w' => e = .returned (.int .u64 0) ∧ w' = w := by
  go_enter Tryd.func45, Tryd.ntmps45
  go_wp2
  go_ret
  exact ⟨rfl, rfl⟩

end Go.Proofs.YtinijgkkmfdfiaaDoor
