/-
  A table in memory; what Do, More and Sum of it do.
-/
import Derived.Test.YthbhdbjjobfchaaCrcOnce
namespace Go.Proofs.Ythbhdbjjobfchaa.Crc
open Go.RowKit

/-- A table lies at b: f says whether its rows are filled, n how many bytes it has gone through. -/
def Tab (w : World) (b f : Nat) (n : Int) : Prop :=
  b < w.heap.size ∧ w.cell? ⟨b, 0, none⟩ = some (.int .u32 f) ∧ w.cell? ⟨b, 1, none⟩ = some (.int .i32 0) ∧ w.cell? ⟨b, 259, none⟩ = some (.int .i64 n) ∧ (∀ j, j < 256 → ∃ x, w.cell? ⟨b, 3 + j, none⟩ = some x) ∧
    (f = 1 → ∀ j, j < 256 → w.cell? ⟨b, 3 + j, none⟩ = some (.int .u32 (stps 8 j : Nat))) ∧ ∀ j, w.frozen? ⟨b, j, none⟩ = false

set_option maxHeartbeats 1600000 in
set_option maxRecDepth 100000 in
theorem slow_any (b : Nat) (n : Int) (w : World) (h : Tab w b 0 n) :
    Calls Try.prog 73 #[.pointer (some ⟨b, 0, none⟩), .func (.func 68) #[.pointer (some ⟨b, 0, none⟩)] #[]] w fun e w' => e = .returned (.tuple #[]) ∧ Kept b w w' ∧ Tab w' b 1 n := by
  obtain ⟨hb, h0, h1, h259, hr, -, hf⟩ := h
  have f0 := hf 0
  have f1 := hf 1
  have HR := hid hr
  have HF := hid hf
  clear hr hf
  have hl := run_call_load (P := Try.prog) Try.func78 (by kernel_rfl) (by kernel_rfl) (by kernel_rfl) .u32 (by kernel_rfl) (w := w.setCell ⟨b, 1, none⟩ (.int .i32 1)) (a := ⟨b, 0, none⟩) (x := 0) ((World.cell?_setCell_other _ ⟨b, 1, none⟩ ⟨b, 0, none⟩ _ (by simp)).trans h0)
  have hnot : ∀ (x : Bool) (w : World), (Op.unary .not (.bool x)).run Try.prog w = .ok (.bool (!x)) w := fun _ _ => rfl
  go_enter_defers Try.func73, Try.ntmps73
  go_wp2_with (first | (go_at_call 79; refine (lock_free ⟨b, 1, none⟩ _ (by go_simp) (by go_simp)).mono ?_; rintro e w' ⟨rfl, rfl⟩) | (go_at_call 72; go_in))
  refine (fill_any b _ (fun j hj => ?_) (fun j => by simpa using HF.out j)).mono ?_
  · obtain ⟨x, hx⟩ := HR.out j hj
    exact ⟨x, (World.cell?_setCell_other _ _ _ _ (by simp only [ne_eq, Addr.mk.injEq, true_and, and_true]; omega)).trans hx⟩
  rintro e w2 ⟨rfl, K, hs, hrows, hcells, hfz⟩
  go_wp2
  -- the door: two deferred calls, the last laid first
  have hw1 : Kept b w (w.setCell ⟨b, 1, none⟩ (.int .i32 1)) := (Kept.refl b w).setCell (p := ⟨b, 1, none⟩) rfl _
  have d0 : w2.cell? ⟨b, 0, none⟩ = some (.int .u32 0) := (hcells 0 (by omega)).trans ((World.cell?_setCell_other _ ⟨b, 1, none⟩ ⟨b, 0, none⟩ _ (by simp)).trans h0)
  have d1 : w2.cell? ⟨b, 1, none⟩ = some (.int .i32 1) := (hcells 1 (by omega)).trans (World.cell?_setCell_same _ _ _ h1)
  have d259 : w2.cell? ⟨b, 259, none⟩ = some (.int .i64 n) := (hcells 259 (by omega)).trans ((World.cell?_setCell_other _ ⟨b, 1, none⟩ ⟨b, 259, none⟩ _ (by simp)).trans h259)
  have g : ∀ j, w2.frozen? ⟨b, j, none⟩ = false := fun j => by rw [hfz j]; simpa using HF.out j
  refine leaves_cons (f := 81) (args := #[.pointer (some ⟨b, 0, none⟩), .bool true]) (by simp) (by simp [go_sem]) ?_
  refine (store_deferred ⟨b, 0, none⟩ (.int .u32 0) .returning _ d0 (g 0)).mono ?_
  rintro e u' w3 ⟨rfl, rfl, rfl⟩
  refine leaves_cons (f := 80) (args := #[.pointer (some ⟨b, 1, none⟩)]) (by simp [settle]) (by simp [go_sem]) ?_
  refine (unlock_deferred ⟨b, 1, none⟩ _ _ ?_ (by simpa using g 1)).mono ?_
  · refine (World.cell?_setCell_other _ ⟨b, 0, none⟩ ⟨b, 1, none⟩ _ (by simp)).trans ?_
    rw [World.cell?_drew]
    exact d1
  rintro e u' w3 ⟨rfl, rfl, rfl⟩
  have hk : Kept b w ((w2.drew.setCell ⟨b, 0, none⟩ (.int .u32 1)).setCell ⟨b, 1, none⟩ (.int .i32 0)) := ((hw1.trans K).drew.setCell (p := ⟨b, 0, none⟩) rfl _).setCell (p := ⟨b, 1, none⟩) rfl _
  have c1 : (w2.drew.setCell ⟨b, 0, none⟩ (.int .u32 1)).cell? ⟨b, 1, none⟩ = some (.int .i32 1) := (World.cell?_setCell_other _ ⟨b, 0, none⟩ ⟨b, 1, none⟩ _ (by simp)).trans (by rw [World.cell?_drew]; exact d1)
  have ho : ∀ j, 1 < j → ((w2.drew.setCell ⟨b, 0, none⟩ (.int .u32 1)).setCell ⟨b, 1, none⟩ (.int .i32 0)).cell? ⟨b, j, none⟩ = w2.cell? ⟨b, j, none⟩ := fun j hj => by
    rw [World.cell?_setCell_other _ ⟨b, 1, none⟩ ⟨b, j, none⟩ _ (by simp only [ne_eq, Addr.mk.injEq, true_and, and_true]; omega), World.cell?_setCell_other _ ⟨b, 0, none⟩ ⟨b, j, none⟩ _ (by simp only [ne_eq, Addr.mk.injEq, true_and, and_true]; omega), World.cell?_drew]
  have ht : Tab ((w2.drew.setCell ⟨b, 0, none⟩ (.int .u32 1)).setCell ⟨b, 1, none⟩ (.int .i32 0)) b 1 n := by
    refine ⟨by have := hs; simp at this; simp; omega, ?_, ?_, ?_, ?_, ?_, ?_⟩
    · rw [World.cell?_setCell_other _ ⟨b, 1, none⟩ ⟨b, 0, none⟩ _ (by simp)]
      exact World.cell?_setCell_same _ _ _ (by rw [World.cell?_drew]; exact d0)
    · exact World.cell?_setCell_same _ _ _ c1
    · rw [ho 259 (by omega)]; exact d259
    · intro j hj
      exact ⟨_, (ho (3 + j) (by omega)).trans (hrows j hj)⟩
    · intro _ j hj
      exact (ho (3 + j) (by omega)).trans (hrows j hj)
    · intro j
      simpa using g j
  exact ⟨_, results_none rfl _ _ _, rfl, hk, ht⟩

/-- '(*sync.Once).Do' of a table. -/
theorem do_any (b f : Nat) (n : Int) (w : World) (hf : f = 0 ∨ f = 1) (h : Tab w b f n) :
    Calls Try.prog 67 #[.pointer (some ⟨b, 0, none⟩), .func (.func 68) #[.pointer (some ⟨b, 0, none⟩)] #[]] w fun e w' => e = .returned (.tuple #[]) ∧ Kept b w w' ∧ Tab w' b 1 n := by
  rcases hf with rfl | rfl
  · have h0 := h.2.1
    have hl := run_call_load (P := Try.prog) Try.func78 (by kernel_rfl) (by kernel_rfl) (by kernel_rfl) .u32 (by kernel_rfl) h0
    have hnot : ∀ (x : Bool) (w : World), (Op.unary .not (.bool x)).run Try.prog w = .ok (.bool (!x)) w := fun _ _ => rfl
    have H := hid h
    clear h
    go_enter Try.func67, Try.ntmps67
    go_wp2_with (first | (go_at_call 73; refine (slow_any b n _ H.out).mono ?_; rintro e w' ⟨rfl, hk, ht⟩) | (go_at_call 72; go_in))
    go_end0
    exact ⟨rfl, hk, ht⟩
  · refine (do_done ⟨b, 0, none⟩ _ w h.2.1).mono ?_
    rintro e w' ⟨rfl, rfl⟩
    exact ⟨rfl, Kept.refl _ _, h⟩

/-- v is a slice of the bytes bs, in blocks other than b. -/
def BySl (b : Nat) (w : World) (v : Value) (bs : List Nat) : Prop :=
  ∃ a cap, v = .slice a bs.length cap ∧ bs.length ≤ cap ∧ cap ≤ maxLen ∧ (a = none → bs = [] ∧ cap = 0) ∧ bs.length ≤ 140737488355328 ∧ (∀ x ∈ bs, x < 256) ∧
    (bs ≠ [] → ∃ g o, a = some ⟨g, o, none⟩ ∧ g ≠ b ∧ g < w.heap.size ∧ ∀ i, i < bs.length → w.cell? ⟨g, o + i, none⟩ = some (.int .u8 (bs.getD i 0 : Nat)))

theorem BySl.kept {b : Nat} {w w' : World} {v : Value} {bs : List Nat} (h : BySl b w v bs) (k : Kept b w w') : BySl b w' v bs := by
  obtain ⟨a, cap, h1, h2, h3, h4, h5, h6, h7⟩ := h
  refine ⟨a, cap, h1, h2, h3, h4, h5, h6, fun hne => ?_⟩
  obtain ⟨g, o, e, hgb, hg, hc⟩ := h7 hne
  exact ⟨g, o, e, hgb, Nat.lt_of_lt_of_le hg k.size, fun i hi => (k.cell (p := ⟨g, o + i, none⟩) hg hgb).trans (hc i hi)⟩

theorem BySl.none (b : Nat) (w : World) : BySl b w (.slice none 0 0) [] := ⟨_, 0, rfl, Nat.le_refl _, Nat.zero_le _, fun _ => ⟨rfl, rfl⟩, by simp, by simp, fun h => absurd rfl h⟩

theorem not_u32 (s : Nat) (hs : s < 4294967296) : bits .xor .u32 IntKind.u32.max (s : Int) = ((nt s : Nat) : Int) := by
  have h := u32_xor_nat 4294967295 s (by decide) hs
  rw [nt_xor hs]
  exact h

/-- The bytes are counted. -/
theorem add_any (a : Addr) (n d : Int) (w : World) (hc : w.cell? a = some (.int .i64 n)) (hz : w.frozen? a = false) :
    Calls Try.prog 69 #[.pointer (some a), .int .i64 d] w fun e w' => e = .returned (.int .i64 (wrap64 (n + d))) ∧ w' = w.setCell a (.int .i64 (wrap64 (n + d))) := by
  have hadd := run_call_add (P := Try.prog) Try.func75 (by kernel_rfl) (by kernel_rfl) (by kernel_rfl) .i64 (by kernel_rfl) (y := d) (s := wrap64 (n + d)) hc hz (by simp [go_sem, wrap64, IntKind.wrap_i64])
  go_enter Try.func69, Try.ntmps69
  go_wp2
  go_ret
  exact ⟨rfl, rfl⟩

theorem Tab.add {b f : Nat} {n : Int} {w : World} (h : Tab w b f n) (m : Int) : Tab (w.setCell ⟨b, 259, none⟩ (.int .i64 m)) b f m := by
  obtain ⟨h1, h2, h3, h4, h5, h6, h7⟩ := h
  have ho : ∀ j, j ≠ 259 → (w.setCell ⟨b, 259, none⟩ (.int .i64 m)).cell? ⟨b, j, none⟩ = w.cell? ⟨b, j, none⟩ := fun j hj => World.cell?_setCell_other _ _ _ _ (by simp only [ne_eq, Addr.mk.injEq, true_and, and_true]; omega)
  refine ⟨by simpa using h1, (ho 0 (by omega)).trans h2, (ho 1 (by omega)).trans h3, World.cell?_setCell_same _ _ _ h4, fun j hj => ?_, fun e j hj => (ho _ (by omega)).trans (h6 e j hj), fun j => by simpa using h7 j⟩
  obtain ⟨x, hx⟩ := h5 j hj
  exact ⟨x, (ho _ (by omega)).trans hx⟩

theorem Tab.kept {b f g : Nat} {n : Int} {w w' : World} (h : Tab w b f n) (k : Kept g w w') (hg : b ≠ g) : Tab w' b f n := by
  obtain ⟨h1, h2, h3, h4, h5, h6, h7⟩ := h
  have ho : ∀ j, w'.cell? ⟨b, j, none⟩ = w.cell? ⟨b, j, none⟩ := fun j => k.cell (p := ⟨b, j, none⟩) h1 hg
  refine ⟨Nat.lt_of_lt_of_le h1 k.size, (ho 0).trans h2, (ho 1).trans h3, (ho _).trans h4, fun j hj => ?_, fun e j hj => (ho _).trans (h6 e j hj), fun j => (k.frozen (p := ⟨b, j, none⟩) h1 hg).trans (h7 j)⟩
  obtain ⟨x, hx⟩ := h5 j hj
  exact ⟨x, (ho _).trans hx⟩
theorem Tab.below {b f : Nat} {n : Int} {w w' : World} (h : Tab w b f n) (k : Below w.heap.size w w') : Tab w' b f n := h.kept (Kept.below (b := b + 1) k) (by omega)

theorem tab_step (r c : Nat) (hr : r < 4294967296) (hc : c < 256) : bits .xor .u32 ((r : Int) / 256) ((stps 8 (r % 256 ^^^ c) : Nat) : Int) = ((byt r c : Nat) : Int) := by
  have h := u32_xor_nat (r / 256) (stps 8 (r % 256 ^^^ c)) (by omega) (stps_lt 8 (Nat.lt_trans (Nat.xor_lt_two_pow (n := 8) (Nat.mod_lt _ (by decide)) hc) (by decide)))
  rw [byt_tab, ← h]
  rfl

set_option maxHeartbeats 1600000 in
set_option maxRecDepth 100000 in
theorem more_any (b f : Nat) (n : Int) (s : Nat) (hs : s < 4294967296) (v : Value) (bs : List Nat) (w : World) (hf : f = 0 ∨ f = 1) (ht : Tab w b f n) (hv : BySl b w v bs) :
    Calls Try.prog 59 #[.pointer (some ⟨b, 0, none⟩), .int .u32 s, v] w fun e w' => e = .returned (.int .u32 (more s bs : Nat)) ∧ Kept b w w' ∧ Tab w' b 1 (wrap64 (n + bs.length)) := by
  obtain ⟨a, cap, rfl, hr⟩ := id hv
  clear hr
  have H := hid hv
  have T := hid ht
  clear hv ht
  have hmf : ∀ (fn : Fn) (first cap : Array Value) (w : World), (Instr.makeFunc fn first cap).run Try.prog w = .ok (.func fn first cap) w := fun _ _ _ _ => rfl
  have hsg : IntKind.u32.signed = false := rfl
  have hn := not_u32 s hs
  go_enter Try.func59, Try.ntmps59
  go_wp2_with (go_at_call 67; refine (do_any b f n _ hf T.out).mono ?_; rintro e w1 ⟨rfl, hk, ht⟩)
  refine (add_any ⟨b, 259, none⟩ n _ _ ht.2.2.2.1 (ht.2.2.2.2.2.2 _)).mono ?_
  rintro e w2 ⟨rfl, rfl⟩
  have ht2 := hid (ht.add (wrap64 (n + bs.length)))
  have hk2 : Hid (Kept b w (w1.setCell ⟨b, 259, none⟩ (.int .i64 (wrap64 (n + bs.length))))) := hk.setCell (p := ⟨b, 259, none⟩) rfl _
  clear hk ht
  generalize w1.setCell ⟨b, 259, none⟩ (.int .i64 (wrap64 (n + bs.length))) = W at *
  have HW := hid (H.out.kept hk2.out)
  go_wp2
  have HT := hid (ht2.out.2.2.2.2.2.1 rfl)
  obtain ⟨a', cap', e', h2, h3, h4, h5, h6, h7⟩ := HW.out
  cases e'
  have H6 := hid h6
  have H7 := hid h7
  clear h6 h7 h4 hn
  go_loopw [7, 28] (fun r i wr => ∃ k : Nat, k ≤ bs.length ∧ i = .int .i64 k ∧ r = .int .u32 (reg (nt s) (bs.take k) : Nat) ∧ wr = W) (fun _ i _ => bs.length - (intOf i).toNat)
  case atStart => exact ⟨0, Nat.zero_le _, rfl, rfl, rfl⟩
  case round =>
    obtain ⟨k, hk, rfl, rfl, hwr⟩ := hrel
    subst wr
    by_cases hlt : k < bs.length
    · obtain ⟨g, o, rfl, _, _, hc⟩ := H7.out (by intro e; subst e; simp at hlt)
      have c1 := hc k hlt
      clear hc
      have hx : bs.getD k 0 < 256 := by
        have := H6.out (bs[k]) (List.getElem_mem hlt)
        simpa [List.getElem?_eq_getElem hlt] using this
      have hsn : Hid (reg (nt s) (bs.take (k + 1)) = byt (reg (nt s) (bs.take k)) (bs.getD k 0)) := by
        rw [Hid, List.take_succ_eq_append_getElem hlt, reg_snoc]
        simp [List.getElem?_eq_getElem hlt]
      have hr := reg_lt (bs.take k) (r := nt s) (fun x hx => H6.out x (List.mem_of_mem_take hx)) (nt_lt s)
      generalize bs.getD k 0 = c at *
      generalize reg (nt s) (bs.take k) = r at *
      have hj : r % 256 ^^^ c < 256 := Nat.xor_lt_two_pow (n := 8) (Nat.mod_lt _ (by decide)) hx
      have c2 := HT.out (r % 256 ^^^ c) hj
      have hst := tab_step r c hr hx
      have hx8 : bits .xor .u8 ((r : Int) % 256) (c : Int) = ((r % 256 ^^^ c : Nat) : Int) := u8_xor_nat (r % 256) c (by omega) hx
      generalize r % 256 ^^^ c = j at *
      have hj2 : 0 ≤ (j : Int) ∧ (j : Int) < 256 := by omega
      generalize stps 8 j = y at *
      generalize byt r c = z at *
      go_wp2
      go_roundw
      case rel => exact ⟨k + 1, by omega, by go_num, by rw [hsn.out], by first | rfl | trivial⟩
      case measure => simp [intOf]; omega
    · have e : bs.take k = bs := List.take_of_length_le (by omega)
      rw [e]
      have hl := reg_lt bs (r := nt s) H6.out (nt_lt s)
      have hn := not_u32 _ hl
      go_wp2
      go_ret
      exact ⟨rfl, hk2.out, ht2.out⟩

set_option maxHeartbeats 400000 in
theorem sum_any (b f : Nat) (n : Int) (v : Value) (bs : List Nat) (w : World) (hf : f = 0 ∨ f = 1) (ht : Tab w b f n) (hv : BySl b w v bs) :
    Calls Try.prog 46 #[.pointer (some ⟨b, 0, none⟩), v] w fun e w' => e = .returned (.int .u32 (more 0 bs : Nat)) ∧ Kept b w w' ∧ Tab w' b 1 (wrap64 (n + bs.length)) := by
  obtain ⟨a, cap, rfl, hr⟩ := id hv
  clear hr
  have H := hid hv
  have T := hid ht
  clear hv ht
  go_enter Try.func46, Try.ntmps46
  go_wp2_with (go_at_call 59; refine (more_any b f n 0 (by decide) _ bs _ hf T.out H.out).mono ?_; rintro e w1 ⟨rfl, hk, ht⟩)
  go_ret
  exact ⟨rfl, hk, ht⟩

/-- The reference: a byte, bit by bit. -/
theorem ref_xor (r c : Nat) (hr : r < 4294967296) (hc : c < 256) : bits .xor .u32 (r : Int) (c : Int) = ((r ^^^ c : Nat) : Int) := u32_xor_nat r c hr (by omega)

set_option maxHeartbeats 1600000 in
set_option maxRecDepth 100000 in
theorem refMore_any (b : Nat) (s : Nat) (hs : s < 4294967296) (v : Value) (bs : List Nat) (w : World) (hv : BySl b w v bs) :
    Calls Try.prog 61 #[.int .u32 s, v] w fun e w' => e = .returned (.int .u32 (more s bs : Nat)) ∧ w' = w := by
  obtain ⟨a, cap, rfl, h2, h3, h4, h5, h6, h7⟩ := hv
  have H6 := hid h6
  have H7 := hid h7
  clear h6 h7 h4
  have hsg : IntKind.u32.signed = false := rfl
  have hn := not_u32 s hs
  go_enter Try.func61, Try.ntmps61
  go_wp2
  clear hn
  go_loopw [5, 6] (fun r i wr => ∃ k : Nat, k ≤ bs.length ∧ i = .int .i64 k ∧ r = .int .u32 (reg (nt s) (bs.take k) : Nat) ∧ wr = w) (fun _ i _ => bs.length - (intOf i).toNat)
  case atStart => exact ⟨0, Nat.zero_le _, rfl, rfl, rfl⟩
  case round =>
    obtain ⟨k, hk, rfl, rfl, hwr⟩ := hrel
    subst wr
    by_cases hlt : k < bs.length
    · obtain ⟨g, o, rfl, _, _, hc⟩ := H7.out (by intro e; subst e; simp at hlt)
      have c1 := hc k hlt
      clear hc
      have hx : bs.getD k 0 < 256 := by
        have := H6.out (bs[k]) (List.getElem_mem hlt)
        simpa [List.getElem?_eq_getElem hlt] using this
      have hsn : Hid (reg (nt s) (bs.take (k + 1)) = byt (reg (nt s) (bs.take k)) (bs.getD k 0)) := by
        rw [Hid, List.take_succ_eq_append_getElem hlt, reg_snoc]
        simp [List.getElem?_eq_getElem hlt]
      have hr := reg_lt (bs.take k) (r := nt s) (fun x hx => H6.out x (List.mem_of_mem_take hx)) (nt_lt s)
      generalize bs.getD k 0 = c at *
      generalize reg (nt s) (bs.take k) = r at *
      have hxr := ref_xor r c hr hx
      have hq := hid (xor_lt32 hr (show c < 4294967296 by omega))
      rw [byt] at hsn
      generalize r ^^^ c = y at *
      have hki : (k : Int) < (bs.length : Int) := by omega
      go_wp2
      go_loopw [5, 7] (fun r i wr => ∃ m : Nat, m ≤ 8 ∧ i = .int .i64 m ∧ r = .int .u32 (stps m y : Nat) ∧ wr = w) (fun _ i _ => 8 - (intOf i).toNat)
      case atStart => exact ⟨0, by omega, rfl, rfl, rfl⟩
      case round =>
        obtain ⟨m, hm, rfl, rfl, hwr⟩ := hrel
        subst wr
        by_cases hlt8 : m < 8
        · have hl := stps_lt m hq.out
          have e := hid (stps_succ m y)
          generalize stps m y = z at *
          have hxd := xor_div z hl
          by_cases ho : z % 2 = 1
          · have hb : ((z : Int) % 2 == 1) = true := by simp; omega
            have e2 : stp z = z / 2 ^^^ 2197175160 := by rw [stp, if_pos ho]
            go_wp2
            go_roundw
            case rel => exact ⟨m + 1, by omega, by go_num, by rw [e.out, e2], by first | rfl | trivial⟩
            case measure => simp [intOf]; omega
          · have hb : ((z : Int) % 2 == 1) = false := by simp; omega
            have e2 : stp z = z / 2 := by rw [stp, if_neg ho]
            go_wp2
            go_roundw
            case rel => exact ⟨m + 1, by omega, by go_num, by rw [e.out, e2]; rfl, by first | rfl | trivial⟩
            case measure => simp [intOf]; omega
        · have : m = 8 := by omega
          subst this
          go_wp2
          go_roundw
          case rel => exact ⟨k + 1, by omega, by go_num, by rw [hsn.out], by first | rfl | trivial⟩
          case measure => simp [intOf]; omega
    · have e : bs.take k = bs := List.take_of_length_le (by omega)
      rw [e]
      have hl := reg_lt bs (r := nt s) H6.out (nt_lt s)
      have hn := not_u32 _ hl
      go_wp2
      go_ret
      exact ⟨rfl, rfl⟩

set_option maxHeartbeats 400000 in
theorem refSum_any (b : Nat) (v : Value) (bs : List Nat) (w : World) (hv : BySl b w v bs) :
    Calls Try.prog 49 #[v] w fun e w' => e = .returned (.int .u32 (more 0 bs : Nat)) ∧ w' = w := by
  obtain ⟨a, cap, rfl, hr⟩ := id hv
  clear hr
  have H := hid hv
  clear hv
  go_enter Try.func49, Try.ntmps49
  go_wp2_with (go_at_call 61; refine (refMore_any b 0 (by decide) _ bs _ H.out).mono ?_; rintro e w1 ⟨rfl, rfl⟩)
  go_ret
  exact ⟨rfl, rfl⟩

end Go.Proofs.Ythbhdbjjobfchaa.Crc
