/- Of the proof: the texts CrcMore, CrcSmall, CrcApp, FrBase, TlvMany, FrValue, CrcBurst, FrMath, TlvSame, one behind the other. -/
import Derived.Test.YtaaioaocjfpajaaGreatDoorB5
import Derived.Lib.SlBytesConst
import Derived.Lib.AppendZerosOnto
import Derived.Deep.MidRow
import Derived.Test.YtaaioaocjfpajaaGreatDoorB4
import Derived.Deep.RegionHeld3
import Derived.Test.YtaaioaocjfpajaaGreatDoorB3
import Derived.Laws.BytesArg
section
/-
  A table in memory; what Do, More and Sum of it do.
-/
namespace Go.Proofs.YtaaioaocjfpajaaGreatDoor.Crc
open Go.RowKit

/-- A table lies at b: f says whether its rows are filled, n how many bytes it has gone through. -/
def Tab (w : World) (b f : Nat) (n : Int) : Prop :=
  b < w.heap.size ∧ w.cell? ⟨b, 0, none⟩ = some (.int .u32 f) ∧ w.cell? ⟨b, 1, none⟩ = some (.int .i32 0) ∧ w.cell? ⟨b, 259, none⟩ = some (.int .i64 n) ∧ (∀ j, j < 256 → ∃ x, w.cell? ⟨b, 3 + j, none⟩ = some x) ∧
    (f = 1 → ∀ j, j < 256 → w.cell? ⟨b, 3 + j, none⟩ = some (.int .u32 (stps 8 j : Nat))) ∧ ∀ j, w.frozen? ⟨b, j, none⟩ = false

set_option maxHeartbeats 1600000 in
set_option maxRecDepth 100000 in
theorem slow_any (b : Nat) (n : Int) (w : World) (h : Tab w b 0 n) :
    Calls Tryz.prog 204 #[.pointer (some ⟨b, 0, none⟩), .func (.func 200) #[.pointer (some ⟨b, 0, none⟩)] #[]] w fun e w' => e = .returned (.tuple #[]) ∧ Kept b w w' ∧ Tab w' b 1 n := by
  obtain ⟨hb, h0, h1, h259, hr, -, hf⟩ := h
  have f0 := hf 0
  have f1 := hf 1
  have HR := hid hr
  have HF := hid hf
  clear hr hf
  have hl := run_call_load (P := Tryz.prog) Tryz.func206 (by kernel_rfl) (by kernel_rfl) (by kernel_rfl) .u32 (by kernel_rfl) (w := w.setCell ⟨b, 1, none⟩ (.int .i32 1)) (a := ⟨b, 0, none⟩) (x := 0) ((World.cell?_setCell_other _ ⟨b, 1, none⟩ ⟨b, 0, none⟩ _ (by simp)).trans h0)
  have hnot : ∀ (x : Bool) (w : World), (Op.unary .not (.bool x)).run Tryz.prog w = .ok (.bool (!x)) w := fun _ _ => rfl
  go_enter_defers Tryz.func204, Tryz.ntmps204
  go_wp2_with (first | (go_at_call 207; refine (lock_free ⟨b, 1, none⟩ _ (by go_simp) (by go_simp)).mono ?_; rintro e w' ⟨rfl, rfl⟩) | (go_at_call 203; go_in))
  refine (fill_any b _ (fun j hj => ?_) (fun j => by simpa using HF.out j)).mono ?_
  · obtain ⟨x, hx⟩ := HR.out j hj
    exact ⟨x, (World.cell?_setCell_other _ _ _ _ (by simp only [ne_eq, Addr.mk.injEq, true_and, and_true]; omega)).trans hx⟩
  rintro e w2 ⟨rfl, K, hs, hrows, hcells, hfz⟩
  go_wp2
  -- the door: two deferred calls, the last laid first
  have hw1 : Kept b w (w.setCell ⟨b, 1, none⟩ (.int .i32 1)) := (Kept.refl b w).setCell (p := ⟨b, 1, none⟩) rfl _
  have d0 : w2.cell? ⟨b, 0, none⟩ = some (.int .u32 0) := (hcells 0 (by omega)).trans ((World.cell?_setCell_other _ ⟨b, 1, none⟩ ⟨b, 0, none⟩ _ (by simp)).trans h0)
  have d1 : w2.cell? ⟨b, 1, none⟩ = some (.int .i32 1) := (hcells 1 (by omega)).trans (World.cell?_setCell_same _ _ _ h1)
  have d259 : w2.cell? ⟨b, 259, none⟩ = some (.int .i64 n) := (hcells 259 (by omega)).trans ((World.cell?_setCell_other _ ⟨b, 1, none⟩ ⟨b, 259, none⟩ _ (by simp)).trans h259)
  have g : ∀ j, w2.frozen? ⟨b, j, none⟩ = false := fun j => by rw [hfz j]; simpa using HF.out j
  refine leaves_cons (f := 209) (args := #[.pointer (some ⟨b, 0, none⟩), .bool true]) (by simp) (by simp [go_sem]) ?_
  refine (store_deferred ⟨b, 0, none⟩ (.int .u32 0) .returning _ d0 (g 0)).mono ?_
  rintro e u' w3 ⟨rfl, rfl, rfl⟩
  refine leaves_cons (f := 208) (args := #[.pointer (some ⟨b, 1, none⟩)]) (by simp [settle]) (by simp [go_sem]) ?_
  refine (unlock_deferred ⟨b, 1, none⟩ _ _ ?_ (by simpa using g 1)).mono ?_
  · refine (World.cell?_setCell_other _ ⟨b, 0, none⟩ ⟨b, 1, none⟩ _ (by simp)).trans ?_
    rw [World.cell?_drew]
    exact d1
  rintro e u' w3 ⟨rfl, rfl, rfl⟩
  have hk : Kept b w ((w2.drew.setCell ⟨b, 0, none⟩ (.int .u32 1)).setCell ⟨b, 1, none⟩ (.int .i32 0)) := ((hw1.trans K).drew.setCell (p := ⟨b, 0, none⟩) rfl _).setCell (p := ⟨b, 1, none⟩) rfl _
  have c1 : (w2.drew.setCell ⟨b, 0, none⟩ (.int .u32 1)).cell? ⟨b, 1, none⟩ = some (.int .i32 1) := (World.cell?_setCell_other _ ⟨b, 0, none⟩ ⟨b, 1, none⟩ _ (by simp)).trans (by rw [World.cell?_drew]; exact d1)
  have ho : ∀ j, 1 < j → ((w2.drew.setCell ⟨b, 0, none⟩ (.int .u32 1)).setCell ⟨b, 1, none⟩ (.int .i32 0)).cell? ⟨b, j, none⟩ = w2.cell? ⟨b, j, none⟩ := fun j hj => by
    rw [World.cell?_setCell_other _ ⟨b, 1, none⟩ ⟨b, j, none⟩ _ (by simp only [ne_eq, Addr.mk.injEq, true_and, and_true]; omega), World.cell?_setCell_other _ ⟨b, 0, none⟩ ⟨b, j, none⟩ _ (by simp only [ne_eq, Addr.mk.injEq, true_and, and_true]; omega), World.cell?_drew]
  have ht : Tab ((w2.drew.setCell ⟨b, 0, none⟩ (.int .u32 1)).setCell ⟨b, 1, none⟩ (.int .i32 0)) b 1 n := by
    refine ⟨by have := hs; simp at this; simp; omega, ?_, ?_, ?_, ?_, ?_, ?_⟩
    · rw [World.cell?_setCell_other _ ⟨b, 1, none⟩ ⟨b, 0, none⟩ _ (by simp)]
      exact World.cell?_setCell_same _ _ _ (by rw [World.cell?_drew]; exact d0)
    · exact World.cell?_setCell_same _ _ _ c1
    · rw [ho 259 (by omega)]; exact d259
    · intro j hj
      exact ⟨_, (ho (3 + j) (by omega)).trans (hrows j hj)⟩
    · intro _ j hj
      exact (ho (3 + j) (by omega)).trans (hrows j hj)
    · intro j
      simpa using g j
  exact ⟨_, results_none rfl _ _ _, rfl, hk, ht⟩

/-- '(*sync.Once).Do' of a table. -/
theorem do_any (b f : Nat) (n : Int) (w : World) (hf : f = 0 ∨ f = 1) (h : Tab w b f n) :
    Calls Tryz.prog 199 #[.pointer (some ⟨b, 0, none⟩), .func (.func 200) #[.pointer (some ⟨b, 0, none⟩)] #[]] w fun e w' => e = .returned (.tuple #[]) ∧ Kept b w w' ∧ Tab w' b 1 n := by
  rcases hf with rfl | rfl
  · have h0 := h.2.1
    have hl := run_call_load (P := Tryz.prog) Tryz.func206 (by kernel_rfl) (by kernel_rfl) (by kernel_rfl) .u32 (by kernel_rfl) h0
    have hnot : ∀ (x : Bool) (w : World), (Op.unary .not (.bool x)).run Tryz.prog w = .ok (.bool (!x)) w := fun _ _ => rfl
    have H := hid h
    clear h
    go_enter Tryz.func199, Tryz.ntmps199
    go_wp2_with (first | (go_at_call 204; refine (slow_any b n _ H.out).mono ?_; rintro e w' ⟨rfl, hk, ht⟩) | (go_at_call 203; go_in))
    go_end0
    exact ⟨rfl, hk, ht⟩
  · refine (do_done ⟨b, 0, none⟩ _ w h.2.1).mono ?_
    rintro e w' ⟨rfl, rfl⟩
    exact ⟨rfl, Kept.refl _ _, h⟩

/-- v is a slice of the bytes bs, in blocks other than b. -/
def BySl (b : Nat) (w : World) (v : Value) (bs : List Nat) : Prop :=
  ∃ a cap, v = .slice a bs.length cap ∧ bs.length ≤ cap ∧ cap ≤ maxLen ∧ (a = none → bs = [] ∧ cap = 0) ∧ bs.length ≤ 140737488355328 ∧ (∀ x ∈ bs, x < 256) ∧
    (bs ≠ [] → ∃ g o, a = some ⟨g, o, none⟩ ∧ g ≠ b ∧ g < w.heap.size ∧ ∀ i, i < bs.length → w.cell? ⟨g, o + i, none⟩ = some (.int .u8 (bs.getD i 0 : Nat)))

theorem BySl.kept {b : Nat} {w w' : World} {v : Value} {bs : List Nat} (h : BySl b w v bs) (k : Kept b w w') : BySl b w' v bs := by
  obtain ⟨a, cap, h1, h2, h3, h4, h5, h6, h7⟩ := h
  refine ⟨a, cap, h1, h2, h3, h4, h5, h6, fun hne => ?_⟩
  obtain ⟨g, o, e, hgb, hg, hc⟩ := h7 hne
  exact ⟨g, o, e, hgb, Nat.lt_of_lt_of_le hg k.size, fun i hi => (k.cell (p := ⟨g, o + i, none⟩) hg hgb).trans (hc i hi)⟩

theorem BySl.none (b : Nat) (w : World) : BySl b w (.slice none 0 0) [] := ⟨_, 0, rfl, Nat.le_refl _, Nat.zero_le _, fun _ => ⟨rfl, rfl⟩, by simp, by simp, fun h => absurd rfl h⟩

theorem not_u32 (s : Nat) (hs : s < 4294967296) : bits .xor .u32 IntKind.u32.max (s : Int) = ((nt s : Nat) : Int) := by
  have h := u32_xor_nat 4294967295 s (by decide) hs
  rw [nt_xor hs]
  exact h

/-- The bytes are counted. -/
theorem add_any (a : Addr) (n d : Int) (w : World) (hc : w.cell? a = some (.int .i64 n)) (hz : w.frozen? a = false) :
    Calls Tryz.prog 104 #[.pointer (some a), .int .i64 d] w fun e w' => e = .returned (.int .i64 (wrap64 (n + d))) ∧ w' = w.setCell a (.int .i64 (wrap64 (n + d))) := by
  have hadd := run_call_add (P := Tryz.prog) Tryz.func138 (by kernel_rfl) (by kernel_rfl) (by kernel_rfl) .i64 (by kernel_rfl) (y := d) (s := wrap64 (n + d)) hc hz (by simp [go_sem, wrap64, IntKind.wrap_i64])
  go_enter Tryz.func104, Tryz.ntmps104
  go_wp2
  go_ret
  exact ⟨rfl, rfl⟩

theorem Tab.add {b f : Nat} {n : Int} {w : World} (h : Tab w b f n) (m : Int) : Tab (w.setCell ⟨b, 259, none⟩ (.int .i64 m)) b f m := by
  obtain ⟨h1, h2, h3, h4, h5, h6, h7⟩ := h
  have ho : ∀ j, j ≠ 259 → (w.setCell ⟨b, 259, none⟩ (.int .i64 m)).cell? ⟨b, j, none⟩ = w.cell? ⟨b, j, none⟩ := fun j hj => World.cell?_setCell_other _ _ _ _ (by simp only [ne_eq, Addr.mk.injEq, true_and, and_true]; omega)
  refine ⟨by simpa using h1, (ho 0 (by omega)).trans h2, (ho 1 (by omega)).trans h3, World.cell?_setCell_same _ _ _ h4, fun j hj => ?_, fun e j hj => (ho _ (by omega)).trans (h6 e j hj), fun j => by simpa using h7 j⟩
  obtain ⟨x, hx⟩ := h5 j hj
  exact ⟨x, (ho _ (by omega)).trans hx⟩

theorem Tab.kept {b f g : Nat} {n : Int} {w w' : World} (h : Tab w b f n) (k : Kept g w w') (hg : b ≠ g) : Tab w' b f n := by
  obtain ⟨h1, h2, h3, h4, h5, h6, h7⟩ := h
  have ho : ∀ j, w'.cell? ⟨b, j, none⟩ = w.cell? ⟨b, j, none⟩ := fun j => k.cell (p := ⟨b, j, none⟩) h1 hg
  refine ⟨Nat.lt_of_lt_of_le h1 k.size, (ho 0).trans h2, (ho 1).trans h3, (ho _).trans h4, fun j hj => ?_, fun e j hj => (ho _).trans (h6 e j hj), fun j => (k.frozen (p := ⟨b, j, none⟩) h1 hg).trans (h7 j)⟩
  obtain ⟨x, hx⟩ := h5 j hj
  exact ⟨x, (ho _).trans hx⟩
theorem Tab.below {b f : Nat} {n : Int} {w w' : World} (h : Tab w b f n) (k : Below w.heap.size w w') : Tab w' b f n := h.kept (Kept.below (b := b + 1) k) (by omega)

theorem tab_step (r c : Nat) (hr : r < 4294967296) (hc : c < 256) : bits .xor .u32 ((r : Int) / 256) ((stps 8 (r % 256 ^^^ c) : Nat) : Int) = ((byt r c : Nat) : Int) := by
  have h := u32_xor_nat (r / 256) (stps 8 (r % 256 ^^^ c)) (by omega) (stps_lt 8 (Nat.lt_trans (Nat.xor_lt_two_pow (n := 8) (Nat.mod_lt _ (by decide)) hc) (by decide)))
  rw [byt_tab, ← h]
  rfl

set_option maxHeartbeats 1600000 in
set_option maxRecDepth 100000 in
theorem more_any (b f : Nat) (n : Int) (s : Nat) (hs : s < 4294967296) (v : Value) (bs : List Nat) (w : World) (hf : f = 0 ∨ f = 1) (ht : Tab w b f n) (hv : BySl b w v bs) :
    Calls Tryz.prog 188 #[.pointer (some ⟨b, 0, none⟩), .int .u32 s, v] w fun e w' => e = .returned (.int .u32 (more s bs : Nat)) ∧ Kept b w w' ∧ Tab w' b 1 (wrap64 (n + bs.length)) := by
  obtain ⟨a, cap, rfl, hr⟩ := id hv
  clear hr
  have H := hid hv
  have T := hid ht
  clear hv ht
  have hmf : ∀ (fn : Fn) (first cap : Array Value) (w : World), (Instr.makeFunc fn first cap).run Tryz.prog w = .ok (.func fn first cap) w := fun _ _ _ _ => rfl
  have hsg : IntKind.u32.signed = false := rfl
  have hn := not_u32 s hs
  go_enter Tryz.func188, Tryz.ntmps188
  go_wp2_with (go_at_call 199; refine (do_any b f n _ hf T.out).mono ?_; rintro e w1 ⟨rfl, hk, ht⟩)
  refine (add_any ⟨b, 259, none⟩ n _ _ ht.2.2.2.1 (ht.2.2.2.2.2.2 _)).mono ?_
  rintro e w2 ⟨rfl, rfl⟩
  have ht2 := hid (ht.add (wrap64 (n + bs.length)))
  have hk2 : Hid (Kept b w (w1.setCell ⟨b, 259, none⟩ (.int .i64 (wrap64 (n + bs.length))))) := hk.setCell (p := ⟨b, 259, none⟩) rfl _
  clear hk ht
  generalize w1.setCell ⟨b, 259, none⟩ (.int .i64 (wrap64 (n + bs.length))) = W at *
  have HW := hid (H.out.kept hk2.out)
  go_wp2
  have HT := hid (ht2.out.2.2.2.2.2.1 rfl)
  obtain ⟨a', cap', e', h2, h3, h4, h5, h6, h7⟩ := HW.out
  cases e'
  have H6 := hid h6
  have H7 := hid h7
  clear h6 h7 h4 hn
  go_loopw [7, 28] (fun r i wr => ∃ k : Nat, k ≤ bs.length ∧ i = .int .i64 k ∧ r = .int .u32 (reg (nt s) (bs.take k) : Nat) ∧ wr = W) (fun _ i _ => bs.length - (intOf i).toNat)
  case atStart => exact ⟨0, Nat.zero_le _, rfl, rfl, rfl⟩
  case round =>
    obtain ⟨k, hk, rfl, rfl, hwr⟩ := hrel
    subst wr
    by_cases hlt : k < bs.length
    · obtain ⟨g, o, rfl, _, _, hc⟩ := H7.out (by intro e; subst e; simp at hlt)
      have c1 := hc k hlt
      clear hc
      have hx : bs.getD k 0 < 256 := by
        have := H6.out (bs[k]) (List.getElem_mem hlt)
        simpa [List.getElem?_eq_getElem hlt] using this
      have hsn : Hid (reg (nt s) (bs.take (k + 1)) = byt (reg (nt s) (bs.take k)) (bs.getD k 0)) := by
        rw [Hid, List.take_succ_eq_append_getElem hlt, reg_snoc]
        simp [List.getElem?_eq_getElem hlt]
      have hr := reg_lt (bs.take k) (r := nt s) (fun x hx => H6.out x (List.mem_of_mem_take hx)) (nt_lt s)
      generalize bs.getD k 0 = c at *
      generalize reg (nt s) (bs.take k) = r at *
      have hj : r % 256 ^^^ c < 256 := Nat.xor_lt_two_pow (n := 8) (Nat.mod_lt _ (by decide)) hx
      have c2 := HT.out (r % 256 ^^^ c) hj
      have hst := tab_step r c hr hx
      have hx8 : bits .xor .u8 ((r : Int) % 256) (c : Int) = ((r % 256 ^^^ c : Nat) : Int) := u8_xor_nat (r % 256) c (by omega) hx
      generalize r % 256 ^^^ c = j at *
      have hj2 : 0 ≤ (j : Int) ∧ (j : Int) < 256 := by omega
      generalize stps 8 j = y at *
      generalize byt r c = z at *
      go_wp2
      go_roundw
      case rel => exact ⟨k + 1, by omega, by go_num, by rw [hsn.out], by first | rfl | trivial⟩
      case measure => simp [intOf]; omega
    · have e : bs.take k = bs := List.take_of_length_le (by omega)
      rw [e]
      have hl := reg_lt bs (r := nt s) H6.out (nt_lt s)
      have hn := not_u32 _ hl
      go_wp2
      go_ret
      exact ⟨rfl, hk2.out, ht2.out⟩

set_option maxHeartbeats 400000 in
theorem sum_any (b f : Nat) (n : Int) (v : Value) (bs : List Nat) (w : World) (hf : f = 0 ∨ f = 1) (ht : Tab w b f n) (hv : BySl b w v bs) :
    Calls Tryz.prog 171 #[.pointer (some ⟨b, 0, none⟩), v] w fun e w' => e = .returned (.int .u32 (more 0 bs : Nat)) ∧ Kept b w w' ∧ Tab w' b 1 (wrap64 (n + bs.length)) := by
  obtain ⟨a, cap, rfl, hr⟩ := id hv
  clear hr
  have H := hid hv
  have T := hid ht
  clear hv ht
  go_enter Tryz.func171, Tryz.ntmps171
  go_wp2_with (go_at_call 188; refine (more_any b f n 0 (by decide) _ bs _ hf T.out H.out).mono ?_; rintro e w1 ⟨rfl, hk, ht⟩)
  go_ret
  exact ⟨rfl, hk, ht⟩

end Go.Proofs.YtaaioaocjfpajaaGreatDoor.Crc
end

section
/-
  A new table; the chapter's example; whether bytes are the same; how many were counted.
-/
namespace Go.Proofs.YtaaioaocjfpajaaGreatDoor.Crc
open Go.RowKit

def Z61 : Array Value := #[.int .u32 0, .int .i32 0, .int .u32 0] ++ (Array.replicate 256 (.int .u32 0) ++ #[.int .i64 0])
theorem zero61 (w : World) : (zeroValue 100).run Tryz.prog w = .ok (.agg Z61) w := by kernel_rfl
theorem Z61_at (j : Nat) (h : j < 256) : Z61[3 + j]? = some (.int .u32 0) := by
  rw [Z61, Array.getElem?_append_right (by simp), Array.getElem?_append_left (by simp; omega)]
  simp [h]

set_option maxHeartbeats 400000 in
set_option maxRecDepth 100000 in
theorem new_any (w : World) :
    Calls Tryz.prog 8 #[] w fun e w' => e = .returned (.pointer (some ⟨w.heap.size, 0, none⟩)) ∧ Below w.heap.size w w' ∧ w'.heap.size = w.heap.size + 1 ∧ Tab w' w.heap.size 0 0 := by
  have hz := zero61
  go_enter Tryz.func8, Tryz.ntmps8
  go_wp2
  go_ret
  have ho : ∀ j, (w.alloc (.cells Z61 100)).cell? ⟨w.heap.size, j, none⟩ = Z61[j]? := fun j => World.cell?_alloc_at _ _ _ _ rfl
  refine ⟨rfl, (Below.refl _ _).alloc (Nat.le_refl _) _, by simp, by simp, ho 0, ho 1, ho 259, fun j hj => ⟨_, (ho _).trans (Z61_at j hj)⟩, fun e => absurd e (by decide), fun j => World.frozen?_alloc_at _ _ _ _ rfl⟩

end Go.Proofs.YtaaioaocjfpajaaGreatDoor.Crc
end

section
/-
  Bytes laid behind bytes: append to a row of the call's own, bytes.Clone, slices.Grow of nil, slices.Concat of two, the reference's Seal.
-/
namespace Go.Proofs.YtaaioaocjfpajaaGreatDoor.Crc
open Go.RowKit

theorem Tryz.info5 : (Tryz.prog.info? 5).map (fun i => (i.zero, i.size, i.bytes)) = some (some (.int .u8 0), 1, 1) := by kernel_rfl

/-- Bytes as cells. -/
def cl (xs : List Nat) : List Value := xs.map fun x : Nat => .int .u8 (x : Int)
theorem cl_length (xs : List Nat) : (cl xs).length = xs.length := by simp [cl]
theorem cl_append (xs ys : List Nat) : cl (xs ++ ys) = cl xs ++ cl ys := by simp [cl]
theorem cl_at (xs : List Nat) (i : Nat) (h : i < xs.length) : (cl xs)[i]? = some (.int .u8 (xs.getD i 0 : Nat)) := by simp [cl, List.getElem?_eq_getElem h]

/-- v is a row of the call's own, from block base on, of the bytes xs. -/
def Own (w : World) (base : Nat) (v : Value) (xs : List Nat) : Prop := w.ownsRow base 5 1 v xs.length (cl xs)

theorem Own.ge {w : World} {base : Nat} {v : Value} {xs : List Nat} (h : Own w base v xs) : ∀ k, v.ownBlock = some k → base ≤ k := by
  intro k hk
  rcases h.2 with ⟨rfl, _⟩ | ⟨g, cap, cur, rfl, hb, _⟩
  · simp [Value.ownBlock] at hk
  · simp [Value.ownBlock] at hk
    omega

theorem Own.mono {w : World} {base base' : Nat} {v : Value} {xs : List Nat} (h : Own w base v xs) (hb : base' ≤ base) : Own w base' v xs := by
  refine ⟨h.1, ?_⟩
  rcases h.2 with h | ⟨g, cap, cur, rfl, hg, r⟩
  · exact .inl h
  · exact .inr ⟨g, cap, cur, rfl, by omega, r⟩

theorem Own.bySl {w : World} {base b : Nat} {v : Value} {xs : List Nat} (h : Own w base v xs) (hb : b < base) (hl : xs.length ≤ 100000) (hx : ∀ x ∈ xs, x < 256) : BySl b w v xs := by
  rcases h.2 with ⟨rfl, h0⟩ | ⟨g, cap, cur, rfl, hg, hh, hn, hc, hs, ht⟩
  · have : xs = [] := List.length_eq_zero_iff.1 h0
    subst this
    exact BySl.none _ _
  · refine ⟨_, cap, rfl, hn, hc, by simp, by omega, hx, fun _ => ⟨g, 0, rfl, by omega, (Array.getElem?_eq_some_iff.1 hh).1, fun i hi => ?_⟩⟩
    have h1 : w.ownsRow base 5 1 (.slice (some ⟨g, 0, none⟩) xs.length cap) xs.length (cl xs) := h
    rw [Nat.zero_add, h1.cellAt i (by omega)]
    exact cl_at xs i hi

theorem addr_add (g o i : Nat) : (⟨g, o, none⟩ : Addr).add i = ⟨g, o + i, none⟩ := by unfold Addr.add; split <;> simp_all

/-- append(v, x...), v of the call's own. -/
theorem app_bytes {ops : Array Oper} {rest : List Oper} {o : Oper} {a : Act} {Q : Exit → Act → World → Prop} (w : World) (hgd : o.guard = none) (s x : Operand)
    (ho : o.op = .call { callee := .builtin .append, args := #[s, x], argTypes := #[54, 54] }) (base b : Nat) (v vx : Value) (xs ys : List Nat) (hs : a.eval s = v) (hx : a.eval x = vx)
    (hown : Own w base v xs) (hy : BySl b w vx ys) (hlen : xs.length + ys.length ≤ 100000) (hbase : base ≤ w.heap.size)
    (h : ∀ v' w', Own w' base v' (xs ++ ys) → Below base w w' → wpList Tryz.prog ops Q rest (a.put o.dst v') w') : wpList Tryz.prog ops Q (o :: rest) a w := by
  obtain ⟨i0, hi, hz0, hz1, hz2⟩ := info_parts Tryz.info5
  obtain ⟨ad, cap, rfl, h2, h3, h4, h5, h6, h7⟩ := hy
  cases ad with
  | none =>
    obtain ⟨rfl, rfl⟩ := h4 rfl
    refine wpList_append_own_none hgd s x 54 ho base 5 i0 1 Tryz.underlying54 hi v xs.length (cl xs) hs hown hx ?_
    exact h v w (by rw [List.append_nil]; exact hown) (Below.refl _ _)
  | some ad =>
    refine wpList_append_own w hgd s x 54 ho base 5 i0 (.int .u8 0) 1 1 Tryz.underlying54 hi hz0 hz1 hz2 rfl (by decide) v xs.length (cl xs) hs hown ad ys.length cap (cl ys) hx ?_ ?_ ?_ ?_ ?_ hbase ?_
    · rw [cl_length, Nat.mul_one]
    · intro j u hj
      have hjn : j < ys.length := by
        have := (List.getElem?_eq_some_iff.1 hj).1
        rwa [cl_length] at this
      obtain ⟨g, o, e, _, hb, hc⟩ := h7 (by intro e; subst e; simp at hjn)
      simp only [Option.some.injEq] at e
      subst e
      rw [addr_add, hc j hjn, ← cl_at ys j hjn]
      exact hj
    · intro u hu; obtain ⟨x, _, rfl⟩ := List.mem_map.1 hu; rfl
    · unfold maxLen; omega
    · omega
    · intro v' w' h8 h9 _
      refine h v' w' ?_ ((Below.refl _ w).grown h9 hbase hown.ge)
      unfold Own
      rw [cl_append, List.length_append]
      exact h8

theorem Tryz.nilEq (w : World) (a : Option Addr) (n c n' c' : Nat) : (binOp .eql 54 (.slice a n c) (.slice none n' c')).run Tryz.prog w = .ok (.bool a.isNone) w :=
  Lib.run_eql_slice_nil w _ _ a n c n' c' Tryz.underlying54

theorem own_empty (w : World) : Own (w.alloc (.cells #[] 5)) w.heap.size (.slice (some ⟨w.heap.size, 0, none⟩) 0 0) [] := World.ownsRow_made w #[] 0 (Nat.le_refl _) (Nat.zero_le _) rfl

set_option maxHeartbeats 1000000 in
theorem clone_any (b : Nat) (v : Value) (bs : List Nat) (w : World) (hb : b < w.heap.size) (h : BySl b w v bs) (hl : bs.length ≤ 100000) :
    Calls Tryz.prog 126 #[v] w fun e w' => ∃ v', e = .returned v' ∧ BySl b w' v' bs ∧ Below w.heap.size w w' := by
  have q22 := Tryz.nilEq
  have H := hid h
  obtain ⟨a, cap, rfl, h2, h3, h4, h5, h6, h7⟩ := h
  have H6 := hid h6
  clear h6 h7
  cases a with
  | none =>
    obtain ⟨rfl, rfl⟩ := h4 rfl
    go_enter Tryz.func126, Tryz.ntmps126
    go_wp2
    go_ret
    exact ⟨_, rfl, BySl.none _ _, Below.refl _ _⟩
  | some ad =>
    clear h4
    go_enter Tryz.func126, Tryz.ntmps126
    go_wp2_with (at_builtin; refine app_bytes _ rfl _ _ rfl w.heap.size b _ _ [] bs rfl rfl (own_empty w) (H.out.kept ((Kept.refl _ _).alloc _)) (by simpa using hl) (by simp) ?_; intro v' w' hown hbel)
    go_wp2
    go_ret
    exact ⟨v', rfl, Own.bySl hown hb hl H6.out, ((Below.refl _ w).alloc (Nat.le_refl _) _).trans hbel⟩

/-- slices.Grow of nil. -/
theorem own_grown (w : World) (n G : Nat) (hG : n ≤ G) (hm : G ≤ maxLen) : Own (w.drew.alloc (.cells (Builtin.zeroCells (Value.int .u8 0).cells n ++ Builtin.zeroCells (Value.int .u8 0).cells (G - n)) 5)) w.heap.size (.slice (some ⟨w.heap.size, 0, none⟩) 0 G) [] := by
  exact World.ownsRow_made w.drew _ G (Nat.le_refl _) hm (by rw [Array.size_append, size_zeroCells, size_zeroCells]; simp [Value.cells]; omega)

set_option maxHeartbeats 1000000 in
theorem grow_any (n : Nat) (w : World) (h0 : 0 < n) (hn : n ≤ 100000) :
    Calls Tryz.prog 192 #[.slice none 0 0, .int .i64 n] w fun e w' => ∃ v, e = .returned v ∧ Own w' w.heap.size v [] ∧ Below w.heap.size w w' := by
  obtain ⟨i0, hi, hz0, hz1, hz2⟩ := info_parts Tryz.info5
  have hrz : ∀ ty, (Builtin.append_ #[54, 3] ty #[.slice none 0 0, .int .i64 n]).run Tryz.prog w = _ := fun ty => Lib.run_append_nil_zeros w 54 3 ty 5 i0 (.int .u8 0) .i64 .i64 Tryz.underlying54 Tryz.underlying3 hi hz0 n h0 (by omega) (by omega) (by rw [hz2]; omega)
  have hGn : n ≤ grownCap w n 0 5 := grownCap_ge w _ _ _
  have hGm := grownCap_le_maxLen w n 0 5 (by unfold maxLen; omega)
  generalize grownCap w n 0 5 = G at *
  have hG63 : G ≤ 9223372036854775807 := by unfold maxLen at hGm; omega
  have HG := hid hGm
  clear hGm hz0 hz1 hz2 hi
  have hnn : ¬ ((n : Int) < 0) := by omega
  have hn2 : (n : Int) > 0 := by omega
  go_enter Tryz.func192, Tryz.ntmps192
  go_wp2_with (at_builtin; refine Lib.wpList_append_run _ rfl _ _ _ _ rfl _ _ rfl rfl _ _ (hrz _) ?_)
  all_goals (go_ret; exact ⟨_, rfl, own_grown w n G hGn HG.out, (Below.refl _ _).drew.alloc (Nat.le_refl _) _⟩)

theorem grow_int (z : Int) (n : Nat) (w : World) (hz : z = n) (h0 : 0 < n) (hn : n ≤ 100000) :
    Calls Tryz.prog 192 #[.slice none 0 0, .int .i64 z] w fun e w' => ∃ v, e = .returned v ∧ Own w' w.heap.size v [] ∧ Below w.heap.size w w' := by
  subst hz
  exact grow_any n w h0 hn

set_option maxHeartbeats 2000000 in
set_option maxRecDepth 100000 in
/-- slices.Concat of two. -/
theorem concat_any (b g : Nat) (v1 v2 : Value) (xs ys : List Nat) (w : World) (c0 : w.cell? ⟨g, 0, none⟩ = some v1) (c1 : w.cell? ⟨g, 1, none⟩ = some v2) (hg : g < w.heap.size) (h1 : BySl b w v1 xs) (h2 : BySl b w v2 ys) (hpos : 0 < ys.length) (hl : xs.length + ys.length ≤ 100000) :
    Calls Tryz.prog 174 #[.slice (some ⟨g, 0, none⟩) 2 2] w fun e w' => ∃ v, e = .returned v ∧ Own w' w.heap.size v (xs ++ ys) ∧ Below w.heap.size w w' := by
  have H1 := hid h1
  have H2 := hid h2
  obtain ⟨a1, k1, rfl, r1⟩ := h1
  obtain ⟨a2, k2, rfl, r2⟩ := h2
  clear r1 r2
  obtain ⟨L1, hL1⟩ : ∃ L, xs.length = L := ⟨_, rfl⟩
  obtain ⟨L2, hL2⟩ : ∃ L, ys.length = L := ⟨_, rfl⟩
  rw [hL1] at H1 c0 hl
  rw [hL2] at H2 c1 hl hpos
  have HL1 := hid hL1
  have HL2 := hid hL2
  clear hL1 hL2
  go_enter Tryz.func174, Tryz.ntmps174
  go_wp2
  refine wp_loop_rounds 3 ?_
  rw [rounds_succ]
  go_wp2
  rw [rounds_succ]
  go_wp2
  rw [rounds_succ]
  go_wp2_with fail
  refine (grow_int _ (L1 + L2) w (by omega) (by omega) hl).mono ?_
  rintro e w1 ⟨v, rfl, hown, hbel⟩
  have HO := hid hown
  have HB := hid hbel
  have hs1 := hbel.size
  have d0 : w1.cell? ⟨g, 0, none⟩ = some (.slice a1 L1 k1) := (hbel.cell (p := ⟨g, 0, none⟩) hg).trans c0
  have d1 : w1.cell? ⟨g, 1, none⟩ = some (.slice a2 L2 k2) := (hbel.cell (p := ⟨g, 1, none⟩) hg).trans c1
  clear hown hbel c0 c1
  go_wp2
  refine wp_loop_rounds 3 ?_
  rw [rounds_succ]
  go_wp2_with (at_builtin; refine app_bytes _ rfl _ _ rfl w.heap.size b _ _ [] xs rfl rfl HO.out (H1.out.kept (Kept.below HB.out)) (by have := HL1.out; simp; omega) hs1 ?_; intro v' w2 hown2 hbel2)
  have HO2 := hid hown2
  have HB2 := hid (HB.out.trans hbel2)
  have hs2 := hbel2.size
  have e0 : w2.cell? ⟨g, 0, none⟩ = some (.slice a1 L1 k1) := (hbel2.cell (p := ⟨g, 0, none⟩) hg).trans d0
  have e1 : w2.cell? ⟨g, 1, none⟩ = some (.slice a2 L2 k2) := (hbel2.cell (p := ⟨g, 1, none⟩) hg).trans d1
  clear hown2 hbel2 d0 d1 HO HB
  go_wp2
  rw [rounds_succ]
  go_wp2_with (at_builtin; refine app_bytes _ rfl _ _ rfl w.heap.size b _ _ ([] ++ xs) ys rfl rfl HO2.out (H2.out.kept (Kept.below HB2.out)) (by have := HL1.out; have := HL2.out; simp; omega) (by omega) ?_; intro v'' w3 hown3 hbel3)
  have HO3 := hid hown3
  have HB3 := hid (HB2.out.trans hbel3)
  clear hown3 hbel3 e0 e1 HO2 HB2
  go_wp2
  rw [rounds_succ]
  go_wp2
  go_ret
  exact ⟨_, rfl, by simpa using HO3.out, HB3.out⟩

/-- A sum in four bytes, the lowest first. -/
def le4 (s : Nat) : List Nat := [s % 256, s / 256 % 256, s / 65536 % 256, s / 16777216]
theorem le4_lt {s : Nat} (hs : s < 4294967296) : ∀ x ∈ le4 s, x < 256 := by
  intro x hx
  simp only [le4, List.mem_cons, List.not_mem_nil, or_false] at hx
  omega
theorem le4_len (s : Nat) : (le4 s).length = 4 := rfl

theorem Own.alloc {w : World} {base : Nat} {v : Value} {xs : List Nat} (h : Own w base v xs) (o : Obj) : Own (w.alloc o) base v xs :=
  World.ownsRow.kept h (World.grownBy_alloc w o none) (by cases v.ownBlock <;> simp)

theorem bySl_le4 (b : Nat) (w : World) (hb : b < w.heap.size) {s : Nat} (hs : s < 4294967296) (t : TypeId) :
    BySl b (w.alloc (.cells #[.int .u8 ((s : Int) % 256), .int .u8 ((s : Int) / 256 % 256), .int .u8 ((s : Int) / 65536 % 256), .int .u8 ((s : Int) / 16777216)] t)) (.slice (some ⟨w.heap.size, 0, none⟩) 4 4) (le4 s) := by
  refine ⟨_, 4, rfl, by simp [le4_len], by decide, by simp, by simp [le4_len], le4_lt hs, fun _ => ⟨w.heap.size, 0, rfl, by omega, by simp, fun i hi => ?_⟩⟩
  rw [le4_len] at hi
  rw [Nat.zero_add, World.cell?_alloc_at _ _ _ _ rfl]
  have : i = 0 ∨ i = 1 ∨ i = 2 ∨ i = 3 := by omega
  rcases this with rfl | rfl | rfl | rfl <;> rfl

set_option maxHeartbeats 400000 in
theorem sumBytes_any (s : Nat) (hs : s < 4294967296) (w : World) :
    Calls Tryz.prog 170 #[.int .u32 s] w fun e w' => e = .returned (.agg #[.int .u8 ((s : Int) % 256), .int .u8 ((s : Int) / 256 % 256), .int .u8 ((s : Int) / 65536 % 256), .int .u8 ((s : Int) / 16777216)]) ∧ Below w.heap.size w w' := by
  go_enter Tryz.func170, Tryz.ntmps170
  go_wp2
  exact bodyPost_ret (v := .agg #[.int .u8 ((s : Int) % 256), .int .u8 ((s : Int) / 256 % 256), .int .u8 ((s : Int) / 65536 % 256), .int .u8 ((s : Int) / 16777216)]) (by simp [results, Tryz.results170, go_sem]) rfl ⟨rfl, (Below.refl _ _).alloc (Nat.le_refl _) _⟩

set_option maxHeartbeats 2000000 in
set_option maxRecDepth 100000 in
theorem seal_any (b f : Nat) (n : Int) (v : Value) (bs : List Nat) (w : World) (hf : f = 0 ∨ f = 1) (ht : Tab w b f n) (h : BySl b w v bs) (hl : bs.length ≤ 80000) :
    Calls Tryz.prog 140 #[.pointer (some ⟨b, 0, none⟩), v] w fun e w' => ∃ v', e = .returned v' ∧ Own w' w.heap.size v' (bs ++ le4 (more 0 bs)) ∧ Kept b w w' ∧ Tab w' b 1 (wrap64 (n + bs.length)) := by
  have H := hid h
  have T := hid ht
  obtain ⟨a, cap, rfl, r⟩ := h
  clear r ht
  have hm := more_lt 0 bs
  obtain ⟨s, hs⟩ : ∃ s, more 0 bs = s := ⟨_, rfl⟩
  have HS := hid hs
  rw [hs] at hm ⊢
  clear hs
  go_enter Tryz.func140, Tryz.ntmps140
  go_wp2_with fail
  refine (sum_any b f n _ bs _ hf T.out H.out).mono ?_
  rintro e w1 ⟨rfl, hk1, ht1⟩
  rw [HS.out]
  have HK1 := hid hk1
  have HT1 := hid ht1
  clear hk1 ht1
  go_wp2_with fail
  refine (sumBytes_any s hm _).mono ?_
  rintro e w2 ⟨rfl, hb2⟩
  have HB2 := hid hb2
  clear hb2
  go_wp2_with fail
  have hz1 := HK1.out.size
  have hz2 := HB2.out.size
  have hbw : b < w.heap.size := T.out.1
  have hk2 := HK1.out.trans (Kept.below (b := b) HB2.out)
  refine (concat_any b (w2.heap.size + 1) _ _ bs (le4 s) _ (by rw [World.cell?_alloc_at _ _ _ _ (by simp)]; rfl) (by rw [World.cell?_alloc_at _ _ _ _ (by simp)]; rfl) (by simp)
    (H.out.kept ((hk2.alloc _).alloc _)) ((bySl_le4 b w2 (by omega) hm 250).kept ((Kept.refl _ _).alloc _)) (by simp [le4_len]) (by simp [le4_len]; omega)).mono ?_
  rintro e w3 ⟨v, rfl, hown, hbel⟩
  have HO := hid hown
  have HB := hid hbel
  clear hown hbel hz1 hz2
  go_wp2_with fail
  go_ret
  refine ⟨_, rfl, HO.out.mono (by have := hk2.size; simp; omega), ((hk2.alloc _).alloc _).trans (Kept.below HB.out), (((HT1.out.below HB2.out).below ((Below.refl _ _).alloc (Nat.le_refl _) _)).below ((Below.refl _ _).alloc (Nat.le_refl _) _)).below HB.out⟩

end Go.Proofs.YtaaioaocjfpajaaGreatDoor.Crc
end

section
/-
  How records lie in memory; which are right.
-/
namespace Go.Proofs.YtaaioaocjfpajaaGreatDoor
open Go.RowKit
open Tlv (BySlS AgreeS)
open Crc (hid Kept Tab)

theorem Tryz.info35 : (Tryz.prog.info? 56).map (·.size) = some 34 := by kernel_rfl
theorem Tryz.info26 : (Tryz.prog.info? 68).map (·.size) = some 34 := by kernel_rfl

/-- Bytes as cells. -/
def u8s (xs : List Int) : List Value := xs.map (Value.int .u8)
theorem u8s_length (xs : List Int) : (u8s xs).length = xs.length := by simp [u8s]
theorem u8s_one (xs : List Int) : ∀ v ∈ u8s xs, v.oneCell' = true := by intro v hv; obtain ⟨x, _, rfl⟩ := List.mem_map.1 hv; rfl

/-- A record's cells. -/
def recA (k : Int) (nm : List Int) (v : Value) : List Value := .int .i64 k :: (u8s nm ++ [v])
theorem recA_length (k : Int) (nm : List Int) (v : Value) (h : nm.length = 32) : (recA k nm v).length = 34 := by simp [recA, u8s_length, h]
theorem recA_0 (k : Int) (nm : List Int) (v : Value) : (recA k nm v)[0]? = some (.int .i64 k) := rfl
theorem recA_33 (k : Int) (nm : List Int) (v : Value) (h : nm.length = 32) : (recA k nm v)[33]? = some v := by
  rw [recA, List.getElem?_cons_succ, List.getElem?_append_right (by rw [u8s_length, h]; omega), u8s_length, h]; rfl
theorem recA_one (k : Int) (nm : List Int) (a : Option Addr) (l c : Nat) : ∀ v ∈ recA k nm (.slice a l c), v.oneCell' = true := by
  intro v hv
  rcases List.mem_cons.1 hv with rfl | hv
  · rfl
  · rcases List.mem_append.1 hv with hv | hv
    · exact u8s_one _ _ hv
    · rw [List.mem_singleton.1 hv]; rfl

/-- May such a record stand in a pack? -/
def rightB (k : Int) (l : Nat) : Bool := decide (1 ≤ k) && (decide (k ≤ 9) && decide ((l : Int) ≤ 5000))

set_option maxHeartbeats 400000 in
theorem right13_any (C : List Value) (k : Int) (a : Option Addr) (l c : Nat) (w : World) (h0 : C[0]? = some (.int .i64 k)) (h33 : C[33]? = some (.slice a l c)) :
    Calls Tryz.prog 71 #[.agg C.toArray] w fun e w' => e = .returned (.bool (rightB k l)) ∧ Below w.heap.size w w' := by
  go_enter Tryz.func71, Tryz.ntmps71
  go_wp2
  all_goals (go_ret; refine ⟨?_, (Below.refl _ _).alloc (Nat.le_refl _) _⟩; simp [rightB, *] <;> omega)

end Go.Proofs.YtaaioaocjfpajaaGreatDoor
end

section
/-
  What Many of tlv makes.
-/
namespace Go.Proofs.YtaaioaocjfpajaaGreatDoor.Tlv
open Go.RowKit

set_option maxHeartbeats 400000 in
theorem many_any {n : Nat} (ks : List (Tr n)) (v : Value) (w : World) (h : KSl 0 w.heap.size w (Rep 0 w.heap.size w n) v ks) (hn : n < 131072) :
    Calls Tryz.prog 99 #[v] w fun e w' => ∃ sb' sk', e = .returned (.agg #[.int .i64 3, .int .u64 0, sb', sk']) ∧ Rep w.heap.size w'.heap.size w' (n + 1) (Tr.mk 3 0 [] ks) sb' sk' ∧ Below w.heap.size w w' := by
  obtain ⟨ak, ck, rfl, hr⟩ := id h
  clear hr
  have H := hid h
  clear h
  go_enter Tryz.func99, Tryz.ntmps99
  go_wp2_with fail
  have hA : Agree 0 w.heap.size w (w.alloc (Obj.cells #[Value.int IntKind.i64 0, Value.int IntKind.u64 0, Value.slice none 0 0, Value.slice none 0 0] 156)) := (Agree.refl _ _ _).alloc (Nat.le_refl _) _
  have hS : w.heap.size ≤ (w.alloc (Obj.cells #[Value.int IntKind.i64 0, Value.int IntKind.u64 0, Value.slice none 0 0, Value.slice none 0 0] 156)).heap.size := by simp
  refine (clone_any (n + 1) (Tr.mk 3 0 [] ks) _ _ _ _ ⟨by simp [Tr.mk, Tr.hd], by simp [Tr.mk, Tr.hd], BySl.none _ _ _, H.out.agree (fun _ _ _ r => r.agree hA (Nat.le_refl _) hS) hA (Nat.le_refl _) hS⟩ (by omega) (by omega)).mono ?_
  rintro e w1 ⟨sb', sk', rfl, hr1, hb1⟩
  obtain ⟨a3, l3, p3, a4, l4, p4, rfl, rfl⟩ := hr1.sl
  simp only [show (Tr.mk 3 0 [] ks).hd.1 = 3 from rfl, show (Tr.mk 3 0 [] ks).hd.2.1 = 0 from rfl]
  have Hr1 := hid hr1
  have Hb1 := hid hb1
  obtain ⟨hc, hf⟩ := bcell hb1
  have hz := hb1.size
  simp at hz
  have hgw : w.heap.size < w1.heap.size := by omega
  have g0 : w1.cell? ⟨w.heap.size, 0, none⟩ = some (.int .i64 0) := by rw [hc _ _ (by simp)]; simp [go_sem]
  have g1 : w1.cell? ⟨w.heap.size, 1, none⟩ = some (.int .u64 0) := by rw [hc _ _ (by simp)]; simp [go_sem]
  have g2 : w1.cell? ⟨w.heap.size, 2, none⟩ = some (.slice none 0 0) := by rw [hc _ _ (by simp)]; simp [go_sem]
  have g3 : w1.cell? ⟨w.heap.size, 3, none⟩ = some (.slice none 0 0) := by rw [hc _ _ (by simp)]; simp [go_sem]
  have gf : ∀ o, w1.frozen? ⟨w.heap.size, o, none⟩ = false := fun o => by rw [hf _ _ (by simp)]; simp [go_sem]
  clear hc hf hr1 hb1
  go_wp2_with fail
  obtain ⟨q0, q1, q2, q3⟩ := set4_read (u0 := .int .i64 3) (u1 := .int .u64 0) (u2 := .slice a3 l3 p3) (u3 := .slice a4 l4 p4) g0 g1 g2 g3
  refine bodyPost_ret (v := .agg #[.int .i64 3, .int .u64 0, .slice a3 l3 p3, .slice a4 l4 p4]) (by simp [results, Tryz.results99, go_sem, q0, q1, q2, q3, hgw]) rfl ⟨_, _, rfl, ?_, ?_⟩
  · exact Rep.agree (L' := w.heap.size) ((Agree.set4 w1 (.inl (by simp)) _ _ _ _).alloc (by simp) _) (by simp) (by simp) Hr1.out
  · exact (((((Below.refl _ w).alloc (Nat.le_refl _) _).trans (Hb1.out.mono (by simp))).trans (bset4 (Nat.le_refl _) _ _ _ _)).alloc (by simp; omega) _)

end Go.Proofs.YtaaioaocjfpajaaGreatDoor.Tlv
end

section
/-
  The value, in tlv's words, that a right record has; its mathematics.
-/
namespace Go.Proofs.YtaaioaocjfpajaaGreatDoor
open Go.RowKit
open Tlv (Tr BySlS AgreeS Agree)
open Crc (hid Kept Tab)

/-- A record's value. -/
def recT (k : Int) (nm bs : List Int) : Tr 2 := Tr.mk 3 0 [] [(Tr.mk 1 k [] [] : Tr 1), Tr.mk 2 0 nm [], Tr.mk 2 0 bs []]

theorem name_in {W : World} {g o : Nat} {k : Int} {nm : List Int} {v : Value} (h : W.rangeAt g o (recA k nm v)) (hn : nm.length = 32) (hx : ∀ x ∈ nm, 0 ≤ x ∧ x ≤ 255) :
    Tlv.BySl 0 W.heap.size W (.slice (some ⟨g, o + 1, none⟩) 32 32) nm := by
  refine ⟨_, 32, by rw [hn], by omega, by decide, by simp, by omega, hx, fun _ => ⟨g, o + 1, rfl, Nat.zero_le _, ?_, fun i hi => ?_⟩⟩
  · exact World.block_lt_of_cell? _ _ (h 0 _ (recA_0 _ _ _))
  · have := h (1 + i) (.int .u8 (nm.getD i 0)) (by
      rw [recA, Nat.add_comm, List.getElem?_cons_succ, List.getElem?_append_left (by rw [u8s_length]; exact hi)]
      simp [u8s, List.getElem?_eq_getElem hi])
    rw [← this]
    congr 2
    omega

theorem bySl_lift {L : Nat} {V w' : World} {v : Value} {bs : List Int} (h : Tlv.BySl L V.heap.size V v bs) (hb : Below V.heap.size V w') : Tlv.BySl L w'.heap.size w' v bs :=
  h.agree (Agree.below hb) (Nat.le_refl _) hb.size

theorem rep1 {L B : Nat} {w : World} (k : Int) (h0 : 0 ≤ k) (h1 : k ≤ 18446744073709551615) : Tlv.Rep L B w 1 (Tr.mk 1 k [] []) (.slice none 0 0) (.slice none 0 0) :=
  ⟨h0, h1, Tlv.BySl.none _ _ _, Tlv.KSl.none _ _ _ _⟩
theorem rep2 {L B : Nat} {w : World} {v : Value} {bs : List Int} (h : Tlv.BySl L B w v bs) : Tlv.Rep L B w 1 (Tr.mk 2 0 bs []) v (.slice none 0 0) :=
  ⟨Int.le_refl _, by simp [Tr.mk, Tlv.Tr.hd], h, Tlv.KSl.none _ _ _ _⟩

/-- Three values laid in a row. -/
theorem three_in {B : Nat} {w : World} (ts : Tr 1) (tn : Tr 1) (tb : Tr 1) (vn vb : Value) (x0 : Int) (hw : w.heap.size = B)
    (hs : ts = Tr.mk 1 x0 [] []) (h0 : 0 ≤ x0) (h1 : x0 ≤ 18446744073709551615) {nm bs : List Int} (hn : tn = Tr.mk 2 0 nm []) (hb : tb = Tr.mk 2 0 bs []) (bn : Tlv.BySl 0 B w vn nm) (bb : Tlv.BySl 0 B w vb bs) (ty : TypeId) :
    Tlv.KSl 0 (B + 1) (w.alloc (.cells #[.int .i64 1, .int .u64 x0, .slice none 0 0, .slice none 0 0, .int .i64 2, .int .u64 0, vn, .slice none 0 0, .int .i64 2, .int .u64 0, vb, .slice none 0 0] ty))
      (Tlv.Rep 0 (B + 1) (w.alloc (.cells #[.int .i64 1, .int .u64 x0, .slice none 0 0, .slice none 0 0, .int .i64 2, .int .u64 0, vn, .slice none 0 0, .int .i64 2, .int .u64 0, vb, .slice none 0 0] ty)) 1)
      (.slice (some ⟨B, 0, none⟩) 3 3) [ts, tn, tb] := by
  subst hs hn hb hw
  have hA : ∀ o : Obj, Agree 0 w.heap.size w (w.alloc o) := fun o => (Agree.refl _ _ _).alloc (Nat.le_refl _) _
  have hc : ∀ (C : Array Value) (j : Nat), (w.alloc (.cells C ty)).cell? ⟨w.heap.size, j, none⟩ = C[j]? := fun C j => World.cell?_alloc_at _ _ _ _ rfl
  refine ⟨_, 3, rfl, Nat.le_refl _, by decide, by simp, by simp, fun _ => ⟨w.heap.size, 0, rfl, Nat.zero_le _, by omega, fun j t hj => ?_⟩⟩
  match j, hj with
  | 0, hj =>
    simp only [List.getElem?_cons_zero, Option.some.injEq] at hj
    subst hj
    exact ⟨_, _, hc _ _, hc _ _, hc _ _, hc _ _, rep1 _ h0 h1⟩
  | 1, hj =>
    simp only [List.getElem?_cons_succ, List.getElem?_cons_zero, Option.some.injEq] at hj
    subst hj
    exact ⟨_, _, hc _ _, hc _ _, hc _ _, hc _ _, rep2 (bn.agree (hA _) (Nat.le_refl _) (by omega))⟩
  | 2, hj =>
    simp only [List.getElem?_cons_succ, List.getElem?_cons_zero, Option.some.injEq] at hj
    subst hj
    exact ⟨_, _, hc _ _, hc _ _, hc _ _, hc _ _, rep2 (bb.agree (hA _) (Nat.le_refl _) (by omega))⟩

/-- Bytes of tlv, as a walk that holds a world needs it. -/
theorem bytes44 {S : World → Prop} {W0 : World} {L : Nat} {bs : List Int} {v : Value} (hL : bs.length = L) (hS : ∀ V, S V → Below W0.heap.size W0 V) (hb : Tlv.BySl 0 W0.heap.size W0 v bs) :
    ∀ V, S V → Calls Tryz.prog 101 #[v] V fun e w' => ∃ a' c', e = .returned (.agg #[.int .i64 2, .int .u64 0, .slice a' L c', .slice none 0 0]) ∧ (Tlv.BySl W0.heap.size w'.heap.size w' (.slice a' L c') bs ∧ Below V.heap.size V w') := by
  intro V hV
  have hk := hS V hV
  refine (Tlv.bytes_any v bs V (hb.agree (Agree.below hk) (Nat.le_refl _) hk.size)).mono ?_
  rintro e w' ⟨v', rfl, hv, hb'⟩
  obtain ⟨a', c', rfl, hr⟩ := id hv
  refine ⟨a', c', by rw [hL], ?_, hb'⟩
  rw [← hL]
  exact hv.agree (Agree.refl _ _ _) hk.size (Nat.le_refl _)

theorem number43 (n : Int) (V : World) : Calls Tryz.prog 100 #[.int .u64 n] V fun e w' => e = .returned (.agg #[.int .i64 1, .int .u64 n, .slice none 0 0, .slice none 0 0]) ∧ Below V.heap.size V w' := Tlv.number_any n V

theorem many42 {L : Nat} {w : World} {k : Int} {nm bs : List Int} {vn vb : Value} (h0 : 0 ≤ k) (h1 : k ≤ 9) (bn : Tlv.BySl L w.heap.size w vn nm) (bb : Tlv.BySl L w.heap.size w vb bs) :
    Calls Tryz.prog 99 #[.slice (some ⟨w.heap.size, 0, none⟩) 3 3] (w.alloc (.cells #[.int .i64 1, .int .u64 k, .slice none 0 0, .slice none 0 0, .int .i64 2, .int .u64 0, vn, .slice none 0 0, .int .i64 2, .int .u64 0, vb, .slice none 0 0] 156))
      fun e w' => ∃ a3 l3 p3 a4 l4 p4, e = .returned (.agg #[.int .i64 3, .int .u64 0, .slice a3 l3 p3, .slice a4 l4 p4]) ∧ Tlv.Rep w.heap.size w'.heap.size w' 2 (recT k nm bs) (.slice a3 l3 p3) (.slice a4 l4 p4) ∧ Below w.heap.size w w' := by
  have h := three_in (B := w.heap.size) (w := w) (Tr.mk 1 k [] []) (Tr.mk 2 0 nm []) (Tr.mk 2 0 bs []) vn vb k rfl rfl h0 (by omega) rfl rfl (bn.agree (Agree.refl _ _ _) (Nat.zero_le _) (Nat.le_refl _)) (bb.agree (Agree.refl _ _ _) (Nat.zero_le _) (Nat.le_refl _)) 156
  refine (Tlv.many_any _ _ _ (by simpa using h) (by omega)).mono ?_
  rintro e w5 ⟨sb', sk', rfl, hr5, hb5⟩
  obtain ⟨a3, l3, p3, a4, l4, p4, rfl, rfl⟩ := hr5.sl
  exact ⟨_, _, _, _, _, _, rfl, hr5.agree (Agree.refl _ _ _) (by simp) (Nat.le_refl _), ((Below.refl _ w).alloc (Nat.le_refl _) _).trans (hb5.mono (by simp))⟩

set_option maxHeartbeats 2000000 in
set_option maxRecDepth 100000 in
theorem value_any (k : Int) (nm bs : List Int) (v : Value) (w : World) (hk0 : 1 ≤ k) (hk1 : k ≤ 9) (hn : nm.length = 32) (hx : ∀ x ∈ nm, 0 ≤ x ∧ x ≤ 255) (hb : Tlv.BySl 0 w.heap.size w v bs) :
    Calls Tryz.prog 73 #[.agg (recA k nm v).toArray] w fun e w' => ∃ sb sk, e = .returned (.agg #[.int .i64 3, .int .u64 0, sb, sk]) ∧ Tlv.Rep w.heap.size w'.heap.size w' 2 (recT k nm bs) sb sk ∧ Below w.heap.size w w' := by
  obtain ⟨a, cap, rfl, hr⟩ := id hb
  clear hr
  have HB := hid hb
  have hc0 := recA_0 k nm (.slice a bs.length cap)
  have hc33 := recA_33 k nm (.slice a bs.length cap) hn
  have HN := hid hn
  have HX := hid hx
  clear hb hn hx
  obtain ⟨C, hC⟩ : ∃ C, recA k nm (.slice a bs.length cap) = C := ⟨_, rfl⟩
  have HC := hid hC
  rw [hC] at hc0 hc33
  rw [hC]
  clear hC
  go_enter Tryz.func73, Tryz.ntmps73
  go_wp2
  obtain ⟨W0, hW0⟩ : ∃ W0, (w.alloc (.cells C.toArray 56)).alloc (.cells #[.int .i64 0, .int .u64 0, .slice none 0 0, .slice none 0 0] 156) = W0 := ⟨_, rfl⟩
  have hz : W0.heap.size = w.heap.size + 2 := by rw [← hW0]; simp
  have hbel : Below w.heap.size w W0 := by rw [← hW0]; exact ((Below.refl _ _).alloc (Nat.le_refl _) _).alloc (by simp) _
  have hrg : W0.rangeAt w.heap.size 0 C := by
    rw [← hW0]
    refine World.rangeAt_alloc (fun j v hv => ?_) _
    rw [Nat.zero_add, World.cell?_alloc_at _ _ _ _ rfl]
    simpa using hv
  have HG : Hid (∀ j u, (#[.int .i64 0, .int .u64 0, .slice none 0 0, .slice none 0 0] : Array Value)[j]? = some u → W0.cell? ⟨w.heap.size + 1, j, none⟩ = some u) := fun j u hj => by
    rw [← hW0, World.cell?_alloc_at _ _ _ _ (by simp), hj]
  have HF : Hid (∀ j, W0.frozen? ⟨w.heap.size + 1, j, none⟩ = false) := fun j => by
    rw [← hW0, World.frozen?_alloc_at _ _ _ _ (by simp)]
  rw [hW0]
  clear hW0
  have r0 : ∀ V, Below (w.heap.size + 1) W0 V → V.cell? ⟨w.heap.size, 0, none⟩ = some (.int .i64 k) := fun V h => (h.cell (p := ⟨w.heap.size, 0, none⟩) (by simp)).trans (hrg 0 _ hc0)
  have r33 : ∀ V, Below (w.heap.size + 1) W0 V → V.cell? ⟨w.heap.size, 33, none⟩ = some (.slice a bs.length cap) := fun V h => (h.cell (p := ⟨w.heap.size, 33, none⟩) (by simp)).trans (by have := hrg 33 _ hc33; simpa using this)
  have hwn := name_in (by rw [HC.out]; exact hrg) HN.out HX.out
  rw [Nat.zero_add] at hwn
  have K44n := hid (bytes44 (S := fun V => Below W0.heap.size W0 V) HN.out (fun V h => h) hwn)
  have K44b := hid (bytes44 (S := fun V => Below W0.heap.size W0 V) (L := bs.length) rfl (fun V h => h) (HB.out.agree (Agree.below hbel) (Nat.le_refl _) hbel.size))
  have HZ := hid hz
  have HZ2 : Hid (w.heap.size + 1 ≤ W0.heap.size) := by rw [Hid]; omega
  have HBEL := hid hbel
  clear hz hbel hrg hwn hc0 hc33
  have hwk : IntKind.u64.wrap k = k := by rw [IntKind.wrap_u64]; omega
  go_region_held3 (fun V => Below (w.heap.size + 1) W0 V) (first | (with_reducible exact Below.refl _ _) | (with_reducible exact (Below.refl _ _).drew) | (with_reducible exact HK2.out.mono HZ2.out) | (with_reducible exact HK3.out.mono HZ2.out) | (with_reducible exact HK4.out.mono HZ2.out) | (with_reducible exact (HK4.out.alloc HK4.out.size _).mono HZ2.out) | (with_reducible exact HK5.out.mono HZ2.out) | (with_reducible exact (HK5.out.mono HZ2.out).trans (Tlv.bset4 (Nat.le_refl _) _ _ _ _))) (first
    | (go_at_call 100; refine (number43 _ _).mono ?_; rintro e w2 ⟨rfl, hb2⟩; have HK2 : Hid (Below W0.heap.size W0 w2) := (Below.refl _ _).drew.trans hb2; clear hb2)
    | (go_at_call_of 101 (Value.slice (some ⟨w.heap.size, 1, none⟩) 32 32); refine (K44n.out _ ?_).mono ?_; (with_reducible exact HK2.out); rintro e w3 ⟨an, cn, rfl, hv3, hb3⟩; have HV3 := hid hv3; have HK3 : Hid (Below W0.heap.size W0 w3) := HK2.out.trans (hb3.mono HK2.out.size); clear hv3 hb3)
    | (go_at_call_of 101 (Value.slice a bs.length cap); refine (K44b.out _ ?_).mono ?_; (with_reducible exact HK3.out); rintro e w4 ⟨ab, cb, rfl, hv4, hb4⟩; have HV3' := hid (bySl_lift HV3.out hb4); have HV4 := hid hv4; have HK4 : Hid (Below W0.heap.size W0 w4) := HK3.out.trans (hb4.mono HK3.out.size); clear hv4 hb4 HV3)
    | (go_at_call 99; refine (many42 (by omega) hk1 HV3'.out HV4.out).mono ?_; rintro e w5 ⟨a3, l3, p3, a4, l4, p4, rfl, hr5, hb5⟩; have HR5 := hid hr5; have HK5 : Hid (Below W0.heap.size W0 w5) := HK4.out.trans (hb5.mono HK4.out.size); have hz5 : w.heap.size + 1 < w5.heap.size := (by have h1 := HK5.out.size; have h2 := HZ.out; omega); have hf5 : ∀ j, w5.frozen? ⟨w.heap.size + 1, j, none⟩ = false := (fun j => (HK5.out.frozen (p := ⟨w.heap.size + 1, j, none⟩) (by have h2 := HZ.out; simp; omega)).trans (HF.out j)); have hc5 : ∀ j u, (#[.int .i64 0, .int .u64 0, .slice none 0 0, .slice none 0 0] : Array Value)[j]? = some u → w5.cell? ⟨w.heap.size + 1, j, none⟩ = some u := (fun j u hj => (HK5.out.cell (p := ⟨w.heap.size + 1, j, none⟩) (by have h2 := HZ.out; simp; omega)).trans (HG.out j u hj)); have g0 := hc5 0 _ rfl; have g1 := hc5 1 _ rfl; have g2 := hc5 2 _ rfl; have g3 := hc5 3 _ rfl; clear hr5 hb5 hc5))
  go_wp2_with fail
  obtain ⟨q0, q1, q2, q3⟩ := Tlv.set4_read (u0 := .int .i64 3) (u1 := .int .u64 0) (u2 := .slice a3 l3 p3) (u3 := .slice a4 l4 p4) g0 g1 g2 g3
  refine bodyPost_ret (v := .agg #[.int .i64 3, .int .u64 0, .slice a3 l3 p3, .slice a4 l4 p4]) (by simp [results, Tryz.results73, go_sem, q0, q1, q2, q3]) rfl ⟨_, _, rfl, ?_, ?_⟩
  · have h1 := HK4.out.size
    have h2 := HZ.out
    exact HR5.out.agree (Agree.set4 _ (.inl (by omega)) _ _ _ _) (by omega) (by simp)
  · exact HBEL.out.trans (((HK5.out.mono HZ2.out).mono (Nat.le_succ _)).trans (Tlv.bset4 (Nat.le_succ _) _ _ _ _))
end Go.Proofs.YtaaioaocjfpajaaGreatDoor
end

section
/-
  Bits within 32 that follow one another are told: in plain mathematics.
-/
namespace Go.Proofs.YtaaioaocjfpajaaGreatDoor.Crc
open Go.RowKit

/-- Bit p of bytes is turned. -/
def flip (xs : List Nat) (p : Nat) : List Nat := xs.set (p / 8) (xs.getD (p / 8) 0 ^^^ 2 ^ (p % 8))
/-- The first k of the bits are turned, from place p on. -/
def turn (xs : List Nat) (p m : Nat) : Nat → List Nat
  | 0 => xs
  | k + 1 => if m.testBit k then flip (turn xs p m k) (p + k) else turn xs p m k

end Go.Proofs.YtaaioaocjfpajaaGreatDoor.Crc
end

section
/-
  Plain mathematics of frames: a record's form, and what is read of one.
-/
namespace Go.Proofs.YtaaioaocjfpajaaGreatDoor
open Go.RowKit
open Tlv (Tr)

def nats (xs : List Int) : List Nat := xs.map Int.toNat
def ints (xs : List Nat) : List Int := xs.map fun x : Nat => (x : Int)
theorem nats_length (xs : List Int) : (nats xs).length = xs.length := by simp [nats]
theorem ints_length (xs : List Nat) : (ints xs).length = xs.length := by simp [ints]
theorem nats_ints (xs : List Nat) : nats (ints xs) = xs := by simp [nats, ints, Function.comp_def]
theorem nats_append (a b : List Int) : nats (a ++ b) = nats a ++ nats b := by simp [nats]
theorem ints_nats (xs : List Int) (h : ∀ x ∈ xs, 0 ≤ x ∧ x ≤ 255) : ints (nats xs) = xs := by
  induction xs with
  | nil => rfl
  | cons x xs ih =>
    have h1 := h x (List.mem_cons_self ..)
    have e : ints (nats (x :: xs)) = (x.toNat : Int) :: ints (nats xs) := rfl
    rw [e, ih (fun y hy => h y (List.mem_cons_of_mem _ hy)), Int.toNat_of_nonneg h1.1]
theorem nats_lt (xs : List Int) (h : ∀ x ∈ xs, 0 ≤ x ∧ x ≤ 255) : ∀ x ∈ nats xs, x < 256 := by
  intro x hx
  obtain ⟨y, hy, rfl⟩ := List.mem_map.1 hx
  have := h y hy
  omega
theorem ints_bd (xs : List Nat) (h : ∀ x ∈ xs, x < 256) : ∀ x ∈ ints xs, 0 ≤ x ∧ x ≤ 255 := by
  intro x hx
  obtain ⟨y, hy, rfl⟩ := List.mem_map.1 hx
  have := h y hy
  omega

/-- The sum behind. -/
def sumI (xs : List Int) : List Int := ints (Crc.le4 (Crc.more 0 (nats xs)))
/-- Bytes with their sum behind them. -/
def sealI (xs : List Int) : List Int := xs ++ sumI xs
theorem sumI_length (xs : List Int) : (sumI xs).length = 4 := by rw [sumI, ints_length, Crc.le4_len]
theorem sealI_length (xs : List Int) : (sealI xs).length = xs.length + 4 := by rw [sealI, List.length_append, sumI_length]
theorem sealI_nats (xs : List Int) : nats (sealI xs) = nats xs ++ Crc.le4 (Crc.more 0 (nats xs)) := by rw [sealI, nats_append, sumI, nats_ints]
theorem sealI_bd (xs : List Int) (h : ∀ x ∈ xs, 0 ≤ x ∧ x ≤ 255) : ∀ x ∈ sealI xs, 0 ≤ x ∧ x ≤ 255 := by
  intro x hx
  rcases List.mem_append.1 hx with hx | hx
  · exact h x hx
  · exact ints_bd _ (Crc.le4_lt (Crc.more_lt _ _)) x hx

/-- What a right record is. -/
def RightR (k : Int) (nm bs : List Int) : Prop := 1 ≤ k ∧ k ≤ 9 ∧ bs.length ≤ 5000 ∧ nm.length = 32 ∧ (∀ x ∈ nm, 0 ≤ x ∧ x ≤ 255) ∧ ∀ x ∈ bs, 0 ≤ x ∧ x ≤ 255

/-- A record's form. -/
def formR (k : Int) (nm bs : List Int) : List Int := Tlv.formOf 2 (recT k nm bs)
/-- Its frame. -/
def frameR (k : Int) (nm bs : List Int) : List Int := sealI (formR k nm bs)

theorem nsz_small {k : Int} (h0 : 1 ≤ k) (h1 : k ≤ 9) : Tlv.nsz k = 1 := by
  have : k = 1 ∨ k = 2 ∨ k = 3 ∨ k = 4 ∨ k = 5 ∨ k = 6 ∨ k = 7 ∨ k = 8 ∨ k = 9 := by omega
  rcases this with rfl | rfl | rfl | rfl | rfl | rfl | rfl | rfl | rfl <;> decide

theorem recT_right {k : Int} {nm bs : List Int} (h : RightR k nm bs) : (Tlv.bsz 2 (recT k nm bs) 65535 8).2 = true := by
  obtain ⟨h0, h1, hl, hn, _, _⟩ := h
  rw [recT, Tlv.bsz_3 _ _ _ (by omega), Tlv.lsz_go (by omega)]
  have e := nsz_small h0 h1
  simp only [Tlv.lszGo]
  rw [Tlv.bsz_1 _ _ _ (by omega), e]
  simp only [show decide ((1 : Int) ≤ 65535 - 0 - 3) = true from rfl, if_true]
  rw [Tlv.bsz_2 _ _ _ (by omega), hn]
  simp only [show decide (((32 : Nat) : Int) ≤ 65535 - (0 + (3 + 1)) - 3) = true from rfl, if_true]
  rw [Tlv.bsz_2 _ _ _ (by omega)]
  simp only [show decide ((bs.length : Int) ≤ 65535 - (0 + (3 + 1) + (3 + ((32 : Nat) : Int))) - 3) = true by simp; omega, if_true]

theorem recT_num {k : Int} {nm bs : List Int} (h0 : 1 ≤ k) (h1 : k ≤ 9) : Tlv.NumOk 2 (recT k nm bs) := by
  have z : ∀ (n : Nat) (x : Int) (ys : List Int), 0 ≤ x → x ≤ 18446744073709551615 → Tlv.NumOk (0 + 1) (Tr.mk n x ys []) := fun n x ys a b => ⟨a, b, fun k hk => by cases hk⟩
  refine ⟨by simp [recT, Tr.mk, Tlv.Tr.hd], by simp [recT, Tr.mk, Tlv.Tr.hd], fun x hx => ?_⟩
  have hx' : x = (Tr.mk 1 k [] [] : Tr 1) ∨ x = Tr.mk 2 0 nm [] ∨ x = Tr.mk 2 0 bs [] := by
    have h : x ∈ [(Tr.mk 1 k [] [] : Tr 1), Tr.mk 2 0 nm [], Tr.mk 2 0 bs []] := hx
    simpa using h
  rcases hx' with rfl | rfl | rfl
  · exact z 1 k [] (by omega) (by omega)
  · exact z 2 0 nm (by omega) (by omega)
  · exact z 2 0 bs (by omega) (by omega)

/-- The form, byte by byte. -/
theorem formR_eq {k : Int} {nm bs : List Int} (h : RightR k nm bs) : formR k nm bs =
    3 :: ((42 + bs.length : Nat) : Int) / 256 :: ((42 + bs.length : Nat) : Int) % 256 :: (1 :: 0 :: 1 :: k :: 2 :: 0 :: 32 :: (nm ++ 2 :: (bs.length : Int) / 256 :: (bs.length : Int) % 256 :: bs)) := by
  obtain ⟨h0, h1, hl, hn, _, _⟩ := h
  have e := nsz_small h0 h1
  have b1 : Tlv.bodyOf 1 (Tr.mk 1 k [] []) = [k] := by
    have : Tlv.bodyOf 1 (Tr.mk 1 k [] []) = Tlv.numB (Tlv.nsz k).toNat k := rfl
    rw [this, e]
    have : Tlv.numB (1 : Int).toNat k = [k / 1 % 256] := rfl
    rw [this]
    congr 1
    omega
  have b2 : ∀ xs, Tlv.bodyOf 1 (Tr.mk 2 0 xs []) = xs := fun _ => rfl
  have f1 : Tlv.formOf 1 (Tr.mk 1 k [] []) = [1, 0, 1, k] := by
    have : Tlv.formOf 1 (Tr.mk 1 k [] []) = 1 :: ((Tlv.bodyOf 1 (Tr.mk 1 k [] [])).length / 256 : Int) :: ((Tlv.bodyOf 1 (Tr.mk 1 k [] [])).length % 256 : Int) :: Tlv.bodyOf 1 (Tr.mk 1 k [] []) := rfl
    rw [this, b1]
    simp
  have f2 : ∀ xs : List Int, Tlv.formOf 1 (Tr.mk 2 0 xs []) = 2 :: (xs.length : Int) / 256 :: (xs.length : Int) % 256 :: xs := fun _ => rfl
  have bd : Tlv.bodyOf 2 (recT k nm bs) = 1 :: 0 :: 1 :: k :: 2 :: 0 :: 32 :: (nm ++ 2 :: (bs.length : Int) / 256 :: (bs.length : Int) % 256 :: bs) := by
    rw [Tlv.bodyOf_kids rfl]
    have : (recT k nm bs).kd.map (Tlv.formOf 1) = [Tlv.formOf 1 (Tr.mk 1 k [] []), Tlv.formOf 1 (Tr.mk 2 0 nm []), Tlv.formOf 1 (Tr.mk 2 0 bs [])] := rfl
    rw [this, f1, f2, f2, hn]
    simp
  have : formR k nm bs = 3 :: ((Tlv.bodyOf 2 (recT k nm bs)).length / 256 : Int) :: ((Tlv.bodyOf 2 (recT k nm bs)).length % 256 : Int) :: Tlv.bodyOf 2 (recT k nm bs) := rfl
  rw [this, bd]
  have hlen : (1 :: 0 :: 1 :: k :: 2 :: 0 :: 32 :: (nm ++ 2 :: (bs.length : Int) / 256 :: (bs.length : Int) % 256 :: bs)).length = 42 + bs.length := by
    simp [hn]; omega
  rw [hlen]

theorem formR_length {k : Int} {nm bs : List Int} (h : RightR k nm bs) : (formR k nm bs).length = 45 + bs.length := by
  rw [formR_eq h]
  have := h.2.2.2.1
  simp [this]; omega

theorem frameR_length {k : Int} {nm bs : List Int} (h : RightR k nm bs) : (frameR k nm bs).length = 49 + bs.length := by
  rw [frameR, sealI_length, formR_length h]; omega

theorem formR_bd {k : Int} {nm bs : List Int} (h : RightR k nm bs) : ∀ x ∈ formR k nm bs, 0 ≤ x ∧ x ≤ 255 := by
  rw [formR_eq h]
  obtain ⟨h0, h1, hl, hn, hx, hy⟩ := h
  intro x hm
  simp only [List.mem_cons, List.mem_append] at hm
  rcases hm with rfl | rfl | rfl | rfl | rfl | rfl | rfl | rfl | rfl | rfl | hm | rfl | rfl | rfl | hm
  all_goals first | omega | exact hx x hm | exact hy x hm

theorem frameR_bd {k : Int} {nm bs : List Int} (h : RightR k nm bs) : ∀ x ∈ frameR k nm bs, 0 ≤ x ∧ x ≤ 255 := sealI_bd _ (formR_bd h)

theorem szT_rec {k : Int} {nm bs : List Int} (h : RightR k nm bs) : Tlv.szT 2 (recT k nm bs) = ((45 + bs.length : Nat) : Int) := by
  have h1 := recT_right h
  rw [Tlv.szT, if_pos h1, Tlv.bsz_len _ _ _ _ h1]
  have h2 := formR_length h
  have h3 : (formR k nm bs).length = 3 + (Tlv.bodyOf 2 (recT k nm bs)).length := by rw [formR]; simp [Tlv.formOf]; omega
  omega

/-- The record whose value a tree is. -/
def recOf (t : Tr 9) : Option (Int × List Int × List Int) :=
  match t.kd with
  | [a, b, c] => if t.hd.1 = 3 ∧ a.hd.1 = 1 ∧ b.hd.1 = 2 ∧ c.hd.1 = 2 ∧ b.hd.2.2.length = 32 ∧ 1 ≤ a.hd.2.1 ∧ a.hd.2.1 ≤ 9 ∧ c.hd.2.2.length ≤ 5000 then some (a.hd.2.1, b.hd.2.2, c.hd.2.2) else none
  | _ => none

theorem bsz_oe {n : Nat} {t : Tr (n + 1)} {room deep : Int} (h : (Tlv.bsz (n + 1) t room deep).2 = true) : (t.hd.1 = 1 ∨ t.hd.2.1 = 0) ∧ (t.hd.1 = 2 ∨ t.hd.2.2 = []) ∧ (t.hd.1 = 3 ∨ t.kd = []) := by
  simp only [Tlv.bsz] at h
  split at h
  · simp at h
  · rename_i h0
    have h1 := (not_or.1 h0).2
    have h2 : Tlv.oeB t.hd.1 t.hd.2.1 t.hd.2.2.length t.kd.length = true := by simpa using h1
    have h3 := Tlv.oeB_iff.1 h2
    refine ⟨h3.1, h3.2.1.imp id List.length_eq_zero_iff.1, h3.2.2.imp id List.length_eq_zero_iff.1⟩

theorem same_leaf {a : Tr 8} {tag x : Int} {ys : List Int} : Tlv.sameT 8 a 1 (Tr.mk tag x ys []) = true ↔ a.hd = (tag, x, ys) ∧ a.kd = [] := by
  simp only [Tlv.sameT, Bool.and_eq_true, decide_eq_true_eq]
  refine ⟨fun h => ⟨h.1, ?_⟩, fun h => ⟨h.1, ?_⟩⟩
  · have := Tlv.sameL_len h.2
    exact List.length_eq_zero_iff.1 this
  · rw [h.2]; rfl

theorem same_rec {t : Tr 9} {a b c : Tr 8} (hk : t.kd = [a, b, c]) (hr : (Tlv.bsz 9 t 65535 8).2 = true) (k : Int) (nm bs : List Int) :
    Tlv.sameT 9 t 2 (recT k nm bs) = true ↔ t.hd.1 = 3 ∧ a.hd.1 = 1 ∧ a.hd.2.1 = k ∧ b.hd.1 = 2 ∧ b.hd.2.2 = nm ∧ c.hd.1 = 2 ∧ c.hd.2.2 = bs := by
  have e : Tlv.sameT 9 t 2 (recT k nm bs) = (decide (t.hd = (3, 0, [])) && Tlv.sameL (fun a b => Tlv.sameT 8 a 1 b) t.kd [Tr.mk 1 k [] [], Tr.mk 2 0 nm [], Tr.mk 2 0 bs []]) := rfl
  rw [e, hk]
  simp only [Tlv.sameL, Bool.and_eq_true, decide_eq_true_eq, same_leaf, and_true]
  have ht := bsz_oe hr
  constructor
  · rintro ⟨h1, ⟨h2, h3⟩, ⟨h4, h5⟩, h6, h7⟩
    exact ⟨by rw [h1], by rw [h2], by rw [h2], by rw [h4], by rw [h4], by rw [h6], by rw [h6]⟩
  · rintro ⟨h1, h2, h3, h4, h5, h6, h7⟩
    have hf := (Tlv.Rt.facts ⟨8, hr⟩).2.2.2 h1
    rw [hk] at hf
    obtain ⟨_, _, da, ra⟩ := hf a (by simp)
    obtain ⟨_, _, db, rb⟩ := hf b (by simp)
    obtain ⟨_, _, dc, rc⟩ := hf c (by simp)
    have oa := bsz_oe ra
    have ob := bsz_oe rb
    have oc := bsz_oe rc
    have p : ∀ (n : Nat) (u : Tr n) (x y : Int) (zs : List Int), u.hd.1 = x → u.hd.2.1 = y → u.hd.2.2 = zs → u.hd = (x, y, zs) := fun n u x y zs p q r => by rw [← p, ← q, ← r]
    refine ⟨p _ _ _ _ _ h1 (ht.1.resolve_left (by omega)) (ht.2.1.resolve_left (by omega)), ⟨p _ _ _ _ _ h2 h3 (oa.2.1.resolve_left (by omega)), oa.2.2.resolve_left (by omega)⟩, ⟨p _ _ _ _ _ h4 (ob.1.resolve_left (by omega)) h5, ob.2.2.resolve_left (by omega)⟩, p _ _ _ _ _ h6 (oc.1.resolve_left (by omega)) h7, oc.2.2.resolve_left (by omega)⟩

/-- What is copied into 32 bytes. -/
def pad32 (xs : List Int) : List Int := xs.take 32 ++ List.replicate (32 - xs.length) 0
theorem pad32_length (xs : List Int) : (pad32 xs).length = 32 := by simp [pad32]; omega
theorem pad32_same (xs : List Int) : xs = pad32 xs ↔ xs.length = 32 := by
  constructor
  · intro h; rw [h, pad32_length]
  · intro h; rw [pad32, h, List.take_of_length_le (by omega)]; simp

/-- The way the program goes: make the value anew, and look whether it is the same. -/
theorem recOf_eq {t : Tr 9} {a b c : Tr 8} (hk : t.kd = [a, b, c]) (hr : (Tlv.bsz 9 t 65535 8).2 = true) {k : Int} (h0 : 0 ≤ a.hd.2.1) (h1 : a.hd.2.1 ≤ 18446744073709551615) (hw : k = wrap64 a.hd.2.1) :
    recOf t = if rightB k c.hd.2.2.length = true ∧ Tlv.sameT 9 t 2 (recT k (pad32 b.hd.2.2) c.hd.2.2) = true then some (k, pad32 b.hd.2.2, c.hd.2.2) else none := by
  rw [recOf, hk]
  simp only [same_rec hk hr]
  have hwk : 1 ≤ k → k ≤ 9 → a.hd.2.1 = k := by
    intro a1 a2
    rw [hw] at a1 a2 ⊢
    unfold wrap64 at a1 a2 ⊢
    omega
  by_cases hc : t.hd.1 = 3 ∧ a.hd.1 = 1 ∧ b.hd.1 = 2 ∧ c.hd.1 = 2 ∧ b.hd.2.2.length = 32 ∧ 1 ≤ a.hd.2.1 ∧ a.hd.2.1 ≤ 9 ∧ c.hd.2.2.length ≤ 5000
  · obtain ⟨c1, c2, c3, c4, c5, c6, c7, c8⟩ := hc
    have hka : k = a.hd.2.1 := by rw [hw, IntWalk.wrap64_in _ ⟨by omega, by omega⟩]
    rw [if_pos ⟨c1, c2, c3, c4, c5, c6, c7, c8⟩, if_pos]
    · rw [hka, ← (pad32_same _).2 c5]
    · refine ⟨by simp [rightB]; omega, c1, c2, hka.symm, c3, (pad32_same _).2 c5, c4, trivial⟩
  · rw [if_neg hc, if_neg]
    rintro ⟨hr1, s1, s2, s3, s4, s5, s6, _⟩
    simp [rightB] at hr1
    exact hc ⟨s1, s2, s4, s6, (pad32_same _).1 s5, by omega, by omega, by omega⟩

/-- No record, but a fault. -/
def noRec (f : Int) : Int × (Int × List Int × List Int) × Nat := (f, (0, List.replicate 32 0, []), 0)
/-- What Take answers: the fault, the record, how many bytes. -/
def takeF (bs : List Int) : Int × (Int × List Int × List Int) × Nat :=
  match Tlv.rd 8 bs with
  | none => noRec 16
  | some (t, m) =>
    if bs.length - m < 4 then noRec 16
    else if sumI (bs.take m) ≠ (bs.drop m).take 4 then noRec 4
    else match recOf t with
      | none => noRec 3
      | some r => (0, r, m + 4)

theorem endOf_ge (bs : List Int) : 3 ≤ Tlv.endOf bs := by unfold Tlv.endOf; omega
theorem endOf_of {bs cs : List Int} (h1 : bs[1]? = cs[1]?) (h2 : bs[2]? = cs[2]?) : Tlv.endOf bs = Tlv.endOf cs := by
  unfold Tlv.endOf
  rw [List.getD_eq_getElem?_getD, List.getD_eq_getElem?_getD, List.getD_eq_getElem?_getD, List.getD_eq_getElem?_getD, h1, h2]
theorem endOf_take (bs : List Int) {E : Nat} (h3 : 3 ≤ E) : Tlv.endOf (bs.take E) = Tlv.endOf bs :=
  endOf_of (by rw [List.getElem?_take_of_lt (by omega)]) (by rw [List.getElem?_take_of_lt (by omega)])

theorem rd_short {bs : List Int} (h : bs.length < 3) : Tlv.rd 8 bs = none := by rw [Tlv.rd_eq, Tlv.rd1, if_pos h]
theorem rd_cut {bs : List Int} (h : bs.length < Tlv.endOf bs) : Tlv.rd 8 bs = none := by
  rw [Tlv.rd_eq, Tlv.rd1]
  by_cases h3 : bs.length < 3
  · rw [if_pos h3]
  · rw [if_neg h3, if_pos h]
theorem rd_end {bs : List Int} {t : Tr 9} {m : Nat} (h : Tlv.rd 8 bs = some (t, m)) : m = Tlv.endOf bs := by
  rw [Tlv.rd_eq, Tlv.rd1] at h
  split at h
  · simp at h
  · split at h
    · simp at h
    · simp only [Option.map_eq_some_iff, Prod.mk.injEq] at h
      obtain ⟨_, _, _, rfl⟩ := h
      rfl

/-- The form cut out by its own head. -/
theorem get_take {bs : List Int} (h3 : 3 ≤ bs.length) (hE : Tlv.endOf bs ≤ bs.length) : Tlv.getT (bs.take (Tlv.endOf bs)) = (Tlv.rd 8 bs).map Prod.fst := by
  have g3 := endOf_ge bs
  have hl : (bs.take (Tlv.endOf bs)).length = Tlv.endOf bs := by rw [List.length_take]; omega
  have e : Tlv.rd 8 (bs.take (Tlv.endOf bs)) = Tlv.rd 8 bs := by
    rw [Tlv.rd_eq, Tlv.rd_eq, Tlv.rd1, Tlv.rd1, endOf_take _ g3, hl, if_neg (by omega), if_neg (by omega), if_neg (by omega), if_neg (by omega), List.take_take, Nat.min_self]
    rw [List.getD_eq_getElem?_getD, List.getD_eq_getElem?_getD, List.getElem?_take_of_lt (by omega)]
  unfold Tlv.getT
  rw [e, hl]
  cases h : Tlv.rd 8 bs with
  | none => rfl
  | some x =>
    obtain ⟨t, m⟩ := x
    have := rd_end h
    simp [this]

theorem takeF_none {bs : List Int} (h : Tlv.rd 8 bs = none) : takeF bs = noRec 16 := by rw [takeF, h]
theorem takeF_some {bs : List Int} {t : Tr 9} {m : Nat} (h : Tlv.rd 8 bs = some (t, m)) : takeF bs = if bs.length - m < 4 then noRec 16
    else if sumI (bs.take m) ≠ (bs.drop m).take 4 then noRec 4
    else match recOf t with
      | none => noRec 3
      | some r => (0, r, m + 4) := by rw [takeF, h]

theorem takeF_pos {bs : List Int} (h : (takeF bs).1 = 0) : 4 ≤ (takeF bs).2.2 ∧ (takeF bs).2.2 ≤ bs.length := by
  cases hr : Tlv.rd 8 bs with
  | none => rw [takeF_none hr] at h; simp [noRec] at h
  | some x =>
    obtain ⟨t, m⟩ := x
    have hm := Tlv.rd_pos hr
    rw [takeF_some hr] at h ⊢
    by_cases h1 : bs.length - m < 4
    · rw [if_pos h1] at h; simp [noRec] at h
    · rw [if_neg h1] at h ⊢
      by_cases h2 : sumI (bs.take m) ≠ (bs.drop m).take 4
      · rw [if_pos h2] at h; simp [noRec] at h
      · rw [if_neg h2] at h ⊢
        cases hq : recOf t with
        | none => simp [hq, noRec] at h
        | some r => simp; omega

/-- A record's frame, whatever is behind it. -/
theorem take_frame {k : Int} {nm bs : List Int} (h : RightR k nm bs) (rest : List Int) : takeF (frameR k nm bs ++ rest) = (0, (k, nm, bs), 49 + bs.length) := by
  have hl := formR_length h
  obtain ⟨t, hr, hs⟩ := Tlv.form_rd 2 8 (recT k nm bs) 65535 (sumI (formR k nm bs) ++ rest) (recT_num h.1 h.2.1) (by omega) (recT_right h)
  have e : frameR k nm bs ++ rest = formR k nm bs ++ (sumI (formR k nm bs) ++ rest) := by rw [frameR, sealI, List.append_assoc]
  have hr' : Tlv.rd 8 (formR k nm bs ++ (sumI (formR k nm bs) ++ rest)) = some (t, (formR k nm bs).length) := hr
  have hbt : (Tlv.bsz 9 t 65535 8).2 = true := by
    have hb : Tlv.rd 8 (formR k nm bs) = some (t, (formR k nm bs).length) := by
      obtain ⟨t2, hr2, _⟩ := Tlv.form_rd 2 8 (recT k nm bs) 65535 [] (recT_num h.1 h.2.1) (by omega) (recT_right h)
      have hr3 : Tlv.rd 8 (formR k nm bs ++ []) = some (t2, (formR k nm bs).length) := hr2
      rw [List.append_nil] at hr3
      have := Tlv.rd_append hr3 (sumI (formR k nm bs) ++ rest)
      rw [hr'] at this
      rw [hr3, this]
    exact (Tlv.rd_form 8 _ t _ (formR_bd h) hb).2
  have hrec : recOf t = some (k, nm, bs) := by
    have e1 : Tlv.sameT 9 t 2 (recT k nm bs) = (decide (t.hd = (3, 0, [])) && Tlv.sameL (fun a b => Tlv.sameT 8 a 1 b) t.kd [Tr.mk 1 k [] [], Tr.mk 2 0 nm [], Tr.mk 2 0 bs []]) := rfl
    have hs2 := hs
    rw [e1, Bool.and_eq_true] at hs2
    have hlen := Tlv.sameL_len hs2.2
    match hk : t.kd, hlen with
    | [a, b, c], _ =>
      obtain ⟨s1, s2, s3, s4, s5, s6, s7⟩ := (same_rec hk hbt k nm bs).1 hs
      obtain ⟨g1, g2, g3, g4, _, _⟩ := h
      rw [recOf, hk]
      simp only []
      rw [if_pos ⟨s1, s2, s4, s6, by rw [s5]; exact g4, by omega, by omega, by rw [s7]; exact g3⟩, s3, s5, s7]
  rw [e, takeF_some hr', hrec]
  have h4 := sumI_length (formR k nm bs)
  have hf : ¬ (formR k nm bs ++ (sumI (formR k nm bs) ++ rest)).length - (formR k nm bs).length < 4 := by simp [h4]
  have ht : (formR k nm bs ++ (sumI (formR k nm bs) ++ rest)).take (formR k nm bs).length = formR k nm bs := by rw [List.take_left']; rfl
  have hd : ((formR k nm bs ++ (sumI (formR k nm bs) ++ rest)).drop (formR k nm bs).length).take 4 = sumI (formR k nm bs) := by rw [List.drop_left' rfl, List.take_left' h4]
  rw [if_neg hf, ht, hd, if_neg (fun h => h rfl)]
  simp only [hl]
  congr 2
  omega

end Go.Proofs.YtaaioaocjfpajaaGreatDoor
end

section
/-
  What Same of tlv answers of any two trees.
-/
namespace Go.Proofs.YtaaioaocjfpajaaGreatDoor.Tlv
open Go.RowKit
attribute [local go_sem ↓] Go.wp_at_zero Go.wp_at_succ

theorem conv_bytes {L B : Nat} {w : World} {v : Value} {bs : List Int} (h : BySl L B w v bs) : (convert 54 9 v).run Tryz.prog w = .ok (.string (strOfNums bs)) w := by
  obtain ⟨a, cap, rfl, h2, h3, h4, h5, h6, h7⟩ := h
  by_cases hne : bs = []
  · subst hne
    rw [List.length_nil, run_convert_bytes_string w 54 9 5 _ 0 cap Tryz.underlying54 Tryz.underlying5 Tryz.underlying9]
    cases a <;> simp [Conv.bytesToString, loadCells]
    all_goals rfl
  · obtain ⟨b, o, rfl, _, _, hc⟩ := h7 hne
    exact run_convert_bytes_arg w 54 5 Tryz.underlying54 Tryz.underlying5 b o bs.length cap bs rfl hc 9 Tryz.underlying9

theorem strOfNums_inj {xs ys : List Int} (hx : ∀ x ∈ xs, 0 ≤ x ∧ x ≤ 255) (hy : ∀ x ∈ ys, 0 ≤ x ∧ x ≤ 255) (h : strOfNums xs = strOfNums ys) : xs = ys := by
  have e := congrArg (fun s : ByteArray => s.data.toList) h
  simp only [strOfNums_data] at e
  have inv : ∀ zs : List Int, (∀ x ∈ zs, 0 ≤ x ∧ x ≤ 255) → (zs.map fun n => UInt8.ofNat n.toNat).map (fun u => (u.toNat : Int)) = zs := by
    intro zs hz
    induction zs with
    | nil => rfl
    | cons z zs ih =>
      have := hz z (List.mem_cons_self ..)
      simp only [List.map_cons]
      rw [ih (fun x hx => hz x (List.mem_cons_of_mem _ hx))]
      congr 1
      simp
      omega
  rw [← inv xs hx, ← inv ys hy, e]

set_option maxHeartbeats 400000 in
theorem equal_any (v v' : Value) (xs ys : List Int) (w : World) (h : BySl 0 w.heap.size w v xs) (h' : BySl 0 w.heap.size w v' ys) :
    Calls Tryz.prog 37 #[v, v'] w fun e w' => e = .returned (.bool (decide (xs = ys))) ∧ w' = w := by
  have c1 := conv_bytes h
  have c2 := conv_bytes h'
  have hq : ((strOfNums xs).toList == (strOfNums ys).toList) = decide (xs = ys) := by
    obtain ⟨_, _, _, _, _, _, _, h6, _⟩ := h
    obtain ⟨_, _, _, _, _, _, _, h6', _⟩ := h'
    rw [Bool.eq_iff_iff, decide_eq_true_eq, beq_iff_eq, ByteArray.toList_eq, ByteArray.toList_eq]
    exact ⟨fun e => strOfNums_inj h6 h6' (by cases hx : strOfNums xs; cases hy : strOfNums ys; rw [hx, hy] at e; simpa using e), fun e => by rw [e]⟩
  clear h h'
  go_enter Tryz.func37, Tryz.ntmps37
  go_wp2_with fail
  go_ret
  exact ⟨rfl, rfl⟩

theorem hd_dec (a b : Int × Int × List Int) : decide (a = b) = (decide (a.1 = b.1) && (decide (a.2.1 = b.2.1) && decide (a.2.2 = b.2.2))) := by
  obtain ⟨a1, a2, a3⟩ := a
  obtain ⟨b1, b2, b3⟩ := b
  simp [Prod.mk.injEq, Bool.decide_and]

def SameTOk (n : Nat) : Prop := ∀ (m : Nat) (t : Tr n) (u : Tr m) (sb sk sb' sk' : Value) (deep : Int) (w : World), Rep 0 w.heap.size w n t sb sk → Rep 0 w.heap.size w m u sb' sk' → (n : Int) ≤ deep → deep ≤ 131072 →
  Calls Tryz.prog 189 #[.agg #[.int .i64 t.hd.1, .int .u64 t.hd.2.1, sb, sk], .agg #[.int .i64 u.hd.1, .int .u64 u.hd.2.1, sb', sk'], .int .i64 deep] w fun e w' => e = .returned (.bool (sameT n t m u)) ∧ Below w.heap.size w w'

set_option maxHeartbeats 2000000 in
set_option maxRecDepth 100000 in
theorem same_any : ∀ n, SameTOk n
  | 0 => fun _ t => by cases t
  | n + 1 => by
    intro m t u sb sk sb' sk' deep w h h' hd0 hd1
    cases m with
    | zero => cases u
    | succ m =>
    have ih := same_any n
    obtain ⟨hn0, hn1, hby, hks⟩ := h
    obtain ⟨hn0', hn1', hby', hks'⟩ := h'
    have HB := hid hby
    have HK := hid hks
    have HB' := hid hby'
    have HK' := hid hks'
    obtain ⟨ab, cb, rfl, hrb⟩ := hby
    obtain ⟨ak, ck, rfl, hrk⟩ := hks
    obtain ⟨ab', cb', rfl, hrb'⟩ := hby'
    obtain ⟨ak', ck', rfl, hrk'⟩ := hks'
    clear hrb hrk hrb' hrk'
    have hkl : t.kd.length ≤ 2199023255552 := by obtain ⟨_, _, _, _, _, _, h, _⟩ := HK.out; exact h
    obtain ⟨R, hR⟩ : ∃ R, sameT (n + 1) t (m + 1) u = R := ⟨_, rfl⟩
    rw [hR]
    have HR : Hid (((decide (t.hd.1 = u.hd.1) && (decide (t.hd.2.1 = u.hd.2.1) && decide (t.hd.2.2 = u.hd.2.2))) && sameL (fun a b => sameT n a m b) t.kd u.kd) = R) := by rw [← hd_dec]; exact hR
    clear hR
    have hdz : (deep == 0) = false := by simp; omega
    generalize t.kd = ks at *
    generalize t.hd.2.2 = bs at *
    generalize t.hd.2.1 = num at *
    generalize t.hd.1 = tag at *
    generalize u.kd = ks' at *
    generalize u.hd.2.2 = bs' at *
    generalize u.hd.2.1 = num' at *
    generalize u.hd.1 = tag' at *
    by_cases ht : tag = tag'
    case neg =>
      have htb : (tag != tag') = true := by simpa using ht
      have Hr : Hid (R = false) := by rw [Hid, ← HR.out]; simp [ht]
      clear ht
      go_enter Tryz.func189, Tryz.ntmps189
      go_wp2_with fail
      go_ret
      exact ⟨by rw [Hr.out]; rfl, ((Below.refl _ _).alloc (Nat.le_refl _) _).alloc (by simp) _⟩
    case pos =>
    subst ht
    by_cases hu : num = num'
    case neg =>
      have hub : (num != num') = true := by simpa using hu
      have Hr : Hid (R = false) := by rw [Hid, ← HR.out]; simp [hu]
      clear hu
      go_enter Tryz.func189, Tryz.ntmps189
      go_wp2_with fail
      go_ret
      exact ⟨by rw [Hr.out]; rfl, ((Below.refl _ _).alloc (Nat.le_refl _) _).alloc (by simp) _⟩
    case pos =>
    subst hu
    have hA : Agree 0 w.heap.size w ((w.alloc (Obj.cells #[Value.int .i64 tag, Value.int .u64 num, Value.slice ab bs.length cb, Value.slice ak ks.length ck] 156)).alloc (Obj.cells #[Value.int .i64 tag, Value.int .u64 num, Value.slice ab' bs'.length cb', Value.slice ak' ks'.length ck'] 156)) := ((Agree.refl _ _ _).alloc (Nat.le_refl _) _).alloc (by simp) _
    have q1 := hid (HB.out.agree hA (Nat.le_refl _) (B' := w.heap.size + 1 + 1) (by omega))
    have q2 := hid (HB'.out.agree hA (Nat.le_refl _) (B' := w.heap.size + 1 + 1) (by omega))
    clear hA
    go_enter Tryz.func189, Tryz.ntmps189
    go_wp2_with fail
    refine (equal_any _ _ bs bs' _ (by simpa using q1.out) (by simpa using q2.out)).mono ?_
    rintro e w1 ⟨rfl, hw1⟩
    have x3 : w1.cell? ⟨w.heap.size, 3, none⟩ = some (.slice ak ks.length ck) := by rw [hw1]; simp [go_sem]
    have y3 : w1.cell? ⟨w.heap.size + 1, 3, none⟩ = some (.slice ak' ks'.length ck') := by rw [hw1]; simp [go_sem]
    have hz1 : w1.heap.size = w.heap.size + 2 := by rw [hw1]; simp
    have Hbel : Hid (Below w.heap.size w w1) := by rw [hw1]; exact ((Below.refl _ _).alloc (Nat.le_refl _) _).alloc (by simp) _
    clear hw1 q1 q2
    by_cases hbs : bs = bs'
    case neg =>
      rw [decide_eq_false hbs]
      have Hr : Hid (R = false) := by rw [Hid, ← HR.out]; simp [hbs]
      clear hbs
      go_wp2_with fail
      go_ret
      exact ⟨by rw [Hr.out]; rfl, Hbel.out⟩
    case pos =>
    rw [decide_eq_true hbs]
    have HR2 : Hid (sameL (fun a b => sameT n a m b) ks ks' = R) := by rw [Hid, ← HR.out]; simp [hbs]
    clear hbs HR
    by_cases hl : ks.length = ks'.length
    case neg =>
      have hlb : ((ks.length : Int) != (ks'.length : Int)) = true := by simp; omega
      have Hr : Hid (R = false) := by
        rw [Hid, ← HR2.out]
        cases e : sameL (fun a b => sameT n a m b) ks ks' with
        | false => rfl
        | true => exact absurd (sameL_len e) hl
      clear hl
      go_wp2_with fail
      go_ret
      exact ⟨by rw [Hr.out]; rfl, Hbel.out⟩
    case pos =>
    obtain ⟨L, hL⟩ : ∃ L, ks.length = L := ⟨_, rfl⟩
    have HLk := hid hL
    have HLk' : Hid (ks'.length = L) := by rw [Hid, ← hl]; exact hL
    rw [← hl, hL] at y3 ⊢
    rw [hL] at x3 hkl
    clear hl hL
    go_wp2_with fail
    go_loopw [45] (fun i wr => ∃ k : Nat, k ≤ L ∧ i = .int .i64 k ∧ Hid (Below w1.heap.size w1 wr) ∧ Hid (sameL (fun a b => sameT n a m b) (ks.drop k) (ks'.drop k) = R)) (fun i _ => L - (intOf i).toNat)
    case atStart => exact ⟨0, Nat.zero_le _, rfl, Below.refl _ _, HR2⟩
    case round =>
      obtain ⟨k, hk, rfl, HI, HS⟩ := hrel
      have hws := HI.out.size
      have Y3 : wr.cell? ⟨w.heap.size + 1, 3, none⟩ = some (.slice ak' L ck') := (HI.out.cell (p := ⟨w.heap.size + 1, 3, none⟩) (by simp; omega)).trans y3
      by_cases hltL : k < L
      · have hlt : k < ks.length := by rw [HLk.out]; exact hltL
        have hlt' : k < ks'.length := by rw [HLk'.out]; exact hltL
        obtain ⟨_, _, ea, _, _, _, _, h7⟩ := HK.out
        simp only [Value.slice.injEq, true_and] at ea
        obtain ⟨rfl, rfl⟩ := ea
        obtain ⟨b, o, rfl, _, hbw, hc⟩ := h7 (by intro e; subst e; simp at hlt)
        obtain ⟨_, _, ea, _, _, _, _, h7'⟩ := HK'.out
        simp only [Value.slice.injEq] at ea
        obtain ⟨rfl, _, rfl⟩ := ea
        obtain ⟨b', o', rfl, _, hbw', hc'⟩ := h7' (by intro e; subst e; simp at hlt')
        obtain ⟨sb, sk, c0, c1, c2, c3, hrep⟩ := hc k ks[k] (List.getElem?_eq_getElem hlt)
        obtain ⟨sb', sk', c0', c1', c2', c3', hrep'⟩ := hc' k ks'[k] (List.getElem?_eq_getElem hlt')
        clear hc hc' h7 h7'
        obtain ⟨a1, l1, p1, a2, l2, p2, rfl, rfl⟩ := hrep.sl
        obtain ⟨a3, l3, p3, a4, l4, p4, rfl, rfl⟩ := hrep'.sl
        have hbel : Hid (Below w.heap.size w wr) := Hbel.out.trans (HI.out.mono (by omega))
        have hR := hid hrep
        have hR' := hid hrep'
        clear hrep hrep'
        have d0 := (hbel.out.cell (p := ⟨b, o + k * 4, none⟩) hbw).trans c0
        have d1 := (hbel.out.cell (p := ⟨b, o + k * 4 + 1, none⟩) hbw).trans c1
        have d2 := (hbel.out.cell (p := ⟨b, o + k * 4 + 2, none⟩) hbw).trans c2
        have d3 := (hbel.out.cell (p := ⟨b, o + k * 4 + 3, none⟩) hbw).trans c3
        have d0' := (hbel.out.cell (p := ⟨b', o' + k * 4, none⟩) hbw').trans c0'
        have d1' := (hbel.out.cell (p := ⟨b', o' + k * 4 + 1, none⟩) hbw').trans c1'
        have d2' := (hbel.out.cell (p := ⟨b', o' + k * 4 + 2, none⟩) hbw').trans c2'
        have d3' := (hbel.out.cell (p := ⟨b', o' + k * 4 + 3, none⟩) hbw').trans c3'
        clear c0 c1 c2 c3 c0' c1' c2' c3'
        have HD : Hid ((sameT n ks[k] m ks'[k] && sameL (fun a b => sameT n a m b) (ks.drop (k + 1)) (ks'.drop (k + 1))) = R) := by
          rw [Hid, ← HS.out, List.drop_eq_getElem_cons hlt, List.drop_eq_getElem_cons hlt']
          rfl
        generalize ks[k] = t1 at *
        generalize ks'[k] = u1 at *
        have hcall : Hid (∀ W, Below w.heap.size w W → Calls Tryz.prog 189 #[.agg #[.int .i64 t1.hd.1, .int .u64 t1.hd.2.1, .slice a1 l1 p1, .slice a2 l2 p2], .agg #[.int .i64 u1.hd.1, .int .u64 u1.hd.2.1, .slice a3 l3 p3, .slice a4 l4 p4], .int .i64 (deep - 1)] W fun e w' => e = .returned (.bool (sameT n t1 m u1)) ∧ Below W.heap.size W w') :=
          fun W hW => ih m t1 u1 _ _ _ _ (deep - 1) W (hR.out.agree (Agree.below hW) (Nat.le_refl _) hW.size) (hR'.out.agree (Agree.below hW) (Nat.le_refl _) hW.size) (by omega) (by omega)
        have hwd : IntKind.i64.wrap (deep - 1) = deep - 1 := by rw [IntKind.wrap_i64]; omega
        have hkI0 : (0 : Int) ≤ (k : Int) := by omega
        have hkI1 : (k : Int) < (L : Int) := by omega
        clear hlt hlt'
        have hbwr : b < wr.heap.size := by omega
        have hbx2 : w.heap.size + 1 < wr.heap.size := by omega
        have hbwr' : b' < wr.heap.size := by omega
        generalize sameT n t1 m u1 = q at hcall HD
        cases q with
        | true =>
          go_wp2_with fail
          obtain ⟨W, hW⟩ : ∃ W, wr.alloc (Obj.cells #[Value.int .i64 t1.hd.1, Value.int .u64 t1.hd.2.1, Value.slice a1 l1 p1, Value.slice a2 l2 p2] 156) = W := ⟨_, rfl⟩
          have v0 : W.cell? ⟨wr.heap.size, 0, none⟩ = some (.int .i64 t1.hd.1) := by rw [← hW]; simp [go_sem]
          have v1 : W.cell? ⟨wr.heap.size, 1, none⟩ = some (.int .u64 t1.hd.2.1) := by rw [← hW]; simp [go_sem]
          have v2 : W.cell? ⟨wr.heap.size, 2, none⟩ = some (.slice a1 l1 p1) := by rw [← hW]; simp [go_sem]
          have v3 : W.cell? ⟨wr.heap.size, 3, none⟩ = some (.slice a2 l2 p2) := by rw [← hW]; simp [go_sem]
          have x3' : W.cell? ⟨w.heap.size + 1, 3, none⟩ = some (.slice (some ⟨b', o', none⟩) L ck') := by rw [← hW, World.cell?_alloc_past _ _ _ hbx2]; exact Y3
          have e0' : W.cell? ⟨b', o' + k * 4, none⟩ = some (.int .i64 u1.hd.1) := by rw [← hW, World.cell?_alloc_past _ _ _ hbwr']; exact d0'
          have e1' : W.cell? ⟨b', o' + k * 4 + 1, none⟩ = some (.int .u64 u1.hd.2.1) := by rw [← hW, World.cell?_alloc_past _ _ _ hbwr']; exact d1'
          have e2' : W.cell? ⟨b', o' + k * 4 + 2, none⟩ = some (.slice a3 l3 p3) := by rw [← hW, World.cell?_alloc_past _ _ _ hbwr']; exact d2'
          have e3' : W.cell? ⟨b', o' + k * 4 + 3, none⟩ = some (.slice a4 l4 p4) := by rw [← hW, World.cell?_alloc_past _ _ _ hbwr']; exact d3'
          have hBW : Hid (Below w.heap.size w W) := by rw [← hW]; exact hbel.out.alloc hbel.out.size _
          have hIW : Hid (Below w1.heap.size w1 W) := by rw [← hW]; exact HI.out.alloc hws _
          rw [hW]
          clear hW d0 d1 d2 d3 d0' d1' d2' d3' Y3
          have hc9 := hid (hcall.out W.drew hBW.out.drew)
          go_region_with ((go_at_call 189; refine hc9.out.mono ?_; rintro e w2 ⟨rfl, hb2⟩; have HB2 := hid hb2; clear hb2))
          all_goals go_wp2_with fail
          all_goals
            go_roundw
            case rel => exact ⟨k + 1, by omega, by go_num, (hIW.out.drew).trans (HB2.out.mono hIW.out.size), by simpa [Hid] using HD.out⟩
            case measure => simp [intOf]; omega
        | false =>
          go_wp2_with fail
          obtain ⟨W, hW⟩ : ∃ W, wr.alloc (Obj.cells #[Value.int .i64 t1.hd.1, Value.int .u64 t1.hd.2.1, Value.slice a1 l1 p1, Value.slice a2 l2 p2] 156) = W := ⟨_, rfl⟩
          have v0 : W.cell? ⟨wr.heap.size, 0, none⟩ = some (.int .i64 t1.hd.1) := by rw [← hW]; simp [go_sem]
          have v1 : W.cell? ⟨wr.heap.size, 1, none⟩ = some (.int .u64 t1.hd.2.1) := by rw [← hW]; simp [go_sem]
          have v2 : W.cell? ⟨wr.heap.size, 2, none⟩ = some (.slice a1 l1 p1) := by rw [← hW]; simp [go_sem]
          have v3 : W.cell? ⟨wr.heap.size, 3, none⟩ = some (.slice a2 l2 p2) := by rw [← hW]; simp [go_sem]
          have x3' : W.cell? ⟨w.heap.size + 1, 3, none⟩ = some (.slice (some ⟨b', o', none⟩) L ck') := by rw [← hW, World.cell?_alloc_past _ _ _ hbx2]; exact Y3
          have e0' : W.cell? ⟨b', o' + k * 4, none⟩ = some (.int .i64 u1.hd.1) := by rw [← hW, World.cell?_alloc_past _ _ _ hbwr']; exact d0'
          have e1' : W.cell? ⟨b', o' + k * 4 + 1, none⟩ = some (.int .u64 u1.hd.2.1) := by rw [← hW, World.cell?_alloc_past _ _ _ hbwr']; exact d1'
          have e2' : W.cell? ⟨b', o' + k * 4 + 2, none⟩ = some (.slice a3 l3 p3) := by rw [← hW, World.cell?_alloc_past _ _ _ hbwr']; exact d2'
          have e3' : W.cell? ⟨b', o' + k * 4 + 3, none⟩ = some (.slice a4 l4 p4) := by rw [← hW, World.cell?_alloc_past _ _ _ hbwr']; exact d3'
          have hBW : Hid (Below w.heap.size w W) := by rw [← hW]; exact hbel.out.alloc hbel.out.size _
          have hIW : Hid (Below w1.heap.size w1 W) := by rw [← hW]; exact HI.out.alloc hws _
          rw [hW]
          clear hW d0 d1 d2 d3 d0' d1' d2' d3' Y3
          have hc9 := hid (hcall.out W.drew hBW.out.drew)
          go_region_with ((go_at_call 189; refine hc9.out.mono ?_; rintro e w2 ⟨rfl, hb2⟩; have HB2 := hid hb2; clear hb2))
          all_goals go_wp2_with fail
          all_goals go_ret
          all_goals exact ⟨by rw [← HD.out]; rfl, (hBW.out.drew).trans (HB2.out.mono hBW.out.size)⟩
      · go_wp2_with fail
        go_ret
        refine ⟨?_, Hbel.out.trans (HI.out.mono (by omega))⟩
        rw [← HS.out, List.drop_of_length_le (by rw [HLk.out]; omega), List.drop_of_length_le (by rw [HLk'.out]; omega)]
        rfl

set_option maxHeartbeats 400000 in
theorem Same_any {n m : Nat} (t : Tr n) (u : Tr m) (sb sk sb' sk' : Value) (w : World) (h : Rep 0 w.heap.size w n t sb sk) (h' : Rep 0 w.heap.size w m u sb' sk') (hn : n ≤ 131072) :
    Calls Tryz.prog 172 #[.agg #[.int .i64 t.hd.1, .int .u64 t.hd.2.1, sb, sk], .agg #[.int .i64 u.hd.1, .int .u64 u.hd.2.1, sb', sk']] w fun e w' => e = .returned (.bool (sameT n t m u)) ∧ Below w.heap.size w w' := by
  obtain ⟨a1, l1, p1, a2, l2, p2, rfl, rfl⟩ := h.sl
  obtain ⟨a3, l3, p3, a4, l4, p4, rfl, rfl⟩ := h'.sl
  have H := hid h
  have H' := hid h'
  clear h h'
  go_enter Tryz.func172, Tryz.ntmps172
  go_wp2_with fail
  have hA : ∀ o o', Below w.heap.size w ((w.alloc o).alloc o') := fun o o' => ((Below.refl _ _).alloc (Nat.le_refl _) o).alloc (by simp) o'
  refine (same_any n m t u _ _ _ _ 131072 _ (H.out.agree (Agree.below (hA _ _)) (Nat.le_refl _) (hA _ _).size) (H'.out.agree (Agree.below (hA _ _)) (Nat.le_refl _) (hA _ _).size) (by omega) (by omega)).mono ?_
  rintro e w1 ⟨rfl, hb1⟩
  have HB : Hid (Below w.heap.size w w1) := (hA _ _).trans (hb1.mono (hA _ _).size)
  clear hb1 hA
  go_wp2_with fail
  go_ret
  exact ⟨rfl, HB.out⟩

end Go.Proofs.YtaaioaocjfpajaaGreatDoor.Tlv
end
