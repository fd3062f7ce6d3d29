/- Of the proof: the texts CrcMore, CrcSmall, CrcApp, FrBase, TlvMany, FrValue, CrcBurst, FrMath, TlvSame, FrKit, FrSame, FrPut, PkBegin, PkNil, FrFirst, FrRecord, CrcOpen, FrTake, FrRange, FrScanM, FrTellR, FrTells, FrScanE, FrAlive, TlvRForm, TlvRefForm, FrRPut, FrLight, one behind the other. -/
import Derived.Test.YthmimipoooemjaaGreatDoorAbb
import Derived.Test.YthmimipoooemjaaGreatDoorB5
import Derived.Lib.SlBytesConst
import Derived.Lib.AppendZerosOnto
import Derived.Deep.MidRow
import Derived.Test.YthmimipoooemjaaGreatDoorB4
import Derived.Deep.RegionHeld3
import Derived.Test.YthmimipoooemjaaGreatDoorB3
import Derived.Laws.BytesArg
import Derived.Laws.ResultCell
import Derived.Stop.BytesEq
import Derived.Test.YthmimipoooemjaaGreatDoorB2
import Derived.Test.YthmimipoooemjaaGreatDoorB1
import Derived.Test.YthmimipoooemjaaGreatDoorPkShelf
import Derived.Deep.RegionLaw
import Derived.Deep.DeepCutAuto
import Derived.Laws.Cover3
import Derived.Deep.RegionWith
import Derived.RangeFuncNested
import Derived.RangeFuncBound
import Derived.RangeFuncCalls
import Derived.RangeFuncLeaves
import Derived.Shelf.Abstract
import Derived.Shelf.RegionOpen
import Derived.OwnWalkIn
import Derived.TacticsInMore
import Derived.LoopNIn
import Derived.LoopIn
import Derived.RangeFuncBox
import Derived.Deep.LoopGhost
section
/-
  A table in memory; what Do, More and Sum of it do.
-/
namespace Go.Proofs.YthmimipoooemjaaGreatDoor.Crc
open Go.RowKit

/-- A table lies at b: f says whether its rows are filled, n how many bytes it has gone through. -/
def Tab (w : World) (b f : Nat) (n : Int) : Prop :=
  b < w.heap.size ∧ w.cell? ⟨b, 0, none⟩ = some (.int .u32 f) ∧ w.cell? ⟨b, 1, none⟩ = some (.int .i32 0) ∧ w.cell? ⟨b, 259, none⟩ = some (.int .i64 n) ∧ (∀ j, j < 256 → ∃ x, w.cell? ⟨b, 3 + j, none⟩ = some x) ∧
    (f = 1 → ∀ j, j < 256 → w.cell? ⟨b, 3 + j, none⟩ = some (.int .u32 (stps 8 j : Nat))) ∧ ∀ j, w.frozen? ⟨b, j, none⟩ = false

set_option maxHeartbeats 1600000 in
set_option maxRecDepth 100000 in
theorem slow_any (b : Nat) (n : Int) (w : World) (h : Tab w b 0 n) :
    Calls Tryz.prog 259 #[.pointer (some ⟨b, 0, none⟩), .func (.func 241) #[.pointer (some ⟨b, 0, none⟩)] #[]] w fun e w' => e = .returned (.tuple #[]) ∧ Kept b w w' ∧ Tab w' b 1 n := by
  obtain ⟨hb, h0, h1, h259, hr, -, hf⟩ := h
  have f0 := hf 0
  have f1 := hf 1
  have HR := hid hr
  have HF := hid hf
  clear hr hf
  have hl := run_call_load (P := Tryz.prog) Tryz.func267 (by kernel_rfl) (by kernel_rfl) (by kernel_rfl) .u32 (by kernel_rfl) (w := w.setCell ⟨b, 1, none⟩ (.int .i32 1)) (a := ⟨b, 0, none⟩) (x := 0) ((World.cell?_setCell_other _ ⟨b, 1, none⟩ ⟨b, 0, none⟩ _ (by simp)).trans h0)
  have hnot : ∀ (x : Bool) (w : World), (Op.unary .not (.bool x)).run Tryz.prog w = .ok (.bool (!x)) w := fun _ _ => rfl
  go_enter_defers Tryz.func259, Tryz.ntmps259
  go_wp2_with (first | (go_at_call 268; refine (lock_free ⟨b, 1, none⟩ _ (by go_simp) (by go_simp)).mono ?_; rintro e w' ⟨rfl, rfl⟩) | (go_at_call 258; go_in))
  refine (fill_any b _ (fun j hj => ?_) (fun j => by simpa using HF.out j)).mono ?_
  · obtain ⟨x, hx⟩ := HR.out j hj
    exact ⟨x, (World.cell?_setCell_other _ _ _ _ (by simp only [ne_eq, Addr.mk.injEq, true_and, and_true]; omega)).trans hx⟩
  rintro e w2 ⟨rfl, K, hs, hrows, hcells, hfz⟩
  go_wp2
  -- the door: two deferred calls, the last laid first
  have hw1 : Kept b w (w.setCell ⟨b, 1, none⟩ (.int .i32 1)) := (Kept.refl b w).setCell (p := ⟨b, 1, none⟩) rfl _
  have d0 : w2.cell? ⟨b, 0, none⟩ = some (.int .u32 0) := (hcells 0 (by omega)).trans ((World.cell?_setCell_other _ ⟨b, 1, none⟩ ⟨b, 0, none⟩ _ (by simp)).trans h0)
  have d1 : w2.cell? ⟨b, 1, none⟩ = some (.int .i32 1) := (hcells 1 (by omega)).trans (World.cell?_setCell_same _ _ _ h1)
  have d259 : w2.cell? ⟨b, 259, none⟩ = some (.int .i64 n) := (hcells 259 (by omega)).trans ((World.cell?_setCell_other _ ⟨b, 1, none⟩ ⟨b, 259, none⟩ _ (by simp)).trans h259)
  have g : ∀ j, w2.frozen? ⟨b, j, none⟩ = false := fun j => by rw [hfz j]; simpa using HF.out j
  refine leaves_cons (f := 270) (args := #[.pointer (some ⟨b, 0, none⟩), .bool true]) (by simp) (by simp [go_sem]) ?_
  refine (store_deferred ⟨b, 0, none⟩ (.int .u32 0) .returning _ d0 (g 0)).mono ?_
  rintro e u' w3 ⟨rfl, rfl, rfl⟩
  refine leaves_cons (f := 269) (args := #[.pointer (some ⟨b, 1, none⟩)]) (by simp [settle]) (by simp [go_sem]) ?_
  refine (unlock_deferred ⟨b, 1, none⟩ _ _ ?_ (by simpa using g 1)).mono ?_
  · refine (World.cell?_setCell_other _ ⟨b, 0, none⟩ ⟨b, 1, none⟩ _ (by simp)).trans ?_
    rw [World.cell?_drew]
    exact d1
  rintro e u' w3 ⟨rfl, rfl, rfl⟩
  have hk : Kept b w ((w2.drew.setCell ⟨b, 0, none⟩ (.int .u32 1)).setCell ⟨b, 1, none⟩ (.int .i32 0)) := ((hw1.trans K).drew.setCell (p := ⟨b, 0, none⟩) rfl _).setCell (p := ⟨b, 1, none⟩) rfl _
  have c1 : (w2.drew.setCell ⟨b, 0, none⟩ (.int .u32 1)).cell? ⟨b, 1, none⟩ = some (.int .i32 1) := (World.cell?_setCell_other _ ⟨b, 0, none⟩ ⟨b, 1, none⟩ _ (by simp)).trans (by rw [World.cell?_drew]; exact d1)
  have ho : ∀ j, 1 < j → ((w2.drew.setCell ⟨b, 0, none⟩ (.int .u32 1)).setCell ⟨b, 1, none⟩ (.int .i32 0)).cell? ⟨b, j, none⟩ = w2.cell? ⟨b, j, none⟩ := fun j hj => by
    rw [World.cell?_setCell_other _ ⟨b, 1, none⟩ ⟨b, j, none⟩ _ (by simp only [ne_eq, Addr.mk.injEq, true_and, and_true]; omega), World.cell?_setCell_other _ ⟨b, 0, none⟩ ⟨b, j, none⟩ _ (by simp only [ne_eq, Addr.mk.injEq, true_and, and_true]; omega), World.cell?_drew]
  have ht : Tab ((w2.drew.setCell ⟨b, 0, none⟩ (.int .u32 1)).setCell ⟨b, 1, none⟩ (.int .i32 0)) b 1 n := by
    refine ⟨by have := hs; simp at this; simp; omega, ?_, ?_, ?_, ?_, ?_, ?_⟩
    · rw [World.cell?_setCell_other _ ⟨b, 1, none⟩ ⟨b, 0, none⟩ _ (by simp)]
      exact World.cell?_setCell_same _ _ _ (by rw [World.cell?_drew]; exact d0)
    · exact World.cell?_setCell_same _ _ _ c1
    · rw [ho 259 (by omega)]; exact d259
    · intro j hj
      exact ⟨_, (ho (3 + j) (by omega)).trans (hrows j hj)⟩
    · intro _ j hj
      exact (ho (3 + j) (by omega)).trans (hrows j hj)
    · intro j
      simpa using g j
  exact ⟨_, results_none rfl _ _ _, rfl, hk, ht⟩

/-- '(*sync.Once).Do' of a table. -/
theorem do_any (b f : Nat) (n : Int) (w : World) (hf : f = 0 ∨ f = 1) (h : Tab w b f n) :
    Calls Tryz.prog 240 #[.pointer (some ⟨b, 0, none⟩), .func (.func 241) #[.pointer (some ⟨b, 0, none⟩)] #[]] w fun e w' => e = .returned (.tuple #[]) ∧ Kept b w w' ∧ Tab w' b 1 n := by
  rcases hf with rfl | rfl
  · have h0 := h.2.1
    have hl := run_call_load (P := Tryz.prog) Tryz.func267 (by kernel_rfl) (by kernel_rfl) (by kernel_rfl) .u32 (by kernel_rfl) h0
    have hnot : ∀ (x : Bool) (w : World), (Op.unary .not (.bool x)).run Tryz.prog w = .ok (.bool (!x)) w := fun _ _ => rfl
    have H := hid h
    clear h
    go_enter Tryz.func240, Tryz.ntmps240
    go_wp2_with (first | (go_at_call 259; refine (slow_any b n _ H.out).mono ?_; rintro e w' ⟨rfl, hk, ht⟩) | (go_at_call 258; go_in))
    go_end0
    exact ⟨rfl, hk, ht⟩
  · refine (do_done ⟨b, 0, none⟩ _ w h.2.1).mono ?_
    rintro e w' ⟨rfl, rfl⟩
    exact ⟨rfl, Kept.refl _ _, h⟩

/-- v is a slice of the bytes bs, in blocks other than b. -/
def BySl (b : Nat) (w : World) (v : Value) (bs : List Nat) : Prop :=
  ∃ a cap, v = .slice a bs.length cap ∧ bs.length ≤ cap ∧ cap ≤ maxLen ∧ (a = none → bs = [] ∧ cap = 0) ∧ bs.length ≤ 140737488355328 ∧ (∀ x ∈ bs, x < 256) ∧
    (bs ≠ [] → ∃ g o, a = some ⟨g, o, none⟩ ∧ g ≠ b ∧ g < w.heap.size ∧ ∀ i, i < bs.length → w.cell? ⟨g, o + i, none⟩ = some (.int .u8 (bs.getD i 0 : Nat)))

theorem BySl.kept {b : Nat} {w w' : World} {v : Value} {bs : List Nat} (h : BySl b w v bs) (k : Kept b w w') : BySl b w' v bs := by
  obtain ⟨a, cap, h1, h2, h3, h4, h5, h6, h7⟩ := h
  refine ⟨a, cap, h1, h2, h3, h4, h5, h6, fun hne => ?_⟩
  obtain ⟨g, o, e, hgb, hg, hc⟩ := h7 hne
  exact ⟨g, o, e, hgb, Nat.lt_of_lt_of_le hg k.size, fun i hi => (k.cell (p := ⟨g, o + i, none⟩) hg hgb).trans (hc i hi)⟩

theorem BySl.none (b : Nat) (w : World) : BySl b w (.slice none 0 0) [] := ⟨_, 0, rfl, Nat.le_refl _, Nat.zero_le _, fun _ => ⟨rfl, rfl⟩, by simp, by simp, fun h => absurd rfl h⟩

theorem not_u32 (s : Nat) (hs : s < 4294967296) : bits .xor .u32 IntKind.u32.max (s : Int) = ((nt s : Nat) : Int) := by
  have h := u32_xor_nat 4294967295 s (by decide) hs
  rw [nt_xor hs]
  exact h

/-- The bytes are counted. -/
theorem add_any (a : Addr) (n d : Int) (w : World) (hc : w.cell? a = some (.int .i64 n)) (hz : w.frozen? a = false) :
    Calls Tryz.prog 172 #[.pointer (some a), .int .i64 d] w fun e w' => e = .returned (.int .i64 (wrap64 (n + d))) ∧ w' = w.setCell a (.int .i64 (wrap64 (n + d))) := by
  have hadd := run_call_add (P := Tryz.prog) Tryz.func211 (by kernel_rfl) (by kernel_rfl) (by kernel_rfl) .i64 (by kernel_rfl) (y := d) (s := wrap64 (n + d)) hc hz (by simp [go_sem, wrap64, IntKind.wrap_i64])
  go_enter Tryz.func172, Tryz.ntmps172
  go_wp2
  go_ret
  exact ⟨rfl, rfl⟩

theorem Tab.add {b f : Nat} {n : Int} {w : World} (h : Tab w b f n) (m : Int) : Tab (w.setCell ⟨b, 259, none⟩ (.int .i64 m)) b f m := by
  obtain ⟨h1, h2, h3, h4, h5, h6, h7⟩ := h
  have ho : ∀ j, j ≠ 259 → (w.setCell ⟨b, 259, none⟩ (.int .i64 m)).cell? ⟨b, j, none⟩ = w.cell? ⟨b, j, none⟩ := fun j hj => World.cell?_setCell_other _ _ _ _ (by simp only [ne_eq, Addr.mk.injEq, true_and, and_true]; omega)
  refine ⟨by simpa using h1, (ho 0 (by omega)).trans h2, (ho 1 (by omega)).trans h3, World.cell?_setCell_same _ _ _ h4, fun j hj => ?_, fun e j hj => (ho _ (by omega)).trans (h6 e j hj), fun j => by simpa using h7 j⟩
  obtain ⟨x, hx⟩ := h5 j hj
  exact ⟨x, (ho _ (by omega)).trans hx⟩

theorem Tab.kept {b f g : Nat} {n : Int} {w w' : World} (h : Tab w b f n) (k : Kept g w w') (hg : b ≠ g) : Tab w' b f n := by
  obtain ⟨h1, h2, h3, h4, h5, h6, h7⟩ := h
  have ho : ∀ j, w'.cell? ⟨b, j, none⟩ = w.cell? ⟨b, j, none⟩ := fun j => k.cell (p := ⟨b, j, none⟩) h1 hg
  refine ⟨Nat.lt_of_lt_of_le h1 k.size, (ho 0).trans h2, (ho 1).trans h3, (ho _).trans h4, fun j hj => ?_, fun e j hj => (ho _).trans (h6 e j hj), fun j => (k.frozen (p := ⟨b, j, none⟩) h1 hg).trans (h7 j)⟩
  obtain ⟨x, hx⟩ := h5 j hj
  exact ⟨x, (ho _).trans hx⟩
theorem Tab.below {b f : Nat} {n : Int} {w w' : World} (h : Tab w b f n) (k : Below w.heap.size w w') : Tab w' b f n := h.kept (Kept.below (b := b + 1) k) (by omega)

theorem tab_step (r c : Nat) (hr : r < 4294967296) (hc : c < 256) : bits .xor .u32 ((r : Int) / 256) ((stps 8 (r % 256 ^^^ c) : Nat) : Int) = ((byt r c : Nat) : Int) := by
  have h := u32_xor_nat (r / 256) (stps 8 (r % 256 ^^^ c)) (by omega) (stps_lt 8 (Nat.lt_trans (Nat.xor_lt_two_pow (n := 8) (Nat.mod_lt _ (by decide)) hc) (by decide)))
  rw [byt_tab, ← h]
  rfl

set_option maxHeartbeats 1600000 in
set_option maxRecDepth 100000 in
theorem more_any (b f : Nat) (n : Int) (s : Nat) (hs : s < 4294967296) (v : Value) (bs : List Nat) (w : World) (hf : f = 0 ∨ f = 1) (ht : Tab w b f n) (hv : BySl b w v bs) :
    Calls Tryz.prog 207 #[.pointer (some ⟨b, 0, none⟩), .int .u32 s, v] w fun e w' => e = .returned (.int .u32 (more s bs : Nat)) ∧ Kept b w w' ∧ Tab w' b 1 (wrap64 (n + bs.length)) := by
  obtain ⟨a, cap, rfl, hr⟩ := id hv
  clear hr
  have H := hid hv
  have T := hid ht
  clear hv ht
  have hmf : ∀ (fn : Fn) (first cap : Array Value) (w : World), (Instr.makeFunc fn first cap).run Tryz.prog w = .ok (.func fn first cap) w := fun _ _ _ _ => rfl
  have hsg : IntKind.u32.signed = false := rfl
  have hn := not_u32 s hs
  go_enter Tryz.func207, Tryz.ntmps207
  go_wp2_with (go_at_call 240; refine (do_any b f n _ hf T.out).mono ?_; rintro e w1 ⟨rfl, hk, ht⟩)
  refine (add_any ⟨b, 259, none⟩ n _ _ ht.2.2.2.1 (ht.2.2.2.2.2.2 _)).mono ?_
  rintro e w2 ⟨rfl, rfl⟩
  have ht2 := hid (ht.add (wrap64 (n + bs.length)))
  have hk2 : Hid (Kept b w (w1.setCell ⟨b, 259, none⟩ (.int .i64 (wrap64 (n + bs.length))))) := hk.setCell (p := ⟨b, 259, none⟩) rfl _
  clear hk ht
  generalize w1.setCell ⟨b, 259, none⟩ (.int .i64 (wrap64 (n + bs.length))) = W at *
  have HW := hid (H.out.kept hk2.out)
  go_wp2
  have HT := hid (ht2.out.2.2.2.2.2.1 rfl)
  obtain ⟨a', cap', e', h2, h3, h4, h5, h6, h7⟩ := HW.out
  cases e'
  have H6 := hid h6
  have H7 := hid h7
  clear h6 h7 h4 hn
  go_loopw [7, 28] (fun r i wr => ∃ k : Nat, k ≤ bs.length ∧ i = .int .i64 k ∧ r = .int .u32 (reg (nt s) (bs.take k) : Nat) ∧ wr = W) (fun _ i _ => bs.length - (intOf i).toNat)
  case atStart => exact ⟨0, Nat.zero_le _, rfl, rfl, rfl⟩
  case round =>
    obtain ⟨k, hk, rfl, rfl, hwr⟩ := hrel
    subst wr
    by_cases hlt : k < bs.length
    · obtain ⟨g, o, rfl, _, _, hc⟩ := H7.out (by intro e; subst e; simp at hlt)
      have c1 := hc k hlt
      clear hc
      have hx : bs.getD k 0 < 256 := by
        have := H6.out (bs[k]) (List.getElem_mem hlt)
        simpa [List.getElem?_eq_getElem hlt] using this
      have hsn : Hid (reg (nt s) (bs.take (k + 1)) = byt (reg (nt s) (bs.take k)) (bs.getD k 0)) := by
        rw [Hid, List.take_succ_eq_append_getElem hlt, reg_snoc]
        simp [List.getElem?_eq_getElem hlt]
      have hr := reg_lt (bs.take k) (r := nt s) (fun x hx => H6.out x (List.mem_of_mem_take hx)) (nt_lt s)
      generalize bs.getD k 0 = c at *
      generalize reg (nt s) (bs.take k) = r at *
      have hj : r % 256 ^^^ c < 256 := Nat.xor_lt_two_pow (n := 8) (Nat.mod_lt _ (by decide)) hx
      have c2 := HT.out (r % 256 ^^^ c) hj
      have hst := tab_step r c hr hx
      have hx8 : bits .xor .u8 ((r : Int) % 256) (c : Int) = ((r % 256 ^^^ c : Nat) : Int) := u8_xor_nat (r % 256) c (by omega) hx
      generalize r % 256 ^^^ c = j at *
      have hj2 : 0 ≤ (j : Int) ∧ (j : Int) < 256 := by omega
      generalize stps 8 j = y at *
      generalize byt r c = z at *
      go_wp2
      go_roundw
      case rel => exact ⟨k + 1, by omega, by go_num, by rw [hsn.out], by first | rfl | trivial⟩
      case measure => simp [intOf]; omega
    · have e : bs.take k = bs := List.take_of_length_le (by omega)
      rw [e]
      have hl := reg_lt bs (r := nt s) H6.out (nt_lt s)
      have hn := not_u32 _ hl
      go_wp2
      go_ret
      exact ⟨rfl, hk2.out, ht2.out⟩

set_option maxHeartbeats 400000 in
theorem sum_any (b f : Nat) (n : Int) (v : Value) (bs : List Nat) (w : World) (hf : f = 0 ∨ f = 1) (ht : Tab w b f n) (hv : BySl b w v bs) :
    Calls Tryz.prog 164 #[.pointer (some ⟨b, 0, none⟩), v] w fun e w' => e = .returned (.int .u32 (more 0 bs : Nat)) ∧ Kept b w w' ∧ Tab w' b 1 (wrap64 (n + bs.length)) := by
  obtain ⟨a, cap, rfl, hr⟩ := id hv
  clear hr
  have H := hid hv
  have T := hid ht
  clear hv ht
  go_enter Tryz.func164, Tryz.ntmps164
  go_wp2_with (go_at_call 207; refine (more_any b f n 0 (by decide) _ bs _ hf T.out H.out).mono ?_; rintro e w1 ⟨rfl, hk, ht⟩)
  go_ret
  exact ⟨rfl, hk, ht⟩

end Go.Proofs.YthmimipoooemjaaGreatDoor.Crc
end

section
/-
  A new table; the chapter's example; whether bytes are the same; how many were counted.
-/
namespace Go.Proofs.YthmimipoooemjaaGreatDoor.Crc
open Go.RowKit

def Z61 : Array Value := #[.int .u32 0, .int .i32 0, .int .u32 0] ++ (Array.replicate 256 (.int .u32 0) ++ #[.int .i64 0])
theorem zero61 (w : World) : (zeroValue 125).run Tryz.prog w = .ok (.agg Z61) w := by kernel_rfl
theorem Z61_at (j : Nat) (h : j < 256) : Z61[3 + j]? = some (.int .u32 0) := by
  rw [Z61, Array.getElem?_append_right (by simp), Array.getElem?_append_left (by simp; omega)]
  simp [h]

set_option maxHeartbeats 400000 in
set_option maxRecDepth 100000 in
theorem new_any (w : World) :
    Calls Tryz.prog 12 #[] w fun e w' => e = .returned (.pointer (some ⟨w.heap.size, 0, none⟩)) ∧ Below w.heap.size w w' ∧ w'.heap.size = w.heap.size + 1 ∧ Tab w' w.heap.size 0 0 := by
  have hz := zero61
  go_enter Tryz.func12, Tryz.ntmps12
  go_wp2
  go_ret
  have ho : ∀ j, (w.alloc (.cells Z61 125)).cell? ⟨w.heap.size, j, none⟩ = Z61[j]? := fun j => World.cell?_alloc_at _ _ _ _ rfl
  refine ⟨rfl, (Below.refl _ _).alloc (Nat.le_refl _) _, by simp, by simp, ho 0, ho 1, ho 259, fun j hj => ⟨_, (ho _).trans (Z61_at j hj)⟩, fun e => absurd e (by decide), fun j => World.frozen?_alloc_at _ _ _ _ rfl⟩

end Go.Proofs.YthmimipoooemjaaGreatDoor.Crc
end

section
/-
  Bytes laid behind bytes: append to a row of the call's own, bytes.Clone, slices.Grow of nil, slices.Concat of two, the reference's Seal.
-/
namespace Go.Proofs.YthmimipoooemjaaGreatDoor.Crc
open Go.RowKit

theorem Tryz.info5 : (Tryz.prog.info? 5).map (fun i => (i.zero, i.size, i.bytes)) = some (some (.int .u8 0), 1, 1) := by kernel_rfl

/-- Bytes as cells. -/
def cl (xs : List Nat) : List Value := xs.map fun x : Nat => .int .u8 (x : Int)
theorem cl_length (xs : List Nat) : (cl xs).length = xs.length := by simp [cl]
theorem cl_append (xs ys : List Nat) : cl (xs ++ ys) = cl xs ++ cl ys := by simp [cl]
theorem cl_at (xs : List Nat) (i : Nat) (h : i < xs.length) : (cl xs)[i]? = some (.int .u8 (xs.getD i 0 : Nat)) := by simp [cl, List.getElem?_eq_getElem h]

/-- v is a row of the call's own, from block base on, of the bytes xs. -/
def Own (w : World) (base : Nat) (v : Value) (xs : List Nat) : Prop := w.ownsRow base 5 1 v xs.length (cl xs)

theorem Own.ge {w : World} {base : Nat} {v : Value} {xs : List Nat} (h : Own w base v xs) : ∀ k, v.ownBlock = some k → base ≤ k := by
  intro k hk
  rcases h.2 with ⟨rfl, _⟩ | ⟨g, cap, cur, rfl, hb, _⟩
  · simp [Value.ownBlock] at hk
  · simp [Value.ownBlock] at hk
    omega

theorem Own.mono {w : World} {base base' : Nat} {v : Value} {xs : List Nat} (h : Own w base v xs) (hb : base' ≤ base) : Own w base' v xs := by
  refine ⟨h.1, ?_⟩
  rcases h.2 with h | ⟨g, cap, cur, rfl, hg, r⟩
  · exact .inl h
  · exact .inr ⟨g, cap, cur, rfl, by omega, r⟩

theorem Own.bySl {w : World} {base b : Nat} {v : Value} {xs : List Nat} (h : Own w base v xs) (hb : b < base) (hl : xs.length ≤ 100000) (hx : ∀ x ∈ xs, x < 256) : BySl b w v xs := by
  rcases h.2 with ⟨rfl, h0⟩ | ⟨g, cap, cur, rfl, hg, hh, hn, hc, hs, ht⟩
  · have : xs = [] := List.length_eq_zero_iff.1 h0
    subst this
    exact BySl.none _ _
  · refine ⟨_, cap, rfl, hn, hc, by simp, by omega, hx, fun _ => ⟨g, 0, rfl, by omega, (Array.getElem?_eq_some_iff.1 hh).1, fun i hi => ?_⟩⟩
    have h1 : w.ownsRow base 5 1 (.slice (some ⟨g, 0, none⟩) xs.length cap) xs.length (cl xs) := h
    rw [Nat.zero_add, h1.cellAt i (by omega)]
    exact cl_at xs i hi

theorem addr_add (g o i : Nat) : (⟨g, o, none⟩ : Addr).add i = ⟨g, o + i, none⟩ := by unfold Addr.add; split <;> simp_all

/-- append(v, x...), v of the call's own. -/
theorem app_bytes {ops : Array Oper} {rest : List Oper} {o : Oper} {a : Act} {Q : Exit → Act → World → Prop} (w : World) (hgd : o.guard = none) (s x : Operand)
    (ho : o.op = .call { callee := .builtin .append, args := #[s, x], argTypes := #[54, 54] }) (base b : Nat) (v vx : Value) (xs ys : List Nat) (hs : a.eval s = v) (hx : a.eval x = vx)
    (hown : Own w base v xs) (hy : BySl b w vx ys) (hlen : xs.length + ys.length ≤ 100000) (hbase : base ≤ w.heap.size)
    (h : ∀ v' w', Own w' base v' (xs ++ ys) → Below base w w' → wpList Tryz.prog ops Q rest (a.put o.dst v') w') : wpList Tryz.prog ops Q (o :: rest) a w := by
  obtain ⟨i0, hi, hz0, hz1, hz2⟩ := info_parts Tryz.info5
  obtain ⟨ad, cap, rfl, h2, h3, h4, h5, h6, h7⟩ := hy
  cases ad with
  | none =>
    obtain ⟨rfl, rfl⟩ := h4 rfl
    refine wpList_append_own_none hgd s x 54 ho base 5 i0 1 Tryz.underlying54 hi v xs.length (cl xs) hs hown hx ?_
    exact h v w (by rw [List.append_nil]; exact hown) (Below.refl _ _)
  | some ad =>
    refine wpList_append_own w hgd s x 54 ho base 5 i0 (.int .u8 0) 1 1 Tryz.underlying54 hi hz0 hz1 hz2 rfl (by decide) v xs.length (cl xs) hs hown ad ys.length cap (cl ys) hx ?_ ?_ ?_ ?_ ?_ hbase ?_
    · rw [cl_length, Nat.mul_one]
    · intro j u hj
      have hjn : j < ys.length := by
        have := (List.getElem?_eq_some_iff.1 hj).1
        rwa [cl_length] at this
      obtain ⟨g, o, e, _, hb, hc⟩ := h7 (by intro e; subst e; simp at hjn)
      simp only [Option.some.injEq] at e
      subst e
      rw [addr_add, hc j hjn, ← cl_at ys j hjn]
      exact hj
    · intro u hu; obtain ⟨x, _, rfl⟩ := List.mem_map.1 hu; rfl
    · unfold maxLen; omega
    · omega
    · intro v' w' h8 h9 _
      refine h v' w' ?_ ((Below.refl _ w).grown h9 hbase hown.ge)
      unfold Own
      rw [cl_append, List.length_append]
      exact h8

theorem Tryz.nilEq (w : World) (a : Option Addr) (n c n' c' : Nat) : (binOp .eql 54 (.slice a n c) (.slice none n' c')).run Tryz.prog w = .ok (.bool a.isNone) w :=
  Lib.run_eql_slice_nil w _ _ a n c n' c' Tryz.underlying54

theorem own_empty (w : World) : Own (w.alloc (.cells #[] 5)) w.heap.size (.slice (some ⟨w.heap.size, 0, none⟩) 0 0) [] := World.ownsRow_made w #[] 0 (Nat.le_refl _) (Nat.zero_le _) rfl

set_option maxHeartbeats 1000000 in
theorem clone_any (b : Nat) (v : Value) (bs : List Nat) (w : World) (hb : b < w.heap.size) (h : BySl b w v bs) (hl : bs.length ≤ 100000) :
    Calls Tryz.prog 126 #[v] w fun e w' => ∃ v', e = .returned v' ∧ BySl b w' v' bs ∧ Below w.heap.size w w' := by
  have q22 := Tryz.nilEq
  have H := hid h
  obtain ⟨a, cap, rfl, h2, h3, h4, h5, h6, h7⟩ := h
  have H6 := hid h6
  clear h6 h7
  cases a with
  | none =>
    obtain ⟨rfl, rfl⟩ := h4 rfl
    go_enter Tryz.func126, Tryz.ntmps126
    go_wp2
    go_ret
    exact ⟨_, rfl, BySl.none _ _, Below.refl _ _⟩
  | some ad =>
    clear h4
    go_enter Tryz.func126, Tryz.ntmps126
    go_wp2_with (at_builtin; refine app_bytes _ rfl _ _ rfl w.heap.size b _ _ [] bs rfl rfl (own_empty w) (H.out.kept ((Kept.refl _ _).alloc _)) (by simpa using hl) (by simp) ?_; intro v' w' hown hbel)
    go_wp2
    go_ret
    exact ⟨v', rfl, Own.bySl hown hb hl H6.out, ((Below.refl _ w).alloc (Nat.le_refl _) _).trans hbel⟩

/-- slices.Grow of nil. -/
theorem own_grown (w : World) (n G : Nat) (hG : n ≤ G) (hm : G ≤ maxLen) : Own (w.drew.alloc (.cells (Builtin.zeroCells (Value.int .u8 0).cells n ++ Builtin.zeroCells (Value.int .u8 0).cells (G - n)) 5)) w.heap.size (.slice (some ⟨w.heap.size, 0, none⟩) 0 G) [] := by
  exact World.ownsRow_made w.drew _ G (Nat.le_refl _) hm (by rw [Array.size_append, size_zeroCells, size_zeroCells]; simp [Value.cells]; omega)

set_option maxHeartbeats 1000000 in
theorem grow_any (n : Nat) (w : World) (h0 : 0 < n) (hn : n ≤ 100000) :
    Calls Tryz.prog 208 #[.slice none 0 0, .int .i64 n] w fun e w' => ∃ v, e = .returned v ∧ Own w' w.heap.size v [] ∧ Below w.heap.size w w' := by
  obtain ⟨i0, hi, hz0, hz1, hz2⟩ := info_parts Tryz.info5
  have hrz : ∀ ty, (Builtin.append_ #[54, 3] ty #[.slice none 0 0, .int .i64 n]).run Tryz.prog w = _ := fun ty => Lib.run_append_nil_zeros w 54 3 ty 5 i0 (.int .u8 0) .i64 .i64 Tryz.underlying54 Tryz.underlying3 hi hz0 n h0 (by omega) (by omega) (by rw [hz2]; omega)
  have hGn : n ≤ grownCap w n 0 5 := grownCap_ge w _ _ _
  have hGm := grownCap_le_maxLen w n 0 5 (by unfold maxLen; omega)
  generalize grownCap w n 0 5 = G at *
  have hG63 : G ≤ 9223372036854775807 := by unfold maxLen at hGm; omega
  have HG := hid hGm
  clear hGm hz0 hz1 hz2 hi
  have hnn : ¬ ((n : Int) < 0) := by omega
  have hn2 : (n : Int) > 0 := by omega
  go_enter Tryz.func208, Tryz.ntmps208
  go_wp2_with (at_builtin; refine Lib.wpList_append_run _ rfl _ _ _ _ rfl _ _ rfl rfl _ _ (hrz _) ?_)
  all_goals (go_ret; exact ⟨_, rfl, own_grown w n G hGn HG.out, (Below.refl _ _).drew.alloc (Nat.le_refl _) _⟩)

theorem grow_int (z : Int) (n : Nat) (w : World) (hz : z = n) (h0 : 0 < n) (hn : n ≤ 100000) :
    Calls Tryz.prog 208 #[.slice none 0 0, .int .i64 z] w fun e w' => ∃ v, e = .returned v ∧ Own w' w.heap.size v [] ∧ Below w.heap.size w w' := by
  subst hz
  exact grow_any n w h0 hn

set_option maxHeartbeats 2000000 in
set_option maxRecDepth 100000 in
/-- slices.Concat of two. -/
theorem concat_any (b g : Nat) (v1 v2 : Value) (xs ys : List Nat) (w : World) (c0 : w.cell? ⟨g, 0, none⟩ = some v1) (c1 : w.cell? ⟨g, 1, none⟩ = some v2) (hg : g < w.heap.size) (h1 : BySl b w v1 xs) (h2 : BySl b w v2 ys) (hpos : 0 < ys.length) (hl : xs.length + ys.length ≤ 100000) :
    Calls Tryz.prog 165 #[.slice (some ⟨g, 0, none⟩) 2 2] w fun e w' => ∃ v, e = .returned v ∧ Own w' w.heap.size v (xs ++ ys) ∧ Below w.heap.size w w' := by
  have H1 := hid h1
  have H2 := hid h2
  obtain ⟨a1, k1, rfl, r1⟩ := h1
  obtain ⟨a2, k2, rfl, r2⟩ := h2
  clear r1 r2
  obtain ⟨L1, hL1⟩ : ∃ L, xs.length = L := ⟨_, rfl⟩
  obtain ⟨L2, hL2⟩ : ∃ L, ys.length = L := ⟨_, rfl⟩
  rw [hL1] at H1 c0 hl
  rw [hL2] at H2 c1 hl hpos
  have HL1 := hid hL1
  have HL2 := hid hL2
  clear hL1 hL2
  go_enter Tryz.func165, Tryz.ntmps165
  go_wp2
  refine wp_loop_rounds 3 ?_
  rw [rounds_succ]
  go_wp2
  rw [rounds_succ]
  go_wp2
  rw [rounds_succ]
  go_wp2_with fail
  refine (grow_int _ (L1 + L2) w (by omega) (by omega) hl).mono ?_
  rintro e w1 ⟨v, rfl, hown, hbel⟩
  have HO := hid hown
  have HB := hid hbel
  have hs1 := hbel.size
  have d0 : w1.cell? ⟨g, 0, none⟩ = some (.slice a1 L1 k1) := (hbel.cell (p := ⟨g, 0, none⟩) hg).trans c0
  have d1 : w1.cell? ⟨g, 1, none⟩ = some (.slice a2 L2 k2) := (hbel.cell (p := ⟨g, 1, none⟩) hg).trans c1
  clear hown hbel c0 c1
  go_wp2
  refine wp_loop_rounds 3 ?_
  rw [rounds_succ]
  go_wp2_with (at_builtin; refine app_bytes _ rfl _ _ rfl w.heap.size b _ _ [] xs rfl rfl HO.out (H1.out.kept (Kept.below HB.out)) (by have := HL1.out; simp; omega) hs1 ?_; intro v' w2 hown2 hbel2)
  have HO2 := hid hown2
  have HB2 := hid (HB.out.trans hbel2)
  have hs2 := hbel2.size
  have e0 : w2.cell? ⟨g, 0, none⟩ = some (.slice a1 L1 k1) := (hbel2.cell (p := ⟨g, 0, none⟩) hg).trans d0
  have e1 : w2.cell? ⟨g, 1, none⟩ = some (.slice a2 L2 k2) := (hbel2.cell (p := ⟨g, 1, none⟩) hg).trans d1
  clear hown2 hbel2 d0 d1 HO HB
  go_wp2
  rw [rounds_succ]
  go_wp2_with (at_builtin; refine app_bytes _ rfl _ _ rfl w.heap.size b _ _ ([] ++ xs) ys rfl rfl HO2.out (H2.out.kept (Kept.below HB2.out)) (by have := HL1.out; have := HL2.out; simp; omega) (by omega) ?_; intro v'' w3 hown3 hbel3)
  have HO3 := hid hown3
  have HB3 := hid (HB2.out.trans hbel3)
  clear hown3 hbel3 e0 e1 HO2 HB2
  go_wp2
  rw [rounds_succ]
  go_wp2
  go_ret
  exact ⟨_, rfl, by simpa using HO3.out, HB3.out⟩

/-- A sum in four bytes, the lowest first. -/
def le4 (s : Nat) : List Nat := [s % 256, s / 256 % 256, s / 65536 % 256, s / 16777216]
theorem le4_lt {s : Nat} (hs : s < 4294967296) : ∀ x ∈ le4 s, x < 256 := by
  intro x hx
  simp only [le4, List.mem_cons, List.not_mem_nil, or_false] at hx
  omega
theorem le4_len (s : Nat) : (le4 s).length = 4 := rfl

theorem bySl_le4 (b : Nat) (w : World) (hb : b < w.heap.size) {s : Nat} (hs : s < 4294967296) (t : TypeId) :
    BySl b (w.alloc (.cells #[.int .u8 ((s : Int) % 256), .int .u8 ((s : Int) / 256 % 256), .int .u8 ((s : Int) / 65536 % 256), .int .u8 ((s : Int) / 16777216)] t)) (.slice (some ⟨w.heap.size, 0, none⟩) 4 4) (le4 s) := by
  refine ⟨_, 4, rfl, by simp [le4_len], by decide, by simp, by simp [le4_len], le4_lt hs, fun _ => ⟨w.heap.size, 0, rfl, by omega, by simp, fun i hi => ?_⟩⟩
  rw [le4_len] at hi
  rw [Nat.zero_add, World.cell?_alloc_at _ _ _ _ rfl]
  have : i = 0 ∨ i = 1 ∨ i = 2 ∨ i = 3 := by omega
  rcases this with rfl | rfl | rfl | rfl <;> rfl

set_option maxHeartbeats 400000 in
theorem sumBytes_any (s : Nat) (hs : s < 4294967296) (w : World) :
    Calls Tryz.prog 163 #[.int .u32 s] w fun e w' => e = .returned (.agg #[.int .u8 ((s : Int) % 256), .int .u8 ((s : Int) / 256 % 256), .int .u8 ((s : Int) / 65536 % 256), .int .u8 ((s : Int) / 16777216)]) ∧ Below w.heap.size w w' := by
  go_enter Tryz.func163, Tryz.ntmps163
  go_wp2
  exact bodyPost_ret (v := .agg #[.int .u8 ((s : Int) % 256), .int .u8 ((s : Int) / 256 % 256), .int .u8 ((s : Int) / 65536 % 256), .int .u8 ((s : Int) / 16777216)]) (by simp [results, Tryz.results163, go_sem]) rfl ⟨rfl, (Below.refl _ _).alloc (Nat.le_refl _) _⟩

set_option maxHeartbeats 2000000 in
set_option maxRecDepth 100000 in
theorem seal_any (b f : Nat) (n : Int) (v : Value) (bs : List Nat) (w : World) (hf : f = 0 ∨ f = 1) (ht : Tab w b f n) (h : BySl b w v bs) (hl : bs.length ≤ 80000) :
    Calls Tryz.prog 115 #[.pointer (some ⟨b, 0, none⟩), v] w fun e w' => ∃ v', e = .returned v' ∧ Own w' w.heap.size v' (bs ++ le4 (more 0 bs)) ∧ Kept b w w' ∧ Tab w' b 1 (wrap64 (n + bs.length)) := by
  have H := hid h
  have T := hid ht
  obtain ⟨a, cap, rfl, r⟩ := h
  clear r ht
  have hm := more_lt 0 bs
  obtain ⟨s, hs⟩ : ∃ s, more 0 bs = s := ⟨_, rfl⟩
  have HS := hid hs
  rw [hs] at hm ⊢
  clear hs
  go_enter Tryz.func115, Tryz.ntmps115
  go_wp2_with fail
  refine (sum_any b f n _ bs _ hf T.out H.out).mono ?_
  rintro e w1 ⟨rfl, hk1, ht1⟩
  rw [HS.out]
  have HK1 := hid hk1
  have HT1 := hid ht1
  clear hk1 ht1
  go_wp2_with fail
  refine (sumBytes_any s hm _).mono ?_
  rintro e w2 ⟨rfl, hb2⟩
  have HB2 := hid hb2
  clear hb2
  go_wp2_with fail
  have hz1 := HK1.out.size
  have hz2 := HB2.out.size
  have hbw : b < w.heap.size := T.out.1
  have hk2 := HK1.out.trans (Kept.below (b := b) HB2.out)
  refine (concat_any b (w2.heap.size + 1) _ _ bs (le4 s) _ (by rw [World.cell?_alloc_at _ _ _ _ (by simp)]; rfl) (by rw [World.cell?_alloc_at _ _ _ _ (by simp)]; rfl) (by simp)
    (H.out.kept ((hk2.alloc _).alloc _)) ((bySl_le4 b w2 (by omega) hm 258).kept ((Kept.refl _ _).alloc _)) (by simp [le4_len]) (by simp [le4_len]; omega)).mono ?_
  rintro e w3 ⟨v, rfl, hown, hbel⟩
  have HO := hid hown
  have HB := hid hbel
  clear hown hbel hz1 hz2
  go_wp2_with fail
  go_ret
  refine ⟨_, rfl, HO.out.mono (by have := hk2.size; simp; omega), ((hk2.alloc _).alloc _).trans (Kept.below HB.out), (((HT1.out.below HB2.out).below ((Below.refl _ _).alloc (Nat.le_refl _) _)).below ((Below.refl _ _).alloc (Nat.le_refl _) _)).below HB.out⟩

end Go.Proofs.YthmimipoooemjaaGreatDoor.Crc
end

section
/-
  How records lie in memory; which are right.
-/
namespace Go.Proofs.YthmimipoooemjaaGreatDoor
open Go.RowKit
open Tlv (BySlS AgreeS)
open Crc (hid Kept Tab)
/-- Bytes as cells. -/
def u8s (xs : List Int) : List Value := xs.map (Value.int .u8)
/-- A record's cells. -/
def recA (k : Int) (nm : List Int) (v : Value) : List Value := .int .i64 k :: (u8s nm ++ [v])
end Go.Proofs.YthmimipoooemjaaGreatDoor
end

section
/-
  What Many of tlv makes.
-/
namespace Go.Proofs.YthmimipoooemjaaGreatDoor.Tlv
open Go.RowKit

set_option maxHeartbeats 400000 in
theorem many_any {n : Nat} (ks : List (Tr n)) (v : Value) (w : World) (h : KSl 0 w.heap.size w (Rep 0 w.heap.size w n) v ks) (hn : n < 131072) :
    Calls Tryz.prog 156 #[v] w fun e w' => ∃ sb' sk', e = .returned (.agg #[.int .i64 3, .int .u64 0, sb', sk']) ∧ Rep w.heap.size w'.heap.size w' (n + 1) (Tr.mk 3 0 [] ks) sb' sk' ∧ Below w.heap.size w w' := by
  obtain ⟨ak, ck, rfl, hr⟩ := id h
  clear hr
  have H := hid h
  clear h
  go_enter Tryz.func156, Tryz.ntmps156
  go_wp2_with fail
  have hA : Agree 0 w.heap.size w (w.alloc (Obj.cells #[Value.int IntKind.i64 0, Value.int IntKind.u64 0, Value.slice none 0 0, Value.slice none 0 0] 203)) := (Agree.refl _ _ _).alloc (Nat.le_refl _) _
  have hS : w.heap.size ≤ (w.alloc (Obj.cells #[Value.int IntKind.i64 0, Value.int IntKind.u64 0, Value.slice none 0 0, Value.slice none 0 0] 203)).heap.size := by simp
  refine (clone_any (n + 1) (Tr.mk 3 0 [] ks) _ _ _ _ ⟨by simp [Tr.mk, Tr.hd], by simp [Tr.mk, Tr.hd], BySl.none _ _ _, H.out.agree (fun _ _ _ r => r.agree hA (Nat.le_refl _) hS) hA (Nat.le_refl _) hS⟩ (by omega) (by omega)).mono ?_
  rintro e w1 ⟨sb', sk', rfl, hr1, hb1⟩
  obtain ⟨a3, l3, p3, a4, l4, p4, rfl, rfl⟩ := hr1.sl
  simp only [show (Tr.mk 3 0 [] ks).hd.1 = 3 from rfl, show (Tr.mk 3 0 [] ks).hd.2.1 = 0 from rfl]
  have Hr1 := hid hr1
  have Hb1 := hid hb1
  obtain ⟨hc, hf⟩ := bcell hb1
  have hz := hb1.size
  simp at hz
  have hgw : w.heap.size < w1.heap.size := by omega
  have g0 : w1.cell? ⟨w.heap.size, 0, none⟩ = some (.int .i64 0) := by rw [hc _ _ (by simp)]; simp [go_sem]
  have g1 : w1.cell? ⟨w.heap.size, 1, none⟩ = some (.int .u64 0) := by rw [hc _ _ (by simp)]; simp [go_sem]
  have g2 : w1.cell? ⟨w.heap.size, 2, none⟩ = some (.slice none 0 0) := by rw [hc _ _ (by simp)]; simp [go_sem]
  have g3 : w1.cell? ⟨w.heap.size, 3, none⟩ = some (.slice none 0 0) := by rw [hc _ _ (by simp)]; simp [go_sem]
  have gf : ∀ o, w1.frozen? ⟨w.heap.size, o, none⟩ = false := fun o => by rw [hf _ _ (by simp)]; simp [go_sem]
  clear hc hf hr1 hb1
  go_wp2_with fail
  obtain ⟨q0, q1, q2, q3⟩ := set4_read (u0 := .int .i64 3) (u1 := .int .u64 0) (u2 := .slice a3 l3 p3) (u3 := .slice a4 l4 p4) g0 g1 g2 g3
  refine bodyPost_ret (v := .agg #[.int .i64 3, .int .u64 0, .slice a3 l3 p3, .slice a4 l4 p4]) (by simp [results, Tryz.results156, go_sem, q0, q1, q2, q3, hgw]) rfl ⟨_, _, rfl, ?_, ?_⟩
  · exact Rep.agree (L' := w.heap.size) ((Agree.set4 w1 (.inl (by simp)) _ _ _ _).alloc (by simp) _) (by simp) (by simp) Hr1.out
  · exact (((((Below.refl _ w).alloc (Nat.le_refl _) _).trans (Hb1.out.mono (by simp))).trans (bset4 (Nat.le_refl _) _ _ _ _)).alloc (by simp; omega) _)

end Go.Proofs.YthmimipoooemjaaGreatDoor.Tlv
end

section
/-
  The value, in tlv's words, that a right record has; its mathematics.
-/
namespace Go.Proofs.YthmimipoooemjaaGreatDoor
open Go.RowKit
open Tlv (Tr BySlS AgreeS Agree)
open Crc (hid Kept Tab)

/-- A record's value. -/
def recT (k : Int) (nm bs : List Int) : Tr 2 := Tr.mk 3 0 [] [(Tr.mk 1 k [] [] : Tr 1), Tr.mk 2 0 nm [], Tr.mk 2 0 bs []]

theorem bySl_lift {L : Nat} {V w' : World} {v : Value} {bs : List Int} (h : Tlv.BySl L V.heap.size V v bs) (hb : Below V.heap.size V w') : Tlv.BySl L w'.heap.size w' v bs :=
  h.agree (Agree.below hb) (Nat.le_refl _) hb.size

theorem rep1 {L B : Nat} {w : World} (k : Int) (h0 : 0 ≤ k) (h1 : k ≤ 18446744073709551615) : Tlv.Rep L B w 1 (Tr.mk 1 k [] []) (.slice none 0 0) (.slice none 0 0) :=
  ⟨h0, h1, Tlv.BySl.none _ _ _, Tlv.KSl.none _ _ _ _⟩
theorem rep2 {L B : Nat} {w : World} {v : Value} {bs : List Int} (h : Tlv.BySl L B w v bs) : Tlv.Rep L B w 1 (Tr.mk 2 0 bs []) v (.slice none 0 0) :=
  ⟨Int.le_refl _, by simp [Tr.mk, Tlv.Tr.hd], h, Tlv.KSl.none _ _ _ _⟩

/-- Bytes of tlv, as a walk that holds a world needs it. -/
theorem bytes44 {S : World → Prop} {W0 : World} {L : Nat} {bs : List Int} {v : Value} (hL : bs.length = L) (hS : ∀ V, S V → Below W0.heap.size W0 V) (hb : Tlv.BySl 0 W0.heap.size W0 v bs) :
    ∀ V, S V → Calls Tryz.prog 158 #[v] V fun e w' => ∃ a' c', e = .returned (.agg #[.int .i64 2, .int .u64 0, .slice a' L c', .slice none 0 0]) ∧ (Tlv.BySl W0.heap.size w'.heap.size w' (.slice a' L c') bs ∧ Below V.heap.size V w') := by
  intro V hV
  have hk := hS V hV
  refine (Tlv.bytes_any v bs V (hb.agree (Agree.below hk) (Nat.le_refl _) hk.size)).mono ?_
  rintro e w' ⟨v', rfl, hv, hb'⟩
  obtain ⟨a', c', rfl, hr⟩ := id hv
  refine ⟨a', c', by rw [hL], ?_, hb'⟩
  rw [← hL]
  exact hv.agree (Agree.refl _ _ _) hk.size (Nat.le_refl _)

end Go.Proofs.YthmimipoooemjaaGreatDoor
end

section
/-
  Bits within 32 that follow one another are told: in plain mathematics.
-/
namespace Go.Proofs.YthmimipoooemjaaGreatDoor.Crc
open Go.RowKit

/-- Bit p of bytes is turned. -/
def flip (xs : List Nat) (p : Nat) : List Nat := xs.set (p / 8) (xs.getD (p / 8) 0 ^^^ 2 ^ (p % 8))
/-- The first k of the bits are turned, from place p on. -/
def turn (xs : List Nat) (p m : Nat) : Nat → List Nat
  | 0 => xs
  | k + 1 => if m.testBit k then flip (turn xs p m k) (p + k) else turn xs p m k

end Go.Proofs.YthmimipoooemjaaGreatDoor.Crc
end

section
/-
  Plain mathematics of frames: a record's form, and what is read of one.
-/
namespace Go.Proofs.YthmimipoooemjaaGreatDoor
open Go.RowKit
open Tlv (Tr)

def nats (xs : List Int) : List Nat := xs.map Int.toNat
def ints (xs : List Nat) : List Int := xs.map fun x : Nat => (x : Int)
theorem nats_length (xs : List Int) : (nats xs).length = xs.length := by simp [nats]
theorem ints_length (xs : List Nat) : (ints xs).length = xs.length := by simp [ints]
theorem nats_ints (xs : List Nat) : nats (ints xs) = xs := by simp [nats, ints, Function.comp_def]
theorem nats_append (a b : List Int) : nats (a ++ b) = nats a ++ nats b := by simp [nats]
theorem ints_nats (xs : List Int) (h : ∀ x ∈ xs, 0 ≤ x ∧ x ≤ 255) : ints (nats xs) = xs := by
  induction xs with
  | nil => rfl
  | cons x xs ih =>
    have h1 := h x (List.mem_cons_self ..)
    have e : ints (nats (x :: xs)) = (x.toNat : Int) :: ints (nats xs) := rfl
    rw [e, ih (fun y hy => h y (List.mem_cons_of_mem _ hy)), Int.toNat_of_nonneg h1.1]
theorem nats_lt (xs : List Int) (h : ∀ x ∈ xs, 0 ≤ x ∧ x ≤ 255) : ∀ x ∈ nats xs, x < 256 := by
  intro x hx
  obtain ⟨y, hy, rfl⟩ := List.mem_map.1 hx
  have := h y hy
  omega
theorem ints_bd (xs : List Nat) (h : ∀ x ∈ xs, x < 256) : ∀ x ∈ ints xs, 0 ≤ x ∧ x ≤ 255 := by
  intro x hx
  obtain ⟨y, hy, rfl⟩ := List.mem_map.1 hx
  have := h y hy
  omega

/-- The sum behind. -/
def sumI (xs : List Int) : List Int := ints (Crc.le4 (Crc.more 0 (nats xs)))
/-- Bytes with their sum behind them. -/
def sealI (xs : List Int) : List Int := xs ++ sumI xs
theorem sumI_length (xs : List Int) : (sumI xs).length = 4 := by rw [sumI, ints_length, Crc.le4_len]
theorem sealI_length (xs : List Int) : (sealI xs).length = xs.length + 4 := by rw [sealI, List.length_append, sumI_length]
theorem sealI_nats (xs : List Int) : nats (sealI xs) = nats xs ++ Crc.le4 (Crc.more 0 (nats xs)) := by rw [sealI, nats_append, sumI, nats_ints]
theorem sealI_bd (xs : List Int) (h : ∀ x ∈ xs, 0 ≤ x ∧ x ≤ 255) : ∀ x ∈ sealI xs, 0 ≤ x ∧ x ≤ 255 := by
  intro x hx
  rcases List.mem_append.1 hx with hx | hx
  · exact h x hx
  · exact ints_bd _ (Crc.le4_lt (Crc.more_lt _ _)) x hx

/-- A record's form. -/
def formR (k : Int) (nm bs : List Int) : List Int := Tlv.formOf 2 (recT k nm bs)
/-- Its frame. -/
def frameR (k : Int) (nm bs : List Int) : List Int := sealI (formR k nm bs)

theorem bsz_oe {n : Nat} {t : Tr (n + 1)} {room deep : Int} (h : (Tlv.bsz (n + 1) t room deep).2 = true) : (t.hd.1 = 1 ∨ t.hd.2.1 = 0) ∧ (t.hd.1 = 2 ∨ t.hd.2.2 = []) ∧ (t.hd.1 = 3 ∨ t.kd = []) := by
  simp only [Tlv.bsz] at h
  split at h
  · simp at h
  · rename_i h0
    have h1 := (not_or.1 h0).2
    have h2 : Tlv.oeB t.hd.1 t.hd.2.1 t.hd.2.2.length t.kd.length = true := by simpa using h1
    have h3 := Tlv.oeB_iff.1 h2
    refine ⟨h3.1, h3.2.1.imp id List.length_eq_zero_iff.1, h3.2.2.imp id List.length_eq_zero_iff.1⟩

/-- What is copied into 32 bytes. -/
def pad32 (xs : List Int) : List Int := xs.take 32 ++ List.replicate (32 - xs.length) 0
theorem pad32_length (xs : List Int) : (pad32 xs).length = 32 := by simp [pad32]; omega
theorem pad32_same (xs : List Int) : xs = pad32 xs ↔ xs.length = 32 := by
  constructor
  · intro h; rw [h, pad32_length]
  · intro h; rw [pad32, h, List.take_of_length_le (by omega)]; simp

end Go.Proofs.YthmimipoooemjaaGreatDoor
end

section
/-
  What Same of tlv answers of any two trees.
-/
namespace Go.Proofs.YthmimipoooemjaaGreatDoor.Tlv
open Go.RowKit
attribute [local go_sem ↓] Go.wp_at_zero Go.wp_at_succ

theorem conv_bytes {L B : Nat} {w : World} {v : Value} {bs : List Int} (h : BySl L B w v bs) : (convert 54 9 v).run Tryz.prog w = .ok (.string (strOfNums bs)) w := by
  obtain ⟨a, cap, rfl, h2, h3, h4, h5, h6, h7⟩ := h
  by_cases hne : bs = []
  · subst hne
    rw [List.length_nil, run_convert_bytes_string w 54 9 5 _ 0 cap Tryz.underlying54 Tryz.underlying5 Tryz.underlying9]
    cases a <;> simp [Conv.bytesToString, loadCells]
    all_goals rfl
  · obtain ⟨b, o, rfl, _, _, hc⟩ := h7 hne
    exact run_convert_bytes_arg w 54 5 Tryz.underlying54 Tryz.underlying5 b o bs.length cap bs rfl hc 9 Tryz.underlying9

theorem strOfNums_inj {xs ys : List Int} (hx : ∀ x ∈ xs, 0 ≤ x ∧ x ≤ 255) (hy : ∀ x ∈ ys, 0 ≤ x ∧ x ≤ 255) (h : strOfNums xs = strOfNums ys) : xs = ys := by
  have e := congrArg (fun s : ByteArray => s.data.toList) h
  simp only [strOfNums_data] at e
  have inv : ∀ zs : List Int, (∀ x ∈ zs, 0 ≤ x ∧ x ≤ 255) → (zs.map fun n => UInt8.ofNat n.toNat).map (fun u => (u.toNat : Int)) = zs := by
    intro zs hz
    induction zs with
    | nil => rfl
    | cons z zs ih =>
      have := hz z (List.mem_cons_self ..)
      simp only [List.map_cons]
      rw [ih (fun x hx => hz x (List.mem_cons_of_mem _ hx))]
      congr 1
      simp
      omega
  rw [← inv xs hx, ← inv ys hy, e]

set_option maxHeartbeats 400000 in
theorem equal_any (v v' : Value) (xs ys : List Int) (w : World) (h : BySl 0 w.heap.size w v xs) (h' : BySl 0 w.heap.size w v' ys) :
    Calls Tryz.prog 59 #[v, v'] w fun e w' => e = .returned (.bool (decide (xs = ys))) ∧ w' = w := by
  have c1 := conv_bytes h
  have c2 := conv_bytes h'
  have hq : ((strOfNums xs).toList == (strOfNums ys).toList) = decide (xs = ys) := by
    obtain ⟨_, _, _, _, _, _, _, h6, _⟩ := h
    obtain ⟨_, _, _, _, _, _, _, h6', _⟩ := h'
    rw [Bool.eq_iff_iff, decide_eq_true_eq, beq_iff_eq, ByteArray.toList_eq, ByteArray.toList_eq]
    exact ⟨fun e => strOfNums_inj h6 h6' (by cases hx : strOfNums xs; cases hy : strOfNums ys; rw [hx, hy] at e; simpa using e), fun e => by rw [e]⟩
  clear h h'
  go_enter Tryz.func59, Tryz.ntmps59
  go_wp2_with fail
  go_ret
  exact ⟨rfl, rfl⟩

theorem hd_dec (a b : Int × Int × List Int) : decide (a = b) = (decide (a.1 = b.1) && (decide (a.2.1 = b.2.1) && decide (a.2.2 = b.2.2))) := by
  obtain ⟨a1, a2, a3⟩ := a
  obtain ⟨b1, b2, b3⟩ := b
  simp [Prod.mk.injEq, Bool.decide_and]

def SameTOk (n : Nat) : Prop := ∀ (m : Nat) (t : Tr n) (u : Tr m) (sb sk sb' sk' : Value) (deep : Int) (w : World), Rep 0 w.heap.size w n t sb sk → Rep 0 w.heap.size w m u sb' sk' → (n : Int) ≤ deep → deep ≤ 131072 →
  Calls Tryz.prog 210 #[.agg #[.int .i64 t.hd.1, .int .u64 t.hd.2.1, sb, sk], .agg #[.int .i64 u.hd.1, .int .u64 u.hd.2.1, sb', sk'], .int .i64 deep] w fun e w' => e = .returned (.bool (sameT n t m u)) ∧ Below w.heap.size w w'

set_option maxHeartbeats 2000000 in
set_option maxRecDepth 100000 in
theorem same_any : ∀ n, SameTOk n
  | 0 => fun _ t => by cases t
  | n + 1 => by
    intro m t u sb sk sb' sk' deep w h h' hd0 hd1
    cases m with
    | zero => cases u
    | succ m =>
    have ih := same_any n
    obtain ⟨hn0, hn1, hby, hks⟩ := h
    obtain ⟨hn0', hn1', hby', hks'⟩ := h'
    have HB := hid hby
    have HK := hid hks
    have HB' := hid hby'
    have HK' := hid hks'
    obtain ⟨ab, cb, rfl, hrb⟩ := hby
    obtain ⟨ak, ck, rfl, hrk⟩ := hks
    obtain ⟨ab', cb', rfl, hrb'⟩ := hby'
    obtain ⟨ak', ck', rfl, hrk'⟩ := hks'
    clear hrb hrk hrb' hrk'
    have hkl : t.kd.length ≤ 2199023255552 := by obtain ⟨_, _, _, _, _, _, h, _⟩ := HK.out; exact h
    obtain ⟨R, hR⟩ : ∃ R, sameT (n + 1) t (m + 1) u = R := ⟨_, rfl⟩
    rw [hR]
    have HR : Hid (((decide (t.hd.1 = u.hd.1) && (decide (t.hd.2.1 = u.hd.2.1) && decide (t.hd.2.2 = u.hd.2.2))) && sameL (fun a b => sameT n a m b) t.kd u.kd) = R) := by rw [← hd_dec]; exact hR
    clear hR
    have hdz : (deep == 0) = false := by simp; omega
    generalize t.kd = ks at *
    generalize t.hd.2.2 = bs at *
    generalize t.hd.2.1 = num at *
    generalize t.hd.1 = tag at *
    generalize u.kd = ks' at *
    generalize u.hd.2.2 = bs' at *
    generalize u.hd.2.1 = num' at *
    generalize u.hd.1 = tag' at *
    by_cases ht : tag = tag'
    case neg =>
      have htb : (tag != tag') = true := by simpa using ht
      have Hr : Hid (R = false) := by rw [Hid, ← HR.out]; simp [ht]
      clear ht
      go_enter Tryz.func210, Tryz.ntmps210
      go_wp2_with fail
      go_ret
      exact ⟨by rw [Hr.out]; rfl, ((Below.refl _ _).alloc (Nat.le_refl _) _).alloc (by simp) _⟩
    case pos =>
    subst ht
    by_cases hu : num = num'
    case neg =>
      have hub : (num != num') = true := by simpa using hu
      have Hr : Hid (R = false) := by rw [Hid, ← HR.out]; simp [hu]
      clear hu
      go_enter Tryz.func210, Tryz.ntmps210
      go_wp2_with fail
      go_ret
      exact ⟨by rw [Hr.out]; rfl, ((Below.refl _ _).alloc (Nat.le_refl _) _).alloc (by simp) _⟩
    case pos =>
    subst hu
    have hA : Agree 0 w.heap.size w ((w.alloc (Obj.cells #[Value.int .i64 tag, Value.int .u64 num, Value.slice ab bs.length cb, Value.slice ak ks.length ck] 203)).alloc (Obj.cells #[Value.int .i64 tag, Value.int .u64 num, Value.slice ab' bs'.length cb', Value.slice ak' ks'.length ck'] 203)) := ((Agree.refl _ _ _).alloc (Nat.le_refl _) _).alloc (by simp) _
    have q1 := hid (HB.out.agree hA (Nat.le_refl _) (B' := w.heap.size + 1 + 1) (by omega))
    have q2 := hid (HB'.out.agree hA (Nat.le_refl _) (B' := w.heap.size + 1 + 1) (by omega))
    clear hA
    go_enter Tryz.func210, Tryz.ntmps210
    go_wp2_with fail
    refine (equal_any _ _ bs bs' _ (by simpa using q1.out) (by simpa using q2.out)).mono ?_
    rintro e w1 ⟨rfl, hw1⟩
    have x3 : w1.cell? ⟨w.heap.size, 3, none⟩ = some (.slice ak ks.length ck) := by rw [hw1]; simp [go_sem]
    have y3 : w1.cell? ⟨w.heap.size + 1, 3, none⟩ = some (.slice ak' ks'.length ck') := by rw [hw1]; simp [go_sem]
    have hz1 : w1.heap.size = w.heap.size + 2 := by rw [hw1]; simp
    have Hbel : Hid (Below w.heap.size w w1) := by rw [hw1]; exact ((Below.refl _ _).alloc (Nat.le_refl _) _).alloc (by simp) _
    clear hw1 q1 q2
    by_cases hbs : bs = bs'
    case neg =>
      rw [decide_eq_false hbs]
      have Hr : Hid (R = false) := by rw [Hid, ← HR.out]; simp [hbs]
      clear hbs
      go_wp2_with fail
      go_ret
      exact ⟨by rw [Hr.out]; rfl, Hbel.out⟩
    case pos =>
    rw [decide_eq_true hbs]
    have HR2 : Hid (sameL (fun a b => sameT n a m b) ks ks' = R) := by rw [Hid, ← HR.out]; simp [hbs]
    clear hbs HR
    by_cases hl : ks.length = ks'.length
    case neg =>
      have hlb : ((ks.length : Int) != (ks'.length : Int)) = true := by simp; omega
      have Hr : Hid (R = false) := by
        rw [Hid, ← HR2.out]
        cases e : sameL (fun a b => sameT n a m b) ks ks' with
        | false => rfl
        | true => exact absurd (sameL_len e) hl
      clear hl
      go_wp2_with fail
      go_ret
      exact ⟨by rw [Hr.out]; rfl, Hbel.out⟩
    case pos =>
    obtain ⟨L, hL⟩ : ∃ L, ks.length = L := ⟨_, rfl⟩
    have HLk := hid hL
    have HLk' : Hid (ks'.length = L) := by rw [Hid, ← hl]; exact hL
    rw [← hl, hL] at y3 ⊢
    rw [hL] at x3 hkl
    clear hl hL
    go_wp2_with fail
    go_loopw [45] (fun i wr => ∃ k : Nat, k ≤ L ∧ i = .int .i64 k ∧ Hid (Below w1.heap.size w1 wr) ∧ Hid (sameL (fun a b => sameT n a m b) (ks.drop k) (ks'.drop k) = R)) (fun i _ => L - (intOf i).toNat)
    case atStart => exact ⟨0, Nat.zero_le _, rfl, Below.refl _ _, HR2⟩
    case round =>
      obtain ⟨k, hk, rfl, HI, HS⟩ := hrel
      have hws := HI.out.size
      have Y3 : wr.cell? ⟨w.heap.size + 1, 3, none⟩ = some (.slice ak' L ck') := (HI.out.cell (p := ⟨w.heap.size + 1, 3, none⟩) (by simp; omega)).trans y3
      by_cases hltL : k < L
      · have hlt : k < ks.length := by rw [HLk.out]; exact hltL
        have hlt' : k < ks'.length := by rw [HLk'.out]; exact hltL
        obtain ⟨_, _, ea, _, _, _, _, h7⟩ := HK.out
        simp only [Value.slice.injEq, true_and] at ea
        obtain ⟨rfl, rfl⟩ := ea
        obtain ⟨b, o, rfl, _, hbw, hc⟩ := h7 (by intro e; subst e; simp at hlt)
        obtain ⟨_, _, ea, _, _, _, _, h7'⟩ := HK'.out
        simp only [Value.slice.injEq] at ea
        obtain ⟨rfl, _, rfl⟩ := ea
        obtain ⟨b', o', rfl, _, hbw', hc'⟩ := h7' (by intro e; subst e; simp at hlt')
        obtain ⟨sb, sk, c0, c1, c2, c3, hrep⟩ := hc k ks[k] (List.getElem?_eq_getElem hlt)
        obtain ⟨sb', sk', c0', c1', c2', c3', hrep'⟩ := hc' k ks'[k] (List.getElem?_eq_getElem hlt')
        clear hc hc' h7 h7'
        obtain ⟨a1, l1, p1, a2, l2, p2, rfl, rfl⟩ := hrep.sl
        obtain ⟨a3, l3, p3, a4, l4, p4, rfl, rfl⟩ := hrep'.sl
        have hbel : Hid (Below w.heap.size w wr) := Hbel.out.trans (HI.out.mono (by omega))
        have hR := hid hrep
        have hR' := hid hrep'
        clear hrep hrep'
        have d0 := (hbel.out.cell (p := ⟨b, o + k * 4, none⟩) hbw).trans c0
        have d1 := (hbel.out.cell (p := ⟨b, o + k * 4 + 1, none⟩) hbw).trans c1
        have d2 := (hbel.out.cell (p := ⟨b, o + k * 4 + 2, none⟩) hbw).trans c2
        have d3 := (hbel.out.cell (p := ⟨b, o + k * 4 + 3, none⟩) hbw).trans c3
        have d0' := (hbel.out.cell (p := ⟨b', o' + k * 4, none⟩) hbw').trans c0'
        have d1' := (hbel.out.cell (p := ⟨b', o' + k * 4 + 1, none⟩) hbw').trans c1'
        have d2' := (hbel.out.cell (p := ⟨b', o' + k * 4 + 2, none⟩) hbw').trans c2'
        have d3' := (hbel.out.cell (p := ⟨b', o' + k * 4 + 3, none⟩) hbw').trans c3'
        clear c0 c1 c2 c3 c0' c1' c2' c3'
        have HD : Hid ((sameT n ks[k] m ks'[k] && sameL (fun a b => sameT n a m b) (ks.drop (k + 1)) (ks'.drop (k + 1))) = R) := by
          rw [Hid, ← HS.out, List.drop_eq_getElem_cons hlt, List.drop_eq_getElem_cons hlt']
          rfl
        generalize ks[k] = t1 at *
        generalize ks'[k] = u1 at *
        have hcall : Hid (∀ W, Below w.heap.size w W → Calls Tryz.prog 210 #[.agg #[.int .i64 t1.hd.1, .int .u64 t1.hd.2.1, .slice a1 l1 p1, .slice a2 l2 p2], .agg #[.int .i64 u1.hd.1, .int .u64 u1.hd.2.1, .slice a3 l3 p3, .slice a4 l4 p4], .int .i64 (deep - 1)] W fun e w' => e = .returned (.bool (sameT n t1 m u1)) ∧ Below W.heap.size W w') :=
          fun W hW => ih m t1 u1 _ _ _ _ (deep - 1) W (hR.out.agree (Agree.below hW) (Nat.le_refl _) hW.size) (hR'.out.agree (Agree.below hW) (Nat.le_refl _) hW.size) (by omega) (by omega)
        have hwd : IntKind.i64.wrap (deep - 1) = deep - 1 := by rw [IntKind.wrap_i64]; omega
        have hkI0 : (0 : Int) ≤ (k : Int) := by omega
        have hkI1 : (k : Int) < (L : Int) := by omega
        clear hlt hlt'
        have hbwr : b < wr.heap.size := by omega
        have hbx2 : w.heap.size + 1 < wr.heap.size := by omega
        have hbwr' : b' < wr.heap.size := by omega
        generalize sameT n t1 m u1 = q at hcall HD
        cases q with
        | true =>
          go_wp2_with fail
          obtain ⟨W, hW⟩ : ∃ W, wr.alloc (Obj.cells #[Value.int .i64 t1.hd.1, Value.int .u64 t1.hd.2.1, Value.slice a1 l1 p1, Value.slice a2 l2 p2] 203) = W := ⟨_, rfl⟩
          have v0 : W.cell? ⟨wr.heap.size, 0, none⟩ = some (.int .i64 t1.hd.1) := by rw [← hW]; simp [go_sem]
          have v1 : W.cell? ⟨wr.heap.size, 1, none⟩ = some (.int .u64 t1.hd.2.1) := by rw [← hW]; simp [go_sem]
          have v2 : W.cell? ⟨wr.heap.size, 2, none⟩ = some (.slice a1 l1 p1) := by rw [← hW]; simp [go_sem]
          have v3 : W.cell? ⟨wr.heap.size, 3, none⟩ = some (.slice a2 l2 p2) := by rw [← hW]; simp [go_sem]
          have x3' : W.cell? ⟨w.heap.size + 1, 3, none⟩ = some (.slice (some ⟨b', o', none⟩) L ck') := by rw [← hW, World.cell?_alloc_past _ _ _ hbx2]; exact Y3
          have e0' : W.cell? ⟨b', o' + k * 4, none⟩ = some (.int .i64 u1.hd.1) := by rw [← hW, World.cell?_alloc_past _ _ _ hbwr']; exact d0'
          have e1' : W.cell? ⟨b', o' + k * 4 + 1, none⟩ = some (.int .u64 u1.hd.2.1) := by rw [← hW, World.cell?_alloc_past _ _ _ hbwr']; exact d1'
          have e2' : W.cell? ⟨b', o' + k * 4 + 2, none⟩ = some (.slice a3 l3 p3) := by rw [← hW, World.cell?_alloc_past _ _ _ hbwr']; exact d2'
          have e3' : W.cell? ⟨b', o' + k * 4 + 3, none⟩ = some (.slice a4 l4 p4) := by rw [← hW, World.cell?_alloc_past _ _ _ hbwr']; exact d3'
          have hBW : Hid (Below w.heap.size w W) := by rw [← hW]; exact hbel.out.alloc hbel.out.size _
          have hIW : Hid (Below w1.heap.size w1 W) := by rw [← hW]; exact HI.out.alloc hws _
          rw [hW]
          clear hW d0 d1 d2 d3 d0' d1' d2' d3' Y3
          have hc9 := hid (hcall.out W.drew hBW.out.drew)
          go_region_with ((go_at_call 210; refine hc9.out.mono ?_; rintro e w2 ⟨rfl, hb2⟩; have HB2 := hid hb2; clear hb2))
          all_goals go_wp2_with fail
          all_goals
            go_roundw
            case rel => exact ⟨k + 1, by omega, by go_num, (hIW.out.drew).trans (HB2.out.mono hIW.out.size), by simpa [Hid] using HD.out⟩
            case measure => simp [intOf]; omega
        | false =>
          go_wp2_with fail
          obtain ⟨W, hW⟩ : ∃ W, wr.alloc (Obj.cells #[Value.int .i64 t1.hd.1, Value.int .u64 t1.hd.2.1, Value.slice a1 l1 p1, Value.slice a2 l2 p2] 203) = W := ⟨_, rfl⟩
          have v0 : W.cell? ⟨wr.heap.size, 0, none⟩ = some (.int .i64 t1.hd.1) := by rw [← hW]; simp [go_sem]
          have v1 : W.cell? ⟨wr.heap.size, 1, none⟩ = some (.int .u64 t1.hd.2.1) := by rw [← hW]; simp [go_sem]
          have v2 : W.cell? ⟨wr.heap.size, 2, none⟩ = some (.slice a1 l1 p1) := by rw [← hW]; simp [go_sem]
          have v3 : W.cell? ⟨wr.heap.size, 3, none⟩ = some (.slice a2 l2 p2) := by rw [← hW]; simp [go_sem]
          have x3' : W.cell? ⟨w.heap.size + 1, 3, none⟩ = some (.slice (some ⟨b', o', none⟩) L ck') := by rw [← hW, World.cell?_alloc_past _ _ _ hbx2]; exact Y3
          have e0' : W.cell? ⟨b', o' + k * 4, none⟩ = some (.int .i64 u1.hd.1) := by rw [← hW, World.cell?_alloc_past _ _ _ hbwr']; exact d0'
          have e1' : W.cell? ⟨b', o' + k * 4 + 1, none⟩ = some (.int .u64 u1.hd.2.1) := by rw [← hW, World.cell?_alloc_past _ _ _ hbwr']; exact d1'
          have e2' : W.cell? ⟨b', o' + k * 4 + 2, none⟩ = some (.slice a3 l3 p3) := by rw [← hW, World.cell?_alloc_past _ _ _ hbwr']; exact d2'
          have e3' : W.cell? ⟨b', o' + k * 4 + 3, none⟩ = some (.slice a4 l4 p4) := by rw [← hW, World.cell?_alloc_past _ _ _ hbwr']; exact d3'
          have hBW : Hid (Below w.heap.size w W) := by rw [← hW]; exact hbel.out.alloc hbel.out.size _
          have hIW : Hid (Below w1.heap.size w1 W) := by rw [← hW]; exact HI.out.alloc hws _
          rw [hW]
          clear hW d0 d1 d2 d3 d0' d1' d2' d3' Y3
          have hc9 := hid (hcall.out W.drew hBW.out.drew)
          go_region_with ((go_at_call 210; refine hc9.out.mono ?_; rintro e w2 ⟨rfl, hb2⟩; have HB2 := hid hb2; clear hb2))
          all_goals go_wp2_with fail
          all_goals go_ret
          all_goals exact ⟨by rw [← HD.out]; rfl, (hBW.out.drew).trans (HB2.out.mono hBW.out.size)⟩
      · go_wp2_with fail
        go_ret
        refine ⟨?_, Hbel.out.trans (HI.out.mono (by omega))⟩
        rw [← HS.out, List.drop_of_length_le (by rw [HLk.out]; omega), List.drop_of_length_le (by rw [HLk'.out]; omega)]
        rfl

set_option maxHeartbeats 400000 in
theorem Same_any {n m : Nat} (t : Tr n) (u : Tr m) (sb sk sb' sk' : Value) (w : World) (h : Rep 0 w.heap.size w n t sb sk) (h' : Rep 0 w.heap.size w m u sb' sk') (hn : n ≤ 131072) :
    Calls Tryz.prog 171 #[.agg #[.int .i64 t.hd.1, .int .u64 t.hd.2.1, sb, sk], .agg #[.int .i64 u.hd.1, .int .u64 u.hd.2.1, sb', sk']] w fun e w' => e = .returned (.bool (sameT n t m u)) ∧ Below w.heap.size w w' := by
  obtain ⟨a1, l1, p1, a2, l2, p2, rfl, rfl⟩ := h.sl
  obtain ⟨a3, l3, p3, a4, l4, p4, rfl, rfl⟩ := h'.sl
  have H := hid h
  have H' := hid h'
  clear h h'
  go_enter Tryz.func171, Tryz.ntmps171
  go_wp2_with fail
  have hA : ∀ o o', Below w.heap.size w ((w.alloc o).alloc o') := fun o o' => ((Below.refl _ _).alloc (Nat.le_refl _) o).alloc (by simp) o'
  refine (same_any n m t u _ _ _ _ 131072 _ (H.out.agree (Agree.below (hA _ _)) (Nat.le_refl _) (hA _ _).size) (H'.out.agree (Agree.below (hA _ _)) (Nat.le_refl _) (hA _ _).size) (by omega) (by omega)).mono ?_
  rintro e w1 ⟨rfl, hb1⟩
  have HB : Hid (Below w.heap.size w w1) := (hA _ _).trans (hb1.mono (hA _ _).size)
  clear hb1 hA
  go_wp2_with fail
  go_ret
  exact ⟨rfl, HB.out⟩

end Go.Proofs.YthmimipoooemjaaGreatDoor.Tlv
end

section
/-
  Records as a whole: made, loaded, stored; the statements' Own and Back; which are the same.
-/
namespace Go.Proofs.YthmimipoooemjaaGreatDoor
open Go.RowKit
open Tlv (Tr BySlS AgreeS Agree)
open Crc (hid Kept Tab)

section
variable {P : Program}
theorem results_cell_mid {fn : Func} {p : Tmp} {ty : TypeId} (h : fn.results = #[.cell p ty]) (tmps : Array Value) (w : World) (g o : Nat) (cs : List Value) (d : TypeDesc)
    (hp : tmps.getD p undef = .pointer (some ⟨g, o, none⟩)) (hc : w.rangeAt g o cs)
    (hu : P.underlying ty = some d) (hd : d.isRow = true) (hi : (P.info? ty).map (·.size) = some cs.length) :
    (results fn tmps).run P w = .ok (.agg cs.toArray) w := by
  have hp' : tmps[p]?.getD undef = .pointer (some ⟨g, o, none⟩) := by simpa using hp
  simp [results, h, hp', asAddr, run_loadVar_mid w g o ty cs d hc hu hd hi]
end

theorem there_of_block {w : World} {g : Nat} {cs : Array Value} {t : TypeId} (h : w.heap[g]? = some (.cells cs t (0, 0))) (o n : Nat) (hn : o + n ≤ cs.size) : w.there g o n := fun j hj => by
  have hlt : o + j < cs.size := by omega
  rw [cell_of_row w g (o + j) cs t (0, 0) h, frozen_of_row w g _ cs t h]
  exact ⟨by simp [hlt], rfl⟩

theorem there_new (w : World) (C : List Value) (ty : TypeId) : (w.alloc (.cells C.toArray ty)).there w.heap.size 0 C.length := there_of_block (heap_alloc_new _ _) 0 C.length (by simp)

theorem there_below {B : Nat} {w w' : World} {g o n : Nat} (h : w.there g o n) (hb : Below B w w') (hg : g < B) : w'.there g o n := fun j hj => by
  rw [hb.cell (p := ⟨g, o + j, none⟩) hg, hb.frozen (p := ⟨g, o + j, none⟩) hg]
  exact h j hj
theorem setCells_below {B g : Nat} (h : B ≤ g) (w : World) (o : Nat) (cs : List Value) : Below B w (w.setCells g o cs) := by
  induction cs generalizing w o with
  | nil => exact Below.refl _ _
  | cons c cs ih => rw [World.setCells]; exact ((Below.refl B w).setCell (p := ⟨g, o, none⟩) h c).trans (ih _ _)
theorem setCells_size (w : World) (g o : Nat) (cs : List Value) : (w.setCells g o cs).heap.size = w.heap.size := by
  induction cs generalizing w o with
  | nil => rfl
  | cons c cs ih => rw [World.setCells, ih]; simp

end Go.Proofs.YthmimipoooemjaaGreatDoor
end

section
/-
  Which records are the same: the program's answer, and the reference's.
-/
namespace Go.Proofs.YthmimipoooemjaaGreatDoor
open Go.RowKit
open Tlv (Tr BySlS AgreeS Agree)
open Crc (hid Kept Tab)
end Go.Proofs.YthmimipoooemjaaGreatDoor
end

section
/-
  What Size and Put answer.
-/
namespace Go.Proofs.YthmimipoooemjaaGreatDoor
open Go.RowKit
open Tlv (Tr BySlS AgreeS Agree)
open Crc (hid Kept Tab)

/-- A table at b, its rows filled or not. -/
def TabX (w : World) (b : Nat) : Prop := ∃ f n, (f = 0 ∨ f = 1) ∧ Tab w b f n
theorem TabX.below {w w' : World} {b : Nat} (h : TabX w b) (k : Below w.heap.size w w') : TabX w' b := by
  obtain ⟨f, n, hf, ht⟩ := h
  exact ⟨f, n, hf, ht.below k⟩
theorem TabX.lt {w : World} {b : Nat} (h : TabX w b) : b < w.heap.size := by
  obtain ⟨f, n, hf, ht⟩ := h
  exact ht.1
theorem TabX.of {b : Nat} {n : Int} {w : World} (h : Tab w b 1 n) : TabX w b := ⟨1, n, .inr rfl, h⟩

theorem toCrc {S : Nat → Prop} {b : Nat} {w : World} {v : Value} {xs : List Int} (h : BySlS S w v xs) (hS : ∀ g, S g → g ≠ b ∧ g < w.heap.size) : Crc.BySl b w v (nats xs) := by
  obtain ⟨a, cap, rfl, h2, h3, h4, h5, h6, h7⟩ := h
  refine ⟨a, cap, by rw [nats_length], by rw [nats_length]; exact h2, h3, fun e => ⟨by rw [(h4 e).1]; rfl, (h4 e).2⟩, by rw [nats_length]; exact h5, nats_lt _ h6, fun hne => ?_⟩
  have hne' : xs ≠ [] := fun e => hne (by rw [e]; rfl)
  obtain ⟨g, o, e, hg, hc⟩ := h7 hne'
  refine ⟨g, o, e, (hS g hg).1, (hS g hg).2, fun i hi => ?_⟩
  rw [nats_length] at hi
  rw [hc i hi]
  have hx := h6 (xs.getD i 0) (by rw [List.getD_eq_getElem?_getD, List.getElem?_eq_getElem hi]; simp)
  simp only [nats, List.getD_eq_getElem?_getD, List.getElem?_map, List.getElem?_eq_getElem hi, Option.map_some, Option.getD_some] at hx ⊢
  congr 2
  omega

theorem ofCrc {b : Nat} {w : World} {v : Value} {xs : List Nat} (h : Crc.BySl b w v xs) : BySlS (fun g => g ≠ b ∧ g < w.heap.size) w v (ints xs) := by
  obtain ⟨a, cap, rfl, h2, h3, h4, h5, h6, h7⟩ := h
  refine ⟨a, cap, by rw [ints_length], by rw [ints_length]; exact h2, h3, fun e => ⟨by rw [(h4 e).1]; rfl, (h4 e).2⟩, by rw [ints_length]; exact h5, ints_bd _ h6, fun hne => ?_⟩
  have hne' : xs ≠ [] := fun e => hne (by rw [e]; rfl)
  obtain ⟨g, o, e, hg, hg2, hc⟩ := h7 hne'
  refine ⟨g, o, e, ⟨hg, hg2⟩, fun i hi => ?_⟩
  rw [ints_length] at hi
  rw [hc i hi]
  simp [ints, List.getElem?_eq_getElem hi]

theorem BySlS.mono {S S' : Nat → Prop} {w : World} {v : Value} {xs : List Int} (h : BySlS S w v xs) (hS : ∀ g, S g → S' g) : BySlS S' w v xs := h.agree (fun _ _ => rfl) hS
end Go.Proofs.YthmimipoooemjaaGreatDoor
end

section
/-
  A pack is begun.
-/
namespace Go.Proofs.YthmimipoooemjaaGreatDoor
open Go.RowKit Go.Shelf
open Sim (hid Kp No PS Done Blk nm pCreate finds pBytes)

theorem TabX.kp {L : Nat → Prop} {w w' : World} {b : Nat} (h : TabX w b) (k : Kp L w w') (hb : ¬ L b) : TabX w' b := by
  have hlt := h.lt
  obtain ⟨f, n, hf, ht⟩ := h
  refine ⟨f, n, hf, ?_⟩
  obtain ⟨h1, h2, h3, h4, h5, h6, h7⟩ := ht
  have c : ∀ j, w'.cell? ⟨b, j, none⟩ = w.cell? ⟨b, j, none⟩ := fun j => k.cell (p := ⟨b, j, none⟩) hlt hb
  refine ⟨Nat.lt_of_lt_of_le h1 k.size, (c _).trans h2, (c _).trans h3, (c _).trans h4, fun j hj => ?_, fun e j hj => (c _).trans (h6 e j hj), fun j => (k.frozen (p := ⟨b, j, none⟩) hlt hb).trans (h7 j)⟩
  obtain ⟨x, hx⟩ := h5 j hj
  exact ⟨x, (c _).trans hx⟩
theorem kp_kept {b : Nat} {w w' : World} (k : Crc.Kept b w w') : Kp (fun x => x = b) w w' := ⟨k.os, k.tape, k.output, k.size, fun i hi hL => k.block i hi hL⟩
theorem sys_kept {P : Nat → Prop} {N b s : Nat} {w w' : World} {p : PS} (h : Sim.Sys P N w s p) (k : Crc.Kept b w w') (hb : ¬ P b) : Sim.Sys P N w' s p :=
  h.kp (kp_kept k) (fun x hx => by rw [hx]; exact hb)

end Go.Proofs.YthmimipoooemjaaGreatDoor
end

section
/-
  What is said of no file system, no table, no writer.
-/
namespace Go.Proofs.YthmimipoooemjaaGreatDoor
open Go.RowKit Go.Shelf
open Sim (hid Kp No PS Done Blk nm pCreate finds pBytes)
end Go.Proofs.YthmimipoooemjaaGreatDoor
end

section
/-
  The form that bytes begin with, cut out by its own head.
-/
namespace Go.Proofs.YthmimipoooemjaaGreatDoor
open Go.RowKit
open Tlv (Tr BySlS AgreeS Agree)
open Crc (hid Kept Tab)
end Go.Proofs.YthmimipoooemjaaGreatDoor
end

section
/-
  The record whose value a tree is, as the program finds it.
-/
namespace Go.Proofs.YthmimipoooemjaaGreatDoor
open Go.RowKit
open Tlv (Tr BySlS AgreeS Agree)
open Crc (hid Kept Tab)

theorem step_copy {P : Program} {ops : Array Oper} {o : Oper} {a : Act} {K : Act → World → Prop} {Q : Exit → Act → World → Prop} {E : Prop} (w : World) (hgd : o.guard = none) (d s : Operand) (dT sT : TypeId)
    (ho : o.op = .call { callee := .builtin .copy, args := #[d, s], argTypes := #[dT, sT] }) (elem : TypeId) (hu : P.underlying dT = some (.slice elem)) (hsz : (P.info? elem).map (·.size) = some 1)
    (g off dLen dCap : Nat) (ad : Addr) (sLen sCap : Nat) (hd : a.eval d = .slice (some ⟨g, off, none⟩) dLen dCap) (hs : a.eval s = .slice (some ad) sLen sCap)
    (cs : List Value) (hn : cs.length = Nat.min sLen dLen)
    (hsrc : ∀ j v, cs[j]? = some v → w.cell? (ad.add j) = some v) (ht : w.there g off cs.length) (h1 : ∀ v ∈ cs, v.oneCell' = true)
    (h : K (a.put o.dst (goInt cs.length)) (w.setCells g off cs)) : if Region.wanted o (yielded ops a.tmps) = true then Oper.wp P o a w K Q else E := by
  have hw : Region.wanted o (yielded ops a.tmps) = true := by simp [Region.wanted, hgd]
  rw [if_pos hw]
  have hrun := run_copy_cells (P := P) w dT sT o.type elem g off dLen dCap ad sLen sCap cs hu hsz hn hsrc (fun j hj => (ht j hj).1) (fun j hj => (ht j hj).2) h1
  unfold Oper.wp
  simp [execOp, ho, resolve, invoke, builtin, hd, hs, hrun, Result.andThen]
  exact h

theorem app_right {A A0 T : List Value} {i : Nat} (h : A.length = A0.length) (hi : A.length ≤ i) : (A ++ T)[i]? = (A0 ++ T)[i]? := by
  rw [List.getElem?_append_right hi, List.getElem?_append_right (by omega), h]

end Go.Proofs.YthmimipoooemjaaGreatDoor
end

section
/-
  What Open and the reference's Open do.
-/
namespace Go.Proofs.YthmimipoooemjaaGreatDoor.Crc
open Go.RowKit

/-- Four bytes held against four. -/
theorem eq62 (a b c d a' b' c' d' : Int) (w : World) : (Op.equalIn 10000 258 (.agg #[.int .u8 a, .int .u8 b, .int .u8 c, .int .u8 d]) (.agg #[.int .u8 a', .int .u8 b', .int .u8 c', .int .u8 d'])).run Tryz.prog w = .ok (a == a' && b == b' && c == c' && d == d') w := by
  have u5 := Tryz.underlying5
  have a5 := Tryz.isAgg5
  have z5 := Tryz.sizeOf5
  rw [show (10000 : Nat) = 9999 + 1 from rfl, Op.equalIn]
  simp only [Sem.run_bind, run_underlying Tryz.underlying258, Result.andThen_ok]
  simp only [Std.Legacy.Range.forIn_eq_forIn_range', Std.Legacy.Range.size, Nat.sub_zero, Nat.add_sub_cancel, Nat.div_one, List.range'_succ, List.range'_zero, List.forIn_cons, List.forIn_nil]
  go_simp
  by_cases h1 : a = a' <;> by_cases h2 : b = b' <;> by_cases h3 : c = c' <;> by_cases h4 : d = d' <;> simp [h1, h2, h3, h4]

theorem BySl.take {b : Nat} {w : World} {a : Option Addr} {cap k : Nat} {bs : List Nat} (h : BySl b w (.slice a bs.length cap) bs) (hk : k ≤ bs.length) : BySl b w (.slice a k cap) (bs.take k) := by
  obtain ⟨a', cap', e, h2, h3, h4, h5, h6, h7⟩ := h
  cases e
  have hl : (bs.take k).length = k := List.length_take_of_le hk
  refine ⟨a, cap, by rw [hl], by omega, h3, fun e => ⟨by rw [(h4 e).1]; simp, (h4 e).2⟩, by omega, fun x hx => h6 x (List.mem_of_mem_take hx), fun hne => ?_⟩
  obtain ⟨g, o, e, hgb, hg, hc⟩ := h7 (by intro e; subst e; simp at hne)
  refine ⟨g, o, e, hgb, hg, fun i hi => ?_⟩
  rw [hl] at hi
  rw [hc i (by omega)]
  simp [hi]

set_option maxHeartbeats 400000 in
theorem open_short (b : Nat) (v : Value) (bs : List Nat) (w : World) (h : BySl b w v bs) (hl : bs.length < 4) :
    Calls Tryz.prog 127 #[.pointer (some ⟨b, 0, none⟩), v] w fun e w' => e = .returned (.tuple #[.slice none 0 0, .int .i64 3]) ∧ w' = w := by
  obtain ⟨a, cap, rfl, r⟩ := h
  clear r
  go_enter Tryz.func127, Tryz.ntmps127
  go_wp2_with fail
  go_ret2
  exact ⟨rfl, rfl⟩

set_option maxHeartbeats 2000000 in
set_option maxRecDepth 100000 in
theorem open_any (b f : Nat) (n : Int) (v : Value) (xs : List Nat) (y0 y1 y2 y3 : Nat) (w : World) (hf : f = 0 ∨ f = 1) (ht : Tab w b f n) (h : BySl b w v (xs ++ [y0, y1, y2, y3])) (hl : xs.length ≤ 80000) :
    Calls Tryz.prog 127 #[.pointer (some ⟨b, 0, none⟩), v] w fun e w' => Kept b w w' ∧ Tab w' b 1 (wrap64 (n + xs.length)) ∧
      ∃ v' q, e = .returned (.tuple #[v', .int .i64 q]) ∧ ((le4 (more 0 xs) = [y0, y1, y2, y3] ∧ q = 0 ∧ BySl b w' v' xs) ∨ (le4 (more 0 xs) ≠ [y0, y1, y2, y3] ∧ q = 4 ∧ v' = .slice none 0 0)) := by
  have H := hid h
  have T := hid ht
  obtain ⟨a, cap, rfl, h2, h3, h4, h5, h6, h7⟩ := h
  obtain ⟨g, o, rfl, hgb, hg, hc⟩ := h7 (by simp)
  have hN : (xs ++ [y0, y1, y2, y3]).length = xs.length + 4 := by simp
  have hat : ∀ i, (xs ++ [y0, y1, y2, y3]).getD (xs.length + i) 0 = [y0, y1, y2, y3].getD i 0 := fun i => by simp [List.getElem?_append_right]
  have k0 := hc (xs.length + 0) (by omega)
  have k1 := hc (xs.length + 1) (by omega)
  have k2 := hc (xs.length + 2) (by omega)
  have k3 := hc (xs.length + 3) (by omega)
  rw [hat] at k0 k1 k2 k3
  simp only [List.getD_cons_zero, List.getD_cons_succ, Nat.add_zero, ← Nat.add_assoc] at k0 k1 k2 k3
  have H1 : Hid (BySl b w (.slice (some ⟨g, o, none⟩) xs.length cap) xs) := by
    have := BySl.take H.out (k := xs.length) (by omega)
    rw [List.take_left' rfl] at this
    exact this
  rw [hN] at H h2 ⊢
  obtain ⟨N, hN2⟩ : ∃ N, xs.length = N := ⟨_, rfl⟩
  have HN := hid hN2
  rw [hN2] at H h2 k0 k1 k2 k3 hl H1 ⊢
  have hm := more_lt 0 xs
  obtain ⟨s, hs⟩ : ∃ s, more 0 xs = s := ⟨_, rfl⟩
  have HS := hid hs
  rw [hs] at hm ⊢
  clear hs hN2 hat hc h7 h6 h4 h5 hN ht
  unfold maxLen at h3
  go_enter Tryz.func127, Tryz.ntmps127
  go_upto_region 6 with fail
  have hcN : ¬ cap = N := by omega
  have c12 : Hid (Calls Tryz.prog 164 #[.pointer (some ⟨b, 0, none⟩), .slice (some ⟨g, o, none⟩) N cap] w.drew fun e w1 => e = .returned (.int .u32 (s : Nat)) ∧ Hid (Kept b w w1) ∧ Hid (Tab w1 b 1 (wrap64 (n + N))) ∧ g < w1.heap.size ∧
      w1.cell? ⟨g, o + N, none⟩ = some (.int .u8 (y0 : Nat)) ∧ w1.cell? ⟨g, o + N + 1, none⟩ = some (.int .u8 (y1 : Nat)) ∧ w1.cell? ⟨g, o + N + 2, none⟩ = some (.int .u8 (y2 : Nat)) ∧ w1.cell? ⟨g, o + N + 3, none⟩ = some (.int .u8 (y3 : Nat))) := by
    have h := sum_any b f n (.slice (some ⟨g, o, none⟩) N cap) xs w.drew hf T.out H1.out
    refine h.mono ?_
    rw [HS.out, HN.out]
    rintro e w1 ⟨rfl, hk0, ht1⟩
    have hk1 : Kept b w w1 := ((Kept.refl b w).drew).trans hk0
    exact ⟨rfl, hk1, ht1, Nat.lt_of_lt_of_le hg hk1.size, (hk1.cell (p := ⟨g, o + N, none⟩) hg hgb).trans k0, (hk1.cell (p := ⟨g, o + N + 1, none⟩) hg hgb).trans k1, (hk1.cell (p := ⟨g, o + N + 2, none⟩) hg hgb).trans k2, (hk1.cell (p := ⟨g, o + N + 3, none⟩) hg hgb).trans k3⟩
  have c22 : Hid (∀ w1 : World, g < w1.heap.size → w1.cell? ⟨g, o + N, none⟩ = some (.int .u8 (y0 : Nat)) → w1.cell? ⟨g, o + N + 1, none⟩ = some (.int .u8 (y1 : Nat)) → w1.cell? ⟨g, o + N + 2, none⟩ = some (.int .u8 (y2 : Nat)) → w1.cell? ⟨g, o + N + 3, none⟩ = some (.int .u8 (y3 : Nat)) →
      Calls Tryz.prog 163 #[.int .u32 s] w1 fun e w2 => e = .returned (.agg #[.int .u8 ((s : Int) % 256), .int .u8 ((s : Int) / 256 % 256), .int .u8 ((s : Int) / 65536 % 256), .int .u8 ((s : Int) / 16777216)]) ∧ Hid (Below w1.heap.size w1 w2) ∧
        w2.cell? ⟨g, o + N, none⟩ = some (.int .u8 (y0 : Nat)) ∧ w2.cell? ⟨g, o + N + 1, none⟩ = some (.int .u8 (y1 : Nat)) ∧ w2.cell? ⟨g, o + N + 2, none⟩ = some (.int .u8 (y2 : Nat)) ∧ w2.cell? ⟨g, o + N + 3, none⟩ = some (.int .u8 (y3 : Nat))) := by
    intro w1 hg1 d0 d1 d2 d3
    refine (sumBytes_any s hm w1).mono ?_
    rintro e w2 ⟨rfl, hb⟩
    exact ⟨rfl, hb, (hb.cell (p := ⟨g, o + N, none⟩) hg1).trans d0, (hb.cell (p := ⟨g, o + N + 1, none⟩) hg1).trans d1, (hb.cell (p := ⟨g, o + N + 2, none⟩) hg1).trans d2, (hb.cell (p := ⟨g, o + N + 3, none⟩) hg1).trans d3⟩
  have hat : ∀ w, (Instr.arrayAt 258 (.slice (some ⟨g, o + N, none⟩) 4 (cap - N))).run Tryz.prog w = .ok (.pointer (some ⟨g, o + N, none⟩)) w := fun w => run_arrayAt w 258 5 4 _ 4 _ Tryz.underlying258 (Nat.le_refl _)
  have heq := fun w => eq62 ((s : Int) % 256) ((s : Int) / 256 % 256) ((s : Int) / 65536 % 256) ((s : Int) / 16777216) y0 y1 y2 y3 w
  have hE : Hid (((s : Int) % 256 == (y0 : Int) && (s : Int) / 256 % 256 == (y1 : Int) && (s : Int) / 65536 % 256 == (y2 : Int) && (s : Int) / 16777216 == (y3 : Int)) = decide (le4 s = [y0, y1, y2, y3])) := by
    rw [Hid, Bool.eq_iff_iff]
    simp [le4]
    omega
  generalize ((s : Int) % 256 == (y0 : Int) && (s : Int) / 256 % 256 == (y1 : Int) && (s : Int) / 65536 % 256 == (y2 : Int) && (s : Int) / 16777216 == (y3 : Int)) = E at heq hE
  go_cut [25] (fun c wx => c = .bool (!E) ∧ Hid (Kept b w wx) ∧ Hid (Tab wx b 1 (wrap64 (n + N))))
  case first =>
    go_region_with (first | (go_at_call 164; refine c12.out.mono ?_; rintro e w1 ⟨rfl, HK1, HT1, hg1, d0, d1, d2, d3⟩) | (go_at_call 163; refine (c22.out w1 hg1 d0 d1 d2 d3).mono ?_; rintro e w2 ⟨rfl, HB2, e0, e1, e2, e3⟩))
    all_goals (go_wp2_with fail; go_meet; exact ⟨rfl, HK1.out.trans (Kept.below HB2.out), HT1.out.below HB2.out⟩)
  case rest =>
    obtain ⟨rfl, HK, HT⟩ := hcut
    clear c12 c22 heq hat k0 k1 k2 k3
    cases E
    · go_wp2_with fail
      go_ret2
      exact ⟨HK.out, HT.out, _, _, rfl, .inr ⟨of_decide_eq_false hE.out.symm, rfl, rfl⟩⟩
    · go_wp2_with fail
      have hkb := HK.out
      refine (clone_any b _ xs _ HT.out.1 (H1.out.kept hkb) (by rw [HN.out]; omega)).mono ?_
      rintro e w3 ⟨v', rfl, hv, hb3⟩
      have HV := hid hv
      have HB3 := hid hb3
      clear hv hb3 hkb
      go_wp2_with fail
      go_ret2
      exact ⟨HK.out.trans (Kept.below HB3.out), HT.out.below HB3.out, _, _, rfl, .inl ⟨of_decide_eq_true hE.out.symm, rfl, HV.out⟩⟩

end Go.Proofs.YthmimipoooemjaaGreatDoor.Crc
end

section
/-
  What Take answers.
-/
namespace Go.Proofs.YthmimipoooemjaaGreatDoor
open Go.RowKit
open Tlv (Tr BySlS AgreeS Agree)
open Crc (hid Kept Tab)
theorem tail4 {xs : List Int} {m : Nat} (h : 4 ≤ xs.length - m) : ∃ y0 y1 y2 y3 : Nat, nats ((xs.drop m).take 4) = [y0, y1, y2, y3] := by
  have hl : (nats ((xs.drop m).take 4)).length = 4 := by rw [nats_length, List.length_take, List.length_drop]; omega
  match hq : nats ((xs.drop m).take 4), hl with
  | [y0, y1, y2, y3], _ => exact ⟨y0, y1, y2, y3, rfl⟩

end Go.Proofs.YthmimipoooemjaaGreatDoor
end

section
/-
  A range over a function that itself writes one block and hands out memory that it has made: the caller's law.
-/
namespace Go.Proofs.YthmimipoooemjaaGreatDoor
open Go.RowKit
open Tlv (Tr BySlS AgreeS Agree)
open Crc (hid Kept Tab)
theorem put_below {B l : Nat} (W : World) (o : Obj) (h : B ≤ l) (hl : l < W.heap.size) : Below B W (W.putObj l o) :=
  (Below.refl B W).grown (grownBy_putObj' W l o) (by omega) (fun k e => by cases e; omega)

/-- The record of a loop, in a block from B on, is put anew; all else stands. -/
structure Putl (B : Nat) (U W : World) : Prop where
  os : W.os = U.os
  tape : W.tape = U.tape
  output : W.output = U.output
  size : W.heap.size = U.heap.size
  at' : ∃ l lp, B ≤ l ∧ U.heap[l]? = some (.loop lp) ∧ ∀ i, i ≠ l → W.heap[i]? = U.heap[i]?

theorem Putl.below {B : Nat} {U W : World} (h : Putl B U W) : Below B U W := by
  obtain ⟨l, lp, h1, h2, h3⟩ := h.at'
  exact ⟨h.os, h.tape, h.output, by have := h.size; omega, fun k hk => h3 k (by omega)⟩
/-- Cells stand. -/
theorem Putl.block {B : Nat} {U W : World} (h : Putl B U W) {g : Nat} {cs : Array Value} {t : TypeId} {fr : Nat × Nat} (hg : U.heap[g]? = some (.cells cs t fr)) : W.heap[g]? = some (.cells cs t fr) := by
  obtain ⟨l, lp, h1, h2, h3⟩ := h.at'
  rw [h3 g (fun e => by rw [e, h2] at hg; cases hg)]
  exact hg
/-- What an iterator that may write block b, and no other that was there, tells: in round k values as V says, in memory from m on, where the caller had none yet; N rounds. T: what it asks of the world, and leaves. -/
def Tells (n gf : Nat) (lb : Array Value) (b : Nat) (T : World → Prop) (V : Nat → Nat → Array Value → World → Prop) (N : Nat) : Prop :=
  ∀ (l : Nat) (J : Nat → Nat → World → Prop) (Jx : Nat → World → Prop) (W : World), T W → (∀ k m U W', J k m U → T W' → Kept b U W' → J k m W') →
    (∀ k m U vs, k < N → m ≤ U.heap.size → J k m U → T U → V k m vs U → YieldAt Fence.wide (n - 1) Tryz.prog l vs U fun e W' => (e = .returned (.bool true) ∧ J (k + 1) W'.heap.size W' ∧ T W') ∨ (e = .returned (.bool false) ∧ Jx (k + 1) W')) →
    J 0 W.heap.size W →
    CallsIn Fence.wide n Tryz.prog gf (#[.func (.yield l) #[] #[]] ++ lb) W fun e W' => (∃ v, e = .returned v) ∧ ((∃ m, J N m W' ∧ T W') ∨ ∃ k, k ≤ N ∧ Jx k W')

/-- How the body of a round may be left: k rounds have come, this one with them. -/
def roundEnds (B : Nat) (T : World → Prop) (I : Nat → Nat → World → Prop) (Ix : Code → Nat → World → Prop) (k : Nat) (W : World) : Exit → Act → World → Prop
  | .normal, _, V => KeepsFrom B W V ∧ I k V.heap.size V ∧ T V
  | .ret, _, V => KeepsFrom B W V ∧ Ix .ret k V
  | .exit id, _, V => KeepsFrom B W V ∧ Ix (.exit id) k V
  | _, _, _ => False

theorem over_func {g : Operand} {ps : Array Tmp} {assign body : Code} {Q : Exit → Act → World → Prop} {a : Act} {w : World} {n gf : Nat} {lb : Array Value}
    (hg : a.eval g = .func (.func gf) #[] lb) (eg : ∀ args w, (callFunc gf args).run Tryz.prog w = .ok (.enter gf args) w)
    {b : Nat} {T : World → Prop} {V : Nat → Nat → Array Value → World → Prop} {N : Nat} (hseq : Tells (n - 1) gf lb b T V N) (hps : ∀ k m vs U, V k m vs U → vs.size = ps.size)
    (hb : b < w.heap.size) (hT : ∀ U W, T U → Below w.heap.size U W → T W) (hT0 : T w)
    (I : Nat → Nat → World → Prop) (Ix : Code → Nat → World → Prop) (hIk : ∀ k m U W, I k m U → T W → Kept b U W → I k m W) (hI : ∀ k m U W, I k m U → Putl w.heap.size U W → I k m W)
    (hIx : ∀ c k U W, Ix c k U → Putl w.heap.size U W → Ix c k W)
    (h0 : ∀ W, Below w.heap.size w W → W.heap.size = w.heap.size + 2 → I 0 W.heap.size W)
    (asg : Array Value → World → World) (hasg : ∀ vs W, Below W.heap.size W (asg vs W)) (hVa : ∀ k m vs U, V k m vs U → V k m vs (asg vs U)) (hIa : ∀ k m vs U, V k m vs U → I k m U → I k m (asg vs U)) (a₁ : Nat → Array Value → World → Act)
    (hV : ∀ k m vs U W, V k m vs U → Putl w.heap.size U W → V k m vs W)
    (hassign : ∀ (l k m : Nat) (vs : Array Value) (W : World) (K : Act → World → Prop), k < N → V k m vs W → K (a₁ k vs W) (asg vs W) →
      assign.wpIn (Fence.wide.inRound l) (n - 1 - 1) Tryz.prog (Exit.then K (fun _ _ _ => False)) { tmps := (ps.zip vs).foldl (fun t (p, v) => t.setIfInBounds p v) a.tmps, defers := [] } W)
    (hbody : ∀ (l k m : Nat) (vs : Array Value) (U W : World), k < N → m ≤ U.heap.size → V k m vs W → I k m W → T W → W.heap.size = (asg vs U).heap.size → (∀ i, U.heap.size ≤ i → W.heap[i]? = (asg vs U).heap[i]?) → w.heap.size ≤ U.heap.size → body.wpIn (Fence.wide.inRound l) (n - 1 - 1) Tryz.prog (roundEnds w.heap.size T I Ix (k + 1) W) (a₁ k vs U) W)
    (hdone : ∀ (D m : Nat) (W : World), w.heap.size ≤ D → I N m W → T W → W.heap[D]? = some (.deferred (some [])) → Q .normal { a with defers := { target := .collected D, args := #[] } :: a.defers } W)
    (hstop : ∀ (D : Nat) (c : Code) (k : Nat) (W : World), w.heap.size ≤ D → k ≤ N → Ix c k W → W.heap[D]? = some (.deferred (some [])) → c.wpIn Fence.wide n Tryz.prog Q { a with defers := { target := .collected D, args := #[] } :: a.defers } W) :
    (Code.rangeFunc g ps assign body).wpIn Fence.wide n Tryz.prog Q a w := by
  refine wpIn_rangeFunc fun fn hfn => ?_
  -- the record of the loop, by its state and the jump that is pending; it lies in the second of two new blocks
  let rec0 : LoopState → Option Code → Loop := fun st pe => { state := st, pending := pe, fn, tmps := a.tmps, params := ps, assign, body, defers := w.heap.size }
  have hB : ∀ (W : World) (o : Obj) (l : Nat), w.heap.size ≤ l → l < W.heap.size → Below w.heap.size W (W.putObj l o) := fun W o l h1 h2 => put_below W o h1 h2
  let Rec : LoopState → Option Code → World → Prop := fun st pe W => W.heap[w.heap.size + 1]? = some (.loop (rec0 st pe)) ∧ W.heap[w.heap.size]? = some (.deferred (some []))
  have start : Below w.heap.size w ((w.alloc (.deferred (some []))).alloc (.loop (rec0 .ready none))) := ((Below.refl _ w).alloc (Nat.le_refl _) _).alloc (by simp) _
  have r0 : Rec .ready none ((w.alloc (.deferred (some []))).alloc (.loop (rec0 .ready none))) := by
    refine ⟨?_, (Below.heap_alloc _ _ _ (by simp)).trans (World.alloc_heap_new w _)⟩
    have h := World.alloc_heap_new (w.alloc (.deferred (some []))) (.loop (rec0 .ready none))
    rwa [World.size_alloc] at h
  have hlt : ∀ {st pe W}, Rec st pe W → w.heap.size + 1 < W.heap.size := fun h => (Array.getElem?_eq_some_iff.1 h.1).1
  -- the record is put anew
  have put : ∀ {st pe W} (st' : LoopState) (pe' : Option Code), Rec st pe W → Rec st' pe' (W.putObj (w.heap.size + 1) (.loop (rec0 st' pe'))) := fun st' pe' h =>
    ⟨World.putObj_heap_same (hlt h), (World.putObj_heap_other (by omega)).trans h.2⟩
  have keep : ∀ {st pe W V}, Rec st pe W → KeepsFrom w.heap.size W V → Rec st pe V := fun h k => ⟨k.same _ _ (by omega) h.1 rfl, k.same _ _ (Nat.le_refl _) h.2 rfl⟩
  have psz : ∀ (W : World) (o : Obj) (l : Nat), (W.putObj l o).heap.size = W.heap.size := fun W o l => by simp [World.putObj]
  have poth : ∀ (W : World) (o : Obj), ∀ i, i ≠ w.heap.size + 1 → (W.putObj (w.heap.size + 1) o).heap[i]? = W.heap[i]? := fun W o i hi => World.putObj_heap_other (by omega)
  have putI : ∀ {k m st pe W} (st' : LoopState) (pe' : Option Code), Rec st pe W → I k m W → I k m (W.putObj (w.heap.size + 1) (.loop (rec0 st' pe'))) := fun {k m st pe W} st' pe' h hi =>
    hI k m W _ hi ⟨rfl, rfl, rfl, psz _ _ _, w.heap.size + 1, _, by omega, h.1, poth W _⟩
  have putIx : ∀ {c k st pe W} (st' : LoopState) (pe' : Option Code), Rec st pe W → Ix c k W → Ix c k (W.putObj (w.heap.size + 1) (.loop (rec0 st' pe'))) := fun {c k st pe W} st' pe' h hi =>
    hIx c k W _ hi ⟨rfl, rfl, rfl, psz _ _ _, w.heap.size + 1, _, by omega, h.1, poth W _⟩
  refine ⟨w.heap.size + 1, [{ target := .collected w.heap.size, args := #[] }], (w.alloc (.deferred (some []))).alloc (.loop (rec0 .ready none)), { target := .fn (.func gf) lb, args := #[.func (.yield (w.heap.size + 1)) #[] #[]] },
    (w.alloc (.deferred (some []))).alloc (.loop (rec0 .ready none)), gf, #[.func (.yield (w.heap.size + 1)) #[] #[]] ++ lb, (w.alloc (.deferred (some []))).alloc (.loop (rec0 .ready none)), ?_, ?_, fun _ _ => trivial, ?_, fun h => by simp [Fence.wide] at h, ?_⟩
  · exact run_enterLoop_outer _ _ _ _ _
  · simp only [resolve, hg]
    simp [go_sem]
  · simp [invoke, go_sem, eg]
  · refine (hseq (w.heap.size + 1) (fun k m W => I k m W ∧ Rec .ready none W) (fun k W => ∃ c, Ix c k W ∧ Rec .done (some c) W) _ (hT _ _ hT0 start) ?_ ?_ ⟨h0 _ start (by simp), r0⟩).mono ?_
    · -- the iterator writes block b
      rintro k m U W' ⟨hi, hr⟩ hTW hk
      have hs := hlt hr
      exact ⟨hIk k m U W' hi hTW hk, (hk.block _ hs (by omega)).trans hr.1, (hk.block _ (by omega) (by omega)).trans hr.2⟩
    · -- one round
      rintro k m U vs hkN hmU ⟨hi, hr⟩ hTU hVU
      have hs := hlt hr
      have ba := hasg vs U
      have hra : Rec .ready none (asg vs U) := ⟨(ba.block _ hs).trans hr.1, (ba.block _ (by omega)).trans hr.2⟩
      have hsa := hlt hra
      refine ⟨fn, _, assign, body, run_yield (P := Tryz.prog) (args := vs) hr.1 (hps k m vs U hVU), roundIn_of_wpIn hfn (hassign _ k m vs U _ hkN hVU ⟨_, run_beginRound hra.1 rfl, ?_⟩)⟩
      have b1 := hB (asg vs U) (.loop { rec0 .ready none with state := .busy }) _ (by omega) hsa
      have hTa : T (asg vs U) := hT _ _ hTU (ba.mono (by omega))
      have hIa' : I k m (asg vs U) := hIa k m vs U hVU hi
      have hVa' : V k m vs (asg vs U) := hVa k m vs U hVU
      refine wpIn_mono (hbody _ k m vs U _ hkN hmU ?_ (putI .busy none hra hIa') (hT _ _ hTa b1) ?_ ?_ (by omega)) ?_
      · exact hV k m vs _ _ hVa' ⟨rfl, rfl, rfl, psz _ _ _, w.heap.size + 1, _, by omega, hra.1, poth _ _⟩
      · exact psz _ _ _
      · intro i hi
        exact poth _ _ i (by omega)
      have hr1 : Rec .busy none ((asg vs U).putObj (w.heap.size + 1) (.loop { rec0 .ready none with state := .busy })) := put .busy none hra
      have ends : ∀ (jump : Option Code) (V : World), KeepsFrom w.heap.size ((asg vs U).putObj (w.heap.size + 1) (.loop { rec0 .ready none with state := .busy })) V →
          (Instr.endRound (w.heap.size + 1) jump).run Tryz.prog V = .ok (.bool jump.isNone) (V.putObj (w.heap.size + 1) (.loop (rec0 (if jump.isNone then .ready else .done) jump))) ∧
          Rec (if jump.isNone then .ready else .done) jump (V.putObj (w.heap.size + 1) (.loop (rec0 (if jump.isNone then .ready else .done) jump))) ∧ Below w.heap.size V (V.putObj (w.heap.size + 1) (.loop (rec0 (if jump.isNone then .ready else .done) jump))) ∧ Rec .busy none V := fun jump V hk => by
        have hr2 := keep hr1 hk
        exact ⟨run_endRound (P := Tryz.prog) jump hr2.1, put _ _ hr2, hB V _ _ (by omega) (hlt hr2), hr2⟩
      rintro e a3 V hp
      cases e with
      | normal =>
        obtain ⟨hk, hi2, ht2⟩ := hp
        obtain ⟨h1, h2, h3, h4⟩ := ends none V hk
        exact ⟨_, _, h1, .inl ⟨rfl, ⟨by rw [psz]; exact putI _ _ h4 hi2, h2⟩, hT _ _ ht2 h3⟩⟩
      | ret =>
        obtain ⟨hk, hi2⟩ := hp
        obtain ⟨h1, h2, h3, h4⟩ := ends (some .ret) V hk
        exact ⟨_, _, h1, .inr ⟨rfl, .ret, putIx _ _ h4 hi2, h2⟩⟩
      | exit id =>
        obtain ⟨hk, hi2⟩ := hp
        obtain ⟨h1, h2, h3, h4⟩ := ends (some (.exit id)) V hk
        exact ⟨_, _, h1, .inr ⟨rfl, .exit id, putIx _ _ h4 hi2, h2⟩⟩
      | goto t => exact hp.elim
      | panic ch => exact hp.elim
      | outgrown => exact hp.elim
    · -- behind the iterator
      rintro e V ⟨⟨v, rfl⟩, (⟨m, ⟨hi, hr⟩, ht⟩ | ⟨k, hk, c, hi, hr⟩)⟩
      · exact ⟨none, _, run_endLoop (P := Tryz.prog) hr.1 (by simp [rec0]), hdone _ m _ (Nat.le_refl _) (putI .exhausted none hr hi) (hT _ _ ht (hB V _ _ (Nat.le_succ _) (hlt hr))) ((World.putObj_heap_other (by omega)).trans hr.2)⟩
      · exact ⟨some c, _, run_endLoop (P := Tryz.prog) hr.1 (by simp [rec0]), hstop _ c k _ (Nat.le_refl _) hk (putIx .exhausted (some c) hr hi) ((World.putObj_heap_other (by omega)).trans hr.2)⟩

end Go.Proofs.YthmimipoooemjaaGreatDoor
end

section
/-
  Plain mathematics: what a scan is told, frame behind frame.
-/
namespace Go.Proofs.YthmimipoooemjaaGreatDoor
end Go.Proofs.YthmimipoooemjaaGreatDoor
end

section
/-
  The iterator of a scan: one round's Take, walked by itself.
-/
namespace Go.Proofs.YthmimipoooemjaaGreatDoor
open Go.RowKit
open Tlv (Tr BySlS AgreeS Agree)
open Crc (hid Kept Tab)
end Go.Proofs.YthmimipoooemjaaGreatDoor
end

section
/-
  What the iterator of a scan tells, round by round.
-/
namespace Go.Proofs.YthmimipoooemjaaGreatDoor
open Go.RowKit Go.Shelf
open Tlv (Tr BySlS AgreeS Agree)
open Crc (hid Kept Tab)
attribute [local go_sem] Oper.semAt_some

end Go.Proofs.YthmimipoooemjaaGreatDoor
end

section
/-
  Scan of no table, and of no byte; Take and At of no table.
-/
namespace Go.Proofs.YthmimipoooemjaaGreatDoor
open Go.RowKit Go.Shelf
open Tlv (Tr BySlS AgreeS Agree)
open Crc (hid Kept Tab)
attribute [local go_sem] Oper.semAt_some

end Go.Proofs.YthmimipoooemjaaGreatDoor
end

section
/-
  What must come at any rate: the chapter's example, and a record.
-/
namespace Go.Proofs.YthmimipoooemjaaGreatDoor
open Go.RowKit
open Tlv (Tr BySlS AgreeS Agree)
open Crc (hid Kept Tab)
end Go.Proofs.YthmimipoooemjaaGreatDoor
end

section
/-
  Plain mathematics: the form as the reference makes it is the form.
-/
namespace Go.Proofs.YthmimipoooemjaaGreatDoor.Tlv
end Go.Proofs.YthmimipoooemjaaGreatDoor.Tlv
end

section
/-
  What the reference's form makes of a tree.
-/
namespace Go.Proofs.YthmimipoooemjaaGreatDoor.Tlv
open Go.RowKit
attribute [local go_sem ↓] Go.wp_at_zero Go.wp_at_succ

end Go.Proofs.YthmimipoooemjaaGreatDoor.Tlv
end

section
/-
  What the reference's Put answers.
-/
namespace Go.Proofs.YthmimipoooemjaaGreatDoor
open Go.RowKit
open Tlv (Tr BySlS AgreeS Agree)
open Crc (hid Kept Tab)
end Go.Proofs.YthmimipoooemjaaGreatDoor
end

section
/-
  Are records few, and short? Put, Size and the reference's Put of any record.
-/
namespace Go.Proofs.YthmimipoooemjaaGreatDoor
open Go.RowKit
open Tlv (Tr BySlS AgreeS Agree)
open Crc (hid Kept Tab)
end Go.Proofs.YthmimipoooemjaaGreatDoor
end
