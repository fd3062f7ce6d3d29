/-
  A block's 64 words: spread, walked.
-/
import Derived.Test.YtbmdnjmdehmahaaRot
import Derived.Deep.RegionHeld3
import Derived.Deep.RegionWith
import Derived.Deep.DeepCutAuto
import Derived.BigRegion
namespace Go.Proofs.Ytbmdnjmdehmahaa
open Go.RowKit

/-! ### Words out of bytes, in plain mathematics -/
/-- The first k bytes of word j. -/
def pw (b : List Nat) (j : Nat) : Nat → Nat
  | 0 => 0
  | k + 1 => pw b j k * 256 + b.getD (4 * j + k) 0
theorem pw_four (b : List Nat) (j : Nat) : pw b j 4 = wordAt b j := by
  simp only [pw, wordAt]
  rw [Nat.zero_mul, Nat.zero_add, Nat.add_zero]
  omega
theorem getD_lt {b : List Nat} (h : ∀ x ∈ b, x < 256) (j : Nat) : b.getD j 0 < 256 := by
  rw [List.getD_eq_getElem?_getD]
  cases e : b[j]? with
  | none => simp
  | some x => exact h x (List.mem_of_getElem? e)
theorem pw_lt {b : List Nat} (h : ∀ x ∈ b, x < 256) (j : Nat) : ∀ k, pw b j k < 256 ^ k
  | 0 => by simp [pw]
  | k + 1 => by
    have h1 := pw_lt h j k
    have h2 := getD_lt h (4 * j + k)
    rw [pw, Nat.pow_succ]
    omega
theorem pw_lt3 {b : List Nat} (h : ∀ x ∈ b, x < 256) (j k : Nat) (hk : k < 4) : pw b j k < 16777216 :=
  Nat.lt_of_lt_of_le (pw_lt h j k) (Nat.pow_le_pow_right (by decide) (show k ≤ 3 by omega))
/-- A byte behind a word's first ones. -/
theorem or_byte (x c : Nat) (hx : x < 16777216) (hc : c < 256) : bits .or .u32 ((x : Int) * 256) (c : Int) = ((x * 256 + c : Nat) : Int) := by
  have e : (x : Int) * 256 = ((x * 256 : Nat) : Int) := by omega
  have h := Nat.two_pow_add_eq_or_of_lt (i := 8) (b := c) hc x
  rw [e, u32_or_nat _ _ (by omega) (by omega), Nat.mul_comm x 256]
  exact congrArg _ h.symm

theorem getD_zeros (n j : Nat) : (List.replicate n 0).getD j 0 = 0 := by
  rw [List.getD_eq_getElem?_getD, List.getElem?_replicate]
  split <;> rfl
theorem getD_set (l : List Nat) (i j x : Nat) (hi : i < l.length) : (l.set i x).getD j 0 = if j = i then x else l.getD j 0 := by
  rw [List.getD_eq_getElem?_getD, List.getD_eq_getElem?_getD]
  by_cases e : j = i
  · subst e
    rw [if_pos rfl, List.getElem?_set_self hi]
    rfl
  · rw [if_neg e, List.getElem?_set_ne (by omega)]

theorem Try.info64 : (Try.prog.info? 64).map (·.size) = some 64 := by kernel_rfl
theorem Try.info63 : (Try.prog.info? 63).map (·.size) = some 8 := by kernel_rfl
theorem Try.info30 : (Try.prog.info? 30).map (·.size) = some 32 := by kernel_rfl

/-- A result that lies in memory. -/
theorem results_cell_mid {P : Program} {fn : Func} {p : Tmp} {ty : TypeId} (h : fn.results = #[.cell p ty]) (tmps : Array Value) (w : World) (g o : Nat) (cs : List Value) (d : TypeDesc)
    (hp : tmps.getD p undef = .pointer (some ⟨g, o, none⟩)) (hc : w.rangeAt g o cs)
    (hu : P.underlying ty = some d) (hd : d.isRow = true) (hi : (P.info? ty).map (·.size) = some cs.length) :
    (results fn tmps).run P w = .ok (.agg cs.toArray) w := by
  have hp' : tmps[p]?.getD undef = .pointer (some ⟨g, o, none⟩) := by simpa using hp
  simp [results, h, hp', asAddr, run_loadVar_mid w g o ty cs d hc hu hd hi]

theorem zeros64 : (#[Value.int .u32 0] : Array Value) = (u32s [0]).toArray := rfl
theorem z64 : (u32s (List.replicate 64 0)).toArray = #[Value.int .u32 0, .int .u32 0, .int .u32 0, .int .u32 0, .int .u32 0, .int .u32 0, .int .u32 0, .int .u32 0, .int .u32 0, .int .u32 0, .int .u32 0, .int .u32 0, .int .u32 0, .int .u32 0, .int .u32 0, .int .u32 0, .int .u32 0, .int .u32 0, .int .u32 0, .int .u32 0, .int .u32 0, .int .u32 0, .int .u32 0, .int .u32 0, .int .u32 0, .int .u32 0, .int .u32 0, .int .u32 0, .int .u32 0, .int .u32 0, .int .u32 0, .int .u32 0, .int .u32 0, .int .u32 0, .int .u32 0, .int .u32 0, .int .u32 0, .int .u32 0, .int .u32 0, .int .u32 0, .int .u32 0, .int .u32 0, .int .u32 0, .int .u32 0, .int .u32 0, .int .u32 0, .int .u32 0, .int .u32 0, .int .u32 0, .int .u32 0, .int .u32 0, .int .u32 0, .int .u32 0, .int .u32 0, .int .u32 0, .int .u32 0, .int .u32 0, .int .u32 0, .int .u32 0, .int .u32 0, .int .u32 0, .int .u32 0, .int .u32 0, .int .u32 0] := by rfl

set_option maxHeartbeats 2000000 in
set_option maxRecDepth 100000 in
theorem spread_any (bs : List Nat) (g o : Nat) (w : World) (hb64 : bs.length = 64) (hbw : ∀ x ∈ bs, x < 256) (Hb : BytesAt w g o bs) (lb : g < w.heap.size) :
    Calls Try.prog 42 #[.pointer (some ⟨g, o, none⟩)] w fun e w' => e = .returned (.agg (u32s (sched bs)).toArray) ∧ Below w.heap.size w w' := by
  have HB := hid Hb
  have HB64 := hid hb64
  have HBW := hid hbw
  clear Hb hb64 hbw
  go_enter Try.func42, Try.ntmps42
  go_wp2_with fail
  rw [← z64]
  obtain ⟨W1, hW1⟩ : ∃ W1, W1 = (w.alloc (.cells (u32s (List.replicate 64 0)).toArray 64)).alloc (.cells (u32s (List.replicate 64 0)).toArray 64) := ⟨_, rfl⟩
  have M0 : Hid (WordsAt W1 (w.heap.size + 1) 0 (List.replicate 64 0)) := by rw [Hid, hW1]; exact WordsAt.of_block (heap_alloc2_new _ _ _)
  have T0 : Hid (W1.there w.heap.size 0 64) := by
    intro j hj
    rw [hW1]
    have h1 : WordsAt ((w.alloc (.cells (u32s (List.replicate 64 0)).toArray 64)).alloc (.cells (u32s (List.replicate 64 0)).toArray 64)) w.heap.size 0 (List.replicate 64 0) := WordsAt.of_block (heap_alloc2_old _ _ _)
    exact ⟨by rw [h1 j (by simpa using hj)]; rfl, by simp [go_sem]⟩
  have F0 : Hid (∀ o, W1.frozen? ⟨w.heap.size + 1, o, none⟩ = false) := by intro o; rw [hW1]; simp [go_sem]
  have S0 : Hid (W1.heap.size = w.heap.size + 2) := by rw [Hid, hW1]; simp
  have B0 : Hid (Below w.heap.size w W1) := by rw [Hid, hW1]; exact ((Below.refl _ _).alloc (Nat.le_refl _) _).alloc (by simp) _
  rw [← hW1]
  clear hW1
  go_loopw [10] (fun s wr => ∃ (i : Nat) (row : List Nat), s = .int .i64 i ∧ i ≤ 64 ∧ Hid (row.length = 64 ∧ WordsAt wr (w.heap.size + 1) 0 row ∧ (∀ j, j < 16 → row.getD j 0 = pw bs j (min 4 (i - 4 * j))) ∧ (∀ o, wr.frozen? ⟨w.heap.size + 1, o, none⟩ = false) ∧ Below w.heap.size w wr ∧ wr.heap.size = w.heap.size + 2 ∧ wr.there w.heap.size 0 64)) (fun s _ => 64 - (intOf s).toNat)
  case atStart =>
    refine ⟨0, _, rfl, by omega, by simp, M0.out, fun j hj => ?_, F0.out, B0.out, S0.out, T0.out⟩
    rw [Nat.zero_sub, Nat.min_zero, pw, getD_zeros]
  case round =>
    obtain ⟨i, row, rfl, hi, HI⟩ := hrel
    by_cases hlt : i < 64
    · as_aux_lemma =>
        have bb := hid HI.out.2.2.2.2.1
        have hfz := HI.out.2.2.2.1 (i / 4)
        have d0 : wr.cell? ⟨g, o + i, none⟩ = some (.int .u8 ((bs.getD i 0 : Nat) : Int)) := (bb.out.cell (p := ⟨g, o + i, none⟩) lb).trans (HB.out i (by rw [HB64.out]; exact hlt))
        have r0 := HI.out.2.1 (i / 4) (by rw [HI.out.1]; omega)
        rw [Nat.zero_add] at r0
        have l0 := getD_lt HBW.out i
        have hx : row.getD (i / 4) 0 = pw bs (i / 4) (i % 4) := by
          rw [HI.out.2.2.1 (i / 4) (by omega)]
          congr 1
          omega
        have l1 := pw_lt3 HBW.out (i / 4) (i % 4) (by omega)
        rw [hx] at r0
        have HV : Hid (pw bs (i / 4) (i % 4 + 1) = pw bs (i / 4) (i % 4) * 256 + bs.getD i 0) := by
          rw [Hid, pw]
          congr 2
          omega
        clear hx
        generalize pw bs (i / 4) (i % 4) = x at *
        generalize bs.getD i 0 = c at *
        have hor := or_byte x c l1 l0
        obtain ⟨V, hV⟩ : ∃ V, x * 256 + c = V := ⟨_, rfl⟩
        rw [hV] at hor HV
        clear hV
        have hltI : (i : Int) < 64 := by omega
        have hgeI : (0 : Int) ≤ (i : Int) := by omega
        have q4 : ((i : Int) / 4).toNat = i / 4 := by omega
        have q4a : (0 : Int) ≤ (i : Int) / 4 := by omega
        have q4b : (i : Int) / 4 < 64 := by omega
        go_upto_region 4 with fail
        go_quiet (fail)
        obtain ⟨wq, hwq⟩ : ∃ wq, wq = wr.drewN nq := ⟨_, rfl⟩
        have D0 : wq.cell? ⟨w.heap.size + 1, i / 4, none⟩ = some (.int .u32 (x : Int)) := by rw [hwq]; simpa using r0
        have Dz : wq.frozen? ⟨w.heap.size + 1, i / 4, none⟩ = false := by rw [hwq]; simpa using hfz
        rw [← hwq]
        have HWQ := hid hwq
        clear hwq r0 hfz
        go_wp2_with fail
        go_roundw
        case rel =>
          have hwx : ∀ a, wq.cell? a = wr.cell? a := fun a => by rw [HWQ.out]; simp
          have hwa : WordsAt wq (w.heap.size + 1) 0 row := fun j hj => (hwx _).trans (HI.out.2.1 j hj)
          refine ⟨i + 1, row.set (i / 4) V, by go_num, by omega, by rw [List.length_set]; exact HI.out.1, ?_, ?_, ?_, ?_, ?_, ?_⟩
          · have h := hwa.set (i / 4) V (by rw [HI.out.1]; omega)
            rw [Nat.zero_add] at h
            exact h
          · intro j hj
            rw [getD_set _ _ _ _ (by rw [HI.out.1]; omega)]
            by_cases e : j = i / 4
            · rw [if_pos e, e, ← HV.out]
              congr 1
              omega
            · rw [if_neg e, HI.out.2.2.1 j hj]
              congr 1
              omega
          · intro o
            rw [World.frozen?_setCell, HWQ.out]
            simp
            exact HI.out.2.2.2.1 o
          · have hb : Below w.heap.size w wq := by
              rw [HWQ.out]
              have h := HI.out.2.2.2.2.1
              exact ⟨h.os, h.tape, h.output, h.size, h.block⟩
            exact hb.setCell (by simp) _
          · rw [HWQ.out]
            simp
            exact HI.out.2.2.2.2.2.1
          · intro j hj
            have h := HI.out.2.2.2.2.2.2 j hj
            rw [HWQ.out]
            exact ⟨by rw [World.cell?_setCell_other _ _ _ _ (by simp)]; simpa using h.1, by rw [World.frozen?_setCell]; simpa using h.2⟩
        case measure => simp [intOf]; omega
    · have HI64 : Hid (i = 64) := by rw [Hid]; omega
      have hge : (64 : Int) ≤ (i : Int) := by omega
      clear hlt hi
      go_wp2_with fail
      as_aux_lemma =>
        go_loopw [6] (fun s wx => ∃ (i : Nat) (row : List Nat), s = .int .i64 i ∧ 16 ≤ i ∧ i ≤ 64 ∧ Hid (row.length = 64 ∧ WordsAt wx (w.heap.size + 1) 0 row ∧ (∀ j, j < i → row.getD j 0 = (sched bs).getD j 0) ∧ (∀ o, wx.frozen? ⟨w.heap.size + 1, o, none⟩ = false) ∧ Below w.heap.size w wx ∧ wx.heap.size = w.heap.size + 2 ∧ wx.there w.heap.size 0 64)) (fun s _ => 64 - (intOf s).toNat)
        case atStart => exact ⟨16, row, rfl, by omega, by omega, HI.out.1, HI.out.2.1, fun j hj => by rw [HI.out.2.2.1 j hj, sched_head bs j hj, show min 4 (i - 4 * j) = 4 by have := HI64.out; omega, pw_four], HI.out.2.2.2.1, HI.out.2.2.2.2.1, HI.out.2.2.2.2.2.1, HI.out.2.2.2.2.2.2⟩
        case round =>
          clear HI HI64 row
          obtain ⟨i, row, rfl, hi0, hi, HI⟩ := hrel
          by_cases hlt : i < 64
          · as_aux_lemma =>
              have rr : ∀ j, j < 64 → wr.cell? ⟨w.heap.size + 1, j, none⟩ = some (.int .u32 ((row.getD j 0 : Nat) : Int)) := fun j hj => by have h := HI.out.2.1 j (by rw [HI.out.1]; exact hj); rw [Nat.zero_add] at h; exact h
              have d0 := rr (i - 16) (by omega)
              have d1 := rr (i - 15) (by omega)
              have d2 := rr (i - 7) (by omega)
              have d3 := rr (i - 2) (by omega)
              have d4 := rr i (by omega)
              have hfz := HI.out.2.2.2.1 i
              clear rr
              have bnd : ∀ j, j < i → row.getD j 0 < 4294967296 := fun j hj => by rw [HI.out.2.2.1 j hj]; exact (sched_words HBW.out).getD j
              have b0 := bnd (i - 16) (by omega)
              have b1 := bnd (i - 15) (by omega)
              have b2 := bnd (i - 7) (by omega)
              have b3 := bnd (i - 2) (by omega)
              have HN : Hid ((sched bs).getD i 0 = (row.getD (i - 16) 0 + sig0 (row.getD (i - 15) 0) + row.getD (i - 7) 0 + sig1 (row.getD (i - 2) 0)) % 4294967296) := by
                rw [Hid, sched_next bs i hi0 hlt, nextW, HI.out.2.2.1 _ (by omega), HI.out.2.2.1 _ (by omega), HI.out.2.2.1 _ (by omega), HI.out.2.2.1 _ (by omega)]
              clear bnd
              generalize row.getD (i - 16) 0 = x0 at *
              generalize row.getD (i - 15) 0 = x1 at *
              generalize row.getD (i - 7) 0 = x2 at *
              generalize row.getD (i - 2) 0 = x3 at *
              have T1 : Hid (∀ w, Calls Try.prog 51 #[.int .u32 (x1 : Int), .int .i64 7] w fun e w' => e = .returned (.int .u32 (rot x1 7 : Nat)) ∧ w' = w) := fun w => right_any x1 7 w b1 (by omega) (by omega)
              have T2 : Hid (∀ w, Calls Try.prog 51 #[.int .u32 (x1 : Int), .int .i64 18] w fun e w' => e = .returned (.int .u32 (rot x1 18 : Nat)) ∧ w' = w) := fun w => right_any x1 18 w b1 (by omega) (by omega)
              have T3 : Hid (∀ w, Calls Try.prog 51 #[.int .u32 (x3 : Int), .int .i64 17] w fun e w' => e = .returned (.int .u32 (rot x3 17 : Nat)) ∧ w' = w) := fun w => right_any x3 17 w b3 (by omega) (by omega)
              have T4 : Hid (∀ w, Calls Try.prog 51 #[.int .u32 (x3 : Int), .int .i64 19] w fun e w' => e = .returned (.int .u32 (rot x3 19 : Nat)) ∧ w' = w) := fun w => right_any x3 19 w b3 (by omega) (by omega)
              have hs0 := sig0_bits x1 b1
              have hs1 := sig1_bits x3 b3
              have c0 := sig0_lt b1
              have c1 := sig1_lt b3
              have hlI : (i : Int) < 64 := by omega
              have hgI : (16 : Int) ≤ (i : Int) := by omega
              have h0I : (0 : Int) ≤ (i : Int) := by omega
              have n2a : (0 : Int) ≤ (i : Int) - 2 := by omega
              have n2b : (i : Int) - 2 < 64 := by omega
              have n2c : ((i : Int) - 2).toNat = i - 2 := by omega
              have n7a : (0 : Int) ≤ (i : Int) - 7 := by omega
              have n7b : (i : Int) - 7 < 64 := by omega
              have n7c : ((i : Int) - 7).toNat = i - 7 := by omega
              have n15a : (0 : Int) ≤ (i : Int) - 15 := by omega
              have n15b : (i : Int) - 15 < 64 := by omega
              have n15c : ((i : Int) - 15).toNat = i - 15 := by omega
              have n16a : (0 : Int) ≤ (i : Int) - 16 := by omega
              have n16b : (i : Int) - 16 < 64 := by omega
              have n16c : ((i : Int) - 16).toNat = i - 16 := by omega
              have n7e : (7 : Int) ≤ (i : Int) := by omega
              have n7d : IntKind.i64.wrap ((i : Int) - 7) = (i : Int) - 7 := by rw [IntKind.wrap_i64]; omega
              have n16d : IntKind.i64.wrap ((i : Int) - 16) = (i : Int) - 16 := by rw [IntKind.wrap_i64]; omega
              go_upto_region 10 with fail
              go_quiet (fail)
              obtain ⟨wq, hwq⟩ : ∃ wq, wq = wr.drewN nq := ⟨_, rfl⟩
              have D0 : wq.cell? ⟨w.heap.size + 1, i - 16, none⟩ = some (.int .u32 (x0 : Int)) := by rw [hwq]; simpa using d0
              have D2 : wq.cell? ⟨w.heap.size + 1, i - 7, none⟩ = some (.int .u32 (x2 : Int)) := by rw [hwq]; simpa using d2
              have D4 : wq.cell? ⟨w.heap.size + 1, i, none⟩ = some (.int .u32 ((row.getD i 0 : Nat) : Int)) := by rw [hwq]; simpa using d4
              have Dz : wq.frozen? ⟨w.heap.size + 1, i, none⟩ = false := by rw [hwq]; simpa using hfz
              rw [← hwq]
              have HWQ := hid hwq
              clear hwq d0 d1 d2 d3 d4 hfz
              have k16 : ∀ v, (wq.setCell ⟨w.heap.size + 1, i, none⟩ v).cell? ⟨w.heap.size + 1, i - 16, none⟩ = some (.int .u32 (x0 : Int)) := fun v => (World.cell?_setCell_other _ _ _ _ (by simp only [ne_eq, Addr.mk.injEq, true_and, and_true]; omega)).trans D0
              have k7 : ∀ v, (wq.setCell ⟨w.heap.size + 1, i, none⟩ v).cell? ⟨w.heap.size + 1, i - 7, none⟩ = some (.int .u32 (x2 : Int)) := fun v => (World.cell?_setCell_other _ _ _ _ (by simp only [ne_eq, Addr.mk.injEq, true_and, and_true]; omega)).trans D2
              go_upto_region 11 with fail
              go_region_held3 (fun w' => w'.cell? ⟨w.heap.size + 1, i - 16, none⟩ = some (.int .u32 (x0 : Int)) ∧ w'.cell? ⟨w.heap.size + 1, i - 7, none⟩ = some (.int .u32 (x2 : Int))) (first | go_keep | trivial) (first | (go_at_call_of 51 (Value.int IntKind.i64 7); refine (T1.out _).mono ?_; rintro e w1 ⟨rfl, rfl⟩) | (go_at_call_of 51 (Value.int IntKind.i64 18); refine (T2.out _).mono ?_; rintro e w1 ⟨rfl, rfl⟩) | (go_at_call_of 51 (Value.int IntKind.i64 17); refine (T3.out _).mono ?_; rintro e w1 ⟨rfl, rfl⟩) | (go_at_call_of 51 (Value.int IntKind.i64 19); refine (T4.out _).mono ?_; rintro e w1 ⟨rfl, rfl⟩))
              clear k16 k7
              go_wp2_with fail
              go_roundw
              case rel =>
                obtain ⟨V, hV⟩ : ∃ V, (x0 + sig0 x1 + x2 + sig1 x3) % 4294967296 = V := ⟨_, rfl⟩
                have hVI : ((((x0 : Int) + (x2 : Int)) % 4294967296 + ((sig0 x1 : Nat) : Int)) % 4294967296 + ((sig1 x3 : Nat) : Int)) % 4294967296 = ((V : Nat) : Int) := by omega
                rw [hVI]
                rw [hV] at HN
                have hwx : ∀ a, wq.cell? a = wr.cell? a := fun a => by rw [HWQ.out]; simp
                have hwa : WordsAt wq (w.heap.size + 1) 0 row := fun j hj => (hwx _).trans (HI.out.2.1 j hj)
                refine ⟨i + 1, row.set i V, by go_num, by omega, by omega, by rw [List.length_set]; exact HI.out.1, ?_, ?_, ?_, ?_, ?_, ?_⟩
                · have h := hwa.set i V (by rw [HI.out.1]; omega)
                  rw [Nat.zero_add] at h
                  exact h
                · intro j hj
                  rw [getD_set _ _ _ _ (by rw [HI.out.1]; omega)]
                  by_cases e : j = i
                  · rw [if_pos e, e, HN.out]
                  · rw [if_neg e]
                    exact HI.out.2.2.1 j (by omega)
                · intro o
                  rw [World.frozen?_drew, World.frozen?_setCell, HWQ.out]
                  simp
                  exact HI.out.2.2.2.1 o
                · have hb : Below w.heap.size w wq := by
                    rw [HWQ.out]
                    have h := HI.out.2.2.2.2.1
                    exact ⟨h.os, h.tape, h.output, h.size, h.block⟩
                  exact (hb.setCell (by simp) _).drew
                · rw [HWQ.out]
                  simp
                  exact HI.out.2.2.2.2.2.1
                · intro j hj
                  have h := HI.out.2.2.2.2.2.2 j hj
                  rw [HWQ.out]
                  exact ⟨by rw [World.cell?_drew, World.cell?_setCell_other _ _ _ _ (by simp)]; simpa using h.1, by rw [World.frozen?_drew, World.frozen?_setCell]; simpa using h.2⟩
              case measure => simp [intOf]; omega
          · have hi64 : i = 64 := by omega
            subst hi64
            clear hlt hi hi0
            have HS : Hid (row = sched bs) := by
              rw [Hid]
              apply List.ext_getElem?
              intro j
              by_cases hj : j < 64
              · have h := HI.out.2.2.1 j hj
                rw [List.getD_eq_getElem?_getD, List.getD_eq_getElem?_getD, List.getElem?_eq_getElem (by rw [HI.out.1]; exact hj), List.getElem?_eq_getElem (by rw [sched_length]; exact hj)] at h
                rw [List.getElem?_eq_getElem (by rw [HI.out.1]; exact hj), List.getElem?_eq_getElem (by rw [sched_length]; exact hj)]
                simpa using h
              · rw [List.getElem?_eq_none (by rw [HI.out.1]; omega), List.getElem?_eq_none (by rw [sched_length]; omega)]
            have RW : Hid (WordsAt wr (w.heap.size + 1) 0 (sched bs)) := by have h := HI.out.2.1; rw [HS.out] at h; exact h
            have BW := hid HI.out.2.2.2.2.1
            have TW := hid HI.out.2.2.2.2.2.2
            clear HI HS row
            have hl64 : (u32s (sched bs)).length = 64 := by rw [u32s_length, sched_length]
            have HL64 := hid hl64
            clear hl64
            have hi : Hid ((Try.prog.info? 64).map (·.size) = some (u32s (sched bs)).length) := by rw [Hid, HL64.out]; exact Try.info64
            have HT : Hid (wr.there w.heap.size 0 (u32s (sched bs)).toArray.size) := by
              have e : (u32s (sched bs)).toArray.size = 64 := by rw [List.size_toArray, HL64.out]
              rw [Hid, e]
              exact TW.out
            have HI2 : Hid ((Try.prog.info? 64).map (·.size) = some (u32s (sched bs)).toArray.size) := by rw [Hid, List.size_toArray]; exact hi.out
            have H1 : Hid ((u32s (sched bs)).toArray.all (·.oneCell') = true) := all_oneCell_toArray (u32s_one _)
            have HRG : Hid (wr.rangeAt (w.heap.size + 1) 0 (u32s (sched bs))) := RW.out.range
            clear HB HB64 M0 T0 F0 S0 B0 RW
            obtain ⟨cs, hcs⟩ : ∃ cs, u32s (sched bs) = cs := ⟨_, rfl⟩
            have HCS := hid hcs
            rw [hcs] at HT HI2 H1 HRG HL64 hi
            clear hcs
            go_wp2_with (first | (refine wpList_load_mid (by rfl) 64 _ (by rfl) (w.heap.size + 1) 0 (by rfl) cs _ HRG.out Try.underlying64 rfl hi.out ?_) | (refine wpList_store_mid (by rfl) 64 _ _ (by rfl) w.heap.size 0 cs.toArray (by rfl) (by rfl) HT.out HI2.out H1.out ?_))
            have hr : World.rangeAt (wr.setCells w.heap.size 0 cs) w.heap.size 0 cs := World.rangeAt_setCells_same _ _ _ _ (by rw [HL64.out]; exact TW.out)
            refine bodyPost_ret (v := .agg cs.toArray) ?_ rfl ⟨by rw [HCS.out], ?_⟩
            · exact results_cell_mid Try.results42 _ _ w.heap.size 0 _ _ rfl hr Try.underlying64 rfl hi.out
            exact (Kp.setCells (l := []) (Kp.toBelow (l := []) (Kp.below BW.out) (by simp) |> Kp.below) (.inr (Nat.le_refl _)) _ _).toBelow (by simp)
end Go.Proofs.Ytbmdnjmdehmahaa
