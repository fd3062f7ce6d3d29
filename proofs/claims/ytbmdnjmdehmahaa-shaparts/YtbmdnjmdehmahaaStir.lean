/-
  The 64 steps of a block: stir, walked.
-/
import Derived.Test.YtbmdnjmdehmahaaRot
import Derived.Deep.RegionHeld3
import Derived.Deep.RegionWith
import Derived.Deep.DeepCutAuto
import Derived.BigRegion
namespace Go.Proofs.Ytbmdnjmdehmahaa
open Go.RowKit

theorem eight (st : List Nat) (h : st.length = 8) : ∃ a b c d e f g k, st = [a, b, c, d, e, f, g, k] := by
  match st, h with
  | [a, b, c, d, e, f, g, k], _ => exact ⟨a, b, c, d, e, f, g, k, rfl⟩

theorem Kp.setRow {l : List Nat} {u w : World} (h : Kp l u w) {g : Nat} (hp : g ∈ l ∨ u.heap.size ≤ g) (cs : Array Value) : Kp l u (w.setRow g cs) :=
  ⟨h.os, h.tape, h.output, by simpa using h.size, fun k h1 h2 => (setRow_other w g k cs (by
    intro e
    rcases hp with hp | hp
    · exact h2 (e ▸ hp)
    · omega)).trans (h.block k h1 h2)⟩

set_option maxHeartbeats 2000000 in
set_option maxRecDepth 100000 in
theorem stir_any (st ks ws : List Nat) (gw ow gk ok : Nat) (w : World) (hs8 : st.length = 8) (hsw : Words st) (hk64 : ks.length = 64) (hkw : Words ks) (hw64 : ws.length = 64) (hww : Words ws)
    (Hk : WordsAt w gk ok ks) (Hw : WordsAt w gw ow ws) (lk : gk < w.heap.size) (lw : gw < w.heap.size) :
    Calls Try.prog 43 #[.agg (u32s st).toArray, .pointer (some ⟨gw, ow, none⟩), .pointer (some ⟨gk, ok, none⟩)] w fun e w' => e = .returned (.agg (u32s (roundsN ks ws 64 0 st)).toArray) ∧ Below w.heap.size w w' := by
  have HK := hid Hk
  have HW := hid Hw
  have HK64 := hid hk64
  have HKW := hid hkw
  have HW64 := hid hw64
  have HWW := hid hww
  have HS8 := hid hs8
  have HSW := hid hsw
  clear Hk Hw hk64 hkw hw64 hww hsw
  obtain ⟨a, b, c, d, e, f, g, k, rfl⟩ := eight st hs8
  clear hs8
  rw [show (u32s [a, b, c, d, e, f, g, k]).toArray = #[.int .u32 (a : Int), .int .u32 (b : Int), .int .u32 (c : Int), .int .u32 (d : Int), .int .u32 (e : Int), .int .u32 (f : Int), .int .u32 (g : Int), .int .u32 (k : Int)] from rfl]
  go_enter Try.func43, Try.ntmps43
  go_upto_region 1 with fail
  go_quiet (fail)
  go_wp2_with fail
  obtain ⟨W, hW⟩ : ∃ W, W = ((w.alloc (.cells #[.int .u32 (a : Int), .int .u32 (b : Int), .int .u32 (c : Int), .int .u32 (d : Int), .int .u32 (e : Int), .int .u32 (f : Int), .int .u32 (g : Int), .int .u32 (k : Int)] 63)).alloc (.cells #[.int .u32 0, .int .u32 0, .int .u32 0, .int .u32 0, .int .u32 0, .int .u32 0, .int .u32 0, .int .u32 0] 63)).drewN nq := ⟨_, rfl⟩
  have B0 : Hid (Below w.heap.size w W) := by rw [Hid, hW]; exact below_drewN (((Below.refl _ _).alloc (Nat.le_refl _) _).alloc (by simp) _) _
  have H0 : Hid (W.heap[w.heap.size + 1]? = some (.cells #[.int .u32 0, .int .u32 0, .int .u32 0, .int .u32 0, .int .u32 0, .int .u32 0, .int .u32 0, .int .u32 0] 63)) := by
    rw [Hid, hW, World.heap_drewN]
    exact heap_alloc2_new _ _ _
  rw [← hW]
  clear hW
  go_loopw [7, 8, 9, 10, 11, 12, 13, 14, 36] (fun s0 s1 s2 s3 s4 s5 s6 s7 si wr => ∃ (i : Nat) (v : List Nat), si = .int .i64 i ∧ i ≤ 64 ∧ s0 = .int .u32 ((v.getD 0 0 : Nat) : Int) ∧ s1 = .int .u32 ((v.getD 1 0 : Nat) : Int) ∧ s2 = .int .u32 ((v.getD 2 0 : Nat) : Int) ∧ s3 = .int .u32 ((v.getD 3 0 : Nat) : Int) ∧ s4 = .int .u32 ((v.getD 4 0 : Nat) : Int) ∧ s5 = .int .u32 ((v.getD 5 0 : Nat) : Int) ∧ s6 = .int .u32 ((v.getD 6 0 : Nat) : Int) ∧ s7 = .int .u32 ((v.getD 7 0 : Nat) : Int) ∧ Hid (v = roundsN ks ws i 0 [a, b, c, d, e, f, g, k] ∧ ∃ q, wr = W.drewN q)) (fun _ _ _ _ _ _ _ _ si _ => 64 - (intOf si).toNat)
  case atStart => exact ⟨0, _, rfl, by omega, rfl, rfl, rfl, rfl, rfl, rfl, rfl, rfl, rfl, 0, rfl⟩
  case round =>
    obtain ⟨i, v, rfl, hi, rfl, rfl, rfl, rfl, rfl, rfl, rfl, rfl, HI⟩ := hrel
    by_cases hlt : i < 64
    · as_aux_lemma =>
        obtain ⟨hvw, hv8⟩ := roundsN_words ks ws i 0 [a, b, c, d, e, f, g, k] HSW.out HS8.out
        rw [← HI.out.1] at hvw hv8
        have HR : Hid (roundsN ks ws (i + 1) 0 [a, b, c, d, e, f, g, k] = round1 v (ks.getD i 0) (ws.getD i 0)) := by
          have h := roundsN_snoc ks ws i 0 [a, b, c, d, e, f, g, k]
          rw [Nat.zero_add, ← HI.out.1] at h
          exact h
        have hlk : wr.cell? ⟨gk, ok + i, none⟩ = some (.int .u32 ((ks.getD i 0 : Nat) : Int)) := by
          obtain ⟨q, hq⟩ := HI.out.2
          rw [hq, World.cell?_drewN, B0.out.cell (p := ⟨gk, ok + i, none⟩) lk]
          exact HK.out i (by rw [HK64.out]; exact hlt)
        have hlw : wr.cell? ⟨gw, ow + i, none⟩ = some (.int .u32 ((ws.getD i 0 : Nat) : Int)) := by
          obtain ⟨q, hq⟩ := HI.out.2
          rw [hq, World.cell?_drewN, B0.out.cell (p := ⟨gw, ow + i, none⟩) lw]
          exact HW.out i (by rw [HW64.out]; exact hlt)
        have l0 := hvw.getD 0
        have l1 := hvw.getD 1
        have l2 := hvw.getD 2
        have l3 := hvw.getD 3
        have l4 := hvw.getD 4
        have l5 := hvw.getD 5
        have l6 := hvw.getD 6
        have l7 := hvw.getD 7
        have lkk := HKW.out.getD i
        have lww := HWW.out.getD i
        clear hvw hv8
        have HR2 : Hid (round1 v (ks.getD i 0) (ws.getD i 0) = [((v.getD 7 0 + Sig1 (v.getD 4 0) + cho (v.getD 4 0) (v.getD 5 0) (v.getD 6 0) + ks.getD i 0 + ws.getD i 0) % 4294967296 + (Sig0 (v.getD 0 0) + maj (v.getD 0 0) (v.getD 1 0) (v.getD 2 0)) % 4294967296) % 4294967296, v.getD 0 0, v.getD 1 0, v.getD 2 0, (v.getD 3 0 + (v.getD 7 0 + Sig1 (v.getD 4 0) + cho (v.getD 4 0) (v.getD 5 0) (v.getD 6 0) + ks.getD i 0 + ws.getD i 0) % 4294967296) % 4294967296, v.getD 4 0, v.getD 5 0, v.getD 6 0]) := rfl
        generalize v.getD 0 0 = v0 at *
        generalize v.getD 1 0 = v1 at *
        generalize v.getD 2 0 = v2 at *
        generalize v.getD 3 0 = v3 at *
        generalize v.getD 4 0 = v4 at *
        generalize v.getD 5 0 = v5 at *
        generalize v.getD 6 0 = v6 at *
        generalize v.getD 7 0 = v7 at *
        have HRF : Hid (roundsN ks ws (i + 1) 0 [a, b, c, d, e, f, g, k] = [((v7 + Sig1 v4 + cho v4 v5 v6 + ks.getD i 0 + ws.getD i 0) % 4294967296 + (Sig0 v0 + maj v0 v1 v2) % 4294967296) % 4294967296, v0, v1, v2, (v3 + (v7 + Sig1 v4 + cho v4 v5 v6 + ks.getD i 0 + ws.getD i 0) % 4294967296) % 4294967296, v4, v5, v6]) := HR.out.trans HR2.out
        clear HR HR2
        generalize ks.getD i 0 = kk at *
        generalize ws.getD i 0 = ww at *
        have T1 : Hid (∀ w, Calls Try.prog 52 #[.int .u32 (v4 : Int), .int .i64 6, .int .i64 11, .int .i64 25] w fun e w' => e = .returned (.int .u32 ((Sig1 v4 : Nat) : Int)) ∧ w' = w) := fun w => mix_any v4 6 11 25 w l4 (by omega) (by omega) (by omega)
        have T2 : Hid (∀ w, Calls Try.prog 52 #[.int .u32 (v0 : Int), .int .i64 2, .int .i64 13, .int .i64 22] w fun e w' => e = .returned (.int .u32 ((Sig0 v0 : Nat) : Int)) ∧ w' = w) := fun w => mix_any v0 2 13 22 w l0 (by omega) (by omega) (by omega)
        have hch := cho_bits v4 v5 v6 l4 l5 l6 (not_xor l4)
        have hmj := maj_bits v0 v1 v2 l0 l1 l2
        have c1 := Sig1_lt l4
        have c2 := Sig0_lt l0
        have c3 := cho_lt (x := v4) l5 l6
        have c4 := maj_lt (x := v0) l1 l2
        have hlI : (i : Int) < 64 := by omega
        have h0I : (0 : Int) ≤ (i : Int) := by omega
        go_upto_region 7 with fail
        go_quiet ((go_at_call 52; exact Calls.quiet_of_same (T1.out _)))
        obtain ⟨wq, hwq⟩ : ∃ wq, wq = wr.drewN nq := ⟨_, rfl⟩
        rw [← hwq]
        have HWQ := hid hwq
        clear hwq hlk hlw
        go_wp2_with (go_at_call 52; refine (T2.out _).mono ?_; rintro e' w1 ⟨rfl, hw1⟩; subst w1)
        go_roundw
        case rel =>
          refine ⟨i + 1, _, by go_num, by omega, ?_, rfl, rfl, rfl, ?_, rfl, rfl, rfl, HRF.out.symm, ?_⟩
          · show _ = Value.int .u32 ((((v7 + Sig1 v4 + cho v4 v5 v6 + kk + ww) % 4294967296 + (Sig0 v0 + maj v0 v1 v2) % 4294967296) % 4294967296 : Nat) : Int)
            congr 1
          · show _ = Value.int .u32 (((v3 + (v7 + Sig1 v4 + cho v4 v5 v6 + kk + ww) % 4294967296) % 4294967296 : Nat) : Int)
            congr 1
          · obtain ⟨q, hq⟩ := HI.out.2
            exact ⟨q + nq, by rw [HWQ.out, hq, World.drewN_drewN]⟩
        case measure => simp [intOf]; omega
    · have h64 : i = 64 := by omega
      obtain ⟨_, hv8⟩ := roundsN_words ks ws i 0 [a, b, c, d, e, f, g, k] HSW.out HS8.out
      rw [← HI.out.1] at hv8
      have HU : Hid ((u32s v).toArray = #[.int .u32 ((v.getD 0 0 : Nat) : Int), .int .u32 ((v.getD 1 0 : Nat) : Int), .int .u32 ((v.getD 2 0 : Nat) : Int), .int .u32 ((v.getD 3 0 : Nat) : Int), .int .u32 ((v.getD 4 0 : Nat) : Int), .int .u32 ((v.getD 5 0 : Nat) : Int), .int .u32 ((v.getD 6 0 : Nat) : Int), .int .u32 ((v.getD 7 0 : Nat) : Int)]) := by
        obtain ⟨a', b', c', d', e', f', g', k', rfl⟩ := eight v hv8
        rfl
      have HV : Hid (v = roundsN ks ws 64 0 [a, b, c, d, e, f, g, k]) := by rw [Hid, HI.out.1, h64]
      clear h64 hv8
      have hB : Hid (wr.heap[w.heap.size + 1]? = some (.cells #[.int .u32 0, .int .u32 0, .int .u32 0, .int .u32 0, .int .u32 0, .int .u32 0, .int .u32 0, .int .u32 0] 63) ∧ Below w.heap.size w wr) := by
        obtain ⟨q, hq⟩ := HI.out.2
        rw [hq]
        exact ⟨by rw [World.heap_drewN]; exact H0.out, below_drewN B0.out _⟩
      generalize v.getD 0 0 = v0 at *
      generalize v.getD 1 0 = v1 at *
      generalize v.getD 2 0 = v2 at *
      generalize v.getD 3 0 = v3 at *
      generalize v.getD 4 0 = v4 at *
      generalize v.getD 5 0 = v5 at *
      generalize v.getD 6 0 = v6 at *
      generalize v.getD 7 0 = v7 at *
      have I63 : Hid ((Try.prog.info? 63).map (·.size) = some (#[Value.int .u32 (v0 : Int), .int .u32 (v1 : Int), .int .u32 (v2 : Int), .int .u32 (v3 : Int), .int .u32 (v4 : Int), .int .u32 (v5 : Int), .int .u32 (v6 : Int), .int .u32 (v7 : Int)] : Array Value).size) := by rw [Hid]; kernel_rfl
      go_wp2_with (refine wpList_store_row (by rfl) 63 _ _ (by rfl) (w.heap.size + 1) #[.int .u32 (v0 : Int), .int .u32 (v1 : Int), .int .u32 (v2 : Int), .int .u32 (v3 : Int), .int .u32 (v4 : Int), .int .u32 (v5 : Int), .int .u32 (v6 : Int), .int .u32 (v7 : Int)] (by rfl) (by rfl) 63 _ hB.out.1 I63.out (by rfl) (all_oneCell_toArray (u32s_one [v0, v1, v2, v3, v4, v5, v6, v7])) ?_)
      refine bodyPost_ret (v := .agg #[.int .u32 (v0 : Int), .int .u32 (v1 : Int), .int .u32 (v2 : Int), .int .u32 (v3 : Int), .int .u32 (v4 : Int), .int .u32 (v5 : Int), .int .u32 (v6 : Int), .int .u32 (v7 : Int)]) ?_ rfl ⟨?_, ?_⟩
      · exact results_cell_row Try.results43 _ _ (w.heap.size + 1) 63 _ (0, 0) _ rfl (setRow_heap _ _ _ _ _ _ hB.out.1) Try.underlying63 rfl I63.out
      · rw [← HV.out, HU.out]
      · exact ((Kp.below (l := []) hB.out.2).setRow (.inr (by omega)) _).toBelow (by simp)
end Go.Proofs.Ytbmdnjmdehmahaa
