/-
  The reference's block, walked.
-/
import Derived.Test.YtbmdnjmdehmahaaRot
import Derived.Test.YtbmdnjmdehmahaaSpread
import Derived.Test.YtbmdnjmdehmahaaR18
import Derived.Deep.OwnRows
import Derived.BigRegion
import Derived.Deep.RegionWith
import Derived.Deep.RegionHeld3
import Derived.Deep.DeepCutAuto
namespace Go.Proofs.Ytbmdnjmdehmahaa
open Go.RowKit

theorem Try.info53' : (Try.prog.info? 53).map (fun i => (i.zero, i.size, i.bytes)) = some (some (.int .u32 0), 1, 4) := by kernel_rfl
theorem made_words0 (n : Nat) : madeCells #[Value.int .u32 0] n = (u32s (List.replicate n 0)).toArray := by
  apply Array.ext
  · simp [madeCells, u32s]
  · intro i h1 h2
    simp [madeCells, u32s, Nat.mod_one]
theorem made_words (w : World) : WordsAt (w.alloc (.cells (madeCells #[Value.int .u32 0] 64) 53)) w.heap.size 0 (List.replicate 64 0) := by
  rw [made_words0]
  exact WordsAt.of_block (heap_alloc_new _ _)

set_option maxHeartbeats 8000000 in
set_option maxRecDepth 100000 in
theorem block_any (hs ks bs : List Nat) (gh oh ch gk ok ck gb obb cb : Nat) (w : World) (hh8 : hs.length = 8) (hhw : Words hs) (hk64 : ks.length = 64) (hkw : Words ks) (hb64 : bs.length = 64) (hbw : ∀ x ∈ bs, x < 256)
    (Hh : WordsAt w gh oh hs) (Hk : WordsAt w gk ok ks) (Hb : BytesAt w gb obb bs) (lh : gh < w.heap.size) (lk : gk < w.heap.size) (lb : gb < w.heap.size) :
    Calls Try.prog 27 #[.slice (some ⟨gh, oh, none⟩) 8 ch, .slice (some ⟨gk, ok, none⟩) 64 ck, .slice (some ⟨gb, obb, none⟩) 64 cb] w fun e w' => ∃ g c, e = .returned (.slice (some ⟨g, 0, none⟩) 8 c) ∧ w.heap.size ≤ g ∧ g < w'.heap.size ∧
      WordsAt w' g 0 (addW (roundsN ks (sched bs) 64 0 hs) hs) ∧ Below w.heap.size w w' := by
  have HH := hid Hh
  have HK := hid Hk
  have HB := hid Hb
  have H8 := hid hh8
  have HHW := hid hhw
  have HK64 := hid hk64
  have HKW := hid hkw
  have HB64 := hid hb64
  have HBW := hid hbw
  clear Hh Hk Hb hh8 hhw hk64 hkw hb64 hbw
  have hmk : ∀ w, (Instr.makeSlice 72 (.int .i64 64) (.int .i64 64)).run Try.prog w = .ok (.slice (some ⟨w.heap.size, 0, none⟩) 64 64) (w.alloc (.cells (madeCells #[Value.int .u32 0] 64) 53)) := fun w => run_make_row' (P := Try.prog) 72 53 (.int .u32 0) 4 Try.underlying72 Try.info53' rfl .i64 .i64 64 (by omega) (by omega) w
  go_enter Try.func27, Try.ntmps27
  go_wp2_with fail
  obtain ⟨W1, hW1⟩ : ∃ W1, W1 = w.alloc (.cells (madeCells #[Value.int .u32 0] 64) 53) := ⟨_, rfl⟩
  have M0 : Hid (WordsAt W1 w.heap.size 0 (List.replicate 64 0)) := by rw [Hid, hW1]; exact made_words w
  have F0 : Hid (∀ o, W1.frozen? ⟨w.heap.size, o, none⟩ = false) := by intro o; rw [hW1]; simp [go_sem]
  have S0 : Hid (W1.heap.size = w.heap.size + 1) := by rw [Hid, hW1]; simp
  have B0 : Hid (Below w.heap.size w W1) := by rw [Hid, hW1]; exact (Below.refl _ _).alloc (Nat.le_refl _) _
  rw [← hW1]
  clear hW1 hmk
  go_loopw [8] (fun s wr => ∃ (i : Nat) (row : List Nat), s = .int .i64 i ∧ i ≤ 16 ∧ Hid (row.length = 64 ∧ WordsAt wr w.heap.size 0 row ∧ (∀ j, j < i → row.getD j 0 = wordAt bs j) ∧ (∀ o, wr.frozen? ⟨w.heap.size, o, none⟩ = false) ∧ Below w.heap.size w wr ∧ wr.heap.size = w.heap.size + 1)) (fun s _ => 16 - (intOf s).toNat)
  case atStart => exact ⟨0, _, rfl, by omega, by simp, M0.out, by omega, F0.out, B0.out, S0.out⟩
  case round =>
    obtain ⟨i, row, rfl, hi, HI⟩ := hrel
    by_cases hlt : i < 16
    · as_aux_lemma =>
        have bb := hid HI.out.2.2.2.2.1
        have hfz := HI.out.2.2.2.1 i
        have cs : ∀ j, j < 64 → wr.cell? ⟨gb, obb + j, none⟩ = some (.int .u8 ((bs.getD j 0 : Nat) : Int)) := fun j hj => (bb.out.cell (p := ⟨gb, obb + j, none⟩) lb).trans (HB.out j (by rw [HB64.out]; exact hj))
        have d0 := cs (4 * i) (by omega)
        have d1 := cs (4 * i + 1) (by omega)
        have d2 := cs (4 * i + 2) (by omega)
        have d3 := cs (4 * i + 3) (by omega)
        have r0 := HI.out.2.1 i (by rw [HI.out.1]; omega)
        clear cs
        have g256 : ∀ j, bs.getD j 0 < 256 := fun j => by
          rw [List.getD_eq_getElem?_getD]
          cases e : bs[j]? with
          | none => simp
          | some x => exact HBW.out x (List.mem_of_getElem? e)
        have l0 := g256 (4 * i)
        have l1 := g256 (4 * i + 1)
        have l2 := g256 (4 * i + 2)
        have l3 := g256 (4 * i + 3)
        have HWA : Hid (wordAt bs i = bs.getD (4 * i) 0 * 16777216 + bs.getD (4 * i + 1) 0 * 65536 + bs.getD (4 * i + 2) 0 * 256 + bs.getD (4 * i + 3) 0) := rfl
        clear g256
        generalize bs.getD (4 * i) 0 = y0 at *
        generalize bs.getD (4 * i + 1) 0 = y1 at *
        generalize bs.getD (4 * i + 2) 0 = y2 at *
        generalize bs.getD (4 * i + 3) 0 = y3 at *
        rw [Nat.zero_add] at r0
        have hor := or4 y0 y1 y2 y3 l0 l1 l2 l3
        obtain ⟨V, hV⟩ : ∃ V, y0 * 16777216 + y1 * 65536 + y2 * 256 + y3 = V := ⟨_, rfl⟩
        rw [hV] at hor HWA
        clear hV
        go_wp2_with fail
        go_big_region
        go_wp2_with fail
        go_roundw
        case rel =>
          refine ⟨i + 1, row.set i V, by go_num, by omega, by rw [List.length_set]; exact HI.out.1, ?_, ?_, ?_, ?_, ?_⟩
          · have h := HI.out.2.1.set i V (by rw [HI.out.1]; omega)
            rw [Nat.zero_add] at h
            exact h
          · intro j hj
            rw [List.getD_eq_getElem?_getD]
            by_cases e : j = i
            · subst e
              rw [List.getElem?_set_self (by rw [HI.out.1]; omega), HWA.out]
              rfl
            · rw [List.getElem?_set_ne (by omega), ← List.getD_eq_getElem?_getD]
              exact HI.out.2.2.1 j (by omega)
          · intro o
            simp
            exact HI.out.2.2.2.1 o
          · exact (HI.out.2.2.2.2.1.setCell (Nat.le_refl _) _).drew
          · simp
            exact HI.out.2.2.2.2.2
        case measure => simp [intOf]; omega
    · have hi16 : i = 16 := by omega
      subst hi16
      clear hlt hi
      go_wp2_with fail
      as_aux_lemma =>
        go_loopw [9] (fun s wx => ∃ (i : Nat) (row : List Nat), s = .int .i64 i ∧ 16 ≤ i ∧ i ≤ 64 ∧ Hid (row.length = 64 ∧ WordsAt wx w.heap.size 0 row ∧ (∀ j, j < i → row.getD j 0 = (sched bs).getD j 0) ∧ (∀ o, wx.frozen? ⟨w.heap.size, o, none⟩ = false) ∧ Below w.heap.size w wx ∧ wx.heap.size = w.heap.size + 1)) (fun s _ => 64 - (intOf s).toNat)
        case atStart => exact ⟨16, row, rfl, by omega, by omega, HI.out.1, HI.out.2.1, fun j hj => (HI.out.2.2.1 j hj).trans (sched_head bs j hj).symm, HI.out.2.2.2.1, HI.out.2.2.2.2.1, HI.out.2.2.2.2.2⟩
        case round =>
          clear HI row
          obtain ⟨i, row, rfl, hi0, hi, HI⟩ := hrel
          by_cases hlt : i < 64
          · as_aux_lemma =>
              have rr : ∀ j, j < 64 → wr.cell? ⟨w.heap.size, j, none⟩ = some (.int .u32 ((row.getD j 0 : Nat) : Int)) := fun j hj => by have h := HI.out.2.1 j (by rw [HI.out.1]; exact hj); rw [Nat.zero_add] at h; exact h
              have d0 := rr (i - 16) (by omega)
              have d1 := rr (i - 15) (by omega)
              have d2 := rr (i - 7) (by omega)
              have d3 := rr (i - 2) (by omega)
              have d4 := rr i (by omega)
              have hfz := HI.out.2.2.2.1 i
              clear rr
              have bnd : ∀ j, j < i → row.getD j 0 < 4294967296 := fun j hj => by rw [HI.out.2.2.1 j hj]; exact (sched_words HBW.out).getD j
              have b0 := bnd (i - 16) (by omega)
              have b1 := bnd (i - 15) (by omega)
              have b2 := bnd (i - 7) (by omega)
              have b3 := bnd (i - 2) (by omega)
              have HN : Hid ((sched bs).getD i 0 = (row.getD (i - 16) 0 + sig0 (row.getD (i - 15) 0) + row.getD (i - 7) 0 + sig1 (row.getD (i - 2) 0)) % 4294967296) := by
                rw [Hid, sched_next bs i hi0 hlt, nextW, HI.out.2.2.1 _ (by omega), HI.out.2.2.1 _ (by omega), HI.out.2.2.1 _ (by omega), HI.out.2.2.1 _ (by omega)]
              clear bnd
              generalize row.getD (i - 16) 0 = x0 at *
              generalize row.getD (i - 15) 0 = x1 at *
              generalize row.getD (i - 7) 0 = x2 at *
              generalize row.getD (i - 2) 0 = x3 at *
              have T1 : Hid (∀ w, Calls Try.prog 40 #[.int .u32 (x1 : Int), .int .u64 7] w fun e w' => e = .returned (.int .u32 (rot x1 7 : Nat)) ∧ w' = w) := fun w => turn_any x1 7 w b1 (by omega) (by omega)
              have T2 : Hid (∀ w, Calls Try.prog 40 #[.int .u32 (x1 : Int), .int .u64 18] w fun e w' => e = .returned (.int .u32 (rot x1 18 : Nat)) ∧ w' = w) := fun w => turn_any x1 18 w b1 (by omega) (by omega)
              have T3 : Hid (∀ w, Calls Try.prog 40 #[.int .u32 (x3 : Int), .int .u64 17] w fun e w' => e = .returned (.int .u32 (rot x3 17 : Nat)) ∧ w' = w) := fun w => turn_any x3 17 w b3 (by omega) (by omega)
              have T4 : Hid (∀ w, Calls Try.prog 40 #[.int .u32 (x3 : Int), .int .u64 19] w fun e w' => e = .returned (.int .u32 (rot x3 19 : Nat)) ∧ w' = w) := fun w => turn_any x3 19 w b3 (by omega) (by omega)
              have hs0 := sig0_bits x1 b1
              have hs1 := sig1_bits x3 b3
              have c0 := sig0_lt b1
              have c1 := sig1_lt b3
              have hlI : (i : Int) < 64 := by omega
              have hgI : (16 : Int) ≤ (i : Int) := by omega
              have n2a : (0 : Int) ≤ (i : Int) - 2 := by omega
              have n2b : (i : Int) - 2 < 64 := by omega
              have n2c : ((i : Int) - 2).toNat = i - 2 := by omega
              have n7a : (0 : Int) ≤ (i : Int) - 7 := by omega
              have n7b : (i : Int) - 7 < 64 := by omega
              have n7c : ((i : Int) - 7).toNat = i - 7 := by omega
              have n15a : (0 : Int) ≤ (i : Int) - 15 := by omega
              have n15b : (i : Int) - 15 < 64 := by omega
              have n15c : ((i : Int) - 15).toNat = i - 15 := by omega
              have n16a : (0 : Int) ≤ (i : Int) - 16 := by omega
              have n16b : (i : Int) - 16 < 64 := by omega
              have n16c : ((i : Int) - 16).toNat = i - 16 := by omega
              go_upto_region 9 with fail
              go_quiet (first | (go_at_call_of 40 (Value.int IntKind.u64 7); exact Calls.quiet_of_same (T1.out _)) | (go_at_call_of 40 (Value.int IntKind.u64 18); exact Calls.quiet_of_same (T2.out _)))
              obtain ⟨wq, hwq⟩ : ∃ wq, wq = wr.drewN nq := ⟨_, rfl⟩
              have D0 : wq.cell? ⟨w.heap.size, i - 16, none⟩ = some (.int .u32 (x0 : Int)) := by rw [hwq]; simpa using d0
              have D2 : wq.cell? ⟨w.heap.size, i - 7, none⟩ = some (.int .u32 (x2 : Int)) := by rw [hwq]; simpa using d2
              have D3 : wq.cell? ⟨w.heap.size, i - 2, none⟩ = some (.int .u32 (x3 : Int)) := by rw [hwq]; simpa using d3
              have D4 : wq.cell? ⟨w.heap.size, i, none⟩ = some (.int .u32 ((row.getD i 0 : Nat) : Int)) := by rw [hwq]; simpa using d4
              have Dz : wq.frozen? ⟨w.heap.size, i, none⟩ = false := by rw [hwq]; simpa using hfz
              rw [← hwq]
              have HWQ := hid hwq
              clear hwq d0 d1 d2 d3 d4 hfz
              go_upto_region 10 with fail
              go_quiet (first | (go_at_call_of 40 (Value.int IntKind.u64 17); exact Calls.quiet_of_same (T3.out _)) | (go_at_call_of 40 (Value.int IntKind.u64 19); exact Calls.quiet_of_same (T4.out _)))
              go_upto_region 11 with fail
              go_big_region
              go_wp2_with fail
              go_roundw
              case rel =>
                obtain ⟨V, hV⟩ : ∃ V, (x0 + sig0 x1 + x2 + sig1 x3) % 4294967296 = V := ⟨_, rfl⟩
                have hVI : ((x0 : Int) + (sig0 x1 : Nat) + x2 + (sig1 x3 : Nat)) % 4294967296 = ((V : Nat) : Int) := by omega
                rw [hVI]
                rw [hV] at HN
                have hwx : ∀ a, (wq.drewN (nq + 1)).cell? a = wr.cell? a := fun a => by rw [HWQ.out]; simp
                have hwa : WordsAt (wq.drewN (nq + 1)) w.heap.size 0 row := fun j hj => (hwx _).trans (HI.out.2.1 j hj)
                refine ⟨i + 1, row.set i V, by go_num, by omega, by omega, by rw [List.length_set]; exact HI.out.1, ?_, ?_, ?_, ?_, ?_⟩
                · have h := hwa.set i V (by rw [HI.out.1]; omega)
                  rw [Nat.zero_add] at h
                  exact h
                · intro j hj
                  rw [List.getD_eq_getElem?_getD]
                  by_cases e : j = i
                  · subst e
                    rw [List.getElem?_set_self (by rw [HI.out.1]; omega), HN.out]
                    rfl
                  · rw [List.getElem?_set_ne (by omega), ← List.getD_eq_getElem?_getD]
                    exact HI.out.2.2.1 j (by omega)
                · intro o
                  rw [World.frozen?_setCell, HWQ.out]
                  simp
                  exact HI.out.2.2.2.1 o
                · have hb : Below w.heap.size w (wq.drewN (nq + 1)) := by
                    rw [HWQ.out]
                    have h := HI.out.2.2.2.2.1
                    exact ⟨h.os, h.tape, h.output, h.size, h.block⟩
                  exact hb.setCell (Nat.le_refl _) _
                · rw [HWQ.out]
                  simp
                  exact HI.out.2.2.2.2.2
              case measure => simp [intOf]; omega
          · have hi64 : i = 64 := by omega
            subst hi64
            clear hlt hi hi0
            have HS : Hid (row = sched bs) := by
              rw [Hid]
              apply List.ext_getElem?
              intro j
              by_cases hj : j < 64
              · have h := HI.out.2.2.1 j hj
                rw [List.getD_eq_getElem?_getD, List.getD_eq_getElem?_getD, List.getElem?_eq_getElem (by rw [HI.out.1]; exact hj), List.getElem?_eq_getElem (by rw [sched_length]; exact hj)] at h
                rw [List.getElem?_eq_getElem (by rw [HI.out.1]; exact hj), List.getElem?_eq_getElem (by rw [sched_length]; exact hj)]
                simpa using h
              · rw [List.getElem?_eq_none (by rw [HI.out.1]; omega), List.getElem?_eq_none (by rw [sched_length]; omega)]
            have RW : Hid (WordsAt wr w.heap.size 0 (sched bs)) := by have h := HI.out.2.1; rw [HS.out] at h; exact h
            have BW := hid HI.out.2.2.2.2.1
            have SW : w.heap.size + 1 ≤ wr.heap.size := Nat.le_of_eq HI.out.2.2.2.2.2.symm
            clear HI HS row
            as_aux_lemma =>
              obtain ⟨i0, hi, hz⟩ := Option.map_eq_some_iff.1 Try.info53'
              simp only [Prod.mk.injEq] at hz
              obtain ⟨hz0, hz1, hz2⟩ := hz
              have hnl : Hid ((hs.map fun x : Nat => Value.int .u32 (x : Int)).length = 8 * 1) := by rw [Hid, List.length_map, H8.out]
              have hnews : Hid (∀ j u, (hs.map fun x : Nat => Value.int .u32 (x : Int))[j]? = some u → (wr.alloc (Obj.cells #[] 53)).cell? ((⟨gh, oh, none⟩ : Addr).add j) = some u) := by
                intro j u hj
                have hjn : j < hs.length := by
                  have := (List.getElem?_eq_some_iff.1 hj).1
                  simpa using this
                have e2 : (⟨gh, oh, none⟩ : Addr).add j = ⟨gh, oh + j, none⟩ := by unfold Addr.add; split <;> simp_all
                rw [e2, World.cell?_alloc_past _ _ _ (by show gh < wr.heap.size; omega), BW.out.cell (p := ⟨gh, oh + j, none⟩) lh, HH.out j hjn]
                simp only [List.getElem?_map, List.getElem?_eq_getElem hjn, Option.map_some, Option.some.injEq] at hj
                simp [List.getElem?_eq_getElem hjn, hj]
              have hone : Hid (∀ u ∈ (hs.map fun x : Nat => Value.int .u32 (x : Int)), u.oneCell' = true) := by
                intro u hu
                obtain ⟨x, _, rfl⟩ := List.mem_map.1 hu
                rfl
              go_wp2_with (at_builtin; go_must (refine wpList_append_own _ rfl _ _ 72 rfl (w.heap.size + 1) 53 i0 (.int .u32 0) 1 4 Try.underlying72 hi hz0 hz1 hz2 rfl (by decide) _ _ _ rfl (World.ownsRow_made wr #[] 0 SW (Nat.zero_le _) rfl) ⟨gh, oh, none⟩ 8 ch (hs.map fun x : Nat => Value.int .u32 (x : Int)) rfl hnl.out hnews.out hone.out (by unfold maxLen; omega) (by omega) (by simp; omega) ?_))
              intro v' w4 hown hgrow hnil
              have hlt := hown.lt
              obtain ⟨g, c4, hgc, hv⟩ : ∃ g c, w.heap.size + 1 ≤ g ∧ v' = .slice (some ⟨g, 0, none⟩) 8 c := by
                rcases hown.2 with ⟨rfl, h0⟩ | ⟨g, cap, cur, rfl, hb, _⟩
                · omega
                · exact ⟨g, cap, hb, rfl⟩
              subst hv
              have hg4 : g < w4.heap.size := (hlt g rfl).2
              have V0 : Hid (WordsAt w4 g 0 hs) := by
                intro j hj
                rw [Nat.zero_add]
                have h := hown.cellAt j (by rw [H8.out] at hj; omega)
                rw [h]
                simp [hj]
              have Z0 : Hid (∀ o, o < 8 → w4.frozen? ⟨g, o, none⟩ = false) := fun o ho => hown.frozenAt o
              have B4 : Hid (Below (w.heap.size + 1) wr w4) := ((Below.refl _ wr).alloc (by omega) _).grown hgrow (by simp; omega) (fun r e => by simp only [Value.ownBlock, Option.some.injEq] at e; omega)
              clear hown hgrow hnil hlt hnl hnews hone
              go_wp2_with fail
              obtain ⟨W3, hW3⟩ : ∃ W3, W3 = wr := ⟨_, rfl⟩
              subst hW3
              go_loopw [12, 13] (fun s12 s13 wx => ∃ (i g c : Nat), s12 = .slice (some ⟨g, 0, none⟩) 8 c ∧ s13 = .int .i64 i ∧ i ≤ 64 ∧ w.heap.size + 1 ≤ g ∧ g < wx.heap.size ∧ Hid (WordsAt wx g 0 (roundsN ks (sched bs) i 0 hs) ∧ (∀ o, o < 8 → wx.frozen? ⟨g, o, none⟩ = false) ∧ Below (w.heap.size + 1) W3 wx)) (fun _ s _ => 64 - (intOf s).toNat)
              case atStart => exact ⟨0, g, c4, rfl, rfl, by omega, hgc, hg4, V0.out, Z0.out, B4.out⟩
              case round =>
                clear V0 Z0 B4 hg4 hgc
                obtain ⟨i, gv, cv, rfl, rfl, hi64, hgz, hgw, HI⟩ := hrel
                by_cases hlt : i < 64
                · as_aux_lemma =>
                    obtain ⟨hvw, hv8⟩ := roundsN_words ks (sched bs) i 0 hs HHW.out H8.out
                    have HV8 := hid hv8
                    have rr : ∀ j, j < 8 → wr.cell? ⟨gv, j, none⟩ = some (.int .u32 (((roundsN ks (sched bs) i 0 hs).getD j 0 : Nat) : Int)) := fun j hj => by have h := HI.out.1 j (by rw [hv8]; exact hj); rw [Nat.zero_add] at h; exact h
                    have HR : Hid (roundsN ks (sched bs) (i + 1) 0 hs = round1 (roundsN ks (sched bs) i 0 hs) (ks.getD i 0) ((sched bs).getD i 0)) := by
                      have h := roundsN_snoc ks (sched bs) i 0 hs
                      rw [Nat.zero_add] at h
                      exact h
                    obtain ⟨v, hv⟩ : ∃ v, roundsN ks (sched bs) i 0 hs = v := ⟨_, rfl⟩
                    rw [hv] at rr HR hvw
                    have r0 := rr 0 (by omega)
                    have r1 := rr 1 (by omega)
                    have r2 := rr 2 (by omega)
                    have r3 := rr 3 (by omega)
                    have r4 := rr 4 (by omega)
                    have r5 := rr 5 (by omega)
                    have r6 := rr 6 (by omega)
                    have r7 := rr 7 (by omega)
                    have l0 := hvw.getD 0
                    have l1 := hvw.getD 1
                    have l2 := hvw.getD 2
                    have l3 := hvw.getD 3
                    have l4 := hvw.getD 4
                    have l5 := hvw.getD 5
                    have l6 := hvw.getD 6
                    have l7 := hvw.getD 7
                    have dk : wr.cell? ⟨gk, ok + i, none⟩ = some (.int .u32 ((ks.getD i 0 : Nat) : Int)) := (HI.out.2.2.cell (p := ⟨gk, ok + i, none⟩) (by show gk < w.heap.size + 1; omega)).trans ((BW.out.cell (p := ⟨gk, ok + i, none⟩) lk).trans (HK.out i (by rw [HK64.out]; exact hlt)))
                    have dw : wr.cell? ⟨w.heap.size, i, none⟩ = some (.int .u32 (((sched bs).getD i 0 : Nat) : Int)) := (HI.out.2.2.cell (p := ⟨w.heap.size, i, none⟩) (by simp)).trans (by have h := RW.out i (by rw [sched_length]; exact hlt); rw [Nat.zero_add] at h; exact h)
                    have lkk := HKW.out.getD i
                    have lww := (sched_words HBW.out).getD i
                    clear rr hvw hv8 hv
                    have HR2 : Hid (round1 v (ks.getD i 0) ((sched bs).getD i 0) = [((v.getD 7 0 + Sig1 (v.getD 4 0) + cho (v.getD 4 0) (v.getD 5 0) (v.getD 6 0) + ks.getD i 0 + (sched bs).getD i 0) % 4294967296 + (Sig0 (v.getD 0 0) + maj (v.getD 0 0) (v.getD 1 0) (v.getD 2 0)) % 4294967296) % 4294967296, v.getD 0 0, v.getD 1 0, v.getD 2 0, (v.getD 3 0 + (v.getD 7 0 + Sig1 (v.getD 4 0) + cho (v.getD 4 0) (v.getD 5 0) (v.getD 6 0) + ks.getD i 0 + (sched bs).getD i 0) % 4294967296) % 4294967296, v.getD 4 0, v.getD 5 0, v.getD 6 0]) := rfl
                    generalize v.getD 0 0 = v0 at *
                    generalize v.getD 1 0 = v1 at *
                    generalize v.getD 2 0 = v2 at *
                    generalize v.getD 3 0 = v3 at *
                    generalize v.getD 4 0 = v4 at *
                    generalize v.getD 5 0 = v5 at *
                    generalize v.getD 6 0 = v6 at *
                    generalize v.getD 7 0 = v7 at *
                    have HRK : Hid (roundsN ks (sched bs) (i + 1) 0 hs = round1 v (ks.getD i 0) ((sched bs).getD i 0)) := HR
                    rw [Hid, HR2.out] at HRK
                    have HRF := hid HRK
                    clear HR HR2 HRK
                    generalize ks.getD i 0 = kk at *
                    generalize (sched bs).getD i 0 = ww at *
                    have T1 : Hid (∀ w, Calls Try.prog 40 #[.int .u32 (v4 : Int), .int .u64 6] w fun e w' => e = .returned (.int .u32 (rot v4 6 : Nat)) ∧ w' = w) := fun w => turn_any v4 6 w l4 (by omega) (by omega)
                    have T2 : Hid (∀ w, Calls Try.prog 40 #[.int .u32 (v4 : Int), .int .u64 11] w fun e w' => e = .returned (.int .u32 (rot v4 11 : Nat)) ∧ w' = w) := fun w => turn_any v4 11 w l4 (by omega) (by omega)
                    have T3 : Hid (∀ w, Calls Try.prog 40 #[.int .u32 (v4 : Int), .int .u64 25] w fun e w' => e = .returned (.int .u32 (rot v4 25 : Nat)) ∧ w' = w) := fun w => turn_any v4 25 w l4 (by omega) (by omega)
                    have hS1 := Sig1_bits v4 l4
                    have hS0 := Sig0_bits v0 l0
                    have hch := cho_bits v4 v5 v6 l4 l5 l6 (not_xor l4)
                    have hmj := maj_bits v0 v1 v2 l0 l1 l2
                    have hlI : (i : Int) < 64 := by omega
                    go_upto_region 16 with fail
                    go_quiet (first | (go_at_call_of 40 (Value.int IntKind.u64 6); exact Calls.quiet_of_same (T1.out _)) | (go_at_call_of 40 (Value.int IntKind.u64 11); exact Calls.quiet_of_same (T2.out _)) | (go_at_call_of 40 (Value.int IntKind.u64 25); exact Calls.quiet_of_same (T3.out _)))
                    obtain ⟨wq, hwq⟩ : ∃ wq, wq = wr.drewN nq := ⟨_, rfl⟩
                    have s0 : wq.cell? ⟨gv, 0, none⟩ = some (.int .u32 (v0 : Int)) := by rw [hwq]; simpa using r0
                    have s1 : wq.cell? ⟨gv, 1, none⟩ = some (.int .u32 (v1 : Int)) := by rw [hwq]; simpa using r1
                    have s2 : wq.cell? ⟨gv, 2, none⟩ = some (.int .u32 (v2 : Int)) := by rw [hwq]; simpa using r2
                    have s3 : wq.cell? ⟨gv, 3, none⟩ = some (.int .u32 (v3 : Int)) := by rw [hwq]; simpa using r3
                    have s4 : wq.cell? ⟨gv, 4, none⟩ = some (.int .u32 (v4 : Int)) := by rw [hwq]; simpa using r4
                    have s5 : wq.cell? ⟨gv, 5, none⟩ = some (.int .u32 (v5 : Int)) := by rw [hwq]; simpa using r5
                    have s6 : wq.cell? ⟨gv, 6, none⟩ = some (.int .u32 (v6 : Int)) := by rw [hwq]; simpa using r6
                    rw [← hwq]
                    have HWQ := hid hwq
                    clear hwq r0 r1 r2 r3 r4 r5 r6 r7 dk dw T1 T2 T3
                    have T4 : Hid (∀ w, Calls Try.prog 40 #[.int .u32 (v0 : Int), .int .u64 2] w fun e w' => e = .returned (.int .u32 (rot v0 2 : Nat)) ∧ w' = w) := fun w => turn_any v0 2 w l0 (by omega) (by omega)
                    have T5 : Hid (∀ w, Calls Try.prog 40 #[.int .u32 (v0 : Int), .int .u64 13] w fun e w' => e = .returned (.int .u32 (rot v0 13 : Nat)) ∧ w' = w) := fun w => turn_any v0 13 w l0 (by omega) (by omega)
                    have T6 : Hid (∀ w, Calls Try.prog 40 #[.int .u32 (v0 : Int), .int .u64 22] w fun e w' => e = .returned (.int .u32 (rot v0 22 : Nat)) ∧ w' = w) := fun w => turn_any v0 22 w l0 (by omega) (by omega)
                    go_upto_region 17 with fail
                    go_quiet (first | (go_at_call_of 40 (Value.int IntKind.u64 2); exact Calls.quiet_of_same (T4.out _)) | (go_at_call_of 40 (Value.int IntKind.u64 13); exact Calls.quiet_of_same (T5.out _)) | (go_at_call_of 40 (Value.int IntKind.u64 22); exact Calls.quiet_of_same (T6.out _)))
                    obtain ⟨wp, hwp⟩ : ∃ wp, wp = wq.drewN nq := ⟨_, rfl⟩
                    have z0 : wp.cell? ⟨gv, 0, none⟩ = some (.int .u32 (v0 : Int)) := by rw [hwp]; simpa using s0
                    have z1 : wp.cell? ⟨gv, 1, none⟩ = some (.int .u32 (v1 : Int)) := by rw [hwp]; simpa using s1
                    have z2 : wp.cell? ⟨gv, 2, none⟩ = some (.int .u32 (v2 : Int)) := by rw [hwp]; simpa using s2
                    have z3 : wp.cell? ⟨gv, 3, none⟩ = some (.int .u32 (v3 : Int)) := by rw [hwp]; simpa using s3
                    have z4 : wp.cell? ⟨gv, 4, none⟩ = some (.int .u32 (v4 : Int)) := by rw [hwp]; simpa using s4
                    have z5 : wp.cell? ⟨gv, 5, none⟩ = some (.int .u32 (v5 : Int)) := by rw [hwp]; simpa using s5
                    have z6 : wp.cell? ⟨gv, 6, none⟩ = some (.int .u32 (v6 : Int)) := by rw [hwp]; simpa using s6
                    have hgp : gv < wp.heap.size := by rw [hwp, HWQ.out]; simpa using hgw
                    have HWP : Hid (Below (w.heap.size + 1) W3 wp) := by
                      rw [Hid, hwp, HWQ.out]
                      exact below_drewN (below_drewN HI.out.2.2 _) _
                    rw [← hwp]
                    clear hwp HWQ s0 s1 s2 s3 s4 s5 s6 T4 T5 T6 hS1 hS0 hch hmj
                    go_upto_region 18 with fail
                    obtain ⟨X, hX⟩ : ∃ X, (v7 + Sig1 v4 + cho v4 v5 v6 + kk + ww) % 4294967296 = X := ⟨_, rfl⟩
                    obtain ⟨Y, hY⟩ : ∃ Y, (Sig0 v0 + maj v0 v1 v2) % 4294967296 = Y := ⟨_, rfl⟩
                    have hXI : (((v7 : Int) + (Sig1 v4 : Nat) + (cho v4 v5 v6 : Nat) + (kk : Nat)) % 4294967296 + (ww : Nat)) % 4294967296 = (X : Int) := by omega
                    have hYI : (((Sig0 v0 : Nat) : Int) + (maj v0 v1 v2 : Nat)) % 4294967296 = (Y : Int) := by omega
                    have hXl : X < 4294967296 := by omega
                    have hYl : Y < 4294967296 := by omega
                    rw [hX, hY] at HRF
                    rw [hXI, hYI]
                    clear hX hY hXI hYI lkk lww l7
                    refine r18 z0 z1 z2 z3 z4 z5 z6 hgp ?_
                    go_wp2_with fail
                    have e1 : ((X : Int) + (Y : Int)) % 4294967296 = (((X + Y) % 4294967296 : Nat) : Int) := by omega
                    have e2 : ((v3 : Int) + (X : Int)) % 4294967296 = (((v3 + X) % 4294967296 : Nat) : Int) := by omega
                    rw [e1, e2]
                    refine ⟨⟨i + 1, wp.heap.size, 8, rfl, rfl, by omega, by omega, by simp, ?_, ?_, ?_⟩, by simp [intOf]; omega⟩
                    · rw [HRF.out]
                      exact WordsAt.of_block (t := 53) (heap_alloc_new wp (.cells (u32s [(X + Y) % 4294967296, v0, v1, v2, (v3 + X) % 4294967296, v4, v5, v6]).toArray 53))
                    · intro o _
                      exact frozen_of_row _ _ _ _ 53 (heap_alloc_new wp (.cells (u32s [(X + Y) % 4294967296, v0, v1, v2, (v3 + X) % 4294967296, v4, v5, v6]).toArray 53))
                    · exact (HWP.out.alloc (by omega) _).drew
                · have hi : i = 64 := by omega
                  subst hi
                  clear hlt hi64
                  go_wp2_with fail
                  as_aux_lemma =>
                    have hv8 := (roundsN_words ks (sched bs) 64 0 hs HHW.out H8.out).2
                    obtain ⟨v, hv⟩ : ∃ v, roundsN ks (sched bs) 64 0 hs = v := ⟨_, rfl⟩
                    rw [hv] at HI hv8
                    have HV8 := hid hv8
                    have HVV := hid hv
                    clear hv hv8
                    have HH3 : Hid (∀ wx, Below (w.heap.size + 1) W3 wx → ∀ j, j < 8 → wx.cell? ⟨gh, oh + j, none⟩ = some (.int .u32 ((hs.getD j 0 : Nat) : Int))) := fun wx hb j hj => (hb.cell (p := ⟨gh, oh + j, none⟩) (by show gh < w.heap.size + 1; omega)).trans ((BW.out.cell (p := ⟨gh, oh + j, none⟩) lh).trans (HH.out j (by rw [H8.out]; exact hj)))
                    go_loopw [16] (fun s wx => ∃ (i : Nat) (row : List Nat), s = .int .i64 i ∧ i ≤ 8 ∧ gv < wx.heap.size ∧ Hid (row.length = 8 ∧ WordsAt wx gv 0 row ∧ (∀ j, j < 8 → row.getD j 0 = if j < i then (v.getD j 0 + hs.getD j 0) % 4294967296 else v.getD j 0) ∧ (∀ o, o < 8 → wx.frozen? ⟨gv, o, none⟩ = false) ∧ Below (w.heap.size + 1) W3 wx)) (fun s _ => 8 - (intOf s).toNat)
                    case atStart => exact ⟨0, v, rfl, by omega, hgw, HV8.out, HI.out.1, fun j hj => by simp, HI.out.2.1, HI.out.2.2⟩
                    case round =>
                      clear HI
                      obtain ⟨i, row, rfl, hi8, hgx, HI⟩ := hrel
                      by_cases hlt : i < 8
                      · have d0 := HI.out.2.1 i (by rw [HI.out.1]; exact hlt)
                        rw [Nat.zero_add] at d0
                        have d1 := HH3.out wr HI.out.2.2.2.2 i hlt
                        have hfz := HI.out.2.2.2.1 i hlt
                        have HR : Hid (row.getD i 0 = v.getD i 0) := by
                          have h := HI.out.2.2.1 i hlt
                          rw [if_neg (Nat.lt_irrefl _)] at h
                          exact h
                        have HSET := hid (fun x => HI.out.2.1.set i x (by rw [HI.out.1]; exact hlt))
                        obtain ⟨a, ha⟩ : ∃ a, row.getD i 0 = a := ⟨_, rfl⟩
                        obtain ⟨b, hb⟩ : ∃ b, hs.getD i 0 = b := ⟨_, rfl⟩
                        rw [ha] at d0 HR
                        rw [hb] at d1
                        have HBB := hid hb
                        clear ha hb
                        have hlI : (i : Int) < 8 := by omega
                        have h0I : (0 : Int) ≤ (i : Int) := by omega
                        go_wp2_with fail
                        go_region
                        go_wp2_with fail
                        have e1 : ((a : Int) + (b : Int)) % 4294967296 = (((a + b) % 4294967296 : Nat) : Int) := by omega
                        rw [e1]
                        refine ⟨⟨i + 1, row.set i ((a + b) % 4294967296), rfl, by omega, by simpa using hgx, by rw [List.length_set]; exact HI.out.1, ?_, ?_, ?_, ?_⟩, by simp [intOf]; omega⟩
                        · have h := HSET.out ((a + b) % 4294967296)
                          rw [Nat.zero_add] at h
                          exact h
                        · intro j hj
                          rw [getD_set _ _ _ _ (by rw [HI.out.1]; exact hlt)]
                          by_cases e : j = i
                          · subst e
                            rw [if_pos rfl, if_pos (by omega), HBB.out, ← HR.out]
                          · rw [if_neg e, HI.out.2.2.1 j hj]
                            by_cases h2 : j < i
                            · rw [if_pos h2, if_pos (by omega)]
                            · rw [if_neg h2, if_neg (by omega)]
                        · intro o ho
                          have h := HI.out.2.2.2.1 o ho
                          simpa using h
                        · exact (HI.out.2.2.2.2.setCell (by show w.heap.size + 1 ≤ gv; exact hgz) _).drew
                      · have hi : i = 8 := by omega
                        subst hi
                        have HROW : Hid (row = addW v hs) := by
                          rw [Hid]
                          apply List.ext_getElem (by rw [HI.out.1, addW_length])
                          intro j h1 h2
                          have hj : j < 8 := by rw [HI.out.1] at h1; exact h1
                          have h := HI.out.2.2.1 j hj
                          rw [if_pos hj, List.getD_eq_getElem?_getD, List.getElem?_eq_getElem h1] at h
                          simp only [Option.getD_some] at h
                          rw [h]
                          simp [addW]
                        go_wp2_with fail
                        go_ret
                        refine ⟨gv, cv, rfl, by omega, hgx, ?_, BW.out.trans (HI.out.2.2.2.2.mono (by omega))⟩
                        rw [HVV.out, ← HROW.out]
                        exact HI.out.2.1

end Go.Proofs.Ytbmdnjmdehmahaa
