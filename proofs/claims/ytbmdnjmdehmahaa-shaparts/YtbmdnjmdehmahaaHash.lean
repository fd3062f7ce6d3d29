/-
  A state as a hash: hash, walked.
-/
import Derived.Test.YtbmdnjmdehmahaaRound
namespace Go.Proofs.Ytbmdnjmdehmahaa
open Go.RowKit

/-- A state's bytes, each word's highest first. -/
def hashOf (st : List Nat) : List Nat := (List.range 32).map fun i => st.getD (i / 4) 0 >>> (24 - i % 4 * 8) % 256
theorem hashOf_length (st : List Nat) : (hashOf st).length = 32 := by simp [hashOf]
theorem hashOf_lt (st : List Nat) : ∀ x ∈ hashOf st, x < 256 := by
  intro x hx
  obtain ⟨i, _, rfl⟩ := List.mem_map.1 hx
  exact Nat.mod_lt _ (by decide)
theorem hashOf_at (st : List Nat) (i : Nat) (h : i < 32) : (hashOf st).getD i 0 = st.getD (i / 4) 0 >>> (24 - i % 4 * 8) % 256 := by
  rw [hashOf, List.getD_eq_getElem?_getD]
  simp [h]
theorem sha_hash (b : List Nat) : sha b = hashOf (blks (nblk b.length) first8 (padded b)) := rfl

theorem z32 : (#[.int .u8 0, .int .u8 0, .int .u8 0, .int .u8 0, .int .u8 0, .int .u8 0, .int .u8 0, .int .u8 0, .int .u8 0, .int .u8 0, .int .u8 0, .int .u8 0, .int .u8 0, .int .u8 0, .int .u8 0, .int .u8 0, .int .u8 0, .int .u8 0, .int .u8 0, .int .u8 0, .int .u8 0, .int .u8 0, .int .u8 0, .int .u8 0, .int .u8 0, .int .u8 0, .int .u8 0, .int .u8 0, .int .u8 0, .int .u8 0, .int .u8 0, .int .u8 0] : Array Value) = (u8s (List.replicate 32 0)).toArray := rfl

set_option maxHeartbeats 1000000 in
set_option maxRecDepth 100000 in
theorem hash_any (st : List Nat) (w : World) (hs8 : st.length = 8) (hsw : Words st) :
    Calls Try.prog 33 #[.agg (u32s st).toArray] w fun e w' => e = .returned (.agg (u8s (hashOf st)).toArray) ∧ Below w.heap.size w w' := by
  have HS8 := hid hs8
  have HSW := hid hsw
  clear hs8 hsw
  obtain ⟨cs, hcs⟩ : ∃ cs, u32s st = cs := ⟨_, rfl⟩
  have HCS := hid hcs
  rw [hcs]
  clear hcs
  go_enter Try.func33, Try.ntmps33
  go_wp2_with fail
  rw [z32]
  obtain ⟨W1, hW1⟩ : ∃ W1, W1 = ((w.alloc (.cells cs.toArray 63)).alloc (.cells (u8s (List.replicate 32 0)).toArray 30)).alloc (.cells (u8s (List.replicate 32 0)).toArray 30) := ⟨_, rfl⟩
  rw [← hW1]
  have HA : Hid (WordsAt W1 w.heap.size 0 st) := by
    have h : W1.heap[w.heap.size]? = some (.cells cs.toArray 63) := by
      rw [hW1, heap_alloc_old _ _ (by simp; omega)]
      exact heap_alloc2_old _ _ _
    rw [← HCS.out] at h
    exact WordsAt.of_block h
  have HT : Hid (W1.there (w.heap.size + 1) 0 32) := by
    have h : W1.heap[w.heap.size + 1]? = some (.cells (u8s (List.replicate 32 0)).toArray 30) := by
      rw [hW1, heap_alloc_old _ _ (by simp)]
      exact heap_alloc2_new _ _ _
    exact there_of_block h 0 32 (by decide)
  have HM : Hid (BytesAt W1 (w.heap.size + 2) 0 (List.replicate 32 0) ∧ ∀ j, W1.frozen? ⟨w.heap.size + 2, j, none⟩ = false) := by
    have h : W1.heap[w.heap.size + 2]? = some (.cells (u8s (List.replicate 32 0)).toArray 30) := by
      have h := heap_alloc_new ((w.alloc (.cells cs.toArray 63)).alloc (.cells (u8s (List.replicate 32 0)).toArray 30)) (.cells (u8s (List.replicate 32 0)).toArray 30)
      rw [← hW1] at h
      simpa using h
    exact ⟨BytesAt.of_block h, fun j => frozen_of_row _ _ _ _ _ h⟩
  have HB : Hid (Below w.heap.size w W1) := by rw [Hid, hW1]; exact (((Below.refl _ _).alloc (Nat.le_refl _) _).alloc (by simp) _).alloc (by simp; omega) _
  clear hW1
  go_loopw [5] (fun s wr => ∃ (i : Nat) (row : List Nat), s = .int .i64 i ∧ i ≤ 32 ∧ Hid (row.length = 32 ∧ BytesAt wr (w.heap.size + 2) 0 row ∧ (∀ j, j < i → row.getD j 0 = (hashOf st).getD j 0) ∧ (∀ j, wr.frozen? ⟨w.heap.size + 2, j, none⟩ = false) ∧ wr.there (w.heap.size + 1) 0 32 ∧ WordsAt wr w.heap.size 0 st ∧ Below w.heap.size w wr)) (fun s _ => 32 - (intOf s).toNat)
  case atStart => exact ⟨0, _, rfl, by omega, by simp, HM.out.1, by omega, HM.out.2, HT.out, HA.out, HB.out⟩
  case round =>
    obtain ⟨i, row, rfl, hi, HI⟩ := hrel
    by_cases hlt : i < 32
    · as_aux_lemma =>
        have d0 := HI.out.2.2.2.2.2.1 (i / 4) (by rw [HS8.out]; omega)
        have d1 := HI.out.2.1 i (by rw [HI.out.1]; exact hlt)
        rw [Nat.zero_add] at d0 d1
        have hfz := HI.out.2.2.2.1 i
        have l0 := HSW.out.getD (i / 4)
        have HV := hid (hashOf_at st i hlt)
        generalize st.getD (i / 4) 0 = x at *
        have hltI : (i : Int) < 32 := by omega
        have h0I : (0 : Int) ≤ (i : Int) := by omega
        have q4 : ((i : Int) / 4).toNat = i / 4 := by omega
        have q4a : (0 : Int) ≤ (i : Int) / 4 := by omega
        have q4b : (i : Int) / 4 < 8 := by omega
        go_wp2_with fail
        go_roundw
        case rel =>
          obtain ⟨V, hV⟩ : ∃ V, x >>> (24 - i % 4 * 8) % 256 = V := ⟨_, rfl⟩
          rw [hV] at HV
          have hVI : (x : Int) / 2 ^ (24 - i % 4 * 8) % 256 = ((V : Nat) : Int) := by
            rw [← hV, Nat.shiftRight_eq_div_pow]
            simp
          rw [hVI]
          have hk1 : Kp [w.heap.size + 2] wr (wr.setCell ⟨w.heap.size + 2, i, none⟩ (.int .u8 ((V : Nat) : Int))) := (Kp.refl _ _).setCell (p := ⟨w.heap.size + 2, i, none⟩) (.inl (by simp)) _
          refine ⟨i + 1, row.set i V, by go_num, by omega, by rw [List.length_set]; exact HI.out.1, ?_, ?_, ?_, ?_, ?_, ?_⟩
          · have h := HI.out.2.1.set i V (by rw [HI.out.1]; exact hlt)
            rw [Nat.zero_add] at h
            exact h
          · intro j hj
            rw [getD_set _ _ _ _ (by rw [HI.out.1]; exact hlt)]
            by_cases e : j = i
            · rw [if_pos e, e, HV.out]
            · rw [if_neg e]
              exact HI.out.2.2.1 j (by omega)
          · intro j
            rw [World.frozen?_setCell]
            exact HI.out.2.2.2.1 j
          · intro j hj
            have h := HI.out.2.2.2.2.1 j hj
            exact ⟨by rw [World.cell?_setCell_other _ _ _ _ (by simp)]; exact h.1, by rw [World.frozen?_setCell]; exact h.2⟩
          · exact hk1.words HI.out.2.2.2.2.2.1 (block_lt_of_cell (HI.out.2.2.2.2.2.1 0 (by rw [HS8.out]; decide))) (by simp)
          · exact HI.out.2.2.2.2.2.2.setCell (by show w.heap.size ≤ w.heap.size + 1 + 1; omega) _
        case measure => simp [intOf]; omega
    · have HRW : Hid (row = hashOf st) := by
        rw [Hid]
        apply List.ext_getElem?
        intro j
        by_cases hj : j < 32
        · have h := HI.out.2.2.1 j (by omega)
          rw [List.getD_eq_getElem?_getD, List.getD_eq_getElem?_getD, List.getElem?_eq_getElem (by rw [HI.out.1]; exact hj), List.getElem?_eq_getElem (by rw [hashOf_length]; exact hj)] at h
          rw [List.getElem?_eq_getElem (by rw [HI.out.1]; exact hj), List.getElem?_eq_getElem (by rw [hashOf_length]; exact hj)]
          simpa using h
        · rw [List.getElem?_eq_none (by rw [HI.out.1]; omega), List.getElem?_eq_none (by rw [hashOf_length]; omega)]
      have HBL : Hid ((u8s row).length = 32) := by rw [Hid, u8s_length]; exact HI.out.1
      have HRG : Hid (wr.rangeAt (w.heap.size + 1 + 1) 0 (u8s row)) := HI.out.2.1.range
      have hi8 : Hid ((Try.prog.info? 30).map (·.size) = some (u8s row).length) := by rw [Hid, HBL.out]; exact Try.info30
      have HI2 : Hid ((Try.prog.info? 30).map (·.size) = some (u8s row).toArray.size) := by rw [Hid, List.size_toArray]; exact hi8.out
      have HTT : Hid (wr.there (w.heap.size + 1) 0 (u8s row).toArray.size) := by
        have e : (u8s row).toArray.size = 32 := by rw [List.size_toArray, HBL.out]
        rw [Hid, e]
        exact HI.out.2.2.2.2.1
      have H1c : Hid ((u8s row).toArray.all (·.oneCell') = true) := all_oneCell_toArray (u8s_one _)
      have HBX := hid HI.out.2.2.2.2.2.2
      have HU : Hid (u8s row = u8s (hashOf st)) := by rw [Hid, HRW.out]
      clear HI HM HT HA HB HRW
      obtain ⟨ds, hds⟩ : ∃ ds, u8s row = ds := ⟨_, rfl⟩
      rw [hds] at HBL HRG hi8 HI2 HTT H1c HU
      clear hds
      go_wp2_with (first | (refine wpList_load_mid (by rfl) 30 _ (by rfl) (w.heap.size + 1 + 1) 0 (by rfl) ds _ ?hc Try.underlying30 rfl hi8.out ?_; (case hc => exact HRG.out)) | (refine wpList_store_mid (by rfl) 30 _ _ (by rfl) (w.heap.size + 1) 0 ds.toArray (by rfl) (by rfl) ?ht HI2.out H1c.out ?_; (case ht => exact HTT.out)))
      have hr : World.rangeAt (wr.setCells (w.heap.size + 1) 0 ds) (w.heap.size + 1) 0 ds := World.rangeAt_setCells_same _ _ _ _ (by have h := HTT.out; rwa [List.size_toArray] at h)
      refine bodyPost_ret (v := .agg ds.toArray) ?_ rfl ⟨by rw [HU.out], ?_⟩
      · exact results_cell_mid Try.results33 _ _ (w.heap.size + 1) 0 _ _ rfl hr Try.underlying30 rfl hi8.out
      · exact ((Kp.below (l := []) HBX.out).setCells (.inr (by omega)) _ _).toBelow (by simp)
end Go.Proofs.Ytbmdnjmdehmahaa
