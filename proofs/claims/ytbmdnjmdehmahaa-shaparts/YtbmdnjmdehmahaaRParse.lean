/-
  The reference's Parse, walked.
-/
import Derived.Test.YtbmdnjmdehmahaaRParseR
namespace Go.Proofs.Ytbmdnjmdehmahaa
open Go.RowKit

theorem PRows.drew {w wr : World} {ps : List Nat} (h : PRows w wr ps) : PRows w wr.drew ps := by
  obtain ⟨h1, h2, h3, h4, h5⟩ := h
  exact ⟨h1, h2, h3, h4.drew, h5⟩

set_option maxHeartbeats 1000000 in
set_option maxRecDepth 100000 in
theorem rparse_any (s : ByteArray) (w : World) :
    Calls Try.prog 19 #[.string s] w fun e w' => e = .returned (.tuple #[.agg (u8s (parseOf s).1).toArray, .int .i64 (parseOf s).2]) ∧ Below w.heap.size w w' := by
  have hix := sidx s
  have HIX := hid hix
  clear hix
  have HZ : Hid ((u8s (List.replicate 32 0)).length = 32) := by rw [Hid, u8s_length]; rfl
  have HI2 : Hid ((Try.prog.info? 30).map (·.size) = some (u8s (List.replicate 32 0)).toArray.size) := by rw [Hid, List.size_toArray, HZ.out]; exact Try.info30
  have H1c : Hid ((u8s (List.replicate 32 0)).toArray.all (·.oneCell') = true) := all_oneCell_toArray (u8s_one _)
  by_cases h64 : s.size = 64
  · have hd : decide ((s.size : Int) = 64) = true := by simp; omega
    have HR := hid (prows_new w)
    have H64 := hid h64
    go_enter Try.func19, Try.ntmps19
    go_wp2_with fail
    rw [z32]
    obtain ⟨W1, hW1⟩ : ∃ W1, (w.alloc (.cells (u8s (List.replicate 32 0)).toArray 30)).alloc (.cells (u8s (List.replicate 32 0)).toArray 30) = W1 := ⟨_, rfl⟩
    rw [hW1] at HR ⊢
    clear hW1 h64 hd
    go_loopw [5] (fun x wr => ∃ i : Nat, x = .int .i64 i ∧ i ≤ 64 ∧ Hid ((∀ j, j < i → dgt (byt s j) < 16) ∧ PRows w wr (pk (fun j => dgt (byt s j)) i))) (fun x _ => 64 - (intOf x).toNat)
    case atStart => exact ⟨0, rfl, by omega, by omega, HR.out⟩
    case round =>
      obtain ⟨i, rfl, hi, HI⟩ := hrel
      by_cases hlt : i < 64
      · have hix := HIX.out i (by rw [H64.out]; exact hlt)
        have hltI : (i : Int) < 64 := by omega
        have hbl := byt_lt s i
        have HN := hid (pk_next (fun j => dgt (byt s j)) i)
        have HPB := hid (parse_bad (s := s) i hlt)
        have HDG : Hid (∀ j, j < i + 1 → j = i ∨ j < i) := fun j hj => by omega
        obtain ⟨c, hc⟩ : ∃ c, byt s i = c := ⟨_, rfl⟩
        have HC := hid hc
        rw [hc] at hix hbl HPB
        simp only [hc] at HN
        clear hc
        go_wp2_with fail
        refine (rdigit_walk c hbl _ rfl wr).mono ?_
        rintro e w2 ⟨rfl, hw2⟩
        subst w2
        have HDW := hid (rdigit_walk c hbl)
        by_cases hdg : dgt c < 16
        · rw [if_pos hdg]
          have HXB := hid (getD_lt (pk_lt (fun j => dgt (byt s j)) i) (i / 2))
          have c1 := HI.out.2.1 (i / 2) (by rw [pk_length]; omega)
          rw [Nat.zero_add] at c1
          have f1 := HI.out.2.2.1 (i / 2)
          generalize (pk (fun j => dgt (byt s j)) i).getD (i / 2) 0 = x at *
          have HDC : Hid (dgt (byt s i) < 16) := by rw [Hid, HC.out]; exact hdg
          have hD2 : Hid (∀ w, Calls Try.prog 36 #[.int .u8 (c : Int)] w fun e w' => e = .returned (.int .i64 (dgt c : Nat)) ∧ w' = w) := fun w => HDW.out _ (by rw [Hid, if_pos hdg]) w
          clear HDW
          obtain ⟨d, hd⟩ : ∃ d, dgt c = d := ⟨_, rfl⟩
          rw [hd] at hdg HN hD2 ⊢
          clear hd
          obtain ⟨J, hJ⟩ : ∃ J, i / 2 = J := ⟨_, rfl⟩
          have hJl : J < 32 := by omega
          have hJi : (i : Int) / 2 = (J : Int) := by omega
          have hJlI : (J : Int) < 32 := by omega
          have hJ0 : (0 : Int) ≤ (J : Int) := by omega
          have HJ := hid hJ
          rw [hJ] at c1 f1 HN
          clear hJ
          have h0I : (0 : Int) ≤ (i : Int) := by omega
          go_wp2_with fail
          refine rparse_region (g := w.heap.size + 1) (i := i) (J := J) (x := x) (c := c) (d := d) c1 f1 h0I hJi hJl hix hD2.out ?_
          intro v20 v21 v22 v23 v24 v25 v26 v27 v28 v29 v30 v31 v32 v33
          go_wp2_with fail
          refine ⟨⟨i + 1, rfl, by omega, fun j hj => ?_, ?_⟩, by simp [intOf]; omega⟩
          · rcases HDG.out j hj with rfl | h
            · exact HDC.out
            · exact HI.out.1 j h
          · rw [HN.out]
            exact (HI.out.2.set J _ (by rw [pk_length]; omega)).drew
        · rw [if_neg hdg]
          have HPX := hid (HPB.out hdg)
          go_wp2_with (refine wpList_store_mid (by rfl) 30 _ _ (by rfl) w.heap.size 0 (u8s (List.replicate 32 0)).toArray (by rfl) (by rfl) ?ht HI2.out H1c.out ?_; (case ht => exact HI.out.2.2.2.1))
          refine bodyPost_ret (v := .tuple #[.agg (u8s (List.replicate 32 0)).toArray, .int .i64 3]) ?_ rfl ⟨by rw [HPX.out], ?_⟩
          · exact results_cell_mid2 Try.results19 _ _ w.heap.size 0 _ _ rfl (HI.out.2.back _ HZ.out) Try.underlying30 rfl (by rw [HZ.out]; exact Try.info30)
          · exact HI.out.2.end _
      · have hi64 : i = 64 := by omega
        subst hi64
        have HPX := hid (parse_good (s := s) H64.out HI.out.1)
        obtain ⟨P, hP⟩ : ∃ P, pk (fun j => dgt (byt s j)) 64 = P := ⟨_, rfl⟩
        have HPL : Hid ((u8s P).length = 32) := by rw [Hid, u8s_length, ← hP, pk_length]
        rw [hP] at HI HPX
        clear hP
        have HRG : Hid (wr.rangeAt (w.heap.size + 1) 0 (u8s P)) := HI.out.2.1.range
        have HIP : Hid ((Try.prog.info? 30).map (·.size) = some (u8s P).length) := by rw [Hid, HPL.out]; exact Try.info30
        have HIP2 : Hid ((Try.prog.info? 30).map (·.size) = some (u8s P).toArray.size) := by rw [Hid, List.size_toArray]; exact HIP.out
        have H1p : Hid ((u8s P).toArray.all (·.oneCell') = true) := all_oneCell_toArray (u8s_one _)
        have HTT : Hid (wr.there w.heap.size 0 (u8s P).toArray.size) := by
          have e : (u8s P).toArray.size = 32 := by rw [List.size_toArray, HPL.out]
          rw [Hid, e]
          exact HI.out.2.2.2.1
        go_wp2_with (first | (refine wpList_load_mid (by rfl) 30 _ (by rfl) (w.heap.size + 1) 0 (by rfl) (u8s P) _ ?hc Try.underlying30 rfl HIP.out ?_; (case hc => exact HRG.out)) | (refine wpList_store_mid (by rfl) 30 _ _ (by rfl) w.heap.size 0 (u8s P).toArray (by rfl) (by rfl) ?ht HIP2.out H1p.out ?_; (case ht => exact HTT.out)))
        refine bodyPost_ret (v := .tuple #[.agg (u8s P).toArray, .int .i64 0]) ?_ rfl ⟨by rw [HPX.out], ?_⟩
        · exact results_cell_mid2 Try.results19 _ _ w.heap.size 0 _ _ rfl (HI.out.2.back _ HPL.out) Try.underlying30 rfl HIP.out
        · exact HI.out.2.end _
  · have HP := hid (parse_long h64)
    have HR := hid (prows_new w)
    have hd : decide ((s.size : Int) = 64) = false := by simp; omega
    go_enter Try.func19, Try.ntmps19
    have HIZ : Hid ((Try.prog.info? 30).map (·.size) = some (u8s (List.replicate 32 0)).length) := by rw [Hid, HZ.out]; exact Try.info30
    go_wp2_with (first | (refine wpList_load_mid (by rfl) 30 _ (by rfl) (w.heap.size + 1) 0 (by rfl) (u8s (List.replicate 32 0)) _ ?hc Try.underlying30 rfl HIZ.out ?_; (case hc => exact HR.out.1.range)) | (refine wpList_store_mid (by rfl) 30 _ _ (by rfl) w.heap.size 0 (u8s (List.replicate 32 0)).toArray (by rfl) (by rfl) ?ht HI2.out H1c.out ?_; (case ht => exact HR.out.2.2.1)))
    refine bodyPost_ret (v := .tuple #[.agg (u8s (List.replicate 32 0)).toArray, .int .i64 3]) ?_ rfl ⟨by rw [HP.out], ?_⟩
    · exact results_cell_mid2 Try.results19 _ _ w.heap.size 0 _ _ rfl (HR.out.back _ HZ.out) Try.underlying30 rfl (by rw [HZ.out]; exact Try.info30)
    · exact HR.out.end _

end Go.Proofs.Ytbmdnjmdehmahaa
