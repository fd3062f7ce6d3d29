/-
  The reference's first, rounds, Blocks and Sum, walked.
-/
import Derived.Test.YtbmdnjmdehmahaaRPad
namespace Go.Proofs.Ytbmdnjmdehmahaa
open Go.RowKit

set_option maxRecDepth 100000 in
theorem rfirst_any (w : World) :
    Calls Try.prog 24 #[] w fun e w' => e = .returned (.slice (some ⟨w.heap.size, 0, none⟩) 8 8) ∧ w' = w.alloc (.cells (u32s first8).toArray 53) := by
  go_enter Try.func24, Try.ntmps24
  go_wp2_with fail
  go_ret
  exact ⟨rfl, rfl⟩
set_option maxHeartbeats 1000000 in
set_option maxRecDepth 100000 in
theorem rrounds_any (w : World) :
    Calls Try.prog 25 #[] w fun e w' => e = .returned (.slice (some ⟨w.heap.size, 0, none⟩) 64 64) ∧ w' = w.alloc (.cells (u32s words64).toArray 53) := by
  go_enter Try.func25, Try.ntmps25
  go_wp2_with fail
  go_ret
  exact ⟨rfl, rfl⟩
set_option maxRecDepth 100000 in
theorem rblocks_any (n : Nat) (w : World) (hn : n ≤ 1000000) :
    Calls Try.prog 16 #[.int .i64 (n : Int)] w fun e w' => e = .returned (.int .i64 ((nblk n : Nat) : Int)) ∧ w' = w := by
  go_enter Try.func16, Try.ntmps16
  go_wp2_with fail
  go_ret
  refine ⟨?_, rfl⟩
  unfold nblk
  congr 2

/-- What a block makes of eight words. -/
def BlockSays : Prop := ∀ (hs bs : List Nat) (gh oh ch gk ok ck gb obb cb : Nat) (w : World), hs.length = 8 → Words hs → bs.length = 64 → (∀ x ∈ bs, x < 256) → WordsAt w gh oh hs → WordsAt w gk ok words64 → BytesAt w gb obb bs → gh < w.heap.size → gk < w.heap.size → gb < w.heap.size →
  Calls Try.prog 27 #[.slice (some ⟨gh, oh, none⟩) 8 ch, .slice (some ⟨gk, ok, none⟩) 64 ck, .slice (some ⟨gb, obb, none⟩) 64 cb] w fun e w' => ∃ g c, e = .returned (.slice (some ⟨g, 0, none⟩) 8 c) ∧ w.heap.size ≤ g ∧ g < w'.heap.size ∧ WordsAt w' g 0 (blk hs bs) ∧ Below w.heap.size w w'

/-- A row of the call's own, that is not empty. -/
theorem OwnB.out {w : World} {base : Nat} {v : Value} {xs : List Nat} (h : OwnB w base v xs) (hne : 0 < xs.length) : ∃ g cap, v = .slice (some ⟨g, 0, none⟩) xs.length cap ∧ xs.length ≤ cap ∧ cap ≤ maxLen ∧ base ≤ g ∧ g < w.heap.size ∧ BytesAt w g 0 xs := by
  have h1 := h
  rcases h.2 with ⟨rfl, h0⟩ | ⟨g, cap, cur, rfl, hg, hh, hn, hc, hs, ht⟩
  · omega
  · refine ⟨g, cap, rfl, hn, hc, hg, (Array.getElem?_eq_some_iff.1 hh).1, fun i hi => ?_⟩
    rw [Nat.zero_add, World.ownsRow.cellAt h1 i (by omega)]
    exact u8s_at xs i hi

theorem padded_lt (bs : List Nat) (h : ∀ x ∈ bs, x < 256) : ∀ x ∈ padded bs, x < 256 := by
  intro x hx
  rcases List.mem_append.1 hx with h1 | h1
  · exact h x h1
  · rcases List.mem_cons.1 h1 with rfl | h1
    · decide
    · rcases List.mem_append.1 h1 with h1 | h1
      · obtain ⟨_, rfl⟩ := List.mem_replicate.1 h1
        decide
      · obtain ⟨i, _, rfl⟩ := List.mem_map.1 h1
        exact Nat.mod_lt _ (by decide)
/-- The bytes of one block. -/
theorem piece_at {w : World} {g : Nat} {xs : List Nat} (h : BytesAt w g 0 xs) (o n : Nat) (hn : o + n ≤ xs.length) : BytesAt w g o ((xs.drop o).take n) := by
  intro i hi
  have hi' : i < n := by simp at hi; omega
  have := h (o + i) (by omega)
  rw [Nat.zero_add] at this
  rw [this]
  congr 3
  simp [List.getElem?_drop, hi']
theorem blks_snoc (j : Nat) (h b : List Nat) : blks (j + 1) h b = blk (blks j h b) ((b.drop (64 * j)).take 64) := by
  rw [blks_add]
  rfl

set_option maxHeartbeats 4000000 in
set_option maxRecDepth 100000 in
theorem rsum_walk (HC : Hid BlockSays) (a : Option Addr) (cap : Nat) (bs : List Nat) (w : World) (hv : BySl [] w (.slice a bs.length cap) bs) (hl : bs.length ≤ 1000000) :
    Calls Try.prog 10 #[.slice a bs.length cap] w fun e w' => e = .returned (.agg (u8s (sha bs)).toArray) ∧ Below w.heap.size w w' := by
  have hb256 : ∀ x ∈ bs, x < 256 := by obtain ⟨_, _, _, _, _, _, _, h, _⟩ := hv; exact h
  have HPL : Hid ((padded bs).length = 64 * nblk bs.length) := padded_length bs
  have HP256 : Hid (∀ x ∈ padded bs, x < 256) := padded_lt bs hb256
  have HPAD : Hid (∀ W, Below w.heap.size w W → Calls Try.prog 26 #[.slice a bs.length cap] W fun e w' => ∃ v', e = .returned v' ∧ OwnB w' W.heap.size v' (padded bs) ∧ Below W.heap.size W w') := fun W hb => rpad_any a cap bs W (hv.old hb (by simp)) hl
  have HSH : Hid (sha bs = hashOf (blks (nblk bs.length) first8 (padded bs))) := sha_hash bs
  obtain ⟨N, hN⟩ : ∃ N, nblk bs.length = N := ⟨_, rfl⟩
  have hN0 : 0 < N := by rw [← hN]; unfold nblk; omega
  have hN1 : N ≤ 1000000 := by rw [← hN]; unfold nblk; omega
  obtain ⟨P, hP⟩ : ∃ P, padded bs = P := ⟨_, rfl⟩
  obtain ⟨L, hL⟩ : ∃ L, bs.length = L := ⟨_, rfl⟩
  rw [hN] at HPL HSH
  rw [hP] at HPL HP256 HPAD HSH
  rw [hL] at HPAD ⊢
  obtain ⟨R, hR⟩ : ∃ R, u8s (sha bs) = R := ⟨_, rfl⟩
  have HR := hid hR
  rw [hR]
  clear hN hP hL hR hv hl hb256
  go_enter Try.func10, Try.ntmps10
  go_wp2_with fail
  rw [z32]
  obtain ⟨W0, hW0⟩ : ∃ W0, W0 = w.alloc (.cells (u8s (List.replicate 32 0)).toArray 30) := ⟨_, rfl⟩
  have HW0 : Hid (Below w.heap.size w W0 ∧ W0.heap.size = w.heap.size + 1 ∧ W0.there w.heap.size 0 32) := by
    rw [Hid, hW0]
    exact ⟨(Below.refl _ _).alloc (Nat.le_refl _) _, by simp, there_of_block (heap_alloc_new _ _) 0 32 (by decide)⟩
  rw [← hW0]
  clear hW0
  refine (rfirst_any W0).mono ?_
  rintro e w1 ⟨rfl, hw1⟩
  have H1 : Hid (Below W0.heap.size W0 w1 ∧ w1.heap.size = w.heap.size + 2 ∧ WordsAt w1 (w.heap.size + 1) 0 first8) := by
    rw [Hid, hw1, ← HW0.out.2.1]
    exact ⟨(Below.refl _ _).alloc (Nat.le_refl _) _, by have := HW0.out.2.1; simp; omega, WordsAt.of_block (heap_alloc_new _ _)⟩
  rw [HW0.out.2.1]
  clear hw1
  go_wp2_with fail
  refine (rrounds_any w1).mono ?_
  rintro e w2 ⟨rfl, hw2⟩
  have H2 : Hid (Below w1.heap.size w1 w2 ∧ w2.heap.size = w.heap.size + 3 ∧ WordsAt w2 (w.heap.size + 2) 0 words64) := by
    rw [Hid, hw2, ← H1.out.2.1]
    exact ⟨(Below.refl _ _).alloc (Nat.le_refl _) _, by have := H1.out.2.1; simp; omega, WordsAt.of_block (heap_alloc_new _ _)⟩
  rw [H1.out.2.1]
  clear hw2
  have HB2 : Hid (Below w.heap.size w w2) := HW0.out.1.trans ((H1.out.1.trans (H2.out.1.mono H1.out.1.size)).mono HW0.out.1.size)
  go_wp2_with fail
  refine (HPAD.out w2 HB2.out).mono ?_
  rintro e w3 ⟨v5, rfl, hown, hb3⟩
  obtain ⟨gp, cp, rfl, hcp, hcm, hgp0, hgp, hbp⟩ := hown.out (by rw [HPL.out]; omega)
  have hs2 := H2.out.2.1
  have hs3 := hb3.size
  have HGK : Hid (WordsAt w3 (w.heap.size + 2) 0 words64) := H2.out.2.2.of_below hb3 (by omega)
  have HGF : Hid (WordsAt w3 (w.heap.size + 1) 0 first8) := (H1.out.2.2.of_below H2.out.1 (by have := H1.out.2.1; omega)).of_below hb3 (by omega)
  have HB3 : Hid (Below w.heap.size w w3) := HB2.out.trans (hb3.mono HB2.out.size)
  have HT3 : Hid (w3.there w.heap.size 0 32) := by
    have hb : Below W0.heap.size W0 w3 := (H1.out.1.trans (H2.out.1.mono H1.out.1.size)).trans (hb3.mono (by have := H1.out.1.size; have := H2.out.1.size; omega))
    intro j hj
    have h := HW0.out.2.2 j hj
    have h1 : w.heap.size < W0.heap.size := by have := HW0.out.2.1; omega
    exact ⟨by rw [hb.cell (p := ⟨w.heap.size, 0 + j, none⟩) h1]; exact h.1, by rw [hb.frozen (p := ⟨w.heap.size, 0 + j, none⟩) h1]; exact h.2⟩
  have HBP := hid hbp
  have h3 : w.heap.size + 3 ≤ w3.heap.size := by omega
  rw [HPL.out] at hcp ⊢
  unfold maxLen at hcm
  clear hown hb3 hbp hs2 hs3 H1 H2 HB2 HW0 HPAD
  go_wp2_with fail
  go_loopw [3, 6] (fun s3 s6 wr => ∃ (j I g c : Nat), s3 = .slice (some ⟨g, 0, none⟩) 8 c ∧ s6 = .int .i64 I ∧ I ≤ 64 * N ∧ j ≤ N ∧ g < wr.heap.size ∧ Hid (I = 64 * j ∧ WordsAt wr g 0 (blks j first8 P) ∧ Below w3.heap.size w3 wr)) (fun _ s _ => 64 * N - (intOf s).toNat)
  case atStart => exact ⟨0, 0, _, _, rfl, rfl, by omega, by omega, by omega, rfl, HGF.out, Below.refl _ _⟩
  case round =>
    obtain ⟨j, I, g, c, rfl, rfl, hI, hj, hg, HI⟩ := hrel
    by_cases hlt : j < N
    · have hI64 : I + 64 ≤ 64 * N := by have := HI.out.1; omega
      have hlI : (I : Int) < 64 * (N : Int) := by omega
      have hl2 : (I : Int) + 64 ≤ (cp : Int) := by omega
      have h0I : (0 : Int) ≤ (I : Int) := by omega
      have hcI : (cp : Int) ≤ 9223372036854775807 := by omega
      go_wp2_with fail
      have HW := blks_words j first8 P first8_words rfl
      have hbl := HI.out.2.2.size
      refine (HC.out (blks j first8 P) ((P.drop I).take 64) g 0 c (w.heap.size + 2) 0 64 gp I (cp - I) wr HW.2 HW.1 (by rw [List.length_take, List.length_drop, HPL.out]; omega) (fun x hx => HP256.out x (List.mem_of_mem_drop (List.mem_of_mem_take hx))) HI.out.2.1 (HGK.out.of_below HI.out.2.2 (by omega)) ?hpc hg (by omega) (by omega)).mono ?_
      case hpc =>
        have h := piece_at HBP.out I 64 (by rw [HPL.out]; omega)
        intro i hi
        rw [HI.out.2.2.cell (p := ⟨gp, I + i, none⟩) hgp]
        exact h i hi
      rintro e w4 ⟨g4, c4, rfl, hg40, hg4, hw4, hb4⟩
      have HN : Hid (I + 64 = 64 * (j + 1) ∧ WordsAt w4 g4 0 (blks (j + 1) first8 P) ∧ Below w3.heap.size w3 w4) := by
        refine ⟨by have := HI.out.1; omega, ?_, HI.out.2.2.trans (hb4.mono HI.out.2.2.size)⟩
        rw [blks_snoc, ← HI.out.1]
        exact hw4
      clear hw4 hb4 hbl HW HI
      go_wp2_with fail
      exact ⟨⟨j + 1, I + 64, g4, c4, rfl, rfl, by omega, by omega, hg4, HN.out⟩, by simp [intOf]; omega⟩
    · have hjN : j = N := by omega
      have hIN : I = 64 * N := by have := HI.out.1; rw [hjN] at this; exact this
      have HST := hid HI.out.2.1
      have HB4 := hid HI.out.2.2
      rw [hjN] at HST
      have HSW := hid (blks_words N first8 P first8_words rfl)
      obtain ⟨st, hst⟩ : ∃ st, blks N first8 P = st := ⟨_, rfl⟩
      rw [hst] at HST HSW HSH
      have hs4 := HI.out.2.2.size
      clear HI hst hlt hj hjN hI HGF HGK HC
      subst hIN
      go_wp2_with fail
      rw [z32]
      obtain ⟨G, hG⟩ : ∃ G, wr.heap.size = G := ⟨_, rfl⟩
      obtain ⟨W5, hW5⟩ : ∃ W5, W5 = wr.alloc (.cells (u8s (List.replicate 32 0)).toArray 30) := ⟨_, rfl⟩
      have HM : Hid (BytesAt W5 G 0 (List.replicate 32 0) ∧ (∀ j, W5.frozen? ⟨G, j, none⟩ = false) ∧ W5.there w.heap.size 0 32 ∧ WordsAt W5 g 0 st ∧ Below w.heap.size w W5) := by
        have h : W5.heap[G]? = some (.cells (u8s (List.replicate 32 0)).toArray 30) := by rw [hW5, ← hG]; exact heap_alloc_new _ _
        have hb : Below wr.heap.size wr W5 := by rw [hW5]; exact (Below.refl _ _).alloc (Nat.le_refl _) _
        have hb' : Below w3.heap.size w3 W5 := HB4.out.trans (hb.mono HB4.out.size)
        refine ⟨BytesAt.of_block h, fun j => frozen_of_row _ _ _ _ _ h, ?_, HST.out.of_below hb hg, HB3.out.trans (hb'.mono HB3.out.size)⟩
        intro j hj
        have h := HT3.out j hj
        have h1 : w.heap.size < w3.heap.size := by omega
        exact ⟨by rw [hb'.cell (p := ⟨w.heap.size, 0 + j, none⟩) h1]; exact h.1, by rw [hb'.frozen (p := ⟨w.heap.size, 0 + j, none⟩) h1]; exact h.2⟩
      have hgG : g ≠ G := by omega
      have hwG : w.heap.size < G := by omega
      rw [← hW5, hG]
      clear hW5 hG HST HB4 HT3 HB3
      as_aux_lemma =>
        go_loopw [8] (fun s wr => ∃ (i : Nat) (row : List Nat), s = .int .i64 i ∧ i ≤ 32 ∧ Hid (row.length = 32 ∧ BytesAt wr G 0 row ∧ (∀ j, j < i → row.getD j 0 = (hashOf st).getD j 0) ∧ (∀ j, wr.frozen? ⟨G, j, none⟩ = false) ∧ wr.there w.heap.size 0 32 ∧ WordsAt wr g 0 st ∧ Below w.heap.size w wr)) (fun s _ => 32 - (intOf s).toNat)
        case atStart => exact ⟨0, _, rfl, by omega, by simp, HM.out.1, by omega, HM.out.2.1, HM.out.2.2.1, HM.out.2.2.2.1, HM.out.2.2.2.2⟩
        case round =>
          obtain ⟨i, row, rfl, hi, HI⟩ := hrel
          by_cases hlt : i < 32
          · as_aux_lemma =>
              have d0 := HI.out.2.2.2.2.2.1 (i / 4) (by rw [HSW.out.2]; omega)
              have d1 := HI.out.2.1 i (by rw [HI.out.1]; exact hlt)
              rw [Nat.zero_add] at d0 d1
              have hfz := HI.out.2.2.2.1 i
              have l0 := HSW.out.1.getD (i / 4)
              have HV := hid (hashOf_at st i hlt)
              generalize st.getD (i / 4) 0 = x at *
              have hltI : (i : Int) < 32 := by omega
              have h0I : (0 : Int) ≤ (i : Int) := by omega
              have q4 : ((i : Int) / 4).toNat = i / 4 := by omega
              have q4a : (0 : Int) ≤ (i : Int) / 4 := by omega
              have q4b : (i : Int) / 4 < 8 := by omega
              go_wp2_with fail
              obtain ⟨V, hV⟩ : ∃ V, x >>> (24 - i % 4 * 8) % 256 = V := ⟨_, rfl⟩
              rw [hV] at HV
              have hVI : (x : Int) / 2 ^ (24 - i % 4 * 8) % 256 = ((V : Nat) : Int) := by
                rw [← hV, Nat.shiftRight_eq_div_pow]
                simp
              rw [hVI]
              have hk1 : Kp [G] wr (wr.setCell ⟨G, i, none⟩ (.int .u8 ((V : Nat) : Int))) := (Kp.refl _ _).setCell (p := ⟨G, i, none⟩) (.inl (by simp)) _
              refine ⟨⟨i + 1, row.set i V, rfl, by omega, by rw [List.length_set]; exact HI.out.1, ?_, ?_, ?_, ?_, ?_, ?_⟩, by simp [intOf]; omega⟩
              · have h := HI.out.2.1.set i V (by rw [HI.out.1]; exact hlt)
                rw [Nat.zero_add] at h
                exact h
              · intro j hj
                rw [getD_set _ _ _ _ (by rw [HI.out.1]; exact hlt)]
                by_cases e : j = i
                · rw [if_pos e, e, HV.out]
                · rw [if_neg e]
                  exact HI.out.2.2.1 j (by omega)
              · intro j
                rw [World.frozen?_setCell]
                exact HI.out.2.2.2.1 j
              · intro j hj
                have h := HI.out.2.2.2.2.1 j hj
                exact ⟨by rw [World.cell?_setCell_other _ _ _ _ (by simp only [ne_eq, Addr.mk.injEq]; omega)]; exact h.1, by rw [World.frozen?_setCell]; exact h.2⟩
              · exact hk1.words HI.out.2.2.2.2.2.1 (block_lt_of_cell (HI.out.2.2.2.2.2.1 0 (by rw [HSW.out.2]; decide))) (by simp; omega)
              · exact HI.out.2.2.2.2.2.2.setCell (by show w.heap.size ≤ G; omega) _
          · have HRW : Hid (row = hashOf st) := by
              rw [Hid]
              apply List.ext_getElem?
              intro j
              by_cases hj : j < 32
              · have h := HI.out.2.2.1 j (by omega)
                rw [List.getD_eq_getElem?_getD, List.getD_eq_getElem?_getD, List.getElem?_eq_getElem (by rw [HI.out.1]; exact hj), List.getElem?_eq_getElem (by rw [hashOf_length]; exact hj)] at h
                rw [List.getElem?_eq_getElem (by rw [HI.out.1]; exact hj), List.getElem?_eq_getElem (by rw [hashOf_length]; exact hj)]
                simpa using h
              · rw [List.getElem?_eq_none (by rw [HI.out.1]; omega), List.getElem?_eq_none (by rw [hashOf_length]; omega)]
            have HBL : Hid ((u8s row).length = 32) := by rw [Hid, u8s_length]; exact HI.out.1
            have HRG : Hid (wr.rangeAt G 0 (u8s row)) := HI.out.2.1.range
            have hi8 : Hid ((Try.prog.info? 30).map (·.size) = some (u8s row).length) := by rw [Hid, HBL.out]; exact Try.info30
            have HI2 : Hid ((Try.prog.info? 30).map (·.size) = some (u8s row).toArray.size) := by rw [Hid, List.size_toArray]; exact hi8.out
            have HTT : Hid (wr.there w.heap.size 0 (u8s row).toArray.size) := by
              have e : (u8s row).toArray.size = 32 := by rw [List.size_toArray, HBL.out]
              rw [Hid, e]
              exact HI.out.2.2.2.2.1
            have H1c : Hid ((u8s row).toArray.all (·.oneCell') = true) := all_oneCell_toArray (u8s_one _)
            have HBX := hid HI.out.2.2.2.2.2.2
            have HU : Hid (u8s row = R) := by rw [Hid, HRW.out, ← HR.out, HSH.out]
            clear HI HM HRW
            obtain ⟨ds, hds⟩ : ∃ ds, u8s row = ds := ⟨_, rfl⟩
            rw [hds] at HBL HRG hi8 HI2 HTT H1c HU
            clear hds
            go_wp2_with (first | (refine wpList_load_mid (by rfl) 30 _ (by rfl) G 0 (by rfl) ds _ ?hc Try.underlying30 rfl hi8.out ?_; (case hc => exact HRG.out)) | (refine wpList_store_mid (by rfl) 30 _ _ (by rfl) w.heap.size 0 ds.toArray (by rfl) (by rfl) ?ht HI2.out H1c.out ?_; (case ht => exact HTT.out)))
            have hr : World.rangeAt (wr.setCells w.heap.size 0 ds) w.heap.size 0 ds := World.rangeAt_setCells_same _ _ _ _ (by have h := HTT.out; rwa [List.size_toArray] at h)
            refine bodyPost_ret (v := .agg ds.toArray) ?_ rfl ⟨by rw [HU.out], ?_⟩
            · exact results_cell_mid Try.results10 _ _ w.heap.size 0 _ _ rfl hr Try.underlying30 rfl hi8.out
            · exact ((Kp.below (l := []) HBX.out).setCells (.inr (Nat.le_refl _)) _ _).toBelow (by simp)
end Go.Proofs.Ytbmdnjmdehmahaa
