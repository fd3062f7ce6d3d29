/-
  One block more: round, walked; a state as a hash.
-/
import Derived.Test.YtbmdnjmdehmahaaOnce
import Derived.Test.YtbmdnjmdehmahaaSpread
import Derived.Test.YtbmdnjmdehmahaaStir
import Derived.Deep.WholeRow
namespace Go.Proofs.Ytbmdnjmdehmahaa
open Go.RowKit

theorem there_of_block {w : World} {g : Nat} {cs : Array Value} {t : TypeId} (h : w.heap[g]? = some (.cells cs t (0, 0))) (o n : Nat) (hn : o + n ≤ cs.size) : w.there g o n := fun j hj => by
  have hlt : o + j < cs.size := by omega
  rw [cell_of_row w g (o + j) cs t (0, 0) h, frozen_of_row w g _ cs t h]
  exact ⟨by simp [hlt], rfl⟩

theorem z8 : (#[.int .u32 0, .int .u32 0, .int .u32 0, .int .u32 0, .int .u32 0, .int .u32 0, .int .u32 0, .int .u32 0] : Array Value) = (u32s (List.replicate 8 0)).toArray := rfl

theorem kpcell {b : Nat} {W w1 : World} (hk : Kp [b] W w1) : (∀ k o, k < W.heap.size → k ≠ b → w1.cell? ⟨k, o, none⟩ = W.cell? ⟨k, o, none⟩) ∧ (∀ k o, k < W.heap.size → k ≠ b → w1.frozen? ⟨k, o, none⟩ = W.frozen? ⟨k, o, none⟩) :=
  ⟨fun k o h h2 => hk.cell (p := ⟨k, o, none⟩) h (by simpa using h2), fun k o h h2 => hk.frozen (p := ⟨k, o, none⟩) h (by simpa using h2)⟩
theorem bcell {W w1 : World} (hb : Below W.heap.size W w1) : (∀ b o, b < W.heap.size → w1.cell? ⟨b, o, none⟩ = W.cell? ⟨b, o, none⟩) ∧ (∀ b o, b < W.heap.size → w1.frozen? ⟨b, o, none⟩ = W.frozen? ⟨b, o, none⟩) :=
  ⟨fun b o h => hb.cell (p := ⟨b, o, none⟩) h, fun b o h => hb.frozen (p := ⟨b, o, none⟩) h⟩

theorem Kp.set8 {l : List Nat} {u w : World} (h : Kp l u w) {g : Nat} (hg : u.heap.size ≤ g) (v0 v1 v2 v3 v4 v5 v6 v7 : Value) :
    Kp l u ((((((((w.setCell ⟨g, 0, none⟩ v0).setCell ⟨g, 1, none⟩ v1).setCell ⟨g, 2, none⟩ v2).setCell ⟨g, 3, none⟩ v3).setCell ⟨g, 4, none⟩ v4).setCell ⟨g, 5, none⟩ v5).setCell ⟨g, 6, none⟩ v6).setCell ⟨g, 7, none⟩ v7) :=
  h.setCells (.inr hg) [v0, v1, v2, v3, v4, v5, v6, v7] 0

/-- Eight noughts in a block: each cell, and that it may be written. -/
def Zeros8 (w : World) (g : Nat) : Prop :=
  w.cell? ⟨g, 0, none⟩ = some (.int .u32 0) ∧ w.cell? ⟨g, 1, none⟩ = some (.int .u32 0) ∧ w.cell? ⟨g, 2, none⟩ = some (.int .u32 0) ∧ w.cell? ⟨g, 3, none⟩ = some (.int .u32 0) ∧ w.cell? ⟨g, 4, none⟩ = some (.int .u32 0) ∧ w.cell? ⟨g, 5, none⟩ = some (.int .u32 0) ∧ w.cell? ⟨g, 6, none⟩ = some (.int .u32 0) ∧ w.cell? ⟨g, 7, none⟩ = some (.int .u32 0) ∧ ∀ j, w.frozen? ⟨g, j, none⟩ = false
theorem eight_zeros {w : World} {g : Nat} (h : w.heap[g]? = some (.cells #[.int .u32 0, .int .u32 0, .int .u32 0, .int .u32 0, .int .u32 0, .int .u32 0, .int .u32 0, .int .u32 0] 63)) : Zeros8 w g := by
  have c := fun j => cell_of_row w g j _ 63 (0, 0) h
  exact ⟨c 0, c 1, c 2, c 3, c 4, c 5, c 6, c 7, fun j => frozen_of_row w g j _ 63 h⟩

theorem with_it {p R : Prop} (h : p) (k : p → R) : R := k h
theorem zeros_b {w4 w5 : World} (hb : Below (w4.alloc (.cells #[.int .u32 0, .int .u32 0, .int .u32 0, .int .u32 0, .int .u32 0, .int .u32 0, .int .u32 0, .int .u32 0] 63)).heap.size (w4.alloc (.cells #[.int .u32 0, .int .u32 0, .int .u32 0, .int .u32 0, .int .u32 0, .int .u32 0, .int .u32 0, .int .u32 0] 63)) w5) : Zeros8 w5 w4.heap.size :=
  eight_zeros ((hb.block w4.heap.size (by simp)).trans (heap_alloc_new w4 _))
theorem zeros_a {g : Nat} {w4 w5 : World} (hb : Below w4.heap.size w4 w5) (hg : g < w4.heap.size) (h : Hid (w4.heap[g]? = some (.cells #[.int .u32 0, .int .u32 0, .int .u32 0, .int .u32 0, .int .u32 0, .int .u32 0, .int .u32 0, .int .u32 0] 63))) : Zeros8 w5 g :=
  eight_zeros ((hb.block g hg).trans h.out)
theorem zeros_c {b : Nat} {W3 w4 : World} (hk : Kp [b] (W3.alloc (.cells #[.int .u32 0, .int .u32 0, .int .u32 0, .int .u32 0, .int .u32 0, .int .u32 0, .int .u32 0, .int .u32 0] 63)).drew w4) (hb : W3.heap.size ≠ b) : W3.heap.size < w4.heap.size ∧ Hid (w4.heap[W3.heap.size]? = some (.cells #[.int .u32 0, .int .u32 0, .int .u32 0, .int .u32 0, .int .u32 0, .int .u32 0, .int .u32 0, .int .u32 0] 63)) := by
  have h := hk.size
  simp at h
  exact ⟨h, (hk.block _ (by simp) (by simpa using hb)).trans (heap_alloc_new W3 _)⟩

theorem zeros_mk {w : World} {g : Nat} (y0 : w.cell? ⟨g, 0, none⟩ = some (.int .u32 0)) (y1 : w.cell? ⟨g, 1, none⟩ = some (.int .u32 0)) (y2 : w.cell? ⟨g, 2, none⟩ = some (.int .u32 0)) (y3 : w.cell? ⟨g, 3, none⟩ = some (.int .u32 0)) (y4 : w.cell? ⟨g, 4, none⟩ = some (.int .u32 0)) (y5 : w.cell? ⟨g, 5, none⟩ = some (.int .u32 0)) (y6 : w.cell? ⟨g, 6, none⟩ = some (.int .u32 0)) (y7 : w.cell? ⟨g, 7, none⟩ = some (.int .u32 0)) (yf : ∀ j, w.frozen? ⟨g, j, none⟩ = false) : Zeros8 w g :=
  ⟨y0, y1, y2, y3, y4, y5, y6, y7, yf⟩
theorem Eng.set8 {w : World} {b f g : Nat} {n : Int} (h : Eng w b f n) (hg : g ≠ b) (v0 v1 v2 v3 v4 v5 v6 v7 : Value) :
    Eng ((((((((w.setCell ⟨g, 0, none⟩ v0).setCell ⟨g, 1, none⟩ v1).setCell ⟨g, 2, none⟩ v2).setCell ⟨g, 3, none⟩ v3).setCell ⟨g, 4, none⟩ v4).setCell ⟨g, 5, none⟩ v5).setCell ⟨g, 6, none⟩ v6).setCell ⟨g, 7, none⟩ v7) b f n :=
  h.kept (l := [g]) ((Kp.refl [g] w).setCells (g := g) (.inl (by simp)) [v0, v1, v2, v3, v4, v5, v6, v7] 0) (by simp; omega)

theorem words_set8 {w : World} {g : Nat} (h : Zeros8 w g) (r0 r1 r2 r3 r4 r5 r6 r7 : Nat) :
    WordsAt ((((((((w.setCell ⟨g, 0, none⟩ (.int .u32 (r0 : Int))).setCell ⟨g, 1, none⟩ (.int .u32 (r1 : Int))).setCell ⟨g, 2, none⟩ (.int .u32 (r2 : Int))).setCell ⟨g, 3, none⟩ (.int .u32 (r3 : Int))).setCell ⟨g, 4, none⟩ (.int .u32 (r4 : Int))).setCell ⟨g, 5, none⟩ (.int .u32 (r5 : Int))).setCell ⟨g, 6, none⟩ (.int .u32 (r6 : Int))).setCell ⟨g, 7, none⟩ (.int .u32 (r7 : Int))) g 0 [r0, r1, r2, r3, r4, r5, r6, r7] := by
  refine WordsAt.of_range (World.rangeAt_setCells_same w g 0 (u32s [r0, r1, r2, r3, r4, r5, r6, r7]) ?_)
  obtain ⟨y0, y1, y2, y3, y4, y5, y6, y7, yf⟩ := h
  intro j hj
  have hj8 : j < 8 := hj
  refine ⟨?_, yf _⟩
  rw [Nat.zero_add]
  have : j = 0 ∨ j = 1 ∨ j = 2 ∨ j = 3 ∨ j = 4 ∨ j = 5 ∨ j = 6 ∨ j = 7 := by omega
  rcases this with rfl | rfl | rfl | rfl | rfl | rfl | rfl | rfl
  · rw [y0]; rfl
  · rw [y1]; rfl
  · rw [y2]; rfl
  · rw [y3]; rfl
  · rw [y4]; rfl
  · rw [y5]; rfl
  · rw [y6]; rfl
  · rw [y7]; rfl

/-- What the region with the two calls has to start from, and what it leaves, said of a world. -/
def Three (w : World) (b : Nat) (n : Int) (A : Array Value) (G : Nat) (wx : World) : Prop :=
  Kp [b] w wx ∧ Eng wx b 1 n ∧ wx.heap[w.heap.size]? = some (.cells A 63) ∧ wx.heap[w.heap.size + 1]? = some (.cells (u32s (List.replicate 8 0)).toArray 63) ∧ w.heap.size + 2 ≤ G

theorem three_of {w W3 wx : World} {b : Nat} {n : Int} {A : Array Value} {G : Nat} (hk : Kp [b] w W3) (h1 : W3.heap[w.heap.size]? = some (.cells A 63)) (h2 : W3.heap[w.heap.size + 1]? = some (.cells (u32s (List.replicate 8 0)).toArray 63)) (hz : w.heap.size + 1 < W3.heap.size) (hb : b < w.heap.size) (hG : w.heap.size + 2 ≤ G) (hkx : Kp [b] W3 wx) (he : Eng wx b 1 n) : Three w b n A G wx :=
  ⟨hk.trans hkx, he, (hkx.block _ (by omega) (by simp; omega)).trans h1, (hkx.block _ (by omega) (by simp; omega)).trans h2, hG⟩

set_option maxHeartbeats 1000000 in
set_option maxRecDepth 100000 in
theorem round_any (st bs : List Nat) (b f g o : Nat) (n : Int) (w : World) (hf : f = 0 ∨ f = 1) (he : Eng w b f n) (hs8 : st.length = 8) (hsw : Words st) (hb64 : bs.length = 64) (hbw : ∀ x ∈ bs, x < 256)
    (Hb : BytesAt w g o bs) (lb : g < w.heap.size) (hgb : g ≠ b) (hn0 : 0 ≤ n) (hn1 : n < 4611686018427387904) :
    Calls Try.prog 28 #[.pointer (some ⟨b, 0, none⟩), .agg (u32s st).toArray, .pointer (some ⟨g, o, none⟩)] w fun e w' => e = .returned (.agg (u32s (blk st bs)).toArray) ∧ Kp [b] w w' ∧ Eng w' b 1 (n + 1) := by
  have HE := hid he
  have HB := hid Hb
  have HB64 := hid hb64
  have HBW := hid hbw
  have HS8 := hid hs8
  have HSW := hid hsw
  clear he Hb hb64 hbw hsw
  have hwr : wrap64 (n + 1) = n + 1 := by unfold wrap64; omega
  have HWR := hid hwr
  clear hwr
  obtain ⟨a0, a1, a2, a3, a4, a5, a6, a7, rfl⟩ := eight st hs8
  clear hs8
  rw [show (u32s [a0, a1, a2, a3, a4, a5, a6, a7]).toArray = #[.int .u32 (a0 : Int), .int .u32 (a1 : Int), .int .u32 (a2 : Int), .int .u32 (a3 : Int), .int .u32 (a4 : Int), .int .u32 (a5 : Int), .int .u32 (a6 : Int), .int .u32 (a7 : Int)] from rfl]
  go_enter Try.func28, Try.ntmps28
  go_wp2_with fail
  have hbw0 : b < w.heap.size := HE.out.1
  obtain ⟨W0, hW0⟩ : ∃ W0, W0 = (w.alloc (Obj.cells #[.int .u32 (a0 : Int), .int .u32 (a1 : Int), .int .u32 (a2 : Int), .int .u32 (a3 : Int), .int .u32 (a4 : Int), .int .u32 (a5 : Int), .int .u32 (a6 : Int), .int .u32 (a7 : Int)] 63)).alloc (Obj.cells (u32s (List.replicate 8 0)).toArray 63) := ⟨_, rfl⟩
  have HB0 : Hid (Below w.heap.size w W0) := by rw [Hid, hW0]; exact ((Below.refl _ _).alloc (Nat.le_refl _) _).alloc (by simp) _
  have HH0 : Hid (W0.heap[w.heap.size]? = some (.cells #[.int .u32 (a0 : Int), .int .u32 (a1 : Int), .int .u32 (a2 : Int), .int .u32 (a3 : Int), .int .u32 (a4 : Int), .int .u32 (a5 : Int), .int .u32 (a6 : Int), .int .u32 (a7 : Int)] 63) ∧ W0.heap[w.heap.size + 1]? = some (.cells (u32s (List.replicate 8 0)).toArray 63) ∧ W0.heap.size = w.heap.size + 2) := by
    rw [Hid, hW0]
    exact ⟨heap_alloc2_old _ _ _, heap_alloc2_new _ _ _, by simp⟩
  rw [z8, ← hW0]
  clear hW0
  have HE0 := hid (HE.out.below HB0.out)
  refine (add_any ⟨b, 75, none⟩ n 1 W0 HE0.out.2.2.2.1 (HE0.out.2.2.2.2.2.2 _)).mono ?_
  rintro e W1 ⟨rfl, hW1⟩
  rw [HWR.out] at hW1
  have HE1 : Hid (Eng W1 b f (n + 1)) := by rw [hW1]; exact HE0.out.add (n + 1)
  have HK1 : Hid (Kp [b] w W1) := by rw [Hid, hW1]; exact (Kp.below HB0.out).setCell (p := ⟨b, 75, none⟩) (.inl (by simp)) _
  have HH1 : Hid (W1.heap[w.heap.size]? = some (.cells #[.int .u32 (a0 : Int), .int .u32 (a1 : Int), .int .u32 (a2 : Int), .int .u32 (a3 : Int), .int .u32 (a4 : Int), .int .u32 (a5 : Int), .int .u32 (a6 : Int), .int .u32 (a7 : Int)] 63) ∧ W1.heap[w.heap.size + 1]? = some (.cells (u32s (List.replicate 8 0)).toArray 63) ∧ W1.heap.size = w.heap.size + 2) := by
    rw [Hid, hW1]
    exact ⟨(heap_setCell_other _ _ _ _ (by simp; omega)).trans HH0.out.1, (heap_setCell_other _ _ _ _ (by simp; omega)).trans HH0.out.2.1, by simpa using HH0.out.2.2⟩
  clear hW1 HE0 HB0 HH0
  rw [HWR.out]
  go_wp2_with fail
  have HB1 := hid (HK1.out.bytes HB.out lb (by simpa using hgb))
  refine (spread_any bs g o W1 HB64.out HBW.out HB1.out (by have := HH1.out.2.2; omega)).mono ?_
  rintro e W2 ⟨rfl, hb2⟩
  have HE2 := hid (HE1.out.below hb2)
  have HK2 := hid (HK1.out.trans (Kp.below hb2))
  have HH2 : Hid (W2.heap[w.heap.size]? = some (.cells #[.int .u32 (a0 : Int), .int .u32 (a1 : Int), .int .u32 (a2 : Int), .int .u32 (a3 : Int), .int .u32 (a4 : Int), .int .u32 (a5 : Int), .int .u32 (a6 : Int), .int .u32 (a7 : Int)] 63) ∧ W2.heap[w.heap.size + 1]? = some (.cells (u32s (List.replicate 8 0)).toArray 63) ∧ w.heap.size + 2 ≤ W2.heap.size) := by
    have h3 := HH1.out.2.2
    have := hb2.size
    exact ⟨(hb2.block _ (by omega)).trans HH1.out.1, (hb2.block _ (by omega)).trans HH1.out.2.1, by omega⟩
  clear hb2 HE1 HK1 HH1 HB1
  obtain ⟨ss, hss⟩ : ∃ ss, u32s (sched bs) = ss := ⟨_, rfl⟩
  have HSS := hid hss
  rw [hss]
  have HL : Hid (ss.length = 64) := by rw [Hid, ← hss, u32s_length, sched_length]
  have H1 : Hid (ss.toArray.all (·.oneCell') = true) := by rw [Hid, ← hss]; exact all_oneCell_toArray (u32s_one _)
  have HSZ : Hid (ss.toArray.size = 64) := by rw [Hid, List.size_toArray, HL.out]
  have HI2 : Hid ((Try.prog.info? 64).map (·.size) = some ss.toArray.size) := by rw [Hid, List.size_toArray, HL.out]; exact Try.info64
  clear hss
  go_wp2_with (refine wpList_store_row (by rfl) 64 _ _ (by rfl) W2.heap.size ss.toArray (by rfl) (by rfl) 64 ?old ?hg HI2.out ?hs H1.out ?_; (case hg => exact heap_alloc_new _ _); (case hs => exact HSZ.out.symm))
  rw [← z64, World.setRow_alloc_new]
  obtain ⟨W3, hW3⟩ : ∃ W3, W3 = W2.alloc (.cells ss.toArray 64) := ⟨_, rfl⟩
  rw [← hW3]
  have HB3 : Hid (Below W2.heap.size W2 W3) := by rw [Hid, hW3]; exact (Below.refl _ _).alloc (Nat.le_refl _) _
  have HG3 : Hid (W3.heap[W2.heap.size]? = some (.cells ss.toArray 64) ∧ W3.heap.size = W2.heap.size + 1) := by rw [Hid, hW3]; exact ⟨heap_alloc_new _ _, by simp⟩
  clear hW3
  have HE3 := hid (HE2.out.below HB3.out)
  have HK3 := hid (HK2.out.trans (Kp.below HB3.out))
  have HH3 : Hid (W3.heap[w.heap.size]? = some (.cells #[.int .u32 (a0 : Int), .int .u32 (a1 : Int), .int .u32 (a2 : Int), .int .u32 (a3 : Int), .int .u32 (a4 : Int), .int .u32 (a5 : Int), .int .u32 (a6 : Int), .int .u32 (a7 : Int)] 63) ∧ W3.heap[w.heap.size + 1]? = some (.cells (u32s (List.replicate 8 0)).toArray 63)) := by
    have h3 := HH2.out.2.2
    exact ⟨(HB3.out.block _ (by omega)).trans HH2.out.1, (HB3.out.block _ (by omega)).trans HH2.out.2.1⟩
  obtain ⟨G2, hG2⟩ : ∃ G2, W2.heap.size = G2 := ⟨_, rfl⟩
  have HG2 : Hid (w.heap.size + 2 ≤ G2) := by rw [Hid, ← hG2]; exact HH2.out.2.2
  rw [hG2] at HG3 ⊢
  clear hG2 HE2 HK2 HH2 HB3 H1 HI2 HSZ
  dsimp only [Act.put]
  obtain ⟨r0, r1, r2, r3, r4, r5, r6, r7, hrs⟩ := eight (roundsN words64 (sched bs) 64 0 [a0, a1, a2, a3, a4, a5, a6, a7]) (roundsN_words words64 (sched bs) 64 0 _ HSW.out HS8.out).2
  have HRS := hid hrs
  have HST : Hid (∀ Wx, Eng Wx b 1 (n + 1) → WordsAt Wx G2 0 (sched bs) → G2 < Wx.heap.size → Calls Try.prog 43 #[.agg #[.int .u32 (a0 : Int), .int .u32 (a1 : Int), .int .u32 (a2 : Int), .int .u32 (a3 : Int), .int .u32 (a4 : Int), .int .u32 (a5 : Int), .int .u32 (a6 : Int), .int .u32 (a7 : Int)], .pointer (some ⟨G2, 0, none⟩), .pointer (some ⟨b, 11, none⟩)] Wx fun e w' => e = .returned (.agg #[.int .u32 (r0 : Int), .int .u32 (r1 : Int), .int .u32 (r2 : Int), .int .u32 (r3 : Int), .int .u32 (r4 : Int), .int .u32 (r5 : Int), .int .u32 (r6 : Int), .int .u32 (r7 : Int)]) ∧ Below Wx.heap.size Wx w') := by
    intro Wx h1 h2 h3
    have h := stir_any [a0, a1, a2, a3, a4, a5, a6, a7] words64 (sched bs) G2 0 b 11 Wx HS8.out HSW.out rfl words64_words (sched_length _) (sched_words HBW.out) (h1.2.2.2.2.2.1 rfl).2 h2 h1.1 h3
    rw [hrs] at h
    exact h
  clear hrs
  have HW3 : Hid (WordsAt W3 G2 0 (sched bs)) := by
    have h := HG3.out.1
    rw [← HSS.out] at h
    exact WordsAt.of_block h
  have hH3 : w.heap.size < W3.heap.size := by have := HG3.out.2; have := HG2.out; omega
  have hH3' : w.heap.size < W3.heap.size + 1 := by omega
  have hHb : w.heap.size ≠ b := by omega
  have hGb : W3.heap.size ≠ b := by have := HE3.out.1; omega
  have hbG2 : Hid (G2 ≠ b ∧ G2 < W3.heap.size) := by have := HG3.out.2; have := HG2.out; exact ⟨by omega, by omega⟩
  have cH : ∀ j, W3.cell? ⟨w.heap.size, j, none⟩ = (#[.int .u32 (a0 : Int), .int .u32 (a1 : Int), .int .u32 (a2 : Int), .int .u32 (a3 : Int), .int .u32 (a4 : Int), .int .u32 (a5 : Int), .int .u32 (a6 : Int), .int .u32 (a7 : Int)] : Array Value)[j]? := fun j => cell_of_row W3 w.heap.size j _ 63 (0, 0) HH3.out.1
  have c0 := cH 0
  have c1 := cH 1
  have c2 := cH 2
  have c3 := cH 3
  have c4 := cH 4
  have c5 := cH 5
  have c6 := cH 6
  have c7 := cH 7
  simp only [List.getElem?_toArray, List.getElem?_cons_zero, List.getElem?_cons_succ] at c0 c1 c2 c3 c4 c5 c6 c7
  clear cH
  have k8 : ∀ j v w', (#[.int .u32 (a0 : Int), .int .u32 (a1 : Int), .int .u32 (a2 : Int), .int .u32 (a3 : Int), .int .u32 (a4 : Int), .int .u32 (a5 : Int), .int .u32 (a6 : Int), .int .u32 (a7 : Int)] : Array Value)[j]? = some v → Kp [b] W3 w' → w'.cell? ⟨w.heap.size, j, none⟩ = some v := fun j v w' hv hk => (hk.cell (p := ⟨w.heap.size, j, none⟩) hH3 (by simpa using hHb)).trans ((cell_of_row W3 w.heap.size j _ 63 (0, 0) HH3.out.1).trans hv)
  have k0 := fun w' => k8 0 _ w' rfl
  have k1 := fun w' => k8 1 _ w' rfl
  have k2 := fun w' => k8 2 _ w' rfl
  have k3 := fun w' => k8 3 _ w' rfl
  have k4 := fun w' => k8 4 _ w' rfl
  have k5 := fun w' => k8 5 _ w' rfl
  have k6 := fun w' => k8 6 _ w' rfl
  have k7 := fun w' => k8 7 _ w' rfl
  clear k8 c0 c1 c2 c3 c4 c5 c6 c7
  go_cut [8] (fun s8 wx => ∃ g8, s8 = .pointer (some ⟨g8, 0, none⟩) ∧ Hid (Three w b (n + 1) #[.int .u32 (a0 : Int), .int .u32 (a1 : Int), .int .u32 (a2 : Int), .int .u32 (a3 : Int), .int .u32 (a4 : Int), .int .u32 (a5 : Int), .int .u32 (a6 : Int), .int .u32 (a7 : Int)] g8 wx ∧ WordsAt wx g8 0 [r0, r1, r2, r3, r4, r5, r6, r7]))
  case first =>
    go_region_held3 (fun w' => Kp [b] W3 w') (((with_reducible (repeat (first | refine Kp.alloc ?_ _ | refine Kp.drew ?_ | refine Kp.setCell ?_ (Or.inr ?_) _))); all_goals (first | with_reducible exact Kp.refl _ _ | with_reducible exact HK5.out | with_reducible exact HK4.out | with_reducible exact Nat.le_refl _ | with_reducible exact HK4.out.size | with_reducible exact HK5.out.size))) (first | (go_at_call 29; refine (prim_any b f (n + 1) _ hf ?_).mono ?_; (first | with_reducible exact HE3.out.below (Below.refl _ _).drew | with_reducible exact HE3.out.below (((Below.refl _ _).alloc (Nat.le_refl _) _).drew)); rintro e w4 ⟨rfl, hk4, he4⟩; have HE4 := hid he4; have HK4 : Hid (Kp [b] W3 w4) := (by rw [Hid]; refine Kp.trans ?_ hk4; assumption); (first | (refine with_it (zeros_c (b := b) (W3 := W3) (w4 := w4) hk4 hGb) ?_; rintro ⟨hz7, HZ4⟩) | skip); clear hk4 he4) | (go_at_call 43; refine (HST.out _ ?_ ?_ ?_).mono ?_; (first | with_reducible exact HE4.out | with_reducible exact HE4.out.below ((Below.refl _ _).alloc (Nat.le_refl _) _)); (first | with_reducible exact HK4.out.words HW3.out hbG2.out.2 (by simpa using hbG2.out.1) | with_reducible exact (HK4.out.alloc _).words HW3.out hbG2.out.2 (by simpa using hbG2.out.1)); (first | with_reducible exact Nat.lt_of_lt_of_le hbG2.out.2 HK4.out.size | with_reducible exact Nat.lt_of_lt_of_le hbG2.out.2 (HK4.out.alloc _).size); rintro e w5 ⟨rfl, hb5⟩; have HK5 : Hid (Kp [b] W3 w5) := (by rw [Hid]; refine Kp.trans ?_ (Kp.below hb5); assumption); have HE5 : Hid (Eng w5 b 1 (n + 1)) := (by rw [Hid]; first | with_reducible exact HE4.out.below hb5 | with_reducible exact (HE4.out.below ((Below.refl _ _).alloc (Nat.le_refl _) _)).below hb5); (first | (refine with_it (zeros_b (w4 := w4) (w5 := w5) hb5) ?_; rintro ⟨y0, y1, y2, y3, y4, y5, y6, y7, yf⟩) | (refine with_it (zeros_a (g := W3.heap.size) (w4 := w4) (w5 := w5) hb5 hz7 HZ4) ?_; rintro ⟨y0, y1, y2, y3, y4, y5, y6, y7, yf⟩) | skip); clear hb5))
    · go_wp2_with fail
      go_meet
      case rel =>
        have hs4 := HK4.out.size
        have hs5 := HK5.out.size
        have hz3 := HG3.out.2
        have hz2 := HG2.out
        have hG4b : w4.heap.size ≠ b := by have := HE4.out.1; omega
        refine ⟨_, rfl, three_of HK3.out HH3.out.1 HH3.out.2 (by omega) (by omega) (by omega) ?_ ?_, ?_⟩
        · assumption
        · exact HE5.out.below ((Below.refl _ _).alloc (Nat.le_refl _) _)
        · exact WordsAt.of_block (ws := [r0, r1, r2, r3, r4, r5, r6, r7]) (heap_alloc_new _ _)
    · go_wp2_with fail
      go_meet
      case rel =>
        have hs4 := HK4.out.size
        have hs5 := HK5.out.size
        have hz3 := HG3.out.2
        have hz2 := HG2.out
        have hG4b : w4.heap.size ≠ b := by have := HE4.out.1; omega
        refine ⟨_, rfl, three_of HK3.out HH3.out.1 HH3.out.2 (by omega) (by omega) (by omega) ?_ ?_, ?_⟩
        · assumption
        · exact HE5.out.set8 hG4b _ _ _ _ _ _ _ _
        · exact words_set8 (zeros_mk y0 y1 y2 y3 y4 y5 y6 y7 yf) _ _ _ _ _ _ _ _
    · go_wp2_with fail
      go_meet
      case rel =>
        have hs4 := HK4.out.size
        have hs5 := HK5.out.size
        have hz3 := HG3.out.2
        have hz2 := HG2.out
        have hG4b : w4.heap.size ≠ b := by have := HE4.out.1; omega
        refine ⟨_, rfl, three_of HK3.out HH3.out.1 HH3.out.2 (by omega) (by omega) (by omega) ?_ ?_, ?_⟩
        · assumption
        · exact HE5.out.set8 hGb _ _ _ _ _ _ _ _
        · exact words_set8 (zeros_mk y0 y1 y2 y3 y4 y5 y6 y7 yf) _ _ _ _ _ _ _ _
  case rest =>
    obtain ⟨g8, rfl, HX⟩ := hcut
    clear k0 k1 k2 k3 k4 k5 k6 k7 HST HK3 HH3 HE3 HW3 hbG2 HG3 HG2 HL HSS hH3 hH3' hGb
    have hg8 : w.heap.size + 2 ≤ g8 := HX.out.1.2.2.2.2
    obtain ⟨st, hst⟩ : ∃ st, [a0, a1, a2, a3, a4, a5, a6, a7] = st := ⟨_, rfl⟩
    obtain ⟨rs, hrs⟩ : ∃ rs, [r0, r1, r2, r3, r4, r5, r6, r7] = rs := ⟨_, rfl⟩
    have HST : Hid ([a0, a1, a2, a3, a4, a5, a6, a7] = st) := hst
    have HR8 : Hid (rs.length = 8 ∧ Words rs) := by
      have h := roundsN_words words64 (sched bs) 64 0 [a0, a1, a2, a3, a4, a5, a6, a7] HSW.out HS8.out
      rw [HRS.out, hrs] at h
      exact ⟨h.2, h.1⟩
    have HBLK : Hid (blk st bs = addW rs st) := by rw [Hid, blk, ← hst, HRS.out, hrs]
    have HC0 : Hid (WordsAt wc w.heap.size 0 st) := by
      rw [Hid, ← hst]
      exact WordsAt.of_block (ws := [a0, a1, a2, a3, a4, a5, a6, a7]) HX.out.1.2.2.1
    have HC8 : Hid (WordsAt wc g8 0 rs) := by rw [Hid, ← hrs]; exact HX.out.2
    have HS8' : Hid (st.length = 8 ∧ Words st) := by rw [Hid, ← hst]; exact ⟨HS8.out, HSW.out⟩
    have HF0 : Hid (∀ j, wc.frozen? ⟨w.heap.size, j, none⟩ = false) := fun j => frozen_of_row wc w.heap.size j _ 63 HX.out.1.2.2.1
    have HT0 : Hid (wc.there (w.heap.size + 1) 0 8) := there_of_block HX.out.1.2.2.2.1 0 8 (by decide)
    have HKE : Hid (Kp [b] w wc ∧ Eng wc b 1 (n + 1)) := ⟨HX.out.1.1, HX.out.1.2.1⟩
    have hg8w : Hid (g8 < wc.heap.size) := block_lt_of_cell (HC8.out 0 (by have := HR8.out.1; omega))
    clear HX HRS hst hrs
    go_wp2_with fail
    go_loopw [22] (fun s wr => ∃ (i : Nat) (row : List Nat), s = .int .i64 i ∧ i ≤ 8 ∧ Hid (row.length = 8 ∧ WordsAt wr w.heap.size 0 row ∧ (∀ j, j < 8 → row.getD j 0 = if j < i then (rs.getD j 0 + st.getD j 0) % 4294967296 else st.getD j 0) ∧ (∀ j, wr.frozen? ⟨w.heap.size, j, none⟩ = false) ∧ wr.there (w.heap.size + 1) 0 8 ∧ WordsAt wr g8 0 rs ∧ Kp [b] w wr ∧ Eng wr b 1 (n + 1))) (fun s _ => 8 - (intOf s).toNat)
    case atStart => exact ⟨0, st, rfl, by omega, HS8'.out.1, HC0.out, fun j _ => by rw [if_neg (by omega)], HF0.out, HT0.out, HC8.out, HKE.out.1, HKE.out.2⟩
    case round =>
      obtain ⟨i, row, rfl, hi, HI⟩ := hrel
      by_cases hlt : i < 8
      · as_aux_lemma =>
          have d0 := HI.out.2.1 i (by rw [HI.out.1]; exact hlt)
          have d1 := HI.out.2.2.2.2.2.1 i (by rw [HR8.out.1]; exact hlt)
          rw [Nat.zero_add] at d0 d1
          have hfz := HI.out.2.2.2.1 i
          have hrow := HI.out.2.2.1 i hlt
          rw [if_neg (by omega)] at hrow
          rw [hrow] at d0
          have l0 := HS8'.out.2.getD i
          have l1 := HR8.out.2.getD i
          have HV : Hid ((st.getD i 0 + rs.getD i 0) % 4294967296 = (rs.getD i 0 + st.getD i 0) % 4294967296) := by rw [Hid, Nat.add_comm]
          clear hrow
          obtain ⟨x, hx⟩ : ∃ x, st.getD i 0 = x := ⟨_, rfl⟩
          obtain ⟨y, hy⟩ : ∃ y, rs.getD i 0 = y := ⟨_, rfl⟩
          have HY : Hid (rs.getD i 0 = y ∧ st.getD i 0 = x) := ⟨hy, hx⟩
          rw [hx] at d0 l0 HV
          rw [hy] at d1 l1 HV
          clear hx hy
          have hlI : (i : Int) < 8 := by omega
          have h0I : (0 : Int) ≤ (i : Int) := by omega
          have hne : w.heap.size ≠ g8 := by omega
          go_upto_region 7 with fail
          go_big_region
          go_wp2_with fail
          go_roundw
          case rel =>
            have hb0 : b < w.heap.size := hbw0
            obtain ⟨V, hV⟩ : ∃ V, (x + y) % 4294967296 = V := ⟨_, rfl⟩
            have hVI : ((x : Int) + (y : Int)) % 4294967296 = ((V : Nat) : Int) := by omega
            rw [hVI]
            have hV2 := HV.out
            rw [hV] at hV2
            have hk1 : Kp [w.heap.size] wr (wr.setCell ⟨w.heap.size, i, none⟩ (.int .u32 ((V : Nat) : Int))).drew := ((Kp.refl _ _).setCell (p := ⟨w.heap.size, i, none⟩) (.inl (by simp)) _).drew
            have hwz := HI.out.2.2.2.2.2.2.1.size
            refine ⟨i + 1, row.set i V, by go_num, by omega, by rw [List.length_set]; exact HI.out.1, ?_, ?_, ?_, ?_, ?_, ?_, ?_⟩
            · have h := HI.out.2.1.set i V (by rw [HI.out.1]; exact hlt)
              rw [Nat.zero_add] at h
              exact fun j hj => (World.cell?_drew _ _).trans (h j hj)
            · intro j hj
              rw [getD_set _ _ _ _ (by rw [HI.out.1]; exact hlt)]
              by_cases e : j = i
              · rw [if_pos e, if_pos (by omega), e, hV2, HY.out.1, HY.out.2]
              · rw [if_neg e, HI.out.2.2.1 j hj]
                by_cases e2 : j < i
                · rw [if_pos e2, if_pos (by omega)]
                · rw [if_neg e2, if_neg (by omega)]
            · intro j
              rw [World.frozen?_drew, World.frozen?_setCell]
              exact HI.out.2.2.2.1 j
            · intro j hj
              have h := HI.out.2.2.2.2.1 j hj
              exact ⟨by rw [World.cell?_drew, World.cell?_setCell_other _ _ _ _ (by simp)]; exact h.1, by rw [World.frozen?_drew, World.frozen?_setCell]; exact h.2⟩
            · exact hk1.words HI.out.2.2.2.2.2.1 (block_lt_of_cell (HI.out.2.2.2.2.2.1 i (by rw [HR8.out.1]; exact hlt))) (by simp; omega)
            · exact (HI.out.2.2.2.2.2.2.1.setCell (p := ⟨w.heap.size, i, none⟩) (.inr (Nat.le_refl _)) _).drew
            · exact HI.out.2.2.2.2.2.2.2.kept hk1 (by simp; omega)
          case measure => simp [intOf]; omega
      · have HRW : Hid (row = blk st bs) := by
          rw [Hid, HBLK.out]
          have hi8 : i = 8 := by omega
          apply List.ext_getElem?
          intro j
          by_cases hj : j < 8
          · have h := HI.out.2.2.1 j hj
            rw [if_pos (by omega)] at h
            rw [List.getD_eq_getElem?_getD, List.getElem?_eq_getElem (by rw [HI.out.1]; exact hj)] at h
            rw [List.getElem?_eq_getElem (by rw [HI.out.1]; exact hj), addW]
            simp only [List.getElem?_map, List.getElem?_range hj, Option.map_some, Option.some.injEq]
            exact h
          · rw [List.getElem?_eq_none (by rw [HI.out.1]; omega), List.getElem?_eq_none (by rw [addW_length]; omega)]
        have HBL : Hid ((u32s row).length = 8) := by rw [Hid, u32s_length]; exact HI.out.1
        have HRG : Hid (wr.rangeAt w.heap.size 0 (u32s row)) := HI.out.2.1.range
        have hi8 : Hid ((Try.prog.info? 63).map (·.size) = some (u32s row).length) := by rw [Hid, HBL.out]; exact Try.info63
        have HI2 : Hid ((Try.prog.info? 63).map (·.size) = some (u32s row).toArray.size) := by rw [Hid, List.size_toArray]; exact hi8.out
        have HTT : Hid (wr.there (w.heap.size + 1) 0 (u32s row).toArray.size) := by
          have e : (u32s row).toArray.size = 8 := by rw [List.size_toArray, HBL.out]
          rw [Hid, e]
          exact HI.out.2.2.2.2.1
        have H1c : Hid ((u32s row).toArray.all (·.oneCell') = true) := all_oneCell_toArray (u32s_one _)
        have HKX : Hid (Kp [b] w wr ∧ Eng wr b 1 (n + 1)) := ⟨HI.out.2.2.2.2.2.2.1, HI.out.2.2.2.2.2.2.2⟩
        have HU : Hid (u32s row = u32s (blk st bs)) := by rw [Hid, HRW.out]
        clear HI HC0 HC8 HF0 HT0 HKE HBLK HRW
        obtain ⟨cs, hcs⟩ : ∃ cs, u32s row = cs := ⟨_, rfl⟩
        rw [hcs] at HBL HRG hi8 HI2 HTT H1c HU
        clear hcs
        go_wp2_with (first | (refine wpList_load_mid (by rfl) 63 _ (by rfl) w.heap.size 0 (by rfl) cs _ ?hc Try.underlying63 rfl hi8.out ?_; (case hc => exact HRG.out)) | (refine wpList_store_mid (by rfl) 63 _ _ (by rfl) (w.heap.size + 1) 0 cs.toArray (by rfl) (by rfl) ?ht HI2.out H1c.out ?_; (case ht => exact HTT.out)))
        have hr : World.rangeAt (wr.setCells (w.heap.size + 1) 0 cs) (w.heap.size + 1) 0 cs := World.rangeAt_setCells_same _ _ _ _ (by have h := HTT.out; rwa [List.size_toArray] at h)
        refine bodyPost_ret (v := .agg cs.toArray) ?_ rfl ⟨by rw [HU.out, ← HST.out], ?_, ?_⟩
        · exact results_cell_mid Try.results28 _ _ (w.heap.size + 1) 0 _ _ rfl hr Try.underlying63 rfl hi8.out
        · exact HKX.out.1.setCells (.inr (by omega)) _ _
        · exact HKX.out.2.kept (l := [w.heap.size + 1]) ((Kp.refl _ _).setCells (.inl (by simp)) _ _) (by simp; omega)
end Go.Proofs.Ytbmdnjmdehmahaa
