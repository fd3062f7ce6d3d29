/-
  What the writer's method number of tlv lays.
-/
import Derived.Test.YthbhdbjjobfchaaTlvKids
import Derived.Test.YthbhdbjjobfchaaTlvForm
import Derived.Deep.RegionLaw
import Derived.Deep.RegionHeld3
import Derived.Deep.DrawnRows
import Derived.Deep.DeepCutAuto
namespace Go.Proofs.Ythbhdbjjobfchaa.Tlv
open Go.RowKit
attribute [local go_sem ↓] Go.wp_at_zero Go.wp_at_succ

/-- The writer at block pb has laid the bytes xs, in a row of its own from block B on. -/
def WInv (B pb : Nat) (xs : List Int) (w : World) : Prop :=
  ∃ v, w.cell? ⟨pb, 0, none⟩ = some v ∧ w.frozen? ⟨pb, 0, none⟩ = false ∧ B ≤ pb ∧ w.ownsRow B 5 1 v xs.length (xs.map (Value.int .u8)) ∧ v.ownBlock ≠ some pb

theorem ownsRow_form {w : World} {base n e size : Nat} {v : Value} {xs : List Value} (h : w.ownsRow base e size v n xs) : ∃ a c, v = .slice a n c := by
  rcases h.2 with ⟨rfl, h0⟩ | ⟨g, cap, cur, rfl, _⟩
  · exact ⟨_, _, by rw [h0]⟩
  · exact ⟨_, _, rfl⟩

theorem ownsRow_set_ne {w : World} {base e size n : Nat} {v : Value} {xs : List Value} (h : w.ownsRow base e size v n xs) {p : Addr} (hp : v.ownBlock ≠ some p.block) (u : Value) : (w.setCell p u).ownsRow base e size v n xs := by
  obtain ⟨h1, h2⟩ := h
  refine ⟨h1, ?_⟩
  rcases h2 with h2 | ⟨g, cap, cur, rfl, hg, hh, r⟩
  · exact Or.inl h2
  · exact Or.inr ⟨g, cap, cur, rfl, hg, by rw [Below.heap_setCell _ _ _ _ (by intro e; exact hp (by simp [Value.ownBlock, e]))]; exact hh, r⟩

/-- More bytes, behind the append that lays them and the store of the new slice into the writer. -/
theorem WInv.push {B pb g cap H : Nat} {ys news : List Int} {v : Value} {w2 : World} (hown : w2.ownsRow B 5 1 (.slice (some ⟨g, 0, none⟩) (ys.length + news.length) cap) (ys.length + news.length) (ys.map (Value.int .u8) ++ news.map (Value.int .u8)))
    (hpb : B ≤ pb) (hpH : pb < H) (hne : v.ownBlock ≠ some pb) (c2 : w2.cell? ⟨pb, 0, none⟩ = some v) (f2 : w2.frozen? ⟨pb, 0, none⟩ = false) (hat : v.ownBlock = some g ∨ g = H) :
    WInv B pb (ys ++ news) (w2.setCell ⟨pb, 0, none⟩ (.slice (some ⟨g, 0, none⟩) (ys.length + news.length) cap)) := by
  have hg : g ≠ pb := by
    rintro rfl
    rcases hat with h | h
    · exact hne h
    · omega
  have hv : (Value.slice (some ⟨g, 0, none⟩) (ys.length + news.length) cap).ownBlock ≠ some pb := by simpa [Value.ownBlock] using hg
  refine ⟨_, World.cell?_setCell_same _ _ _ c2, by rw [World.frozen?_setCell]; exact f2, hpb, ?_, hv⟩
  rw [List.length_append, List.map_append]
  exact ownsRow_set_ne hown hv _

/-- One byte more. -/
theorem byte_new (w : World) (x : Int) : ∀ j u, [Value.int IntKind.u8 x][j]? = some u → (w.alloc (.cells #[.int .u8 x] 5)).cell? ((⟨w.heap.size, 0, none⟩ : Addr).add j) = some u :=
  World.news_of_block (cs := #[Value.int .u8 x]) (t := 5) (fr := (0, 0)) (heap_alloc_new _ _)

theorem shr_at (x : Int) (m : Nat) (h0 : 0 ≤ x) (hm : m ≤ 8) : ∃ y, y = x / 256 ^ m ∧ 0 ≤ y ∧ Op.shift .shr .u64 x .i64 (IntKind.i64.wrap (8 * (m : Int))) = pure (.int .u64 y) := by
  refine ⟨_, rfl, Int.ediv_nonneg h0 (Int.le_of_lt (Int.pow_pos (by omega))), ?_⟩
  have e : IntKind.i64.wrap (8 * (m : Int)) = 8 * m := by rw [IntKind.wrap_i64]; omega
  rw [e, shift_shr .u64 .i64 x (8 * (m : Int)) (by omega) (by simp [IntKind.bits]; omega)]
  have e2 : (8 * (m : Int)).toNat = 8 * m := by omega
  rw [e2, Int.pow_mul]
  rfl

set_option maxHeartbeats 1000000 in
set_option maxRecDepth 100000 in
theorem number_put (B pb : Nat) (xs : List Int) (x : Int) (w : World) (h : WInv B pb xs w) (h0 : 0 ≤ x) (h1 : x ≤ 18446744073709551615) (hl : xs.length ≤ 100000) :
    Calls Try.prog 56 #[.pointer (some ⟨pb, 0, none⟩), .int .u64 x] w fun e w' => e = .returned (.tuple #[]) ∧ WInv B pb (xs ++ numB (nsz x).toNat x) w' ∧ Below B w w' := by
  have hb := nsz_bd x
  have H := hid h
  clear h
  obtain ⟨i0, hi, hz0, hz1, hz2⟩ := info_parts Try.info5
  go_enter Try.func56, Try.ntmps56
  go_wp2_with fail
  refine (numberSize_any _ _ h0 h1).mono ?_
  rintro e w1 ⟨rfl, hw1⟩
  rw [hw1]
  clear hw1 w1
  obtain ⟨N, hN⟩ := Int.eq_ofNat_of_zero_le hb.1
  rw [hN] at hb ⊢
  have HN := hid hN
  clear hN
  go_wp2_with fail
  go_loopw [4] (fun i wr => ∃ (k : Nat) (ys : List Int), k ≤ N ∧ i = .int .i64 ((k : Int) - 1) ∧ Hid (WInv B pb ys wr ∧ Below B w wr ∧ ys ++ numB k x = xs ++ numB N x)) (fun i _ => (intOf i + 1).toNat)
  case atStart => exact ⟨N, xs, Nat.le_refl _, rfl, H.out, Below.refl _ _, rfl⟩
  case round =>
    obtain ⟨k, ys, hk, rfl, HI⟩ := hrel
    cases k with
    | zero =>
      go_wp2_with fail
      go_end0
      refine ⟨rfl, ?_, HI.out.2.1⟩
      have e : ys = xs ++ numB N x := by have := HI.out.2.2; simpa [numB] using this
      rw [HN.out, Int.toNat_natCast, ← e]
      exact HI.out.1
    | succ m =>
      obtain ⟨v, c0, f0, hpb, hown, hne⟩ := HI.out.1
      obtain ⟨a, c, rfl⟩ := ownsRow_form hown
      have HO := hid hown
      have HNE := hid hne
      have hyl : ys.length ≤ 100008 := by have := congrArg List.length HI.out.2.2; simp [numB_length] at this; omega
      have hm : (((m + 1 : Nat) : Int) - 1) = m := by omega
      rw [hm]
      clear hown hne
      have hpz : pb < wr.heap.size := World.block_lt_of_cell? wr _ c0
      go_wp2_with fail
      obtain ⟨y, hy, hy0, hsh⟩ : ∃ y, y = x / 256 ^ m ∧ 0 ≤ y ∧ Op.shift .shr .u64 x .i64 (IntKind.i64.wrap (8 * (m : Int))) = pure (.int .u64 y) := shr_at x m h0 (by omega)
      have HY := hid hy
      clear hy
      have HO2 : Hid ((wr.alloc (.cells #[.int .u8 (IntKind.u8.wrap y)] 5)).drew.ownsRow B 5 1 (.slice a ys.length c) ys.length (ys.map (Value.int .u8))) := HO.out.alloc _
      have hnews := hid (byte_new wr (IntKind.u8.wrap y))
      have hone : Hid (∀ u ∈ [Value.int IntKind.u8 (IntKind.u8.wrap y)], u.oneCell' = true) := by intro u hu; simp at hu; subst hu; rfl
      have hB := HI.out.2.1.size
      have hBp : B ≤ wr.heap.size + 1 := by omega
      go_region_law (refine step_append_lies _ (by rfl) (.tmp 16) (.tmp 22) 24 (by rfl) B 5 i0 (.int .u8 0) 1 1 Try.underlying24 hi hz0 hz1 hz2 rfl (by omega) (.slice a ys.length c) ys.length (ys.map (Value.int .u8)) (by simp [Act.eval]) HO2.out ⟨wr.heap.size, 0, none⟩ 1 1 [.int .u8 (IntKind.u8.wrap y)] (by simp [Act.eval]) rfl hnews.out hone.out (by omega) (by unfold maxLen; omega) (by omega) (by simp; exact hBp) (wr.heap.size + 1) (by simp) ?_; intro g cap w2 hown2 hgrow2 hat2 hlt2; have c2 : w2.cell? ⟨pb, 0, none⟩ = some (.slice a ys.length c) := (hgrow2.cell_far ⟨pb, 0, none⟩ (by simp; omega) (fun e => HNE.out e.symm)).trans ((World.cell?_alloc_past _ _ _ hpz).trans c0); have f2 : w2.frozen? ⟨pb, 0, none⟩ = false := (hgrow2.frozen_far ⟨pb, 0, none⟩ (by simp; omega) (fun e => HNE.out e.symm)).trans ((World.frozen?_alloc_past _ _ _ hpz).trans f0); have HO3 := hid hown2; have HG := hid hgrow2; have HAT := hid hat2; clear hown2 hgrow2 hat2)
      all_goals go_wp2_with fail
      all_goals
        refine ⟨⟨m, ys ++ [IntKind.u8.wrap y], by omega, rfl, ?_, ?_, ?_⟩, by simp [intOf]⟩
        · exact WInv.push (v := .slice a ys.length c) (H := wr.heap.size + 1) (news := [IntKind.u8.wrap y]) (by simpa using HO3.out) hpb (by omega) HNE.out c2 f2 HAT.out
        · exact (((HI.out.2.1.alloc (by omega) _).drew).grown HG.out (by simp; omega) (fun r e => (HO.out.lt r e).1)).setCell hpb _
        · rw [← HI.out.2.2, List.append_assoc, IntKind.wrap_u8, HY.out]
          rfl

end Go.Proofs.Ythbhdbjjobfchaa.Tlv
