/-
  What Take of tlv answers.
-/
import Derived.Test.YtnnanmpogjmkiaaGet
namespace Go.Proofs.Ytnnanmpogjmkiaa
open Go.RowKit
attribute [local go_sem ↓] Go.wp_at_zero Go.wp_at_succ

set_option maxHeartbeats 1000000 in
set_option maxRecDepth 100000 in
theorem take_any (v : Value) (bs : List Int) (w : World) (h : BySl 0 w.heap.size w v bs) :
    Calls Try.prog 18 #[v] w fun e w' => ((rd 8 bs = none ∧ e = .returned (.tuple #[.agg #[.int .i64 0, .int .u64 0, .slice none 0 0, .slice none 0 0], .slice none 0 0, .int .i64 3])) ∨
      (∃ (t : Tr 9) (m : Nat) (sb sk vr : Value), rd 8 bs = some (t, m) ∧ e = .returned (.tuple #[.agg #[.int .i64 t.hd.1, .int .u64 t.hd.2.1, sb, sk], vr, .int .i64 0]) ∧ Rep w.heap.size w'.heap.size w' 9 t sb sk ∧ BySl w.heap.size w'.heap.size w' vr (bs.drop m))) ∧ Below w.heap.size w w' := by
  obtain ⟨a, cap, rfl, hr⟩ := id h
  clear hr
  have H := hid h
  have hcapM : cap ≤ 9223372036854775807 := by obtain ⟨_, _, e, _, h3, _⟩ := h; simp only [Value.slice.injEq, true_and] at e; obtain ⟨_, rfl⟩ := e; exact h3
  have hlc : bs.length ≤ cap := by obtain ⟨_, _, e, h2, _⟩ := h; simp only [Value.slice.injEq, true_and] at e; obtain ⟨_, rfl⟩ := e; exact h2
  clear h
  obtain ⟨R, hR⟩ : ∃ R, rd 8 bs = R := ⟨_, rfl⟩
  rw [hR]
  have HR := hid hR
  clear hR
  have hS : w.heap.size ≤ (w.alloc (Obj.cells #[Value.int IntKind.i64 0, Value.int IntKind.u64 0, Value.slice none 0 0, Value.slice none 0 0] 29)).heap.size := by simp
  have hbs : Hid (BySl 0 (w.alloc (Obj.cells #[Value.int IntKind.i64 0, Value.int IntKind.u64 0, Value.slice none 0 0, Value.slice none 0 0] 29)).heap.size (w.alloc (Obj.cells #[Value.int IntKind.i64 0, Value.int IntKind.u64 0, Value.slice none 0 0, Value.slice none 0 0] 29)) (.slice a bs.length cap) bs) := H.out.agree ((Agree.refl _ _ _).alloc (Nat.le_refl _) _) (Nat.le_refl _) hS
  have hrd := hid (readOk 8 (Nat.le_refl _))
  clear hS
  obtain ⟨L, hL⟩ : ∃ L, bs.length = L := ⟨_, rfl⟩
  have HL := hid hL
  rw [hL] at hbs hlc ⊢
  clear hL
  go_enter Try.func18, Try.ntmps18
  go_wp2_with fail
  refine (hrd.out _ bs _ hbs.out).mono ?_
  rintro e w1 ⟨hres, hb1⟩
  obtain ⟨hz, g0, g1, g2, g3, gf, hbel⟩ := res_facts hb1
  have HB := hid hbel
  clear hb1 hbel
  rcases hres with ⟨hn, rfl⟩ | ⟨t, m, sb, sk, hs, rfl, hr1⟩
  · have HN := hid hn
    clear hn
    go_wp2_with fail
    obtain ⟨p0, p1, p2, p3⟩ := set4_read (u0 := .int .i64 0) (u1 := .int .u64 0) (u2 := .slice none 0 0) (u3 := .slice none 0 0) g0 g1 g2 g3
    obtain ⟨q0, q1, q2, q3⟩ := set4_read (u0 := .int .i64 0) (u1 := .int .u64 0) (u2 := .slice none 0 0) (u3 := .slice none 0 0) p0 p1 p2 p3
    refine bodyPost_ret (v := .tuple #[.agg #[.int .i64 0, .int .u64 0, .slice none 0 0, .slice none 0 0], .slice none 0 0, .int .i64 3]) (by simp [results, Try.results18, go_sem, q0, q1, q2, q3]) rfl ⟨.inl ⟨?_, rfl⟩, (HB.out.trans (bset4 (Nat.le_refl _) _ _ _ _)).trans (bset4 (Nat.le_refl _) _ _ _ _)⟩
    rw [← HR.out, HN.out]
  · obtain ⟨a1, l1, p1, a2, l2, p2, rfl, rfl⟩ := hr1.sl
    have HS := hid hs
    have Hr1 := hid hr1
    have hm := rd_pos hs
    rw [HL.out] at hm
    clear hs hr1
    obtain ⟨b, o, ha⟩ : ∃ b o, a = some ⟨b, o, none⟩ := by
      obtain ⟨_, _, e, _, _, _, _, _, h7⟩ := hbs.out
      simp only [Value.slice.injEq] at e
      obtain ⟨rfl, _, rfl⟩ := e
      obtain ⟨b, o, e, _⟩ := h7 (by intro e; have := HL.out; subst e; simp at this; omega)
      exact ⟨b, o, e⟩
    subst ha
    obtain ⟨q0, q1, q2, q3⟩ := set4_read (u0 := .int .i64 t.hd.1) (u1 := .int .u64 t.hd.2.1) (u2 := .slice a1 l1 p1) (u3 := .slice a2 l2 p2) g0 g1 g2 g3
    go_upto_region 4 with fail
    obtain ⟨W, hW⟩ : ∃ W, (((w1.setCell ⟨w.heap.size, 0, none⟩ (.int .i64 t.hd.1)).setCell ⟨w.heap.size, 1, none⟩ (.int .u64 t.hd.2.1)).setCell ⟨w.heap.size, 2, none⟩ (.slice a1 l1 p1)).setCell ⟨w.heap.size, 3, none⟩ (.slice a2 l2 p2) = W := ⟨_, rfl⟩
    have hWz : W.heap.size = w1.heap.size := by rw [← hW]; simp
    have hWf : ∀ o, W.frozen? ⟨w.heap.size, o, none⟩ = false := by intro o; rw [← hW]; simp [gf]
    have hWB : Hid (Below w.heap.size w W) := by rw [← hW]; exact HB.out.trans (bset4 (Nat.le_refl _) _ _ _ _)
    have hWA : Hid (Agree (w.heap.size + 1) w1.heap.size w1 W) := by rw [← hW]; exact Agree.set4 _ (.inl (by omega)) _ _ _ _
    rw [hW] at q0 q1 q2 q3 ⊢
    clear hW g0 g1 g2 g3 gf
    obtain ⟨A, hA⟩ : ∃ A, (if cap = m then some (⟨b, o, none⟩ : Addr) else some ⟨b, o + m, none⟩) = A := ⟨_, rfl⟩
    have HQ : Hid (BySl 0 W.heap.size W (.slice A (L - m) (cap - m)) (bs.drop m)) := by
      have hq : BySl 0 w.heap.size W (.slice (some ⟨b, o, none⟩) bs.length cap) bs := H.out.agree (Agree.below hWB.out) (Nat.le_refl _) (Nat.le_refl _)
      have := bySl_rest hq m (by rw [HL.out]; omega) rfl
      rw [hA, HL.out] at this
      exact this.agree (Agree.refl _ _ _) (Nat.le_refl _) (by omega)
    have HQ2 : Hid (BySl 0 W.heap.size W.drew (.slice A (L - m) (cap - m)) (bs.drop m)) := HQ.out.agree (Agree.refl _ _ _).drew (Nat.le_refl _) (Nat.le_refl _)
    go_region_with ((go_at_call 31; refine (clone_bytes _ (bs.drop m) W.drew HQ2.out).mono ?_; rintro e w2 ⟨v', rfl, hv, hb2⟩; obtain ⟨a3, c3, rfl, hr3⟩ := id hv; clear hr3; have Hv := hid hv; have Hb2 := hid hb2; obtain ⟨hc2, hf2⟩ := bcell hb2; have hz2 : W.heap.size ≤ w2.heap.size := hb2.size; clear hv hb2; have r0 : w2.cell? ⟨w.heap.size, 0, none⟩ = some (.int .i64 t.hd.1) := (hc2 _ _ (show w.heap.size < W.heap.size by omega)).trans q0; have r1 : w2.cell? ⟨w.heap.size, 1, none⟩ = some (.int .u64 t.hd.2.1) := (hc2 _ _ (show w.heap.size < W.heap.size by omega)).trans q1; have r2 : w2.cell? ⟨w.heap.size, 2, none⟩ = some (.slice a1 l1 p1) := (hc2 _ _ (show w.heap.size < W.heap.size by omega)).trans q2; have r3 : w2.cell? ⟨w.heap.size, 3, none⟩ = some (.slice a2 l2 p2) := (hc2 _ _ (show w.heap.size < W.heap.size by omega)).trans q3; have rf : ∀ o, w2.frozen? ⟨w.heap.size, o, none⟩ = false := fun o => (hf2 _ _ (show w.heap.size < W.heap.size by omega)).trans (hWf o)))
    all_goals go_wp2_with fail
    all_goals (
      have hb3 : Below W.heap.size W w2 := (Below.refl _ _).drew.trans Hb2.out
      obtain ⟨x0, x1, x2, x3⟩ := set4_read (u0 := .int .i64 t.hd.1) (u1 := .int .u64 t.hd.2.1) (u2 := .slice a1 l1 p1) (u3 := .slice a2 l2 p2) r0 r1 r2 r3
      refine bodyPost_ret (v := .tuple #[.agg #[.int .i64 t.hd.1, .int .u64 t.hd.2.1, .slice a1 l1 p1, .slice a2 l2 p2], .slice a3 (bs.drop m).length c3, .int .i64 0]) (by simp [results, Try.results18, go_sem, x0, x1, x2, x3]) rfl ⟨.inr ⟨t, m, .slice a1 l1 p1, .slice a2 l2 p2, .slice a3 (bs.drop m).length c3, ?_, rfl, ?_, ?_⟩, ?_⟩
      · rw [← HR.out, HS.out]
      · have h1 : Rep (w.heap.size + 1) w1.heap.size w2 9 t (.slice a1 l1 p1) (.slice a2 l2 p2) := Rep.agree (L := w.heap.size + 1) (hWA.out.trans (Agree.mono (L := 0) (B := W.heap.size) (Agree.below hb3) (by omega) (by omega))) (Nat.le_refl _) (Nat.le_refl _) (by simpa using Hr1.out)
        exact Rep.agree (Agree.set4 w2 (.inl (by simp)) _ _ _ _) (by omega) (by simp; omega) h1
      · exact Hv.out.agree (Agree.set4 w2 (.inl (show w.heap.size < W.heap.size by omega)) _ _ _ _) (show w.heap.size ≤ W.heap.size by omega) (by simp)
      · exact (hWB.out.trans (hb3.mono (show w.heap.size ≤ W.heap.size by omega))).trans (bset4 (Nat.le_refl _) _ _ _ _))

end Go.Proofs.Ytnnanmpogjmkiaa
