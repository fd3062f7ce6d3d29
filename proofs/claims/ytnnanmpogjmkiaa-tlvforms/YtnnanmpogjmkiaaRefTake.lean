/-
  What the reference's Take and Get answer.
-/
import Derived.Test.YtnnanmpogjmkiaaRefRead
import Derived.Test.YtnnanmpogjmkiaaGet
namespace Go.Proofs.Ytnnanmpogjmkiaa
open Go.RowKit
attribute [local go_sem ↓] Go.wp_at_zero Go.wp_at_succ

theorem AgreeS.of {S : Nat → Prop} {L B : Nat} {w w' : World} (h : Agree L B w w') (hS : ∀ b, S b → L ≤ b ∧ b < B) : AgreeS S w w' := fun b hb => h b (hS b hb).1 (hS b hb).2

set_option maxHeartbeats 1000000 in
set_option maxRecDepth 100000 in
theorem refTake_any (v : Value) (bs : List Int) (w : World) (h : BySl 0 w.heap.size w v bs) :
    Calls Try.prog 19 #[v] w fun e w' => ((rd 8 bs = none ∧ e = .returned (.tuple #[.agg #[.int .i64 0, .int .u64 0, .slice none 0 0, .slice none 0 0], .slice none 0 0, .int .i64 3])) ∨
      (∃ (t : Tr 9) (m : Nat) (sb sk vr : Value), rd 8 bs = some (t, m) ∧ e = .returned (.tuple #[.agg #[.int .i64 t.hd.1, .int .u64 t.hd.2.1, sb, sk], vr, .int .i64 0]) ∧ RepS (fun b => w.heap.size ≤ b ∧ b < w'.heap.size) w' 9 t sb sk ∧ BySl 0 w'.heap.size w' vr (bs.drop m))) ∧ Below w.heap.size w w' := by
  obtain ⟨a, cap, rfl, hr⟩ := id h
  clear hr
  have H := hid h
  have hcapM : cap ≤ 9223372036854775807 := by obtain ⟨_, _, e, _, h3, _⟩ := h; simp only [Value.slice.injEq, true_and] at e; obtain ⟨_, rfl⟩ := e; exact h3
  have hlc : bs.length ≤ cap := by obtain ⟨_, _, e, h2, _⟩ := h; simp only [Value.slice.injEq, true_and] at e; obtain ⟨_, rfl⟩ := e; exact h2
  clear h
  obtain ⟨R, hR⟩ : ∃ R, rd 8 bs = R := ⟨_, rfl⟩
  rw [hR]
  have HR := hid hR
  clear hR
  have hS : w.heap.size ≤ (w.alloc (Obj.cells #[Value.int IntKind.i64 0, Value.int IntKind.u64 0, Value.slice none 0 0, Value.slice none 0 0] 32)).heap.size := by simp
  have hbs : Hid (BySl 0 (w.alloc (Obj.cells #[Value.int IntKind.i64 0, Value.int IntKind.u64 0, Value.slice none 0 0, Value.slice none 0 0] 32)).heap.size (w.alloc (Obj.cells #[Value.int IntKind.i64 0, Value.int IntKind.u64 0, Value.slice none 0 0, Value.slice none 0 0] 32)) (.slice a bs.length cap) bs) := H.out.agree ((Agree.refl _ _ _).alloc (Nat.le_refl _) _) (Nat.le_refl _) hS
  have hrd := hid (rreadOk 8 (Nat.le_refl _))
  clear hS
  obtain ⟨L, hL⟩ : ∃ L, bs.length = L := ⟨_, rfl⟩
  have HL := hid hL
  rw [hL] at hbs hlc ⊢
  clear hL
  go_enter Try.func19, Try.ntmps19
  go_wp2_with fail
  refine (hrd.out _ bs _ hbs.out).mono ?_
  rintro e w1 ⟨hres, hb1⟩
  obtain ⟨hz, g0, g1, g2, g3, gf, hbel⟩ := res_facts32 (w := w) (w1 := w1) (by simpa using hb1)
  have HB := hid hbel
  clear hb1 hbel
  rcases hres with ⟨hn, rfl⟩ | ⟨t, m, sb, sk, hs, rfl, hr1⟩
  · have HN := hid hn
    clear hn
    go_wp2_with fail
    obtain ⟨q0, q1, q2, q3⟩ := set4_read (w := w1) (u0 := .int .i64 0) (u1 := .int .u64 0) (u2 := .slice none 0 0) (u3 := .slice none 0 0) g0 g1 g2 g3
    refine bodyPost_ret (v := .tuple #[.agg #[.int .i64 0, .int .u64 0, .slice none 0 0, .slice none 0 0], .slice none 0 0, .int .i64 3]) (by simp [results, Try.results19, go_sem, q0, q1, q2, q3, hz]) rfl ⟨.inl ⟨?_, rfl⟩, (HB.out.trans (bset4 (Nat.le_refl _) _ _ _ _)).alloc (by simp; omega) _⟩
    rw [← HR.out, HN.out]
  · obtain ⟨a1, l1, p1, a2, l2, p2, rfl, rfl⟩ := hr1.sl
    have HS := hid hs
    have Hr1 := hid hr1
    have hm := rd_pos hs
    rw [HL.out] at hm
    clear hs hr1
    obtain ⟨b, o, ha⟩ : ∃ b o, a = some ⟨b, o, none⟩ := by
      obtain ⟨_, _, e, _, _, _, _, _, h7⟩ := hbs.out
      simp only [Value.slice.injEq] at e
      obtain ⟨rfl, _, rfl⟩ := e
      obtain ⟨b, o, e, _⟩ := h7 (by intro e; have := HL.out; subst e; simp at this; omega)
      exact ⟨b, o, e⟩
    subst ha
    have hmz : ((m : Int) == 0) = false := by simp; omega
    obtain ⟨A, hA⟩ : ∃ A, (if cap = m then some (⟨b, o, none⟩ : Addr) else some ⟨b, o + m, none⟩) = A := ⟨_, rfl⟩
    go_upto_region 4 with fail
    go_region
    all_goals go_wp2_with fail
    obtain ⟨q0, q1, q2, q3⟩ := set4_read (w := w1) (u0 := .int .i64 t.hd.1) (u1 := .int .u64 t.hd.2.1) (u2 := .slice a1 l1 p1) (u3 := .slice a2 l2 p2) g0 g1 g2 g3
    have hA1 : Agree (w.heap.size + 1) w1.heap.size w1 (((((w1.setCell ⟨w.heap.size, 0, none⟩ (.int .i64 t.hd.1)).setCell ⟨w.heap.size, 1, none⟩ (.int .u64 t.hd.2.1)).setCell ⟨w.heap.size, 2, none⟩ (.slice a1 l1 p1)).setCell ⟨w.heap.size, 3, none⟩ (.slice a2 l2 p2)).alloc (Obj.cells #[.int .i64 t.hd.1, .int .u64 t.hd.2.1, .slice a1 l1 p1, .slice a2 l2 p2] 32)).drew := ((Agree.set4 _ (.inl (by omega)) _ _ _ _).alloc (by simp) _).drew
    have hB1 : Below w.heap.size w (((((w1.setCell ⟨w.heap.size, 0, none⟩ (.int .i64 t.hd.1)).setCell ⟨w.heap.size, 1, none⟩ (.int .u64 t.hd.2.1)).setCell ⟨w.heap.size, 2, none⟩ (.slice a1 l1 p1)).setCell ⟨w.heap.size, 3, none⟩ (.slice a2 l2 p2)).alloc (Obj.cells #[.int .i64 t.hd.1, .int .u64 t.hd.2.1, .slice a1 l1 p1, .slice a2 l2 p2] 32)).drew := ((HB.out.trans (bset4 (Nat.le_refl _) _ _ _ _)).alloc (by simp; omega) _).drew
    refine bodyPost_ret (v := .tuple #[.agg #[.int .i64 t.hd.1, .int .u64 t.hd.2.1, .slice a1 l1 p1, .slice a2 l2 p2], .slice A (L - m) (cap - m), .int .i64 0]) (by simp [results, Try.results19, go_sem, q0, q1, q2, q3, hz]) rfl ⟨.inr ⟨t, m, .slice a1 l1 p1, .slice a2 l2 p2, .slice A (L - m) (cap - m), ?_, rfl, ?_, ?_⟩, hB1⟩
    · rw [← HR.out, HS.out]
    · refine RepS.agree (AgreeS.of hA1 ?_) ?_ Hr1.out
      · intro b hb; simp at hb; omega
      · intro b hb; simp at hb; simp; omega
    · have hq : BySl 0 w.heap.size _ (.slice (some ⟨b, o, none⟩) bs.length cap) bs := H.out.agree (Agree.below hB1) (Nat.le_refl _) (Nat.le_refl _)
      have := bySl_rest hq m (by rw [HL.out]; omega) rfl
      rw [hA, HL.out] at this
      exact this.agree (Agree.refl _ _ _) (Nat.le_refl _) (by simp; omega)

set_option maxHeartbeats 1000000 in
set_option maxRecDepth 100000 in
theorem refGet_any (v : Value) (bs : List Int) (w : World) (h : BySl 0 w.heap.size w v bs) :
    Calls Try.prog 21 #[v] w fun e w' => ((getT bs = none ∧ e = .returned (.tuple #[.agg #[.int .i64 0, .int .u64 0, .slice none 0 0, .slice none 0 0], .int .i64 3])) ∨
      (∃ (t : Tr 9) (sb sk : Value), getT bs = some t ∧ e = .returned (.tuple #[.agg #[.int .i64 t.hd.1, .int .u64 t.hd.2.1, sb, sk], .int .i64 0]) ∧ RepS (fun b => w.heap.size ≤ b ∧ b < w'.heap.size) w' 9 t sb sk)) ∧ Below w.heap.size w w' := by
  obtain ⟨a, cap, rfl, hr⟩ := id h
  clear hr
  have H := hid h
  clear h
  obtain ⟨R, hR⟩ : ∃ R, getT bs = R := ⟨_, rfl⟩
  rw [hR]
  have HR := hid hR
  clear hR
  have hS : w.heap.size ≤ (w.alloc (Obj.cells #[Value.int IntKind.i64 0, Value.int IntKind.u64 0, Value.slice none 0 0, Value.slice none 0 0] 32)).heap.size := by simp
  have hbs : Hid (BySl 0 (w.alloc (Obj.cells #[Value.int IntKind.i64 0, Value.int IntKind.u64 0, Value.slice none 0 0, Value.slice none 0 0] 32)).heap.size (w.alloc (Obj.cells #[Value.int IntKind.i64 0, Value.int IntKind.u64 0, Value.slice none 0 0, Value.slice none 0 0] 32)) (.slice a bs.length cap) bs) := H.out.agree ((Agree.refl _ _ _).alloc (Nat.le_refl _) _) (Nat.le_refl _) hS
  clear hS
  obtain ⟨L, hL⟩ : ∃ L, bs.length = L := ⟨_, rfl⟩
  have HL := hid hL
  rw [hL] at hbs ⊢
  clear hL
  go_enter Try.func21, Try.ntmps21
  go_wp2_with fail
  refine (refTake_any _ bs _ hbs.out).mono ?_
  rintro e w1 ⟨hres, hb1⟩
  obtain ⟨hz, g0, g1, g2, g3, gf, hbel⟩ := res_facts32 (w := w) (w1 := w1) (by simpa using hb1)
  have HB := hid hbel
  clear hb1 hbel
  rcases hres with ⟨hn, rfl⟩ | ⟨t, m, sb, sk, vr, hs, rfl, hr1, hvr⟩
  · have HN := hid hn
    clear hn
    go_wp2_with fail
    obtain ⟨q0, q1, q2, q3⟩ := set4_read (w := w1) (u0 := .int .i64 0) (u1 := .int .u64 0) (u2 := .slice none 0 0) (u3 := .slice none 0 0) g0 g1 g2 g3
    refine bodyPost_ret (v := .tuple #[.agg #[.int .i64 0, .int .u64 0, .slice none 0 0, .slice none 0 0], .int .i64 3]) (by simp [results, Try.results21, go_sem, q0, q1, q2, q3, hz]) rfl ⟨.inl ⟨?_, rfl⟩, (HB.out.trans (bset4 (Nat.le_refl _) _ _ _ _)).alloc (by simp; omega) _⟩
    rw [← HR.out, getT, HN.out]
  · obtain ⟨a1, l1, p1, a2, l2, p2, rfl, rfl⟩ := hr1.sl
    obtain ⟨a3, c3, rfl, hr3⟩ := id hvr
    clear hr3 hvr
    have HS := hid hs
    have Hr1 := hid hr1
    have hm := rd_pos hs
    rw [HL.out] at hm
    clear hs hr1
    have hdl : (bs.drop m).length = L - m := by rw [List.length_drop, HL.out]
    obtain ⟨M, hM⟩ : ∃ M, L - m = M := ⟨_, rfl⟩
    rw [hdl, hM]
    have HdM := hid hM
    clear hdl hM
    cases M with
    | zero =>
      have HM : Hid (m = L) := by have := HdM.out; unfold Hid; omega
      go_wp2_with fail
      obtain ⟨q0, q1, q2, q3⟩ := set4_read (w := w1) (u0 := .int .i64 t.hd.1) (u1 := .int .u64 t.hd.2.1) (u2 := .slice a1 l1 p1) (u3 := .slice a2 l2 p2) g0 g1 g2 g3
      refine bodyPost_ret (v := .tuple #[.agg #[.int .i64 t.hd.1, .int .u64 t.hd.2.1, .slice a1 l1 p1, .slice a2 l2 p2], .int .i64 0]) (by simp [results, Try.results21, go_sem, q0, q1, q2, q3, hz]) rfl ⟨.inr ⟨t, .slice a1 l1 p1, .slice a2 l2 p2, ?_, rfl, ?_⟩, (HB.out.trans (bset4 (Nat.le_refl _) _ _ _ _)).alloc (by simp; omega) _⟩
      · rw [← HR.out, getT, HS.out]
        simp only
        rw [if_pos (by rw [HL.out]; exact HM.out)]
      · refine RepS.agree (AgreeS.of ((Agree.set4 (L := w.heap.size + 1) (B := w1.heap.size) w1 (.inl (by simp)) _ _ _ _).alloc (by simp) _) ?_) ?_ Hr1.out
        · intro b hb; simp at hb; omega
        · intro b hb; simp at hb; simp; omega
    | succ M =>
      have HM : Hid (¬ m = L) := by have := HdM.out; unfold Hid; omega
      go_wp2_with fail
      obtain ⟨q0, q1, q2, q3⟩ := set4_read (w := w1) (u0 := .int .i64 0) (u1 := .int .u64 0) (u2 := .slice none 0 0) (u3 := .slice none 0 0) g0 g1 g2 g3
      refine bodyPost_ret (v := .tuple #[.agg #[.int .i64 0, .int .u64 0, .slice none 0 0, .slice none 0 0], .int .i64 3]) (by simp [results, Try.results21, go_sem, q0, q1, q2, q3, hz]) rfl ⟨.inl ⟨?_, rfl⟩, (HB.out.trans (bset4 (Nat.le_refl _) _ _ _ _)).alloc (by simp; omega) _⟩
      rw [← HR.out, getT, HS.out]
      simp only
      rw [if_neg (by rw [HL.out]; exact HM.out)]

end Go.Proofs.Ytnnanmpogjmkiaa
