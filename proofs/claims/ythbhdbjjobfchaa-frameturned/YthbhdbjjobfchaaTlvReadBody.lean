/-
  What readBody of tlv answers.
-/
import Derived.Test.YthbhdbjjobfchaaTlvReadList
import Derived.Test.YthbhdbjjobfchaaTlvClone
namespace Go.Proofs.Ythbhdbjjobfchaa.Tlv
open Go.RowKit

/-- What readBody and readList do, where lists may be nested d deep. -/
def ListOk (d : Nat) : Prop := ∀ (v : Value) (bs : List Int) (w : World), BySl 0 w.heap.size w v bs → bs.length ≤ 65535 →
  Calls Try.prog 77 #[v, .int .i64 d] w fun e w' => ((rdKids d bs = none ∧ e = .returned (.tuple #[.slice none 0 0, .bool false])) ∨
    (∃ (ks : List (Tr d)) (sk : Value), rdKids d bs = some ks ∧ e = .returned (.tuple #[sk, .bool true]) ∧ KSl w.heap.size w'.heap.size w' (Rep w.heap.size w'.heap.size w' d) sk ks)) ∧ Below w.heap.size w w'

set_option maxHeartbeats 400000 in
theorem listOk_zero : ListOk 0 := by
  intro v bs w h _
  obtain ⟨a, cap, rfl, hr⟩ := h
  clear hr
  go_enter Try.func77, Try.ntmps77
  go_wp2_with fail
  go_ret2
  exact ⟨.inl ⟨rfl, rfl⟩, Below.refl _ _⟩

theorem listOk_succ {d : Nat} (hd : ReadOk d) (hd8 : d ≤ 8) : ListOk (d + 1) := by
  intro v bs w h hl
  have := readList_any hd hd8 v bs w h hl
  rw [show (((d + 1 : Nat) : Int)) = (d : Int) + 1 by omega]
  exact this

/-- The block of a result that is still empty, behind a call. -/
theorem res_facts {w w1 : World} (hb : Below (w.alloc (Obj.cells #[Value.int IntKind.i64 0, Value.int IntKind.u64 0, Value.slice none 0 0, Value.slice none 0 0] 88)).heap.size (w.alloc (Obj.cells #[Value.int IntKind.i64 0, Value.int IntKind.u64 0, Value.slice none 0 0, Value.slice none 0 0] 88)) w1) :
    w.heap.size < w1.heap.size ∧ w1.cell? ⟨w.heap.size, 0, none⟩ = some (.int .i64 0) ∧ w1.cell? ⟨w.heap.size, 1, none⟩ = some (.int .u64 0) ∧ w1.cell? ⟨w.heap.size, 2, none⟩ = some (.slice none 0 0) ∧ w1.cell? ⟨w.heap.size, 3, none⟩ = some (.slice none 0 0) ∧ (∀ o, w1.frozen? ⟨w.heap.size, o, none⟩ = false) ∧ Below w.heap.size w w1 := by
  obtain ⟨hc, hf⟩ := bcell hb
  have hz := hb.size
  simp at hz
  refine ⟨by omega, ?_, ?_, ?_, ?_, fun o => ?_, ((Below.refl _ _).alloc (Nat.le_refl _) _).trans (hb.mono (by simp))⟩
  · rw [hc _ _ (by simp)]; simp [go_sem]
  · rw [hc _ _ (by simp)]; simp [go_sem]
  · rw [hc _ _ (by simp)]; simp [go_sem]
  · rw [hc _ _ (by simp)]; simp [go_sem]
  · rw [hf _ _ (by simp)]; simp [go_sem]

theorem pow_le8 (k : Nat) (h : k ≤ 8) : (256 : Int) ^ k ≤ 18446744073709551616 := by
  have : k = 0 ∨ k = 1 ∨ k = 2 ∨ k = 3 ∨ k = 4 ∨ k = 5 ∨ k = 6 ∨ k = 7 ∨ k = 8 := by omega
  rcases this with rfl | rfl | rfl | rfl | rfl | rfl | rfl | rfl | rfl <;> decide

/-- What readBody does. -/
def BodyOk (d : Nat) : Prop := ∀ (tag : Int) (v : Value) (bs : List Int) (w : World), BySl 0 w.heap.size w v bs → bs.length ≤ 65535 →
  Calls Try.prog 71 #[.int .i64 tag, v, .int .i64 d] w fun e w' => ((rdBody d (rdKids d) tag bs = none ∧ ∃ (x y : Int) (a a' : Option Addr) (l c l' c' : Nat), e = .returned (.tuple #[.agg #[.int .i64 x, .int .u64 y, .slice a l c, .slice a' l' c'], .bool false])) ∨
    (∃ (t : Tr (d + 1)) (sb sk : Value), rdBody d (rdKids d) tag bs = some t ∧ e = .returned (.tuple #[.agg #[.int .i64 t.hd.1, .int .u64 t.hd.2.1, sb, sk], .bool true]) ∧ Rep w.heap.size w'.heap.size w' (d + 1) t sb sk)) ∧ Below w.heap.size w w'

set_option maxHeartbeats 1000000 in
set_option maxRecDepth 100000 in
theorem bodyOk_of {d : Nat} (hL : ListOk d) : BodyOk d := by
  intro tag v bs w h hl
  obtain ⟨a, cap, rfl, hr⟩ := id h
  clear hr
  have H := hid h
  clear h
  obtain ⟨R, hR⟩ : ∃ R, rdBody d (rdKids d) tag bs = R := ⟨_, rfl⟩
  rw [hR]
  have HR := hid hR
  clear hR
  have hS : w.heap.size ≤ (w.alloc (Obj.cells #[Value.int IntKind.i64 0, Value.int IntKind.u64 0, Value.slice none 0 0, Value.slice none 0 0] 88)).heap.size := by simp
  have hbs : Hid (BySl 0 (w.alloc (Obj.cells #[Value.int IntKind.i64 0, Value.int IntKind.u64 0, Value.slice none 0 0, Value.slice none 0 0] 88)).heap.size (w.alloc (Obj.cells #[Value.int IntKind.i64 0, Value.int IntKind.u64 0, Value.slice none 0 0, Value.slice none 0 0] 88)) (.slice a bs.length cap) bs) := H.out.agree ((Agree.refl _ _ _).alloc (Nat.le_refl _) _) (Nat.le_refl _) hS
  clear hS
  by_cases h1 : tag = 1
  · subst h1
    by_cases hno : 8 < bs.length ∨ bs.head? = some 0
    · have HNo := hid hno
      clear hno
      go_enter Try.func71, Try.ntmps71
      go_wp2_with fail
      refine (readNumber_no _ bs _ hbs.out HNo.out).mono ?_
      rintro e w1 ⟨rfl, hw1⟩
      rw [hw1]
      clear hw1 w1
      go_wp2_with fail
      refine (number_any 0 _).mono ?_
      rintro e w1 ⟨rfl, hb1⟩
      obtain ⟨hz, g0, g1, g2, g3, gf, hbel⟩ := res_facts hb1
      have HB := hid hbel
      clear hb1 hbel
      go_wp2_with fail
      obtain ⟨q0, q1, q2, q3⟩ := set4_read (u0 := .int .i64 1) (u1 := .int .u64 0) (u2 := .slice none 0 0) (u3 := .slice none 0 0) g0 g1 g2 g3
      refine bodyPost_ret (v := .tuple #[.agg #[.int .i64 1, .int .u64 0, .slice none 0 0, .slice none 0 0], .bool false]) (by simp [results, Try.results71, go_sem, q0, q1, q2, q3]) rfl ⟨.inl ⟨?_, _, _, _, _, _, _, _, _, rfl⟩, HB.out.trans (bset4 (Nat.le_refl _) _ _ _ _)⟩
      rw [← HR.out, rdBody, if_pos rfl, if_pos HNo.out]
    · obtain ⟨h8, hh⟩ := not_or.1 hno
      have HNo := hid hno
      have Hh := hid hh
      have hby : ∀ x ∈ bs, 0 ≤ x ∧ x ≤ 255 := by obtain ⟨_, _, _, _, _, _, _, h, _⟩ := H.out; exact h
      have hv := valB_bd bs hby
      have hp := pow_le8 bs.length (by omega)
      have hvb : Hid (0 ≤ valB bs ∧ valB bs ≤ 18446744073709551615) := ⟨hv.1, by omega⟩
      clear hno hh hv hp hby
      go_enter Try.func71, Try.ntmps71
      go_wp2_with fail
      refine (readNumber_yes _ bs _ hbs.out h8 Hh.out).mono ?_
      rintro e w1 ⟨rfl, hw1⟩
      rw [hw1]
      clear hw1 w1
      go_wp2_with fail
      refine (number_any _ _).mono ?_
      rintro e w1 ⟨rfl, hb1⟩
      obtain ⟨hz, g0, g1, g2, g3, gf, hbel⟩ := res_facts hb1
      have HB := hid hbel
      clear hb1 hbel
      go_wp2_with fail
      obtain ⟨q0, q1, q2, q3⟩ := set4_read (u0 := .int .i64 1) (u1 := .int .u64 (valB bs)) (u2 := .slice none 0 0) (u3 := .slice none 0 0) g0 g1 g2 g3
      refine bodyPost_ret (v := .tuple #[.agg #[.int .i64 1, .int .u64 (valB bs), .slice none 0 0, .slice none 0 0], .bool true]) (by simp [results, Try.results71, go_sem, q0, q1, q2, q3]) rfl ⟨.inr ⟨Tr.mk 1 (valB bs) [] [], _, _, ?_, rfl, ⟨hvb.out.1, hvb.out.2, BySl.none _ _ _, KSl.none _ _ _ _⟩⟩, HB.out.trans (bset4 (Nat.le_refl _) _ _ _ _)⟩
      rw [← HR.out, rdBody, if_pos rfl, if_neg HNo.out]
  · by_cases h2 : tag = 2
    · subst h2
      go_enter Try.func71, Try.ntmps71
      go_wp2_with fail
      refine (bytes_any _ bs _ hbs.out).mono ?_
      rintro e w1 ⟨v', rfl, hv, hb1⟩
      obtain ⟨a', cap', rfl, hr'⟩ := id hv
      clear hr'
      have HV := hid hv
      obtain ⟨hz, g0, g1, g2, g3, gf, hbel⟩ := res_facts hb1
      have HB := hid hbel
      clear hb1 hbel hv
      go_wp2_with fail
      obtain ⟨q0, q1, q2, q3⟩ := set4_read (u0 := .int .i64 2) (u1 := .int .u64 0) (u2 := .slice a' bs.length cap') (u3 := .slice none 0 0) g0 g1 g2 g3
      refine bodyPost_ret (v := .tuple #[.agg #[.int .i64 2, .int .u64 0, .slice a' bs.length cap', .slice none 0 0], .bool true]) (by simp [results, Try.results71, go_sem, q0, q1, q2, q3]) rfl ⟨.inr ⟨Tr.mk 2 0 bs [], _, _, ?_, rfl, ⟨Int.le_refl _, (by decide : (0 : Int) ≤ 18446744073709551615), ?_, KSl.none _ _ _ _⟩⟩, HB.out.trans (bset4 (Nat.le_refl _) _ _ _ _)⟩
      · rw [← HR.out, rdBody, if_neg (by omega), if_pos rfl]
      · exact HV.out.agree (Agree.set4 _ (.inl (by simp)) _ _ _ _) (by simp) (by simp)
    · by_cases h3 : tag = 3
      · subst h3
        go_enter Try.func71, Try.ntmps71
        go_wp2_with fail
        refine (hL _ bs _ hbs.out hl).mono ?_
        rintro e w1 ⟨hres, hb1⟩
        obtain ⟨hz, g0, g1, g2, g3, gf, hbel⟩ := res_facts hb1
        have HB := hid hbel
        clear hb1 hbel
        rcases hres with ⟨hn, rfl⟩ | ⟨ks, sk, hs, rfl, hk⟩
        · have HN := hid hn
          clear hn
          go_wp2_with fail
          obtain ⟨q0, q1, q2, q3⟩ := set4_read (u0 := .int .i64 3) (u1 := .int .u64 0) (u2 := .slice none 0 0) (u3 := .slice none 0 0) g0 g1 g2 g3
          refine bodyPost_ret (v := .tuple #[.agg #[.int .i64 3, .int .u64 0, .slice none 0 0, .slice none 0 0], .bool false]) (by simp [results, Try.results71, go_sem, q0, q1, q2, q3]) rfl ⟨.inl ⟨?_, _, _, _, _, _, _, _, _, rfl⟩, HB.out.trans (bset4 (Nat.le_refl _) _ _ _ _)⟩
          rw [← HR.out, rdBody, if_neg (by omega), if_neg (by omega), if_pos rfl, HN.out]
          rfl
        · obtain ⟨a', cap', rfl, hr'⟩ := id hk
          clear hr'
          have HS := hid hs
          have HK := hid hk
          clear hs hk
          go_wp2_with fail
          obtain ⟨q0, q1, q2, q3⟩ := set4_read (u0 := .int .i64 3) (u1 := .int .u64 0) (u2 := .slice none 0 0) (u3 := .slice a' ks.length cap') g0 g1 g2 g3
          refine bodyPost_ret (v := .tuple #[.agg #[.int .i64 3, .int .u64 0, .slice none 0 0, .slice a' ks.length cap'], .bool true]) (by simp [results, Try.results71, go_sem, q0, q1, q2, q3]) rfl ⟨.inr ⟨Tr.mk 3 0 [] ks, _, _, ?_, rfl, ⟨Int.le_refl _, (by decide : (0 : Int) ≤ 18446744073709551615), BySl.none _ _ _, ?_⟩⟩, HB.out.trans (bset4 (Nat.le_refl _) _ _ _ _)⟩
          · rw [← HR.out, rdBody, if_neg (by omega), if_neg (by omega), if_pos rfl, HS.out]
            rfl
          · have A4 := Agree.set4 (L := (w.alloc (Obj.cells #[Value.int IntKind.i64 0, Value.int IntKind.u64 0, Value.slice none 0 0, Value.slice none 0 0] 88)).heap.size) (B := w1.heap.size) w1 (b := w.heap.size) (o0 := 0) (o1 := 1) (o2 := 2) (o3 := 3) (.inl (by simp)) (.int .i64 3) (.int .u64 0) (.slice none 0 0) (.slice a' ks.length cap')
            have hsz : w1.heap.size ≤ ((((w1.setCell ⟨w.heap.size, 0, none⟩ (.int .i64 3)).setCell ⟨w.heap.size, 1, none⟩ (.int .u64 0)).setCell ⟨w.heap.size, 2, none⟩ (.slice none 0 0)).setCell ⟨w.heap.size, 3, none⟩ (.slice a' ks.length cap')).heap.size := by simp
            exact HK.out.agree (L' := w.heap.size) (fun _ _ _ r => Rep.agree (L' := w.heap.size) A4 (by simp) hsz r) A4 (by simp) hsz
      · go_enter Try.func71, Try.ntmps71
        go_wp2_with fail
        refine bodyPost_ret (v := .tuple #[.agg #[.int .i64 0, .int .u64 0, .slice none 0 0, .slice none 0 0], .bool false]) (by simp [results, Try.results71, go_sem]) rfl ⟨.inl ⟨?_, _, _, _, _, _, _, _, _, rfl⟩, (Below.refl _ _).alloc (Nat.le_refl _) _⟩
        rw [← HR.out, rdBody, if_neg h1, if_neg h2, if_neg h3]

end Go.Proofs.Ythbhdbjjobfchaa.Tlv
