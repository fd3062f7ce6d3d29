/-
  The form that bytes begin with, cut out by its own head.
-/
import Derived.Test.YthbhdbjjobfchaaFrPut
namespace Go.Proofs.Ythbhdbjjobfchaa
open Go.RowKit
open Tlv (Tr BySlS AgreeS Agree)
open Crc (hid Kept Tab)

theorem bySl_take {L B : Nat} {w : World} {a : Option Addr} {cap E : Nat} {xs : List Int} (h : Tlv.BySl L B w (.slice a xs.length cap) xs) (hE : E ≤ xs.length) : Tlv.BySl L B w (.slice a E cap) (xs.take E) := by
  obtain ⟨a', cap', e, h2, h3, h4, h5, h6, h7⟩ := h
  simp only [Value.slice.injEq, true_and] at e
  obtain ⟨rfl, rfl⟩ := e
  have hl : (xs.take E).length = E := by rw [List.length_take]; omega
  refine ⟨a, cap, by rw [hl], by rw [hl]; omega, h3, fun e => ⟨by rw [(h4 e).1]; simp, (h4 e).2⟩, by rw [hl]; omega, fun x hx => h6 x (List.mem_of_mem_take hx), fun hne => ?_⟩
  obtain ⟨b, o, e, hL, hB, hc⟩ := h7 (fun e => hne (by rw [e]; simp))
  refine ⟨b, o, e, hL, hB, fun i hi => ?_⟩
  rw [hl] at hi
  rw [hc i (by omega)]
  simp [List.getElem?_take_of_lt hi]

set_option maxHeartbeats 2000000 in
set_option maxRecDepth 100000 in
theorem first_any (v : Value) (xs : List Int) (w : World) (h : Tlv.BySl 0 w.heap.size w v xs) :
    Calls Try.prog 34 #[v] w fun e w' => ((Tlv.rd 8 xs = none ∧ ∃ x y a l c a' l' c' sz, e = .returned (.tuple #[.agg #[.int .i64 x, .int .u64 y, .slice a l c, .slice a' l' c'], .int .i64 sz, .bool false])) ∨
      (∃ (t : Tr 9) (m : Nat) (a : Option Addr) (l c : Nat) (a' : Option Addr) (l' c' : Nat), Tlv.rd 8 xs = some (t, m) ∧ e = .returned (.tuple #[.agg #[.int .i64 t.hd.1, .int .u64 t.hd.2.1, .slice a l c, .slice a' l' c'], .int .i64 m, .bool true]) ∧ Tlv.Rep w.heap.size w'.heap.size w' 9 t (.slice a l c) (.slice a' l' c'))) ∧ Below w.heap.size w w' := by
  obtain ⟨a, cap, rfl, h2, h3, h4, h5, h6, h7⟩ := id h
  have H := hid h
  clear h h4
  by_cases hl : xs.length < 3
  · have hl' : (xs.length : Int) < 3 := by omega
    have HR := hid (rd_short hl)
    clear h7 h6 hl
    go_enter Try.func34, Try.ntmps34
    go_wp2_with fail
    refine bodyPost_ret (v := .tuple #[.agg #[.int .i64 0, .int .u64 0, .slice none 0 0, .slice none 0 0], .int .i64 0, .bool false]) (by simp [results, Try.results34, go_sem]) rfl ⟨.inl ⟨HR.out, 0, 0, none, 0, 0, none, 0, 0, 0, rfl⟩, ?_⟩
    exact (Below.refl _ _).alloc (Nat.le_refl _) _
  · obtain ⟨b, o, rfl, _, hb, hc⟩ := h7 (by intro e; subst e; simp at hl)
    have c1 := hc 1 (by omega)
    have c2 := hc 2 (by omega)
    have b1 := h6 (xs.getD 1 0) (by rw [List.getD_eq_getElem?_getD, List.getElem?_eq_getElem (by omega)]; simp)
    have b2 := h6 (xs.getD 2 0) (by rw [List.getD_eq_getElem?_getD, List.getElem?_eq_getElem (by omega)]; simp)
    have HEN : Hid (Tlv.endOf xs = 3 + (xs.getD 1 0 * 256 + xs.getD 2 0).toNat) := rfl
    generalize xs.getD 1 0 = x1 at *
    generalize xs.getD 2 0 = x2 at *
    have hl' : (3 : Int) ≤ xs.length := by omega
    have HL : Hid (3 ≤ xs.length) := by rw [Hid]; omega
    clear hc h6 h7 hl
    go_enter Try.func34, Try.ntmps34
    go_wp2_with fail
    go_quiet (fail)
    obtain ⟨E, hE⟩ : ∃ E : Nat, 3 + x1 * 256 + x2 = (E : Int) := ⟨(3 + x1 * 256 + x2).toNat, by omega⟩
    have HE : Hid (Tlv.endOf xs = E) := by rw [Hid, HEN.out]; omega
    have hE3 : 3 ≤ E := by omega
    rw [hE]
    obtain ⟨W1, hW1⟩ : ∃ W1, (w.alloc (Obj.cells #[Value.int IntKind.i64 0, Value.int IntKind.u64 0, Value.slice none 0 0, Value.slice none 0 0] 88)).drewN nq = W1 := ⟨_, rfl⟩
    have hbel : Below w.heap.size w W1 := by rw [← hW1]; exact below_drewN ((Below.refl _ _).alloc (Nat.le_refl _) _) _
    have HG : Hid (∀ j u, (#[.int .i64 0, .int .u64 0, .slice none 0 0, .slice none 0 0] : Array Value)[j]? = some u → W1.cell? ⟨w.heap.size, j, none⟩ = some u) := fun j u hj => by
      rw [← hW1]
      rw [World.cell?_drewN, World.cell?_alloc_at _ _ _ _ (by simp), hj]
    have HF : Hid (∀ j, W1.frozen? ⟨w.heap.size, j, none⟩ = false) := fun j => by
      rw [← hW1, World.frozen?_drewN, World.frozen?_alloc_at _ _ _ _ (by simp)]
    have hz1 : w.heap.size < W1.heap.size := by rw [← hW1]; simp
    rw [hW1]
    clear hW1 hE c1 c2 b1 b2 HEN nq
    have HBEL := hid hbel
    by_cases hlt : xs.length < E
    · have HR : Hid (Tlv.rd 8 xs = none) := rd_cut (by rw [HE.out]; exact hlt)
      have g0 := HG.out 0 _ rfl
      have g1 := HG.out 1 _ rfl
      have g2 := HG.out 2 _ rfl
      have g3 := HG.out 3 _ rfl
      have gf := HF.out
      clear hbel
      go_wp2_with fail
      obtain ⟨q0, q1, q2, q3⟩ := Tlv.set4_read (u0 := .int .i64 0) (u1 := .int .u64 0) (u2 := .slice none 0 0) (u3 := .slice none 0 0) g0 g1 g2 g3
      refine bodyPost_ret (v := .tuple #[.agg #[.int .i64 0, .int .u64 0, .slice none 0 0, .slice none 0 0], .int .i64 0, .bool false]) (by simp [results, Try.results34, go_sem, q0, q1, q2, q3]) rfl ⟨.inl ⟨HR.out, 0, 0, none, 0, 0, none, 0, 0, 0, rfl⟩, ?_⟩
      exact HBEL.out.trans (Tlv.bset4 (Nat.le_refl _) _ _ _ _)
    · have HLE : Hid (E ≤ xs.length) := by rw [Hid]; omega
      have hEc : E ≤ cap := by omega
      have hEm : (E : Int) ≤ xs.length := by omega
      clear hbel
      go_wp2_with fail
      refine (Tlv.get_any _ (xs.take E) _ (bySl_take (H.out.agree (Agree.below HBEL.out) (Nat.le_refl _) HBEL.out.size) HLE.out)).mono ?_
      rintro e w2 ⟨hres, hb2⟩
      have HB2 := hid hb2
      have hz2 : w.heap.size < w2.heap.size := by have := hb2.size; omega
      have gf : ∀ j, w2.frozen? ⟨w.heap.size, j, none⟩ = false := fun j => (hb2.frozen (p := ⟨w.heap.size, j, none⟩) hz1).trans (HF.out j)
      have hcg := fun j u hj => (hb2.cell (p := ⟨w.heap.size, j, none⟩) hz1).trans (HG.out j u hj)
      have g0 := hcg 0 _ rfl
      have g1 := hcg 1 _ rfl
      have g2 := hcg 2 _ rfl
      have g3 := hcg 3 _ rfl
      have HM : Hid (Tlv.getT (xs.take E) = (Tlv.rd 8 xs).map Prod.fst) := by rw [Hid, ← HE.out]; exact get_take HL.out (by rw [HE.out]; exact HLE.out)
      have hm := HM.out
      clear hcg hb2
      rcases hres with ⟨hn, rfl⟩ | ⟨t, sb, sk, hs, rfl, hr⟩
      · have HR : Hid (Tlv.rd 8 xs = none) := by
          rw [hn] at hm
          exact Option.map_eq_none_iff.1 hm.symm
        clear hm hn
        go_wp2_with fail
        obtain ⟨q0, q1, q2, q3⟩ := Tlv.set4_read (u0 := .int .i64 0) (u1 := .int .u64 0) (u2 := .slice none 0 0) (u3 := .slice none 0 0) g0 g1 g2 g3
        obtain ⟨r0, r1, r2, r3⟩ := Tlv.set4_read (u0 := .int .i64 0) (u1 := .int .u64 0) (u2 := .slice none 0 0) (u3 := .slice none 0 0) q0 q1 q2 q3
        refine bodyPost_ret (v := .tuple #[.agg #[.int .i64 0, .int .u64 0, .slice none 0 0, .slice none 0 0], .int .i64 E, .bool false]) (by simp [results, Try.results34, go_sem, r0, r1, r2, r3]) rfl ⟨.inl ⟨HR.out, 0, 0, none, 0, 0, none, 0, 0, E, rfl⟩, ?_⟩
        exact (HBEL.out.trans (HB2.out.mono HBEL.out.size)).trans ((Tlv.bset4 (Nat.le_refl _) _ _ _ _).trans (Tlv.bset4 (Nat.le_refl _) _ _ _ _))
      · have HR : Hid (Tlv.rd 8 xs = some (t, E)) := by
          rw [hs] at hm
          obtain ⟨⟨t', m⟩, hq, ht⟩ := Option.map_eq_some_iff.1 hm.symm
          have h1 := rd_end hq
          rw [HE.out] at h1
          simp only at ht
          rw [Hid, hq, ht, h1]
        obtain ⟨a1, l1, p1, a2, l2, p2, rfl, rfl⟩ := hr.sl
        have HRP := hid hr
        clear hm hs hr
        go_wp2_with fail
        obtain ⟨q0, q1, q2, q3⟩ := Tlv.set4_read (u0 := .int .i64 t.hd.1) (u1 := .int .u64 t.hd.2.1) (u2 := .slice a1 l1 p1) (u3 := .slice a2 l2 p2) g0 g1 g2 g3
        obtain ⟨r0, r1, r2, r3⟩ := Tlv.set4_read (u0 := .int .i64 t.hd.1) (u1 := .int .u64 t.hd.2.1) (u2 := .slice a1 l1 p1) (u3 := .slice a2 l2 p2) q0 q1 q2 q3
        refine bodyPost_ret (v := .tuple #[.agg #[.int .i64 t.hd.1, .int .u64 t.hd.2.1, .slice a1 l1 p1, .slice a2 l2 p2], .int .i64 E, .bool true]) (by simp [results, Try.results34, go_sem, r0, r1, r2, r3]) rfl ⟨.inr ⟨t, E, _, _, _, _, _, _, HR.out, rfl, ?_⟩, ?_⟩
        · exact (HRP.out.agree (Agree.set4 _ (.inl hz1) _ _ _ _) (by omega) (Nat.le_refl _)).agree (Agree.set4 _ (.inl (Nat.lt_succ_self _)) _ _ _ _) (Nat.le_succ _) (by simp)
        · exact (HBEL.out.trans (HB2.out.mono HBEL.out.size)).trans ((Tlv.bset4 (Nat.le_refl _) _ _ _ _).trans (Tlv.bset4 (Nat.le_refl _) _ _ _ _))
end Go.Proofs.Ythbhdbjjobfchaa
