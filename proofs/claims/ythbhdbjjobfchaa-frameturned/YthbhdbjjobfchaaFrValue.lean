/-
  The value, in tlv's words, that a right record has; its mathematics.
-/
import Derived.Test.YthbhdbjjobfchaaFrBase
import Derived.Test.YthbhdbjjobfchaaTlvMany
import Derived.Deep.RegionHeld3
namespace Go.Proofs.Ythbhdbjjobfchaa
open Go.RowKit
open Tlv (Tr BySlS AgreeS Agree)
open Crc (hid Kept Tab)

/-- A record's value. -/
def recT (k : Int) (nm bs : List Int) : Tr 2 := Tr.mk 3 0 [] [(Tr.mk 1 k [] [] : Tr 1), Tr.mk 2 0 nm [], Tr.mk 2 0 bs []]

theorem name_in {W : World} {g o : Nat} {k : Int} {nm : List Int} {v : Value} (h : W.rangeAt g o (recA k nm v)) (hn : nm.length = 32) (hx : ∀ x ∈ nm, 0 ≤ x ∧ x ≤ 255) :
    Tlv.BySl 0 W.heap.size W (.slice (some ⟨g, o + 1, none⟩) 32 32) nm := by
  refine ⟨_, 32, by rw [hn], by omega, by decide, by simp, by omega, hx, fun _ => ⟨g, o + 1, rfl, Nat.zero_le _, ?_, fun i hi => ?_⟩⟩
  · exact World.block_lt_of_cell? _ _ (h 0 _ (recA_0 _ _ _))
  · have := h (1 + i) (.int .u8 (nm.getD i 0)) (by
      rw [recA, Nat.add_comm, List.getElem?_cons_succ, List.getElem?_append_left (by rw [u8s_length]; exact hi)]
      simp [u8s, List.getElem?_eq_getElem hi])
    rw [← this]
    congr 2
    omega

theorem bySl_lift {L : Nat} {V w' : World} {v : Value} {bs : List Int} (h : Tlv.BySl L V.heap.size V v bs) (hb : Below V.heap.size V w') : Tlv.BySl L w'.heap.size w' v bs :=
  h.agree (Agree.below hb) (Nat.le_refl _) hb.size

theorem rep1 {L B : Nat} {w : World} (k : Int) (h0 : 0 ≤ k) (h1 : k ≤ 18446744073709551615) : Tlv.Rep L B w 1 (Tr.mk 1 k [] []) (.slice none 0 0) (.slice none 0 0) :=
  ⟨h0, h1, Tlv.BySl.none _ _ _, Tlv.KSl.none _ _ _ _⟩
theorem rep2 {L B : Nat} {w : World} {v : Value} {bs : List Int} (h : Tlv.BySl L B w v bs) : Tlv.Rep L B w 1 (Tr.mk 2 0 bs []) v (.slice none 0 0) :=
  ⟨Int.le_refl _, by simp [Tr.mk, Tlv.Tr.hd], h, Tlv.KSl.none _ _ _ _⟩

/-- Three values laid in a row. -/
theorem three_in {B : Nat} {w : World} (ts : Tr 1) (tn : Tr 1) (tb : Tr 1) (vn vb : Value) (x0 : Int) (hw : w.heap.size = B)
    (hs : ts = Tr.mk 1 x0 [] []) (h0 : 0 ≤ x0) (h1 : x0 ≤ 18446744073709551615) {nm bs : List Int} (hn : tn = Tr.mk 2 0 nm []) (hb : tb = Tr.mk 2 0 bs []) (bn : Tlv.BySl 0 B w vn nm) (bb : Tlv.BySl 0 B w vb bs) (ty : TypeId) :
    Tlv.KSl 0 (B + 1) (w.alloc (.cells #[.int .i64 1, .int .u64 x0, .slice none 0 0, .slice none 0 0, .int .i64 2, .int .u64 0, vn, .slice none 0 0, .int .i64 2, .int .u64 0, vb, .slice none 0 0] ty))
      (Tlv.Rep 0 (B + 1) (w.alloc (.cells #[.int .i64 1, .int .u64 x0, .slice none 0 0, .slice none 0 0, .int .i64 2, .int .u64 0, vn, .slice none 0 0, .int .i64 2, .int .u64 0, vb, .slice none 0 0] ty)) 1)
      (.slice (some ⟨B, 0, none⟩) 3 3) [ts, tn, tb] := by
  subst hs hn hb hw
  have hA : ∀ o : Obj, Agree 0 w.heap.size w (w.alloc o) := fun o => (Agree.refl _ _ _).alloc (Nat.le_refl _) _
  have hc : ∀ (C : Array Value) (j : Nat), (w.alloc (.cells C ty)).cell? ⟨w.heap.size, j, none⟩ = C[j]? := fun C j => World.cell?_alloc_at _ _ _ _ rfl
  refine ⟨_, 3, rfl, Nat.le_refl _, by decide, by simp, by simp, fun _ => ⟨w.heap.size, 0, rfl, Nat.zero_le _, by omega, fun j t hj => ?_⟩⟩
  match j, hj with
  | 0, hj =>
    simp only [List.getElem?_cons_zero, Option.some.injEq] at hj
    subst hj
    exact ⟨_, _, hc _ _, hc _ _, hc _ _, hc _ _, rep1 _ h0 h1⟩
  | 1, hj =>
    simp only [List.getElem?_cons_succ, List.getElem?_cons_zero, Option.some.injEq] at hj
    subst hj
    exact ⟨_, _, hc _ _, hc _ _, hc _ _, hc _ _, rep2 (bn.agree (hA _) (Nat.le_refl _) (by omega))⟩
  | 2, hj =>
    simp only [List.getElem?_cons_succ, List.getElem?_cons_zero, Option.some.injEq] at hj
    subst hj
    exact ⟨_, _, hc _ _, hc _ _, hc _ _, hc _ _, rep2 (bb.agree (hA _) (Nat.le_refl _) (by omega))⟩

/-- Bytes of tlv, as a walk that holds a world needs it. -/
theorem bytes44 {S : World → Prop} {W0 : World} {L : Nat} {bs : List Int} {v : Value} (hL : bs.length = L) (hS : ∀ V, S V → Below W0.heap.size W0 V) (hb : Tlv.BySl 0 W0.heap.size W0 v bs) :
    ∀ V, S V → Calls Try.prog 44 #[v] V fun e w' => ∃ a' c', e = .returned (.agg #[.int .i64 2, .int .u64 0, .slice a' L c', .slice none 0 0]) ∧ (Tlv.BySl W0.heap.size w'.heap.size w' (.slice a' L c') bs ∧ Below V.heap.size V w') := by
  intro V hV
  have hk := hS V hV
  refine (Tlv.bytes_any v bs V (hb.agree (Agree.below hk) (Nat.le_refl _) hk.size)).mono ?_
  rintro e w' ⟨v', rfl, hv, hb'⟩
  obtain ⟨a', c', rfl, hr⟩ := id hv
  refine ⟨a', c', by rw [hL], ?_, hb'⟩
  rw [← hL]
  exact hv.agree (Agree.refl _ _ _) hk.size (Nat.le_refl _)

theorem number43 (n : Int) (V : World) : Calls Try.prog 43 #[.int .u64 n] V fun e w' => e = .returned (.agg #[.int .i64 1, .int .u64 n, .slice none 0 0, .slice none 0 0]) ∧ Below V.heap.size V w' := Tlv.number_any n V

theorem many42 {L : Nat} {w : World} {k : Int} {nm bs : List Int} {vn vb : Value} (h0 : 0 ≤ k) (h1 : k ≤ 9) (bn : Tlv.BySl L w.heap.size w vn nm) (bb : Tlv.BySl L w.heap.size w vb bs) :
    Calls Try.prog 42 #[.slice (some ⟨w.heap.size, 0, none⟩) 3 3] (w.alloc (.cells #[.int .i64 1, .int .u64 k, .slice none 0 0, .slice none 0 0, .int .i64 2, .int .u64 0, vn, .slice none 0 0, .int .i64 2, .int .u64 0, vb, .slice none 0 0] 88))
      fun e w' => ∃ a3 l3 p3 a4 l4 p4, e = .returned (.agg #[.int .i64 3, .int .u64 0, .slice a3 l3 p3, .slice a4 l4 p4]) ∧ Tlv.Rep w.heap.size w'.heap.size w' 2 (recT k nm bs) (.slice a3 l3 p3) (.slice a4 l4 p4) ∧ Below w.heap.size w w' := by
  have h := three_in (B := w.heap.size) (w := w) (Tr.mk 1 k [] []) (Tr.mk 2 0 nm []) (Tr.mk 2 0 bs []) vn vb k rfl rfl h0 (by omega) rfl rfl (bn.agree (Agree.refl _ _ _) (Nat.zero_le _) (Nat.le_refl _)) (bb.agree (Agree.refl _ _ _) (Nat.zero_le _) (Nat.le_refl _)) 88
  refine (Tlv.many_any _ _ _ (by simpa using h) (by omega)).mono ?_
  rintro e w5 ⟨sb', sk', rfl, hr5, hb5⟩
  obtain ⟨a3, l3, p3, a4, l4, p4, rfl, rfl⟩ := hr5.sl
  exact ⟨_, _, _, _, _, _, rfl, hr5.agree (Agree.refl _ _ _) (by simp) (Nat.le_refl _), ((Below.refl _ w).alloc (Nat.le_refl _) _).trans (hb5.mono (by simp))⟩

set_option maxHeartbeats 2000000 in
set_option maxRecDepth 100000 in
theorem value_any (k : Int) (nm bs : List Int) (v : Value) (w : World) (hk0 : 1 ≤ k) (hk1 : k ≤ 9) (hn : nm.length = 32) (hx : ∀ x ∈ nm, 0 ≤ x ∧ x ≤ 255) (hb : Tlv.BySl 0 w.heap.size w v bs) :
    Calls Try.prog 28 #[.agg (recA k nm v).toArray] w fun e w' => ∃ sb sk, e = .returned (.agg #[.int .i64 3, .int .u64 0, sb, sk]) ∧ Tlv.Rep w.heap.size w'.heap.size w' 2 (recT k nm bs) sb sk ∧ Below w.heap.size w w' := by
  obtain ⟨a, cap, rfl, hr⟩ := id hb
  clear hr
  have HB := hid hb
  have hc0 := recA_0 k nm (.slice a bs.length cap)
  have hc33 := recA_33 k nm (.slice a bs.length cap) hn
  have HN := hid hn
  have HX := hid hx
  clear hb hn hx
  obtain ⟨C, hC⟩ : ∃ C, recA k nm (.slice a bs.length cap) = C := ⟨_, rfl⟩
  have HC := hid hC
  rw [hC] at hc0 hc33
  rw [hC]
  clear hC
  go_enter Try.func28, Try.ntmps28
  go_wp2
  obtain ⟨W0, hW0⟩ : ∃ W0, (w.alloc (.cells C.toArray 35)).alloc (.cells #[.int .i64 0, .int .u64 0, .slice none 0 0, .slice none 0 0] 88) = W0 := ⟨_, rfl⟩
  have hz : W0.heap.size = w.heap.size + 2 := by rw [← hW0]; simp
  have hbel : Below w.heap.size w W0 := by rw [← hW0]; exact ((Below.refl _ _).alloc (Nat.le_refl _) _).alloc (by simp) _
  have hrg : W0.rangeAt w.heap.size 0 C := by
    rw [← hW0]
    refine World.rangeAt_alloc (fun j v hv => ?_) _
    rw [Nat.zero_add, World.cell?_alloc_at _ _ _ _ rfl]
    simpa using hv
  have HG : Hid (∀ j u, (#[.int .i64 0, .int .u64 0, .slice none 0 0, .slice none 0 0] : Array Value)[j]? = some u → W0.cell? ⟨w.heap.size + 1, j, none⟩ = some u) := fun j u hj => by
    rw [← hW0, World.cell?_alloc_at _ _ _ _ (by simp), hj]
  have HF : Hid (∀ j, W0.frozen? ⟨w.heap.size + 1, j, none⟩ = false) := fun j => by
    rw [← hW0, World.frozen?_alloc_at _ _ _ _ (by simp)]
  rw [hW0]
  clear hW0
  have r0 : ∀ V, Below (w.heap.size + 1) W0 V → V.cell? ⟨w.heap.size, 0, none⟩ = some (.int .i64 k) := fun V h => (h.cell (p := ⟨w.heap.size, 0, none⟩) (by simp)).trans (hrg 0 _ hc0)
  have r33 : ∀ V, Below (w.heap.size + 1) W0 V → V.cell? ⟨w.heap.size, 33, none⟩ = some (.slice a bs.length cap) := fun V h => (h.cell (p := ⟨w.heap.size, 33, none⟩) (by simp)).trans (by have := hrg 33 _ hc33; simpa using this)
  have hwn := name_in (by rw [HC.out]; exact hrg) HN.out HX.out
  rw [Nat.zero_add] at hwn
  have K44n := hid (bytes44 (S := fun V => Below W0.heap.size W0 V) HN.out (fun V h => h) hwn)
  have K44b := hid (bytes44 (S := fun V => Below W0.heap.size W0 V) (L := bs.length) rfl (fun V h => h) (HB.out.agree (Agree.below hbel) (Nat.le_refl _) hbel.size))
  have HZ := hid hz
  have HZ2 : Hid (w.heap.size + 1 ≤ W0.heap.size) := by rw [Hid]; omega
  have HBEL := hid hbel
  clear hz hbel hrg hwn hc0 hc33
  have hwk : IntKind.u64.wrap k = k := by rw [IntKind.wrap_u64]; omega
  go_region_held3 (fun V => Below (w.heap.size + 1) W0 V) (first | (with_reducible exact Below.refl _ _) | (with_reducible exact (Below.refl _ _).drew) | (with_reducible exact HK2.out.mono HZ2.out) | (with_reducible exact HK3.out.mono HZ2.out) | (with_reducible exact HK4.out.mono HZ2.out) | (with_reducible exact (HK4.out.alloc HK4.out.size _).mono HZ2.out) | (with_reducible exact HK5.out.mono HZ2.out) | (with_reducible exact (HK5.out.mono HZ2.out).trans (Tlv.bset4 (Nat.le_refl _) _ _ _ _))) (first
    | (go_at_call 43; refine (number43 _ _).mono ?_; rintro e w2 ⟨rfl, hb2⟩; have HK2 : Hid (Below W0.heap.size W0 w2) := (Below.refl _ _).drew.trans hb2; clear hb2)
    | (go_at_call_of 44 (Value.slice (some ⟨w.heap.size, 1, none⟩) 32 32); refine (K44n.out _ ?_).mono ?_; (with_reducible exact HK2.out); rintro e w3 ⟨an, cn, rfl, hv3, hb3⟩; have HV3 := hid hv3; have HK3 : Hid (Below W0.heap.size W0 w3) := HK2.out.trans (hb3.mono HK2.out.size); clear hv3 hb3)
    | (go_at_call_of 44 (Value.slice a bs.length cap); refine (K44b.out _ ?_).mono ?_; (with_reducible exact HK3.out); rintro e w4 ⟨ab, cb, rfl, hv4, hb4⟩; have HV3' := hid (bySl_lift HV3.out hb4); have HV4 := hid hv4; have HK4 : Hid (Below W0.heap.size W0 w4) := HK3.out.trans (hb4.mono HK3.out.size); clear hv4 hb4 HV3)
    | (go_at_call 42; refine (many42 (by omega) hk1 HV3'.out HV4.out).mono ?_; rintro e w5 ⟨a3, l3, p3, a4, l4, p4, rfl, hr5, hb5⟩; have HR5 := hid hr5; have HK5 : Hid (Below W0.heap.size W0 w5) := HK4.out.trans (hb5.mono HK4.out.size); have hz5 : w.heap.size + 1 < w5.heap.size := (by have h1 := HK5.out.size; have h2 := HZ.out; omega); have hf5 : ∀ j, w5.frozen? ⟨w.heap.size + 1, j, none⟩ = false := (fun j => (HK5.out.frozen (p := ⟨w.heap.size + 1, j, none⟩) (by have h2 := HZ.out; simp; omega)).trans (HF.out j)); have hc5 : ∀ j u, (#[.int .i64 0, .int .u64 0, .slice none 0 0, .slice none 0 0] : Array Value)[j]? = some u → w5.cell? ⟨w.heap.size + 1, j, none⟩ = some u := (fun j u hj => (HK5.out.cell (p := ⟨w.heap.size + 1, j, none⟩) (by have h2 := HZ.out; simp; omega)).trans (HG.out j u hj)); have g0 := hc5 0 _ rfl; have g1 := hc5 1 _ rfl; have g2 := hc5 2 _ rfl; have g3 := hc5 3 _ rfl; clear hr5 hb5 hc5))
  go_wp2_with fail
  obtain ⟨q0, q1, q2, q3⟩ := Tlv.set4_read (u0 := .int .i64 3) (u1 := .int .u64 0) (u2 := .slice a3 l3 p3) (u3 := .slice a4 l4 p4) g0 g1 g2 g3
  refine bodyPost_ret (v := .agg #[.int .i64 3, .int .u64 0, .slice a3 l3 p3, .slice a4 l4 p4]) (by simp [results, Try.results28, go_sem, q0, q1, q2, q3]) rfl ⟨_, _, rfl, ?_, ?_⟩
  · have h1 := HK4.out.size
    have h2 := HZ.out
    exact HR5.out.agree (Agree.set4 _ (.inl (by omega)) _ _ _ _) (by omega) (by simp)
  · exact HBEL.out.trans (((HK5.out.mono HZ2.out).mono (Nat.le_succ _)).trans (Tlv.bset4 (Nat.le_succ _) _ _ _ _))
end Go.Proofs.Ythbhdbjjobfchaa
