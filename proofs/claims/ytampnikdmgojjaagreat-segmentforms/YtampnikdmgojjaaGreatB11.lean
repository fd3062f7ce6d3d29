/- Of the proof: the texts SgVal, SgMany, SgValM, SgBin, SgFind, one behind the other. -/
import Derived.Test.YtampnikdmgojjaaGreatB6
import Derived.Test.YtampnikdmgojjaaGreatB10
section
/-
  An entry's value in tlv's words.
-/
namespace Go.Proofs.YtampnikdmgojjaaGreat.Sg
open Go.RowKit
open Tlv (Tr Agree)
open Sim (hid Kp No)

/-- An entry's value, and that of entries. -/
def entT (e : Ent) : Tr 2 := Tr.mk 3 0 [] [(Tr.mk 2 0 e.1 [] : Tr 1), Tr.mk 1 e.2.1 [] [], Tr.mk 1 e.2.2.1 [] [], Tr.mk 1 e.2.2.2 [] []]
def entsT (d : List Ent) : Tr 3 := Tr.mk 3 0 [] (d.map entT)

set_option maxHeartbeats 1000000 in
set_option maxRecDepth 100000 in
theorem segnum_any (n : Int) (w : World) (h0 : 0 ≤ n) (h1 : n ≤ 1000000) : Calls Tryz.prog 75 #[.int .i64 n] w fun e w' => e = .returned (.agg #[.int .i64 1, .int .u64 n, .slice none 0 0, .slice none 0 0]) ∧ Below w.heap.size w w' := by
  have hwk : IntKind.u64.wrap n = n := by rw [IntKind.wrap_u64]; omega
  have HN := hid (Tlv.number_any n)
  clear h0 h1
  go_enter Tryz.func75, Tryz.ntmps75
  go_wp2_with fail
  refine (HN.out _).mono ?_
  rintro e w1 ⟨rfl, hb⟩
  have HB := hid hb
  obtain ⟨hc, hf⟩ := Tlv.bcell hb
  have g0 : w1.cell? ⟨w.heap.size, 0, none⟩ = some (.int .i64 0) := (hc _ _ (by simp)).trans (by simp [go_sem])
  have g1 : w1.cell? ⟨w.heap.size, 1, none⟩ = some (.int .u64 0) := (hc _ _ (by simp)).trans (by simp [go_sem])
  have g2 : w1.cell? ⟨w.heap.size, 2, none⟩ = some (.slice none 0 0) := (hc _ _ (by simp)).trans (by simp [go_sem])
  have g3 : w1.cell? ⟨w.heap.size, 3, none⟩ = some (.slice none 0 0) := (hc _ _ (by simp)).trans (by simp [go_sem])
  have gf : ∀ o, w1.frozen? ⟨w.heap.size, o, none⟩ = false := fun o => (hf _ _ (by simp)).trans (by simp [go_sem])
  have hz : w.heap.size < w1.heap.size := by have := hb.size; simp at this; omega
  clear hb hc hf hwk
  go_wp2_with fail
  obtain ⟨q0, q1, q2, q3⟩ := Tlv.set4_read (u0 := .int .i64 1) (u1 := .int .u64 n) (u2 := .slice none 0 0) (u3 := .slice none 0 0) g0 g1 g2 g3
  refine bodyPost_ret (v := .agg #[.int .i64 1, .int .u64 n, .slice none 0 0, .slice none 0 0]) (by simp [results, Tryz.results75, go_sem, q0, q1, q2, q3]) rfl ⟨rfl, ?_⟩
  exact (((Below.refl _ w).alloc (Nat.le_refl _) _).trans (HB.out.mono (by simp))).trans (Tlv.bset4 (Nat.le_refl _) _ _ _ _)

/-- Four values laid in a row. -/
theorem four_in {w : World} (nm : List Int) (p q r : Int) (vn : Value) (h0 : 0 ≤ p ∧ p ≤ 1000000) (h1 : 0 ≤ q ∧ q ≤ 1000000) (h2 : 0 ≤ r ∧ r ≤ 1000000) (bn : Tlv.BySl 0 w.heap.size w vn nm) (ty : TypeId) (C : Array Value)
    (hC : C = #[.int .i64 2, .int .u64 0, vn, .slice none 0 0, .int .i64 1, .int .u64 p, .slice none 0 0, .slice none 0 0, .int .i64 1, .int .u64 q, .slice none 0 0, .slice none 0 0, .int .i64 1, .int .u64 r, .slice none 0 0, .slice none 0 0]) :
    Tlv.KSl 0 (w.heap.size + 1) (w.alloc (.cells C ty)) (Tlv.Rep 0 (w.heap.size + 1) (w.alloc (.cells C ty)) 1)
      (.slice (some ⟨w.heap.size, 0, none⟩) 4 4) [(Tr.mk 2 0 nm [] : Tr 1), Tr.mk 1 p [] [], Tr.mk 1 q [] [], Tr.mk 1 r [] []] := by
  subst hC
  have hA : ∀ o : Obj, Agree 0 w.heap.size w (w.alloc o) := fun o => (Agree.refl _ _ _).alloc (Nat.le_refl _) _
  have hc : ∀ (C : Array Value) (j : Nat), (w.alloc (.cells C ty)).cell? ⟨w.heap.size, j, none⟩ = C[j]? := fun C j => World.cell?_alloc_at _ _ _ _ rfl
  refine ⟨_, 4, rfl, Nat.le_refl _, by decide, by simp, by simp, fun _ => ⟨w.heap.size, 0, rfl, Nat.zero_le _, by omega, fun j t hj => ?_⟩⟩
  match j, hj with
  | 0, hj =>
    simp only [List.getElem?_cons_zero, Option.some.injEq] at hj
    subst hj
    exact ⟨_, _, hc _ _, hc _ _, hc _ _, hc _ _, rep2 (bn.agree (hA _) (Nat.le_refl _) (by omega))⟩
  | 1, hj =>
    simp only [List.getElem?_cons_succ, List.getElem?_cons_zero, Option.some.injEq] at hj
    subst hj
    exact ⟨_, _, hc _ _, hc _ _, hc _ _, hc _ _, rep1 _ h0.1 (by omega)⟩
  | 2, hj =>
    simp only [List.getElem?_cons_succ, List.getElem?_cons_zero, Option.some.injEq] at hj
    subst hj
    exact ⟨_, _, hc _ _, hc _ _, hc _ _, hc _ _, rep1 _ h1.1 (by omega)⟩
  | 3, hj =>
    simp only [List.getElem?_cons_succ, List.getElem?_cons_zero, Option.some.injEq] at hj
    subst hj
    exact ⟨_, _, hc _ _, hc _ _, hc _ _, hc _ _, rep1 _ h2.1 (by omega)⟩

theorem many4 {L : Nat} {w : World} {p q r : Int} {nm : List Int} {vn : Value} (h0 : 0 ≤ p ∧ p ≤ 1000000) (h1 : 0 ≤ q ∧ q ≤ 1000000) (h2 : 0 ≤ r ∧ r ≤ 1000000) (bn : Tlv.BySl L w.heap.size w vn nm) :
    Calls Tryz.prog 52 #[.slice (some ⟨w.heap.size, 0, none⟩) 4 4] (w.alloc (.cells #[.int .i64 2, .int .u64 0, vn, .slice none 0 0, .int .i64 1, .int .u64 p, .slice none 0 0, .slice none 0 0, .int .i64 1, .int .u64 q, .slice none 0 0, .slice none 0 0, .int .i64 1, .int .u64 r, .slice none 0 0, .slice none 0 0] 87))
      fun e w' => ∃ a3 l3 p3 a4 l4 p4, e = .returned (.agg #[.int .i64 3, .int .u64 0, .slice a3 l3 p3, .slice a4 l4 p4]) ∧ Tlv.Rep w.heap.size w'.heap.size w' 2 (entT (nm, p, q, r)) (.slice a3 l3 p3) (.slice a4 l4 p4) ∧ Below w.heap.size w w' := by
  have h := four_in (w := w) nm p q r vn h0 h1 h2 (bn.agree (Agree.refl _ _ _) (Nat.zero_le _) (Nat.le_refl _)) 87 _ rfl
  refine (Tlv.many_any _ _ _ (by simpa using h) (by omega)).mono ?_
  rintro e w5 ⟨sb', sk', rfl, hr5, hb5⟩
  obtain ⟨a3, l3, p3, a4, l4, p4, rfl, rfl⟩ := hr5.sl
  exact ⟨_, _, _, _, _, _, rfl, hr5.agree (Agree.refl _ _ _) (by simp) (Nat.le_refl _), ((Below.refl _ w).alloc (Nat.le_refl _) _).trans (hb5.mono (by simp))⟩

theorem nameIn {W : World} {g o : Nat} {e : Ent} (he : EOk e) (hg : g < W.heap.size) (h : W.rangeAt g o (entC e)) : Tlv.BySl 0 W.heap.size W (.slice (some ⟨g, o, none⟩) 32 32) e.1 := by
  refine ⟨_, 32, by rw [he.1], by rw [he.1]; omega, by decide, by simp, by rw [he.1]; omega, he.2, fun _ => ⟨g, o, rfl, Nat.zero_le _, hg, fun i hi => ?_⟩⟩
  have := h i (.int .u8 (e.1.getD i 0)) (by
    rw [entC, List.getElem?_append_left (by rw [b8_length]; exact hi)]
    simp [b8, List.getElem?_eq_getElem hi])
  exact this

set_option maxHeartbeats 2000000 in
set_option maxRecDepth 100000 in
theorem entval_any (nm : List Int) (p q r : Int) (w : World) (he : EOk (nm, p, q, r)) (h0 : 0 ≤ p ∧ p ≤ 1000000) (h1 : 0 ≤ q ∧ q ≤ 1000000) (h2 : 0 ≤ r ∧ r ≤ 1000000) :
    Calls Tryz.prog 53 #[.agg (entC (nm, p, q, r)).toArray] w fun e w' => ∃ a3 l3 p3 a4 l4 p4, e = .returned (.agg #[.int .i64 3, .int .u64 0, .slice a3 l3 p3, .slice a4 l4 p4]) ∧ Tlv.Rep w.heap.size w'.heap.size w' 2 (entT (nm, p, q, r)) (.slice a3 l3 p3) (.slice a4 l4 p4) ∧ Below w.heap.size w w' := by
  have HE := hid he
  have hpl : ∀ (W : World) (g : Nat), W.rangeAt g 0 (entC (nm, p, q, r)) → W.cell? ⟨g, 32, none⟩ = some (.int .i64 p) ∧ W.cell? ⟨g, 33, none⟩ = some (.int .i64 q) ∧ W.cell? ⟨g, 34, none⟩ = some (.int .i64 r) := fun W g h => by
    have h := rng_place he h
    exact ⟨h 0 _ rfl, h 1 _ rfl, h 2 _ rfl⟩
  have HPL := hid hpl
  clear hpl he
  obtain ⟨C, hC⟩ : ∃ C, entC (nm, p, q, r) = C := ⟨_, rfl⟩
  have HC := hid hC
  rw [hC]
  clear hC
  go_enter Tryz.func53, Tryz.ntmps53
  go_wp2
  obtain ⟨W0, hW0⟩ : ∃ W0, (w.alloc (.cells C.toArray 64)).alloc (.cells #[.int .i64 0, .int .u64 0, .slice none 0 0, .slice none 0 0] 87) = W0 := ⟨_, rfl⟩
  have hz : W0.heap.size = w.heap.size + 2 := by rw [← hW0]; simp
  have hbel : Below w.heap.size w W0 := by rw [← hW0]; exact ((Below.refl _ _).alloc (Nat.le_refl _) _).alloc (by simp) _
  have hrg : W0.rangeAt w.heap.size 0 C := by
    rw [← hW0]
    refine World.rangeAt_alloc (fun j v hv => ?_) _
    rw [Nat.zero_add, World.cell?_alloc_at _ _ _ _ rfl]
    simpa using hv
  have HG : Hid (∀ j u, (#[.int .i64 0, .int .u64 0, .slice none 0 0, .slice none 0 0] : Array Value)[j]? = some u → W0.cell? ⟨w.heap.size + 1, j, none⟩ = some u) := fun j u hj => by
    rw [← hW0, World.cell?_alloc_at _ _ _ _ (by simp), hj]
  have HF : Hid (∀ j, W0.frozen? ⟨w.heap.size + 1, j, none⟩ = false) := fun j => by
    rw [← hW0, World.frozen?_alloc_at _ _ _ _ (by simp)]
  rw [hW0]
  clear hW0
  have hplC := HPL.out W0 w.heap.size (by rw [HC.out]; exact hrg)
  have r32 : ∀ V, Below (w.heap.size + 1) W0 V → V.cell? ⟨w.heap.size, 32, none⟩ = some (.int .i64 p) := fun V h => (h.cell (p := ⟨w.heap.size, 32, none⟩) (by simp)).trans hplC.1
  have r33 : ∀ V, Below (w.heap.size + 1) W0 V → V.cell? ⟨w.heap.size, 33, none⟩ = some (.int .i64 q) := fun V h => (h.cell (p := ⟨w.heap.size, 33, none⟩) (by simp)).trans hplC.2.1
  have r34 : ∀ V, Below (w.heap.size + 1) W0 V → V.cell? ⟨w.heap.size, 34, none⟩ = some (.int .i64 r) := fun V h => (h.cell (p := ⟨w.heap.size, 34, none⟩) (by simp)).trans hplC.2.2
  have hwn := nameIn (W := W0) (g := w.heap.size) (o := 0) HE.out (by omega) (by rw [HC.out]; exact hrg)
  have K44n := hid (bytes44 (S := fun V => Below W0.heap.size W0 V) HE.out.1 (fun V h => h) hwn)
  have HZ := hid hz
  have HZ2 : Hid (w.heap.size + 1 ≤ W0.heap.size) := by rw [Hid]; omega
  have HBEL := hid hbel
  clear hz hbel hrg hwn hplC
  go_region_held3 (fun V => Below (w.heap.size + 1) W0 V) (first | (with_reducible exact Below.refl _ _) | (with_reducible exact (Below.refl _ _).drew) | (with_reducible exact HK2.out.mono HZ2.out) | (with_reducible exact HK3.out.mono HZ2.out) | (with_reducible exact HK4.out.mono HZ2.out) | (with_reducible exact HK5.out.mono HZ2.out) | (with_reducible exact (HK5.out.alloc HK5.out.size _).mono HZ2.out) | (with_reducible exact HK6.out.mono HZ2.out) | (with_reducible exact (HK6.out.mono HZ2.out).trans (Tlv.bset4 (Nat.le_refl _) _ _ _ _))) (first
    | (go_at_call 74; refine (K44n.out _ ?_).mono ?_; (with_reducible exact (Below.refl _ _).drew); rintro e w2 ⟨an, cn, rfl, hv3, hb3⟩; have HV2 := hid hv3; have HK2 : Hid (Below W0.heap.size W0 w2) := (Below.refl _ _).drew.trans hb3; clear hv3 hb3)
    | (go_at_call_of 75 (Value.int .i64 p); refine (segnum_any p _ h0.1 h0.2).mono ?_; rintro e w3 ⟨rfl, hb3⟩; have HV3 := hid (bySl_lift HV2.out hb3); have HK3 : Hid (Below W0.heap.size W0 w3) := HK2.out.trans (hb3.mono HK2.out.size); clear hb3)
    | (go_at_call_of 75 (Value.int .i64 q); refine (segnum_any q _ h1.1 h1.2).mono ?_; rintro e w4 ⟨rfl, hb4⟩; have HV4 := hid (bySl_lift HV3.out hb4); have HK4 : Hid (Below W0.heap.size W0 w4) := HK3.out.trans (hb4.mono HK3.out.size); clear hb4)
    | (go_at_call_of 75 (Value.int .i64 r); refine (segnum_any r _ h2.1 h2.2).mono ?_; rintro e w5 ⟨rfl, hb5⟩; have HV5 := hid (bySl_lift HV4.out hb5); have HK5 : Hid (Below W0.heap.size W0 w5) := HK4.out.trans (hb5.mono HK4.out.size); clear hb5)
    | (go_at_call 52; refine (many4 h0 h1 h2 HV5.out).mono ?_; rintro e w6 ⟨a3, l3, p3, a4, l4, p4, rfl, hr6, hb6⟩; have HR6 := hid hr6; have HK6 : Hid (Below W0.heap.size W0 w6) := HK5.out.trans (hb6.mono HK5.out.size); have hz6 : w.heap.size + 1 < w6.heap.size := (by have h1 := HK6.out.size; have h2 := HZ.out; omega); have hf6 : ∀ j, w6.frozen? ⟨w.heap.size + 1, j, none⟩ = false := (fun j => (HK6.out.frozen (p := ⟨w.heap.size + 1, j, none⟩) (by have h2 := HZ.out; simp; omega)).trans (HF.out j)); have hc6 : ∀ j u, (#[.int .i64 0, .int .u64 0, .slice none 0 0, .slice none 0 0] : Array Value)[j]? = some u → w6.cell? ⟨w.heap.size + 1, j, none⟩ = some u := (fun j u hj => (HK6.out.cell (p := ⟨w.heap.size + 1, j, none⟩) (by have h2 := HZ.out; simp; omega)).trans (HG.out j u hj)); have g0 := hc6 0 _ rfl; have g1 := hc6 1 _ rfl; have g2 := hc6 2 _ rfl; have g3 := hc6 3 _ rfl; clear hr6 hb6 hc6))
  go_wp2_with fail
  obtain ⟨q0, q1, q2, q3⟩ := Tlv.set4_read (u0 := .int .i64 3) (u1 := .int .u64 0) (u2 := .slice a3 l3 p3) (u3 := .slice a4 l4 p4) g0 g1 g2 g3
  refine bodyPost_ret (v := .agg #[.int .i64 3, .int .u64 0, .slice a3 l3 p3, .slice a4 l4 p4]) (by simp [results, Tryz.results53, go_sem, q0, q1, q2, q3]) rfl ⟨_, _, _, _, _, _, rfl, ?_, ?_⟩
  · have h1 := HK5.out.size
    have h2 := HZ.out
    exact HR6.out.agree (Agree.set4 _ (.inl (by omega)) _ _ _ _) (by omega) (by simp)
  · exact HBEL.out.trans (((HK6.out.mono HZ2.out).mono (Nat.le_succ _)).trans (Tlv.bset4 (Nat.le_succ _) _ _ _ _))
end Go.Proofs.YtampnikdmgojjaaGreat.Sg
end

section
/-
  Many of tlv with nothing: a list that is not there.
-/
namespace Go.Proofs.YtampnikdmgojjaaGreat.Sg
open Go.RowKit
open Tlv (Tr Agree bcell set4_read cell_far4 bset4)
open Sim (hid Kp No)
attribute [local go_sem ↓] Go.wp_at_zero Go.wp_at_succ

theorem bclone_none (w : World) : Calls Tryz.prog 59 #[.slice none 0 0] w fun e w' => e = .returned (.slice none 0 0) ∧ Below w.heap.size w w' := by
  have q22 := Tlv.Tryz.nilEq
  go_enter Tryz.func59, Tryz.ntmps59
  go_wp2
  go_ret
  exact ⟨rfl, Below.refl _ _⟩

set_option maxHeartbeats 2000000 in
set_option maxRecDepth 100000 in
theorem clone_none (w : World) : Calls Tryz.prog 73 #[.agg #[.int .i64 3, .int .u64 0, .slice none 0 0, .slice none 0 0], .int .i64 131072] w fun e w' => e = .returned (.tuple #[.agg #[.int .i64 3, .int .u64 0, .slice none 0 0, .slice none 0 0], .bool true]) ∧ Below w.heap.size w w' := by
  have HB := hid bclone_none
  go_enter Tryz.func73, Tryz.ntmps73
  go_upto_region 3 with fail
  obtain ⟨W0, hW0⟩ : ∃ W0, W0 = (w.alloc (Obj.cells #[Value.int IntKind.i64 3, Value.int IntKind.u64 0, Value.slice none 0 0, Value.slice none 0 0] 87)).alloc (Obj.cells #[Value.int IntKind.i64 0, Value.int IntKind.u64 0, Value.slice none 0 0, Value.slice none 0 0] 87) := ⟨_, rfl⟩
  have HW0 := hid hW0
  clear hW0
  go_cut [6] (fun s wx => ∃ (g : Nat), s = .pointer (some ⟨g, 0, none⟩) ∧ w.heap.size + 2 ≤ g ∧ g < wx.heap.size ∧ wx.cell? ⟨g, 0, none⟩ = some (.int .i64 3) ∧ wx.cell? ⟨g, 1, none⟩ = some (.int .u64 0) ∧
    wx.cell? ⟨g, 2, none⟩ = some (.slice none 0 0) ∧ wx.cell? ⟨g, 3, none⟩ = some (.slice none 0 0) ∧ (∀ o, wx.frozen? ⟨g, o, none⟩ = false) ∧ Hid (Below (w.heap.size + 2) W0 wx))
  case first =>
    go_region_held3 (fun w' => w'.cell? ⟨w.heap.size, 0, none⟩ = some (.int .i64 3) ∧ w'.cell? ⟨w.heap.size, 1, none⟩ = some (.int .u64 0) ∧ w'.cell? ⟨w.heap.size, 2, none⟩ = some (.slice none 0 0)) (first | go_keep | (refine ⟨?_, ?_, ?_⟩ <;> (rw [cell_far4 (by simp; omega)]; assumption)))
      ((go_at_call 59; refine (HB.out _).mono ?_; rintro e w1 ⟨rfl, hb⟩; have Hb := hid hb; obtain ⟨hc, hf⟩ := bcell hb; have hz := hb.size; clear hb; have q0 : w1.cell? ⟨w.heap.size, 0, none⟩ = some (.int .i64 3) := (hc _ _ (by simp; try omega)).trans (by simp [go_sem]); have q1 : w1.cell? ⟨w.heap.size, 1, none⟩ = some (.int .u64 0) := (hc _ _ (by simp; try omega)).trans (by simp [go_sem]); have q2 : w1.cell? ⟨w.heap.size, 2, none⟩ = some (.slice none 0 0) := (hc _ _ (by simp; try omega)).trans (by simp [go_sem])))
    · go_wp2_with fail
      go_meet
      simp at hz
      refine ⟨w1.heap.size, rfl, by omega, by simp, by simp, by simp, by simp, by simp, by simp, ?_⟩
      rw [HW0.out]
      exact (((Below.refl _ _).drew).trans (Hb.out.mono (by simp))).alloc (by omega) _
    · go_wp2_with fail
      go_meet
      simp at hz
      obtain ⟨r0, r1, r2, r3⟩ := set4_read (w := w1) (b := w.heap.size + 1 + 1) (u0 := .int .i64 3) (u1 := .int .u64 0) (u2 := .slice none 0 0) (u3 := .slice none 0 0) (x0 := .int .i64 0) (x1 := .int .u64 0) (x2 := .slice none 0 0) (x3 := .slice none 0 0) ((hc _ _ (by simp)).trans (by simp [go_sem])) ((hc _ _ (by simp)).trans (by simp [go_sem])) ((hc _ _ (by simp)).trans (by simp [go_sem])) ((hc _ _ (by simp)).trans (by simp [go_sem]))
      refine ⟨w.heap.size + 1 + 1, rfl, by omega, by simp; omega, r0, r1, r2, r3, ?_, ?_⟩
      · intro o
        simp only [World.frozen?_setCell]
        rw [hf _ _ (by simp)]
        simp [go_sem]
      · rw [HW0.out]
        exact ((((Below.refl _ _).alloc (by simp) _).drew).trans (Hb.out.mono (by simp))).trans (bset4 (by omega) _ _ _ _)
  case rest =>
    obtain ⟨g, rfl, hg0, hg1, e0, e1, e2, e3, hfr, HX⟩ := hcut
    have xb : ∀ o, wc.cell? ⟨w.heap.size, o, none⟩ = W0.cell? ⟨w.heap.size, o, none⟩ := fun o => HX.out.cell (p := ⟨w.heap.size, o, none⟩) (by simp)
    have b3 : wc.cell? ⟨w.heap.size, 3, none⟩ = some (.slice none 0 0) := by rw [xb, HW0.out]; simp [go_sem]
    have xr : ∀ o, wc.cell? ⟨w.heap.size + 1, o, none⟩ = W0.cell? ⟨w.heap.size + 1, o, none⟩ := fun o => HX.out.cell (p := ⟨w.heap.size + 1, o, none⟩) (by simp)
    have xf : ∀ o, wc.frozen? ⟨w.heap.size + 1, o, none⟩ = W0.frozen? ⟨w.heap.size + 1, o, none⟩ := fun o => HX.out.frozen (p := ⟨w.heap.size + 1, o, none⟩) (by simp)
    have r0 : wc.cell? ⟨w.heap.size + 1, 0, none⟩ = some (.int .i64 0) := by rw [xr, HW0.out]; simp [go_sem]
    have r1 : wc.cell? ⟨w.heap.size + 1, 1, none⟩ = some (.int .u64 0) := by rw [xr, HW0.out]; simp [go_sem]
    have r2 : wc.cell? ⟨w.heap.size + 1, 2, none⟩ = some (.slice none 0 0) := by rw [xr, HW0.out]; simp [go_sem]
    have r3 : wc.cell? ⟨w.heap.size + 1, 3, none⟩ = some (.slice none 0 0) := by rw [xr, HW0.out]; simp [go_sem]
    have rf : ∀ o, wc.frozen? ⟨w.heap.size + 1, o, none⟩ = false := fun o => by rw [xf, HW0.out]; simp [go_sem]
    clear xb xf xr
    have hB0 : Hid (Below w.heap.size w W0) := by rw [Hid, HW0.out]; exact ((Below.refl _ _).alloc (Nat.le_refl _) _).alloc (by simp) _
    go_wp2
    refine wp_loop_rounds 1 ?_
    rw [rounds_succ]
    go_wp2_with fail
    obtain ⟨q0, q1, q2, q3⟩ := set4_read (u0 := .int .i64 3) (u1 := .int .u64 0) (u2 := .slice none 0 0) (u3 := .slice none 0 0) r0 r1 r2 r3
    refine bodyPost_ret (v := .tuple #[.agg #[.int .i64 3, .int .u64 0, .slice none 0 0, .slice none 0 0], .bool true]) (by simp [results, Tryz.results73, go_sem, q0, q1, q2, q3]) rfl ⟨rfl, ?_⟩
    exact (hB0.out.trans (HX.out.mono (by omega))).trans (bset4 (by omega) _ _ _ _)

set_option maxHeartbeats 400000 in
theorem many_none (w : World) : Calls Tryz.prog 52 #[.slice none 0 0] w fun e w' => e = .returned (.agg #[.int .i64 3, .int .u64 0, .slice none 0 0, .slice none 0 0]) ∧ Below w.heap.size w w' := by
  have HC := hid clone_none
  go_enter Tryz.func52, Tryz.ntmps52
  go_wp2_with fail
  refine (HC.out _).mono ?_
  rintro e w1 ⟨rfl, hb1⟩
  have Hb1 := hid hb1
  obtain ⟨hc, hf⟩ := bcell hb1
  have hz := hb1.size
  simp at hz
  have hgw : w.heap.size < w1.heap.size := by omega
  have g0 : w1.cell? ⟨w.heap.size, 0, none⟩ = some (.int .i64 0) := by rw [hc _ _ (by simp)]; simp [go_sem]
  have g1 : w1.cell? ⟨w.heap.size, 1, none⟩ = some (.int .u64 0) := by rw [hc _ _ (by simp)]; simp [go_sem]
  have g2 : w1.cell? ⟨w.heap.size, 2, none⟩ = some (.slice none 0 0) := by rw [hc _ _ (by simp)]; simp [go_sem]
  have g3 : w1.cell? ⟨w.heap.size, 3, none⟩ = some (.slice none 0 0) := by rw [hc _ _ (by simp)]; simp [go_sem]
  have gf : ∀ o, w1.frozen? ⟨w.heap.size, o, none⟩ = false := fun o => by rw [hf _ _ (by simp)]; simp [go_sem]
  clear hc hf hb1
  go_wp2_with fail
  obtain ⟨q0, q1, q2, q3⟩ := set4_read (u0 := .int .i64 3) (u1 := .int .u64 0) (u2 := .slice none 0 0) (u3 := .slice none 0 0) g0 g1 g2 g3
  refine bodyPost_ret (v := .agg #[.int .i64 3, .int .u64 0, .slice none 0 0, .slice none 0 0]) (by simp [results, Tryz.results52, go_sem, q0, q1, q2, q3, hgw]) rfl ⟨rfl, ?_⟩
  exact (((((Below.refl _ w).alloc (Nat.le_refl _) _).trans (Hb1.out.mono (by simp))).trans (bset4 (Nat.le_refl _) _ _ _ _)).alloc (by simp; omega) _)
end Go.Proofs.YtampnikdmgojjaaGreat.Sg
end

section
/-
  A list of values that grows in a variable: one round's memory.
-/
namespace Go.Proofs.YtampnikdmgojjaaGreat.Sg
open Go.RowKit
open Tlv (Tr Agree CInv cellsK cell4)
open Sim (hid Kp No)

/-- The variable at block w1.heap.size holds a list's value: the first k entries'. -/
def VI (w1 : World) (d : List Ent) (k : Nat) (v : Value) (wr : World) : Prop :=
  wr.cell? ⟨w1.heap.size, 0, none⟩ = some (.int .i64 3) ∧ wr.cell? ⟨w1.heap.size, 1, none⟩ = some (.int .u64 0) ∧ wr.cell? ⟨w1.heap.size, 2, none⟩ = some (.slice none 0 0) ∧ wr.cell? ⟨w1.heap.size, 3, none⟩ = some v ∧
    (∀ o, wr.frozen? ⟨w1.heap.size, o, none⟩ = false) ∧ w1.heap.size < wr.heap.size ∧ CInv (w1.heap.size + 1) ((d.map entT).take k) v wr ∧ Below w1.heap.size w1 wr

theorem push_run {n base L B k : Nat} {ts : List (Tr n)} {t : Tr n} {av : Option Addr} {cv : Nat} {sb sk : Value} (w : World) (hk : ts.length = k) (h : CInv base ts (.slice av k cv) w) (hb : base ≤ w.heap.size) (hr : Tlv.Rep L B w n t sb sk) (hL : base ≤ L) (hB : B ≤ w.heap.size)
    (hd : ∀ r, (Value.slice av k cv).ownBlock = some r → r < L ∨ B ≤ r) (hl : k + 1 ≤ 2000000) (ty : TypeId) :
    ∃ g' cap w', (Builtin.append_ #[85, 85] ty #[.slice av k cv, .slice (some ⟨w.heap.size, 0, none⟩) 1 1]).run Tryz.prog (w.alloc (.cells #[.int .i64 t.hd.1, .int .u64 t.hd.2.1, sb, sk] 87)) = .ok (.slice (some ⟨g', 0, none⟩) (k + 1) cap) w' ∧
      CInv base (ts ++ [t]) (.slice (some ⟨g', 0, none⟩) (k + 1) cap) w' ∧ (w.alloc (.cells #[.int .i64 t.hd.1, .int .u64 t.hd.2.1, sb, sk] 87)).grownBy w' (Value.slice av k cv).ownBlock := by
  obtain ⟨i0, hi, hz0, hz1, hz2⟩ := info_parts Tlv.Tryz.info87
  have hlt := h.lt
  have hA : Agree base w.heap.size w (w.alloc (.cells #[.int .i64 t.hd.1, .int .u64 t.hd.2.1, sb, sk] 87)) := (Agree.refl _ _ _).alloc (Nat.le_refl _) _
  obtain ⟨ps, hl2, hown, hkid⟩ := h.agree hA (by simp)
  have hr2 := hr.agree (L' := L) (B' := B) (hA.mono hL hB) (Nat.le_refl _) (Nat.le_refl _)
  rw [hk] at hown
  have hone : ∀ u ∈ cell4 t (sb, sk), u.oneCell' = true := by
    obtain ⟨_, _, _, _, _, _, rfl, rfl⟩ := hr.sl
    intro u hu
    simp only [cell4, List.mem_cons, List.not_mem_nil, or_false] at hu
    rcases hu with rfl | rfl | rfl | rfl <;> rfl
  obtain ⟨g', cap, w', hrun, ho, hgr, hat, hlt'⟩ := run_append_lies (P := Tryz.prog) (w.alloc (.cells #[.int .i64 t.hd.1, .int .u64 t.hd.2.1, sb, sk] 87)) 85 ty base 87 i0 _ 4 64 Tryz.underlying85 hi hz0 hz1 hz2 rfl (by decide) (.slice av k cv) k (cellsK ts ps) hown ⟨w.heap.size, 0, none⟩ 1 1 (cell4 t (sb, sk)) rfl
    (World.news_of_block (cs := #[.int .i64 t.hd.1, .int .u64 t.hd.2.1, sb, sk]) (t := 87) (fr := (0, 0)) (heap_alloc_new w _)) hone (by omega) (by unfold maxLen; omega) (by omega) (by simp; omega) _ rfl
  refine ⟨g', cap, w', hrun, ?_, hgr⟩
  have P := CInv.push (g := g') (cap := cap) hl2 hkid hr2 hL (by simp; omega) hd (by rw [hk]; exact ho) hgr hat
  rw [hk] at P
  exact P

theorem VI.start (w1 : World) (d : List Ent) : VI w1 d 0 (.slice none 0 0) (w1.alloc (.cells #[.int .i64 3, .int .u64 0, .slice none 0 0, .slice none 0 0] 87)) :=
  ⟨by simp, by simp, by simp, by simp, by simp, by simp, by simpa using CInv.nil _ _, (Below.refl _ _).alloc (Nat.le_refl _) _⟩

theorem VI.step {w1 wr W1 w2 : World} {d : List Ent} {k cv : Nat} {av : Option Addr} {e : Ent} {sb sk : Value} (h : VI w1 d k (.slice av k cv) wr) (hk : Kp No wr W1) (hb : Below W1.heap.size W1 w2) (hr : Tlv.Rep W1.heap.size w2.heap.size w2 2 (entT e) sb sk) (he : d[k]? = some e) (hl : k + 1 ≤ 2000000) (ty : TypeId) :
    ∃ g' cap w4, (Builtin.append_ #[85, 85] ty #[.slice av k cv, .slice (some ⟨w2.heap.size, 0, none⟩) 1 1]).run Tryz.prog (w2.alloc (.cells #[.int .i64 3, .int .u64 0, sb, sk] 87)) = .ok (.slice (some ⟨g', 0, none⟩) (k + 1) cap) w4 ∧
      w4.cell? ⟨w1.heap.size, 3, none⟩ = some (.slice av k cv) ∧ w4.frozen? ⟨w1.heap.size, 3, none⟩ = false ∧ w1.heap.size < w4.heap.size ∧
      VI w1 d (k + 1) (.slice (some ⟨g', 0, none⟩) (k + 1) cap) (w4.setCell ⟨w1.heap.size, 3, none⟩ (.slice (some ⟨g', 0, none⟩) (k + 1) cap)) ∧ Kp (fun x => x = w1.heap.size ∨ (Value.slice av k cv).ownBlock = some x) W1 w4 := by
  obtain ⟨h0, h1, h2, h3, hf, hs, hc, hw⟩ := h
  have hlk : ((d.map entT).take k).length = k := by
    have := (List.getElem?_eq_some_iff.1 he).1
    rw [List.length_take, List.length_map]
    omega
  have hz1 := hk.size
  have hz2 := hb.size
  have hA : Agree (w1.heap.size + 1) wr.heap.size wr w2 := fun j _ hj => (hb.block j (by omega)).trans (hk.block j hj (fun x => x))
  have hc2 := hc.agree hA (by omega)
  obtain ⟨g', cap, w4, hrun, hC, hgr⟩ := push_run w2 hlk hc2 (by omega) hr (by omega) (Nat.le_refl _) (fun r hr => .inl (by have := (hc.lt r hr).2; omega)) hl ty
  have hne : ∀ r, (Value.slice av k cv).ownBlock = some r → w1.heap.size + 1 ≤ r := fun r hr => (hc.lt r hr).1
  have hnb : some w1.heap.size ≠ (Value.slice av k cv).ownBlock := fun e => by have := hne _ e.symm; omega
  have hzg := hgr.size
  simp at hzg
  have cc : ∀ j, w4.cell? ⟨w1.heap.size, j, none⟩ = wr.cell? ⟨w1.heap.size, j, none⟩ := fun j => by
    rw [hgr.cell_far ⟨w1.heap.size, j, none⟩ (by simp; omega) hnb, World.cell?_alloc_past _ _ _ (by omega), hb.cell (p := ⟨w1.heap.size, j, none⟩) (by simp; omega)]
    exact hk.cell (p := ⟨w1.heap.size, j, none⟩) hs (fun x => x)
  have cf : ∀ j, w4.frozen? ⟨w1.heap.size, j, none⟩ = false := fun j => by
    rw [hgr.frozen_far ⟨w1.heap.size, j, none⟩ (by simp; omega) hnb, World.frozen?_alloc_past _ _ _ (by omega), hb.frozen (p := ⟨w1.heap.size, j, none⟩) (by simp; omega), hk.frozen (p := ⟨w1.heap.size, j, none⟩) hs (fun x => x)]
    exact hf j
  have htake : (d.map entT).take (k + 1) = (d.map entT).take k ++ [entT e] := by
    rw [List.take_add_one, List.getElem?_map, he]
    rfl
  have hKp : Kp (fun x => x = w1.heap.size ∨ (Value.slice av k cv).ownBlock = some x) W1 w4 := (((Kp.refl _ W1).trans (Kp.below hb : Kp No _ _) (fun _ hx => hx.elim)).alloc _).grown hgr (fun x hx => .inl (.inr hx))
  refine ⟨g', cap, w4, hrun, (cc 3).trans h3, cf 3, by omega, ⟨?_, ?_, ?_, ?_, fun o => ?_, ?_, ?_, ?_⟩, hKp⟩
  · rw [Sim.cell_other (by omega)]; exact (cc 0).trans h0
  · rw [Sim.cell_other (by omega)]; exact (cc 1).trans h1
  · rw [Sim.cell_other (by omega)]; exact (cc 2).trans h2
  · exact World.cell?_setCell_same _ _ _ ((cc 3).trans h3)
  · rw [World.frozen?_setCell]; exact cf o
  · simp; omega
  · rw [htake]
    exact hC.agree ((Agree.refl _ _ _).setCell (.inl (by simp)) _) (by simp)
  · have b1 : Below w1.heap.size w1 w2 := hw.trans ⟨by rw [hb.os, hk.os], by rw [hb.tape, hk.tape], by rw [hb.output, hk.output], by omega, fun j hj => (hb.block j (by omega)).trans (hk.block j (by omega) (fun x => x))⟩
    exact ((b1.alloc (by omega) _).grown hgr (by simp; omega) (fun r hr => by have := hne r hr; omega)).setCell (by simp) _
end Go.Proofs.YtampnikdmgojjaaGreat.Sg
end

section
/-
  slices.BinarySearchFunc by compare: where a name stands in names that rise, or would stand.
-/
namespace Go.Proofs.YtampnikdmgojjaaGreat.Sg
open Go.RowKit
open Stb (Stab Srt Mrg)
open Sim (hid Kp No)

def BS (d : List Ent) (h : List Int) (i : Nat) (b : Bool) : Prop :=
  i ≤ d.length ∧ (∀ z ∈ d.take i, lexB z.1 h = true) ∧ (∀ z ∈ d.drop i, lexB z.1 h = false) ∧ (b = true ↔ ∃ y, d[i]? = some y ∧ y.1 = h)
def BAns (d : List Ent) (h : List Int) (e : Ending) : Prop := ∃ (i : Nat) (b : Bool), e = .returned (.tuple #[.int .i64 (i : Int), .bool b]) ∧ BS d h i b

set_option maxHeartbeats 4000000 in
set_option maxRecDepth 100000 in
theorem bsearch_any (w : World) (v : Value) (d : List Ent) (P : Nat → Prop) (x : Ent) (hv : EV P w v d) (hl : d.length ≤ 1000000) (hx : EOk x)
    (hm : ∀ (t u : Nat) (p q : Ent), t ≤ u → d[t]? = some p → d[u]? = some q → lexB q.1 x.1 = true → lexB p.1 x.1 = true) :
    Calls Tryz.prog 46 #[v, .agg (entC x).toArray, cmpV] w fun e w' => BAns d x.1 e ∧ Kp No w w' := by
  obtain ⟨a, c, rfl, h2, h3, h4, h5, h6⟩ := hv
  obtain ⟨n, hn⟩ : ∃ n, d.length = n := ⟨_, rfl⟩
  have HN := hid hn
  rw [hn] at hl ⊢
  have H6 := hid h6
  have HX := hid hx
  have HMO := hid hm
  obtain ⟨cy, hcy⟩ : ∃ cy, entC x = cy := ⟨_, rfl⟩
  have HIy := hid (inf hx)
  rw [hcy] at HIy ⊢
  have HCY := hid hcy
  have HBX : Hid (∀ V, Kp No (w.alloc (.cells cy.toArray 64)) V → V.rangeAt w.heap.size 0 cy ∧ Kp No w V) := fun V hV => ⟨fun j u hu => (hV.cell (p := ⟨w.heap.size, _, none⟩) (by simp) (fun x => x)).trans (rng_new w cy _ j u hu), ((Kp.refl No w).alloc _).andNone hV⟩
  have HH0 : Hid (Half (fun z => lexB z.1 x.1) d 0 n) := by rw [Hid, ← hn]; exact Half.begin _ _
  clear hn h2 h3 h4 h5 h6 hcy hx hm
  unfold cmpV
  go_enter Tryz.func46, Tryz.ntmps46
  go_wp2_with fail
  generalize hW : w.alloc (.cells cy.toArray 64) = W at *
  go_loopw [9, 10] (fun v9 v10 wr => ∃ (i j : Nat), v9 = .int .i64 (i : Int) ∧ v10 = .int .i64 (j : Int) ∧ i ≤ j ∧ j ≤ n ∧ Hid (Half (fun z => lexB z.1 x.1) d i j ∧ Kp No W wr)) (fun v9 v10 _ => (intOf v10).toNat - (intOf v9).toNat)
  case atStart => exact ⟨0, n, rfl, rfl, Nat.zero_le _, Nat.le_refl _, HH0.out, Kp.refl _ _⟩
  case round =>
    obtain ⟨i, j, rfl, rfl, hij, hjn, HS⟩ := hrel
    by_cases hlt : i < j
    · have hltI : (i : Int) < (j : Int) := by omega
      obtain ⟨h, hh⟩ : ∃ h, (i + j) / 2 = h := ⟨_, rfl⟩
      have hhI : ((i : Int) + (j : Int)) / 2 = (h : Int) := by omega
      have hih : i ≤ h ∧ h < j := by omega
      obtain ⟨hHf, hK⟩ := HS.out
      obtain ⟨g, o, rfl, _, hr⟩ := H6.out (by intro e; have := HN.out; rw [e] at this; simp at this; omega)
      obtain ⟨y, hy⟩ : ∃ y, d[h]? = some y := ⟨_, List.getElem?_eq_getElem (by have := HN.out; omega)⟩
      have hyok := (hr.2 h y hy).1
      have HCMP := hid (fun V => compare_any y x V hyok HX.out)
      have HCV : Hid (cmpE y.1 x.1 < 0 ↔ lexB y.1 x.1 = true) := cmpE_neg y.1 x.1
      have Hx : Hid (∀ V, Kp No wr V → V.rangeAt g (o + h * 35) (entC y)) := fun V hV => ((hr.kp (HBX.out V (hK.andNone hV)).2 (fun x => x)).2 h y hy).2
      have Hy : Hid (∀ V, Kp No wr V → V.rangeAt w.heap.size 0 cy) := fun V hV => (HBX.out V (hK.andNone hV)).1
      have HIx := hid (inf hyok)
      have HYES : Hid (lexB y.1 x.1 = true → Half (fun z => lexB z.1 x.1) d (h + 1) j) := fun e => hHf.yes (h := h) (by omega) (by omega) hy e HMO.out
      have HNO : Hid (lexB y.1 x.1 = false → Half (fun z => lexB z.1 x.1) d i h) := fun e => hHf.no (h := h) (by omega) (by omega) hy e HMO.out
      have HKK := hid hK
      have hhN : (h : Int) < (n : Int) := by omega
      have hwh : IntKind.i64.wrap ((h : Int) + 1) = ((h + 1 : Nat) : Int) := by rw [IntKind.wrap_i64]; omega
      obtain ⟨cx, hcx⟩ : ∃ cx, entC y = cx := ⟨_, rfl⟩
      rw [hcx, HCY.out] at HCMP
      rw [hcx] at Hx HIx
      obtain ⟨z, hzz⟩ : ∃ z, cmpE y.1 x.1 = z := ⟨_, rfl⟩
      rw [hzz] at HCMP HCV
      clear hcx hzz hHf hK hr hy hyok hh HS
      go_wp2_with fail
      by_cases hz : z < 0
      · have HH2 := hid (HYES.out (HCV.out.1 hz))
        clear HYES HNO HCV
        refine wp_region_held_drew (S := fun V => Kp No wr V) (by kernel_rfl) ((Kp.refl _ _).drew) (fun hHeld => ?_)
        refine wpAnyH_take (i := 0) (oi := { dst := some 24, op := Op.move (Operand.tmp 2), type := 108, pos := "sort.go:160", after := #[], guard := none }) (v := .func (.func 41) #[] #[]) rfl (by kernel_rfl) (by kernel_rfl) (by kernel_rfl) (fun _ _ _ h => h) (Or.inl ⟨by rfl, fun w' hw' => by (clear hw'; go_simp)⟩) hHeld ?_
        simp only [Act.put, List.setIfInBounds_toArray, List.set_cons_zero, List.set_cons_succ]
        refine wpAnyH_take (i := 1) (oi := { dst := some 25, op := Op.move (Operand.tmp 0), type := 30, pos := "sort.go:160", after := #[], guard := none }) (v := .slice (some ⟨g, o, none⟩) n c) rfl (by kernel_rfl) (by kernel_rfl) (by kernel_rfl) (fun _ _ _ h => h) (Or.inl ⟨by rfl, fun w' hw' => by (clear hw'; go_simp)⟩) hHeld ?_
        simp only [Act.put, List.setIfInBounds_toArray, List.set_cons_zero, List.set_cons_succ]
        refine wpAnyH_take (i := 2) (oi := { dst := some 26, op := Op.move (Operand.tmp 11), type := 3, pos := "sort.go:160", after := #[], guard := none }) (v := .int .i64 (h : Int)) rfl (by kernel_rfl) (by kernel_rfl) (by kernel_rfl) (fun _ _ _ h => h) (Or.inl ⟨by rfl, fun w' hw' => by (clear hw'; go_simp)⟩) hHeld ?_
        simp only [Act.put, List.setIfInBounds_toArray, List.set_cons_zero, List.set_cons_succ]
        refine wpAnyH_take (i := 3) (oi := { dst := some 27, op := Op.indexAddr 30 (Operand.tmp 25) (Operand.tmp 26), type := 0, pos := "sort.go:160", after := #[{ on := 1, ground := Ground.data }, { on := 2, ground := Ground.data }], guard := none }) (v := .pointer (some ⟨g, o + h * 35, none⟩)) rfl (by kernel_rfl) (by kernel_rfl) (by kernel_rfl) (fun _ _ _ h => h) (Or.inl ⟨by rfl, fun w' hw' => by (clear hw'; go_simp)⟩) hHeld ?_
        simp only [Act.put, List.setIfInBounds_toArray, List.set_cons_zero, List.set_cons_succ]
        refine wpAnyH_take (i := 4) (oi := { dst := some 28, op := Op.load 64 (Operand.tmp 27), type := 64, pos := "sort.go:160", after := #[{ on := 3, ground := Ground.data }], guard := none }) (v := .agg cx.toArray) rfl (by kernel_rfl) (by kernel_rfl) (by kernel_rfl) (fun _ _ _ h => h) (yieldsIf_load_mid (by rfl) _ _ rfl g (o + h * 35) rfl cx _ (Hx.out) Tryz.underlying64 rfl HIx.out) hHeld ?_
        simp only [Act.put, List.setIfInBounds_toArray, List.set_cons_zero, List.set_cons_succ]
        refine wpAnyH_take (i := 5) (oi := { dst := some 29, op := Op.load 64 (Operand.tmp 4), type := 64, pos := "sort.go:160", after := #[], guard := none }) (v := .agg cy.toArray) rfl (by kernel_rfl) (by kernel_rfl) (by kernel_rfl) (fun _ _ _ h => h) (yieldsIf_load_mid (by rfl) _ _ rfl w.heap.size 0 rfl cy _ (Hy.out) Tryz.underlying64 rfl HIy.out) hHeld ?_
        simp only [Act.put, List.setIfInBounds_toArray, List.set_cons_zero, List.set_cons_succ]
        refine wpAnyH_ready (rs := [6]) (by kernel_rfl) (by simp) ?_
        refine AllReadyH.cons (o := { dst := some 30, op := Op.call { callee := Callee.value (Operand.tmp 24), args := #[Operand.tmp 28, Operand.tmp 29], argTypes := #[64, 64] }, type := 3, pos := "sort.go:160", after := #[{ on := 0, ground := Ground.data }, { on := 4, ground := Ground.data }, { on := 5, ground := Ground.data }], guard := none }) rfl (fun K hK => ?_) AllReadyH.nil
        go_simp
        refine (HCMP.out _).mono ?_
        rintro e w3 ⟨rfl, h3⟩
        have HK3 : Hid (Kp No wr w3) := (Kp.refl No wr).drew.andNone (Kp.below h3)
        clear h3
        go_wp2_with fail
        refine hK.out _ _ (HK3.out) (fun hh => ?_)
        clear hK K hHeld
        have hHeld := hh
        clear hh
        try simp only [Act.put, List.setIfInBounds_toArray, List.set_cons_zero, List.set_cons_succ]
        refine wpAnyH_take (i := 7) (oi := { dst := some 31, op := Op.binOp BinOp.lss 3 (Operand.tmp 30) (Operand.const (Value.int IntKind.i64 0)) 3, type := 4, pos := "sort.go:160", after := #[{ on := 6, ground := Ground.data }], guard := none }) (v := .bool true) rfl (by kernel_rfl) (by kernel_rfl) (by kernel_rfl) (fun _ _ _ h => h) (Or.inl ⟨by rfl, fun w' hw' => by (clear hw'; go_simp)⟩) hHeld ?_
        simp only [Act.put, List.setIfInBounds_toArray, List.set_cons_zero, List.set_cons_succ]
        refine wpAnyH_done (by kernel_rfl) ?_ _
        have HA3 := hid (HKK.out.andNone HK3.out)
        clear hHeld HK3 HCMP Hx Hy HIx HKK
        go_wp2_with fail
        go_round
        case rel => exact ⟨h + 1, j, by go_num, rfl, by omega, by omega, HH2.out, HA3.out⟩
        case measure => simp [intOf]; omega
      · have hls : lexB y.1 x.1 = false := by
          cases hb : lexB y.1 x.1 with
          | false => rfl
          | true => exact absurd (HCV.out.2 hb) hz
        have HH2 := hid (HNO.out hls)
        clear HYES HNO HCV hls
        refine wp_region_held_drew (S := fun V => Kp No wr V) (by kernel_rfl) ((Kp.refl _ _).drew) (fun hHeld => ?_)
        refine wpAnyH_take (i := 0) (oi := { dst := some 24, op := Op.move (Operand.tmp 2), type := 108, pos := "sort.go:160", after := #[], guard := none }) (v := .func (.func 41) #[] #[]) rfl (by kernel_rfl) (by kernel_rfl) (by kernel_rfl) (fun _ _ _ h => h) (Or.inl ⟨by rfl, fun w' hw' => by (clear hw'; go_simp)⟩) hHeld ?_
        simp only [Act.put, List.setIfInBounds_toArray, List.set_cons_zero, List.set_cons_succ]
        refine wpAnyH_take (i := 1) (oi := { dst := some 25, op := Op.move (Operand.tmp 0), type := 30, pos := "sort.go:160", after := #[], guard := none }) (v := .slice (some ⟨g, o, none⟩) n c) rfl (by kernel_rfl) (by kernel_rfl) (by kernel_rfl) (fun _ _ _ h => h) (Or.inl ⟨by rfl, fun w' hw' => by (clear hw'; go_simp)⟩) hHeld ?_
        simp only [Act.put, List.setIfInBounds_toArray, List.set_cons_zero, List.set_cons_succ]
        refine wpAnyH_take (i := 2) (oi := { dst := some 26, op := Op.move (Operand.tmp 11), type := 3, pos := "sort.go:160", after := #[], guard := none }) (v := .int .i64 (h : Int)) rfl (by kernel_rfl) (by kernel_rfl) (by kernel_rfl) (fun _ _ _ h => h) (Or.inl ⟨by rfl, fun w' hw' => by (clear hw'; go_simp)⟩) hHeld ?_
        simp only [Act.put, List.setIfInBounds_toArray, List.set_cons_zero, List.set_cons_succ]
        refine wpAnyH_take (i := 3) (oi := { dst := some 27, op := Op.indexAddr 30 (Operand.tmp 25) (Operand.tmp 26), type := 0, pos := "sort.go:160", after := #[{ on := 1, ground := Ground.data }, { on := 2, ground := Ground.data }], guard := none }) (v := .pointer (some ⟨g, o + h * 35, none⟩)) rfl (by kernel_rfl) (by kernel_rfl) (by kernel_rfl) (fun _ _ _ h => h) (Or.inl ⟨by rfl, fun w' hw' => by (clear hw'; go_simp)⟩) hHeld ?_
        simp only [Act.put, List.setIfInBounds_toArray, List.set_cons_zero, List.set_cons_succ]
        refine wpAnyH_take (i := 4) (oi := { dst := some 28, op := Op.load 64 (Operand.tmp 27), type := 64, pos := "sort.go:160", after := #[{ on := 3, ground := Ground.data }], guard := none }) (v := .agg cx.toArray) rfl (by kernel_rfl) (by kernel_rfl) (by kernel_rfl) (fun _ _ _ h => h) (yieldsIf_load_mid (by rfl) _ _ rfl g (o + h * 35) rfl cx _ (Hx.out) Tryz.underlying64 rfl HIx.out) hHeld ?_
        simp only [Act.put, List.setIfInBounds_toArray, List.set_cons_zero, List.set_cons_succ]
        refine wpAnyH_take (i := 5) (oi := { dst := some 29, op := Op.load 64 (Operand.tmp 4), type := 64, pos := "sort.go:160", after := #[], guard := none }) (v := .agg cy.toArray) rfl (by kernel_rfl) (by kernel_rfl) (by kernel_rfl) (fun _ _ _ h => h) (yieldsIf_load_mid (by rfl) _ _ rfl w.heap.size 0 rfl cy _ (Hy.out) Tryz.underlying64 rfl HIy.out) hHeld ?_
        simp only [Act.put, List.setIfInBounds_toArray, List.set_cons_zero, List.set_cons_succ]
        refine wpAnyH_ready (rs := [6]) (by kernel_rfl) (by simp) ?_
        refine AllReadyH.cons (o := { dst := some 30, op := Op.call { callee := Callee.value (Operand.tmp 24), args := #[Operand.tmp 28, Operand.tmp 29], argTypes := #[64, 64] }, type := 3, pos := "sort.go:160", after := #[{ on := 0, ground := Ground.data }, { on := 4, ground := Ground.data }, { on := 5, ground := Ground.data }], guard := none }) rfl (fun K hK => ?_) AllReadyH.nil
        go_simp
        refine (HCMP.out _).mono ?_
        rintro e w3 ⟨rfl, h3⟩
        have HK3 : Hid (Kp No wr w3) := (Kp.refl No wr).drew.andNone (Kp.below h3)
        clear h3
        go_wp2_with fail
        refine hK.out _ _ (HK3.out) (fun hh => ?_)
        clear hK K hHeld
        have hHeld := hh
        clear hh
        try simp only [Act.put, List.setIfInBounds_toArray, List.set_cons_zero, List.set_cons_succ]
        refine wpAnyH_take (i := 7) (oi := { dst := some 31, op := Op.binOp BinOp.lss 3 (Operand.tmp 30) (Operand.const (Value.int IntKind.i64 0)) 3, type := 4, pos := "sort.go:160", after := #[{ on := 6, ground := Ground.data }], guard := none }) (v := .bool false) rfl (by kernel_rfl) (by kernel_rfl) (by kernel_rfl) (fun _ _ _ h => h) (Or.inl ⟨by rfl, fun w' hw' => by (clear hw'; go_simp)⟩) hHeld ?_
        simp only [Act.put, List.setIfInBounds_toArray, List.set_cons_zero, List.set_cons_succ]
        refine wpAnyH_done (by kernel_rfl) ?_ _
        have HA3 := hid (HKK.out.andNone HK3.out)
        clear hHeld HK3 HCMP Hx Hy HIx HKK
        go_wp2_with fail
        go_round
        case rel => exact ⟨i, h, rfl, rfl, by omega, by omega, HH2.out, HA3.out⟩
        case measure => simp [intOf]; omega
    · have hltI : ¬ (i : Int) < (j : Int) := by omega
      obtain ⟨hHf, hK⟩ := HS.out
      have hji : j = i := by omega
      rw [hji] at hHf
      have HE := hid hHf.end
      have HKK := hid hK
      clear hHf hK HS
      by_cases hin : i < n
      · have hinI : (i : Int) < (n : Int) := by omega
        obtain ⟨g, o, rfl, _, hr⟩ := H6.out (by intro e; have := HN.out; rw [e] at this; simp at this; omega)
        obtain ⟨y, hy⟩ : ∃ y, d[i]? = some y := ⟨_, List.getElem?_eq_getElem (by have := HN.out; omega)⟩
        have hyok := (hr.2 i y hy).1
        have HCMP := hid (fun V => compare_any y x V hyok HX.out)
        have HCV : Hid (cmpE y.1 x.1 = 0 ↔ y.1 = x.1) := cmpE_zero y.1 x.1
        have Hx : Hid (∀ V, Kp No wr V → V.rangeAt g (o + i * 35) (entC y)) := fun V hV => ((hr.kp (HBX.out V (HKK.out.andNone hV)).2 (fun x => x)).2 i y hy).2
        have Hy : Hid (∀ V, Kp No wr V → V.rangeAt w.heap.size 0 cy) := fun V hV => (HBX.out V (HKK.out.andNone hV)).1
        have HIx := hid (inf hyok)
        have HYE := hid hy
        obtain ⟨cx, hcx⟩ : ∃ cx, entC y = cx := ⟨_, rfl⟩
        rw [hcx, HCY.out] at HCMP
        rw [hcx] at Hx HIx
        obtain ⟨z, hzz⟩ : ∃ z, cmpE y.1 x.1 = z := ⟨_, rfl⟩
        rw [hzz] at HCMP HCV
        clear hcx hzz hr hy hyok
        go_wp2_with fail
        by_cases hz : z = 0
        · have HB : Hid (BS d x.1 i true) := ⟨by rw [HN.out]; omega, HE.out.1, HE.out.2, ⟨fun _ => ⟨y, HYE.out, HCV.out.1 hz⟩, fun _ => rfl⟩⟩
          clear HCV
          refine wp_region_held_drew (S := fun V => Kp No wr V) (by kernel_rfl) ((Kp.refl _ _).drew) (fun hHeld => ?_)
          refine wpAnyH_take (i := 0) (oi := { dst := some 35, op := Op.move (Operand.tmp 9), type := 3, pos := "sort.go:167", after := #[], guard := none }) (v := .int .i64 (i : Int)) rfl (by kernel_rfl) (by kernel_rfl) (by kernel_rfl) (fun _ _ _ h => h) (Or.inl ⟨by rfl, fun w' hw' => by (clear hw'; go_simp)⟩) hHeld ?_
          simp only [Act.put, List.setIfInBounds_toArray, List.set_cons_zero, List.set_cons_succ]
          refine wpAnyH_take (i := 1) (oi := { dst := some 36, op := Op.move (Operand.tmp 9), type := 3, pos := "sort.go:167", after := #[], guard := none }) (v := .int .i64 (i : Int)) rfl (by kernel_rfl) (by kernel_rfl) (by kernel_rfl) (fun _ _ _ h => h) (Or.inl ⟨by rfl, fun w' hw' => by (clear hw'; go_simp)⟩) hHeld ?_
          simp only [Act.put, List.setIfInBounds_toArray, List.set_cons_zero, List.set_cons_succ]
          refine wpAnyH_take (i := 2) (oi := { dst := some 37, op := Op.move (Operand.tmp 8), type := 3, pos := "sort.go:167", after := #[], guard := none }) (v := .int .i64 (n : Int)) rfl (by kernel_rfl) (by kernel_rfl) (by kernel_rfl) (fun _ _ _ h => h) (Or.inl ⟨by rfl, fun w' hw' => by (clear hw'; go_simp)⟩) hHeld ?_
          simp only [Act.put, List.setIfInBounds_toArray, List.set_cons_zero, List.set_cons_succ]
          refine wpAnyH_take (i := 3) (oi := { dst := some 38, op := Op.binOp BinOp.lss 3 (Operand.tmp 36) (Operand.tmp 37) 3, type := 4, pos := "sort.go:167", after := #[{ on := 1, ground := Ground.data }, { on := 2, ground := Ground.data }], guard := none }) (v := .bool true) rfl (by kernel_rfl) (by kernel_rfl) (by kernel_rfl) (fun _ _ _ h => h) (Or.inl ⟨by rfl, fun w' hw' => by (clear hw'; go_simp)⟩) hHeld ?_
          simp only [Act.put, List.setIfInBounds_toArray, List.set_cons_zero, List.set_cons_succ]
          refine wpAnyH_take (i := 4) (oi := { dst := some 39, op := Op.move (Operand.tmp 38), type := 4, pos := "sort.go:167", after := #[{ on := 3, ground := Ground.data }], guard := none }) (v := .bool true) rfl (by kernel_rfl) (by kernel_rfl) (by kernel_rfl) (fun _ _ _ h => h) (Or.inl ⟨by rfl, fun w' hw' => by (clear hw'; go_simp)⟩) hHeld ?_
          simp only [Act.put, List.setIfInBounds_toArray, List.set_cons_zero, List.set_cons_succ]
          refine wpAnyH_take (i := 5) (oi := { dst := some 40, op := Op.move (Operand.tmp 2), type := 108, pos := "sort.go:167", after := #[{ on := 4, ground := Ground.guard }], guard := some (4, true) }) (v := .func (.func 41) #[] #[]) rfl (by kernel_rfl) (by kernel_rfl) (by kernel_rfl) (fun _ _ _ h => h) (Or.inl ⟨by rfl, fun w' hw' => by (clear hw'; go_simp)⟩) hHeld ?_
          simp only [Act.put, List.setIfInBounds_toArray, List.set_cons_zero, List.set_cons_succ]
          refine wpAnyH_take (i := 6) (oi := { dst := some 41, op := Op.move (Operand.tmp 0), type := 30, pos := "sort.go:167", after := #[{ on := 4, ground := Ground.guard }], guard := some (4, true) }) (v := .slice (some ⟨g, o, none⟩) n c) rfl (by kernel_rfl) (by kernel_rfl) (by kernel_rfl) (fun _ _ _ h => h) (Or.inl ⟨by rfl, fun w' hw' => by (clear hw'; go_simp)⟩) hHeld ?_
          simp only [Act.put, List.setIfInBounds_toArray, List.set_cons_zero, List.set_cons_succ]
          refine wpAnyH_take (i := 7) (oi := { dst := some 42, op := Op.move (Operand.tmp 9), type := 3, pos := "sort.go:167", after := #[{ on := 4, ground := Ground.guard }], guard := some (4, true) }) (v := .int .i64 (i : Int)) rfl (by kernel_rfl) (by kernel_rfl) (by kernel_rfl) (fun _ _ _ h => h) (Or.inl ⟨by rfl, fun w' hw' => by (clear hw'; go_simp)⟩) hHeld ?_
          simp only [Act.put, List.setIfInBounds_toArray, List.set_cons_zero, List.set_cons_succ]
          refine wpAnyH_take (i := 8) (oi := { dst := some 43, op := Op.indexAddr 30 (Operand.tmp 41) (Operand.tmp 42), type := 0, pos := "sort.go:167", after := #[{ on := 6, ground := Ground.data }, { on := 7, ground := Ground.data }, { on := 4, ground := Ground.guard }], guard := some (4, true) }) (v := .pointer (some ⟨g, o + i * 35, none⟩)) rfl (by kernel_rfl) (by kernel_rfl) (by kernel_rfl) (fun _ _ _ h => h) (Or.inl ⟨by rfl, fun w' hw' => by (clear hw'; go_simp)⟩) hHeld ?_
          simp only [Act.put, List.setIfInBounds_toArray, List.set_cons_zero, List.set_cons_succ]
          refine wpAnyH_take (i := 9) (oi := { dst := some 44, op := Op.load 64 (Operand.tmp 43), type := 64, pos := "sort.go:167", after := #[{ on := 8, ground := Ground.data }, { on := 4, ground := Ground.guard }], guard := some (4, true) }) (v := .agg cx.toArray) rfl (by kernel_rfl) (by kernel_rfl) (by kernel_rfl) (fun _ _ _ h => h) (yieldsIf_load_mid (by rfl) _ _ rfl g (o + i * 35) rfl cx _ (Hx.out) Tryz.underlying64 rfl HIx.out) hHeld ?_
          simp only [Act.put, List.setIfInBounds_toArray, List.set_cons_zero, List.set_cons_succ]
          refine wpAnyH_take (i := 10) (oi := { dst := some 45, op := Op.load 64 (Operand.tmp 4), type := 64, pos := "sort.go:167", after := #[{ on := 4, ground := Ground.guard }], guard := some (4, true) }) (v := .agg cy.toArray) rfl (by kernel_rfl) (by kernel_rfl) (by kernel_rfl) (fun _ _ _ h => h) (yieldsIf_load_mid (by rfl) _ _ rfl w.heap.size 0 rfl cy _ (Hy.out) Tryz.underlying64 rfl HIy.out) hHeld ?_
          simp only [Act.put, List.setIfInBounds_toArray, List.set_cons_zero, List.set_cons_succ]
          refine wpAnyH_ready (rs := [11]) (by kernel_rfl) (by simp) ?_
          refine AllReadyH.cons (o := { dst := some 46, op := Op.call { callee := Callee.value (Operand.tmp 40), args := #[Operand.tmp 44, Operand.tmp 45], argTypes := #[64, 64] }, type := 3, pos := "sort.go:167", after := #[{ on := 5, ground := Ground.data }, { on := 9, ground := Ground.data }, { on := 10, ground := Ground.data }, { on := 4, ground := Ground.chain }, { on := 4, ground := Ground.guard }], guard := some (4, true) }) rfl (fun K hK => ?_) AllReadyH.nil
          go_simp
          refine (HCMP.out _).mono ?_
          rintro e w3 ⟨rfl, h3⟩
          have HK3 : Hid (Kp No wr w3) := (Kp.refl No wr).drew.andNone (Kp.below h3)
          clear h3
          go_wp2_with fail
          refine hK.out _ _ (HK3.out) (fun hh => ?_)
          clear hK K hHeld
          have hHeld := hh
          clear hh
          try simp only [Act.put, List.setIfInBounds_toArray, List.set_cons_zero, List.set_cons_succ]
          refine wpAnyH_take (i := 12) (oi := { dst := some 47, op := Op.binOp BinOp.eql 3 (Operand.tmp 46) (Operand.const (Value.int IntKind.i64 0)) 3, type := 4, pos := "sort.go:167", after := #[{ on := 11, ground := Ground.data }, { on := 4, ground := Ground.guard }, { on := 14, ground := Ground.gcOnly Departure.lateStores }], guard := some (4, true) }) (v := .bool true) rfl (by kernel_rfl) (by kernel_rfl) (by kernel_rfl) (fun _ _ _ h => h) (Or.inl ⟨by rfl, fun w' hw' => by (clear hw'; go_simp)⟩) hHeld ?_
          simp only [Act.put, List.setIfInBounds_toArray, List.set_cons_zero, List.set_cons_succ]
          refine wpAnyH_take (i := 13) (oi := { dst := some 48, op := Op.pick (Operand.tmp 39) (Operand.tmp 47) (Operand.const (Value.bool false)), type := 4, pos := "sort.go:167", after := #[{ on := 4, ground := Ground.data }, { on := 12, ground := Ground.data }, { on := 14, ground := Ground.gcOnly Departure.lateStores }], guard := none }) (v := .bool true) rfl (by kernel_rfl) (by kernel_rfl) (by kernel_rfl) (fun _ _ _ h => h) (Or.inl ⟨by rfl, fun w' hw' => by (clear hw'; go_simp)⟩) hHeld ?_
          simp only [Act.put, List.setIfInBounds_toArray, List.set_cons_zero, List.set_cons_succ]
          refine wpAnyH_take (i := 14) (oi := { dst := some 6, op := Op.assign (Operand.tmp 35), type := 3, pos := "sort.go:167", after := #[{ on := 0, ground := Ground.data }, { on := 11, ground := Ground.chain }, { on := 0, ground := Ground.phase }, { on := 1, ground := Ground.textOnly Departure.lateStores }, { on := 2, ground := Ground.textOnly Departure.lateStores }, { on := 3, ground := Ground.textOnly Departure.lateStores }, { on := 4, ground := Ground.textOnly Departure.lateStores }, { on := 5, ground := Ground.textOnly Departure.lateStores }, { on := 6, ground := Ground.textOnly Departure.lateStores }, { on := 7, ground := Ground.textOnly Departure.lateStores }, { on := 8, ground := Ground.textOnly Departure.lateStores }, { on := 9, ground := Ground.textOnly Departure.lateStores }, { on := 10, ground := Ground.textOnly Departure.lateStores }, { on := 11, ground := Ground.textOnly Departure.lateStoresUnsure }, { on := 12, ground := Ground.textOnly Departure.lateStores }, { on := 13, ground := Ground.textOnly Departure.lateStores }], guard := none }) (v := .int .i64 (i : Int)) rfl (by kernel_rfl) (by kernel_rfl) (by kernel_rfl) (fun _ _ _ h => h) (Or.inl ⟨by rfl, fun w' hw' => by (clear hw'; go_simp)⟩) hHeld ?_
          simp only [Act.put, List.setIfInBounds_toArray, List.set_cons_zero, List.set_cons_succ]
          refine wpAnyH_take (i := 15) (oi := { dst := some 7, op := Op.assign (Operand.tmp 48), type := 4, pos := "sort.go:167", after := #[{ on := 13, ground := Ground.data }, { on := 14, ground := Ground.chain }, { on := 0, ground := Ground.phase }, { on := 1, ground := Ground.phase }, { on := 2, ground := Ground.phase }, { on := 3, ground := Ground.phase }, { on := 4, ground := Ground.phase }, { on := 5, ground := Ground.phase }, { on := 6, ground := Ground.phase }, { on := 7, ground := Ground.phase }, { on := 8, ground := Ground.phase }, { on := 9, ground := Ground.phase }, { on := 10, ground := Ground.phase }, { on := 11, ground := Ground.phase }, { on := 12, ground := Ground.phase }, { on := 13, ground := Ground.phase }, { on := 14, ground := Ground.phase }], guard := none }) (v := .bool true) rfl (by kernel_rfl) (by kernel_rfl) (by kernel_rfl) (fun _ _ _ h => h) (Or.inl ⟨by rfl, fun w' hw' => by (clear hw'; go_simp)⟩) hHeld ?_
          simp only [Act.put, List.setIfInBounds_toArray, List.set_cons_zero, List.set_cons_succ]
          refine wpAnyH_done (by kernel_rfl) ?_ _
          have HA3 := hid (HBX.out _ (HKK.out.andNone HK3.out)).2
          clear hHeld HK3 HCMP Hx Hy HIx HKK
          go_wp2_with fail
          go_ret2
          exact ⟨⟨i, true, rfl, HB.out⟩, HA3.out⟩
        · have HB : Hid (BS d x.1 i false) := ⟨by rw [HN.out]; omega, HE.out.1, HE.out.2, ⟨fun h => (by cases h), fun ⟨q, hq, hqe⟩ => (by
            rw [HYE.out] at hq
            cases hq
            exact absurd (HCV.out.2 hqe) hz)⟩⟩
          clear HCV
          refine wp_region_held_drew (S := fun V => Kp No wr V) (by kernel_rfl) ((Kp.refl _ _).drew) (fun hHeld => ?_)
          refine wpAnyH_take (i := 0) (oi := { dst := some 35, op := Op.move (Operand.tmp 9), type := 3, pos := "sort.go:167", after := #[], guard := none }) (v := .int .i64 (i : Int)) rfl (by kernel_rfl) (by kernel_rfl) (by kernel_rfl) (fun _ _ _ h => h) (Or.inl ⟨by rfl, fun w' hw' => by (clear hw'; go_simp)⟩) hHeld ?_
          simp only [Act.put, List.setIfInBounds_toArray, List.set_cons_zero, List.set_cons_succ]
          refine wpAnyH_take (i := 1) (oi := { dst := some 36, op := Op.move (Operand.tmp 9), type := 3, pos := "sort.go:167", after := #[], guard := none }) (v := .int .i64 (i : Int)) rfl (by kernel_rfl) (by kernel_rfl) (by kernel_rfl) (fun _ _ _ h => h) (Or.inl ⟨by rfl, fun w' hw' => by (clear hw'; go_simp)⟩) hHeld ?_
          simp only [Act.put, List.setIfInBounds_toArray, List.set_cons_zero, List.set_cons_succ]
          refine wpAnyH_take (i := 2) (oi := { dst := some 37, op := Op.move (Operand.tmp 8), type := 3, pos := "sort.go:167", after := #[], guard := none }) (v := .int .i64 (n : Int)) rfl (by kernel_rfl) (by kernel_rfl) (by kernel_rfl) (fun _ _ _ h => h) (Or.inl ⟨by rfl, fun w' hw' => by (clear hw'; go_simp)⟩) hHeld ?_
          simp only [Act.put, List.setIfInBounds_toArray, List.set_cons_zero, List.set_cons_succ]
          refine wpAnyH_take (i := 3) (oi := { dst := some 38, op := Op.binOp BinOp.lss 3 (Operand.tmp 36) (Operand.tmp 37) 3, type := 4, pos := "sort.go:167", after := #[{ on := 1, ground := Ground.data }, { on := 2, ground := Ground.data }], guard := none }) (v := .bool true) rfl (by kernel_rfl) (by kernel_rfl) (by kernel_rfl) (fun _ _ _ h => h) (Or.inl ⟨by rfl, fun w' hw' => by (clear hw'; go_simp)⟩) hHeld ?_
          simp only [Act.put, List.setIfInBounds_toArray, List.set_cons_zero, List.set_cons_succ]
          refine wpAnyH_take (i := 4) (oi := { dst := some 39, op := Op.move (Operand.tmp 38), type := 4, pos := "sort.go:167", after := #[{ on := 3, ground := Ground.data }], guard := none }) (v := .bool true) rfl (by kernel_rfl) (by kernel_rfl) (by kernel_rfl) (fun _ _ _ h => h) (Or.inl ⟨by rfl, fun w' hw' => by (clear hw'; go_simp)⟩) hHeld ?_
          simp only [Act.put, List.setIfInBounds_toArray, List.set_cons_zero, List.set_cons_succ]
          refine wpAnyH_take (i := 5) (oi := { dst := some 40, op := Op.move (Operand.tmp 2), type := 108, pos := "sort.go:167", after := #[{ on := 4, ground := Ground.guard }], guard := some (4, true) }) (v := .func (.func 41) #[] #[]) rfl (by kernel_rfl) (by kernel_rfl) (by kernel_rfl) (fun _ _ _ h => h) (Or.inl ⟨by rfl, fun w' hw' => by (clear hw'; go_simp)⟩) hHeld ?_
          simp only [Act.put, List.setIfInBounds_toArray, List.set_cons_zero, List.set_cons_succ]
          refine wpAnyH_take (i := 6) (oi := { dst := some 41, op := Op.move (Operand.tmp 0), type := 30, pos := "sort.go:167", after := #[{ on := 4, ground := Ground.guard }], guard := some (4, true) }) (v := .slice (some ⟨g, o, none⟩) n c) rfl (by kernel_rfl) (by kernel_rfl) (by kernel_rfl) (fun _ _ _ h => h) (Or.inl ⟨by rfl, fun w' hw' => by (clear hw'; go_simp)⟩) hHeld ?_
          simp only [Act.put, List.setIfInBounds_toArray, List.set_cons_zero, List.set_cons_succ]
          refine wpAnyH_take (i := 7) (oi := { dst := some 42, op := Op.move (Operand.tmp 9), type := 3, pos := "sort.go:167", after := #[{ on := 4, ground := Ground.guard }], guard := some (4, true) }) (v := .int .i64 (i : Int)) rfl (by kernel_rfl) (by kernel_rfl) (by kernel_rfl) (fun _ _ _ h => h) (Or.inl ⟨by rfl, fun w' hw' => by (clear hw'; go_simp)⟩) hHeld ?_
          simp only [Act.put, List.setIfInBounds_toArray, List.set_cons_zero, List.set_cons_succ]
          refine wpAnyH_take (i := 8) (oi := { dst := some 43, op := Op.indexAddr 30 (Operand.tmp 41) (Operand.tmp 42), type := 0, pos := "sort.go:167", after := #[{ on := 6, ground := Ground.data }, { on := 7, ground := Ground.data }, { on := 4, ground := Ground.guard }], guard := some (4, true) }) (v := .pointer (some ⟨g, o + i * 35, none⟩)) rfl (by kernel_rfl) (by kernel_rfl) (by kernel_rfl) (fun _ _ _ h => h) (Or.inl ⟨by rfl, fun w' hw' => by (clear hw'; go_simp)⟩) hHeld ?_
          simp only [Act.put, List.setIfInBounds_toArray, List.set_cons_zero, List.set_cons_succ]
          refine wpAnyH_take (i := 9) (oi := { dst := some 44, op := Op.load 64 (Operand.tmp 43), type := 64, pos := "sort.go:167", after := #[{ on := 8, ground := Ground.data }, { on := 4, ground := Ground.guard }], guard := some (4, true) }) (v := .agg cx.toArray) rfl (by kernel_rfl) (by kernel_rfl) (by kernel_rfl) (fun _ _ _ h => h) (yieldsIf_load_mid (by rfl) _ _ rfl g (o + i * 35) rfl cx _ (Hx.out) Tryz.underlying64 rfl HIx.out) hHeld ?_
          simp only [Act.put, List.setIfInBounds_toArray, List.set_cons_zero, List.set_cons_succ]
          refine wpAnyH_take (i := 10) (oi := { dst := some 45, op := Op.load 64 (Operand.tmp 4), type := 64, pos := "sort.go:167", after := #[{ on := 4, ground := Ground.guard }], guard := some (4, true) }) (v := .agg cy.toArray) rfl (by kernel_rfl) (by kernel_rfl) (by kernel_rfl) (fun _ _ _ h => h) (yieldsIf_load_mid (by rfl) _ _ rfl w.heap.size 0 rfl cy _ (Hy.out) Tryz.underlying64 rfl HIy.out) hHeld ?_
          simp only [Act.put, List.setIfInBounds_toArray, List.set_cons_zero, List.set_cons_succ]
          refine wpAnyH_ready (rs := [11]) (by kernel_rfl) (by simp) ?_
          refine AllReadyH.cons (o := { dst := some 46, op := Op.call { callee := Callee.value (Operand.tmp 40), args := #[Operand.tmp 44, Operand.tmp 45], argTypes := #[64, 64] }, type := 3, pos := "sort.go:167", after := #[{ on := 5, ground := Ground.data }, { on := 9, ground := Ground.data }, { on := 10, ground := Ground.data }, { on := 4, ground := Ground.chain }, { on := 4, ground := Ground.guard }], guard := some (4, true) }) rfl (fun K hK => ?_) AllReadyH.nil
          go_simp
          refine (HCMP.out _).mono ?_
          rintro e w3 ⟨rfl, h3⟩
          have HK3 : Hid (Kp No wr w3) := (Kp.refl No wr).drew.andNone (Kp.below h3)
          clear h3
          go_wp2_with fail
          refine hK.out _ _ (HK3.out) (fun hh => ?_)
          clear hK K hHeld
          have hHeld := hh
          clear hh
          try simp only [Act.put, List.setIfInBounds_toArray, List.set_cons_zero, List.set_cons_succ]
          refine wpAnyH_take (i := 12) (oi := { dst := some 47, op := Op.binOp BinOp.eql 3 (Operand.tmp 46) (Operand.const (Value.int IntKind.i64 0)) 3, type := 4, pos := "sort.go:167", after := #[{ on := 11, ground := Ground.data }, { on := 4, ground := Ground.guard }, { on := 14, ground := Ground.gcOnly Departure.lateStores }], guard := some (4, true) }) (v := .bool false) rfl (by kernel_rfl) (by kernel_rfl) (by kernel_rfl) (fun _ _ _ h => h) (Or.inl ⟨by rfl, fun w' hw' => by (clear hw'; go_simp)⟩) hHeld ?_
          simp only [Act.put, List.setIfInBounds_toArray, List.set_cons_zero, List.set_cons_succ]
          refine wpAnyH_take (i := 13) (oi := { dst := some 48, op := Op.pick (Operand.tmp 39) (Operand.tmp 47) (Operand.const (Value.bool false)), type := 4, pos := "sort.go:167", after := #[{ on := 4, ground := Ground.data }, { on := 12, ground := Ground.data }, { on := 14, ground := Ground.gcOnly Departure.lateStores }], guard := none }) (v := .bool false) rfl (by kernel_rfl) (by kernel_rfl) (by kernel_rfl) (fun _ _ _ h => h) (Or.inl ⟨by rfl, fun w' hw' => by (clear hw'; go_simp)⟩) hHeld ?_
          simp only [Act.put, List.setIfInBounds_toArray, List.set_cons_zero, List.set_cons_succ]
          refine wpAnyH_take (i := 14) (oi := { dst := some 6, op := Op.assign (Operand.tmp 35), type := 3, pos := "sort.go:167", after := #[{ on := 0, ground := Ground.data }, { on := 11, ground := Ground.chain }, { on := 0, ground := Ground.phase }, { on := 1, ground := Ground.textOnly Departure.lateStores }, { on := 2, ground := Ground.textOnly Departure.lateStores }, { on := 3, ground := Ground.textOnly Departure.lateStores }, { on := 4, ground := Ground.textOnly Departure.lateStores }, { on := 5, ground := Ground.textOnly Departure.lateStores }, { on := 6, ground := Ground.textOnly Departure.lateStores }, { on := 7, ground := Ground.textOnly Departure.lateStores }, { on := 8, ground := Ground.textOnly Departure.lateStores }, { on := 9, ground := Ground.textOnly Departure.lateStores }, { on := 10, ground := Ground.textOnly Departure.lateStores }, { on := 11, ground := Ground.textOnly Departure.lateStoresUnsure }, { on := 12, ground := Ground.textOnly Departure.lateStores }, { on := 13, ground := Ground.textOnly Departure.lateStores }], guard := none }) (v := .int .i64 (i : Int)) rfl (by kernel_rfl) (by kernel_rfl) (by kernel_rfl) (fun _ _ _ h => h) (Or.inl ⟨by rfl, fun w' hw' => by (clear hw'; go_simp)⟩) hHeld ?_
          simp only [Act.put, List.setIfInBounds_toArray, List.set_cons_zero, List.set_cons_succ]
          refine wpAnyH_take (i := 15) (oi := { dst := some 7, op := Op.assign (Operand.tmp 48), type := 4, pos := "sort.go:167", after := #[{ on := 13, ground := Ground.data }, { on := 14, ground := Ground.chain }, { on := 0, ground := Ground.phase }, { on := 1, ground := Ground.phase }, { on := 2, ground := Ground.phase }, { on := 3, ground := Ground.phase }, { on := 4, ground := Ground.phase }, { on := 5, ground := Ground.phase }, { on := 6, ground := Ground.phase }, { on := 7, ground := Ground.phase }, { on := 8, ground := Ground.phase }, { on := 9, ground := Ground.phase }, { on := 10, ground := Ground.phase }, { on := 11, ground := Ground.phase }, { on := 12, ground := Ground.phase }, { on := 13, ground := Ground.phase }, { on := 14, ground := Ground.phase }], guard := none }) (v := .bool false) rfl (by kernel_rfl) (by kernel_rfl) (by kernel_rfl) (fun _ _ _ h => h) (Or.inl ⟨by rfl, fun w' hw' => by (clear hw'; go_simp)⟩) hHeld ?_
          simp only [Act.put, List.setIfInBounds_toArray, List.set_cons_zero, List.set_cons_succ]
          refine wpAnyH_done (by kernel_rfl) ?_ _
          have HA3 := hid (HBX.out _ (HKK.out.andNone HK3.out)).2
          clear hHeld HK3 HCMP Hx Hy HIx HKK
          go_wp2_with fail
          go_ret2
          exact ⟨⟨i, false, rfl, HB.out⟩, HA3.out⟩
      · have hinI : ¬ (i : Int) < (n : Int) := by omega
        have HB : Hid (BS d x.1 i false) := ⟨by rw [HN.out]; omega, HE.out.1, HE.out.2, ⟨fun h => (by cases h), fun ⟨y, hy, _⟩ => (by have := (List.getElem?_eq_some_iff.1 hy).1; have := HN.out; omega)⟩⟩
        go_wp2_with fail
        refine wp_region_held_drew (S := fun V => Kp No wr V) (by kernel_rfl) ((Kp.refl _ _).drew) (fun hHeld => ?_)
        refine wpAnyH_take (i := 0) (oi := { dst := some 35, op := Op.move (Operand.tmp 9), type := 3, pos := "sort.go:167", after := #[], guard := none }) (v := .int .i64 (i : Int)) rfl (by kernel_rfl) (by kernel_rfl) (by kernel_rfl) (fun _ _ _ h => h) (Or.inl ⟨by rfl, fun w' hw' => by (clear hw'; go_simp)⟩) hHeld ?_
        simp only [Act.put, List.setIfInBounds_toArray, List.set_cons_zero, List.set_cons_succ]
        refine wpAnyH_take (i := 1) (oi := { dst := some 36, op := Op.move (Operand.tmp 9), type := 3, pos := "sort.go:167", after := #[], guard := none }) (v := .int .i64 (i : Int)) rfl (by kernel_rfl) (by kernel_rfl) (by kernel_rfl) (fun _ _ _ h => h) (Or.inl ⟨by rfl, fun w' hw' => by (clear hw'; go_simp)⟩) hHeld ?_
        simp only [Act.put, List.setIfInBounds_toArray, List.set_cons_zero, List.set_cons_succ]
        refine wpAnyH_take (i := 2) (oi := { dst := some 37, op := Op.move (Operand.tmp 8), type := 3, pos := "sort.go:167", after := #[], guard := none }) (v := .int .i64 (n : Int)) rfl (by kernel_rfl) (by kernel_rfl) (by kernel_rfl) (fun _ _ _ h => h) (Or.inl ⟨by rfl, fun w' hw' => by (clear hw'; go_simp)⟩) hHeld ?_
        simp only [Act.put, List.setIfInBounds_toArray, List.set_cons_zero, List.set_cons_succ]
        refine wpAnyH_take (i := 3) (oi := { dst := some 38, op := Op.binOp BinOp.lss 3 (Operand.tmp 36) (Operand.tmp 37) 3, type := 4, pos := "sort.go:167", after := #[{ on := 1, ground := Ground.data }, { on := 2, ground := Ground.data }], guard := none }) (v := .bool false) rfl (by kernel_rfl) (by kernel_rfl) (by kernel_rfl) (fun _ _ _ h => h) (Or.inl ⟨by rfl, fun w' hw' => by (clear hw'; go_simp)⟩) hHeld ?_
        simp only [Act.put, List.setIfInBounds_toArray, List.set_cons_zero, List.set_cons_succ]
        refine wpAnyH_take (i := 4) (oi := { dst := some 39, op := Op.move (Operand.tmp 38), type := 4, pos := "sort.go:167", after := #[{ on := 3, ground := Ground.data }], guard := none }) (v := .bool false) rfl (by kernel_rfl) (by kernel_rfl) (by kernel_rfl) (fun _ _ _ h => h) (Or.inl ⟨by rfl, fun w' hw' => by (clear hw'; go_simp)⟩) hHeld ?_
        simp only [Act.put, List.setIfInBounds_toArray, List.set_cons_zero, List.set_cons_succ]
        refine wpAnyH_take (i := 5) (oi := { dst := some 40, op := Op.move (Operand.tmp 2), type := 108, pos := "sort.go:167", after := #[{ on := 4, ground := Ground.guard }], guard := some (4, true) }) (v := undef) rfl (by kernel_rfl) (by kernel_rfl) (by kernel_rfl) (fun _ _ _ h => h) (Or.inr ⟨by rfl, rfl⟩) hHeld ?_
        simp only [Act.put, List.setIfInBounds_toArray, List.set_cons_zero, List.set_cons_succ]
        refine wpAnyH_take (i := 6) (oi := { dst := some 41, op := Op.move (Operand.tmp 0), type := 30, pos := "sort.go:167", after := #[{ on := 4, ground := Ground.guard }], guard := some (4, true) }) (v := undef) rfl (by kernel_rfl) (by kernel_rfl) (by kernel_rfl) (fun _ _ _ h => h) (Or.inr ⟨by rfl, rfl⟩) hHeld ?_
        simp only [Act.put, List.setIfInBounds_toArray, List.set_cons_zero, List.set_cons_succ]
        refine wpAnyH_take (i := 7) (oi := { dst := some 42, op := Op.move (Operand.tmp 9), type := 3, pos := "sort.go:167", after := #[{ on := 4, ground := Ground.guard }], guard := some (4, true) }) (v := undef) rfl (by kernel_rfl) (by kernel_rfl) (by kernel_rfl) (fun _ _ _ h => h) (Or.inr ⟨by rfl, rfl⟩) hHeld ?_
        simp only [Act.put, List.setIfInBounds_toArray, List.set_cons_zero, List.set_cons_succ]
        refine wpAnyH_take (i := 8) (oi := { dst := some 43, op := Op.indexAddr 30 (Operand.tmp 41) (Operand.tmp 42), type := 0, pos := "sort.go:167", after := #[{ on := 6, ground := Ground.data }, { on := 7, ground := Ground.data }, { on := 4, ground := Ground.guard }], guard := some (4, true) }) (v := undef) rfl (by kernel_rfl) (by kernel_rfl) (by kernel_rfl) (fun _ _ _ h => h) (Or.inr ⟨by rfl, rfl⟩) hHeld ?_
        simp only [Act.put, List.setIfInBounds_toArray, List.set_cons_zero, List.set_cons_succ]
        refine wpAnyH_take (i := 9) (oi := { dst := some 44, op := Op.load 64 (Operand.tmp 43), type := 64, pos := "sort.go:167", after := #[{ on := 8, ground := Ground.data }, { on := 4, ground := Ground.guard }], guard := some (4, true) }) (v := undef) rfl (by kernel_rfl) (by kernel_rfl) (by kernel_rfl) (fun _ _ _ h => h) (Or.inr ⟨by rfl, rfl⟩) hHeld ?_
        simp only [Act.put, List.setIfInBounds_toArray, List.set_cons_zero, List.set_cons_succ]
        refine wpAnyH_take (i := 10) (oi := { dst := some 45, op := Op.load 64 (Operand.tmp 4), type := 64, pos := "sort.go:167", after := #[{ on := 4, ground := Ground.guard }], guard := some (4, true) }) (v := undef) rfl (by kernel_rfl) (by kernel_rfl) (by kernel_rfl) (fun _ _ _ h => h) (Or.inr ⟨by rfl, rfl⟩) hHeld ?_
        simp only [Act.put, List.setIfInBounds_toArray, List.set_cons_zero, List.set_cons_succ]
        refine wpAnyH_take (i := 11) (oi := { dst := some 46, op := Op.call { callee := Callee.value (Operand.tmp 40), args := #[Operand.tmp 44, Operand.tmp 45], argTypes := #[64, 64] }, type := 3, pos := "sort.go:167", after := #[{ on := 5, ground := Ground.data }, { on := 9, ground := Ground.data }, { on := 10, ground := Ground.data }, { on := 4, ground := Ground.chain }, { on := 4, ground := Ground.guard }], guard := some (4, true) }) (v := undef) rfl (by kernel_rfl) (by kernel_rfl) (by kernel_rfl) (fun _ _ _ h => h) (Or.inr ⟨by rfl, rfl⟩) hHeld ?_
        simp only [Act.put, List.setIfInBounds_toArray, List.set_cons_zero, List.set_cons_succ]
        refine wpAnyH_take (i := 12) (oi := { dst := some 47, op := Op.binOp BinOp.eql 3 (Operand.tmp 46) (Operand.const (Value.int IntKind.i64 0)) 3, type := 4, pos := "sort.go:167", after := #[{ on := 11, ground := Ground.data }, { on := 4, ground := Ground.guard }, { on := 14, ground := Ground.gcOnly Departure.lateStores }], guard := some (4, true) }) (v := undef) rfl (by kernel_rfl) (by kernel_rfl) (by kernel_rfl) (fun _ _ _ h => h) (Or.inr ⟨by rfl, rfl⟩) hHeld ?_
        simp only [Act.put, List.setIfInBounds_toArray, List.set_cons_zero, List.set_cons_succ]
        refine wpAnyH_take (i := 13) (oi := { dst := some 48, op := Op.pick (Operand.tmp 39) (Operand.tmp 47) (Operand.const (Value.bool false)), type := 4, pos := "sort.go:167", after := #[{ on := 4, ground := Ground.data }, { on := 12, ground := Ground.data }, { on := 14, ground := Ground.gcOnly Departure.lateStores }], guard := none }) (v := .bool false) rfl (by kernel_rfl) (by kernel_rfl) (by kernel_rfl) (fun _ _ _ h => h) (Or.inl ⟨by rfl, fun w' hw' => by (clear hw'; go_simp)⟩) hHeld ?_
        simp only [Act.put, List.setIfInBounds_toArray, List.set_cons_zero, List.set_cons_succ]
        refine wpAnyH_take (i := 14) (oi := { dst := some 6, op := Op.assign (Operand.tmp 35), type := 3, pos := "sort.go:167", after := #[{ on := 0, ground := Ground.data }, { on := 11, ground := Ground.chain }, { on := 0, ground := Ground.phase }, { on := 1, ground := Ground.textOnly Departure.lateStores }, { on := 2, ground := Ground.textOnly Departure.lateStores }, { on := 3, ground := Ground.textOnly Departure.lateStores }, { on := 4, ground := Ground.textOnly Departure.lateStores }, { on := 5, ground := Ground.textOnly Departure.lateStores }, { on := 6, ground := Ground.textOnly Departure.lateStores }, { on := 7, ground := Ground.textOnly Departure.lateStores }, { on := 8, ground := Ground.textOnly Departure.lateStores }, { on := 9, ground := Ground.textOnly Departure.lateStores }, { on := 10, ground := Ground.textOnly Departure.lateStores }, { on := 11, ground := Ground.textOnly Departure.lateStoresUnsure }, { on := 12, ground := Ground.textOnly Departure.lateStores }, { on := 13, ground := Ground.textOnly Departure.lateStores }], guard := none }) (v := .int .i64 (i : Int)) rfl (by kernel_rfl) (by kernel_rfl) (by kernel_rfl) (fun _ _ _ h => h) (Or.inl ⟨by rfl, fun w' hw' => by (clear hw'; go_simp)⟩) hHeld ?_
        simp only [Act.put, List.setIfInBounds_toArray, List.set_cons_zero, List.set_cons_succ]
        refine wpAnyH_take (i := 15) (oi := { dst := some 7, op := Op.assign (Operand.tmp 48), type := 4, pos := "sort.go:167", after := #[{ on := 13, ground := Ground.data }, { on := 14, ground := Ground.chain }, { on := 0, ground := Ground.phase }, { on := 1, ground := Ground.phase }, { on := 2, ground := Ground.phase }, { on := 3, ground := Ground.phase }, { on := 4, ground := Ground.phase }, { on := 5, ground := Ground.phase }, { on := 6, ground := Ground.phase }, { on := 7, ground := Ground.phase }, { on := 8, ground := Ground.phase }, { on := 9, ground := Ground.phase }, { on := 10, ground := Ground.phase }, { on := 11, ground := Ground.phase }, { on := 12, ground := Ground.phase }, { on := 13, ground := Ground.phase }, { on := 14, ground := Ground.phase }], guard := none }) (v := .bool false) rfl (by kernel_rfl) (by kernel_rfl) (by kernel_rfl) (fun _ _ _ h => h) (Or.inl ⟨by rfl, fun w' hw' => by (clear hw'; go_simp)⟩) hHeld ?_
        simp only [Act.put, List.setIfInBounds_toArray, List.set_cons_zero, List.set_cons_succ]
        refine wpAnyH_done (by kernel_rfl) ?_ _
        have HA3 := hid (HBX.out _ (HKK.out.andNone ((Kp.refl _ _).drew))).2
        clear hHeld HKK
        go_wp2_with fail
        go_ret2
        exact ⟨⟨i, false, rfl, HB.out⟩, HA3.out⟩
end Go.Proofs.YtampnikdmgojjaaGreat.Sg
end

section
/-
  segment.Find: where the object of a name stands.
-/
namespace Go.Proofs.YtampnikdmgojjaaGreat.Sg
open Go.RowKit
open Stb (Stab Srt Mrg)
open Sim (hid Kp No)

theorem UpTo.lt {d : List Ent} (h : UpTo d d.length) : ∀ (m t u : Nat) (p q : Ent), u = t + 1 + m → d[t]? = some p → d[u]? = some q → lexB p.1 q.1 = true
  | 0, t, u, p, q, hu, hp, hq => (h u q (List.getElem?_eq_some_iff.1 hq).1 hq).2 t p (by omega) hp
  | m + 1, t, u, p, q, hu, hp, hq => by
    have hul := (List.getElem?_eq_some_iff.1 hq).1
    obtain ⟨r, hr⟩ : ∃ r, d[t + 1 + m]? = some r := ⟨_, List.getElem?_eq_getElem (by omega)⟩
    exact lexB_trans _ _ _ (UpTo.lt h m t (t + 1 + m) p r rfl hp hr) ((h u q hul hq).2 (t + 1 + m) r (by omega) hr)
theorem UpTo.mono {d : List Ent} (h : UpTo d d.length) (x : List Int) : ∀ (t u : Nat) (p q : Ent), t ≤ u → d[t]? = some p → d[u]? = some q → lexB q.1 x = true → lexB p.1 x = true := fun t u p q htu hp hq hl => by
  by_cases e : t = u
  · subst e
    rw [hp] at hq
    cases hq
    exact hl
  · exact lexB_trans _ _ _ (h.lt (u - t - 1) t u p q (by omega) hp hq) hl

theorem results_cell_two {P : Program} {fn : Func} {p u : Tmp} {ty : TypeId} (h : fn.results = #[.cell p ty, .tmp u]) (tmps : Array Value) (w : World) (g o : Nat) (cs : List Value) (d : TypeDesc)
    (hp : tmps.getD p undef = .pointer (some ⟨g, o, none⟩)) (hc : w.rangeAt g o cs) (hu : P.underlying ty = some d) (hd : d.isRow = true) (hi : (P.info? ty).map (·.size) = some cs.length) :
    (results fn tmps).run P w = .ok (.tuple #[.agg cs.toArray, tmps.getD u undef]) w := by
  have hp' : tmps[p]?.getD undef = .pointer (some ⟨g, o, none⟩) := by simpa using hp
  simp only [results, h]
  simp [Result.andThen, hp', asAddr, run_loadVar_mid w g o ty cs d hc hu hd hi]

theorem wpList_build1 {P : Program} {ops : Array Oper} {rest : List Oper} {o : Oper} {a : Act} {w : World} {Q : Exit → Act → World → Prop} (hg : o.guard = none) (ty : TypeId) (x : Operand) (ho : o.op = .build ty #[(0, x)])
    (vx : Value) (hx : a.eval x = vx) (C : Array Value) (hb : P.built ty [(0, vx)] = some C)
    (h : wpList P ops Q rest (a.put o.dst (.agg C)) w) : wpList P ops Q (o :: rest) a w := by
  have e : P.built ty ((#[(0, x)] : Array (Nat × Operand)).map fun (i, x) => (i, a.eval x)).toList = some C := by
    rw [← hb]
    simp only [List.map_toArray, List.map_cons, List.map_nil, hx]
  refine wpList_plain hg fun _ hK => ?_
  unfold Oper.wp execOp
  simp only [ho, Sem.run_bind, run_build w ty _ C e, Result.andThen_ok]
  exact hK _ _ h

theorem built48 (nm : List Int) (h : nm.length = 32) : Tryz.prog.built 64 [(0, .agg (b8 nm).toArray)] = some (entC (nm, 0, 0, 0)).toArray := by
  rcases nm with _ | ⟨x0, _ | ⟨x1, _ | ⟨x2, _ | ⟨x3, _ | ⟨x4, _ | ⟨x5, _ | ⟨x6, _ | ⟨x7, _ | ⟨x8, _ | ⟨x9, _ | ⟨x10, _ | ⟨x11, _ | ⟨x12, _ | ⟨x13, _ | ⟨x14, _ | ⟨x15, _ | ⟨x16, _ | ⟨x17, _ | ⟨x18, _ | ⟨x19, _ | ⟨x20, _ | ⟨x21, _ | ⟨x22, _ | ⟨x23, _ | ⟨x24, _ | ⟨x25, _ | ⟨x26, _ | ⟨x27, _ | ⟨x28, _ | ⟨x29, _ | ⟨x30, _ | ⟨x31, _ | ⟨x32, r⟩⟩⟩⟩⟩⟩⟩⟩⟩⟩⟩⟩⟩⟩⟩⟩⟩⟩⟩⟩⟩⟩⟩⟩⟩⟩⟩⟩⟩⟩⟩⟩⟩ <;> first | (exfalso; simp at h; done) | (exfalso; simp at h; omega) | kernel_rfl

/-- What Find answers. -/
def FAns (d : List Ent) (h : List Int) (e : Ending) : Prop :=
  ∃ (p : Int × Int × Int) (b : Bool), e = .returned (.tuple #[.agg #[.int .i64 p.1, .int .i64 p.2.1, .int .i64 p.2.2], .bool b]) ∧ (b = true ↔ RightP d ∧ ∃ y ∈ d, y.1 = h) ∧ (b = true → (h, p) ∈ d) ∧ (b = false → p = (0, 0, 0))
theorem FAns.no {d : List Ent} {h : List Int} (hn : ¬ (RightP d ∧ ∃ y ∈ d, y.1 = h)) : FAns d h (.returned (.tuple #[.agg #[.int .i64 0, .int .i64 0, .int .i64 0], .bool false])) :=
  ⟨(0, 0, 0), false, rfl, ⟨fun e => (by cases e), fun e => absurd e hn⟩, fun e => (by cases e), fun _ => rfl⟩

set_option maxHeartbeats 4000000 in
set_option maxRecDepth 100000 in
theorem find_any (w : World) (v : Value) (d : List Ent) (P : Nat → Prop) (h : List Int) (hv : EV P w v d) (hl : d.length ≤ 1000000) (hh : h.length = 32) (hb : ∀ x ∈ h, 0 ≤ x ∧ x ≤ 255) :
    Calls Tryz.prog 19 #[v, .agg (b8 h).toArray] w fun e w' => FAns d h e ∧ Kp No w w' := by
  have HI1 : Hid ((Tryz.prog.info? 46).map (·.size) = some (b8 h).length) := by rw [Hid, b8_length, hh]; exact infH
  have HB1 := hid (built48 h hh)
  have HOK := hid hv.ok
  have HRT : Hid (∀ V, Kp No w V → Calls Tryz.prog 12 #[v] V fun e w' => RAns d e ∧ Kp No V w') := fun V hV => right_any V v d P (hv.kept hV) hl
  have HBS : Hid (RightP d → ∀ V, Kp No w V → Calls Tryz.prog 46 #[v, .agg (entC (h, 0, 0, 0)).toArray, cmpV] V fun e w' => BAns d h e ∧ Kp No V w') := fun hr V hV => bsearch_any V v d P (h, 0, 0, 0) (hv.kept hV) hl ⟨hh, hb⟩ (hr.2.mono h)
  unfold cmpV at HBS
  have HV := hid hv
  obtain ⟨a, c, rfl, h2, h3, h4, h5, h6⟩ := hv
  obtain ⟨n, hn⟩ : ∃ n, d.length = n := ⟨_, rfl⟩
  have HN := hid hn
  rw [hn] at hl HRT HBS ⊢
  have H6 := hid h6
  clear hn h2 h3 h4 h5 h6 HV
  generalize b8 h = bh at *
  generalize (entC (h, 0, 0, 0)).toArray = E0 at *
  obtain ⟨W, hW⟩ : ∃ W, (w.alloc (.cells bh.toArray 46)).alloc (.cells #[.int .i64 0, .int .i64 0, .int .i64 0] 49) = W := ⟨_, rfl⟩
  have hsz : (w.alloc (.cells bh.toArray 46)).heap.size = w.heap.size + 1 := by simp
  have hKW : Kp No w W := by rw [← hW]; exact ((Kp.refl No w).alloc _).alloc _
  have hWs : W.heap.size = w.heap.size + 2 := by rw [← hW]; simp
  have HBX : Hid (∀ V, Kp No W V → V.rangeAt w.heap.size 0 bh ∧ V.there (w.heap.size + 1) 0 3 ∧ Kp No w V) := fun V hV => by
    have h1 : W.rangeAt w.heap.size 0 bh := by rw [← hW]; exact World.rangeAt_alloc (rng_new w bh _) _
    have h2 : W.there (w.heap.size + 1) 0 3 := by
      rw [← hW, ← hsz]
      exact thereE _ _ _ _ (by simp)
    refine ⟨fun j u hu => (hV.cell (p := ⟨w.heap.size, _, none⟩) (by show w.heap.size < _; omega) (fun x => x)).trans (h1 j u hu), fun j hj => ?_, hKW.andNone hV⟩
    rw [hV.cell (p := ⟨w.heap.size + 1, _, none⟩) (by show w.heap.size + 1 < _; omega) (fun x => x), hV.frozen (p := ⟨w.heap.size + 1, _, none⟩) (by show w.heap.size + 1 < _; omega) (fun x => x)]
    exact h2 j hj
  have HST : Hid (∀ (V : World) (p q r : Int), Kp No W V → (fun V' => V'.rangeAt (w.heap.size + 1) 0 [.int .i64 p, .int .i64 q, .int .i64 r] ∧ Kp No w V') (V.setCells (w.heap.size + 1) 0 (#[.int .i64 p, .int .i64 q, .int .i64 r] : Array Value).toList)) := fun V p q r hV => ⟨World.rangeAt_setCells_same _ _ _ _ (HBX.out V hV).2.1, (HBX.out V hV).2.2.trans (setCells_kp V _ _ _) (fun x hx => .inr (by omega))⟩
  have HI3 : Hid ((Tryz.prog.info? 49).map (·.size) = some 3) := infW (h, 0, 0, 0)
  have HO3 : Hid (∀ p q r : Int, (#[.int .i64 p, .int .i64 q, .int .i64 r] : Array Value).all (·.oneCell') = true) := fun p q r => all_oneCell_toArray (cs := [.int .i64 p, .int .i64 q, .int .i64 r]) (by
    intro v hv
    simp at hv
    rcases hv with rfl | rfl | rfl <;> rfl)
  go_enter Tryz.func19, Tryz.ntmps19
  go_wp2_with fail
  have HKW := hid hKW
  clear hW hsz hKW hWs
  refine (HRT.out _ HKW.out).mono ?_
  rintro e3 w3 ⟨⟨b, rfl, hb1⟩, k3⟩
  have HB3 := hid hb1
  have HK3 := hid k3
  clear hb1 k3
  cases b with
  | false =>
    have HF : Hid (FAns d h (.returned (.tuple #[.agg #[.int .i64 0, .int .i64 0, .int .i64 0], .bool false]))) := FAns.no (fun hr => by have := HB3.out.2 hr.1; cases this)
    go_wp2_with (first
      | (refine wpList_store_box (fun V' => V'.rangeAt (w.heap.size + 1) 0 [.int .i64 0, .int .i64 0, .int .i64 0] ∧ Kp No w V') (by rfl) 49 _ _ (by rfl) (w.heap.size + 1) 0 #[.int .i64 0, .int .i64 0, .int .i64 0] (by rfl) (by rfl) (HBX.out _ HK3.out).2.1 HI3.out (HO3.out _ _ _) (HST.out _ 0 0 0 HK3.out) ?_; intro w5 h5; have H5 := hid h5; clear h5))
    refine bodyPost_ret (results_cell_two rfl _ _ (w.heap.size + 1) 0 [.int .i64 0, .int .i64 0, .int .i64 0] _ rfl H5.out.1 Tryz.underlying49 rfl HI3.out) rfl ?_
    exact ⟨HF.out, H5.out.2⟩
  | true =>
    have HR := hid (HB3.out.1 rfl)
    go_wp2_with (first
      | (refine wpList_load_mid (by rfl) 46 _ (by rfl) w.heap.size 0 (by rfl) bh _ (HBX.out _ HK3.out).1 Tryz.underlying46 rfl HI1.out ?_)
      | (refine wpList_build1 (by rfl) 64 _ (by rfl) _ (by rfl) E0 HB1.out ?_))
    refine (HBS.out HR.out _ (HBX.out _ HK3.out).2.2).mono ?_
    rintro e4 w4 ⟨⟨i, b4, rfl, hbs⟩, k4⟩
    have HS4 := hid hbs
    have HK4 : Hid (Kp No W w4) := HK3.out.andNone k4
    clear hbs k4
    cases b4 with
    | false =>
      have HF : Hid (FAns d h (.returned (.tuple #[.agg #[.int .i64 0, .int .i64 0, .int .i64 0], .bool false]))) := FAns.no (fun hr => by
        obtain ⟨_, y, hy, hyh⟩ := hr
        obtain ⟨h1, h2, h3, h4⟩ := HS4.out
        rw [← List.take_append_drop i d] at hy
        rcases List.mem_append.1 hy with hy | hy
        · have := h2 y hy
          rw [hyh, lexB_irr] at this
          cases this
        · obtain ⟨k, hk⟩ := List.mem_iff_getElem?.1 hy
          rw [List.getElem?_drop] at hk
          have hkl := (List.getElem?_eq_some_iff.1 hk).1
          by_cases hk0 : k = 0
          · subst hk0
            have := h4.2 ⟨y, hk, hyh⟩
            cases this
          · obtain ⟨z, hz⟩ : ∃ z, d[i]? = some z := ⟨_, List.getElem?_eq_getElem (by omega)⟩
            have h5 := HR.out.2.lt (k - 1) i (i + k) z y (by omega) hz hk
            rw [hyh] at h5
            have h6 := h3 z (List.mem_iff_getElem?.2 ⟨0, by rw [List.getElem?_drop]; exact hz⟩)
            rw [h5] at h6
            cases h6)
      go_wp2_with (first
        | (refine wpList_store_box (fun V' => V'.rangeAt (w.heap.size + 1) 0 [.int .i64 0, .int .i64 0, .int .i64 0] ∧ Kp No w V') (by rfl) 49 _ _ (by rfl) (w.heap.size + 1) 0 #[.int .i64 0, .int .i64 0, .int .i64 0] (by rfl) (by rfl) (HBX.out _ HK4.out).2.1 HI3.out (HO3.out _ _ _) (HST.out _ 0 0 0 HK4.out) ?_; intro w5 h5; have H5 := hid h5; clear h5))
      refine bodyPost_ret (results_cell_two rfl _ _ (w.heap.size + 1) 0 [.int .i64 0, .int .i64 0, .int .i64 0] _ rfl H5.out.1 Tryz.underlying49 rfl HI3.out) rfl ?_
      exact ⟨HF.out, H5.out.2⟩
    | true =>
      obtain ⟨y, hy, hyh⟩ := HS4.out.2.2.2.1 rfl
      have hil := (List.getElem?_eq_some_iff.1 hy).1
      rw [HN.out] at hil
      have hilI : (i : Int) < (n : Int) := by omega
      obtain ⟨g, o, rfl, _, hr⟩ := H6.out (by intro e; rw [e] at hy; simp at hy)
      have hrow := (hr.kp (HBX.out _ HK4.out).2.2 (fun x => x)).2 i y hy
      have hpl := rng_place hrow.1 hrow.2
      unfold plC at hpl
      obtain ⟨nm, p, q, r⟩ := y
      dsimp only at hpl hyh
      subst hyh
      have HPL := hid hpl
      have HF : Hid (FAns d nm (.returned (.tuple #[.agg #[.int .i64 p, .int .i64 q, .int .i64 r], .bool true]))) := ⟨(p, q, r), true, rfl, ⟨fun _ => ⟨HR.out, _, List.mem_of_getElem? hy, rfl⟩, fun _ => rfl⟩, fun _ => List.mem_of_getElem? hy, fun e => (by cases e)⟩
      clear hpl hrow hr hy
      go_wp2_with (first
        | (refine wpList_load_mid (by rfl) 49 _ (by rfl) g (o + i * 35 + 32) (by rfl) [.int .i64 p, .int .i64 q, .int .i64 r] _ HPL.out Tryz.underlying49 rfl HI3.out ?_)
        | (refine wpList_store_box (fun V' => V'.rangeAt (w.heap.size + 1) 0 [.int .i64 p, .int .i64 q, .int .i64 r] ∧ Kp No w V') (by rfl) 49 _ _ (by rfl) (w.heap.size + 1) 0 #[.int .i64 p, .int .i64 q, .int .i64 r] (by rfl) (by rfl) (HBX.out _ HK4.out).2.1 HI3.out (HO3.out _ _ _) (HST.out _ p q r HK4.out) ?_; intro w5 h5; have H5 := hid h5; clear h5))
      refine bodyPost_ret (results_cell_two rfl _ _ (w.heap.size + 1) 0 [.int .i64 p, .int .i64 q, .int .i64 r] _ rfl H5.out.1 Tryz.underlying49 rfl HI3.out) rfl ?_
      exact ⟨HF.out, H5.out.2⟩
end Go.Proofs.YtampnikdmgojjaaGreat.Sg
end
