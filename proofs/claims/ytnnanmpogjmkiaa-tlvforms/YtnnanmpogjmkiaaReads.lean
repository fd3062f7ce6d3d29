/-
  The statement's code about reading, walked.
-/
import Derived.Test.YtnnanmpogjmkiaaTake
import Derived.Test.YtnnanmpogjmkiaaRefTake
import Derived.Test.YtnnanmpogjmkiaaAlive
namespace Go.Proofs.Ytnnanmpogjmkiaa
open Go.RowKit
attribute [local go_sem ↓] Go.wp_at_zero Go.wp_at_succ

/-- The empty value. -/
def zT : Tr 9 := Tr.mk 0 0 [] []

/-- What taking a value off bytes answers. -/
def takeR (bs : List Int) : Tr 9 × List Int × Int := match rd 8 bs with
  | some (t, m) => (t, bs.drop m, 0)
  | none => (zT, [], 3)

/-- What getting a value of bytes answers. -/
def getR (bs : List Int) : Tr 9 × Int := match getT bs with
  | some t => (t, 0)
  | none => (zT, 3)

theorem zT_repS (S : Nat → Prop) (w : World) : RepS S w 9 zT (.slice none 0 0) (.slice none 0 0) := ⟨(by decide : (0 : Int) ≤ 0), (by decide : (0 : Int) ≤ 18446744073709551615), BySlS.none _ _, KSlS.none _ _ _⟩

theorem take_one {bs rs : List Int} {t : Tr 9} {f : Int} (v : Value) (w : World) (h : BySl 0 w.heap.size w v bs) (hT : takeR bs = (t, rs, f)) :
    Calls Try.prog 18 #[v] w fun e w' => ∃ a l c a' l' c' ar cr, e = .returned (.tuple #[.agg #[.int .i64 t.hd.1, .int .u64 t.hd.2.1, .slice a l c, .slice a' l' c'], .slice ar rs.length cr, .int .i64 f]) ∧
      RepS (fun b => b < w'.heap.size) w' 9 t (.slice a l c) (.slice a' l' c') ∧ BySl 0 w'.heap.size w' (.slice ar rs.length cr) rs ∧ Below w.heap.size w w' := by
  refine (take_any v bs w h).mono ?_
  rintro e w' ⟨⟨hn, rfl⟩ | ⟨t', m, sb, sk, vr, hs, rfl, hrep, hby⟩, hb⟩
  · rw [takeR, hn] at hT
    simp only [Prod.mk.injEq] at hT
    obtain ⟨rfl, rfl, rfl⟩ := hT
    exact ⟨none, 0, 0, none, 0, 0, none, 0, rfl, zT_repS _ _, BySl.none _ _ _, hb⟩
  · rw [takeR, hs] at hT
    simp only [Prod.mk.injEq] at hT
    obtain ⟨rfl, rfl, rfl⟩ := hT
    obtain ⟨a, l, c, a', l', c', rfl, rfl⟩ := hrep.sl
    obtain ⟨ar, cr, rfl, _⟩ := id hby
    exact ⟨a, l, c, a', l', c', ar, cr, rfl, hrep.toS.agree (fun _ _ => rfl) (fun b h => h.2), hby.agree (Agree.refl _ _ _) (Nat.zero_le _) (Nat.le_refl _), hb⟩

theorem rtake_one {bs rs : List Int} {t : Tr 9} {f : Int} (v : Value) (w : World) (h : BySl 0 w.heap.size w v bs) (hT : takeR bs = (t, rs, f)) :
    Calls Try.prog 19 #[v] w fun e w' => ∃ a l c a' l' c' ar cr, e = .returned (.tuple #[.agg #[.int .i64 t.hd.1, .int .u64 t.hd.2.1, .slice a l c, .slice a' l' c'], .slice ar rs.length cr, .int .i64 f]) ∧
      RepS (fun b => b < w'.heap.size) w' 9 t (.slice a l c) (.slice a' l' c') ∧ BySl 0 w'.heap.size w' (.slice ar rs.length cr) rs ∧ Below w.heap.size w w' := by
  refine (refTake_any v bs w h).mono ?_
  rintro e w' ⟨⟨hn, rfl⟩ | ⟨t', m, sb, sk, vr, hs, rfl, hrep, hby⟩, hb⟩
  · rw [takeR, hn] at hT
    simp only [Prod.mk.injEq] at hT
    obtain ⟨rfl, rfl, rfl⟩ := hT
    exact ⟨none, 0, 0, none, 0, 0, none, 0, rfl, zT_repS _ _, BySl.none _ _ _, hb⟩
  · rw [takeR, hs] at hT
    simp only [Prod.mk.injEq] at hT
    obtain ⟨rfl, rfl, rfl⟩ := hT
    obtain ⟨a, l, c, a', l', c', rfl, rfl⟩ := hrep.sl
    obtain ⟨ar, cr, rfl, _⟩ := id hby
    exact ⟨a, l, c, a', l', c', ar, cr, rfl, hrep.agree (fun _ _ => rfl) (fun b h => h.2), hby, hb⟩

theorem get_one {bs : List Int} {t : Tr 9} {f : Int} (v : Value) (w : World) (h : BySl 0 w.heap.size w v bs) (hT : getR bs = (t, f)) :
    Calls Try.prog 20 #[v] w fun e w' => ∃ a l c a' l' c', e = .returned (.tuple #[.agg #[.int .i64 t.hd.1, .int .u64 t.hd.2.1, .slice a l c, .slice a' l' c'], .int .i64 f]) ∧
      RepS (fun b => b < w'.heap.size) w' 9 t (.slice a l c) (.slice a' l' c') ∧ Below w.heap.size w w' := by
  refine (get_any v bs w h).mono ?_
  rintro e w' ⟨⟨hn, rfl⟩ | ⟨t', sb, sk, hs, rfl, hrep⟩, hb⟩
  · rw [getR, hn] at hT
    simp only [Prod.mk.injEq] at hT
    obtain ⟨rfl, rfl⟩ := hT
    exact ⟨none, 0, 0, none, 0, 0, rfl, zT_repS _ _, hb⟩
  · rw [getR, hs] at hT
    simp only [Prod.mk.injEq] at hT
    obtain ⟨rfl, rfl⟩ := hT
    obtain ⟨a, l, c, a', l', c', rfl, rfl⟩ := hrep.sl
    exact ⟨a, l, c, a', l', c', rfl, hrep.toS.agree (fun _ _ => rfl) (fun b h => h.2), hb⟩

theorem rget_one {bs : List Int} {t : Tr 9} {f : Int} (v : Value) (w : World) (h : BySl 0 w.heap.size w v bs) (hT : getR bs = (t, f)) :
    Calls Try.prog 21 #[v] w fun e w' => ∃ a l c a' l' c', e = .returned (.tuple #[.agg #[.int .i64 t.hd.1, .int .u64 t.hd.2.1, .slice a l c, .slice a' l' c'], .int .i64 f]) ∧
      RepS (fun b => b < w'.heap.size) w' 9 t (.slice a l c) (.slice a' l' c') ∧ Below w.heap.size w w' := by
  refine (refGet_any v bs w h).mono ?_
  rintro e w' ⟨⟨hn, rfl⟩ | ⟨t', sb, sk, hs, rfl, hrep⟩, hb⟩
  · rw [getR, hn] at hT
    simp only [Prod.mk.injEq] at hT
    obtain ⟨rfl, rfl⟩ := hT
    exact ⟨none, 0, 0, none, 0, 0, rfl, zT_repS _ _, hb⟩
  · rw [getR, hs] at hT
    simp only [Prod.mk.injEq] at hT
    obtain ⟨rfl, rfl⟩ := hT
    obtain ⟨a, l, c, a', l', c', rfl, rfl⟩ := hrep.sl
    exact ⟨a, l, c, a', l', c', rfl, hrep.agree (fun _ _ => rfl) (fun b h => h.2), hb⟩

/-- A value that lies in a block of its own. -/
def Box (w : World) (g : Nat) (x y : Int) (sb sk : Value) : Prop := g < w.heap.size ∧ w.cell? ⟨g, 0, none⟩ = some (.int .i64 x) ∧ w.cell? ⟨g, 1, none⟩ = some (.int .u64 y) ∧ w.cell? ⟨g, 2, none⟩ = some sb ∧ w.cell? ⟨g, 3, none⟩ = some sk

theorem Box.new (w : World) (x y : Int) (sb sk : Value) (ty : TypeId) : Box (w.alloc (Obj.cells #[.int .i64 x, .int .u64 y, sb, sk] ty)) w.heap.size x y sb sk := by
  refine ⟨by simp, ?_, ?_, ?_, ?_⟩ <;> simp [go_sem]

theorem Box.below {w w' : World} {g : Nat} {x y : Int} {sb sk : Value} (h : Box w g x y sb sk) (hb : Below w.heap.size w w') : Box w' g x y sb sk := by
  obtain ⟨h0, h1, h2, h3, h4⟩ := h
  obtain ⟨hc, _⟩ := bcell hb
  have := hb.size
  exact ⟨by omega, (hc _ _ h0).trans h1, (hc _ _ h0).trans h2, (hc _ _ h0).trans h3, (hc _ _ h0).trans h4⟩

theorem repS_below {w w' : World} {n : Nat} {t : Tr n} {sb sk : Value} (h : RepS (fun b => b < w.heap.size) w n t sb sk) (hb : Below w.heap.size w w') : RepS (fun b => b < w'.heap.size) w' n t sb sk :=
  h.agree (AgreeS.below hb (fun _ h => h)) (fun b h => by have := hb.size; omega)

theorem bySl_below {w w' : World} {v : Value} {bs : List Int} (h : BySl 0 w.heap.size w v bs) (hb : Below w.heap.size w w') : BySl 0 w'.heap.size w' v bs :=
  h.agree (Agree.below hb) (Nat.le_refl _) hb.size

set_option maxHeartbeats 2000000 in
set_option maxRecDepth 100000 in
theorem reads_walk (v : Value) (bs : List Int) (w : World) (h : BySl 0 w.heap.size w v bs) (hl : bs.length ≤ 3000) :
    Calls Try.prog 4 #[v] w fun e w' => e = .returned (.bool true) ∧ Below w.heap.size w w' := by
  obtain ⟨a, cap, rfl, hr⟩ := id h
  clear hr
  have H := hid h
  clear h
  obtain ⟨⟨t, rs, f⟩, hT⟩ : ∃ x, takeR bs = x := ⟨_, rfl⟩
  obtain ⟨⟨u, f'⟩, hG⟩ : ∃ x, getR bs = x := ⟨_, rfl⟩
  have HT := hid hT
  have HG := hid hG
  clear hT hG
  obtain ⟨L, hL⟩ : ∃ L, bs.length = L := ⟨_, rfl⟩
  obtain ⟨M, hM⟩ : ∃ M, rs.length = M := ⟨_, rfl⟩
  have HL := hid hL
  have HM := hid hM
  rw [hL] at H hl ⊢
  clear hL hM
  have hq1 : decide ((3000 : Int) < L) = false := by simp; omega
  go_enter Try.func4, Try.ntmps4
  go_wp2_with fail
  refine (take_one _ w H.out HT.out).mono ?_
  rintro e w1 ⟨a1, l1, c1, a2, l2, c2, ar, cr, rfl, r1, b1, hb1⟩
  rw [HM.out] at b1 ⊢
  have R1 := hid r1
  have B1 := hid b1
  have HB1 := hid hb1
  clear r1 b1 hb1
  go_wp2_with fail
  have hbx1 := Box.new w1 t.hd.1 t.hd.2.1 (.slice a1 l1 c1) (.slice a2 l2 c2) 29
  have k1 : Below w1.heap.size w1 (w1.alloc (Obj.cells #[.int .i64 t.hd.1, .int .u64 t.hd.2.1, .slice a1 l1 c1, .slice a2 l2 c2] 29)) := (Below.refl _ _).alloc (Nat.le_refl _) _
  have H1 : Hid (BySl 0 (w1.alloc (Obj.cells #[.int .i64 t.hd.1, .int .u64 t.hd.2.1, .slice a1 l1 c1, .slice a2 l2 c2] 29)).heap.size (w1.alloc (Obj.cells #[.int .i64 t.hd.1, .int .u64 t.hd.2.1, .slice a1 l1 c1, .slice a2 l2 c2] 29)) (.slice a L cap) bs) := bySl_below (bySl_below H.out HB1.out) k1
  refine (rtake_one _ _ H1.out HT.out).mono ?_
  rintro e w2 ⟨a3, l3, c3, a4, l4, c4, ar', cr', rfl, r2, b2, hb2⟩
  have R1' := hid (repS_below (repS_below R1.out k1) hb2)
  have B1' := hid (bySl_below (bySl_below B1.out k1) hb2)
  have X1 := hid (hbx1.below hb2)
  have H2 := hid (bySl_below H1.out hb2)
  have HB2 : Hid (Below w.heap.size w w2) := (HB1.out.trans (k1.mono HB1.out.size)).trans (hb2.mono (by have := HB1.out.size; simp; omega))
  rw [HM.out] at b2 ⊢
  have R2 := hid r2
  have B2 := hid b2
  clear r2 b2 hb2 R1 B1 HB1 H1 k1 hbx1
  obtain ⟨g1, hg1⟩ : ∃ g, w1.heap.size = g := ⟨_, rfl⟩
  rw [hg1] at X1 ⊢
  clear hg1
  go_wp2_with fail
  have hbx2 := Box.new w2 t.hd.1 t.hd.2.1 (.slice a3 l3 c3) (.slice a4 l4 c4) 32
  have k2 : Below w2.heap.size w2 (w2.alloc (Obj.cells #[.int .i64 t.hd.1, .int .u64 t.hd.2.1, .slice a3 l3 c3, .slice a4 l4 c4] 32)) := (Below.refl _ _).alloc (Nat.le_refl _) _
  have H3 := hid (bySl_below H2.out k2)
  refine (get_one _ _ H3.out HG.out).mono ?_
  rintro e w3 ⟨a5, l5, c5, a6, l6, c6, rfl, r3, hb3⟩
  have R1'' := hid (repS_below (repS_below R1'.out k2) hb3)
  have B1'' := hid (bySl_below (bySl_below B1'.out k2) hb3)
  have R2' := hid (repS_below (repS_below R2.out k2) hb3)
  have B2' := hid (bySl_below (bySl_below B2.out k2) hb3)
  have X1' := hid ((X1.out.below k2).below hb3)
  have X2 := hid (hbx2.below hb3)
  have H4 := hid (bySl_below H3.out hb3)
  have HB3 : Hid (Below w.heap.size w w3) := (HB2.out.trans (k2.mono HB2.out.size)).trans (hb3.mono (by have := HB2.out.size; simp; omega))
  have R3 := hid r3
  clear r3 hb3 R1' B1' R2 B2 X1 H2 H3 HB2 k2 hbx2
  obtain ⟨g2, hg2⟩ : ∃ g, w2.heap.size = g := ⟨_, rfl⟩
  rw [hg2] at X2 ⊢
  clear hg2
  go_wp2_with fail
  have hbx3 := Box.new w3 u.hd.1 u.hd.2.1 (.slice a5 l5 c5) (.slice a6 l6 c6) 29
  have k3 : Below w3.heap.size w3 (w3.alloc (Obj.cells #[.int .i64 u.hd.1, .int .u64 u.hd.2.1, .slice a5 l5 c5, .slice a6 l6 c6] 29)) := (Below.refl _ _).alloc (Nat.le_refl _) _
  have H5 := hid (bySl_below H4.out k3)
  refine (rget_one _ _ H5.out HG.out).mono ?_
  rintro e w4 ⟨a7, l7, c7, a8, l8, c8, rfl, r4, hb4⟩
  have k4 : Below w4.heap.size w4 (w4.alloc (Obj.cells #[.int .i64 u.hd.1, .int .u64 u.hd.2.1, .slice a7 l7 c7, .slice a8 l8 c8] 32)) := (Below.refl _ _).alloc (Nat.le_refl _) _
  have Q1 := hid (repS_below (repS_below (repS_below R1''.out k3) hb4) k4)
  have Y1 := hid (bySl_below (bySl_below (bySl_below B1''.out k3) hb4) k4)
  have Q2 := hid (repS_below (repS_below (repS_below R2'.out k3) hb4) k4)
  have Y2 := hid (bySl_below (bySl_below (bySl_below B2'.out k3) hb4) k4)
  have Q3 := hid (repS_below (repS_below (repS_below R3.out k3) hb4) k4)
  have Q4 := hid (repS_below r4 k4)
  have Z1 := hid (((X1'.out.below k3).below hb4).below k4)
  have Z2 := hid (((X2.out.below k3).below hb4).below k4)
  have Z3 := hid ((hbx3.below hb4).below k4)
  have Z4 := hid (Box.new w4 u.hd.1 u.hd.2.1 (.slice a7 l7 c7) (.slice a8 l8 c8) 32)
  have HBB : Hid (Below w.heap.size w (w4.alloc (Obj.cells #[.int .i64 u.hd.1, .int .u64 u.hd.2.1, .slice a7 l7 c7, .slice a8 l8 c8] 32))) := ((HB3.out.trans (k3.mono HB3.out.size)).trans (hb4.mono (by have := HB3.out.size; simp; omega))).trans (k4.mono (by have := HB3.out.size; have := hb4.size; simp at this; omega))
  clear r4 hb4 k4 R1'' B1'' R2' B2' R3 X1' X2 H4 H5 HB3 k3 hbx3
  obtain ⟨g3, hg3⟩ : ∃ g, w3.heap.size = g := ⟨_, rfl⟩
  obtain ⟨g4, hg4⟩ : ∃ g, w4.heap.size = g := ⟨_, rfl⟩
  rw [hg3] at Z3 ⊢
  rw [hg4] at Z4
  have Hg4 := hid hg4
  clear hg3 hg4
  go_upto_region 7 with fail
  rw [Hg4.out]
  clear Hg4
  obtain ⟨W, hW⟩ : ∃ W, w4.alloc (Obj.cells #[.int .i64 u.hd.1, .int .u64 u.hd.2.1, .slice a7 l7 c7, .slice a8 l8 c8] 32) = W := ⟨_, rfl⟩
  rw [hW] at Q1 Q2 Q3 Q4 Y1 Y2 Z1 Z2 Z3 Z4 HBB ⊢
  clear hW
  obtain ⟨z10, z11, z12, z13, z14⟩ := Z1.out
  obtain ⟨z20, z21, z22, z23, z24⟩ := Z2.out
  obtain ⟨z30, z31, z32, z33, z34⟩ := Z3.out
  obtain ⟨z40, z41, z42, z43, z44⟩ := Z4.out
  have C22 : ∀ (n : Nat) (x : Tr n) (sb sk : Value) (w5 : World), RepS (fun b => b < W.heap.size) W n x sb sk → Below W.heap.size W w5 → Calls Try.prog 22 #[.agg #[.int .i64 x.hd.1, .int .u64 x.hd.2.1, sb, sk]] w5 fun e w' =>
      ∃ a1 l1 c1 a2 l2 c2, e = .returned (.agg #[.int .i64 x.hd.1, .int .u64 x.hd.2.1, sb, .slice a2 l2 c2]) ∧ sb = .slice a1 l1 c1 ∧ RepS (fun b => b < w'.heap.size) w' n x sb (.slice a2 l2 c2) ∧ Below W.heap.size W w' := by
    intro n x sb sk w5 hr hb
    have hr' := repS_below hr hb
    refine (back_any n x _ sb sk w5 hr' (fun _ h => h)).mono ?_
    rintro e w6 ⟨sk', rfl, hr6, hb6⟩
    obtain ⟨a1, l1, c1, a2, l2, c2, rfl, rfl⟩ := hr6.sl
    have hz := hb6.size
    exact ⟨a1, l1, c1, a2, l2, c2, rfl, rfl, hr6.agree (fun _ _ => rfl) (fun b hb => by rcases hb with h | h <;> omega), hb.trans (hb6.mono hb.size)⟩
  have C17 : ∀ (n : Nat) (x : Tr n) (sb sk sb' sk' : Value) (w5 : World), RepS (fun b => b < w5.heap.size) w5 n x sb sk → RepS (fun b => b < W.heap.size) W n x sb' sk' → Below W.heap.size W w5 →
      Calls Try.prog 17 #[.agg #[.int .i64 x.hd.1, .int .u64 x.hd.2.1, sb, sk], .agg #[.int .i64 x.hd.1, .int .u64 x.hd.2.1, sb', sk']] w5 fun e w' => e = .returned (.bool true) ∧ Below W.heap.size W w' := by
    intro n x sb sk sb' sk' w5 hr hr' hb
    refine (refSame_any n x _ _ sb sk sb' sk' w5 hr (repS_below hr' hb) (fun _ h => h) (fun _ h => h)).mono ?_
    rintro e w6 ⟨rfl, hb6⟩
    exact ⟨rfl, hb.trans (hb6.mono hb.size)⟩
  have C15 : ∀ w5 : World, Below W.heap.size W w5 → Calls Try.prog 15 #[.slice ar M cr, .slice ar' M cr'] w5 fun e w' => e = .returned (.bool true) ∧ Below W.heap.size W w' := by
    intro w5 hb
    refine (refBytes_any _ _ rs rs w5 (bySl_below Y1.out hb) (bySl_below Y2.out hb)).mono ?_
    rintro e w6 ⟨rfl, hb6⟩
    exact ⟨by rw [decide_eq_true rfl], hb.trans (hb6.mono hb.size)⟩
  have C9 : ∀ w5 : World, Below W.heap.size W w5 → Calls Try.prog 9 #[] w5 fun e w' => e = .returned (.bool true) ∧ Below W.heap.size W w' := by
    intro w5 hb
    refine (alive_any w5).mono ?_
    rintro e w6 ⟨rfl, hb6⟩
    exact ⟨rfl, hb.trans (hb6.mono hb.size)⟩
  have K22 := hid C22
  have K17 := hid C17
  have K15 := hid C15
  have K9 := hid C9
  clear C22 C17 C15 C9 Z1 Z2 Z3 Z4
  have hff : (f == f) = true := by simp
  have hff' : (f' == f') = true := by simp
  go_region_held3 (fun w' => w'.cell? ⟨g1, 0, none⟩ = some (.int .i64 t.hd.1) ∧ w'.cell? ⟨g1, 1, none⟩ = some (.int .u64 t.hd.2.1) ∧ w'.cell? ⟨g1, 2, none⟩ = some (.slice a1 l1 c1) ∧ w'.cell? ⟨g1, 3, none⟩ = some (.slice a2 l2 c2) ∧
      w'.cell? ⟨g2, 0, none⟩ = some (.int .i64 t.hd.1) ∧ w'.cell? ⟨g2, 1, none⟩ = some (.int .u64 t.hd.2.1) ∧ w'.cell? ⟨g2, 2, none⟩ = some (.slice a3 l3 c3) ∧ w'.cell? ⟨g2, 3, none⟩ = some (.slice a4 l4 c4) ∧
      w'.cell? ⟨g3, 0, none⟩ = some (.int .i64 u.hd.1) ∧ w'.cell? ⟨g3, 1, none⟩ = some (.int .u64 u.hd.2.1) ∧ w'.cell? ⟨g3, 2, none⟩ = some (.slice a5 l5 c5) ∧ w'.cell? ⟨g3, 3, none⟩ = some (.slice a6 l6 c6) ∧
      w'.cell? ⟨g4, 0, none⟩ = some (.int .i64 u.hd.1) ∧ w'.cell? ⟨g4, 1, none⟩ = some (.int .u64 u.hd.2.1) ∧ w'.cell? ⟨g4, 2, none⟩ = some (.slice a7 l7 c7) ∧ w'.cell? ⟨g4, 3, none⟩ = some (.slice a8 l8 c8)) (go_keep)
    (first
      | (go_at_call_of 22 a1; refine (K22.out _ t (.slice a1 l1 c1) (.slice a2 l2 c2) W.drew Q1.out (Below.refl _ _).drew).mono ?_; rintro e w5 ⟨_, _, _, a10, l10, c10, rfl, _, r5, hb5⟩; have R5 := hid r5; have HB5 := hid hb5; have hc5 := (bcell hb5).1; clear r5 hb5)
      | (go_at_call_of 17 a3; refine (K17.out _ t (.slice a1 l1 c1) (.slice a10 l10 c10) (.slice a3 l3 c3) (.slice a4 l4 c4) w5 R5.out Q2.out HB5.out).mono ?_; rintro e w6 ⟨rfl, hb6⟩; have HB6 := hid hb6; have hc6 := (bcell hb6).1; clear hb6)
      | (go_at_call 15; refine (K15.out w6 HB6.out).mono ?_; rintro e w7 ⟨rfl, hb7⟩; have HB7 := hid hb7; have hc7 := (bcell hb7).1; clear hb7)
      | (go_at_call_of 22 a5; refine (K22.out _ u (.slice a5 l5 c5) (.slice a6 l6 c6) w7 Q3.out HB7.out).mono ?_; rintro e w8 ⟨_, _, _, a11, l11, c11, rfl, _, r8, hb8⟩; have R8 := hid r8; have HB8 := hid hb8; have hc8 := (bcell hb8).1; clear r8 hb8)
      | (go_at_call_of 17 a7; refine (K17.out _ u (.slice a5 l5 c5) (.slice a11 l11 c11) (.slice a7 l7 c7) (.slice a8 l8 c8) w8 R8.out Q4.out HB8.out).mono ?_; rintro e w9 ⟨rfl, hb9⟩; have HB9 := hid hb9; have hc9 := (bcell hb9).1; clear hb9)
      | (go_at_call 9; refine (K9.out w9 HB9.out).mono ?_; rintro e w10 ⟨rfl, hb10⟩; have HB10 := hid hb10; have hc10 := (bcell hb10).1; clear hb10))
  all_goals go_wp2_with fail
  all_goals go_ret
  all_goals exact ⟨rfl, HBB.out.trans (HB10.out.mono HBB.out.size)⟩

end Go.Proofs.Ytnnanmpogjmkiaa
