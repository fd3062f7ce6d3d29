/- Of the proof: the texts NdBackW, NdOpenF, one behind the other. -/
import Derived.Test.YtenfahecnkdhaaaB16
import Derived.Deep.DeepCutAuto
import Derived.Test.YtenfahecnkdhaaaB9
import Derived.Test.YtenfahecnkdhaaaB10
section
/-
  The walk of NodeBack.
-/
namespace Go.Proofs.Ytenfahecnkdhaaa.Nd
open Go.RowKit
open Sim (hid Kp No)
set_option linter.unusedSimpArgs false

/-- An object that has been put, or none. -/
def One (OK : Prop) (K : Int) (F : List Int) (w : World) (e : Ending) : Prop :=
  ∃ k a n c f bs, e = .returned (.tuple #[.agg #[.int .i64 k, .slice a n c], .int .i64 f]) ∧ Tlv.BySl 0 w.heap.size w (.slice a n c) bs ∧ ((OK ∧ k = K ∧ f = 0 ∧ bs = F) ∨ (¬ OK ∧ k = 0 ∧ f = 1 ∧ bs = []))
theorem oans_one {u w : World} {K : Int} {t : Tlv.Tr 3} {e : Ending} {R : Prop} (hR : R) (h : OAns u w K t e) : One (R ∧ objP t) K (Tlv.formOf 3 t) w e := by
  rcases h with ⟨ho, a, c, rfl, hy⟩ | ⟨ho, rfl⟩
  · exact ⟨K, a, _, c, 0, _, rfl, hy.agree (Tlv.Agree.refl _ _ _) (Nat.zero_le _) (Nat.le_refl _), .inl ⟨⟨hR, ho⟩, rfl, rfl, rfl⟩⟩
  · exact ⟨0, none, 0, 0, 1, [], rfl, Tlv.BySl.none _ _ _, .inr ⟨fun h => ho h.2, rfl, rfl, rfl⟩⟩
theorem fOne {u w : World} {s : Int} {d : List (List Int)} {e : Ending} (h : FiAns u w s d e) : One (fileB s d.length = true ∧ objP (fileT s d)) 2 (Tlv.formOf 3 (fileT s d)) w e := by
  rcases h with ⟨hf, h⟩ | ⟨hf, rfl⟩
  · exact oans_one hf h
  · exact ⟨0, none, 0, 0, 1, [], rfl, Tlv.BySl.none _ _ _, .inr ⟨(fun h => by rw [hf] at h; cases h.1), rfl, rfl, rfl⟩⟩
theorem dOne {u w : World} {d : List Ent} {e : Ending} (h : DAns u w d e) : One (RightP d ∧ objP (entsT d)) 3 (Tlv.formOf 3 (entsT d)) w e := by
  rcases h with ⟨hf, h⟩ | ⟨hf, rfl⟩
  · exact oans_one hf h
  · exact ⟨0, none, 0, 0, 1, [], rfl, Tlv.BySl.none _ _ _, .inr ⟨fun h => hf h.1, rfl, rfl, rfl⟩⟩
theorem gfa_yes {u w : World} {bs : List Int} {s : Int} {d : List (List Int)} {e : Ending} (h : GFA u w 2 bs e) (hy : gfile bs = some (s, d)) : ∃ a l c, e = .returned (.tuple #[.agg #[.int .i64 s, .slice a l c], .int .i64 0]) ∧ HV (fun g => g < w.heap.size ∧ u.heap.size ≤ g) w (.slice a l c) d := by
  rcases h with ⟨h, _⟩ | ⟨_, h, _⟩ | ⟨s', d', a, l, c, _, h, rfl, hv⟩
  · exact absurd rfl h
  · rw [hy] at h; cases h
  · rw [hy] at h
    simp only [Option.some.injEq, Prod.mk.injEq] at h
    obtain ⟨rfl, rfl⟩ := h
    exact ⟨a, l, c, rfl, hv⟩
theorem gda_yes {u w : World} {bs : List Int} {d : List Ent} {e : Ending} (h : GDA u w 3 bs e) (hy : IsDir bs d) : ∃ a l c, e = .returned (.tuple #[.slice a l c, .int .i64 0]) ∧ EV (fun g => u.heap.size ≤ g) w (.slice a l c) d := by
  rcases h with ⟨h, _⟩ | ⟨_, h, _⟩ | ⟨d', a, l, c, _, h, rfl, hv⟩
  · exact absurd rfl h
  · exact absurd hy (h d)
  · rw [isDir_one hy h]
    exact ⟨a, l, c, rfl, hv⟩
theorem box_obj {w W : World} {k : Int} {a : Option Addr} {n c : Nat} {bs : List Int} {T : TypeId} (hW : w.alloc (.cells #[.int .i64 k, .slice a n c] T) = W) (hy : Tlv.BySl 0 w.heap.size w (.slice a n c) bs) :
    ∀ V, Kp No W V → V.cell? ⟨w.heap.size, 0, none⟩ = some (.int .i64 k) ∧ V.cell? ⟨w.heap.size, 1, none⟩ = some (.slice a n c) ∧ Tlv.BySl 0 V.heap.size V (.slice a n c) bs := fun V hV => by
  subst hW
  have hs := hV.size
  simp at hs
  have e : ∀ o, V.cell? ⟨w.heap.size, o, none⟩ = (w.alloc (.cells #[.int .i64 k, .slice a n c] T)).cell? ⟨w.heap.size, o, none⟩ := fun o => hV.cell (p := ⟨w.heap.size, o, none⟩) (by simp) (fun x => x)
  rw [e, e]
  exact ⟨by simp, by simp, hy.agree (Tlv.Agree.below (((Below.refl _ w).alloc (Nat.le_refl _) _).trans (hV.toBelow'.mono (by simp)))) (Nat.le_refl _) (by omega)⟩
theorem box_file {w W : World} {s : Int} {a : Option Addr} {n c : Nat} {d : List (List Int)} {T : TypeId} {P : Nat → Prop} (hW : w.alloc (.cells #[.int .i64 s, .slice a n c] T) = W) (hy : HV P w (.slice a n c) d) :
    ∀ V, Kp No W V → V.cell? ⟨w.heap.size, 0, none⟩ = some (.int .i64 s) ∧ V.cell? ⟨w.heap.size, 1, none⟩ = some (.slice a n c) ∧ HV P V (.slice a n c) d := fun V hV => by
  subst hW
  have hs := hV.size
  simp at hs
  have e : ∀ o, V.cell? ⟨w.heap.size, o, none⟩ = (w.alloc (.cells #[.int .i64 s, .slice a n c] T)).cell? ⟨w.heap.size, o, none⟩ := fun o => hV.cell (p := ⟨w.heap.size, o, none⟩) (by simp) (fun x => x)
  rw [e, e]
  exact ⟨by simp, by simp, hy.kept (((Kp.refl No w).alloc _).andNone hV)⟩
theorem hv_len {P : Nat → Prop} {w : World} {a : Option Addr} {l c : Nat} {d : List (List Int)} (h : HV P w (.slice a l c) d) : l = d.length := by
  obtain ⟨_, _, e, _⟩ := h
  simp only [Value.slice.injEq] at e
  exact e.2.1
theorem ev_len {P : Nat → Prop} {w : World} {a : Option Addr} {l c : Nat} {d : List Ent} (h : EV P w (.slice a l c) d) : l = d.length := by
  obtain ⟨_, _, e, _⟩ := h
  simp only [Value.slice.injEq] at e
  exact e.2.1

set_option maxHeartbeats 8000000 in
set_option maxRecDepth 100000 in
theorem nback_dark (w : World) (sx sy K : Int) (ax ay al am ab : Option Addr) (nx cx ny cy nl cl nm cm nb cb : Nat) (q1 q2 : Bool) (hq : (q1 && q2) = false)
    (h1 : ∀ V, Kp No w V → Calls Try.prog 7 #[.agg #[.int .i64 sx, .slice ax nx cx], .slice al nl cl, .agg #[.int .i64 K, .slice ab nb cb]] V fun e w' => e = .returned (.bool q1) ∧ Kp No V w')
    (h2 : ∀ V, Kp No w V → Calls Try.prog 7 #[.agg #[.int .i64 sy, .slice ay ny cy], .slice am nm cm, .agg #[.int .i64 K, .slice ab nb cb]] V fun e w' => e = .returned (.bool q2) ∧ Kp No V w') :
    Calls Try.prog 6 #[.agg #[.int .i64 sx, .slice ax nx cx], .agg #[.int .i64 sy, .slice ay ny cy], .slice al nl cl, .slice am nm cm, .agg #[.int .i64 K, .slice ab nb cb]] w fun e w' => e = .returned (.bool true) ∧ Below w.heap.size w w' := by
  have H1 := hid h1
  have H2 := hid h2
  clear h1 h2
  have HB : Hid (Kp No w (((w.alloc (.cells #[.int .i64 sx, .slice ax nx cx] 24)).alloc (.cells #[.int .i64 sy, .slice ay ny cy] 24)).alloc (.cells #[.int .i64 K, .slice ab nb cb] 29))) := (((Kp.refl No w).alloc _).alloc _).alloc _
  obtain ⟨W0, hW0⟩ : ∃ W, ((w.alloc (.cells #[.int .i64 sx, .slice ax nx cx] 24)).alloc (.cells #[.int .i64 sy, .slice ay ny cy] 24)).alloc (.cells #[.int .i64 K, .slice ab nb cb] 29) = W := ⟨_, rfl⟩
  rw [hW0] at HB
  have HX : Hid (∀ V, Kp No W0 V → V.cell? ⟨w.heap.size, 0, none⟩ = some (.int .i64 sx) ∧ V.cell? ⟨w.heap.size, 1, none⟩ = some (.slice ax nx cx) ∧ V.cell? ⟨w.heap.size + 1, 0, none⟩ = some (.int .i64 sy) ∧ V.cell? ⟨w.heap.size + 1, 1, none⟩ = some (.slice ay ny cy) ∧ V.cell? ⟨w.heap.size + 2, 0, none⟩ = some (.int .i64 K) ∧ V.cell? ⟨w.heap.size + 2, 1, none⟩ = some (.slice ab nb cb)) := fun V hV => by
    have hz : W0.heap.size = w.heap.size + 3 := by rw [← hW0]; simp
    have e : ∀ b o, b < w.heap.size + 3 → V.cell? ⟨b, o, none⟩ = W0.cell? ⟨b, o, none⟩ := fun b o hb => hV.cell (p := ⟨b, o, none⟩) (by show b < _; omega) (fun x => x)
    rw [e _ _ (by omega), e _ _ (by omega), e _ _ (by omega), e _ _ (by omega), e _ _ (by omega), e _ _ (by omega), ← hW0]
    simp [go_sem]
  cases q1 with
  | false =>
    obtain ⟨x0, x1, y0, y1, o0, o1⟩ := HX.out W0 (Kp.refl _ _)
    go_enter Try.func6, Try.ntmps6
    go_wp2_with fail
    refine (H1.out _ HB.out).mono ?_
    rintro e w1 ⟨rfl, k1⟩
    have HK1 := hid (HB.out.andNone k1)
    clear x0 x1 y0 y1 o0 o1 hW0 k1
    go_wp2_with fail
    refine (alive_any _).mono ?_
    rintro e w2 ⟨rfl, hb2⟩
    have HBB := hid (HK1.out.toBelow'.trans (hb2.mono HK1.out.size))
    clear hb2
    go_wp2_with fail
    go_ret
    exact ⟨rfl, HBB.out⟩
  | true =>
    have : q2 = false := by simpa using hq
    subst this
    clear hq
    obtain ⟨x0, x1, y0, y1, o0, o1⟩ := HX.out W0 (Kp.refl _ _)
    go_enter Try.func6, Try.ntmps6
    go_wp2_with fail
    refine (H1.out _ HB.out).mono ?_
    rintro e w1 ⟨rfl, k1⟩
    have HK1 := hid (HB.out.andNone k1)
    have HK01 := hid k1
    clear x0 x1 y0 y1 o0 o1 hW0 k1
    obtain ⟨x0, x1, y0, y1, o0, o1⟩ := HX.out w1 HK01.out
    go_wp2_with fail
    refine (H2.out _ HK1.out).mono ?_
    rintro e w2 ⟨rfl, k2⟩
    have HK2 := hid (HK1.out.andNone k2)
    clear x0 x1 y0 y1 o0 o1 k2
    go_wp2_with fail
    refine (alive_any _).mono ?_
    rintro e w3 ⟨rfl, hb3⟩
    have HBB := hid (HK2.out.toBelow'.trans (hb3.mono HK2.out.size))
    clear hb3
    go_wp2_with fail
    go_ret
    exact ⟨rfl, HBB.out⟩

set_option maxHeartbeats 16000000 in
set_option maxRecDepth 100000 in
theorem nback_main (w : World) (sx sy K : Int) (vx vy vl vm vo : Value) (dx dy : List (List Int)) (l m : List Ent) (bo : List Int)
    (hx : HV (· < w.heap.size) w vx dx) (hy : HV (· < w.heap.size) w vy dy) (hl : EV (· < w.heap.size) w vl l) (hm : EV (· < w.heap.size) w vm m) (ho : Tlv.BySl 0 w.heap.size w vo bo)
    (hq1 : lightN dx.length l bo.length = true) (hq2 : lightN dy.length m bo.length = true) :
    Calls Try.prog 6 #[.agg #[.int .i64 sx, vx], .agg #[.int .i64 sy, vy], vl, vm, .agg #[.int .i64 K, vo]] w fun e w' => e = .returned (.bool true) ∧ Below w.heap.size w w' := by
  have hs1 := lightN_short hq1
  have hs2 := lightN_short hq2
  obtain ⟨ax, cx, rfl, hxx⟩ := id hx
  clear hxx
  obtain ⟨ay, cy, rfl, hxx⟩ := id hy
  clear hxx
  obtain ⟨al, cl, rfl, hxx⟩ := id hl
  clear hxx
  obtain ⟨am, cm, rfl, hxx⟩ := id hm
  clear hxx
  obtain ⟨ab, cb, rfl, hxx⟩ := id ho
  clear hxx
  have HDX := hid hx.ok
  have HDY := hid hy.ok
  have HOL := hid hl.ok
  have HOM := hid hm.ok
  have HBO := hid (Tlv.BySl.bytes ho)
  have HX := hid hx
  have HY := hid hy
  have HL := hid hl
  have HM := hid hm
  have HO := hid ho
  have HL1 := hid (fun (V : World) (hV : Kp No w V) => light_any V _ l _ sx K ax ab dx.length cx bo.length cb (hl.kept hV))
  have HL2 := hid (fun (V : World) (hV : Kp No w V) => light_any V _ m _ sy K ay ab dy.length cy bo.length cb (hm.kept hV))
  rw [hq1] at HL1
  rw [hq2] at HL2
  have hkl : ∀ {d : List (List Int)} {v : Value} {V : World}, Kp No w V → HV (· < w.heap.size) w v d → HV (· < V.heap.size) V v d := fun hV h => (h.kept hV).imp (fun g hg => Nat.lt_of_lt_of_le hg hV.size)
  have HPX := hid (fun (V : World) (hV : Kp No w V) => putFile_any V sx _ dx (hkl hV hx) (by omega))
  have HPY := hid (fun (V : World) (hV : Kp No w V) => putFile_any V sy _ dy (hkl hV hy) (by omega))
  have HOW := hid (fun (V : World) (hV : Kp No w V) => own_any V _ l _ (hl.kept hV) (by omega))
  have HOWM := hid (fun (V : World) (hV : Kp No w V) => own_any V _ m _ (hm.kept hV) (by omega))
  have HNX := hid hs1.1
  have HNY := hid hs2.1
  have HNL := hid hs1.2.1
  have HNM := hid hs2.2.1
  have HSL : Hid (∀ e ∈ l, e.1.length ≤ 1000000) := fun e he => Nat.le_trans (hs1.2.2.2 e he) (by omega)
  have HSM : Hid (∀ e ∈ m, e.1.length ≤ 1000000) := fun e he => Nat.le_trans (hs2.2.2.2 e he) (by omega)
  have HBV : Hid (∀ V, Kp No w V → Tlv.BySl 0 V.heap.size V (.slice ab bo.length cb) bo) := fun V hV => ho.agree (Tlv.Agree.below hV.toBelow') (Nat.le_refl _) hV.size
  clear hx hy hl hm ho hq1 hq2 hs1 hs2 hkl
  obtain ⟨nx, hnx⟩ : ∃ n, dx.length = n := ⟨_, rfl⟩
  obtain ⟨ny, hny⟩ : ∃ n, dy.length = n := ⟨_, rfl⟩
  obtain ⟨nl, hnl⟩ : ∃ n, l.length = n := ⟨_, rfl⟩
  obtain ⟨nm, hnm⟩ : ∃ n, m.length = n := ⟨_, rfl⟩
  obtain ⟨nb, hnb⟩ : ∃ n, bo.length = n := ⟨_, rfl⟩
  have HNX2 := hid hnx
  have HNY2 := hid hny
  have HNL2 := hid hnl
  have HNM2 := hid hnm
  rw [hnx] at HX HPX HL1 HNX ⊢
  rw [hny] at HY HPY HL2 HNY ⊢
  rw [hnl] at HL HOW HL1 HNL ⊢
  rw [hnm] at HM HOWM HL2 HNM ⊢
  rw [hnb] at HO HBV HL1 HL2 ⊢
  clear hnx hny hnl hnm hnb
  have HB : Hid (Kp No w (((w.alloc (.cells #[.int .i64 sx, .slice ax nx cx] 24)).alloc (.cells #[.int .i64 sy, .slice ay ny cy] 24)).alloc (.cells #[.int .i64 K, .slice ab nb cb] 29))) := (((Kp.refl No w).alloc _).alloc _).alloc _
  obtain ⟨W0, hW0⟩ : ∃ W, ((w.alloc (.cells #[.int .i64 sx, .slice ax nx cx] 24)).alloc (.cells #[.int .i64 sy, .slice ay ny cy] 24)).alloc (.cells #[.int .i64 K, .slice ab nb cb] 29) = W := ⟨_, rfl⟩
  rw [hW0] at HB
  have HXB : Hid (∀ V, Kp No W0 V → V.cell? ⟨w.heap.size, 0, none⟩ = some (.int .i64 sx) ∧ V.cell? ⟨w.heap.size, 1, none⟩ = some (.slice ax nx cx) ∧ V.cell? ⟨w.heap.size + 1, 0, none⟩ = some (.int .i64 sy) ∧ V.cell? ⟨w.heap.size + 1, 1, none⟩ = some (.slice ay ny cy) ∧ V.cell? ⟨w.heap.size + 2, 0, none⟩ = some (.int .i64 K) ∧ V.cell? ⟨w.heap.size + 2, 1, none⟩ = some (.slice ab nb cb)) := fun V hV => by
    have hz : W0.heap.size = w.heap.size + 3 := by rw [← hW0]; simp
    have e : ∀ b o, b < w.heap.size + 3 → V.cell? ⟨b, o, none⟩ = W0.cell? ⟨b, o, none⟩ := fun b o hb => hV.cell (p := ⟨b, o, none⟩) (by show b < _; omega) (fun x => x)
    rw [e _ _ (by omega), e _ _ (by omega), e _ _ (by omega), e _ _ (by omega), e _ _ (by omega), e _ _ (by omega), ← hW0]
    simp [go_sem]
  obtain ⟨x0, x1, y0, y1, o0, o1⟩ := HXB.out W0 (Kp.refl _ _)
  go_enter Try.func6, Try.ntmps6
  go_wp2_with fail
  refine (HL1.out _ HB.out).mono ?_
  rintro e w1 ⟨rfl, k1⟩
  have HK1 := hid k1
  clear x0 x1 y0 y1 o0 o1 hW0 k1
  obtain ⟨x0, x1, y0, y1, o0, o1⟩ := HXB.out w1 HK1.out
  go_wp2_with fail
  refine (HL2.out _ (HB.out.andNone HK1.out)).mono ?_
  rintro e w2 ⟨rfl, k2⟩
  have HK2 := hid (HK1.out.andNone k2)
  clear x0 x1 y0 y1 o0 o1 k2 HL1 HL2
  obtain ⟨x0, x1, y0, y1, o0, o1⟩ := HXB.out w2 HK2.out
  go_wp2_with fail
  refine (lfile_any w2 sx ax nx cx).mono ?_
  rintro e w3 ⟨rfl, k3⟩
  have HK3 := hid (HK2.out.andNone k3)
  clear x0 x1 y0 y1 o0 o1 k3
  go_wp2_with fail
  refine (HPX.out _ (HB.out.andNone HK3.out)).mono ?_
  rintro e w4 ⟨hr4, hb4⟩
  obtain ⟨k1, a1, n1, c1, f1, bs1, rfl, hy4, hor1⟩ := fOne hr4
  have HOR1 := hid hor1
  obtain ⟨W4, hW4⟩ : ∃ W, w4.alloc (.cells #[.int .i64 k1, .slice a1 n1 c1] 31) = W := ⟨_, rfl⟩
  have HK4 : Hid (Kp No W0 W4) := by rw [Hid, ← hW4]; exact (HK3.out.andNone (Kp.below hb4)).alloc _
  have HZ4 : Hid (W4.heap.size = w4.heap.size + 1) := by rw [Hid, ← hW4]; simp
  have HA4 := hid (box_obj hW4 hy4)
  obtain ⟨x0, x1, y0, y1, o0, o1⟩ := HXB.out W4 HK4.out
  clear hr4 hb4 hy4 hor1 HPX
  go_wp2_with fail
  refine (lfile_any W4 sy ay ny cy).mono ?_
  rintro e w5 ⟨rfl, k5⟩
  have HK5 := hid (HK4.out.andNone k5)
  have HK45 := hid k5
  clear x0 x1 y0 y1 o0 o1 k5 hW4
  go_wp2_with fail
  refine (HPY.out _ (HB.out.andNone HK5.out)).mono ?_
  rintro e w6 ⟨hr6, hb6⟩
  obtain ⟨k2, a2, n2, c2, f2, bs2, rfl, hy6, hor2⟩ := fOne hr6
  have HOR2 := hid hor2
  obtain ⟨W6, hW6⟩ : ∃ W, w6.alloc (.cells #[.int .i64 k2, .slice a2 n2 c2] 31) = W := ⟨_, rfl⟩
  have HK46 : Hid (Kp No W4 W6) := by rw [Hid, ← hW6]; exact (HK45.out.andNone (Kp.below hb6)).alloc _
  have HK6 : Hid (Kp No W0 W6) := HK4.out.andNone HK46.out
  have HZ6 : Hid (W6.heap.size = w6.heap.size + 1) := by rw [Hid, ← hW6]; simp
  have HA6 := hid (box_obj hW6 hy6)
  clear hr6 hb6 hy6 hor2 HPY
  go_upto_if 55 with fail
  go_cut [15, 16] (fun s15 s16 wx => Hid (Kp No W6 wx))
  case first =>
    by_cases okx : fileB sx dx.length = true ∧ objP (fileT sx dx)
    · obtain ⟨rfl, rfl, rfl⟩ : k1 = 2 ∧ f1 = 0 ∧ bs1 = Tlv.formOf 3 (fileT sx dx) := by
        rcases HOR1.out with ⟨_, h1, h2, h3⟩ | ⟨h, _⟩
        · exact ⟨h1, h2, h3⟩
        · exact absurd okx h
      have HGX := hid (gfile_form okx.1 okx.2 HDX.out)
      obtain ⟨z0, z1, hz⟩ := HA4.out W6 HK46.out
      have HGF := hid (getFile_any W6 2 _ _ hz)
      clear hz okx
      go_wp2_with fail
      refine HGF.out.mono ?_
      rintro e w7 ⟨h7, hb7⟩
      obtain ⟨a7, l7, c7, rfl, hv7⟩ := gfa_yes h7 HGX.out
      have hl7 := hv_len hv7
      rw [HNX2.out] at hl7
      have hl8 := hl7.symm
      clear hl7
      subst hl8
      obtain ⟨W7, hW7⟩ : ∃ W, w7.alloc (.cells #[.int .i64 sx, .slice a7 nx c7] 35) = W := ⟨_, rfl⟩
      have HK67 : Hid (Kp No W6 W7) := by rw [Hid, ← hW7]; exact (Kp.below hb7 : Kp No W6 w7).alloc _
      have HA7 := hid (box_file hW7 hv7)
      have HXV : Hid (∀ V, Kp No W7 V → HV (· < w.heap.size) V (.slice ax nx cx) dx) := fun V hV => HX.out.kept (HB.out.andNone (HK6.out.andNone (HK67.out.andNone hV)))
      have HYV : Hid (∀ V, Kp No W7 V → HV (· < w.heap.size) V (.slice ay ny cy) dy) := fun V hV => HY.out.kept (HB.out.andNone (HK6.out.andNone (HK67.out.andNone hV)))
      have HSF := hid (fun (V : World) (hV : Kp No W7 V) => sameFile_any V sx sx _ _ dx dx _ _ (HA7.out V hV).2.2 (HXV.out V hV) (by have := HNX.out; have := HNX2.out; omega))
      have HSG := hid (fun (V : World) (hV : Kp No W7 V) => sameFile_any V sx sy _ _ dx dy _ _ (HXV.out V hV) (HYV.out V hV) (by have := HNX.out; have := HNX2.out; omega))
      rw [show decide (sx = sx ∧ dx = dx) = true by simp] at HSF
      have HX7 : Hid (∀ V, Kp No W7 V → V.cell? ⟨w.heap.size, 0, none⟩ = some (.int .i64 sx) ∧ V.cell? ⟨w.heap.size, 1, none⟩ = some (.slice ax nx cx) ∧ V.cell? ⟨w.heap.size + 1, 0, none⟩ = some (.int .i64 sy) ∧ V.cell? ⟨w.heap.size + 1, 1, none⟩ = some (.slice ay ny cy) ∧ V.cell? ⟨w.heap.size + 2, 0, none⟩ = some (.int .i64 K) ∧ V.cell? ⟨w.heap.size + 2, 1, none⟩ = some (.slice ab nb cb)) := fun V hV => HXB.out V (HK6.out.andNone (HK67.out.andNone hV))
      have HO4 : Hid (∀ V, Kp No W7 V → V.cell? ⟨w4.heap.size, 1, none⟩ = some (.slice a1 n1 c1) ∧ Tlv.BySl 0 V.heap.size V (.slice a1 n1 c1) (Tlv.formOf 3 (fileT sx dx))) := fun V hV => (HA4.out V (HK46.out.andNone (HK67.out.andNone hV))).2
      have HO6 : Hid (∀ V, Kp No W7 V → V.cell? ⟨w6.heap.size, 1, none⟩ = some (.slice a2 n2 c2) ∧ Tlv.BySl 0 V.heap.size V (.slice a2 n2 c2) bs2) := fun V hV => (HA6.out V (HK67.out.andNone hV)).2
      have HBY := hid (fun (V : World) (hV : Kp No W7 V) => Tlv.refBytes_any _ _ _ _ V (HO4.out V hV).2 (HO6.out V hV).2)
      clear z0 z1 h7 hb7 hv7 HGF
      rcases HOR2.out with ⟨oky, h1, h2, h3⟩ | ⟨oky, h1, h2, h3⟩
      · subst h2
        have HGY := hid (gfile_form oky.1 oky.2 HDY.out)
        have HEQ : Hid (decide (Tlv.formOf 3 (fileT sx dx) = bs2) = decide (sx = sy ∧ dx = dy)) := by
          rw [Hid, decide_eq_decide, h3]
          constructor
          · intro e
            have h4 := HGX.out
            rw [e, HGY.out] at h4
            simp only [Option.some.injEq, Prod.mk.injEq] at h4
            exact ⟨h4.1.symm, h4.2.symm⟩
          · rintro ⟨rfl, rfl⟩
            rfl
        rw [HEQ.out] at HBY
        obtain ⟨r, hr⟩ : ∃ r, decide (sx = sy ∧ dx = dy) = r := ⟨_, rfl⟩
        rw [hr] at HBY HSG
        clear hr HEQ HGY oky h1 h3 HOR1 HOR2
        go_wp2_with fail
        refine wp_region_held_drew (S := fun V => Kp No W7 V) (by kernel_rfl) ((Kp.refl _ _).drew) (fun hHeld => ?_)
        refine wpAnyH_take (i := 0) (oi := { dst := some 61, op := Op.move (Operand.tmp 16), type := 32, pos := "law.go:115", after := #[], guard := none }) (v := .int .i64 0) rfl (by kernel_rfl) (by kernel_rfl) (by kernel_rfl) (fun _ _ _ h => h) (Or.inl ⟨by rfl, fun w' hw' => by (clear hw'; go_simp)⟩) hHeld ?_
        simp only [Act.put, List.setIfInBounds_toArray, List.set_cons_zero, List.set_cons_succ]
        refine wpAnyH_take (i := 1) (oi := { dst := some 62, op := Op.binOp BinOp.neq 32 (Operand.tmp 61) (Operand.const (Value.int IntKind.i64 0)) 32, type := 4, pos := "law.go:115", after := #[{ on := 0, ground := Ground.data }], guard := none }) (v := .bool false) rfl (by kernel_rfl) (by kernel_rfl) (by kernel_rfl) (fun _ _ _ h => h) (Or.inl ⟨by rfl, fun w' hw' => by (clear hw'; go_simp)⟩) hHeld ?_
        simp only [Act.put, List.setIfInBounds_toArray, List.set_cons_zero, List.set_cons_succ]
        refine wpAnyH_take (i := 2) (oi := { dst := some 63, op := Op.move (Operand.tmp 62), type := 4, pos := "law.go:115", after := #[{ on := 1, ground := Ground.data }], guard := none }) (v := .bool false) rfl (by kernel_rfl) (by kernel_rfl) (by kernel_rfl) (fun _ _ _ h => h) (Or.inl ⟨by rfl, fun w' hw' => by (clear hw'; go_simp)⟩) hHeld ?_
        simp only [Act.put, List.setIfInBounds_toArray, List.set_cons_zero, List.set_cons_succ]
        refine wpAnyH_take (i := 3) (oi := { dst := some 64, op := Op.load 35 (Operand.tmp 15), type := 35, pos := "law.go:115", after := #[{ on := 2, ground := Ground.guard }], guard := some (2, false) }) (v := .agg #[.int .i64 sx, .slice a7 nx c7]) rfl (by kernel_rfl) (by kernel_rfl) (by kernel_rfl) (fun _ _ _ h => h) (Or.inl ⟨by rfl, fun w' hw' => by (obtain ⟨q0, q1, q2⟩ := HA7.out _ hw'; clear q2; clear hw'; go_simp)⟩) hHeld ?_
        simp only [Act.put, List.setIfInBounds_toArray, List.set_cons_zero, List.set_cons_succ]
        refine wpAnyH_take (i := 5) (oi := { dst := some 66, op := Op.load 24 (Operand.tmp 5), type := 24, pos := "law.go:115", after := #[{ on := 2, ground := Ground.guard }], guard := some (2, false) }) (v := .agg #[.int .i64 sx, .slice ax nx cx]) rfl (by kernel_rfl) (by kernel_rfl) (by kernel_rfl) (fun _ _ _ h => h) (Or.inl ⟨by rfl, fun w' hw' => by (obtain ⟨x0, x1, y0, y1, o0, o1⟩ := HX7.out _ hw'; clear hw'; go_simp)⟩) hHeld ?_
        simp only [Act.put, List.setIfInBounds_toArray, List.set_cons_zero, List.set_cons_succ]
        refine wpAnyH_ready (rs := [4]) (by kernel_rfl) (by simp) ?_
        refine (AllReadyH.cons (o := { dst := some 65, op := Op.call { callee := Callee.value (Operand.func 26), args := #[Operand.tmp 64], argTypes := #[35] }, type := 24, pos := "law.go:115", after := #[{ on := 3, ground := Ground.data }, { on := 2, ground := Ground.chain }, { on := 2, ground := Ground.guard }], guard := some (2, false) }) rfl (fun K hK => ?_) AllReadyH.nil)
        go_simp
        refine (lback_any _ sx a7 nx c7).mono ?_
        rintro e' w8 ⟨rfl, hb⟩
        have HK8 : Hid (Kp No W7 w8) := ((Kp.refl No W7).drew).andNone hb
        clear hb
        go_wp2_with fail
        refine hK.out _ _ (HK8.out) (fun hh => ?_)
        clear hK K hHeld
        have hHeld := hh
        clear hh
        try simp only [Act.put, List.setIfInBounds_toArray, List.set_cons_zero, List.set_cons_succ]
        refine wpAnyH_ready (rs := [6]) (by kernel_rfl) (by simp) ?_
        refine (AllReadyH.cons (o := { dst := some 67, op := Op.call { callee := Callee.value (Operand.func 25), args := #[Operand.tmp 65, Operand.tmp 66], argTypes := #[24, 24] }, type := 4, pos := "law.go:115", after := #[{ on := 4, ground := Ground.data }, { on := 5, ground := Ground.data }, { on := 4, ground := Ground.chain }, { on := 2, ground := Ground.guard }], guard := some (2, false) }) rfl (fun K hK => ?_) AllReadyH.nil)
        go_simp
        refine (HSF.out _ HK8.out).mono ?_
        rintro e' w9 ⟨rfl, hb⟩
        have HK9 : Hid (Kp No W7 w9) := (HK8.out).andNone hb
        clear hb
        go_wp2_with fail
        refine hK.out _ _ (HK9.out) (fun hh => ?_)
        clear hK K hHeld
        have hHeld := hh
        clear hh
        try simp only [Act.put, List.setIfInBounds_toArray, List.set_cons_zero, List.set_cons_succ]
        refine wpAnyH_take (i := 7) (oi := { dst := some 68, op := Op.unOp UnOp.not 4 (Operand.tmp 67), type := 4, pos := "law.go:115", after := #[{ on := 6, ground := Ground.data }, { on := 2, ground := Ground.guard }], guard := some (2, false) }) (v := .bool false) rfl (by kernel_rfl) (by kernel_rfl) (by kernel_rfl) (fun _ _ _ h => h) (Or.inl ⟨by rfl, fun w' hw' => by (clear hw'; go_simp)⟩) hHeld ?_
        simp only [Act.put, List.setIfInBounds_toArray, List.set_cons_zero, List.set_cons_succ]
        refine wpAnyH_take (i := 8) (oi := { dst := some 69, op := Op.pick (Operand.tmp 63) (Operand.const (Value.bool true)) (Operand.tmp 68), type := 4, pos := "law.go:115", after := #[{ on := 2, ground := Ground.data }, { on := 7, ground := Ground.data }], guard := none }) (v := .bool false) rfl (by kernel_rfl) (by kernel_rfl) (by kernel_rfl) (fun _ _ _ h => h) (Or.inl ⟨by rfl, fun w' hw' => by (clear hw'; go_simp)⟩) hHeld ?_
        simp only [Act.put, List.setIfInBounds_toArray, List.set_cons_zero, List.set_cons_succ]
        refine wpAnyH_take (i := 9) (oi := { dst := some 70, op := Op.move (Operand.tmp 69), type := 4, pos := "law.go:115", after := #[{ on := 8, ground := Ground.data }, { on := 6, ground := Ground.chain }], guard := none }) (v := .bool false) rfl (by kernel_rfl) (by kernel_rfl) (by kernel_rfl) (fun _ _ _ h => h) (Or.inl ⟨by rfl, fun w' hw' => by (clear hw'; go_simp)⟩) hHeld ?_
        simp only [Act.put, List.setIfInBounds_toArray, List.set_cons_zero, List.set_cons_succ]
        refine wpAnyH_take (i := 10) (oi := { dst := some 71, op := Op.move (Operand.tmp 14), type := 32, pos := "law.go:115", after := #[{ on := 9, ground := Ground.guard }], guard := some (9, false) }) (v := .int .i64 0) rfl (by kernel_rfl) (by kernel_rfl) (by kernel_rfl) (fun _ _ _ h => h) (Or.inl ⟨by rfl, fun w' hw' => by (clear hw'; go_simp)⟩) hHeld ?_
        simp only [Act.put, List.setIfInBounds_toArray, List.set_cons_zero, List.set_cons_succ]
        refine wpAnyH_take (i := 11) (oi := { dst := some 72, op := Op.binOp BinOp.eql 32 (Operand.tmp 71) (Operand.const (Value.int IntKind.i64 0)) 32, type := 4, pos := "law.go:115", after := #[{ on := 10, ground := Ground.data }, { on := 9, ground := Ground.guard }], guard := some (9, false) }) (v := .bool true) rfl (by kernel_rfl) (by kernel_rfl) (by kernel_rfl) (fun _ _ _ h => h) (Or.inl ⟨by rfl, fun w' hw' => by (clear hw'; go_simp)⟩) hHeld ?_
        simp only [Act.put, List.setIfInBounds_toArray, List.set_cons_zero, List.set_cons_succ]
        refine wpAnyH_take (i := 12) (oi := { dst := some 73, op := Op.move (Operand.tmp 72), type := 4, pos := "law.go:115", after := #[{ on := 11, ground := Ground.data }, { on := 9, ground := Ground.chain }, { on := 9, ground := Ground.guard }], guard := some (9, false) }) (v := .bool true) rfl (by kernel_rfl) (by kernel_rfl) (by kernel_rfl) (fun _ _ _ h => h) (Or.inl ⟨by rfl, fun w' hw' => by (clear hw'; go_simp)⟩) hHeld ?_
        simp only [Act.put, List.setIfInBounds_toArray, List.set_cons_zero, List.set_cons_succ]
        refine wpAnyH_take (i := 13) (oi := { dst := some 74, op := Op.fieldAddr 31 (Operand.tmp 11) 1, type := 0, pos := "law.go:115", after := #[{ on := 12, ground := Ground.guard }], guard := some (12, true) }) (v := .pointer (some ⟨w4.heap.size, 1, none⟩)) rfl (by kernel_rfl) (by kernel_rfl) (by kernel_rfl) (fun _ _ _ h => h) (Or.inl ⟨by rfl, fun w' hw' => by (clear hw'; go_simp)⟩) hHeld ?_
        simp only [Act.put, List.setIfInBounds_toArray, List.set_cons_zero, List.set_cons_succ]
        refine wpAnyH_take (i := 14) (oi := { dst := some 75, op := Op.load 26 (Operand.tmp 74), type := 26, pos := "law.go:115", after := #[{ on := 13, ground := Ground.data }, { on := 12, ground := Ground.guard }], guard := some (12, true) }) (v := .slice a1 n1 c1) rfl (by kernel_rfl) (by kernel_rfl) (by kernel_rfl) (fun _ _ _ h => h) (Or.inl ⟨by rfl, fun w' hw' => by (obtain ⟨q0, q1⟩ := HO4.out _ hw'; clear q1; clear hw'; go_simp)⟩) hHeld ?_
        simp only [Act.put, List.setIfInBounds_toArray, List.set_cons_zero, List.set_cons_succ]
        refine wpAnyH_take (i := 15) (oi := { dst := some 76, op := Op.fieldAddr 31 (Operand.tmp 13) 1, type := 0, pos := "law.go:115", after := #[{ on := 12, ground := Ground.guard }], guard := some (12, true) }) (v := .pointer (some ⟨w6.heap.size, 1, none⟩)) rfl (by kernel_rfl) (by kernel_rfl) (by kernel_rfl) (fun _ _ _ h => h) (Or.inl ⟨by rfl, fun w' hw' => by (clear hw'; go_simp)⟩) hHeld ?_
        simp only [Act.put, List.setIfInBounds_toArray, List.set_cons_zero, List.set_cons_succ]
        refine wpAnyH_take (i := 16) (oi := { dst := some 77, op := Op.load 26 (Operand.tmp 76), type := 26, pos := "law.go:115", after := #[{ on := 15, ground := Ground.data }, { on := 12, ground := Ground.guard }], guard := some (12, true) }) (v := .slice a2 n2 c2) rfl (by kernel_rfl) (by kernel_rfl) (by kernel_rfl) (fun _ _ _ h => h) (Or.inl ⟨by rfl, fun w' hw' => by (obtain ⟨q0, q1⟩ := HO6.out _ hw'; clear q1; clear hw'; go_simp)⟩) hHeld ?_
        simp only [Act.put, List.setIfInBounds_toArray, List.set_cons_zero, List.set_cons_succ]
        refine wpAnyH_take (i := 18) (oi := { dst := some 79, op := Op.load 24 (Operand.tmp 5), type := 24, pos := "law.go:115", after := #[{ on := 12, ground := Ground.guard }], guard := some (12, true) }) (v := .agg #[.int .i64 sx, .slice ax nx cx]) rfl (by kernel_rfl) (by kernel_rfl) (by kernel_rfl) (fun _ _ _ h => h) (Or.inl ⟨by rfl, fun w' hw' => by (obtain ⟨x0, x1, y0, y1, o0, o1⟩ := HX7.out _ hw'; clear hw'; go_simp)⟩) hHeld ?_
        simp only [Act.put, List.setIfInBounds_toArray, List.set_cons_zero, List.set_cons_succ]
        refine wpAnyH_take (i := 19) (oi := { dst := some 80, op := Op.load 24 (Operand.tmp 6), type := 24, pos := "law.go:115", after := #[{ on := 12, ground := Ground.guard }], guard := some (12, true) }) (v := .agg #[.int .i64 sy, .slice ay ny cy]) rfl (by kernel_rfl) (by kernel_rfl) (by kernel_rfl) (fun _ _ _ h => h) (Or.inl ⟨by rfl, fun w' hw' => by (obtain ⟨x0, x1, y0, y1, o0, o1⟩ := HX7.out _ hw'; clear hw'; go_simp)⟩) hHeld ?_
        simp only [Act.put, List.setIfInBounds_toArray, List.set_cons_zero, List.set_cons_succ]
        refine wpAnyH_ready (rs := [17]) (by kernel_rfl) (by simp) ?_
        refine (AllReadyH.cons (o := { dst := some 78, op := Op.call { callee := Callee.value (Operand.func 34), args := #[Operand.tmp 75, Operand.tmp 77], argTypes := #[26, 26] }, type := 4, pos := "law.go:115", after := #[{ on := 14, ground := Ground.data }, { on := 16, ground := Ground.data }, { on := 12, ground := Ground.chain }, { on := 12, ground := Ground.guard }], guard := some (12, true) }) rfl (fun K hK => ?_) AllReadyH.nil)
        go_simp
        refine (HBY.out _ HK9.out).mono ?_
        rintro e' wA ⟨rfl, hb⟩
        have HKA : Hid (Kp No W7 wA) := (HK9.out).andNone (Kp.below hb)
        clear hb
        go_wp2_with fail
        refine hK.out _ _ (HKA.out) (fun hh => ?_)
        clear hK K hHeld
        have hHeld := hh
        clear hh
        try simp only [Act.put, List.setIfInBounds_toArray, List.set_cons_zero, List.set_cons_succ]
        refine wpAnyH_ready (rs := [20]) (by kernel_rfl) (by simp) ?_
        refine (AllReadyH.cons (o := { dst := some 81, op := Op.call { callee := Callee.value (Operand.func 25), args := #[Operand.tmp 79, Operand.tmp 80], argTypes := #[24, 24] }, type := 4, pos := "law.go:115", after := #[{ on := 18, ground := Ground.data }, { on := 19, ground := Ground.data }, { on := 17, ground := Ground.chain }, { on := 12, ground := Ground.guard }], guard := some (12, true) }) rfl (fun K hK => ?_) AllReadyH.nil)
        go_simp
        refine (HSG.out _ HKA.out).mono ?_
        rintro e' wE ⟨rfl, hb⟩
        have HKE : Hid (Kp No W7 wE) := (HKA.out).andNone hb
        clear hb
        go_wp2_with fail
        refine hK.out _ _ (HKE.out) (fun hh => ?_)
        clear hK K hHeld
        have hHeld := hh
        clear hh
        try simp only [Act.put, List.setIfInBounds_toArray, List.set_cons_zero, List.set_cons_succ]
        refine wpAnyH_take (i := 21) (oi := { dst := some 82, op := Op.binOp BinOp.neq 4 (Operand.tmp 78) (Operand.tmp 81) 4, type := 4, pos := "law.go:115", after := #[{ on := 17, ground := Ground.data }, { on := 20, ground := Ground.data }, { on := 12, ground := Ground.guard }], guard := some (12, true) }) (v := .bool false) rfl (by kernel_rfl) (by kernel_rfl) (by kernel_rfl) (fun _ _ _ h => h) (Or.inl ⟨by rfl, fun w' hw' => by (clear hw'; go_simp)⟩) hHeld ?_
        simp only [Act.put, List.setIfInBounds_toArray, List.set_cons_zero, List.set_cons_succ]
        refine wpAnyH_take (i := 22) (oi := { dst := some 83, op := Op.pick (Operand.tmp 73) (Operand.tmp 82) (Operand.const (Value.bool false)), type := 4, pos := "law.go:115", after := #[{ on := 12, ground := Ground.data }, { on := 21, ground := Ground.data }, { on := 9, ground := Ground.guard }], guard := some (9, false) }) (v := .bool false) rfl (by kernel_rfl) (by kernel_rfl) (by kernel_rfl) (fun _ _ _ h => h) (Or.inl ⟨by rfl, fun w' hw' => by (clear hw'; go_simp)⟩) hHeld ?_
        simp only [Act.put, List.setIfInBounds_toArray, List.set_cons_zero, List.set_cons_succ]
        refine wpAnyH_take (i := 23) (oi := { dst := some 84, op := Op.pick (Operand.tmp 70) (Operand.const (Value.bool true)) (Operand.tmp 83), type := 4, pos := "law.go:115", after := #[{ on := 9, ground := Ground.data }, { on := 22, ground := Ground.data }], guard := none }) (v := .bool false) rfl (by kernel_rfl) (by kernel_rfl) (by kernel_rfl) (fun _ _ _ h => h) (Or.inl ⟨by rfl, fun w' hw' => by (clear hw'; go_simp)⟩) hHeld ?_
        simp only [Act.put, List.setIfInBounds_toArray, List.set_cons_zero, List.set_cons_succ]
        refine wpAnyH_done (by kernel_rfl) ?_ _
        clear hHeld
        go_wp2_with fail
        go_meet
        exact HK67.out.andNone HKE.out
      · subst h2
        clear oky h1 h3 HOR1 HOR2
        go_wp2_with fail
        refine wp_region_held_drew (S := fun V => Kp No W7 V) (by kernel_rfl) ((Kp.refl _ _).drew) (fun hHeld => ?_)
        refine wpAnyH_take (i := 0) (oi := { dst := some 61, op := Op.move (Operand.tmp 16), type := 32, pos := "law.go:115", after := #[], guard := none }) (v := .int .i64 0) rfl (by kernel_rfl) (by kernel_rfl) (by kernel_rfl) (fun _ _ _ h => h) (Or.inl ⟨by rfl, fun w' hw' => by (clear hw'; go_simp)⟩) hHeld ?_
        simp only [Act.put, List.setIfInBounds_toArray, List.set_cons_zero, List.set_cons_succ]
        refine wpAnyH_take (i := 1) (oi := { dst := some 62, op := Op.binOp BinOp.neq 32 (Operand.tmp 61) (Operand.const (Value.int IntKind.i64 0)) 32, type := 4, pos := "law.go:115", after := #[{ on := 0, ground := Ground.data }], guard := none }) (v := .bool false) rfl (by kernel_rfl) (by kernel_rfl) (by kernel_rfl) (fun _ _ _ h => h) (Or.inl ⟨by rfl, fun w' hw' => by (clear hw'; go_simp)⟩) hHeld ?_
        simp only [Act.put, List.setIfInBounds_toArray, List.set_cons_zero, List.set_cons_succ]
        refine wpAnyH_take (i := 2) (oi := { dst := some 63, op := Op.move (Operand.tmp 62), type := 4, pos := "law.go:115", after := #[{ on := 1, ground := Ground.data }], guard := none }) (v := .bool false) rfl (by kernel_rfl) (by kernel_rfl) (by kernel_rfl) (fun _ _ _ h => h) (Or.inl ⟨by rfl, fun w' hw' => by (clear hw'; go_simp)⟩) hHeld ?_
        simp only [Act.put, List.setIfInBounds_toArray, List.set_cons_zero, List.set_cons_succ]
        refine wpAnyH_take (i := 3) (oi := { dst := some 64, op := Op.load 35 (Operand.tmp 15), type := 35, pos := "law.go:115", after := #[{ on := 2, ground := Ground.guard }], guard := some (2, false) }) (v := .agg #[.int .i64 sx, .slice a7 nx c7]) rfl (by kernel_rfl) (by kernel_rfl) (by kernel_rfl) (fun _ _ _ h => h) (Or.inl ⟨by rfl, fun w' hw' => by (obtain ⟨q0, q1, q2⟩ := HA7.out _ hw'; clear q2; clear hw'; go_simp)⟩) hHeld ?_
        simp only [Act.put, List.setIfInBounds_toArray, List.set_cons_zero, List.set_cons_succ]
        refine wpAnyH_take (i := 5) (oi := { dst := some 66, op := Op.load 24 (Operand.tmp 5), type := 24, pos := "law.go:115", after := #[{ on := 2, ground := Ground.guard }], guard := some (2, false) }) (v := .agg #[.int .i64 sx, .slice ax nx cx]) rfl (by kernel_rfl) (by kernel_rfl) (by kernel_rfl) (fun _ _ _ h => h) (Or.inl ⟨by rfl, fun w' hw' => by (obtain ⟨x0, x1, y0, y1, o0, o1⟩ := HX7.out _ hw'; clear hw'; go_simp)⟩) hHeld ?_
        simp only [Act.put, List.setIfInBounds_toArray, List.set_cons_zero, List.set_cons_succ]
        refine wpAnyH_ready (rs := [4]) (by kernel_rfl) (by simp) ?_
        refine (AllReadyH.cons (o := { dst := some 65, op := Op.call { callee := Callee.value (Operand.func 26), args := #[Operand.tmp 64], argTypes := #[35] }, type := 24, pos := "law.go:115", after := #[{ on := 3, ground := Ground.data }, { on := 2, ground := Ground.chain }, { on := 2, ground := Ground.guard }], guard := some (2, false) }) rfl (fun K hK => ?_) AllReadyH.nil)
        go_simp
        refine (lback_any _ sx a7 nx c7).mono ?_
        rintro e' w8 ⟨rfl, hb⟩
        have HK8 : Hid (Kp No W7 w8) := ((Kp.refl No W7).drew).andNone hb
        clear hb
        go_wp2_with fail
        refine hK.out _ _ (HK8.out) (fun hh => ?_)
        clear hK K hHeld
        have hHeld := hh
        clear hh
        try simp only [Act.put, List.setIfInBounds_toArray, List.set_cons_zero, List.set_cons_succ]
        refine wpAnyH_ready (rs := [6]) (by kernel_rfl) (by simp) ?_
        refine (AllReadyH.cons (o := { dst := some 67, op := Op.call { callee := Callee.value (Operand.func 25), args := #[Operand.tmp 65, Operand.tmp 66], argTypes := #[24, 24] }, type := 4, pos := "law.go:115", after := #[{ on := 4, ground := Ground.data }, { on := 5, ground := Ground.data }, { on := 4, ground := Ground.chain }, { on := 2, ground := Ground.guard }], guard := some (2, false) }) rfl (fun K hK => ?_) AllReadyH.nil)
        go_simp
        refine (HSF.out _ HK8.out).mono ?_
        rintro e' w9 ⟨rfl, hb⟩
        have HK9 : Hid (Kp No W7 w9) := (HK8.out).andNone hb
        clear hb
        go_wp2_with fail
        refine hK.out _ _ (HK9.out) (fun hh => ?_)
        clear hK K hHeld
        have hHeld := hh
        clear hh
        try simp only [Act.put, List.setIfInBounds_toArray, List.set_cons_zero, List.set_cons_succ]
        refine wpAnyH_take (i := 7) (oi := { dst := some 68, op := Op.unOp UnOp.not 4 (Operand.tmp 67), type := 4, pos := "law.go:115", after := #[{ on := 6, ground := Ground.data }, { on := 2, ground := Ground.guard }], guard := some (2, false) }) (v := .bool false) rfl (by kernel_rfl) (by kernel_rfl) (by kernel_rfl) (fun _ _ _ h => h) (Or.inl ⟨by rfl, fun w' hw' => by (clear hw'; go_simp)⟩) hHeld ?_
        simp only [Act.put, List.setIfInBounds_toArray, List.set_cons_zero, List.set_cons_succ]
        refine wpAnyH_take (i := 8) (oi := { dst := some 69, op := Op.pick (Operand.tmp 63) (Operand.const (Value.bool true)) (Operand.tmp 68), type := 4, pos := "law.go:115", after := #[{ on := 2, ground := Ground.data }, { on := 7, ground := Ground.data }], guard := none }) (v := .bool false) rfl (by kernel_rfl) (by kernel_rfl) (by kernel_rfl) (fun _ _ _ h => h) (Or.inl ⟨by rfl, fun w' hw' => by (clear hw'; go_simp)⟩) hHeld ?_
        simp only [Act.put, List.setIfInBounds_toArray, List.set_cons_zero, List.set_cons_succ]
        refine wpAnyH_take (i := 9) (oi := { dst := some 70, op := Op.move (Operand.tmp 69), type := 4, pos := "law.go:115", after := #[{ on := 8, ground := Ground.data }, { on := 6, ground := Ground.chain }], guard := none }) (v := .bool false) rfl (by kernel_rfl) (by kernel_rfl) (by kernel_rfl) (fun _ _ _ h => h) (Or.inl ⟨by rfl, fun w' hw' => by (clear hw'; go_simp)⟩) hHeld ?_
        simp only [Act.put, List.setIfInBounds_toArray, List.set_cons_zero, List.set_cons_succ]
        refine wpAnyH_take (i := 10) (oi := { dst := some 71, op := Op.move (Operand.tmp 14), type := 32, pos := "law.go:115", after := #[{ on := 9, ground := Ground.guard }], guard := some (9, false) }) (v := .int .i64 1) rfl (by kernel_rfl) (by kernel_rfl) (by kernel_rfl) (fun _ _ _ h => h) (Or.inl ⟨by rfl, fun w' hw' => by (clear hw'; go_simp)⟩) hHeld ?_
        simp only [Act.put, List.setIfInBounds_toArray, List.set_cons_zero, List.set_cons_succ]
        refine wpAnyH_take (i := 11) (oi := { dst := some 72, op := Op.binOp BinOp.eql 32 (Operand.tmp 71) (Operand.const (Value.int IntKind.i64 0)) 32, type := 4, pos := "law.go:115", after := #[{ on := 10, ground := Ground.data }, { on := 9, ground := Ground.guard }], guard := some (9, false) }) (v := .bool false) rfl (by kernel_rfl) (by kernel_rfl) (by kernel_rfl) (fun _ _ _ h => h) (Or.inl ⟨by rfl, fun w' hw' => by (clear hw'; go_simp)⟩) hHeld ?_
        simp only [Act.put, List.setIfInBounds_toArray, List.set_cons_zero, List.set_cons_succ]
        refine wpAnyH_take (i := 12) (oi := { dst := some 73, op := Op.move (Operand.tmp 72), type := 4, pos := "law.go:115", after := #[{ on := 11, ground := Ground.data }, { on := 9, ground := Ground.chain }, { on := 9, ground := Ground.guard }], guard := some (9, false) }) (v := .bool false) rfl (by kernel_rfl) (by kernel_rfl) (by kernel_rfl) (fun _ _ _ h => h) (Or.inl ⟨by rfl, fun w' hw' => by (clear hw'; go_simp)⟩) hHeld ?_
        simp only [Act.put, List.setIfInBounds_toArray, List.set_cons_zero, List.set_cons_succ]
        refine wpAnyH_take (i := 13) (oi := { dst := some 74, op := Op.fieldAddr 31 (Operand.tmp 11) 1, type := 0, pos := "law.go:115", after := #[{ on := 12, ground := Ground.guard }], guard := some (12, true) }) (v := undef) rfl (by kernel_rfl) (by kernel_rfl) (by kernel_rfl) (fun _ _ _ h => h) (Or.inr ⟨by rfl, rfl⟩) hHeld ?_
        simp only [Act.put, List.setIfInBounds_toArray, List.set_cons_zero, List.set_cons_succ]
        refine wpAnyH_take (i := 14) (oi := { dst := some 75, op := Op.load 26 (Operand.tmp 74), type := 26, pos := "law.go:115", after := #[{ on := 13, ground := Ground.data }, { on := 12, ground := Ground.guard }], guard := some (12, true) }) (v := undef) rfl (by kernel_rfl) (by kernel_rfl) (by kernel_rfl) (fun _ _ _ h => h) (Or.inr ⟨by rfl, rfl⟩) hHeld ?_
        simp only [Act.put, List.setIfInBounds_toArray, List.set_cons_zero, List.set_cons_succ]
        refine wpAnyH_take (i := 15) (oi := { dst := some 76, op := Op.fieldAddr 31 (Operand.tmp 13) 1, type := 0, pos := "law.go:115", after := #[{ on := 12, ground := Ground.guard }], guard := some (12, true) }) (v := undef) rfl (by kernel_rfl) (by kernel_rfl) (by kernel_rfl) (fun _ _ _ h => h) (Or.inr ⟨by rfl, rfl⟩) hHeld ?_
        simp only [Act.put, List.setIfInBounds_toArray, List.set_cons_zero, List.set_cons_succ]
        refine wpAnyH_take (i := 16) (oi := { dst := some 77, op := Op.load 26 (Operand.tmp 76), type := 26, pos := "law.go:115", after := #[{ on := 15, ground := Ground.data }, { on := 12, ground := Ground.guard }], guard := some (12, true) }) (v := undef) rfl (by kernel_rfl) (by kernel_rfl) (by kernel_rfl) (fun _ _ _ h => h) (Or.inr ⟨by rfl, rfl⟩) hHeld ?_
        simp only [Act.put, List.setIfInBounds_toArray, List.set_cons_zero, List.set_cons_succ]
        refine wpAnyH_take (i := 17) (oi := { dst := some 78, op := Op.call { callee := Callee.value (Operand.func 34), args := #[Operand.tmp 75, Operand.tmp 77], argTypes := #[26, 26] }, type := 4, pos := "law.go:115", after := #[{ on := 14, ground := Ground.data }, { on := 16, ground := Ground.data }, { on := 12, ground := Ground.chain }, { on := 12, ground := Ground.guard }], guard := some (12, true) }) (v := undef) rfl (by kernel_rfl) (by kernel_rfl) (by kernel_rfl) (fun _ _ _ h => h) (Or.inr ⟨by rfl, rfl⟩) hHeld ?_
        simp only [Act.put, List.setIfInBounds_toArray, List.set_cons_zero, List.set_cons_succ]
        refine wpAnyH_take (i := 18) (oi := { dst := some 79, op := Op.load 24 (Operand.tmp 5), type := 24, pos := "law.go:115", after := #[{ on := 12, ground := Ground.guard }], guard := some (12, true) }) (v := undef) rfl (by kernel_rfl) (by kernel_rfl) (by kernel_rfl) (fun _ _ _ h => h) (Or.inr ⟨by rfl, rfl⟩) hHeld ?_
        simp only [Act.put, List.setIfInBounds_toArray, List.set_cons_zero, List.set_cons_succ]
        refine wpAnyH_take (i := 19) (oi := { dst := some 80, op := Op.load 24 (Operand.tmp 6), type := 24, pos := "law.go:115", after := #[{ on := 12, ground := Ground.guard }], guard := some (12, true) }) (v := undef) rfl (by kernel_rfl) (by kernel_rfl) (by kernel_rfl) (fun _ _ _ h => h) (Or.inr ⟨by rfl, rfl⟩) hHeld ?_
        simp only [Act.put, List.setIfInBounds_toArray, List.set_cons_zero, List.set_cons_succ]
        refine wpAnyH_take (i := 20) (oi := { dst := some 81, op := Op.call { callee := Callee.value (Operand.func 25), args := #[Operand.tmp 79, Operand.tmp 80], argTypes := #[24, 24] }, type := 4, pos := "law.go:115", after := #[{ on := 18, ground := Ground.data }, { on := 19, ground := Ground.data }, { on := 17, ground := Ground.chain }, { on := 12, ground := Ground.guard }], guard := some (12, true) }) (v := undef) rfl (by kernel_rfl) (by kernel_rfl) (by kernel_rfl) (fun _ _ _ h => h) (Or.inr ⟨by rfl, rfl⟩) hHeld ?_
        simp only [Act.put, List.setIfInBounds_toArray, List.set_cons_zero, List.set_cons_succ]
        refine wpAnyH_take (i := 21) (oi := { dst := some 82, op := Op.binOp BinOp.neq 4 (Operand.tmp 78) (Operand.tmp 81) 4, type := 4, pos := "law.go:115", after := #[{ on := 17, ground := Ground.data }, { on := 20, ground := Ground.data }, { on := 12, ground := Ground.guard }], guard := some (12, true) }) (v := undef) rfl (by kernel_rfl) (by kernel_rfl) (by kernel_rfl) (fun _ _ _ h => h) (Or.inr ⟨by rfl, rfl⟩) hHeld ?_
        simp only [Act.put, List.setIfInBounds_toArray, List.set_cons_zero, List.set_cons_succ]
        refine wpAnyH_take (i := 22) (oi := { dst := some 83, op := Op.pick (Operand.tmp 73) (Operand.tmp 82) (Operand.const (Value.bool false)), type := 4, pos := "law.go:115", after := #[{ on := 12, ground := Ground.data }, { on := 21, ground := Ground.data }, { on := 9, ground := Ground.guard }], guard := some (9, false) }) (v := .bool false) rfl (by kernel_rfl) (by kernel_rfl) (by kernel_rfl) (fun _ _ _ h => h) (Or.inl ⟨by rfl, fun w' hw' => by (clear hw'; go_simp)⟩) hHeld ?_
        simp only [Act.put, List.setIfInBounds_toArray, List.set_cons_zero, List.set_cons_succ]
        refine wpAnyH_take (i := 23) (oi := { dst := some 84, op := Op.pick (Operand.tmp 70) (Operand.const (Value.bool true)) (Operand.tmp 83), type := 4, pos := "law.go:115", after := #[{ on := 9, ground := Ground.data }, { on := 22, ground := Ground.data }], guard := none }) (v := .bool false) rfl (by kernel_rfl) (by kernel_rfl) (by kernel_rfl) (fun _ _ _ h => h) (Or.inl ⟨by rfl, fun w' hw' => by (clear hw'; go_simp)⟩) hHeld ?_
        simp only [Act.put, List.setIfInBounds_toArray, List.set_cons_zero, List.set_cons_succ]
        refine wpAnyH_done (by kernel_rfl) ?_ _
        clear hHeld
        go_wp2_with fail
        go_meet
        exact HK67.out.andNone HK9.out
    · obtain ⟨rfl⟩ : f1 = 1 := by
        rcases HOR1.out with ⟨h, _⟩ | ⟨_, _, h, _⟩
        · exact absurd h okx
        · exact h
      clear okx
      go_wp2_with fail
      go_meet
      exact Kp.refl _ _
  case rest =>
  have HC1 : Hid (Kp No W0 wc) := HK6.out.andNone hcut.out
  clear hcut HA4 HA6 HOR1 HOR2 HK46 HK45 HK5 HK4 HK3 HK2 HK1 HZ4 HZ6
  go_wp2_with fail
  refine (HOW.out _ (HB.out.andNone HC1.out)).mono ?_
  rintro e w8 ⟨r8, rfl, hm8⟩
  have HK8 := hid (HC1.out.andNone hm8.2.2)
  have HE8 := hid (ev_of_rowT (P := fun _ => True) hm8.1 HOL.out (fun _ _ => trivial))
  have HPD := hid (putDir_any w8 r8 l _ HE8.out (by have := HNL.out; have := HNL2.out; omega) HSL.out)
  obtain ⟨a8, c8, rfl, hxx⟩ := id HE8.out
  clear hxx hm8
  go_wp2_with fail
  refine HPD.out.mono ?_
  rintro e w9 ⟨h9, hb9⟩
  obtain ⟨k1, a1, n1, c1, f1, bs1, rfl, hy9, hor1⟩ := dOne h9
  have HOR1 := hid hor1
  obtain ⟨W9, hW9⟩ : ∃ W, w9.alloc (.cells #[.int .i64 k1, .slice a1 n1 c1] 31) = W := ⟨_, rfl⟩
  have HK9 : Hid (Kp No W0 W9) := by rw [Hid, ← hW9]; exact (HK8.out.andNone (Kp.below hb9)).alloc _
  have HA9 := hid (box_obj hW9 hy9)
  clear h9 hb9 hy9 hor1 HPD HE8
  go_wp2_with fail
  refine (HOWM.out _ (HB.out.andNone HK9.out)).mono ?_
  rintro e w10 ⟨r10, rfl, hm10⟩
  have HK10 := hid (HK9.out.andNone hm10.2.2)
  have HK910 := hid hm10.2.2
  have HE10 := hid (ev_of_rowT (P := fun _ => True) hm10.1 HOM.out (fun _ _ => trivial))
  have HPD := hid (putDir_any w10 r10 m _ HE10.out (by have := HNM.out; have := HNM2.out; omega) HSM.out)
  obtain ⟨a10, c10, rfl, hxx⟩ := id HE10.out
  clear hxx hm10 hW9
  go_wp2_with fail
  refine HPD.out.mono ?_
  rintro e w11 ⟨h11, hb11⟩
  obtain ⟨k2, a2, n2, c2, f2, bs2, rfl, hy11, hor2⟩ := dOne h11
  have HOR2 := hid hor2
  obtain ⟨W11, hW11⟩ : ∃ W, w11.alloc (.cells #[.int .i64 k2, .slice a2 n2 c2] 31) = W := ⟨_, rfl⟩
  have HK911 : Hid (Kp No W9 W11) := by rw [Hid, ← hW11]; exact (HK910.out.andNone (Kp.below hb11)).alloc _
  have HK11 : Hid (Kp No W0 W11) := HK9.out.andNone HK911.out
  have HA11 := hid (box_obj hW11 hy11)
  clear h11 hb11 hy11 hor2 HPD HE10
  go_upto_if 98 with fail
  go_cut [19, 20] (fun s19 s20 wx => Hid (Kp No W11 wx))
  case first =>
    by_cases okl : RightP l ∧ objP (entsT l)
    · obtain ⟨rfl, rfl, rfl⟩ : k1 = 3 ∧ f1 = 0 ∧ bs1 = Tlv.formOf 3 (entsT l) := by
        rcases HOR1.out with ⟨_, h1, h2, h3⟩ | ⟨h, _⟩
        · exact ⟨h1, h2, h3⟩
        · exact absurd okl h
      have HDL := hid (isDir_form okl.1 okl.2 HOL.out)
      obtain ⟨z0, z1, hz⟩ := HA9.out W11 HK911.out
      have HGD := hid (getDir_any W11 3 _ _ hz)
      clear hz okl
      go_wp2_with fail
      refine HGD.out.mono ?_
      rintro e w12 ⟨h12, hb12⟩
      obtain ⟨a12, l12, c12, rfl, hv12⟩ := gda_yes h12 HDL.out
      have HK12 : Hid (Kp No W11 w12) := Kp.below hb12
      have HV12 := hid hv12
      have HBK := hid (back_any w12 _ l _ hv12 (by have := HNL.out; have := HNL2.out; omega))
      clear z0 z1 h12 hb12 hv12 HGD
      go_wp2_with fail
      refine HBK.out.mono ?_
      rintro e w13 ⟨r13, rfl, hm13⟩
      have HK13 : Hid (Kp No W11 w13) := HK12.out.andNone hm13.2.2
      have HE13 := hid (ev_of_rowT (P := fun _ => True) hm13.1 HOL.out (fun _ _ => trivial))
      have HSA := hid (same_any w13 _ _ l l _ _ HE13.out (HL.out.kept (HB.out.andNone (HK11.out.andNone HK13.out))) (by have := HNL.out; have := HNL2.out; omega))
      rw [decide_eq_true rfl] at HSA
      obtain ⟨a13, c13, rfl, hxx⟩ := id HE13.out
      clear hxx hm13 HBK
      go_wp2_with fail
      refine HSA.out.mono ?_
      rintro e w14 ⟨rfl, k14⟩
      have HK14 : Hid (Kp No W11 w14) := HK13.out.andNone k14
      clear k14 HSA HE13
      rcases HOR2.out with ⟨okm, h1, h2, h3⟩ | ⟨okm, h1, h2, h3⟩
      · subst h2
        have HDM := hid (isDir_form okm.1 okm.2 HOM.out)
        have HEQ : Hid (decide (Tlv.formOf 3 (entsT l) = bs2) = decide (l = m)) := by
          rw [Hid, decide_eq_decide, h3]
          constructor
          · intro e
            have h4 := HDL.out
            rw [e] at h4
            exact isDir_one h4 HDM.out
          · rintro rfl
            rfl
        obtain ⟨y0, y1, hy⟩ := HA9.out w14 (HK911.out.andNone HK14.out)
        obtain ⟨z0, z1, hz⟩ := HA11.out w14 HK14.out
        have HBY := hid (Tlv.refBytes_any _ _ _ _ w14 hy hz)
        rw [HEQ.out] at HBY
        have HSM2 := hid (fun (V : World) (hV : Kp No W11 V) => same_any V _ _ l m _ _ (HL.out.kept (HB.out.andNone (HK11.out.andNone hV))) (HM.out.kept (HB.out.andNone (HK11.out.andNone hV))) (by have := HNL.out; have := HNL2.out; omega))
        obtain ⟨r, hr⟩ : ∃ r, decide (l = m) = r := ⟨_, rfl⟩
        rw [hr] at HBY HSM2
        clear hr HEQ HDM okm h1 h3 HOR1 HOR2 hy hz
        go_wp2_with fail
        refine HBY.out.mono ?_
        rintro e w15 ⟨rfl, hb15⟩
        have HK15 : Hid (Kp No W11 w15) := HK14.out.andNone (Kp.below hb15)
        clear hb15 HBY y0 y1 z0 z1
        go_wp2_with fail
        refine (HSM2.out _ HK15.out).mono ?_
        rintro e w16 ⟨rfl, k16⟩
        have HK16 : Hid (Kp No W11 w16) := HK15.out.andNone k16
        have hrr : (r != r) = false := by simp
        clear k16
        go_wp2_with fail
        go_meet
        exact HK16.out
      · subst h2
        clear okm h1 h3 HOR1 HOR2
        go_wp2_with fail
        go_meet
        exact HK14.out
    · obtain ⟨rfl⟩ : f1 = 1 := by
        rcases HOR1.out with ⟨h, _⟩ | ⟨_, _, h, _⟩
        · exact absurd h okl
        · exact h
      clear okl
      go_wp2_with fail
      go_meet
      exact Kp.refl _ _
  case rest =>
  have HC2 : Hid (Kp No W0 wc) := HK11.out.andNone hcut.out
  have HBC : Hid (∀ V, Kp No W0 V → Below w.heap.size w V) := fun V hV => (HB.out.andNone hV).toBelow'
  clear hcut HA9 HA11 HOR1 HOR2 HK911 HK910 HK11 HK10 HK9 HK8 hW11 HC1
  obtain ⟨x0, x1, y0, y1, o0, o1⟩ := HXB.out wc HC2.out
  go_wp2_with fail
  refine (ownObj_any wc K ab nb cb).mono ?_
  rintro e w20 ⟨rfl, k20⟩
  have HK20 := hid (HC2.out.andNone k20)
  have HGD := hid (getDir_any w20 K _ bo (HBV.out _ (HB.out.andNone HK20.out)))
  clear x0 x1 y0 y1 o0 o1 k20
  go_wp2_with fail
  refine HGD.out.mono ?_
  rintro e w21 ⟨h21, hb21⟩
  have HK21 := hid (HK20.out.andNone (Kp.below hb21))
  clear hb21 HGD
  have hcase : (∃ d a l c, K = 3 ∧ IsDir bo d ∧ e = .returned (.tuple #[.slice a l c, .int .i64 0]) ∧ EV (fun g => w20.heap.size ≤ g) w21 (.slice a l c) d) ∨ ∃ f, (f = 1 ∨ f = 3) ∧ e = .returned (.tuple #[.slice none 0 0, .int .i64 f]) := by
    rcases h21 with ⟨_, h⟩ | ⟨_, _, h⟩ | h
    · exact .inr ⟨1, .inl rfl, h⟩
    · exact .inr ⟨3, .inr rfl, h⟩
    · exact .inl h
  clear h21
  rcases hcase with ⟨d, a21, l21, c21, rfl, hdir, rfl, hev⟩ | ⟨f, hf, rfl⟩
  · obtain ⟨hr, hoj, hfm⟩ := isDir_back HBO.out hdir
    have HSZ : Hid (d.length ≤ 1000000 ∧ ∀ e ∈ d, e.1.length ≤ 1000000) := by
      obtain ⟨t, ht, _, rfl⟩ := hdir
      have h1 := bodyT_names HBO.out ht
      have h2 := (bodyT_count HBO.out ht).1
      refine ⟨by rw [List.length_map]; omega, fun e he => ?_⟩
      obtain ⟨x, hx, rfl⟩ := List.mem_map.1 he
      have := h1 x hx
      omega
    have HPD := hid (putDir_any w21 _ d _ hev HSZ.out.1 HSZ.out.2)
    have hll := ev_len hev
    have HOKD := hid (And.intro hr hoj)
    have HFM := hid hfm
    clear hdir hev hr hoj hfm hll
    go_wp2_with fail
    refine HPD.out.mono ?_
    rintro e w22 ⟨h22, hb22⟩
    obtain ⟨k3, a3, n3, c3, f3, bs3, rfl, hy22, hor3⟩ := dOne h22
    obtain ⟨rfl, rfl, rfl⟩ : k3 = 3 ∧ f3 = 0 ∧ bs3 = Tlv.formOf 3 (entsT d) := by
      rcases hor3 with ⟨_, h1, h2, h3⟩ | ⟨h, _⟩
      · exact ⟨h1, h2, h3⟩
      · exact absurd HOKD.out h
    rw [HFM.out] at hy22
    obtain ⟨WE, hWE⟩ : ∃ W, w22.alloc (.cells #[.int .i64 3, .slice a3 n3 c3] 31) = W := ⟨_, rfl⟩
    have HKE : Hid (Kp No W0 WE) := by rw [Hid, ← hWE]; exact (HK21.out.andNone (Kp.below hb22)).alloc _
    have HAE := hid (box_obj hWE hy22)
    have HXE : Hid (∀ V, Kp No WE V → V.cell? ⟨w.heap.size + 2, 0, none⟩ = some (.int .i64 3) ∧ V.cell? ⟨w.heap.size + 2, 1, none⟩ = some (.slice ab nb cb)) := fun V hV => (HXB.out V (HKE.out.andNone hV)).2.2.2.2
    have HSO := hid (fun (V : World) (hV : Kp No WE V) => sameObj_any V 3 3 _ _ bo bo (HAE.out V hV).2.2 (HBV.out V (HB.out.andNone (HKE.out.andNone hV))))
    rw [show decide ((3 : Int) = 3 ∧ bo = bo) = true by simp] at HSO
    clear h22 hb22 hy22 hor3 HPD
    go_wp2_with fail
    refine wp_region_held_drew (S := fun V => Kp No WE V) (by kernel_rfl) ((Kp.refl _ _).drew) (fun hHeld => ?_)
    refine wpAnyH_take (i := 0) (oi := { dst := some 141, op := Op.move (Operand.tmp 24), type := 32, pos := "law.go:129", after := #[], guard := none }) (v := .int .i64 0) rfl (by kernel_rfl) (by kernel_rfl) (by kernel_rfl) (fun _ _ _ h => h) (Or.inl ⟨by rfl, fun w' hw' => by (clear hw'; go_simp)⟩) hHeld ?_
    simp only [Act.put, List.setIfInBounds_toArray, List.set_cons_zero, List.set_cons_succ]
    refine wpAnyH_take (i := 1) (oi := { dst := some 142, op := Op.binOp BinOp.eql 32 (Operand.tmp 141) (Operand.const (Value.int IntKind.i64 0)) 32, type := 4, pos := "law.go:129", after := #[{ on := 0, ground := Ground.data }], guard := none }) (v := .bool true) rfl (by kernel_rfl) (by kernel_rfl) (by kernel_rfl) (fun _ _ _ h => h) (Or.inl ⟨by rfl, fun w' hw' => by (clear hw'; go_simp)⟩) hHeld ?_
    simp only [Act.put, List.setIfInBounds_toArray, List.set_cons_zero, List.set_cons_succ]
    refine wpAnyH_take (i := 2) (oi := { dst := some 143, op := Op.move (Operand.tmp 142), type := 4, pos := "law.go:129", after := #[{ on := 1, ground := Ground.data }], guard := none }) (v := .bool true) rfl (by kernel_rfl) (by kernel_rfl) (by kernel_rfl) (fun _ _ _ h => h) (Or.inl ⟨by rfl, fun w' hw' => by (clear hw'; go_simp)⟩) hHeld ?_
    simp only [Act.put, List.setIfInBounds_toArray, List.set_cons_zero, List.set_cons_succ]
    refine wpAnyH_take (i := 3) (oi := { dst := some 144, op := Op.load 31 (Operand.tmp 23), type := 31, pos := "law.go:129", after := #[{ on := 2, ground := Ground.guard }], guard := some (2, true) }) (v := .agg #[.int .i64 3, .slice a3 n3 c3]) rfl (by kernel_rfl) (by kernel_rfl) (by kernel_rfl) (fun _ _ _ h => h) (Or.inl ⟨by rfl, fun w' hw' => by (obtain ⟨q0, q1, q2⟩ := HAE.out _ hw'; clear q2; clear hw'; go_simp)⟩) hHeld ?_
    simp only [Act.put, List.setIfInBounds_toArray, List.set_cons_zero, List.set_cons_succ]
    refine wpAnyH_take (i := 5) (oi := { dst := some 146, op := Op.load 29 (Operand.tmp 9), type := 29, pos := "law.go:129", after := #[{ on := 2, ground := Ground.guard }], guard := some (2, true) }) (v := .agg #[.int .i64 3, .slice ab nb cb]) rfl (by kernel_rfl) (by kernel_rfl) (by kernel_rfl) (fun _ _ _ h => h) (Or.inl ⟨by rfl, fun w' hw' => by (obtain ⟨q0, q1⟩ := HXE.out _ hw'; clear hw'; go_simp)⟩) hHeld ?_
    simp only [Act.put, List.setIfInBounds_toArray, List.set_cons_zero, List.set_cons_succ]
    refine wpAnyH_ready (rs := [4]) (by kernel_rfl) (by simp) ?_
    refine (AllReadyH.cons (o := { dst := some 145, op := Op.call { callee := Callee.value (Operand.func 36), args := #[Operand.tmp 144], argTypes := #[31] }, type := 29, pos := "law.go:129", after := #[{ on := 3, ground := Ground.data }, { on := 2, ground := Ground.chain }, { on := 2, ground := Ground.guard }], guard := some (2, true) }) rfl (fun K hK => ?_) AllReadyH.nil)
    go_simp
    refine (backObj_any _ 3 a3 n3 c3).mono ?_
    rintro e' wF ⟨rfl, hb⟩
    have HKF : Hid (Kp No WE wF) := ((Kp.refl No WE).drew).andNone hb
    clear hb
    go_wp2_with fail
    refine hK.out _ _ (HKF.out) (fun hh => ?_)
    clear hK K hHeld
    have hHeld := hh
    clear hh
    try simp only [Act.put, List.setIfInBounds_toArray, List.set_cons_zero, List.set_cons_succ]
    refine wpAnyH_ready (rs := [6]) (by kernel_rfl) (by simp) ?_
    refine (AllReadyH.cons (o := { dst := some 147, op := Op.call { callee := Callee.value (Operand.func 35), args := #[Operand.tmp 145, Operand.tmp 146], argTypes := #[29, 29] }, type := 4, pos := "law.go:129", after := #[{ on := 4, ground := Ground.data }, { on := 5, ground := Ground.data }, { on := 4, ground := Ground.chain }, { on := 2, ground := Ground.guard }], guard := some (2, true) }) rfl (fun K hK => ?_) AllReadyH.nil)
    go_simp
    refine (HSO.out _ HKF.out).mono ?_
    rintro e' wG ⟨rfl, hb⟩
    have HKG : Hid (Kp No WE wG) := HKF.out.andNone hb
    clear hb
    go_wp2_with fail
    refine hK.out _ _ (HKG.out) (fun hh => ?_)
    clear hK K hHeld
    have hHeld := hh
    clear hh
    try simp only [Act.put, List.setIfInBounds_toArray, List.set_cons_zero, List.set_cons_succ]
    refine wpAnyH_take (i := 7) (oi := { dst := some 148, op := Op.pick (Operand.tmp 143) (Operand.tmp 147) (Operand.const (Value.bool false)), type := 4, pos := "law.go:129", after := #[{ on := 2, ground := Ground.data }, { on := 6, ground := Ground.data }], guard := none }) (v := .bool true) rfl (by kernel_rfl) (by kernel_rfl) (by kernel_rfl) (fun _ _ _ h => h) (Or.inl ⟨by rfl, fun w' hw' => by (clear hw'; go_simp)⟩) hHeld ?_
    simp only [Act.put, List.setIfInBounds_toArray, List.set_cons_zero, List.set_cons_succ]
    refine wpAnyH_take (i := 8) (oi := { dst := some 149, op := Op.move (Operand.tmp 148), type := 4, pos := "law.go:129", after := #[{ on := 7, ground := Ground.data }, { on := 6, ground := Ground.chain }], guard := none }) (v := .bool true) rfl (by kernel_rfl) (by kernel_rfl) (by kernel_rfl) (fun _ _ _ h => h) (Or.inl ⟨by rfl, fun w' hw' => by (clear hw'; go_simp)⟩) hHeld ?_
    simp only [Act.put, List.setIfInBounds_toArray, List.set_cons_zero, List.set_cons_succ]
    refine wpAnyH_ready (rs := [9]) (by kernel_rfl) (by simp) ?_
    refine (AllReadyH.cons (o := { dst := some 150, op := Op.call { callee := Callee.value (Operand.func 8), args := #[], argTypes := #[] }, type := 4, pos := "law.go:129", after := #[{ on := 8, ground := Ground.chain }, { on := 8, ground := Ground.guard }], guard := some (8, true) }) rfl (fun K hK => ?_) AllReadyH.nil)
    go_simp
    refine (alive_any _).mono ?_
    rintro e' wH ⟨rfl, hb⟩
    have HKH : Hid (Kp No WE wH) := HKG.out.andNone (Kp.below hb)
    clear hb
    go_wp2_with fail
    refine hK.out _ _ (HKH.out) (fun hh => ?_)
    clear hK K hHeld
    have hHeld := hh
    clear hh
    try simp only [Act.put, List.setIfInBounds_toArray, List.set_cons_zero, List.set_cons_succ]
    refine wpAnyH_take (i := 10) (oi := { dst := some 151, op := Op.pick (Operand.tmp 149) (Operand.tmp 150) (Operand.const (Value.bool false)), type := 4, pos := "law.go:129", after := #[{ on := 8, ground := Ground.data }, { on := 9, ground := Ground.data }], guard := none }) (v := .bool true) rfl (by kernel_rfl) (by kernel_rfl) (by kernel_rfl) (fun _ _ _ h => h) (Or.inl ⟨by rfl, fun w' hw' => by (clear hw'; go_simp)⟩) hHeld ?_
    simp only [Act.put, List.setIfInBounds_toArray, List.set_cons_zero, List.set_cons_succ]
    refine wpAnyH_take (i := 11) (oi := { dst := some 10, op := Op.assign (Operand.tmp 151), type := 4, pos := "law.go:129", after := #[{ on := 10, ground := Ground.data }, { on := 9, ground := Ground.chain }, { on := 0, ground := Ground.phase }, { on := 1, ground := Ground.phase }, { on := 2, ground := Ground.phase }, { on := 3, ground := Ground.phase }, { on := 4, ground := Ground.phase }, { on := 5, ground := Ground.phase }, { on := 6, ground := Ground.phase }, { on := 7, ground := Ground.phase }, { on := 8, ground := Ground.phase }, { on := 9, ground := Ground.phase }, { on := 10, ground := Ground.phase }], guard := none }) (v := .bool true) rfl (by kernel_rfl) (by kernel_rfl) (by kernel_rfl) (fun _ _ _ h => h) (Or.inl ⟨by rfl, fun w' hw' => by (clear hw'; go_simp)⟩) hHeld ?_
    simp only [Act.put, List.setIfInBounds_toArray, List.set_cons_zero, List.set_cons_succ]
    refine wpAnyH_done (by kernel_rfl) ?_ _
    clear hHeld
    go_wp2_with fail
    go_ret
    exact ⟨rfl, HBC.out _ (HKE.out.andNone HKH.out)⟩
  · have hf0 : (f == 0) = false := by rcases hf with rfl | rfl <;> rfl
    clear hf
    obtain ⟨x0, x1, y0, y1, o0, o1⟩ := HXB.out w21 HK21.out
    go_wp2_with fail
    refine (ownObj_any w21 K ab nb cb).mono ?_
    rintro e w22 ⟨rfl, k22⟩
    have HK22 := hid (HK21.out.andNone k22)
    have HGF := hid (getFile_any w22 K _ bo (HBV.out _ (HB.out.andNone HK22.out)))
    clear x0 x1 y0 y1 o0 o1 k22 hf0
    go_wp2_with fail
    refine HGF.out.mono ?_
    rintro e w23 ⟨h23, hb23⟩
    have HK23 := hid (HK22.out.andNone (Kp.below hb23))
    clear hb23 HGF
    have hcase : (∃ s d a l c, K = 2 ∧ gfile bo = some (s, d) ∧ e = .returned (.tuple #[.agg #[.int .i64 s, .slice a l c], .int .i64 0]) ∧ HV (fun g => g < w23.heap.size ∧ w22.heap.size ≤ g) w23 (.slice a l c) d) ∨ ∃ f, (f = 1 ∨ f = 3) ∧ e = .returned (.tuple #[.agg #[.int .i64 0, .slice none 0 0], .int .i64 f]) := by
      rcases h23 with ⟨_, h⟩ | ⟨_, _, h⟩ | h
      · exact .inr ⟨1, .inl rfl, h⟩
      · exact .inr ⟨3, .inr rfl, h⟩
      · exact .inl h
    clear h23
    rcases hcase with ⟨s, d, a23, l23, c23, rfl, hgf, rfl, hhv⟩ | ⟨f, hf, rfl⟩
    · obtain ⟨hr, hoj, hfm⟩ := gfile_back HBO.out hgf
      have hdl : d.length ≤ 1000000 := by
        unfold fileB at hr
        simp only [decide_eq_true_eq] at hr
        omega
      obtain ⟨W23, hW23⟩ : ∃ W, w23.alloc (.cells #[.int .i64 s, .slice a23 l23 c23] 35) = W := ⟨_, rfl⟩
      have HK24 : Hid (Kp No W0 W23) := by rw [Hid, ← hW23]; exact HK23.out.alloc _
      obtain ⟨z0, z1, hz⟩ := box_file hW23 hhv W23 (Kp.refl _ _)
      have hll := hv_len hhv
      have hlt : w23.heap.size ≤ W23.heap.size := by rw [← hW23]; simp
      have HPF := hid (putFile_any W23 s _ d (hz.imp (fun g hg => Nat.lt_of_lt_of_le hg.1 hlt)) hdl)
      have HOKD := hid (And.intro hr hoj)
      have HFM := hid hfm
      clear hhv hr hoj hfm hll hgf hdl hz hlt
      go_wp2_with fail
      refine HPF.out.mono ?_
      rintro e w24 ⟨h24, hb24⟩
      obtain ⟨k3, a3, n3, c3, f3, bs3, rfl, hy24, hor3⟩ := fOne h24
      obtain ⟨rfl, rfl, rfl⟩ : k3 = 2 ∧ f3 = 0 ∧ bs3 = Tlv.formOf 3 (fileT s d) := by
        rcases hor3 with ⟨_, h1, h2, h3⟩ | ⟨h, _⟩
        · exact ⟨h1, h2, h3⟩
        · exact absurd HOKD.out h
      rw [HFM.out] at hy24
      obtain ⟨WE, hWE⟩ : ∃ W, w24.alloc (.cells #[.int .i64 2, .slice a3 n3 c3] 31) = W := ⟨_, rfl⟩
      have HKE : Hid (Kp No W0 WE) := by rw [Hid, ← hWE]; exact (HK24.out.andNone (Kp.below hb24)).alloc _
      have HAE := hid (box_obj hWE hy24)
      have HXE : Hid (∀ V, Kp No WE V → V.cell? ⟨w.heap.size + 2, 0, none⟩ = some (.int .i64 2) ∧ V.cell? ⟨w.heap.size + 2, 1, none⟩ = some (.slice ab nb cb)) := fun V hV => (HXB.out V (HKE.out.andNone hV)).2.2.2.2
      have HSO := hid (fun (V : World) (hV : Kp No WE V) => sameObj_any V 2 2 _ _ bo bo (HAE.out V hV).2.2 (HBV.out V (HB.out.andNone (HKE.out.andNone hV))))
      rw [show decide ((2 : Int) = 2 ∧ bo = bo) = true by simp] at HSO
      clear h24 hb24 hy24 hor3 HPF z0 z1
      go_wp2_with fail
      refine wp_region_held_drew (S := fun V => Kp No WE V) (by kernel_rfl) ((Kp.refl _ _).drew) (fun hHeld => ?_)
      refine wpAnyH_take (i := 0) (oi := { dst := some 165, op := Op.move (Operand.tmp 28), type := 32, pos := "law.go:133", after := #[], guard := none }) (v := .int .i64 0) rfl (by kernel_rfl) (by kernel_rfl) (by kernel_rfl) (fun _ _ _ h => h) (Or.inl ⟨by rfl, fun w' hw' => by (clear hw'; go_simp)⟩) hHeld ?_
      simp only [Act.put, List.setIfInBounds_toArray, List.set_cons_zero, List.set_cons_succ]
      refine wpAnyH_take (i := 1) (oi := { dst := some 166, op := Op.binOp BinOp.eql 32 (Operand.tmp 165) (Operand.const (Value.int IntKind.i64 0)) 32, type := 4, pos := "law.go:133", after := #[{ on := 0, ground := Ground.data }], guard := none }) (v := .bool true) rfl (by kernel_rfl) (by kernel_rfl) (by kernel_rfl) (fun _ _ _ h => h) (Or.inl ⟨by rfl, fun w' hw' => by (clear hw'; go_simp)⟩) hHeld ?_
      simp only [Act.put, List.setIfInBounds_toArray, List.set_cons_zero, List.set_cons_succ]
      refine wpAnyH_take (i := 2) (oi := { dst := some 167, op := Op.move (Operand.tmp 166), type := 4, pos := "law.go:133", after := #[{ on := 1, ground := Ground.data }], guard := none }) (v := .bool true) rfl (by kernel_rfl) (by kernel_rfl) (by kernel_rfl) (fun _ _ _ h => h) (Or.inl ⟨by rfl, fun w' hw' => by (clear hw'; go_simp)⟩) hHeld ?_
      simp only [Act.put, List.setIfInBounds_toArray, List.set_cons_zero, List.set_cons_succ]
      refine wpAnyH_take (i := 3) (oi := { dst := some 168, op := Op.load 31 (Operand.tmp 27), type := 31, pos := "law.go:133", after := #[{ on := 2, ground := Ground.guard }], guard := some (2, true) }) (v := .agg #[.int .i64 2, .slice a3 n3 c3]) rfl (by kernel_rfl) (by kernel_rfl) (by kernel_rfl) (fun _ _ _ h => h) (Or.inl ⟨by rfl, fun w' hw' => by (obtain ⟨q0, q1, q2⟩ := HAE.out _ hw'; clear q2; clear hw'; go_simp)⟩) hHeld ?_
      simp only [Act.put, List.setIfInBounds_toArray, List.set_cons_zero, List.set_cons_succ]
      refine wpAnyH_take (i := 5) (oi := { dst := some 170, op := Op.load 29 (Operand.tmp 9), type := 29, pos := "law.go:133", after := #[{ on := 2, ground := Ground.guard }], guard := some (2, true) }) (v := .agg #[.int .i64 2, .slice ab nb cb]) rfl (by kernel_rfl) (by kernel_rfl) (by kernel_rfl) (fun _ _ _ h => h) (Or.inl ⟨by rfl, fun w' hw' => by (obtain ⟨q0, q1⟩ := HXE.out _ hw'; clear hw'; go_simp)⟩) hHeld ?_
      simp only [Act.put, List.setIfInBounds_toArray, List.set_cons_zero, List.set_cons_succ]
      refine wpAnyH_ready (rs := [4]) (by kernel_rfl) (by simp) ?_
      refine (AllReadyH.cons (o := { dst := some 169, op := Op.call { callee := Callee.value (Operand.func 36), args := #[Operand.tmp 168], argTypes := #[31] }, type := 29, pos := "law.go:133", after := #[{ on := 3, ground := Ground.data }, { on := 2, ground := Ground.chain }, { on := 2, ground := Ground.guard }], guard := some (2, true) }) rfl (fun K hK => ?_) AllReadyH.nil)
      go_simp
      refine (backObj_any _ 2 a3 n3 c3).mono ?_
      rintro e' wF ⟨rfl, hb⟩
      have HKF : Hid (Kp No WE wF) := ((Kp.refl No WE).drew).andNone hb
      clear hb
      go_wp2_with fail
      refine hK.out _ _ (HKF.out) (fun hh => ?_)
      clear hK K hHeld
      have hHeld := hh
      clear hh
      try simp only [Act.put, List.setIfInBounds_toArray, List.set_cons_zero, List.set_cons_succ]
      refine wpAnyH_ready (rs := [6]) (by kernel_rfl) (by simp) ?_
      refine (AllReadyH.cons (o := { dst := some 171, op := Op.call { callee := Callee.value (Operand.func 35), args := #[Operand.tmp 169, Operand.tmp 170], argTypes := #[29, 29] }, type := 4, pos := "law.go:133", after := #[{ on := 4, ground := Ground.data }, { on := 5, ground := Ground.data }, { on := 4, ground := Ground.chain }, { on := 2, ground := Ground.guard }], guard := some (2, true) }) rfl (fun K hK => ?_) AllReadyH.nil)
      go_simp
      refine (HSO.out _ HKF.out).mono ?_
      rintro e' wG ⟨rfl, hb⟩
      have HKG : Hid (Kp No WE wG) := HKF.out.andNone hb
      clear hb
      go_wp2_with fail
      refine hK.out _ _ (HKG.out) (fun hh => ?_)
      clear hK K hHeld
      have hHeld := hh
      clear hh
      try simp only [Act.put, List.setIfInBounds_toArray, List.set_cons_zero, List.set_cons_succ]
      refine wpAnyH_take (i := 7) (oi := { dst := some 172, op := Op.pick (Operand.tmp 167) (Operand.tmp 171) (Operand.const (Value.bool false)), type := 4, pos := "law.go:133", after := #[{ on := 2, ground := Ground.data }, { on := 6, ground := Ground.data }], guard := none }) (v := .bool true) rfl (by kernel_rfl) (by kernel_rfl) (by kernel_rfl) (fun _ _ _ h => h) (Or.inl ⟨by rfl, fun w' hw' => by (clear hw'; go_simp)⟩) hHeld ?_
      simp only [Act.put, List.setIfInBounds_toArray, List.set_cons_zero, List.set_cons_succ]
      refine wpAnyH_take (i := 8) (oi := { dst := some 173, op := Op.move (Operand.tmp 172), type := 4, pos := "law.go:133", after := #[{ on := 7, ground := Ground.data }, { on := 6, ground := Ground.chain }], guard := none }) (v := .bool true) rfl (by kernel_rfl) (by kernel_rfl) (by kernel_rfl) (fun _ _ _ h => h) (Or.inl ⟨by rfl, fun w' hw' => by (clear hw'; go_simp)⟩) hHeld ?_
      simp only [Act.put, List.setIfInBounds_toArray, List.set_cons_zero, List.set_cons_succ]
      refine wpAnyH_ready (rs := [9]) (by kernel_rfl) (by simp) ?_
      refine (AllReadyH.cons (o := { dst := some 174, op := Op.call { callee := Callee.value (Operand.func 8), args := #[], argTypes := #[] }, type := 4, pos := "law.go:133", after := #[{ on := 8, ground := Ground.chain }, { on := 8, ground := Ground.guard }], guard := some (8, true) }) rfl (fun K hK => ?_) AllReadyH.nil)
      go_simp
      refine (alive_any _).mono ?_
      rintro e' wH ⟨rfl, hb⟩
      have HKH : Hid (Kp No WE wH) := HKG.out.andNone (Kp.below hb)
      clear hb
      go_wp2_with fail
      refine hK.out _ _ (HKH.out) (fun hh => ?_)
      clear hK K hHeld
      have hHeld := hh
      clear hh
      try simp only [Act.put, List.setIfInBounds_toArray, List.set_cons_zero, List.set_cons_succ]
      refine wpAnyH_take (i := 10) (oi := { dst := some 175, op := Op.pick (Operand.tmp 173) (Operand.tmp 174) (Operand.const (Value.bool false)), type := 4, pos := "law.go:133", after := #[{ on := 8, ground := Ground.data }, { on := 9, ground := Ground.data }], guard := none }) (v := .bool true) rfl (by kernel_rfl) (by kernel_rfl) (by kernel_rfl) (fun _ _ _ h => h) (Or.inl ⟨by rfl, fun w' hw' => by (clear hw'; go_simp)⟩) hHeld ?_
      simp only [Act.put, List.setIfInBounds_toArray, List.set_cons_zero, List.set_cons_succ]
      refine wpAnyH_take (i := 11) (oi := { dst := some 10, op := Op.assign (Operand.tmp 175), type := 4, pos := "law.go:133", after := #[{ on := 10, ground := Ground.data }, { on := 9, ground := Ground.chain }, { on := 0, ground := Ground.phase }, { on := 1, ground := Ground.phase }, { on := 2, ground := Ground.phase }, { on := 3, ground := Ground.phase }, { on := 4, ground := Ground.phase }, { on := 5, ground := Ground.phase }, { on := 6, ground := Ground.phase }, { on := 7, ground := Ground.phase }, { on := 8, ground := Ground.phase }, { on := 9, ground := Ground.phase }, { on := 10, ground := Ground.phase }], guard := none }) (v := .bool true) rfl (by kernel_rfl) (by kernel_rfl) (by kernel_rfl) (fun _ _ _ h => h) (Or.inl ⟨by rfl, fun w' hw' => by (clear hw'; go_simp)⟩) hHeld ?_
      simp only [Act.put, List.setIfInBounds_toArray, List.set_cons_zero, List.set_cons_succ]
      refine wpAnyH_done (by kernel_rfl) ?_ _
      clear hHeld
      go_wp2_with fail
      go_ret
      exact ⟨rfl, HBC.out _ (HKE.out.andNone HKH.out)⟩
    · have hf0 : (f == 0) = false := by rcases hf with rfl | rfl <;> rfl
      clear hf
      go_wp2_with fail
      refine (alive_any _).mono ?_
      rintro e w24 ⟨rfl, hb24⟩
      have HBE : Hid (Below w.heap.size w w24) := (((HBC.out _ HK23.out).alloc (HBC.out _ HK23.out).size _).trans (hb24.mono (Nat.le_trans (HBC.out _ HK23.out).size (by simp))))
      clear hb24
      go_wp2_with fail
      go_ret
      exact ⟨rfl, HBE.out⟩
end Go.Proofs.Ytenfahecnkdhaaa.Nd
end

section
/-
  Files and objects that came in.
-/
namespace Go.Proofs.Ytenfahecnkdhaaa.Nd
open Go.RowKit Go.ChangeShapes Go.WideShapes
open Sim (hid Kp No)

theorem mapM_len {α β : Type} {f : α → Option β} : ∀ (L : List α) (ys : List β), L.mapM f = some ys → ys.length = L.length
  | [], ys, h => by
    simp only [List.mapM_nil, pure, Option.some.injEq] at h
    subst h
    rfl
  | a :: L, ys, h => by
    rw [List.mapM_cons] at h
    simp only [bind, Option.bind_eq_some_iff, pure, Option.some.injEq] at h
    obtain ⟨y, hy, zs, hzs, rfl⟩ := h
    simp [mapM_len L zs hzs]
theorem cells_len {w : World} {base n : Nat} {a : Addr} {cs : List Value} (h : w.cells? base a n = some cs) : cs.length = n := by
  unfold World.cells? at h
  split at h
  · simpa using mapM_len _ _ h
  · cases h
theorem struct2 {P : Program} {H : Type} {enc : TypeId × Value → H} {w : World} {base : Nat} {spare : Nat → Bool} {held : Bool} {t : TypeId} {f0 f1 : Field} {fuel : Nat} {cs : List Value} {x : DataW H × List MemPlace} (ht : P.underlying t = some (.struct #[f0, f1])) (h : DataW.trod enc P w base spare held fuel t cs = some x) :
    ∃ y0 y1 n, cs.length = P.cellsOf t ∧ DataW.trod enc P w base spare held n f0.type ((cs.drop f0.offset).take (P.cellsOf f0.type)) = some y0 ∧
      DataW.trod enc P w base spare held n f1.type ((cs.drop f1.offset).take (P.cellsOf f1.type)) = some y1 := by
  obtain ⟨xs, n, _, rfl, hl, hlen, hf⟩ := DataW.trod_struct ht h
  match xs, hlen with
  | [y0, y1], _ => exact ⟨y0, y1, n, hl, by simpa using hf 0 f0 rfl, by simpa using hf 1 f1 rfl⟩

set_option maxRecDepth 100000 in
theorem hashes_of {H : Type} {enc : TypeId × Value → H} {W : World} {a0 : Option Addr} {len cap fuel : Nat} {x : DataW H × List MemPlace}
    (h : DataW.trod enc Try.prog W 0 (fun _ => true) true fuel 22 [.slice a0 len cap] = some x) :
    ∃ d : List (List Int), d.length = len ∧ HV (fun g => g < W.heap.size) W (.slice a0 len cap) d := by
  rcases Go.Deep.open_slice Try.underlying22 h with ⟨hcs, _⟩ | ⟨a, l, c, m, n, D, Pl, hcs, _, hl, hm, hmm, _, hr⟩
  · simp only [List.cons.injEq, Value.slice.injEq, and_true] at hcs
    obtain ⟨rfl, rfl, rfl⟩ := hcs
    exact ⟨[], rfl, HV.nil _ _⟩
  · simp only [List.cons.injEq, Value.slice.injEq, and_true] at hcs
    obtain ⟨rfl, rfl, rfl⟩ := hcs
    simp only [if_true] at hmm
    subst hmm
    have e26 : Try.prog.cellsOf 68 = 32 := by kernel_rfl
    rw [e26] at hr
    have each : ∀ r, r < len → ∃ t : List Int, HOk t ∧ ∀ i, i < 32 → W.cell? ((a.add (r * 32)).add i) = (b8 t)[i]? := by
      intro r hr1
      obtain ⟨cs', h1, h2⟩ := hr r (by omega)
      obtain ⟨hs, g2, hln, hwf⟩ := arr_ints Try.underlying68 Try.underlying5 (by kernel_rfl) (cells_len h1) h2
      exact ⟨hs, ⟨hln, fun y hy => u8_wf (hwf y hy)⟩, fun i hi => by rw [cells_get h1 i hi, g2]; rfl⟩
    obtain ⟨y, hy⟩ := Go.Deep.choose_lt each
    have hlen : ((List.range len).map y).length = len := by simp
    have hget : ∀ j t, ((List.range len).map y)[j]? = some t → j < len ∧ t = y j := fun j t hj => by
      have hjl : j < len := by
        have := (List.getElem?_eq_some_iff.1 hj).1
        simpa using this
      simp only [List.getElem?_map, List.getElem?_range hjl, Option.map_some, Option.some.injEq] at hj
      exact ⟨hjl, hj.symm⟩
    refine ⟨(List.range len).map y, hlen, some a, _, by rw [hlen], by rw [hlen]; exact hl, hm, by simp, fun e he => ?_, fun hne => ?_⟩
    · obtain ⟨j, hj⟩ := List.mem_iff_getElem?.1 he
      obtain ⟨hjl, rfl⟩ := hget j e hj
      exact (hy j hjl).1
    · have hpos : 0 < len := by
        have := List.length_pos_iff.2 hne
        omega
      have h00 := (hy 0 hpos).2 0 (by omega)
      obtain ⟨v0, hv0⟩ : ∃ v, (b8 (y 0))[0]? = some v := ⟨_, List.getElem?_eq_getElem (by rw [b8_length, (hy 0 hpos).1.1]; omega)⟩
      rw [hv0] at h00
      have ha : a.spot = none := by
        rw [Nat.zero_mul] at h00
        have e : (a.add 0) = a := rfl
        rw [e] at h00
        exact spot_none h00
      obtain ⟨b, o, s⟩ := a
      simp only at ha
      subst ha
      have hb : b < W.heap.size := by
        rw [addr_plus, addr_plus] at h00
        exact World.block_lt_of_cell? W _ h00
      refine ⟨b, o, rfl, hb, hb, fun j t hj => ?_⟩
      obtain ⟨hjl, rfl⟩ := hget j t hj
      refine ⟨(hy j hjl).1, fun i v hv => ?_⟩
      have hi : i < 32 := by
        have := (List.getElem?_eq_some_iff.1 hv).1
        rw [b8_length, (hy j hjl).1.1] at this
        exact this
      have h := (hy j hjl).2 i hi
      rw [addr_plus, addr_plus, hv] at h
      exact h

set_option maxRecDepth 100000 in
/-- A file that came in. -/
theorem open_file {H : Type} {enc : TypeId × Value → H} {W : World} {r : Reach} {base : Nat} {v : Value} {dd : DataW H} {p : List MemPlace} (hv : Value.okWide Try.prog W r base 24 v) (h : DataW.Trod enc Try.prog W 0 (fun _ => true) true 24 v dd p) :
    ∃ (s : Int) (a : Option Addr) (n c : Nat) (d : List (List Int)), v = .agg #[.int .i64 s, .slice a n c] ∧ d.length = n ∧ HV (fun g => g < W.heap.size) W (.slice a n c) d := by
  obtain ⟨cs, rfl, hsz⟩ := okWide_struct Try.underlying24 hv
  obtain ⟨fuel, hf⟩ := h
  have hf' : DataW.trod enc Try.prog W 0 (fun _ => true) true fuel 24 cs.toList = some (dd, p) := hf
  obtain ⟨_, y1, m, hl, h0, h1⟩ := struct2 Try.underlying24 hf'
  have e75 : Try.prog.cellsOf 24 = 2 := by kernel_rfl
  have e3 : Try.prog.cellsOf 3 = 1 := by kernel_rfl
  have e22 : Try.prog.cellsOf 22 = 1 := by kernel_rfl
  rw [e75] at hl
  simp only [e3, e22] at h0 h1
  obtain ⟨s, g0, _, _⟩ := DataW.trod_int Try.underlying3 h0
  obtain ⟨u0, u1, hcs⟩ : ∃ u0 u1, cs.toList = [u0, u1] := by
    match hk : cs.toList, hl with
    | [u0, u1], _ => exact ⟨u0, u1, rfl⟩
  rw [hcs] at g0 h1
  simp at g0
  have h1' : DataW.trod enc Try.prog W 0 (fun _ => true) true m 22 [u1] = some y1 := by simpa using h1
  have hsl : ∃ a n c, u1 = .slice a n c := by
    rcases Go.Deep.open_slice Try.underlying22 h1' with ⟨h, _⟩ | ⟨a, l, c, _, _, _, _, h, _⟩
    · simp at h
      exact ⟨_, _, _, h⟩
    · simp at h
      exact ⟨_, _, _, h⟩
  obtain ⟨a, n, c, rfl⟩ := hsl
  obtain ⟨d, hd, hh⟩ := hashes_of h1'
  have e : cs = #[u0, .slice a n c] := by
    apply Array.toList_inj.1
    rw [hcs]
  exact ⟨s, a, n, c, d, by rw [e, g0], hd, hh⟩

set_option maxRecDepth 100000 in
/-- An object that came in. -/
theorem open_obj {H : Type} {enc : TypeId × Value → H} {W : World} {r : Reach} {base : Nat} {v : Value} {dd : DataW H} {p : List MemPlace} (hv : Value.okWide Try.prog W r base 29 v) (h : DataW.Trod enc Try.prog W 0 (fun _ => true) true 29 v dd p) :
    ∃ (s : Int) (a : Option Addr) (n c : Nat), v = .agg #[.int .i64 s, .slice a n c] ∧ (n ≤ 140737488355328 → ∃ bs : List Int, bs.length = n ∧ Tlv.BySl 0 W.heap.size W (.slice a n c) bs) := by
  obtain ⟨cs, rfl, hsz⟩ := okWide_struct Try.underlying29 hv
  obtain ⟨fuel, hf⟩ := h
  have hf' : DataW.trod enc Try.prog W 0 (fun _ => true) true fuel 29 cs.toList = some (dd, p) := hf
  obtain ⟨_, y1, m, hl, h0, h1⟩ := struct2 Try.underlying29 hf'
  have e75 : Try.prog.cellsOf 29 = 2 := by kernel_rfl
  have e3 : Try.prog.cellsOf 3 = 1 := by kernel_rfl
  have e22 : Try.prog.cellsOf 26 = 1 := by kernel_rfl
  rw [e75] at hl
  simp only [e3, e22] at h0 h1
  obtain ⟨s, g0, _, _⟩ := DataW.trod_int Try.underlying3 h0
  obtain ⟨u0, u1, hcs⟩ : ∃ u0 u1, cs.toList = [u0, u1] := by
    match hk : cs.toList, hl with
    | [u0, u1], _ => exact ⟨u0, u1, rfl⟩
  have e : cs = #[u0, u1] := by
    apply Array.toList_inj.1
    rw [hcs]
  rw [hcs] at g0 h1
  simp at g0
  have h1' : DataW.trod enc Try.prog W 0 (fun _ => true) true m 26 [u1] = some y1 := by simpa using h1
  rcases open_ints Try.underlying26 Try.underlying5 (by kernel_rfl) h1' with ⟨hc, _⟩ | ⟨x, l, c, zs, hc, _, h2, h3, h4, _, h5, h6⟩
  · simp at hc
    refine ⟨s, none, 0, 0, by rw [e, g0, hc], fun _ => ⟨[], rfl, Tlv.BySl.none _ _ _⟩⟩
  · simp at hc
    refine ⟨s, some x, l, c, by rw [e, g0, hc], fun hll => ?_⟩
    have hzl : zs.length = c := by simpa using h4
    have hlen : (zs.take l).length = l := List.length_take_of_le (by omega)
    refine ⟨zs.take l, hlen, _, c, by rw [hlen], by rw [hlen]; exact h2, h3, by simp, by rw [hlen]; omega, fun y hy => u8_wf (h6 y (List.mem_of_mem_take hy)), fun hne => ?_⟩
    have hpos : 0 < l := by have := List.length_pos_iff.2 hne; omega
    have c0 := h5 0 (by omega)
    have hx := spot_none c0
    obtain ⟨b, o, sp⟩ := x
    simp only at hx
    subst hx
    refine ⟨b, o, rfl, Nat.zero_le _, World.block_lt_of_cell? W _ c0, fun i hi => ?_⟩
    have := h5 i (by omega)
    rw [addr_plus] at this
    rw [this]
    rw [hlen] at hi
    simp [hi]
end Go.Proofs.Ytenfahecnkdhaaa.Nd
end
