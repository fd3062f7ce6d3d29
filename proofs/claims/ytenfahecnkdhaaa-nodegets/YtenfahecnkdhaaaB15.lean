/- Of the proof: the texts NdGetsW, NdOpenF, one behind the other. -/
import Derived.Test.YtenfahecnkdhaaaB14
import Derived.Test.YtenfahecnkdhaaaB3
import Derived.Test.YtenfahecnkdhaaaB4
section
/-
  The walk of NodeGets.
-/
namespace Go.Proofs.Ytenfahecnkdhaaa.Nd
open Go.RowKit
open Tlv (Tr Agree)
open Sim (hid Kp No)
set_option linter.unusedSimpArgs false

/-- What a Body holds: a file, with its fault. -/
def GFD (K : Int) (bs : List Int) (s : Int) (d : List (List Int)) (f : Int) : Prop :=
  (K ≠ 2 ∧ s = 0 ∧ d = [] ∧ f = 1) ∨ (K = 2 ∧ gfile bs = none ∧ s = 0 ∧ d = [] ∧ f = 3) ∨ (K = 2 ∧ gfile bs = some (s, d) ∧ f = 0)
theorem gfa_shape {u w : World} {K : Int} {bs : List Int} {e : Ending} (h : GFA u w K bs e) : ∃ s a n c f d, e = .returned (.tuple #[.agg #[.int .i64 s, .slice a n c], .int .i64 f]) ∧ HV (fun _ => True) w (.slice a n c) d ∧ GFD K bs s d f := by
  rcases h with ⟨hk, rfl⟩ | ⟨hk, hn, rfl⟩ | ⟨s, d, a, l, c, hk, hy, rfl, hv⟩
  · exact ⟨0, none, 0, 0, 1, [], rfl, HV.nil _ _, .inl ⟨hk, rfl, rfl, rfl⟩⟩
  · exact ⟨0, none, 0, 0, 3, [], rfl, HV.nil _ _, .inr (.inl ⟨hk, hn, rfl, rfl, rfl⟩)⟩
  · exact ⟨s, a, l, c, 0, d, rfl, hv.imp (fun _ _ => trivial), .inr (.inr ⟨hk, hy, rfl⟩)⟩
theorem gfd_one {K : Int} {bs : List Int} {s s' f f' : Int} {d d' : List (List Int)} (h : GFD K bs s d f) (h' : GFD K bs s' d' f') : s' = s ∧ d' = d ∧ f' = f := by
  rcases h with ⟨h1, rfl, rfl, rfl⟩ | ⟨h1, h2, rfl, rfl, rfl⟩ | ⟨h1, h2, rfl⟩ <;> rcases h' with ⟨q1, rfl, rfl, rfl⟩ | ⟨q1, q2, rfl, rfl, rfl⟩ | ⟨q1, q2, rfl⟩
  · exact ⟨rfl, rfl, rfl⟩
  · exact absurd q1 h1
  · exact absurd q1 h1
  · exact absurd h1 q1
  · exact ⟨rfl, rfl, rfl⟩
  · rw [h2] at q2; cases q2
  · exact absurd h1 q1
  · rw [h2] at q2; cases q2
  · rw [h2] at q2
    simp only [Option.some.injEq, Prod.mk.injEq] at q2
    exact ⟨q2.1.symm, q2.2.symm, rfl⟩
/-- What a Body holds: a directory, with its fault. -/
def GDD (K : Int) (bs : List Int) (d : List Ent) (f : Int) : Prop :=
  (K ≠ 3 ∧ d = [] ∧ f = 1) ∨ (K = 3 ∧ (∀ d', ¬ IsDir bs d') ∧ d = [] ∧ f = 3) ∨ (K = 3 ∧ IsDir bs d ∧ f = 0)
theorem gda_shape {u w : World} {K : Int} {bs : List Int} {e : Ending} (h : GDA u w K bs e) : ∃ a n c f d, e = .returned (.tuple #[.slice a n c, .int .i64 f]) ∧ EV (fun _ => True) w (.slice a n c) d ∧ GDD K bs d f ∧ d.length ≤ 60 := by
  rcases h with ⟨hk, rfl⟩ | ⟨hk, hn, rfl⟩ | ⟨d, a, l, c, hk, hy, rfl, hv⟩
  · exact ⟨none, 0, 0, 1, [], rfl, EV.nil _ _, .inl ⟨hk, rfl, rfl⟩, by simp⟩
  · exact ⟨none, 0, 0, 3, [], rfl, EV.nil _ _, .inr (.inl ⟨hk, hn, rfl, rfl⟩), by simp⟩
  · refine ⟨a, l, c, 0, d, rfl, hv.mono (fun _ _ => trivial), .inr (.inr ⟨hk, hy, rfl⟩), ?_⟩
    obtain ⟨t, _, hg, rfl⟩ := hy
    exact hg.2.1.1
theorem gdd_one {K : Int} {bs : List Int} {f f' : Int} {d d' : List Ent} (h : GDD K bs d f) (h' : GDD K bs d' f') : d' = d ∧ f' = f := by
  rcases h with ⟨h1, rfl, rfl⟩ | ⟨h1, h2, rfl, rfl⟩ | ⟨h1, h2, rfl⟩ <;> rcases h' with ⟨q1, rfl, rfl⟩ | ⟨q1, q2, rfl, rfl⟩ | ⟨q1, q2, rfl⟩
  · exact ⟨rfl, rfl⟩
  · exact absurd q1 h1
  · exact absurd q1 h1
  · exact absurd h1 q1
  · exact ⟨rfl, rfl⟩
  · exact absurd q2 (h2 _)
  · exact absurd h1 q1
  · exact absurd h2 (q2 _)
  · exact ⟨isDir_one q2 h2, rfl⟩
theorem linkP_one {K : Int} {bs : List Int} {d d' : List (List Int)} {f f' : Int} (h : LinkP K bs d f) (h' : LinkP K bs d' f') : d' = d ∧ f' = f := by
  rcases h with ⟨rfl, rfl, rfl⟩ | ⟨rfl, h⟩ | ⟨rfl, h⟩ | ⟨h1, h2, h3, rfl, rfl⟩
  · rcases h' with ⟨_, rfl, rfl⟩ | ⟨q, _⟩ | ⟨q, _⟩ | ⟨q, _⟩
    · exact ⟨rfl, rfl⟩
    · cases q
    · cases q
    · exact absurd rfl q
  · rcases h' with ⟨q, _⟩ | ⟨_, h'⟩ | ⟨q, _⟩ | ⟨_, q, _⟩
    · cases q
    · rcases h with ⟨h1, rfl, rfl⟩ | ⟨s, h1, rfl⟩ <;> rcases h' with ⟨q1, rfl, rfl⟩ | ⟨s', q1, rfl⟩
      · exact ⟨rfl, rfl⟩
      · rw [h1] at q1; cases q1
      · rw [h1] at q1; cases q1
      · rw [h1] at q1
        simp only [Option.some.injEq, Prod.mk.injEq] at q1
        exact ⟨q1.2.symm, rfl⟩
    · cases q
    · exact absurd rfl q
  · rcases h' with ⟨q, _⟩ | ⟨q, _⟩ | ⟨_, h'⟩ | ⟨_, _, q, _⟩
    · cases q
    · cases q
    · rcases h with ⟨h1, rfl, rfl⟩ | ⟨s, h1, rfl, rfl⟩ <;> rcases h' with ⟨q1, rfl, rfl⟩ | ⟨s', q1, rfl, rfl⟩
      · exact ⟨rfl, rfl⟩
      · exact absurd q1 (h1 _)
      · exact absurd h1 (q1 _)
      · rw [isDir_one q1 h1]
        exact ⟨rfl, rfl⟩
    · exact absurd rfl q
  · rcases h' with ⟨q, _⟩ | ⟨q, _⟩ | ⟨q, _⟩ | ⟨_, _, _, rfl, rfl⟩
    · exact absurd q h1
    · exact absurd q h2
    · exact absurd q h3
    · exact ⟨rfl, rfl⟩
theorem gfile_len {bs : List Int} {s : Int} {d : List (List Int)} (h : gfile bs = some (s, d)) : d.length ≤ 2000 := by
  unfold gfile at h
  split at h
  · cases h
  · split at h
    · split at h
      · rename_i hc
        simp only [Option.some.injEq, Prod.mk.injEq] at h
        obtain ⟨e1, e2⟩ := h
        rw [e1, e2] at hc
        simp only [Bool.and_eq_true] at hc
        have hf := hc.1
        unfold fileB at hf
        simp only [decide_eq_true_eq] at hf
        omega
      · cases h
    · cases h
theorem linkP_len {K : Int} {bs : List Int} {d : List (List Int)} {f : Int} (h : LinkP K bs d f) : d.length ≤ 2000 := by
  rcases h with ⟨_, rfl, _⟩ | ⟨_, h⟩ | ⟨_, h⟩ | ⟨_, _, _, rfl, _⟩
  · simp
  · rcases h with ⟨_, rfl, _⟩ | ⟨s, h, _⟩
    · simp
    · exact gfile_len h
  · rcases h with ⟨_, rfl, _⟩ | ⟨d', h, rfl, _⟩
    · simp
    · obtain ⟨t, _, hg, rfl⟩ := h
      rw [List.length_map]
      exact Nat.le_trans hg.2.1.1 (by omega)
  · simp
theorem file_box {w W : World} {s : Int} {a : Option Addr} {n c : Nat} {d : List (List Int)} {T : TypeId} {P : Nat → Prop} (hW : w.alloc (.cells #[.int .i64 s, .slice a n c] T) = W) (hy : HV P w (.slice a n c) d) :
    ∀ V, Kp No W V → V.cell? ⟨w.heap.size, 0, none⟩ = some (.int .i64 s) ∧ V.cell? ⟨w.heap.size, 1, none⟩ = some (.slice a n c) ∧ HV P V (.slice a n c) d := fun V hV => by
  subst hW
  have hs := hV.size
  simp at hs
  have e : ∀ o, V.cell? ⟨w.heap.size, o, none⟩ = (w.alloc (.cells #[.int .i64 s, .slice a n c] T)).cell? ⟨w.heap.size, o, none⟩ := fun o => hV.cell (p := ⟨w.heap.size, o, none⟩) (by simp) (fun x => x)
  rw [e, e]
  exact ⟨by simp, by simp, hy.kept (((Kp.refl No w).alloc _).andNone hV)⟩

set_option maxHeartbeats 4000000 in
set_option maxRecDepth 100000 in
theorem ngets_dark (w : World) (K : Int) (ab : Option Addr) (nb cb : Nat)
    (h1 : ∀ V, Kp No w V → Calls Try.prog 7 #[.agg #[.int .i64 0, .slice none 0 0], .slice none 0 0, .agg #[.int .i64 K, .slice ab nb cb]] V fun e w' => e = .returned (.bool false) ∧ Kp No V w') :
    Calls Try.prog 4 #[.agg #[.int .i64 K, .slice ab nb cb]] w fun e w' => e = .returned (.bool true) ∧ Below w.heap.size w w' := by
  have H1 := hid h1
  clear h1
  have HB : Hid (Kp No w (w.alloc (.cells #[.int .i64 K, .slice ab nb cb] 29))) := (Kp.refl No w).alloc _
  go_enter Try.func4, Try.ntmps4
  go_wp2_with fail
  refine (H1.out _ HB.out).mono ?_
  rintro e w1 ⟨rfl, k1⟩
  have HK1 := hid (HB.out.andNone k1)
  clear k1
  go_wp2_with fail
  refine (alive_any _).mono ?_
  rintro e w2 ⟨rfl, hb2⟩
  have HBB := hid (HK1.out.toBelow'.trans (hb2.mono HK1.out.size))
  clear hb2
  go_wp2_with fail
  go_ret
  exact ⟨rfl, HBB.out⟩

set_option maxHeartbeats 16000000 in
set_option maxRecDepth 100000 in
theorem ngets_main (w : World) (K : Int) (vo : Value) (bo : List Int) (ho : Tlv.BySl 0 w.heap.size w vo bo) (hq : lightN 0 [] bo.length = true) :
    Calls Try.prog 4 #[.agg #[.int .i64 K, vo]] w fun e w' => e = .returned (.bool true) ∧ Below w.heap.size w w' := by
  have hs := lightN_short hq
  obtain ⟨ab, cb, rfl, hxx⟩ := id ho
  clear hxx
  have HL1 := hid (fun (V : World) (_ : Kp No w V) => light_any V (.slice none 0 0) [] (fun _ => True) 0 K none ab 0 0 bo.length cb (EV.nil _ _))
  rw [hq] at HL1
  have hby : ∀ {V : World}, Kp No w V → Tlv.BySl 0 V.heap.size V (.slice ab bo.length cb) bo := fun hV => ho.agree (Agree.below hV.toBelow') (Nat.le_refl _) hV.size
  have HGF := hid (fun (V : World) (hV : Kp No w V) => getFile_any V K _ bo (hby hV))
  have HRF := hid (fun (V : World) (hV : Kp No w V) => rGetFile_any V K _ bo (hby hV) (by omega))
  have HGD := hid (fun (V : World) (hV : Kp No w V) => getDir_any V K _ bo (hby hV))
  have HRD := hid (fun (V : World) (hV : Kp No w V) => rGetDir_any V K _ bo (hby hV))
  have HLK := hid (fun (V : World) (hV : Kp No w V) => links_any V K _ bo (hby hV))
  have HRL := hid (fun (V : World) (hV : Kp No w V) => rLinks_any V K _ bo (hby hV) (by omega))
  clear ho hby hq hs
  obtain ⟨nb, hnb⟩ : ∃ n, bo.length = n := ⟨_, rfl⟩
  rw [hnb] at HL1 HGF HRF HGD HRD HLK HRL ⊢
  clear hnb
  obtain ⟨W0, hW0⟩ : ∃ W, w.alloc (.cells #[.int .i64 K, .slice ab nb cb] 29) = W := ⟨_, rfl⟩
  have HB : Hid (Kp No w W0) := by rw [Hid, ← hW0]; exact (Kp.refl No w).alloc _
  have HX : Hid (∀ V, Kp No W0 V → V.cell? ⟨w.heap.size, 0, none⟩ = some (.int .i64 K) ∧ V.cell? ⟨w.heap.size, 1, none⟩ = some (.slice ab nb cb)) := fun V hV => by
    have hz : W0.heap.size = w.heap.size + 1 := by rw [← hW0]; simp
    have e : ∀ o, V.cell? ⟨w.heap.size, o, none⟩ = W0.cell? ⟨w.heap.size, o, none⟩ := fun o => hV.cell (p := ⟨w.heap.size, o, none⟩) (by show w.heap.size < _; omega) (fun x => x)
    rw [e, e, ← hW0]
    simp
  obtain ⟨x0, x1⟩ := HX.out W0 (Kp.refl _ _)
  go_enter Try.func4, Try.ntmps4
  go_wp2_with fail
  refine (HL1.out _ HB.out).mono ?_
  rintro e w1 ⟨rfl, k1⟩
  have HK1 := hid k1
  clear x0 x1 hW0 k1 HL1
  obtain ⟨x0, x1⟩ := HX.out w1 HK1.out
  go_wp2_with fail
  refine (ownObj_any w1 K ab nb cb).mono ?_
  rintro e w2 ⟨rfl, k2⟩
  have HK2 := hid (HK1.out.andNone k2)
  clear x0 x1 k2
  go_wp2_with fail
  refine (HGF.out _ (HB.out.andNone HK2.out)).mono ?_
  rintro e w3 ⟨h3, hb3⟩
  obtain ⟨s1, a1, n1, c1, f1, d1, rfl, hv1, ho1⟩ := gfa_shape h3
  have HO1 := hid ho1
  obtain ⟨W3, hW3⟩ : ∃ W, w3.alloc (.cells #[.int .i64 s1, .slice a1 n1 c1] 35) = W := ⟨_, rfl⟩
  have HK3 : Hid (Kp No W0 W3) := by rw [Hid, ← hW3]; exact (HK2.out.andNone (Kp.below hb3)).alloc _
  have HA1 := hid (file_box hW3 hv1)
  clear h3 hb3 hv1 ho1 HGF
  obtain ⟨x0, x1⟩ := HX.out W3 HK3.out
  go_wp2_with fail
  refine (HRF.out _ (HB.out.andNone HK3.out)).mono ?_
  rintro e w4 ⟨h4, hb4⟩
  obtain ⟨s2, a2, n2, c2, f2, d2, rfl, hv2, ho2⟩ := gfa_shape h4
  obtain ⟨e1, e2, e3⟩ := gfd_one HO1.out ho2
  subst e1
  subst e2
  subst e3
  obtain ⟨W4, hW4⟩ : ∃ W, w4.alloc (.cells #[.int .i64 s2, .slice a2 n2 c2] 24) = W := ⟨_, rfl⟩
  have HK34 : Hid (Kp No W3 W4) := by rw [Hid, ← hW4]; exact (Kp.below hb4 : Kp No W3 w4).alloc _
  have HK4 := hid (HK3.out.andNone HK34.out)
  have HA2 := hid (file_box hW4 hv2)
  clear h4 hb4 hv2 ho2 HRF hW3 x0 x1
  obtain ⟨x0, x1⟩ := HX.out W4 HK4.out
  go_wp2_with fail
  refine (ownObj_any W4 K ab nb cb).mono ?_
  rintro e w5 ⟨rfl, k5⟩
  have HK45 := hid k5
  have HK5 := hid (HK4.out.andNone k5)
  clear x0 x1 k5 hW4
  go_wp2_with fail
  refine (HGD.out _ (HB.out.andNone HK5.out)).mono ?_
  rintro e w6 ⟨h6, hb6⟩
  obtain ⟨a3, n3, c3, f3, d3, rfl, hv3, ho3, hl3⟩ := gda_shape h6
  have HO3 := hid ho3
  have HV3 := hid hv3
  have HL3 := hid hl3
  have HK46 : Hid (Kp No W4 w6) := HK45.out.andNone (Kp.below hb6)
  have HK6 := hid (HK4.out.andNone HK46.out)
  clear h6 hb6 hv3 ho3 hl3 HGD
  obtain ⟨x0, x1⟩ := HX.out w6 HK6.out
  go_wp2_with fail
  refine (HRD.out _ (HB.out.andNone HK6.out)).mono ?_
  rintro e w7 ⟨h7, hb7⟩
  obtain ⟨a4, n4, c4, f4, d4, rfl, hv4, ho4, hl4⟩ := gda_shape h7
  obtain ⟨e1, e2⟩ := gdd_one HO3.out ho4
  subst e1
  subst e2
  have HV4 := hid hv4
  have HK67 : Hid (Kp No w6 w7) := Kp.below hb7
  have HK7 := hid (HK6.out.andNone HK67.out)
  clear h7 hb7 hv4 ho4 hl4 HRD x0 x1
  obtain ⟨x0, x1⟩ := HX.out w7 HK7.out
  go_wp2_with fail
  refine (ownObj_any w7 K ab nb cb).mono ?_
  rintro e w8 ⟨rfl, k8⟩
  have HK78 := hid k8
  have HK8 := hid (HK7.out.andNone k8)
  clear x0 x1 k8
  go_wp2_with fail
  refine (HLK.out _ (HB.out.andNone HK8.out)).mono ?_
  rintro e w9 ⟨h9, hb9⟩
  obtain ⟨a5, n5, c5, d5, f5, rfl, hv5, ho5⟩ := h9
  have HO5 := hid ho5
  have HV5 := hid hv5
  have HK79 : Hid (Kp No w7 w9) := HK78.out.andNone (Kp.below hb9)
  have HK9 := hid (HK7.out.andNone HK79.out)
  clear hb9 hv5 ho5 HLK
  obtain ⟨x0, x1⟩ := HX.out w9 HK9.out
  go_wp2_with fail
  refine (HRL.out _ (HB.out.andNone HK9.out)).mono ?_
  rintro e w10 ⟨h10, hb10⟩
  obtain ⟨a6, n6, c6, d6, f6, rfl, hv6, ho6⟩ := h10
  obtain ⟨e1, e2⟩ := linkP_one HO5.out ho6
  subst e1
  subst e2
  have HV6 := hid hv6
  have HK910 : Hid (Kp No w9 w10) := Kp.below hb10
  have HK10 := hid (HK9.out.andNone HK910.out)
  clear hb10 hv6 ho6 HRL x0 x1
  have HK4E : Hid (Kp No W4 w10) := HK46.out.andNone (HK67.out.andNone (HK79.out.andNone HK910.out))
  have HK6E : Hid (Kp No w6 w10) := HK67.out.andNone (HK79.out.andNone HK910.out)
  have HK7E : Hid (Kp No w7 w10) := HK79.out.andNone HK910.out
  have HZ3 : Hid (∀ V, Kp No w10 V → V.cell? ⟨w3.heap.size, 0, none⟩ = some (.int .i64 s2) ∧ V.cell? ⟨w3.heap.size, 1, none⟩ = some (.slice a1 n1 c1) ∧ HV (fun _ => True) V (.slice a1 n1 c1) d2) := fun V hV => HA1.out V (HK34.out.andNone (HK4E.out.andNone hV))
  have HZ4 : Hid (∀ V, Kp No w10 V → V.cell? ⟨w4.heap.size, 0, none⟩ = some (.int .i64 s2) ∧ V.cell? ⟨w4.heap.size, 1, none⟩ = some (.slice a2 n2 c2) ∧ HV (fun _ => True) V (.slice a2 n2 c2) d2) := fun V hV => HA2.out V (HK4E.out.andNone hV)
  have hdl : d2.length ≤ 1000000 := by
    rcases HO1.out with ⟨_, _, rfl, _⟩ | ⟨_, _, _, rfl, _⟩ | ⟨_, h, _⟩
    · simp
    · simp
    · exact Nat.le_trans (gfile_len h) (by omega)
  have HSF := hid (fun (V : World) (hV : Kp No w10 V) => sameFile_any V s2 s2 _ _ d2 d2 _ _ (HZ3.out V hV).2.2 (HZ4.out V hV).2.2 hdl)
  rw [show decide (s2 = s2 ∧ d2 = d2) = true by simp] at HSF
  have HBK := hid (fun (V : World) (hV : Kp No w10 V) => back_any V _ d4 _ (HV3.out.kept (HK6E.out.andNone hV)) (by have := HL3.out; omega))
  have HSD := hid (fun (V : World) (r : Value) (Q : Nat → Prop) (hV : Kp No w10 V) (hr : EV Q V r d4) => same_any V r _ d4 d4 _ _ hr (HV4.out.kept (HK7E.out.andNone hV)) (by have := HL3.out; omega))
  rw [decide_eq_true rfl] at HSD
  have HHS := hid (fun (V : World) (hV : Kp No w10 V) => hashes_any V _ _ d6 d6 _ _ (HV5.out.kept (HK910.out.andNone hV)) (HV6.out.kept hV) (Nat.le_trans (linkP_len HO5.out) (by omega)))
  rw [decide_eq_true rfl] at HHS
  have HOKD := hid HV3.out.ok
  clear hdl
  go_wp2_with fail
  refine wp_region_held_drew (S := fun V => Kp No w10 V) (by kernel_rfl) ((Kp.refl _ _).drew) (fun hHeld => ?_)
  refine wpAnyH_take (i := 0) (oi := { dst := some 53, op := Op.load 35 (Operand.tmp 3), type := 35, pos := "law.go:85", after := #[], guard := none }) (v := .agg #[.int .i64 s2, .slice a1 n1 c1]) rfl (by kernel_rfl) (by kernel_rfl) (by kernel_rfl) (fun _ _ _ h => h) (Or.inl ⟨by rfl, fun w' hw' => by (obtain ⟨q0, q1, q2⟩ := HZ3.out _ hw'; clear q2; clear hw'; go_simp)⟩) hHeld ?_
  simp only [Act.put, List.setIfInBounds_toArray, List.set_cons_zero, List.set_cons_succ]
  refine wpAnyH_take (i := 2) (oi := { dst := some 55, op := Op.load 24 (Operand.tmp 5), type := 24, pos := "law.go:85", after := #[], guard := none }) (v := .agg #[.int .i64 s2, .slice a2 n2 c2]) rfl (by kernel_rfl) (by kernel_rfl) (by kernel_rfl) (fun _ _ _ h => h) (Or.inl ⟨by rfl, fun w' hw' => by (obtain ⟨q0, q1, q2⟩ := HZ4.out _ hw'; clear q2; clear hw'; go_simp)⟩) hHeld ?_
  simp only [Act.put, List.setIfInBounds_toArray, List.set_cons_zero, List.set_cons_succ]
  refine wpAnyH_ready (rs := [1]) (by kernel_rfl) (by simp) ?_
  refine (AllReadyH.cons (o := { dst := some 54, op := Op.call { callee := Callee.value (Operand.func 26), args := #[Operand.tmp 53], argTypes := #[35] }, type := 24, pos := "law.go:85", after := #[{ on := 0, ground := Ground.data }], guard := none }) rfl (fun K hK => ?_) AllReadyH.nil)
  go_simp
  refine (lback_any _ s2 a1 n1 c1).mono ?_
  rintro e' v1 ⟨rfl, hb⟩
  have HQ1 : Hid (Kp No w10 v1) := ((Kp.refl No w10).drew).andNone hb
  clear hb
  go_wp2_with fail
  refine hK.out _ _ (HQ1.out) (fun hh => ?_)
  clear hK K hHeld
  have hHeld := hh
  clear hh
  try simp only [Act.put, List.setIfInBounds_toArray, List.set_cons_zero, List.set_cons_succ]
  refine wpAnyH_ready (rs := [3]) (by kernel_rfl) (by simp) ?_
  refine (AllReadyH.cons (o := { dst := some 56, op := Op.call { callee := Callee.value (Operand.func 25), args := #[Operand.tmp 54, Operand.tmp 55], argTypes := #[24, 24] }, type := 4, pos := "law.go:85", after := #[{ on := 1, ground := Ground.data }, { on := 2, ground := Ground.data }, { on := 1, ground := Ground.chain }], guard := none }) rfl (fun K hK => ?_) AllReadyH.nil)
  go_simp
  refine (HSF.out _ HQ1.out).mono ?_
  rintro e' v2 ⟨rfl, hb⟩
  have HQ2 : Hid (Kp No w10 v2) := (HQ1.out).andNone hb
  clear hb
  go_wp2_with fail
  refine hK.out _ _ (HQ2.out) (fun hh => ?_)
  clear hK K hHeld
  have hHeld := hh
  clear hh
  try simp only [Act.put, List.setIfInBounds_toArray, List.set_cons_zero, List.set_cons_succ]
  refine wpAnyH_take (i := 4) (oi := { dst := some 57, op := Op.move (Operand.tmp 56), type := 4, pos := "law.go:85", after := #[{ on := 3, ground := Ground.data }, { on := 3, ground := Ground.chain }], guard := none }) (v := .bool true) rfl (by kernel_rfl) (by kernel_rfl) (by kernel_rfl) (fun _ _ _ h => h) (Or.inl ⟨by rfl, fun w' hw' => by (clear hw'; go_simp)⟩) hHeld ?_
  simp only [Act.put, List.setIfInBounds_toArray, List.set_cons_zero, List.set_cons_succ]
  refine wpAnyH_take (i := 5) (oi := { dst := some 58, op := Op.move (Operand.tmp 4), type := 32, pos := "law.go:85", after := #[{ on := 4, ground := Ground.guard }], guard := some (4, true) }) (v := .int .i64 f2) rfl (by kernel_rfl) (by kernel_rfl) (by kernel_rfl) (fun _ _ _ h => h) (Or.inl ⟨by rfl, fun w' hw' => by (clear hw'; go_simp)⟩) hHeld ?_
  simp only [Act.put, List.setIfInBounds_toArray, List.set_cons_zero, List.set_cons_succ]
  refine wpAnyH_take (i := 6) (oi := { dst := some 59, op := Op.move (Operand.tmp 6), type := 32, pos := "law.go:85", after := #[{ on := 4, ground := Ground.guard }], guard := some (4, true) }) (v := .int .i64 f2) rfl (by kernel_rfl) (by kernel_rfl) (by kernel_rfl) (fun _ _ _ h => h) (Or.inl ⟨by rfl, fun w' hw' => by (clear hw'; go_simp)⟩) hHeld ?_
  simp only [Act.put, List.setIfInBounds_toArray, List.set_cons_zero, List.set_cons_succ]
  refine wpAnyH_take (i := 7) (oi := { dst := some 60, op := Op.binOp BinOp.eql 32 (Operand.tmp 58) (Operand.tmp 59) 32, type := 4, pos := "law.go:85", after := #[{ on := 5, ground := Ground.data }, { on := 6, ground := Ground.data }, { on := 4, ground := Ground.guard }], guard := some (4, true) }) (v := .bool true) rfl (by kernel_rfl) (by kernel_rfl) (by kernel_rfl) (fun _ _ _ h => h) (Or.inl ⟨by rfl, fun w' hw' => by (clear hw'; go_simp)⟩) hHeld ?_
  simp only [Act.put, List.setIfInBounds_toArray, List.set_cons_zero, List.set_cons_succ]
  refine wpAnyH_take (i := 8) (oi := { dst := some 61, op := Op.pick (Operand.tmp 57) (Operand.tmp 60) (Operand.const (Value.bool false)), type := 4, pos := "law.go:85", after := #[{ on := 4, ground := Ground.data }, { on := 7, ground := Ground.data }], guard := none }) (v := .bool true) rfl (by kernel_rfl) (by kernel_rfl) (by kernel_rfl) (fun _ _ _ h => h) (Or.inl ⟨by rfl, fun w' hw' => by (clear hw'; go_simp)⟩) hHeld ?_
  simp only [Act.put, List.setIfInBounds_toArray, List.set_cons_zero, List.set_cons_succ]
  refine wpAnyH_take (i := 9) (oi := { dst := some 62, op := Op.move (Operand.tmp 61), type := 4, pos := "law.go:85", after := #[{ on := 8, ground := Ground.data }, { on := 4, ground := Ground.chain }], guard := none }) (v := .bool true) rfl (by kernel_rfl) (by kernel_rfl) (by kernel_rfl) (fun _ _ _ h => h) (Or.inl ⟨by rfl, fun w' hw' => by (clear hw'; go_simp)⟩) hHeld ?_
  simp only [Act.put, List.setIfInBounds_toArray, List.set_cons_zero, List.set_cons_succ]
  refine wpAnyH_take (i := 10) (oi := { dst := some 63, op := Op.move (Operand.tmp 7), type := 40, pos := "law.go:85", after := #[{ on := 9, ground := Ground.guard }], guard := some (9, true) }) (v := .slice a3 n3 c3) rfl (by kernel_rfl) (by kernel_rfl) (by kernel_rfl) (fun _ _ _ h => h) (Or.inl ⟨by rfl, fun w' hw' => by (clear hw'; go_simp)⟩) hHeld ?_
  simp only [Act.put, List.setIfInBounds_toArray, List.set_cons_zero, List.set_cons_succ]
  refine wpAnyH_take (i := 12) (oi := { dst := some 65, op := Op.move (Operand.tmp 9), type := 25, pos := "law.go:85", after := #[{ on := 9, ground := Ground.guard }], guard := some (9, true) }) (v := .slice a4 n4 c4) rfl (by kernel_rfl) (by kernel_rfl) (by kernel_rfl) (fun _ _ _ h => h) (Or.inl ⟨by rfl, fun w' hw' => by (clear hw'; go_simp)⟩) hHeld ?_
  simp only [Act.put, List.setIfInBounds_toArray, List.set_cons_zero, List.set_cons_succ]
  refine wpAnyH_ready (rs := [11]) (by kernel_rfl) (by simp) ?_
  refine (AllReadyH.cons (o := { dst := some 64, op := Op.call { callee := Callee.value (Operand.func 28), args := #[Operand.tmp 63], argTypes := #[40] }, type := 25, pos := "law.go:85", after := #[{ on := 10, ground := Ground.data }, { on := 9, ground := Ground.chain }, { on := 9, ground := Ground.guard }], guard := some (9, true) }) rfl (fun K hK => ?_) AllReadyH.nil)
  go_simp
  refine (HBK.out _ HQ2.out).mono ?_
  rintro e' v3 ⟨rr, rfl, hm⟩
  have HQ3 : Hid (Kp No w10 v3) := HQ2.out.andNone hm.2.2
  have HER := hid (ev_of_rowT (P := fun _ => True) hm.1 HOKD.out (fun _ _ => trivial))
  obtain ⟨ar, cr, rfl, hxx⟩ := id HER.out
  clear hm hxx
  go_wp2_with fail
  refine hK.out _ _ (HQ3.out) (fun hh => ?_)
  clear hK K hHeld
  have hHeld := hh
  clear hh
  try simp only [Act.put, List.setIfInBounds_toArray, List.set_cons_zero, List.set_cons_succ]
  refine wpAnyH_ready (rs := [13]) (by kernel_rfl) (by simp) ?_
  refine (AllReadyH.cons (o := { dst := some 66, op := Op.call { callee := Callee.value (Operand.func 27), args := #[Operand.tmp 64, Operand.tmp 65], argTypes := #[25, 25] }, type := 4, pos := "law.go:85", after := #[{ on := 11, ground := Ground.data }, { on := 12, ground := Ground.data }, { on := 11, ground := Ground.chain }, { on := 9, ground := Ground.guard }], guard := some (9, true) }) rfl (fun K hK => ?_) AllReadyH.nil)
  go_simp
  refine (HSD.out _ _ _ HQ3.out HER.out).mono ?_
  rintro e' v4 ⟨rfl, hb⟩
  have HQ4 : Hid (Kp No w10 v4) := (HQ3.out).andNone hb
  clear hb
  go_wp2_with fail
  refine hK.out _ _ (HQ4.out) (fun hh => ?_)
  clear hK K hHeld
  have hHeld := hh
  clear hh
  try simp only [Act.put, List.setIfInBounds_toArray, List.set_cons_zero, List.set_cons_succ]
  refine wpAnyH_take (i := 14) (oi := { dst := some 67, op := Op.pick (Operand.tmp 62) (Operand.tmp 66) (Operand.const (Value.bool false)), type := 4, pos := "law.go:85", after := #[{ on := 9, ground := Ground.data }, { on := 13, ground := Ground.data }], guard := none }) (v := .bool true) rfl (by kernel_rfl) (by kernel_rfl) (by kernel_rfl) (fun _ _ _ h => h) (Or.inl ⟨by rfl, fun w' hw' => by (clear hw'; go_simp)⟩) hHeld ?_
  simp only [Act.put, List.setIfInBounds_toArray, List.set_cons_zero, List.set_cons_succ]
  refine wpAnyH_take (i := 15) (oi := { dst := some 68, op := Op.move (Operand.tmp 67), type := 4, pos := "law.go:85", after := #[{ on := 14, ground := Ground.data }, { on := 13, ground := Ground.chain }], guard := none }) (v := .bool true) rfl (by kernel_rfl) (by kernel_rfl) (by kernel_rfl) (fun _ _ _ h => h) (Or.inl ⟨by rfl, fun w' hw' => by (clear hw'; go_simp)⟩) hHeld ?_
  simp only [Act.put, List.setIfInBounds_toArray, List.set_cons_zero, List.set_cons_succ]
  refine wpAnyH_take (i := 16) (oi := { dst := some 69, op := Op.move (Operand.tmp 8), type := 32, pos := "law.go:85", after := #[{ on := 15, ground := Ground.guard }], guard := some (15, true) }) (v := .int .i64 f4) rfl (by kernel_rfl) (by kernel_rfl) (by kernel_rfl) (fun _ _ _ h => h) (Or.inl ⟨by rfl, fun w' hw' => by (clear hw'; go_simp)⟩) hHeld ?_
  simp only [Act.put, List.setIfInBounds_toArray, List.set_cons_zero, List.set_cons_succ]
  refine wpAnyH_take (i := 17) (oi := { dst := some 70, op := Op.move (Operand.tmp 10), type := 32, pos := "law.go:85", after := #[{ on := 15, ground := Ground.guard }], guard := some (15, true) }) (v := .int .i64 f4) rfl (by kernel_rfl) (by kernel_rfl) (by kernel_rfl) (fun _ _ _ h => h) (Or.inl ⟨by rfl, fun w' hw' => by (clear hw'; go_simp)⟩) hHeld ?_
  simp only [Act.put, List.setIfInBounds_toArray, List.set_cons_zero, List.set_cons_succ]
  refine wpAnyH_take (i := 18) (oi := { dst := some 71, op := Op.binOp BinOp.eql 32 (Operand.tmp 69) (Operand.tmp 70) 32, type := 4, pos := "law.go:85", after := #[{ on := 16, ground := Ground.data }, { on := 17, ground := Ground.data }, { on := 15, ground := Ground.guard }], guard := some (15, true) }) (v := .bool true) rfl (by kernel_rfl) (by kernel_rfl) (by kernel_rfl) (fun _ _ _ h => h) (Or.inl ⟨by rfl, fun w' hw' => by (clear hw'; go_simp)⟩) hHeld ?_
  simp only [Act.put, List.setIfInBounds_toArray, List.set_cons_zero, List.set_cons_succ]
  refine wpAnyH_take (i := 19) (oi := { dst := some 72, op := Op.pick (Operand.tmp 68) (Operand.tmp 71) (Operand.const (Value.bool false)), type := 4, pos := "law.go:85", after := #[{ on := 15, ground := Ground.data }, { on := 18, ground := Ground.data }], guard := none }) (v := .bool true) rfl (by kernel_rfl) (by kernel_rfl) (by kernel_rfl) (fun _ _ _ h => h) (Or.inl ⟨by rfl, fun w' hw' => by (clear hw'; go_simp)⟩) hHeld ?_
  simp only [Act.put, List.setIfInBounds_toArray, List.set_cons_zero, List.set_cons_succ]
  refine wpAnyH_take (i := 20) (oi := { dst := some 73, op := Op.move (Operand.tmp 72), type := 4, pos := "law.go:85", after := #[{ on := 19, ground := Ground.data }, { on := 15, ground := Ground.chain }], guard := none }) (v := .bool true) rfl (by kernel_rfl) (by kernel_rfl) (by kernel_rfl) (fun _ _ _ h => h) (Or.inl ⟨by rfl, fun w' hw' => by (clear hw'; go_simp)⟩) hHeld ?_
  simp only [Act.put, List.setIfInBounds_toArray, List.set_cons_zero, List.set_cons_succ]
  refine wpAnyH_take (i := 21) (oi := { dst := some 74, op := Op.move (Operand.tmp 11), type := 22, pos := "law.go:85", after := #[{ on := 20, ground := Ground.guard }], guard := some (20, true) }) (v := .slice a5 n5 c5) rfl (by kernel_rfl) (by kernel_rfl) (by kernel_rfl) (fun _ _ _ h => h) (Or.inl ⟨by rfl, fun w' hw' => by (clear hw'; go_simp)⟩) hHeld ?_
  simp only [Act.put, List.setIfInBounds_toArray, List.set_cons_zero, List.set_cons_succ]
  refine wpAnyH_take (i := 22) (oi := { dst := some 75, op := Op.move (Operand.tmp 13), type := 22, pos := "law.go:85", after := #[{ on := 20, ground := Ground.guard }], guard := some (20, true) }) (v := .slice a6 n6 c6) rfl (by kernel_rfl) (by kernel_rfl) (by kernel_rfl) (fun _ _ _ h => h) (Or.inl ⟨by rfl, fun w' hw' => by (clear hw'; go_simp)⟩) hHeld ?_
  simp only [Act.put, List.setIfInBounds_toArray, List.set_cons_zero, List.set_cons_succ]
  refine wpAnyH_ready (rs := [23]) (by kernel_rfl) (by simp) ?_
  refine (AllReadyH.cons (o := { dst := some 76, op := Op.call { callee := Callee.value (Operand.func 29), args := #[Operand.tmp 74, Operand.tmp 75], argTypes := #[22, 22] }, type := 4, pos := "law.go:85", after := #[{ on := 21, ground := Ground.data }, { on := 22, ground := Ground.data }, { on := 20, ground := Ground.chain }, { on := 20, ground := Ground.guard }], guard := some (20, true) }) rfl (fun K hK => ?_) AllReadyH.nil)
  go_simp
  refine (HHS.out _ HQ4.out).mono ?_
  rintro e' v5 ⟨rfl, hb⟩
  have HQ5 : Hid (Kp No w10 v5) := (HQ4.out).andNone hb
  clear hb
  go_wp2_with fail
  refine hK.out _ _ (HQ5.out) (fun hh => ?_)
  clear hK K hHeld
  have hHeld := hh
  clear hh
  try simp only [Act.put, List.setIfInBounds_toArray, List.set_cons_zero, List.set_cons_succ]
  refine wpAnyH_take (i := 24) (oi := { dst := some 77, op := Op.pick (Operand.tmp 73) (Operand.tmp 76) (Operand.const (Value.bool false)), type := 4, pos := "law.go:85", after := #[{ on := 20, ground := Ground.data }, { on := 23, ground := Ground.data }], guard := none }) (v := .bool true) rfl (by kernel_rfl) (by kernel_rfl) (by kernel_rfl) (fun _ _ _ h => h) (Or.inl ⟨by rfl, fun w' hw' => by (clear hw'; go_simp)⟩) hHeld ?_
  simp only [Act.put, List.setIfInBounds_toArray, List.set_cons_zero, List.set_cons_succ]
  refine wpAnyH_take (i := 25) (oi := { dst := some 78, op := Op.move (Operand.tmp 77), type := 4, pos := "law.go:85", after := #[{ on := 24, ground := Ground.data }, { on := 23, ground := Ground.chain }], guard := none }) (v := .bool true) rfl (by kernel_rfl) (by kernel_rfl) (by kernel_rfl) (fun _ _ _ h => h) (Or.inl ⟨by rfl, fun w' hw' => by (clear hw'; go_simp)⟩) hHeld ?_
  simp only [Act.put, List.setIfInBounds_toArray, List.set_cons_zero, List.set_cons_succ]
  refine wpAnyH_take (i := 26) (oi := { dst := some 79, op := Op.move (Operand.tmp 12), type := 32, pos := "law.go:85", after := #[{ on := 25, ground := Ground.guard }], guard := some (25, true) }) (v := .int .i64 f6) rfl (by kernel_rfl) (by kernel_rfl) (by kernel_rfl) (fun _ _ _ h => h) (Or.inl ⟨by rfl, fun w' hw' => by (clear hw'; go_simp)⟩) hHeld ?_
  simp only [Act.put, List.setIfInBounds_toArray, List.set_cons_zero, List.set_cons_succ]
  refine wpAnyH_take (i := 27) (oi := { dst := some 80, op := Op.move (Operand.tmp 14), type := 32, pos := "law.go:85", after := #[{ on := 25, ground := Ground.guard }], guard := some (25, true) }) (v := .int .i64 f6) rfl (by kernel_rfl) (by kernel_rfl) (by kernel_rfl) (fun _ _ _ h => h) (Or.inl ⟨by rfl, fun w' hw' => by (clear hw'; go_simp)⟩) hHeld ?_
  simp only [Act.put, List.setIfInBounds_toArray, List.set_cons_zero, List.set_cons_succ]
  refine wpAnyH_take (i := 28) (oi := { dst := some 81, op := Op.binOp BinOp.eql 32 (Operand.tmp 79) (Operand.tmp 80) 32, type := 4, pos := "law.go:85", after := #[{ on := 26, ground := Ground.data }, { on := 27, ground := Ground.data }, { on := 25, ground := Ground.guard }], guard := some (25, true) }) (v := .bool true) rfl (by kernel_rfl) (by kernel_rfl) (by kernel_rfl) (fun _ _ _ h => h) (Or.inl ⟨by rfl, fun w' hw' => by (clear hw'; go_simp)⟩) hHeld ?_
  simp only [Act.put, List.setIfInBounds_toArray, List.set_cons_zero, List.set_cons_succ]
  refine wpAnyH_take (i := 29) (oi := { dst := some 82, op := Op.pick (Operand.tmp 78) (Operand.tmp 81) (Operand.const (Value.bool false)), type := 4, pos := "law.go:85", after := #[{ on := 25, ground := Ground.data }, { on := 28, ground := Ground.data }], guard := none }) (v := .bool true) rfl (by kernel_rfl) (by kernel_rfl) (by kernel_rfl) (fun _ _ _ h => h) (Or.inl ⟨by rfl, fun w' hw' => by (clear hw'; go_simp)⟩) hHeld ?_
  simp only [Act.put, List.setIfInBounds_toArray, List.set_cons_zero, List.set_cons_succ]
  refine wpAnyH_take (i := 30) (oi := { dst := some 83, op := Op.move (Operand.tmp 82), type := 4, pos := "law.go:85", after := #[{ on := 29, ground := Ground.data }, { on := 25, ground := Ground.chain }], guard := none }) (v := .bool true) rfl (by kernel_rfl) (by kernel_rfl) (by kernel_rfl) (fun _ _ _ h => h) (Or.inl ⟨by rfl, fun w' hw' => by (clear hw'; go_simp)⟩) hHeld ?_
  simp only [Act.put, List.setIfInBounds_toArray, List.set_cons_zero, List.set_cons_succ]
  refine wpAnyH_ready (rs := [31]) (by kernel_rfl) (by simp) ?_
  refine (AllReadyH.cons (o := { dst := some 84, op := Op.call { callee := Callee.value (Operand.func 8), args := #[], argTypes := #[] }, type := 4, pos := "law.go:85", after := #[{ on := 30, ground := Ground.chain }, { on := 30, ground := Ground.guard }], guard := some (30, true) }) rfl (fun K hK => ?_) AllReadyH.nil)
  go_simp
  refine (alive_any _).mono ?_
  rintro e' v6 ⟨rfl, hb⟩
  have HQ6 : Hid (Kp No w10 v6) := HQ5.out.andNone (Kp.below hb)
  clear hb
  go_wp2_with fail
  refine hK.out _ _ (HQ6.out) (fun hh => ?_)
  clear hK K hHeld
  have hHeld := hh
  clear hh
  try simp only [Act.put, List.setIfInBounds_toArray, List.set_cons_zero, List.set_cons_succ]
  refine wpAnyH_take (i := 32) (oi := { dst := some 85, op := Op.pick (Operand.tmp 83) (Operand.tmp 84) (Operand.const (Value.bool false)), type := 4, pos := "law.go:85", after := #[{ on := 30, ground := Ground.data }, { on := 31, ground := Ground.data }], guard := none }) (v := .bool true) rfl (by kernel_rfl) (by kernel_rfl) (by kernel_rfl) (fun _ _ _ h => h) (Or.inl ⟨by rfl, fun w' hw' => by (clear hw'; go_simp)⟩) hHeld ?_
  simp only [Act.put, List.setIfInBounds_toArray, List.set_cons_zero, List.set_cons_succ]
  refine wpAnyH_take (i := 33) (oi := { dst := some 2, op := Op.assign (Operand.tmp 85), type := 4, pos := "law.go:85", after := #[{ on := 32, ground := Ground.data }, { on := 31, ground := Ground.chain }, { on := 0, ground := Ground.phase }, { on := 1, ground := Ground.phase }, { on := 2, ground := Ground.phase }, { on := 3, ground := Ground.phase }, { on := 4, ground := Ground.phase }, { on := 5, ground := Ground.phase }, { on := 6, ground := Ground.phase }, { on := 7, ground := Ground.phase }, { on := 8, ground := Ground.phase }, { on := 9, ground := Ground.phase }, { on := 10, ground := Ground.phase }, { on := 11, ground := Ground.phase }, { on := 12, ground := Ground.phase }, { on := 13, ground := Ground.phase }, { on := 14, ground := Ground.phase }, { on := 15, ground := Ground.phase }, { on := 16, ground := Ground.phase }, { on := 17, ground := Ground.phase }, { on := 18, ground := Ground.phase }, { on := 19, ground := Ground.phase }, { on := 20, ground := Ground.phase }, { on := 21, ground := Ground.phase }, { on := 22, ground := Ground.phase }, { on := 23, ground := Ground.phase }, { on := 24, ground := Ground.phase }, { on := 25, ground := Ground.phase }, { on := 26, ground := Ground.phase }, { on := 27, ground := Ground.phase }, { on := 28, ground := Ground.phase }, { on := 29, ground := Ground.phase }, { on := 30, ground := Ground.phase }, { on := 31, ground := Ground.phase }, { on := 32, ground := Ground.phase }], guard := none }) (v := .bool true) rfl (by kernel_rfl) (by kernel_rfl) (by kernel_rfl) (fun _ _ _ h => h) (Or.inl ⟨by rfl, fun w' hw' => by (clear hw'; go_simp)⟩) hHeld ?_
  simp only [Act.put, List.setIfInBounds_toArray, List.set_cons_zero, List.set_cons_succ]
  refine wpAnyH_done (by kernel_rfl) ?_ _
  clear hHeld
  go_wp2_with fail
  go_ret
  exact ⟨rfl, (HB.out.andNone (HK10.out.andNone HQ6.out)).toBelow'⟩
end Go.Proofs.Ytenfahecnkdhaaa.Nd
end

section
/-
  Files and objects that came in.
-/
namespace Go.Proofs.Ytenfahecnkdhaaa.Nd
open Go.RowKit Go.ChangeShapes Go.WideShapes
open Sim (hid Kp No)
theorem struct2 {P : Program} {H : Type} {enc : TypeId × Value → H} {w : World} {base : Nat} {spare : Nat → Bool} {held : Bool} {t : TypeId} {f0 f1 : Field} {fuel : Nat} {cs : List Value} {x : DataW H × List MemPlace} (ht : P.underlying t = some (.struct #[f0, f1])) (h : DataW.trod enc P w base spare held fuel t cs = some x) :
    ∃ y0 y1 n, cs.length = P.cellsOf t ∧ DataW.trod enc P w base spare held n f0.type ((cs.drop f0.offset).take (P.cellsOf f0.type)) = some y0 ∧
      DataW.trod enc P w base spare held n f1.type ((cs.drop f1.offset).take (P.cellsOf f1.type)) = some y1 := by
  obtain ⟨xs, n, _, rfl, hl, hlen, hf⟩ := DataW.trod_struct ht h
  match xs, hlen with
  | [y0, y1], _ => exact ⟨y0, y1, n, hl, by simpa using hf 0 f0 rfl, by simpa using hf 1 f1 rfl⟩

set_option maxRecDepth 100000 in
/-- An object that came in. -/
theorem open_obj {H : Type} {enc : TypeId × Value → H} {W : World} {r : Reach} {base : Nat} {v : Value} {dd : DataW H} {p : List MemPlace} (hv : Value.okWide Try.prog W r base 29 v) (h : DataW.Trod enc Try.prog W 0 (fun _ => true) true 29 v dd p) :
    ∃ (s : Int) (a : Option Addr) (n c : Nat), v = .agg #[.int .i64 s, .slice a n c] ∧ (n ≤ 140737488355328 → ∃ bs : List Int, bs.length = n ∧ Tlv.BySl 0 W.heap.size W (.slice a n c) bs) := by
  obtain ⟨cs, rfl, hsz⟩ := okWide_struct Try.underlying29 hv
  obtain ⟨fuel, hf⟩ := h
  have hf' : DataW.trod enc Try.prog W 0 (fun _ => true) true fuel 29 cs.toList = some (dd, p) := hf
  obtain ⟨_, y1, m, hl, h0, h1⟩ := struct2 Try.underlying29 hf'
  have e75 : Try.prog.cellsOf 29 = 2 := by kernel_rfl
  have e3 : Try.prog.cellsOf 3 = 1 := by kernel_rfl
  have e22 : Try.prog.cellsOf 26 = 1 := by kernel_rfl
  rw [e75] at hl
  simp only [e3, e22] at h0 h1
  obtain ⟨s, g0, _, _⟩ := DataW.trod_int Try.underlying3 h0
  obtain ⟨u0, u1, hcs⟩ : ∃ u0 u1, cs.toList = [u0, u1] := by
    match hk : cs.toList, hl with
    | [u0, u1], _ => exact ⟨u0, u1, rfl⟩
  have e : cs = #[u0, u1] := by
    apply Array.toList_inj.1
    rw [hcs]
  rw [hcs] at g0 h1
  simp at g0
  have h1' : DataW.trod enc Try.prog W 0 (fun _ => true) true m 26 [u1] = some y1 := by simpa using h1
  rcases open_ints Try.underlying26 Try.underlying5 (by kernel_rfl) h1' with ⟨hc, _⟩ | ⟨x, l, c, zs, hc, _, h2, h3, h4, _, h5, h6⟩
  · simp at hc
    refine ⟨s, none, 0, 0, by rw [e, g0, hc], fun _ => ⟨[], rfl, Tlv.BySl.none _ _ _⟩⟩
  · simp at hc
    refine ⟨s, some x, l, c, by rw [e, g0, hc], fun hll => ?_⟩
    have hzl : zs.length = c := by simpa using h4
    have hlen : (zs.take l).length = l := List.length_take_of_le (by omega)
    refine ⟨zs.take l, hlen, _, c, by rw [hlen], by rw [hlen]; exact h2, h3, by simp, by rw [hlen]; omega, fun y hy => u8_wf (h6 y (List.mem_of_mem_take hy)), fun hne => ?_⟩
    have hpos : 0 < l := by have := List.length_pos_iff.2 hne; omega
    have c0 := h5 0 (by omega)
    have hx := spot_none c0
    obtain ⟨b, o, sp⟩ := x
    simp only at hx
    subst hx
    refine ⟨b, o, rfl, Nat.zero_le _, World.block_lt_of_cell? W _ c0, fun i hi => ?_⟩
    have := h5 i (by omega)
    rw [addr_plus] at this
    rw [this]
    rw [hlen] at hi
    simp [hi]
end Go.Proofs.Ytenfahecnkdhaaa.Nd
end
