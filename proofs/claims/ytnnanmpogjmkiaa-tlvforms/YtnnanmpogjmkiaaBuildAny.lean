/-
  What the statements' build makes of nodes: the walk.
-/
import Derived.Test.YtnnanmpogjmkiaaBuildTail
namespace Go.Proofs.Ytnnanmpogjmkiaa
open Go.RowKit
attribute [local go_sem ↓] Go.wp_at_zero Go.wp_at_succ

set_option maxHeartbeats 2000000 in
set_option maxRecDepth 100000 in
theorem build_step (d D : Nat) (hD : D = d + 1) (hd : d + 1 ≤ 12) (hih : BuildOk d) (x : Nd) (ns : List Nd) (B0 : Nat) (v : Value) (w : World) (h : NSl B0 w v (x :: ns)) (hB : B0 ≤ w.heap.size) :
    Calls Try.prog 10 #[v, .int .i64 D] w fun e w' => ∃ sa ka sb kb, e = .returned (.tuple #[.agg #[.int .i64 (bld (d + 1) (x :: ns)).1.hd.1, .int .u64 (bld (d + 1) (x :: ns)).1.hd.2.1, sa, ka], .agg #[.int .i64 (bld (d + 1) (x :: ns)).1.hd.1, .int .u64 (bld (d + 1) (x :: ns)).1.hd.2.1, sb, kb], .int .i64 (bld (d + 1) (x :: ns)).2]) ∧
    RepS (fun b => b < B0 ∨ (w.heap.size ≤ b ∧ b < w'.heap.size)) w' (d + 2) (bld (d + 1) (x :: ns)).1 sa ka ∧ RepS (fun b => b < B0 ∨ (w.heap.size ≤ b ∧ b < w'.heap.size)) w' (d + 2) (bld (d + 1) (x :: ns)).1 sb kb ∧ Below w.heap.size w w' := by
      have ih := hid hih
      have HD := hid hD
      clear hD hih
      have HN := hid h
      obtain ⟨a, cap, rfl, h2, h3, h4, h5⟩ := h
      obtain ⟨b, o, rfl, hbB, hat⟩ := h5 (by simp)
      obtain ⟨sb, c0, c1, c2, c3, m0, m1, n0, n1, hby⟩ := hat 0 x (by simp)
      have hbw : b < w.heap.size := by omega
      obtain ⟨ab, cb, rfl, hr⟩ := id hby
      clear hr hat h5
      have HBy := hid hby
      clear hby
      simp only [Nat.zero_mul, Nat.add_zero] at c0 c1 c2 c3
      obtain ⟨R, hR⟩ : ∃ R, bld (d + 1) (x :: ns) = R := ⟨_, rfl⟩
      have HR : Hid (R = (Tr.mk x.1 x.2.2.1 x.2.2.2 (bldGo (bld d) (x :: ns) x.2.1 (x :: ns).length 0 1 []).1, (bldGo (bld d) (x :: ns) x.2.1 (x :: ns).length 0 1 []).2)) := by rw [Hid, ← hR]; rfl
      rw [hR]
      clear hR
      obtain ⟨nl, hnl⟩ : ∃ nl, nl = x :: ns := ⟨_, rfl⟩
      rw [← hnl] at HN HR h2 h4
      have hpos : 0 < nl.length := by rw [hnl]; simp
      obtain ⟨L, hL⟩ : ∃ L, nl.length = L := ⟨_, rfl⟩
      have HL := hid hL
      have hxl : (x :: ns).length = L := by rw [← hnl]; exact hL
      rw [hL] at HN h2 h4 hpos HR
      rw [hxl]
      clear hL hnl hxl
      obtain ⟨tag, many, num, bs⟩ := x
      simp only at c0 c1 c2 c3 m0 m1 n0 n1 HBy HR
      obtain ⟨M, hM⟩ : ∃ M, bs.length = M := ⟨_, rfl⟩
      have HM := hid hM
      rw [hM] at c3 HBy
      clear hM
      have hbw1 : b < w.heap.size + 1 := by omega
      have hbw2 : b < w.heap.size + 1 + 1 := by omega
      have hbw3 : b < w.heap.size + 1 + 1 + 1 := by omega
      have hbw4 : b < w.heap.size + 1 + 1 + 1 + 1 := by omega
      have hl0 : ((L : Int) == 0) = false := by simp; omega
      have hd0 : ((D : Int) == 0) = false := by rw [HD.out]; simp; omega
      obtain ⟨i9, hi9, hx0, hx1, hx2⟩ := info_parts Try.info29'
      obtain ⟨i2, hi2, hz0, hz1, hz2⟩ := info_parts Try.info32
      go_enter Try.func10, Try.ntmps10
      go_upto_region 3 with fail
      go_region
      go_upto_region 4 with fail
      go_region
      go_wp2_with fail
      as_aux_lemma =>
        obtain ⟨W0, hW0⟩ : ∃ W0, W0 = ((((w.alloc (Obj.cells #[Value.int .i64 0, Value.int .u64 0, Value.slice none 0 0, Value.slice none 0 0] 29)).alloc (Obj.cells #[Value.int .i64 0, Value.int .u64 0, Value.slice none 0 0, Value.slice none 0 0] 32)).alloc (Obj.cells #[Value.int .i64 tag, Value.int .u64 num, Value.slice ab M cb, Value.slice none 0 0] 29)).alloc (Obj.cells #[Value.int .i64 tag, Value.int .u64 num, Value.slice ab M cb, Value.slice none 0 0] 32)).drew.drew := ⟨_, rfl⟩
        have hB0 : Hid (Below w.heap.size w W0) := by rw [Hid, hW0]; exact (((((Below.refl _ _).alloc (Nat.le_refl _) _).alloc (by simp) _).alloc (by simp; omega) _).alloc (by simp; omega) _).drew.drew
        have hsz0 : Hid (W0.heap.size = w.heap.size + 4) := by rw [Hid, hW0]; simp
        have a0 : W0.cell? ⟨w.heap.size + 1 + 1, 0, none⟩ = some (.int .i64 tag) := by rw [hW0]; simp [go_sem]
        have a1 : W0.cell? ⟨w.heap.size + 1 + 1, 1, none⟩ = some (.int .u64 num) := by rw [hW0]; simp [go_sem]
        have a2 : W0.cell? ⟨w.heap.size + 1 + 1, 2, none⟩ = some (.slice ab M cb) := by rw [hW0]; simp [go_sem]
        have a3 : W0.cell? ⟨w.heap.size + 1 + 1, 3, none⟩ = some (.slice none 0 0) := by rw [hW0]; simp [go_sem]
        have af : ∀ o, W0.frozen? ⟨w.heap.size + 1 + 1, o, none⟩ = false := by intro o; rw [hW0]; simp [go_sem]
        have b0 : W0.cell? ⟨w.heap.size + 1 + 1 + 1, 0, none⟩ = some (.int .i64 tag) := by rw [hW0]; simp [go_sem]
        have b1 : W0.cell? ⟨w.heap.size + 1 + 1 + 1, 1, none⟩ = some (.int .u64 num) := by rw [hW0]; simp [go_sem]
        have b2 : W0.cell? ⟨w.heap.size + 1 + 1 + 1, 2, none⟩ = some (.slice ab M cb) := by rw [hW0]; simp [go_sem]
        have b3 : W0.cell? ⟨w.heap.size + 1 + 1 + 1, 3, none⟩ = some (.slice none 0 0) := by rw [hW0]; simp [go_sem]
        have bf : ∀ o, W0.frozen? ⟨w.heap.size + 1 + 1 + 1, o, none⟩ = false := by intro o; rw [hW0]; simp [go_sem]
        have p0 : Hid (W0.cell? ⟨w.heap.size, 0, none⟩ = some (.int .i64 0)) := by rw [Hid, hW0]; simp [go_sem]
        have p1 : Hid (W0.cell? ⟨w.heap.size, 1, none⟩ = some (.int .u64 0)) := by rw [Hid, hW0]; simp [go_sem]
        have p2 : Hid (W0.cell? ⟨w.heap.size, 2, none⟩ = some (.slice none 0 0)) := by rw [Hid, hW0]; simp [go_sem]
        have p3 : Hid (W0.cell? ⟨w.heap.size, 3, none⟩ = some (.slice none 0 0)) := by rw [Hid, hW0]; simp [go_sem]
        have pf : Hid (∀ o, W0.frozen? ⟨w.heap.size, o, none⟩ = false) := by intro o; rw [hW0]; simp [go_sem]
        have qq0 : Hid (W0.cell? ⟨w.heap.size + 1, 0, none⟩ = some (.int .i64 0)) := by rw [Hid, hW0]; simp [go_sem]
        have qq1 : Hid (W0.cell? ⟨w.heap.size + 1, 1, none⟩ = some (.int .u64 0)) := by rw [Hid, hW0]; simp [go_sem]
        have qq2 : Hid (W0.cell? ⟨w.heap.size + 1, 2, none⟩ = some (.slice none 0 0)) := by rw [Hid, hW0]; simp [go_sem]
        have qq3 : Hid (W0.cell? ⟨w.heap.size + 1, 3, none⟩ = some (.slice none 0 0)) := by rw [Hid, hW0]; simp [go_sem]
        have qqf : Hid (∀ o, W0.frozen? ⟨w.heap.size + 1, o, none⟩ = false) := by intro o; rw [hW0]; simp [go_sem]
        rw [← hW0]
        clear hW0
        have cc1 := hid c1
        clear c0 c1 c2 c3 hbw1 hbw2 hbw3 hbw4
        obtain ⟨st, hst⟩ : ∃ st, bldGo (bld d) nl many L 0 1 [] = st := ⟨_, rfl⟩
        rw [hst] at HR
        have HST := hid hst
        clear hst
        have hdw : IntKind.i64.wrap ((D : Int) - 1) = d := by rw [HD.out, show ((d + 1 : Nat) : Int) - 1 = (d : Int) by omega, IntKind.wrap_i64]; omega
        go_loopw [9, 10] (fun sp si wr => ∃ (p k : Nat) (va vb : Value), sp = .int .i64 p ∧ si = .int .i64 k ∧ k + 1 ≤ p ∧ p ≤ L ∧
          wr.cell? ⟨w.heap.size + 1 + 1, 0, none⟩ = some (.int .i64 tag) ∧ wr.cell? ⟨w.heap.size + 1 + 1, 1, none⟩ = some (.int .u64 num) ∧ wr.cell? ⟨w.heap.size + 1 + 1, 2, none⟩ = some (.slice ab M cb) ∧ wr.cell? ⟨w.heap.size + 1 + 1, 3, none⟩ = some va ∧ (∀ o, wr.frozen? ⟨w.heap.size + 1 + 1, o, none⟩ = false) ∧
          wr.cell? ⟨w.heap.size + 1 + 1 + 1, 0, none⟩ = some (.int .i64 tag) ∧ wr.cell? ⟨w.heap.size + 1 + 1 + 1, 1, none⟩ = some (.int .u64 num) ∧ wr.cell? ⟨w.heap.size + 1 + 1 + 1, 2, none⟩ = some (.slice ab M cb) ∧ wr.cell? ⟨w.heap.size + 1 + 1 + 1, 3, none⟩ = some vb ∧ (∀ o, wr.frozen? ⟨w.heap.size + 1 + 1 + 1, o, none⟩ = false) ∧
          Hid (LInv d B0 w.heap.size W0 nl many st p k va vb wr)) (fun sp _ _ => L - (intOf sp).toNat)
        case atStart => exact ⟨1, 0, _, _, rfl, rfl, Nat.le_refl _, hpos, a0, a1, a2, a3, af, b0, b1, b2, b3, bf, L, [], rfl, by have := HL.out; omega, HST.out, GInv.nil _ _ _ _, GInv.nil _ _ _ _, Below.refl _ _, Nat.le_of_eq hsz0.out.symm⟩
        case round =>
          clear a0 a1 a2 a3 af b0 b1 b2 b3 bf
          obtain ⟨p, k, va, vb, rfl, rfl, hkp, hpL, f0, f1, f2, f3, hfr, g0, g1, g2, g3, hgr, HI⟩ := hrel
          have hws : w.heap.size + 4 ≤ wr.heap.size := by obtain ⟨_, _, _, _, _, _, _, _, h⟩ := HI.out; exact h
          have hbel : Hid (Below w.heap.size w wr) := by obtain ⟨_, _, _, _, _, _, _, h, _⟩ := HI.out; exact hB0.out.trans (h.mono (by omega))
          have C1 : wr.cell? ⟨b, o + 1, none⟩ = some (.int .i64 many) := (hbel.out.cell (p := ⟨b, o + 1, none⟩) hbw).trans cc1.out
          obtain ⟨ava, cva, hva⟩ : ∃ a c, va = .slice a k c := by obtain ⟨_, ts, hk, _, _, h, _⟩ := HI.out; rw [← hk]; exact h.form
          obtain ⟨avb, cvb, hvb⟩ : ∃ a c, vb = .slice a k c := by obtain ⟨_, ts, hk, _, _, _, h, _⟩ := HI.out; rw [← hk]; exact h.form
          subst hva hvb
          as_aux_lemma =>
            by_cases hin : (k : Int) < many
            · by_cases hpl : p < L
              · have hpI : (p : Int) < (L : Int) := by omega
                have hp0 : (0 : Int) ≤ (p : Int) := by omega
                have hcp : ¬ cap = p := by omega
                have hpc : p ≤ cap := by omega
                go_wp2_with fail
                have hns : NSl B0 wr (.slice (some ⟨b, o + p * 4, none⟩) (L - p) (cap - p)) (nl.drop p) := by
                  have h := HN.out
                  rw [← HL.out] at h
                  have := h.rest p (by rw [HL.out]; exact hpl)
                  rw [HL.out] at this
                  exact this.below (hbel.out.mono hB) (Nat.le_refl _)
                refine (ih.out B0 _ (nl.drop p) wr hns (by omega)).mono ?_
                rintro e w1 ⟨sa, ka, sb, kb, rfl, hra, hrb, hb1⟩
                clear hns
                obtain ⟨a1, l1, q1, a2, l2, q2, rfl, rfl⟩ := hra.sl
                obtain ⟨a3, l3, q3, a4, l4, q4, rfl, rfl⟩ := hrb.sl
                obtain ⟨N, hN⟩ : ∃ N, bld d (nl.drop p) = N := ⟨_, rfl⟩
                rw [hN] at hra hrb
                rw [hN]
                have HNN := hid hN
                clear hN
                obtain ⟨t1, m⟩ := N
                simp only at hra hrb
                have Hra := hid hra
                have Hrb := hid hrb
                have Hb1 := hid hb1
                have hs1 := hb1.size
                obtain ⟨hc1, hf1⟩ := bcell hb1
                clear hra hrb hb1
                have F0 := (hc1 (w.heap.size + 1 + 1) 0 (by omega)).trans f0
                have F1 := (hc1 (w.heap.size + 1 + 1) 1 (by omega)).trans f1
                have F2 := (hc1 (w.heap.size + 1 + 1) 2 (by omega)).trans f2
                have F3 := (hc1 (w.heap.size + 1 + 1) 3 (by omega)).trans f3
                have Ff : ∀ o, w1.frozen? ⟨w.heap.size + 1 + 1, o, none⟩ = false := fun o => (hf1 (w.heap.size + 1 + 1) o (by omega)).trans (hfr o)
                have G0 := (hc1 (w.heap.size + 1 + 1 + 1) 0 (by omega)).trans g0
                have G1 := (hc1 (w.heap.size + 1 + 1 + 1) 1 (by omega)).trans g1
                have G2 := (hc1 (w.heap.size + 1 + 1 + 1) 2 (by omega)).trans g2
                have G3 := (hc1 (w.heap.size + 1 + 1 + 1) 3 (by omega)).trans g3
                have Gf : ∀ o, w1.frozen? ⟨w.heap.size + 1 + 1 + 1, o, none⟩ = false := fun o => (hf1 (w.heap.size + 1 + 1 + 1) o (by omega)).trans (hgr o)
                have hg1 : w.heap.size + 1 + 1 < w1.heap.size := by omega
                have hg2 : w.heap.size + 1 + 1 + 1 < w1.heap.size := by omega
                have hg3 : w.heap.size + 1 + 1 < w1.heap.size + 1 := by omega
                have hg4 : w.heap.size + 1 + 1 + 1 < w1.heap.size + 1 := by omega
                have hg5 : w.heap.size + 1 + 1 < w1.heap.size + 1 + 1 := by omega
                have hg6 : w.heap.size + 1 + 1 + 1 < w1.heap.size + 1 + 1 := by omega
                clear f0 f1 f2 f3 hfr g0 g1 g2 g3 hgr hc1 hf1
                by_cases hm0 : m = 0
                · subst hm0
                  go_wp2_with fail
                  have belB : Below wr.heap.size wr ((w1.alloc (ob t1 (.slice a1 l1 q1) (.slice a2 l2 q2) 29)).alloc (ob t1 (.slice a3 l3 q3) (.slice a4 l4 q4) 32)) := (Hb1.out.alloc hs1 _).alloc (by simp; omega) _
                  have HIB := hid (HI.out.below hB belB)
                  have pst : ∀ bb oo, bb < w1.heap.size → ((w1.alloc (ob t1 (.slice a1 l1 q1) (.slice a2 l2 q2) 29)).alloc (ob t1 (.slice a3 l3 q3) (.slice a4 l4 q4) 32)).cell? ⟨bb, oo, none⟩ = w1.cell? ⟨bb, oo, none⟩ := fun bb oo h => by rw [World.cell?_alloc_past _ _ _ (by simp; omega), World.cell?_alloc_past _ _ _ h]
                  have T0 := (pst _ 0 hg1).trans F0
                  have T1 := (pst _ 1 hg1).trans F1
                  have T2 := (pst _ 2 hg1).trans F2
                  have T3 := (pst _ 3 hg1).trans F3
                  have V0 := (pst _ 0 hg2).trans G0
                  have V1 := (pst _ 1 hg2).trans G1
                  have V2 := (pst _ 2 hg2).trans G2
                  have V3 := (pst _ 3 hg2).trans G3
                  as_aux_lemma =>
                    have bl : Below (w.heap.size + 2) W0 ((w1.alloc (ob t1 (.slice a1 l1 q1) (.slice a2 l2 q2) 29)).alloc (ob t1 (.slice a3 l3 q3) (.slice a4 l4 q4) 32)) := by obtain ⟨_, _, _, _, _, _, _, h, _⟩ := HIB.out; exact h
                    have r0 := (bl.cell (p := ⟨w.heap.size, 0, none⟩) (by simp)).trans p0.out
                    have r1 := (bl.cell (p := ⟨w.heap.size, 1, none⟩) (by simp)).trans p1.out
                    have r2 := (bl.cell (p := ⟨w.heap.size, 2, none⟩) (by simp)).trans p2.out
                    have r3 := (bl.cell (p := ⟨w.heap.size, 3, none⟩) (by simp)).trans p3.out
                    have rf : ∀ o, World.frozen? ((w1.alloc (ob t1 (.slice a1 l1 q1) (.slice a2 l2 q2) 29)).alloc (ob t1 (.slice a3 l3 q3) (.slice a4 l4 q4) 32)) ⟨w.heap.size, o, none⟩ = false := fun o => (bl.frozen (p := ⟨w.heap.size, o, none⟩) (by simp)).trans (pf.out o)
                    have u0 := (bl.cell (p := ⟨w.heap.size + 1, 0, none⟩) (by simp)).trans qq0.out
                    have u1 := (bl.cell (p := ⟨w.heap.size + 1, 1, none⟩) (by simp)).trans qq1.out
                    have u2 := (bl.cell (p := ⟨w.heap.size + 1, 2, none⟩) (by simp)).trans qq2.out
                    have u3 := (bl.cell (p := ⟨w.heap.size + 1, 3, none⟩) (by simp)).trans qq3.out
                    have uf : ∀ o, World.frozen? ((w1.alloc (ob t1 (.slice a1 l1 q1) (.slice a2 l2 q2) 29)).alloc (ob t1 (.slice a3 l3 q3) (.slice a4 l4 q4) 32)) ⟨w.heap.size + 1, o, none⟩ = false := fun o => (bl.frozen (p := ⟨w.heap.size + 1, o, none⟩) (by simp)).trans (qqf.out o)
                    refine tail14 (z := w.heap.size) T0 T1 T2 T3 V0 V1 V2 V3 r0 r1 r2 r3 u0 u1 u2 u3 rf uf (by assumption) ?_
                    obtain ⟨e1, e2, e3, ra, rb, hbl⟩ := build_fin hB hB0.out HIB.out (by omega) (.inr (by rw [HNN.out])) HR.out n0 n1 HBy.out (fun b hb => set8_far (by omega) (by omega)) set8_size set8_below
                    exact ⟨_, _, _, _, by rw [e1, e2, e3], ra, rb, hbl⟩
                · have hmI : ((m : Int) == 0) = false := by simp; omega
                  have hSB : ∀ b, b < B0 → b < wr.heap.size := fun b hb => by omega
                  obtain ⟨fuel, ts, hk, hfu, hgo, iA, iB, bl, hz4⟩ := HI.out
                  have HK := hid hk
                  have HFU := hid hfu
                  have HGO := hid hgo
                  have ltA := hid iA.lt
                  have ltB := hid iB.lt
                  have bel1 : Below wr.heap.size wr (((w1.alloc (ob t1 (.slice a1 l1 q1) (.slice a2 l2 q2) 29)).alloc (ob t1 (.slice a3 l3 q3) (.slice a4 l4 q4) 32)).alloc (ob t1 (.slice a1 l1 q1) (.slice a2 l2 q2) 29)) := ((Hb1.out.alloc hs1 _).alloc (by simp; omega) _).alloc (by simp; omega) _
                  have iA1 := iA.agree (AgreeS.below bel1 hSB) (Agree.below bel1) bel1.size
                  have IB1 := hid (iB.agree (AgreeS.below bel1 hSB) (Agree.below bel1) bel1.size)
                  have BL1 := hid (bl.trans (bel1.mono (by omega)))
                  have HRA : Hid (RepS (fun b => b < B0 ∨ (wr.heap.size ≤ b ∧ b < w1.heap.size)) (((w1.alloc (ob t1 (.slice a1 l1 q1) (.slice a2 l2 q2) 29)).alloc (ob t1 (.slice a3 l3 q3) (.slice a4 l4 q4) 32)).alloc (ob t1 (.slice a1 l1 q1) (.slice a2 l2 q2) 29)) (d + 1) t1 (.slice a1 l1 q1) (.slice a2 l2 q2)) :=
                    Hra.out.agree (fun b hb => by have hb' : b < w1.heap.size := by omega
                                                  rw [Below.heap_alloc _ _ _ (by simp; omega), Below.heap_alloc _ _ _ (by simp; omega), Below.heap_alloc _ _ _ hb']) (fun _ h => h)
                  have HRB : Hid (RepS (fun b => b < B0 ∨ (wr.heap.size ≤ b ∧ b < w1.heap.size)) (((w1.alloc (ob t1 (.slice a1 l1 q1) (.slice a2 l2 q2) 29)).alloc (ob t1 (.slice a3 l3 q3) (.slice a4 l4 q4) 32)).alloc (ob t1 (.slice a1 l1 q1) (.slice a2 l2 q2) 29)) (d + 1) t1 (.slice a3 l3 q3) (.slice a4 l4 q4)) :=
                    Hrb.out.agree (fun b hb => by have hb' : b < w1.heap.size := by omega
                                                  rw [Below.heap_alloc _ _ _ (by simp; omega), Below.heap_alloc _ _ _ (by simp; omega), Below.heap_alloc _ _ _ hb']) (fun _ h => h)
                  obtain ⟨hoA, ps, hl, hown, hkid⟩ := iA1
                  rw [hk] at hown
                  have HOA := hid hoA
                  have HLL := hid hl
                  have HO := hid hown
                  have HKid := hid hkid
                  have hnews : Hid (∀ j u, (cell4 t1 (.slice a1 l1 q1, .slice a2 l2 q2))[j]? = some u → (((w1.alloc (ob t1 (.slice a1 l1 q1) (.slice a2 l2 q2) 29)).alloc (ob t1 (.slice a3 l3 q3) (.slice a4 l4 q4) 32)).alloc (ob t1 (.slice a1 l1 q1) (.slice a2 l2 q2) 29)).cell? ((⟨w1.heap.size + 1 + 1, 0, none⟩ : Addr).add j) = some u) := by
                    have h := newsOb ((w1.alloc (ob t1 (.slice a1 l1 q1) (.slice a2 l2 q2) 29)).alloc (ob t1 (.slice a3 l3 q3) (.slice a4 l4 q4) 32)) t1 (.slice a1 l1 q1) (.slice a2 l2 q2) 29
                    simp only [World.size_alloc] at h
                    exact h
                  have hone := hid (one4 t1 a1 l1 q1 a2 l2 q2)
                  have hone2 := hid (one4 t1 a3 l3 q3 a4 l4 q4)
                  clear hk hfu hgo iA iB bl hz4 bel1 hoA hl hown hkid hSB
                  go_wp2_with (at_builtin; go_must (refine wpList_append_lies _ rfl _ _ 27 rfl (w.heap.size + 4) 29 i9 _ 4 64 Try.underlying27 hi9 hx0 hx1 hx2 rfl (by decide) _ k (cellsK ts ps) rfl HO.out ⟨w1.heap.size + 1 + 1, 0, none⟩ 1 1 (cell4 t1 (.slice a1 l1 q1, .slice a2 l2 q2)) rfl rfl hnews.out hone.out (by omega) (by unfold maxLen; omega) (by omega) (by simp; omega) (w1.heap.size + 1 + 1 + 1) (by simp) ?_))
                  intro g' cap' w3 hown3 hgrow3 hat3 hlt3
                  have hs3 := hgrow3.size
                  simp only [World.size_alloc] at hs3
                  obtain ⟨I3A, I3B⟩ := grow_one (cap := cap') HK.out (by omega) (by simp; omega) HOA.out HLL.out HKid.out IB1.out HRA.out (by omega) (by simp; omega) (fun r e => ⟨(ltA.out r e).1, .inl (ltA.out r e).2⟩) (fun r e => .inl (ltB.out r e).2) hown3 hgrow3 (by simpa using hat3) hlt3
                  have I3A' := hid I3A
                  have I3B' := hid I3B
                  have ltA3 := hid I3A.lt
                  have hneA : some (w.heap.size + 1 + 1) ≠ (Value.slice ava k cva).ownBlock := fun e => by have := (ltA.out _ e.symm).1; omega
                  have hneB : some (w.heap.size + 1 + 1 + 1) ≠ (Value.slice ava k cva).ownBlock := fun e => by have := (ltA.out _ e.symm).1; omega
                  have hneC : some (w1.heap.size + 1) ≠ (Value.slice ava k cva).ownBlock := fun e => by have := (ltA.out _ e.symm).2; omega
                  have J : ∀ bb oo, bb < w1.heap.size → some bb ≠ (Value.slice ava k cva).ownBlock → w3.cell? ⟨bb, oo, none⟩ = w1.cell? ⟨bb, oo, none⟩ := fun bb oo h hn => by
                    rw [hgrow3.cell_far ⟨bb, oo, none⟩ (by simp; omega) hn, World.cell?_alloc_past _ _ _ (by simp; omega), World.cell?_alloc_past _ _ _ (by simp; omega), World.cell?_alloc_past _ _ _ h]
                  have Jf : ∀ bb oo, bb < w1.heap.size → some bb ≠ (Value.slice ava k cva).ownBlock → w3.frozen? ⟨bb, oo, none⟩ = w1.frozen? ⟨bb, oo, none⟩ := fun bb oo h hn => by
                    rw [hgrow3.frozen_far ⟨bb, oo, none⟩ (by simp; omega) hn, World.frozen?_alloc_past _ _ _ (by simp; omega), World.frozen?_alloc_past _ _ _ (by simp; omega), World.frozen?_alloc_past _ _ _ h]
                  have JY : ∀ oo, w3.cell? ⟨w1.heap.size + 1, oo, none⟩ = ((w1.alloc (ob t1 (.slice a1 l1 q1) (.slice a2 l2 q2) 29)).alloc (ob t1 (.slice a3 l3 q3) (.slice a4 l4 q4) 32)).cell? ⟨w1.heap.size + 1, oo, none⟩ := fun oo => by
                    rw [hgrow3.cell_far ⟨w1.heap.size + 1, oo, none⟩ (by simp) hneC, World.cell?_alloc_past _ _ _ (by simp)]
                  have JY0 : w3.cell? ⟨w1.heap.size + 1, 0, none⟩ = some (.int .i64 t1.hd.1) := (JY 0).trans (by simp [go_sem])
                  have JY1 : w3.cell? ⟨w1.heap.size + 1, 1, none⟩ = some (.int .u64 t1.hd.2.1) := (JY 1).trans (by simp [go_sem])
                  have JY2 : w3.cell? ⟨w1.heap.size + 1, 2, none⟩ = some (.slice a3 l3 q3) := (JY 2).trans (by simp [go_sem])
                  have JY3 : w3.cell? ⟨w1.heap.size + 1, 3, none⟩ = some (.slice a4 l4 q4) := (JY 3).trans (by simp [go_sem])
                  have J0 := (J _ 0 hg1 hneA).trans F0
                  have J1 := (J _ 1 hg1 hneA).trans F1
                  have J2 := (J _ 2 hg1 hneA).trans F2
                  have J3 := (J _ 3 hg1 hneA).trans F3
                  have JF : ∀ o, w3.frozen? ⟨w.heap.size + 1 + 1, o, none⟩ = false := fun o => (Jf _ o hg1 hneA).trans (Ff o)
                  have K0 := (J _ 0 hg2 hneB).trans G0
                  have K1 := (J _ 1 hg2 hneB).trans G1
                  have K2 := (J _ 2 hg2 hneB).trans G2
                  have K3 := (J _ 3 hg2 hneB).trans G3
                  have KF : ∀ o, w3.frozen? ⟨w.heap.size + 1 + 1 + 1, o, none⟩ = false := fun o => (Jf _ o hg2 hneB).trans (Gf o)
                  have HRB3 : Hid (RepS (fun b => b < B0 ∨ (wr.heap.size ≤ b ∧ b < w1.heap.size)) w3 (d + 1) t1 (.slice a3 l3 q3) (.slice a4 l4 q4)) :=
                    HRB.out.agree (fun b hb => hgrow3.block b (by simp; omega) (fun e => by have := ltA.out b e.symm; omega)) (fun _ h => h)
                  have BL3 := hid (BL1.out.grown hgrow3 (by simp; omega) (fun r e => by have := (ltA.out r e).1; omega))
                  have HGAT : Hid (g' < wr.heap.size ∨ w1.heap.size ≤ g') := Or.elim hat3 (fun e => .inl (ltA.out _ e).2) (fun e => .inr (by rw [e]; omega))
                  clear I3A I3B hown3 hgrow3 hat3 J Jf JY F0 F1 F2 F3 Ff G0 G1 G2 G3 Gf hneA hneB hneC hg1 hg2 hg3 hg4 hg5 hg6 HO HOA HLL HKid IB1 HRA HRB hnews hone BL1 Hra Hrb HI
                  go_upto_region 12 with fail
                  as_aux_lemma =>
                    obtain ⟨W5, hW5⟩ : ∃ W5, W5 = w3.setCell ⟨w.heap.size + 1 + 1, 3, none⟩ (Value.slice (some ⟨g', 0, none⟩) (k + 1) cap') := ⟨_, rfl⟩
                    have hsz5 : Hid (W5.heap.size = w3.heap.size) := by rw [Hid, hW5]; simp
                    have L0 : W5.cell? ⟨w.heap.size + 1 + 1, 0, none⟩ = some (.int .i64 tag) := by rw [hW5]; exact (cell_set_ne (by omega)).trans J0
                    have L1 : W5.cell? ⟨w.heap.size + 1 + 1, 1, none⟩ = some (.int .u64 num) := by rw [hW5]; exact (cell_set_ne (by omega)).trans J1
                    have L2 : W5.cell? ⟨w.heap.size + 1 + 1, 2, none⟩ = some (.slice ab M cb) := by rw [hW5]; exact (cell_set_ne (by omega)).trans J2
                    have L3 : W5.cell? ⟨w.heap.size + 1 + 1, 3, none⟩ = some (Value.slice (some ⟨g', 0, none⟩) (k + 1) cap') := by rw [hW5]; exact World.cell?_setCell_same _ _ _ J3
                    have LF : ∀ o, W5.frozen? ⟨w.heap.size + 1 + 1, o, none⟩ = false := fun o => by rw [hW5, World.frozen?_setCell]; exact JF o
                    have N0 : W5.cell? ⟨w.heap.size + 1 + 1 + 1, 0, none⟩ = some (.int .i64 tag) := by rw [hW5]; exact (cell_far (by simp)).trans K0
                    have N1 : W5.cell? ⟨w.heap.size + 1 + 1 + 1, 1, none⟩ = some (.int .u64 num) := by rw [hW5]; exact (cell_far (by simp)).trans K1
                    have N2 : W5.cell? ⟨w.heap.size + 1 + 1 + 1, 2, none⟩ = some (.slice ab M cb) := by rw [hW5]; exact (cell_far (by simp)).trans K2
                    have N3 : W5.cell? ⟨w.heap.size + 1 + 1 + 1, 3, none⟩ = some (.slice avb k cvb) := by rw [hW5]; exact (cell_far (by simp)).trans K3
                    have NF : ∀ o, W5.frozen? ⟨w.heap.size + 1 + 1 + 1, o, none⟩ = false := fun o => by rw [hW5, World.frozen?_setCell]; exact KF o
                    have Y0 : W5.cell? ⟨w1.heap.size + 1, 0, none⟩ = some (.int .i64 t1.hd.1) := by rw [hW5]; exact (cell_far (by simp; omega)).trans JY0
                    have Y1 : W5.cell? ⟨w1.heap.size + 1, 1, none⟩ = some (.int .u64 t1.hd.2.1) := by rw [hW5]; exact (cell_far (by simp; omega)).trans JY1
                    have Y2 : W5.cell? ⟨w1.heap.size + 1, 2, none⟩ = some (.slice a3 l3 q3) := by rw [hW5]; exact (cell_far (by simp; omega)).trans JY2
                    have Y3 : W5.cell? ⟨w1.heap.size + 1, 3, none⟩ = some (.slice a4 l4 q4) := by rw [hW5]; exact (cell_far (by simp; omega)).trans JY3
                    have aS5 : AgreeS (fun b => b < B0) w3 (W5.alloc (ob t1 (.slice a3 l3 q3) (.slice a4 l4 q4) 32)) := fun b hb => by rw [Below.heap_alloc _ _ _ (by have := hsz5.out; omega), hW5, Below.heap_setCell _ _ _ _ (by simp; omega)]
                    have aA5 : Agree (w.heap.size + 4) w3.heap.size w3 (W5.alloc (ob t1 (.slice a3 l3 q3) (.slice a4 l4 q4) 32)) := fun b h1 h2 => by rw [Below.heap_alloc _ _ _ (by have := hsz5.out; omega), hW5, Below.heap_setCell _ _ _ _ (by simp; omega)]
                    have hs5 : w3.heap.size ≤ (W5.alloc (ob t1 (.slice a3 l3 q3) (.slice a4 l4 q4) 32)).heap.size := by simp; have := hsz5.out; omega
                    have I5A := hid (I3A'.out.agree aS5 aA5 hs5)
                    have i5B := I3B'.out.agree aS5 aA5 hs5
                    have ltB5 := hid I3B'.out.lt
                    have HRB5 : Hid (RepS (fun b => b < B0 ∨ (wr.heap.size ≤ b ∧ b < w1.heap.size)) (W5.alloc (ob t1 (.slice a3 l3 q3) (.slice a4 l4 q4) 32)) (d + 1) t1 (.slice a3 l3 q3) (.slice a4 l4 q4)) :=
                      HRB3.out.agree (fun b hb => (Or.elim hb (fun hb => aS5 b hb) (fun hb => aA5 b (by omega) (by omega)))) (fun _ h => h)
                    have BL5 : Hid (Below (w.heap.size + 2) W0 (W5.alloc (ob t1 (.slice a3 l3 q3) (.slice a4 l4 q4) 32))) := by
                      have := (BL3.out.setCell (p := ⟨w.heap.size + 1 + 1, 3, none⟩) (by simp) (Value.slice (some ⟨g', 0, none⟩) (k + 1) cap'))
                      rw [← hW5] at this
                      exact this.alloc (by have := hsz5.out; omega) _
                    rw [← hW5]
                    obtain ⟨hoB, ps2, hl2, hown2, hkid2⟩ := i5B
                    rw [HK.out] at hown2
                    have HOB := hid hoB
                    have HLL2 := hid hl2
                    have HO2 := hid hown2
                    have HKid2 := hid hkid2
                    have hnews2 := hid (newsOb W5 t1 (.slice a3 l3 q3) (.slice a4 l4 q4) 32)
                    have hw5 : w1.heap.size + 1 + 1 + 1 ≤ W5.heap.size := by have := hsz5.out; omega
                    have hg7 : w.heap.size + 1 + 1 < W5.heap.size := by omega
                    have hg8 : w.heap.size + 1 + 1 + 1 < W5.heap.size := by omega
                    have gat : Hid (g' < wr.heap.size ∨ w1.heap.size ≤ g') := HGAT
                    clear hW5 J0 J1 J2 J3 JF K0 K1 K2 K3 KF JY0 JY1 JY2 JY3 aS5 aA5 hs5 hoB hl2 hown2 hkid2
                    go_wp2_with (at_builtin; go_must (refine wpList_append_lies _ rfl _ _ 30 rfl (w.heap.size + 4) 32 i2 _ 4 64 Try.underlying30 hi2 hz0 hz1 hz2 rfl (by decide) _ k (cellsK ts ps2) rfl HO2.out ⟨W5.heap.size, 0, none⟩ 1 1 (cell4 t1 (.slice a3 l3 q3, .slice a4 l4 q4)) rfl rfl hnews2.out hone2.out (by omega) (by unfold maxLen; omega) (by omega) (by simp; omega) (W5.heap.size + 1) (by simp) ?_))
                    intro g2 cap2 w4 hown4 hgrow4 hat4 hlt4
                    have hs4 := hgrow4.size
                    simp only [World.size_alloc] at hs4
                    obtain ⟨I7B, I7A⟩ := grow_one (va := .slice avb k cvb) (vb := .slice (some ⟨g', 0, none⟩) (k + 1) cap') (cap := cap2) HK.out (by omega) (by simp; omega) HOB.out HLL2.out HKid2.out I5A.out HRB5.out (by omega) (by simp; omega) (fun r e => ⟨(ltB5.out r e).1, .inl (ltB.out r e).2⟩) (fun r e => by simp only [Value.ownBlock, Option.some.injEq] at e; subst e; exact gat.out) hown4 hgrow4 (by simpa using hat4) hlt4
                    have I7A' := hid I7A
                    have I7B' := hid I7B
                    have hneA : some (w.heap.size + 1 + 1) ≠ (Value.slice avb k cvb).ownBlock := fun e => by have := (ltB.out _ e.symm).1; omega
                    have hneB : some (w.heap.size + 1 + 1 + 1) ≠ (Value.slice avb k cvb).ownBlock := fun e => by have := (ltB.out _ e.symm).1; omega
                    have J : ∀ bb oo, bb < W5.heap.size → some bb ≠ (Value.slice avb k cvb).ownBlock → w4.cell? ⟨bb, oo, none⟩ = W5.cell? ⟨bb, oo, none⟩ := fun bb oo h hn => by
                      rw [hgrow4.cell_far ⟨bb, oo, none⟩ (by simp; omega) hn, World.cell?_alloc_past _ _ _ h]
                    have Jf : ∀ bb oo, bb < W5.heap.size → some bb ≠ (Value.slice avb k cvb).ownBlock → w4.frozen? ⟨bb, oo, none⟩ = W5.frozen? ⟨bb, oo, none⟩ := fun bb oo h hn => by
                      rw [hgrow4.frozen_far ⟨bb, oo, none⟩ (by simp; omega) hn, World.frozen?_alloc_past _ _ _ h]
                    have J0 := (J _ 0 hg7 hneA).trans L0
                    have J1 := (J _ 1 hg7 hneA).trans L1
                    have J2 := (J _ 2 hg7 hneA).trans L2
                    have J3 := (J _ 3 hg7 hneA).trans L3
                    have JF : ∀ o, w4.frozen? ⟨w.heap.size + 1 + 1, o, none⟩ = false := fun o => (Jf _ o hg7 hneA).trans (LF o)
                    have K0 := (J _ 0 hg8 hneB).trans N0
                    have K1 := (J _ 1 hg8 hneB).trans N1
                    have K2 := (J _ 2 hg8 hneB).trans N2
                    have K3 := (J _ 3 hg8 hneB).trans N3
                    have KF : ∀ o, w4.frozen? ⟨w.heap.size + 1 + 1 + 1, o, none⟩ = false := fun o => (Jf _ o hg8 hneB).trans (NF o)
                    have BL7 := hid (BL5.out.grown hgrow4 (by simp; omega) (fun r e => by have := (ltB.out r e).1; omega))
                    have hmL : p + m ≤ L := by
                      have h1 := bld_le d (nl.drop p)
                      rw [HNN.out, List.length_drop, HL.out] at h1
                      simp only at h1
                      omega
                    clear hown4 hgrow4 hat4 I7A I7B J Jf L0 L1 L2 L3 LF N0 N1 N2 N3 NF Y0 Y1 Y2 Y3 HO2 HOB HLL2 HKid2 I5A HRB5 hnews2 hneA hneB hg7 hg8
                    go_wp2_with fail
                    go_roundw
                    case rel =>
                      have hstep : bldGo (bld d) nl many (fuel - 1) ((k + 1 : Nat) : Int) (p + m) (ts ++ [t1]) = st := by
                        have h := HGO.out
                        rw [bldGo_step hin (by rw [HL.out]; exact hpl) HFU.out (by rw [HNN.out]; exact hm0), HNN.out] at h
                        rw [← h, Int.natCast_add]; rfl
                      have aS : AgreeS (fun b => b < B0) w4 (w4.setCell ⟨w.heap.size + 1 + 1 + 1, 3, none⟩ (Value.slice (some ⟨g2, 0, none⟩) (k + 1) cap2)) := fun b hb => Below.heap_setCell _ _ _ _ (by simp; omega)
                      have aA : Agree (w.heap.size + 4) w4.heap.size w4 (w4.setCell ⟨w.heap.size + 1 + 1 + 1, 3, none⟩ (Value.slice (some ⟨g2, 0, none⟩) (k + 1) cap2)) := fun b h1 h2 => Below.heap_setCell _ _ _ _ (by simp; omega)
                      exact ⟨p + m, k + 1, _, _, by go_num, by go_num, by omega, hmL, (cell_far (by simp)).trans J0, (cell_far (by simp)).trans J1, (cell_far (by simp)).trans J2, (cell_far (by simp)).trans J3, fun o => by rw [World.frozen?_setCell]; exact JF o,
                        (cell_set_ne (by omega)).trans K0, (cell_set_ne (by omega)).trans K1, (cell_set_ne (by omega)).trans K2, World.cell?_setCell_same _ _ _ K3, fun o => by rw [World.frozen?_setCell]; exact KF o,
                        fuel - 1, ts ++ [t1], by simp [HK.out], by have := HFU.out; have := HL.out; omega, hstep, I7A'.out.agree aS aA (by simp), I7B'.out.agree aS aA (by simp), BL7.out.setCell (by simp) _, by simp; omega⟩
                    case measure => simp [intOf]; omega
              · have hpI : ¬ (p : Int) < (L : Int) := by omega
                go_wp2_with fail
                as_aux_lemma =>
                  have bl : Below (w.heap.size + 2) W0 wr := by obtain ⟨_, _, _, _, _, _, _, h, _⟩ := HI.out; exact h
                  have r0 := (bl.cell (p := ⟨w.heap.size, 0, none⟩) (by simp)).trans p0.out
                  have r1 := (bl.cell (p := ⟨w.heap.size, 1, none⟩) (by simp)).trans p1.out
                  have r2 := (bl.cell (p := ⟨w.heap.size, 2, none⟩) (by simp)).trans p2.out
                  have r3 := (bl.cell (p := ⟨w.heap.size, 3, none⟩) (by simp)).trans p3.out
                  have rf : ∀ o, World.frozen? wr ⟨w.heap.size, o, none⟩ = false := fun o => (bl.frozen (p := ⟨w.heap.size, o, none⟩) (by simp)).trans (pf.out o)
                  have u0 := (bl.cell (p := ⟨w.heap.size + 1, 0, none⟩) (by simp)).trans qq0.out
                  have u1 := (bl.cell (p := ⟨w.heap.size + 1, 1, none⟩) (by simp)).trans qq1.out
                  have u2 := (bl.cell (p := ⟨w.heap.size + 1, 2, none⟩) (by simp)).trans qq2.out
                  have u3 := (bl.cell (p := ⟨w.heap.size + 1, 3, none⟩) (by simp)).trans qq3.out
                  have uf : ∀ o, World.frozen? wr ⟨w.heap.size + 1, o, none⟩ = false := fun o => (bl.frozen (p := ⟨w.heap.size + 1, o, none⟩) (by simp)).trans (qqf.out o)
                  refine tail14 (z := w.heap.size) f0 f1 f2 f3 g0 g1 g2 g3 r0 r1 r2 r3 u0 u1 u2 u3 rf uf (by assumption) ?_
                  obtain ⟨e1, e2, e3, ra, rb, hbl⟩ := build_fin hB hB0.out HI.out (by omega) (.inl (fun h => by have h2 := h.2; rw [HL.out] at h2; omega)) HR.out n0 n1 HBy.out (fun b hb => set8_far (by omega) (by omega)) set8_size set8_below
                  exact ⟨_, _, _, _, by rw [e1, e2, e3], ra, rb, hbl⟩
            · go_wp2_with fail
              as_aux_lemma =>
                have bl : Below (w.heap.size + 2) W0 wr := by obtain ⟨_, _, _, _, _, _, _, h, _⟩ := HI.out; exact h
                have r0 := (bl.cell (p := ⟨w.heap.size, 0, none⟩) (by simp)).trans p0.out
                have r1 := (bl.cell (p := ⟨w.heap.size, 1, none⟩) (by simp)).trans p1.out
                have r2 := (bl.cell (p := ⟨w.heap.size, 2, none⟩) (by simp)).trans p2.out
                have r3 := (bl.cell (p := ⟨w.heap.size, 3, none⟩) (by simp)).trans p3.out
                have rf : ∀ o, World.frozen? wr ⟨w.heap.size, o, none⟩ = false := fun o => (bl.frozen (p := ⟨w.heap.size, o, none⟩) (by simp)).trans (pf.out o)
                have u0 := (bl.cell (p := ⟨w.heap.size + 1, 0, none⟩) (by simp)).trans qq0.out
                have u1 := (bl.cell (p := ⟨w.heap.size + 1, 1, none⟩) (by simp)).trans qq1.out
                have u2 := (bl.cell (p := ⟨w.heap.size + 1, 2, none⟩) (by simp)).trans qq2.out
                have u3 := (bl.cell (p := ⟨w.heap.size + 1, 3, none⟩) (by simp)).trans qq3.out
                have uf : ∀ o, World.frozen? wr ⟨w.heap.size + 1, o, none⟩ = false := fun o => (bl.frozen (p := ⟨w.heap.size + 1, o, none⟩) (by simp)).trans (qqf.out o)
                refine tail14 (z := w.heap.size) f0 f1 f2 f3 g0 g1 g2 g3 r0 r1 r2 r3 u0 u1 u2 u3 rf uf (by assumption) ?_
                obtain ⟨e1, e2, e3, ra, rb, hbl⟩ := build_fin hB hB0.out HI.out (by omega) (.inl (fun h => by have := h.1; omega)) HR.out n0 n1 HBy.out (fun b hb => set8_far (by omega) (by omega)) set8_size set8_below
                exact ⟨_, _, _, _, by rw [e1, e2, e3], ra, rb, hbl⟩

theorem build_any : ∀ d, d ≤ 12 → BuildOk d
  | 0, _ => build_zero
  | d + 1, hd => by
    intro B0 v ns w h hB
    cases ns with
    | nil =>
      obtain ⟨a, cap, rfl, h2, h3, h4, h5⟩ := h
      refine (build_no a 0 cap (d + 1) w (.inl rfl) (by omega) hd).mono ?_
      rintro e w1 ⟨rfl, hb⟩
      exact ⟨_, _, _, _, rfl, repS_zero _ _ _, repS_zero _ _ _, hb⟩
    | cons x ns => exact build_step d (d + 1) rfl hd (build_any d (by omega)) x ns B0 v w h hB

end Go.Proofs.Ytnnanmpogjmkiaa
