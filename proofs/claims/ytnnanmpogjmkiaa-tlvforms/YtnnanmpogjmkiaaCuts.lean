/-
  TlvCuts, walked: a form that is cut off is none, and forms of values that are not the same do not begin one another.
-/
import Derived.Test.YtnnanmpogjmkiaaLawKit
import Derived.Deep.RegionHeld3
import Derived.Deep.DeepCutAuto
namespace Go.Proofs.Ytnnanmpogjmkiaa
open Go.RowKit
attribute [local go_sem ↓] Go.wp_at_zero Go.wp_at_succ

theorem form_some {n : Nat} {t : Tr n} {B : Nat} {w : World} {a : Option Addr} {c : Nat} (h : BySl 0 B w (.slice a (formOf n t).length c) (formOf n t)) (hpos : 0 < (formOf n t).length) :
    ∃ b o, a = some ⟨b, o, none⟩ ∧ (formOf n t).length ≤ c ∧ c ≤ 9223372036854775807 := by
  obtain ⟨a', c', e, h2, h3, _, _, _, h7⟩ := h
  simp only [Value.slice.injEq, true_and] at e
  obtain ⟨rfl, rfl⟩ := e
  obtain ⟨b, o, e, _⟩ := h7 (by intro e; rw [e] at hpos; simp at hpos)
  exact ⟨b, o, e, h2, h3⟩

theorem form_pos {n : Nat} {t : Tr n} (_h : szT n t ≠ 0) : 0 < (formOf n t).length := by
  simp [formOf]

set_option maxHeartbeats 2000000 in
set_option maxRecDepth 100000 in
theorem cuts_walk (a1 : Option Addr) (l1 c1 : Nat) (a2 : Option Addr) (l2 c2 : Nat) (cut : Int) (w : World) (b1 b2 : Bool) (L1 : LightIs (.slice a1 l1 c1) w b1) (N1 : b1 = true → ∃ ns, NSl w.heap.size w (.slice a1 l1 c1) ns)
    (L2 : LightIs (.slice a2 l2 c2) w b2) (N2 : b2 = true → ∃ ns, NSl w.heap.size w (.slice a2 l2 c2) ns) (hc0 : -9223372036854775808 ≤ cut) (hc1 : cut ≤ 9223372036854775807) :
    Calls Try.prog 6 #[.slice a1 l1 c1, .slice a2 l2 c2, .int .i64 cut] w fun e w' => e = .returned (.bool true) ∧ Below w.heap.size w w' := by
  have HL1 := hid L1
  have HL2 := hid L2
  have HN1 := hid N1
  have HN2 := hid N2
  clear L1 L2 N1 N2
  go_enter Try.func6, Try.ntmps6
  go_wp2_with fail
  refine (HL1.out).mono ?_
  rintro e w' ⟨rfl, rfl⟩
  cases b1 with
  | false =>
    go_wp2_with fail
    refine (alive_any w').mono ?_
    rintro e w1 ⟨rfl, hb⟩
    have HB := hid hb
    clear hb
    go_wp2_with fail
    go_ret
    exact ⟨rfl, HB.out⟩
  | true =>
  obtain ⟨ns, hns⟩ := HN1.out rfl
  have HNS := hid hns
  clear hns HL1 HN1
  go_wp2_with fail
  refine (HL2.out).mono ?_
  rintro e w ⟨rfl, rfl⟩
  cases b2 with
  | false =>
    go_wp2_with fail
    refine (alive_any w).mono ?_
    rintro e w1 ⟨rfl, hb⟩
    have HB := hid hb
    clear hb
    go_wp2_with fail
    go_ret
    exact ⟨rfl, HB.out⟩
  | true =>
  obtain ⟨ms, hms⟩ := HN2.out rfl
  have HMS := hid hms
  clear hms HL2 HN2
  go_wp2_with fail
  as_aux_lemma =>
    refine (build12 HNS.out (Nat.le_refl _)).mono ?_
    rintro e w1 ⟨t, n1, a, l, c, a', l', c', b, m, d, b', m', d', rfl, ra, rb, hb1⟩
    have RA := hid ra
    have HB1 := hid hb1
    clear ra rb hb1
    go_wp2_with fail
    obtain ⟨W1, hW1⟩ : ∃ W1, ((w1.alloc (Obj.cells #[.int .i64 t.hd.1, .int .u64 t.hd.2.1, .slice a l c, .slice a' l' c'] 29)).alloc (Obj.cells #[.int .i64 t.hd.1, .int .u64 t.hd.2.1, .slice b m d, .slice b' m' d'] 32)) = W1 := ⟨_, rfl⟩
    have hk1 : Below w1.heap.size w1 W1 := by rw [← hW1]; exact ((Below.refl _ _).alloc (Nat.le_refl _) _).alloc (by simp) _
    have X1 : Hid (Box W1 w1.heap.size t.hd.1 t.hd.2.1 (.slice a l c) (.slice a' l' c')) := by rw [Hid, ← hW1]; exact (Box.new w1 _ _ _ _ _).below ((Below.refl _ _).alloc (Nat.le_refl _) _)
    rw [hW1]
    have RA1 := hid (rep_below RA.out hk1)
    have HBW1 : Hid (Below w.heap.size w W1) := HB1.out.trans (hk1.mono HB1.out.size)
    obtain ⟨g7, hg7⟩ : ∃ g, w1.heap.size = g := ⟨_, rfl⟩
    rw [hg7] at X1 ⊢
    clear hW1 hg7 hk1 RA HB1
    refine (build12 (HMS.out.below HBW1.out (Nat.le_refl _)) HBW1.out.size).mono ?_
    rintro e w2 ⟨u, n2, a3, l3, c3, a4, l4, c4, b3, m3, d3, b4, m4, d4, rfl, ra, rb, hb2⟩
    have RU := hid ra
    have HB2 := hid hb2
    clear ra rb hb2
    go_upto_region 5 with fail
    obtain ⟨W2, hW2⟩ : ∃ W2, ((w2.alloc (Obj.cells #[.int .i64 u.hd.1, .int .u64 u.hd.2.1, .slice a3 l3 c3, .slice a4 l4 c4] 29)).alloc (Obj.cells #[.int .i64 u.hd.1, .int .u64 u.hd.2.1, .slice b3 m3 d3, .slice b4 m4 d4] 32)) = W2 := ⟨_, rfl⟩
    have hk2 : Below w2.heap.size w2 W2 := by rw [← hW2]; exact ((Below.refl _ _).alloc (Nat.le_refl _) _).alloc (by simp) _
    have X2 : Hid (Box W2 w2.heap.size u.hd.1 u.hd.2.1 (.slice a3 l3 c3) (.slice a4 l4 c4)) := by rw [Hid, ← hW2]; exact (Box.new w2 _ _ _ _ _).below ((Below.refl _ _).alloc (Nat.le_refl _) _)
    rw [hW2]
    have X1' := hid ((X1.out.below HB2.out).below hk2)
    have RA2 := hid (rep_below (rep_below RA1.out HB2.out) hk2)
    have RU2 := hid (rep_below RU.out hk2)
    have HBW2 : Hid (Below w.heap.size w W2) := (HBW1.out.trans (HB2.out.mono HBW1.out.size)).trans (hk2.mono (Nat.le_trans HBW1.out.size HB2.out.size))
    obtain ⟨g10, hg10⟩ : ∃ g, w2.heap.size = g := ⟨_, rfl⟩
    rw [hg10] at X2 ⊢
    clear hW2 hg10 hk2 RU HB2 HBW1 RA1 X1 HNS HMS
    as_aux_lemma =>
      obtain ⟨z10, z11, z12, z13, z14⟩ := X1'.out
      go_wp2_with fail
      refine (put_one t _ _ W2 RA2.out).mono ?_
      rintro e w3 ⟨hp, hb3⟩
      have X1 := hid (X1'.out.below hb3)
      have X2' := hid (X2.out.below hb3)
      have RA3 := hid (rep_below RA2.out hb3)
      have RU3 := hid (rep_below RU2.out hb3)
      have HBW3 : Hid (Below w.heap.size w w3) := HBW2.out.trans (hb3.mono HBW2.out.size)
      clear z10 z11 z12 z13 z14 X1' X2 RA2 RU2 HBW2 hb3
      obtain ⟨z20, z21, z22, z23, z24⟩ := X2'.out
      rcases hp with ⟨hz, rfl⟩ | ⟨hz, ax, cx, rfl, hx⟩
      · have HZ := hid hz
        clear hz
        go_wp2_with fail
        refine (put_one u _ _ w3 RU3.out).mono ?_
        rintro e w4 ⟨hp, hb4⟩
        have HBW4 : Hid (Below w.heap.size w w4) := HBW3.out.trans (hb4.mono HBW3.out.size)
        clear z20 z21 z22 z23 z24 hb4
        rcases hp with ⟨_, rfl⟩ | ⟨_, _, _, rfl, _⟩
        all_goals
          go_wp2_with fail
          refine (alive_any w4).mono ?_
          rintro e w5 ⟨rfl, hb⟩
          have HB5 := hid hb
          clear hb
          go_wp2_with fail
          go_ret
          exact ⟨rfl, HBW4.out.trans (HB5.out.mono HBW4.out.size)⟩
      · obtain ⟨M, hM⟩ : ∃ M, (formOf 13 t).length = M := ⟨_, rfl⟩
        have HZ := hid hz
        have HM := hid hM
        have HX := hid hx
        rw [hM]
        clear hz hM hx
        go_wp2_with fail
        refine (put_one u _ _ w3 RU3.out).mono ?_
        rintro e w4 ⟨hp, hb4⟩
        have HBW4 : Hid (Below w.heap.size w w4) := HBW3.out.trans (hb4.mono HBW3.out.size)
        have Z1 := hid (X1.out.below hb4)
        have Z2 := hid (X2'.out.below hb4)
        have RA4 := hid (rep_below RA3.out hb4)
        have RU4 := hid (rep_below RU3.out hb4)
        have HX4 := hid (bySl_below HX.out hb4)
        clear z20 z21 z22 z23 z24 hb4 X1 X2' RA3 RU3 HX HBW3
        rcases hp with ⟨hz', rfl⟩ | ⟨hz', ay, cy, rfl, hy⟩
        · clear hz'
          go_wp2_with fail
          refine (alive_any w4).mono ?_
          rintro e w5 ⟨rfl, hb⟩
          have HB5 := hid hb
          clear hb
          go_wp2_with fail
          go_ret
          exact ⟨rfl, HBW4.out.trans (HB5.out.mono HBW4.out.size)⟩
        · obtain ⟨M', hM'⟩ : ∃ M, (formOf 13 u).length = M := ⟨_, rfl⟩
          have HZ' := hid hz'
          have HM' := hid hM'
          have HY4 := hid hy
          rw [hM']
          clear hz' hM' hy
          go_upto_region 9 with fail
          as_aux_lemma =>
            have hpx : 0 < (formOf 13 t).length := form_pos HZ.out
            have hpy : 0 < (formOf 13 u).length := form_pos HZ'.out
            obtain ⟨bx, ox, rfl, hx1, hx2⟩ := form_some HX4.out hpx
            obtain ⟨by', oy, rfl, hy1, hy2⟩ := form_some HY4.out hpy
            rw [HM.out] at hpx hx1
            rw [HM'.out] at hpy hy1
            obtain ⟨X, hX⟩ : ∃ X, formOf 13 t = X := ⟨_, rfl⟩
            obtain ⟨Y, hY⟩ : ∃ Y, formOf 13 u = Y := ⟨_, rfl⟩
            have HXX := hid hX
            have HYY := hid hY
            rw [hX] at HX4 HM
            rw [hY] at HY4 HM'
            clear hX hY
            go_cut [66] (fun s wx => s = .bool (decide (0 ≤ cut) && decide (cut < (M : Int))) ∧ wx = w4)
            case first =>
              by_cases h0 : 0 ≤ cut
              · by_cases hlt : cut < (M : Int)
                · go_wp2_with fail
                  go_meet
                  exact ⟨by simp; omega, rfl⟩
                · go_wp2_with fail
                  go_meet
                  exact ⟨by simp; omega, rfl⟩
              · go_wp2_with fail
                go_meet
                exact ⟨by simp; omega, rfl⟩
            case rest =>
              obtain ⟨hs66, hwc⟩ := hcut
              subst hs66 hwc
              go_upto_if 66 with fail
              go_cut [17, 18, 19] (fun _ _ _ wx => Hid (Below wc.heap.size wc wx))
              case first =>
                by_cases hq : (decide (0 ≤ cut) && decide (cut < (M : Int))) = true
                · simp only [Bool.and_eq_true, decide_eq_true_eq] at hq
                  obtain ⟨h0, hlt⟩ := hq
                  obtain ⟨k, rfl⟩ : ∃ k : Nat, cut = k := ⟨cut.toNat, by omega⟩
                  have hkM : k < M := by omega
                  have hkc : k ≤ cx := by omega
                  have hqt : (decide (0 ≤ (k : Int)) && decide ((k : Int) < (M : Int))) = true := by simp; omega
                  rw [hqt]
                  go_wp2_with fail
                  have hq : BySl 0 wc.heap.size wc (.slice (some ⟨bx, ox, none⟩) k cx) (X.take k) := bySl_take (by rw [HM.out]; rw [HM.out] at HX4; exact HX4.out) k (by rw [HM.out]; omega)
                  refine (take_any _ _ wc hq).mono ?_
                  rintro e w5 ⟨⟨_, rfl⟩ | ⟨_, _, _, _, _, hs, _⟩, hb⟩
                  · have HB := hid hb
                    clear hb hq
                    go_wp2_with fail
                    go_meet
                    exact HB.out.alloc HB.out.size _
                  · have := cut_none RA4.out.numOk (szT_right HZ.out) (c := k) (by rw [HXX.out, HM.out]; exact hkM)
                    rw [HXX.out, hs] at this
                    cases this
                · have hqf : (decide (0 ≤ cut) && decide (cut < (M : Int))) = false := by simpa using hq
                  rw [hqf]
                  go_wp2_with fail
                  go_meet
                  exact Below.refl _ _
              case rest =>
                have HC := hcut
                clear hcut
                have Q1 := hid (rep_below RA4.out HC.out)
                have Q2 := hid (rep_below RU4.out HC.out)
                have Y1 := hid (bySl_below HX4.out HC.out)
                have Y2 := hid (bySl_below HY4.out HC.out)
                have HBB : Hid (Below w.heap.size w wc) := HBW4.out.trans (HC.out.mono HBW4.out.size)
                obtain ⟨z10, z11, z12, z13, z14⟩ := Z1.out.below HC.out
                obtain ⟨z20, z21, z22, z23, z24⟩ := Z2.out.below HC.out
                obtain ⟨S, hS⟩ : ∃ S, sameT 13 t 13 u = S := ⟨_, rfl⟩
                have HS := hid hS
                have hfs : Hid (S = decide (X.take (min M M') = Y.take (min M M'))) := by
                  have := forms_same Q1.out.numOk (szT_right HZ.out) Q2.out.numOk (szT_right HZ'.out)
                  rw [hS, HXX.out, HYY.out, HM.out, HM'.out] at this
                  exact this
                clear hS HC Z1 Z2 RA4 RU4 HX4 HY4 HBW4
                go_upto_region 14 with fail
                obtain ⟨N, hN⟩ : ∃ N : Nat, (if M' < M then (M' : Int) else (M : Int)) = (N : Int) := ⟨min M M', by split <;> omega⟩
                have hNm : N = min M M' := by split at hN <;> omega
                rw [hN]
                have hN1 : N ≤ cx := by omega
                have hN2 : N ≤ cy := by omega
                have HNm := hid hNm
                clear hN hNm
                have C16 : ∀ w5 : World, Below wc.heap.size wc w5 → Calls Try.prog 16 #[.agg #[.int .i64 t.hd.1, .int .u64 t.hd.2.1, .slice a l c, .slice a' l' c'], .agg #[.int .i64 u.hd.1, .int .u64 u.hd.2.1, .slice a3 l3 c3, .slice a4 l4 c4]] w5 fun e w' => e = .returned (.bool S) ∧ Below wc.heap.size wc w' := by
                  intro w5 hb
                  refine (Same_any t u _ _ _ _ w5 (rep_below Q1.out hb) (rep_below Q2.out hb) (by omega)).mono ?_
                  rintro e w6 ⟨rfl, hb6⟩
                  exact ⟨by rw [HS.out], hb.trans (hb6.mono hb.size)⟩
                have C15 : ∀ w5 : World, Below wc.heap.size wc w5 → Calls Try.prog 15 #[.slice (some ⟨bx, ox, none⟩) N cx, .slice (some ⟨by', oy, none⟩) N cy] w5 fun e w' => e = .returned (.bool S) ∧ Below wc.heap.size wc w' := by
                  intro w5 hb
                  refine (refBytes_any _ _ (X.take N) (Y.take N) w5 (bySl_take (bySl_below Y1.out hb) N (by have := HM.out; have := HNm.out; omega)) (bySl_take (bySl_below Y2.out hb) N (by have := HM'.out; have := HNm.out; omega))).mono ?_
                  rintro e w6 ⟨rfl, hb6⟩
                  exact ⟨by rw [hfs.out, HNm.out], hb.trans (hb6.mono hb.size)⟩
                have K16 := hid C16
                have K15 := hid C15
                have K9 : Hid (∀ w5 : World, Below wc.heap.size wc w5 → Calls Try.prog 9 #[] w5 fun e w' => e = .returned (.bool true) ∧ Below wc.heap.size wc w') := fun w5 hb => alive_at hb
                have hss : (S == S) = true := by simp
                clear C16 C15 hfs HS
                as_aux_lemma =>
                  go_region_held3 (fun w' => w'.cell? ⟨g7, 0, none⟩ = some (.int .i64 t.hd.1) ∧ w'.cell? ⟨g7, 1, none⟩ = some (.int .u64 t.hd.2.1) ∧ w'.cell? ⟨g7, 2, none⟩ = some (.slice a l c) ∧ w'.cell? ⟨g7, 3, none⟩ = some (.slice a' l' c') ∧
                      w'.cell? ⟨g10, 0, none⟩ = some (.int .i64 u.hd.1) ∧ w'.cell? ⟨g10, 1, none⟩ = some (.int .u64 u.hd.2.1) ∧ w'.cell? ⟨g10, 2, none⟩ = some (.slice a3 l3 c3) ∧ w'.cell? ⟨g10, 3, none⟩ = some (.slice a4 l4 c4)) (go_keep)
                    (first
                      | (go_at_call 16; refine (K16.out wc.drew (Below.refl _ _).drew).mono ?_; rintro e w5 ⟨rfl, hb5⟩; have HB5 := hid hb5; have hc5 := (bcell hb5).1; clear hb5)
                      | (go_at_call 15; refine (K15.out w5 HB5.out).mono ?_; rintro e w7 ⟨rfl, hb7⟩; have HB7 := hid hb7; have hc7 := (bcell hb7).1; clear hb7)
                      | (go_at_call 9; refine (K9.out w7 HB7.out).mono ?_; rintro e w10 ⟨rfl, hb10⟩; have HB10 := hid hb10; have hc10 := (bcell hb10).1; clear hb10))
                  all_goals go_wp2_with fail
                  all_goals go_ret
                  all_goals exact ⟨rfl, HBB.out.trans (HB10.out.mono HBB.out.size)⟩

end Go.Proofs.Ytnnanmpogjmkiaa
