/-
  CrcCounts, walked: how many bytes a table has gone through, and what a nil one says.
-/
import Derived.Test.YtigjapiapgkgmaaParts
import Derived.Test.YtigjapiapgkgmaaSums
namespace Go.Proofs.Ytigjapiapgkgmaa
open Go.RowKit

theorem nil_open (w : World) : Calls Try.prog 10 #[.pointer none, .slice none 0 0] w fun e w' => e = .returned (.tuple #[.slice none 0 0, .int .i64 18]) ∧ w' = w := by
  go_enter Try.func10, Try.ntmps10
  go_wp2_with fail
  go_ret2
  exact ⟨rfl, rfl⟩
theorem nil_more (s : Int) (w : World) : Calls Try.prog 14 #[.pointer none, .int .u32 s, .slice none 0 0] w fun e w' => e = .returned (.int .u32 0) ∧ w' = w := by
  go_enter Try.func14, Try.ntmps14
  go_wp2_with fail
  go_ret
  exact ⟨rfl, rfl⟩
theorem nil_sum (w : World) : Calls Try.prog 12 #[.pointer none, .slice none 0 0] w fun e w' => e = .returned (.int .u32 0) ∧ w' = w := by
  go_enter Try.func12, Try.ntmps12
  go_wp2_with fail
  refine (nil_more 0 w).mono ?_
  rintro e w1 ⟨rfl, h1⟩
  subst w1
  go_wp2_with fail
  go_ret
  exact ⟨rfl, rfl⟩
theorem nil_zeros (s n : Int) (w : World) : Calls Try.prog 20 #[.pointer none, .int .u32 s, .int .i64 n] w fun e w' => e = .returned (.int .u32 0) ∧ w' = w := by
  go_enter Try.func20, Try.ntmps20
  go_wp2_with fail
  go_ret
  exact ⟨rfl, rfl⟩
theorem nil_join (a b n : Int) (w : World) : Calls Try.prog 19 #[.pointer none, .int .u32 a, .int .u32 b, .int .i64 n] w fun e w' => e = .returned (.int .u32 0) ∧ w' = w := by
  go_enter Try.func19, Try.ntmps19
  go_wp2_with fail
  go_ret
  exact ⟨rfl, rfl⟩
theorem nil_seal (w : World) : Calls Try.prog 17 #[.pointer none, .slice none 0 0] w fun e w' => e = .returned (.slice none 0 0) ∧ w' = w := by
  go_enter Try.func17, Try.ntmps17
  go_wp2_with fail
  go_ret
  exact ⟨rfl, rfl⟩
theorem nil_done (w : World) : Calls Try.prog 21 #[.pointer none] w fun e w' => e = .returned (.int .i64 0) ∧ w' = w := by
  go_enter Try.func21, Try.ntmps21
  go_wp2_with fail
  go_ret
  exact ⟨rfl, rfl⟩

/-- The kinds that came in. -/
def Kinds (w : World) (a : Option Addr) (n : Nat) (K : Nat → Int) : Prop :=
  ∀ r, r < n → ∃ g o, a = some ⟨g, o, none⟩ ∧ g < w.heap.size ∧ w.cell? ⟨g, o + r, none⟩ = some (.int .i64 (K r))

theorem count_in (m l : Nat) (hm : m ≤ 100000) (hl : l ≤ 300) : wrap64 ((m : Int) + (l : Int)) = ((m + l : Nat) : Int) := by
  rw [IntWalk.wrap64_in _ ⟨by omega, by omega⟩]
  omega

/-- What stands behind k calls. -/
def CInv (w wr : World) (m k : Nat) : Prop := Below w.heap.size w wr ∧ (∃ f, (f = 0 ∨ f = 1) ∧ Tab wr w.heap.size f (m : Int)) ∧ m ≤ 300 * k

theorem CInv.next {w wr w' : World} {m m' k f : Nat} (h : CInv w wr m k) (hk : Kept w.heap.size wr w') (ht : Tab w' w.heap.size f (m' : Int)) (hf : f = 0 ∨ f = 1) (hm : m' ≤ m + 300) : CInv w w' m' (k + 1) :=
  ⟨Kept.toBelow h.1 hk (Nat.le_refl _), ⟨f, hf, ht⟩, by have := h.2.2; omega⟩

set_option maxHeartbeats 4000000 in
set_option maxRecDepth 100000 in
theorem counts_walk (a a' : Option Addr) (n cap n' cap' : Nat) (A : Nat → Option Addr) (L C : Nat → Nat) (B : Nat → List Nat) (K : Nat → Int) (w : World) (hr : Rows2 w a n A L C B) (hK : Kinds w a' n' K) (hn : n ≤ 40) (_hn' : n' ≤ 9223372036854775807) :
    Calls Try.prog 7 #[.slice a n cap, .slice a' n' cap'] w fun e w' => e = .returned (.bool true) ∧ Below w.heap.size w w' := by
  have HR := hid hr
  have HK := hid hK
  clear hr hK
  have hd1 : decide (40 < (n : Int)) = false := decide_eq_false (by omega)
  go_enter Try.func7, Try.ntmps7
  go_wp2_with fail
  refine (new_any w).mono ?_
  rintro e w1 ⟨rfl, hb1, hs1, ht1⟩
  have HB1 := hid hb1
  have HT1 := hid ht1
  clear hb1 hs1 ht1
  go_wp2_with fail
  go_loopw [6, 7] (fun s6 s7 wr => ∃ k m : Nat, k ≤ n ∧ s7 = .int .i64 k ∧ s6 = .int .i64 m ∧ Hid (CInv w wr m k)) (fun _ s7 _ => n - (intOf s7).toNat)
  case atStart => exact ⟨0, 0, Nat.zero_le _, rfl, rfl, HB1.out, ⟨0, .inl rfl, HT1.out⟩, by omega⟩
  case round =>
    obtain ⟨k, m, hk, rfl, rfl, H⟩ := hrel
    by_cases hlt : k < n
    · obtain ⟨g, o, rfl, hg, hc, hL, hB⟩ := HR.out k hlt
      have hc1 := (H.out.1.cell (p := ⟨g, o + k, none⟩) hg).trans hc
      have HBk := hid hB
      clear hB
      obtain ⟨ar, har⟩ : ∃ x, A k = x := ⟨_, rfl⟩
      obtain ⟨lr, hlr⟩ : ∃ x, L k = x := ⟨_, rfl⟩
      obtain ⟨cr, hcr⟩ : ∃ x, C k = x := ⟨_, rfl⟩
      rw [har, hlr, hcr] at hc1 HBk
      rw [hlr] at hL
      clear har hlr hcr hc
      have hm1 : m ≤ 12000 := by have := H.out.2.2; omega
      have hki : (k : Int) < (n : Int) := by omega
      by_cases hbig : 300 < lr
      · go_wp2_with fail
        refine (alive_any wr).mono ?_
        rintro e w5 ⟨rfl, hb5⟩
        have HB5 := hid hb5
        clear hb5
        go_wp2_with fail
        go_ret
        exact ⟨rfl, H.out.1.trans (HB5.out.mono H.out.1.size)⟩
      · obtain ⟨hby, hbl⟩ := HBk.out (by omega)
        have HY := hid (hby.kept (Kept.below H.out.1))
        have HYL := hid hbl
        clear hby hbl HBk
        obtain ⟨f, hf, ht⟩ := H.out.2.1
        have HT := hid ht
        clear ht
        have hgw : Hid (g < wr.heap.size) := Nat.lt_of_lt_of_le hg H.out.1.size
        have hgb : Hid (g ≠ w.heap.size) := by rw [Hid]; omega
        have HCI := hid (count_in m lr (by omega) (by omega))
        by_cases hkn : k < n'
        · obtain ⟨g', o', rfl, hg', hc'⟩ := HK.out k hkn
          have hk1 := (H.out.1.cell (p := ⟨g', o' + k, none⟩) hg').trans hc'
          clear hc'
          have hkni : (k : Int) < (n' : Int) := by omega
          obtain ⟨Kk, hKk⟩ : ∃ x, K k = x := ⟨_, rfl⟩
          rw [hKk] at hk1
          clear hKk
          by_cases q1 : Kk = 1
          · subst q1
            go_wp2_with fail
            refine (more_any w.heap.size f m 5 (by decide) _ (B k) wr hf HT.out HY.out).mono ?_
            rw [HYL.out, HCI.out]
            rintro e w2 ⟨rfl, hk2, ht2⟩
            have hc2 := (hk2.cell (p := ⟨g, o + k, none⟩) hgw.out hgb.out).trans hc1
            have HK2 := hid hk2
            have HT2 := hid ht2
            clear hk2 ht2
            go_wp2_with fail
            refine (done_any w.heap.size 1 _ w2 HT2.out).mono ?_
            rintro e w3 ⟨rfl, h3⟩
            subst w3
            go_wp2_with fail
            exact ⟨⟨k + 1, m + lr, by omega, by go_num, by go_num, H.out.next HK2.out HT2.out (.inr rfl) (by omega)⟩, by simp [intOf]; omega⟩
          · by_cases q2 : Kk = 2
            · subst q2
              go_wp2_with fail
              refine (seal_any w.heap.size f m _ (B k) wr hf HT.out HY.out (by rw [HYL.out]; omega)).mono ?_
              rw [HYL.out, HCI.out]
              rintro e w2 ⟨v2, rfl, _, hk2, ht2⟩
              have hc2 := (hk2.cell (p := ⟨g, o + k, none⟩) hgw.out hgb.out).trans hc1
              have HK2 := hid hk2
              have HT2 := hid ht2
              clear hk2 ht2
              go_wp2_with fail
              refine (done_any w.heap.size 1 _ w2 HT2.out).mono ?_
              rintro e w3 ⟨rfl, h3⟩
              subst w3
              go_wp2_with fail
              exact ⟨⟨k + 1, m + lr, by omega, by go_num, by go_num, H.out.next HK2.out HT2.out (.inr rfl) (by omega)⟩, by simp [intOf]; omega⟩
            · by_cases q3 : Kk = 3
              · subst q3
                by_cases h4 : lr < 4
                · go_wp2_with fail
                  refine (open_all w.heap.size f m _ (B k) wr hf HT.out HY.out (by rw [HYL.out]; omega)).mono ?_
                  rw [HYL.out, if_pos h4]
                  rintro e w2 ⟨hk2, ⟨f2, hf2, ht2⟩, v2, rfl, _⟩
                  have hc2 := (hk2.cell (p := ⟨g, o + k, none⟩) hgw.out hgb.out).trans hc1
                  have HK2 := hid hk2
                  have HT2 := hid ht2
                  clear hk2 ht2
                  go_wp2_with fail
                  refine (done_any w.heap.size f2 _ w2 HT2.out).mono ?_
                  rintro e w3 ⟨rfl, h3⟩
                  subst w3
                  go_wp2_with fail
                  exact ⟨⟨k + 1, m, by omega, by go_num, by go_num, H.out.next HK2.out HT2.out hf2 (by omega)⟩, by simp [intOf]; omega⟩
                · have HCJ := hid (count_in m (lr - 4) (by omega) (by omega))
                  go_wp2_with fail
                  refine (open_all w.heap.size f m _ (B k) wr hf HT.out HY.out (by rw [HYL.out]; omega)).mono ?_
                  rw [HYL.out, if_neg h4, HCJ.out]
                  rintro e w2 ⟨hk2, ⟨f2, hf2, ht2⟩, v2, rfl, _⟩
                  have hc2 := (hk2.cell (p := ⟨g, o + k, none⟩) hgw.out hgb.out).trans hc1
                  have HK2 := hid hk2
                  have HT2 := hid ht2
                  clear hk2 ht2
                  go_wp2_with fail
                  refine (done_any w.heap.size f2 _ w2 HT2.out).mono ?_
                  rintro e w3 ⟨rfl, h3⟩
                  subst w3
                  go_wp2_with fail
                  exact ⟨⟨k + 1, m + (lr - 4), by omega, by go_num, by go_num, H.out.next HK2.out HT2.out hf2 (by omega)⟩, by simp [intOf]; omega⟩
              · by_cases q4 : Kk = 4
                · subst q4
                  go_wp2_with fail
                  refine (zeros_any ⟨w.heap.size, 0, none⟩ 1 100 (by decide) (by decide) wr).mono ?_
                  rintro e w2 ⟨rfl, h2⟩
                  subst w2
                  generalize nt (stps (8 * (100 : Int).toNat) (nt 1)) = Z1
                  go_wp2_with fail
                  refine (join_any ⟨w.heap.size, 0, none⟩ 1 2 100 (by decide) (by decide) (by decide) (by decide) wr).mono ?_
                  rintro e w2 ⟨rfl, h2⟩
                  subst w2
                  generalize stps (8 * (100 : Int).toNat) 1 ^^^ 2 = Z2
                  go_wp2_with fail
                  refine (done_any w.heap.size f _ wr HT.out).mono ?_
                  rintro e w3 ⟨rfl, h3⟩
                  subst w3
                  go_wp2_with fail
                  exact ⟨⟨k + 1, m, by omega, by go_num, by go_num, H.out.next (Kept.refl _ _) HT.out hf (by omega)⟩, by simp [intOf]; omega⟩
                · have b1 : (Kk == 1) = false := by simpa using q1
                  have b2 : (Kk == 2) = false := by simpa using q2
                  have b3 : (Kk == 3) = false := by simpa using q3
                  have b4 : (Kk == 4) = false := by simpa using q4
                  go_wp2_with fail
                  refine (sum_any w.heap.size f m _ (B k) wr hf HT.out HY.out).mono ?_
                  rw [HYL.out, HCI.out]
                  rintro e w2 ⟨rfl, hk2, ht2⟩
                  generalize more 0 (B k) = Z1
                  have hc2 := (hk2.cell (p := ⟨g, o + k, none⟩) hgw.out hgb.out).trans hc1
                  have HK2 := hid hk2
                  have HT2 := hid ht2
                  clear hk2 ht2
                  go_wp2_with fail
                  refine (done_any w.heap.size 1 _ w2 HT2.out).mono ?_
                  rintro e w3 ⟨rfl, h3⟩
                  subst w3
                  go_wp2_with fail
                  exact ⟨⟨k + 1, m + lr, by omega, by go_num, by go_num, H.out.next HK2.out HT2.out (.inr rfl) (by omega)⟩, by simp [intOf]; omega⟩
        · have hkni : ¬ (k : Int) < (n' : Int) := by omega
          go_wp2_with fail
          refine (sum_any w.heap.size f m _ (B k) wr hf HT.out HY.out).mono ?_
          rw [HYL.out, HCI.out]
          rintro e w2 ⟨rfl, hk2, ht2⟩
          generalize more 0 (B k) = Z1
          have hc2 := (hk2.cell (p := ⟨g, o + k, none⟩) hgw.out hgb.out).trans hc1
          have HK2 := hid hk2
          have HT2 := hid ht2
          clear hk2 ht2
          go_wp2_with fail
          refine (done_any w.heap.size 1 _ w2 HT2.out).mono ?_
          rintro e w3 ⟨rfl, h3⟩
          subst w3
          go_wp2_with fail
          exact ⟨⟨k + 1, m + lr, by omega, by go_num, by go_num, H.out.next HK2.out HT2.out (.inr rfl) (by omega)⟩, by simp [intOf]; omega⟩
    · have : k = n := by omega
      subst this
      go_wp2_with fail
      refine (nil_open wr).mono ?_
      rintro e w2 ⟨rfl, h2⟩
      subst w2
      go_wp2_with fail
      refine (nil_sum wr).mono ?_
      rintro e w2 ⟨rfl, h2⟩
      subst w2
      go_wp2_with fail
      refine (nil_more _ wr).mono ?_
      rintro e w2 ⟨rfl, h2⟩
      subst w2
      go_wp2_with fail
      refine (nil_zeros _ _ wr).mono ?_
      rintro e w2 ⟨rfl, h2⟩
      subst w2
      go_wp2_with fail
      refine (nil_join _ _ _ wr).mono ?_
      rintro e w2 ⟨rfl, h2⟩
      subst w2
      go_wp2_with fail
      refine (nil_seal wr).mono ?_
      rintro e w2 ⟨rfl, h2⟩
      subst w2
      go_wp2_with fail
      refine (nil_done wr).mono ?_
      rintro e w2 ⟨rfl, h2⟩
      subst w2
      go_wp2_with fail
      refine (alive_any wr).mono ?_
      rintro e w5 ⟨rfl, hb5⟩
      have HB5 := hid hb5
      clear hb5
      go_wp2_with fail
      go_ret
      exact ⟨rfl, H.out.1.trans (HB5.out.mono H.out.1.size)⟩

set_option maxHeartbeats 400000 in
theorem counts_other (a a' : Option Addr) (n cap n' cap' : Nat) (w : World) (b1 : n ≤ 9223372036854775807) (h : 40 < n) :
    Calls Try.prog 7 #[.slice a n cap, .slice a' n' cap'] w fun e w' => e = .returned (.bool true) ∧ Below w.heap.size w w' := by
  go_enter Try.func7, Try.ntmps7
  go_wp2_with fail
  refine (alive_any w).mono ?_
  rintro e w1 ⟨rfl, hb⟩
  have HB := hid hb
  clear hb
  go_wp2_with fail
  go_ret
  exact ⟨rfl, HB.out⟩

end Go.Proofs.Ytigjapiapgkgmaa
