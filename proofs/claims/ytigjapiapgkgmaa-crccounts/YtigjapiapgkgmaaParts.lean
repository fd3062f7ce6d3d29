/-
  CrcParts, walked: however the bytes come.
-/
import Derived.Test.YtigjapiapgkgmaaJoins
import Derived.Deep.DeepCutAuto
import Derived.Deep.RegionWith
namespace Go.Proofs.Ytigjapiapgkgmaa
open Go.RowKit

/-- A slice of slices of bytes that came in. -/
def Rows2 (w : World) (a : Option Addr) (n : Nat) (A : Nat → Option Addr) (L C : Nat → Nat) (B : Nat → List Nat) : Prop :=
  ∀ r, r < n → ∃ g o, a = some ⟨g, o, none⟩ ∧ g < w.heap.size ∧ w.cell? ⟨g, o + r, none⟩ = some (.slice (A r) (L r) (C r)) ∧ L r ≤ 9223372036854775807 ∧ (L r ≤ 300 → BySl w.heap.size w (.slice (A r) (L r) (C r)) (B r) ∧ (B r).length = L r)

/-- The first k, one behind the other. -/
def cat (B : Nat → List Nat) : Nat → List Nat
  | 0 => []
  | k + 1 => cat B k ++ B k

theorem Own.kept {w w' : World} {base b : Nat} {v : Value} {xs : List Nat} (h : Own w base v xs) (k : Kept b w w') (hb : b < base) : Own w' base v xs :=
  World.ownsRow.kept h (⟨k.os, k.tape, k.output, k.size, fun i hi hne => k.block i hi (by intro e; exact hne (by rw [e]))⟩ : w.grownBy w' (some b)) (by
    cases e : v.ownBlock with
    | none => exact .inl rfl
    | some x => exact .inr (by have := h.ge x e; simp; omega))

theorem Tab.belowB {b f B : Nat} {n : Int} {w w' : World} (h : Tab w b f n) (k : Below B w w') (hb : b < B) : Tab w' b f n := by
  obtain ⟨h1, h2, h3, h4, h5, h6, h7⟩ := h
  have ho : ∀ j, w'.cell? ⟨b, j, none⟩ = w.cell? ⟨b, j, none⟩ := fun j => k.cell (p := ⟨b, j, none⟩) hb
  refine ⟨Nat.lt_of_lt_of_le h1 k.size, (ho 0).trans h2, (ho 1).trans h3, (ho _).trans h4, fun j hj => ?_, fun e j hj => (ho _).trans (h6 e j hj), fun j => (k.frozen (p := ⟨b, j, none⟩) hb).trans (h7 j)⟩
  obtain ⟨x, hx⟩ := h5 j hj
  exact ⟨x, (ho _).trans hx⟩

/-- What stands behind k parts. -/
def PInv (w : World) (base : Nat) (B : Nat → List Nat) (k : Nat) (v : Value) (wr : World) : Prop :=
  Own wr base v (cat B k) ∧ Below w.heap.size w wr ∧ base ≤ wr.heap.size ∧ (∃ f m, (f = 0 ∨ f = 1) ∧ Tab wr w.heap.size f m) ∧ (cat B k).length ≤ 300 * k ∧ ∀ x ∈ cat B k, x < 256

theorem more_none : more 0 [] = 0 := nt_nt (r := 0) (by decide)

theorem zeros_two (s n m : Nat) : nt (stps (8 * m) (nt (nt (stps (8 * n) (nt s))))) = nt (stps (8 * (n + m)) (nt s)) := by
  rw [nt_nt (stps_lt _ (nt_lt s)), ← stps_add, Nat.mul_add]

set_option maxHeartbeats 4000000 in
set_option maxRecDepth 100000 in
theorem parts_walk (a : Option Addr) (n cap : Nat) (A : Nat → Option Addr) (L C : Nat → Nat) (B : Nat → List Nat) (s p q : Nat) (w : World) (hr : Rows2 w a n A L C B) (hn : n ≤ 40) (hs : s < 4294967296) (hp : p ≤ 1099511627776) (hq : q ≤ 1099511627776) :
    Calls Try.prog 5 #[.slice a n cap, .int .u32 s, .int .i64 p, .int .i64 q] w fun e w' => e = .returned (.bool true) ∧ Below w.heap.size w w' := by
  have HR := hid hr
  clear hr
  have hd1 : decide (40 < (n : Int)) = false := decide_eq_false (by omega)
  have hd2 : decide ((p : Int) < 0) = false := decide_eq_false (by omega)
  have hd3 : decide (1099511627776 < (p : Int)) = false := decide_eq_false (by omega)
  have hd4 : decide ((q : Int) < 0) = false := decide_eq_false (by omega)
  have hd5 : decide (1099511627776 < (q : Int)) = false := decide_eq_false (by omega)
  go_enter Try.func5, Try.ntmps5
  go_wp2_with fail
  refine (new_any w).mono ?_
  rintro e w1 ⟨rfl, hb1, hs1, ht1⟩
  have HB1 := hid hb1
  have HS1 := hid hs1
  have HT1 := hid ht1
  clear hb1 hs1 ht1
  go_wp2_with fail
  obtain ⟨base, hbase⟩ : ∃ b, w1.heap.size = b := ⟨_, rfl⟩
  have HBS := hid hbase
  have hbw : w.heap.size < base := by rw [← hbase, HS1.out]; omega
  clear hbase
  go_loopw [10, 11, 12, 13] (fun s10 s11 s12 s13 wr => ∃ k : Nat, k ≤ n ∧ s13 = .int .i64 k ∧ s11 = .int .u32 (more 0 (cat B k) : Nat) ∧ s12 = .int .u32 (more 0 (cat B k) : Nat) ∧ Hid (PInv w base B k s10 wr)) (fun _ _ _ s13 _ => n - (intOf s13).toNat)
  case atStart =>
    have e0 : more 0 (cat B 0) = 0 := more_none
    refine ⟨0, Nat.zero_le _, rfl, by rw [e0]; rfl, by rw [e0]; rfl, ?_, HB1.out.alloc HB1.out.size _, by rw [← HBS.out]; simp, ⟨0, 0, .inl rfl, HT1.out.below ((Below.refl _ _).alloc (Nat.le_refl _) _)⟩, by simp [cat], by simp [cat]⟩
    rw [← HBS.out]
    exact own_empty w1
  case round =>
    obtain ⟨k, hk, rfl, rfl, rfl, H⟩ := hrel
    by_cases hlt : k < n
    · obtain ⟨g, o, rfl, hg, hc, hL, hB⟩ := HR.out k hlt
      have hc1 := (H.out.2.1.cell (p := ⟨g, o + k, none⟩) hg).trans hc
      have HBk := hid hB
      clear hB
      have hcat : Hid (cat B (k + 1) = cat B k ++ B k) := rfl
      obtain ⟨ar, har⟩ : ∃ x, A k = x := ⟨_, rfl⟩
      obtain ⟨lr, hlr⟩ : ∃ x, L k = x := ⟨_, rfl⟩
      obtain ⟨cr, hcr⟩ : ∃ x, C k = x := ⟨_, rfl⟩
      rw [har, hlr, hcr] at hc1 HBk
      rw [hlr] at hL
      clear har hlr hcr hc
      by_cases hbig : 300 < lr
      · go_wp2_with fail
        refine (alive_any wr).mono ?_
        rintro e w5 ⟨rfl, hb5⟩
        have HB5 := hid hb5
        clear hb5
        go_wp2_with fail
        go_ret
        exact ⟨rfl, H.out.2.1.trans (HB5.out.mono H.out.2.1.size)⟩
      · obtain ⟨hby, hbl⟩ := HBk.out (by omega)
        have HY := hid hby
        have HYL := hid hbl
        clear hby hbl HBk
        go_wp2_with (at_builtin; refine app_bytes wr rfl _ _ rfl base w.heap.size _ _ (cat B k) (B k) rfl rfl H.out.1 (HY.out.kept (Kept.below H.out.2.1)) (by have := H.out.2.2.2.2.1; have := HYL.out; omega) H.out.2.2.1 ?_; intro v2 w2 hown2 hbel2; have hc2 := (hbel2.cell (p := ⟨g, o + k, none⟩) (show g < base by omega)).trans hc1; have HO2 := hid hown2; have HB2 := hid hbel2; clear hown2 hbel2)
        obtain ⟨f, m, hf, ht⟩ := H.out.2.2.2.1
        have HT2 := hid (ht.belowB HB2.out hbw)
        have HW2 := hid (H.out.2.1.trans (HB2.out.mono (Nat.le_of_lt hbw)))
        clear ht hc1
        refine (more_any w.heap.size f m _ (more_lt _ _) _ (B k) w2 hf HT2.out (HY.out.kept (Kept.below HW2.out))).mono ?_
        rw [more_more 0 (cat B k) (B k) H.out.2.2.2.2.2, ← hcat.out]
        rintro e w3 ⟨rfl, hk3, ht3⟩
        have hc3 := (hk3.cell (p := ⟨g, o + k, none⟩) (Nat.lt_of_lt_of_le hg HW2.out.size) (show g ≠ w.heap.size by omega)).trans hc2
        have HO3 := hid (HO2.out.kept hk3 hbw)
        have HT3 := hid ht3
        have HK3 : Hid (Below w.heap.size w w3) := Kept.toBelow HW2.out hk3 (Nat.le_refl _)
        have hsz3 : Hid (base ≤ w3.heap.size) := Nat.le_trans (Nat.le_trans H.out.2.2.1 HB2.out.size) hk3.size
        clear hk3 ht3 hc2 HO2 HT2
        have HJ : Hid (stps (8 * (lr : Int).toNat) (more 0 (cat B k)) ^^^ more 0 (B k) = more 0 (cat B (k + 1))) := by
          obtain ⟨_, _, _, _, _, _, _, hx, _⟩ := HY.out
          rw [Hid, show (lr : Int).toNat = (B k).length by have := HYL.out; omega, join_more (more_lt _ _) (B k) hx, more_more 0 (cat B k) (B k) H.out.2.2.2.2.2]
          rfl
        have HP : Hid (∀ wx, Own wx base v2 (cat B (k + 1)) → Below w.heap.size w wx → base ≤ wx.heap.size → Tab wx w.heap.size 1 (wrap64 (wrap64 (m + ((B k).length : Int)) + ((B k).length : Int))) → PInv w base B (k + 1) v2 wx) := by
          intro wx h1 h2 h3 h4
          obtain ⟨_, _, _, _, _, _, _, hx, _⟩ := HY.out
          refine ⟨h1, h2, h3, ⟨1, _, .inr rfl, h4⟩, ?_, ?_⟩
          · have a1 := H.out.2.2.2.2.1
            have a2 := HYL.out
            rw [hcat.out, List.length_append]
            omega
          · intro x hx'
            rw [hcat.out] at hx'
            rcases List.mem_append.1 hx' with h | h
            · exact H.out.2.2.2.2.2 x h
            · exact hx x h
        rw [← hcat.out] at HO3
        go_upto_region 13 with fail
        obtain ⟨S0, hS0⟩ : ∃ S, more 0 (cat B k) = S := ⟨_, rfl⟩
        obtain ⟨S1, hS1⟩ : ∃ S, more 0 (cat B (k + 1)) = S := ⟨_, rfl⟩
        obtain ⟨SB, hSB⟩ : ∃ S, more 0 (B k) = S := ⟨_, rfl⟩
        have hs0 : S0 < 4294967296 := by rw [← hS0]; exact more_lt _ _
        have hsb : SB < 4294967296 := by rw [← hSB]; exact more_lt _ _
        rw [hS0, hS1, hSB] at HJ
        have HS1' := hid hS1
        have HSB' := hid hSB
        rw [hS0, hS1]
        clear hS0 hS1 hSB
        have c12 : Hid (Calls Try.prog 12 #[.pointer (some ⟨w.heap.size, 0, none⟩), .slice ar lr cr] w3.drew fun e w4 => e = .returned (.int .u32 (SB : Nat)) ∧ Hid (PInv w base B (k + 1) v2 w4) ∧ w4.cell? ⟨g, o + k, none⟩ = some (.slice ar lr cr)) := by
          have h := sum_any w.heap.size 1 _ (.slice ar lr cr) (B k) w3.drew (.inr rfl) (HT3.out : Tab w3.drew w.heap.size 1 _) ((HY.out.kept (Kept.below HK3.out)).kept (Kept.refl _ _).drew)
          refine h.mono ?_
          rw [HSB'.out]
          rintro e w4 ⟨rfl, hk4, ht4⟩
          have hk5 : Kept w.heap.size w3 w4 := (Kept.refl _ _).drew.trans hk4
          refine ⟨rfl, HP.out w4 (HO3.out.kept hk5 hbw) (Kept.toBelow HK3.out hk5 (Nat.le_refl _)) (Nat.le_trans hsz3.out hk5.size) ht4, (hk5.cell (p := ⟨g, o + k, none⟩) (Nat.lt_of_lt_of_le hg HK3.out.size) (show g ≠ w.heap.size by omega)).trans hc3⟩
        have c19 : Hid (∀ w4 : World, Calls Try.prog 19 #[.pointer (some ⟨w.heap.size, 0, none⟩), .int .u32 S0, .int .u32 SB, .int .i64 lr] w4 fun e w5 => e = .returned (.int .u32 (S1 : Nat)) ∧ w5 = w4) := by
          intro w4
          refine (join_any _ S0 SB lr hs0 hsb (by omega) (by omega) w4).mono ?_
          rw [HJ.out]
          rintro e w5 ⟨rfl, h5⟩
          exact ⟨rfl, h5⟩
        clear HJ
        go_region_with (first | (go_at_call 12; refine c12.out.mono ?_; rintro e w4 ⟨rfl, HP4, hc4⟩) | (go_at_call 19; refine (c19.out w4).mono ?_; rintro e w5 ⟨rfl, h5⟩; subst w5))
        all_goals (go_wp2_with fail; exact ⟨⟨k + 1, by omega, by go_num, by rw [HS1'.out], by rw [HS1'.out], HP4⟩, by simp [intOf]; omega⟩)
    · have : k = n := by omega
      subst this
      obtain ⟨f, m, hf, ht⟩ := H.out.2.2.2.1
      have HT := hid ht
      clear ht
      have HC := hid (Own.bySl H.out.1 hbw (by have := H.out.2.2.2.2.1; omega) H.out.2.2.2.2.2)
      go_wp2_with fail
      refine (sum_any w.heap.size f m _ (cat B k) wr hf HT.out HC.out).mono ?_
      rintro e w4 ⟨rfl, hk4, ht4⟩
      have HB4 : Hid (Below w.heap.size w w4) := Kept.toBelow H.out.2.1 hk4 (Nat.le_refl _)
      clear hk4 ht4
      obtain ⟨S0, hS0⟩ : ∃ S, more 0 (cat B k) = S := ⟨_, rfl⟩
      rw [hS0]
      clear hS0
      go_wp2_with fail
      refine (zeros_any ⟨w.heap.size, 0, none⟩ s p hs (by omega) _).mono ?_
      rw [show (p : Int).toNat = p by omega]
      rintro e w5 ⟨rfl, h5⟩
      subst w5
      have hz2 := hid (zeros_two s p q)
      obtain ⟨Z1, hZ1⟩ : ∃ Z, nt (stps (8 * p) (nt s)) = Z := ⟨_, rfl⟩
      have hz1 : Z1 < 4294967296 := by rw [← hZ1]; exact nt_lt _
      rw [hZ1] at hz2 ⊢
      clear hZ1
      go_wp2_with fail
      refine (zeros_any ⟨w.heap.size, 0, none⟩ Z1 q hz1 (by omega) _).mono ?_
      rw [show (q : Int).toNat = q by omega, hz2.out]
      rintro e w5 ⟨rfl, h5⟩
      subst w5
      obtain ⟨Z2, hZ2⟩ : ∃ Z, nt (stps (8 * (p + q)) (nt s)) = Z := ⟨_, rfl⟩
      have HZ2 := hid hZ2
      rw [hZ2]
      clear hZ2
      go_wp2_with fail
      refine (zeros_any ⟨w.heap.size, 0, none⟩ s _ hs (by omega) _).mono ?_
      rw [show ((p : Int) + (q : Int)).toNat = p + q by omega, HZ2.out]
      rintro e w5 ⟨rfl, h5⟩
      subst w5
      go_wp2_with fail
      refine (alive_any w4).mono ?_
      rintro e w5 ⟨rfl, hb5⟩
      have HB5 := hid hb5
      clear hb5
      go_wp2_with fail
      go_ret
      exact ⟨rfl, HB4.out.trans (HB5.out.mono HB4.out.size)⟩

set_option maxHeartbeats 1000000 in
theorem parts_other (a : Option Addr) (n cap : Nat) (s p q : Int) (w : World) (b1 : n ≤ 9223372036854775807) (h : 40 < n ∨ p < 0 ∨ 1099511627776 < p ∨ q < 0 ∨ 1099511627776 < q) :
    Calls Try.prog 5 #[.slice a n cap, .int .u32 s, .int .i64 p, .int .i64 q] w fun e w' => e = .returned (.bool true) ∧ Below w.heap.size w w' := by
  have hend : Hid (Calls Try.prog 8 #[] w fun e w' => e = .returned (.bool true) ∧ Hid (Below w.heap.size w w')) := alive_any w
  by_cases h1 : 40 < n
  · clear h
    go_enter Try.func5, Try.ntmps5
    go_wp2_with fail
    refine hend.out.mono ?_
    rintro e w1 ⟨rfl, HB⟩
    go_wp2_with fail
    go_ret
    exact ⟨rfl, HB.out⟩
  · by_cases h2 : p < 0
    · clear h
      go_enter Try.func5, Try.ntmps5
      go_wp2_with fail
      refine hend.out.mono ?_
      rintro e w1 ⟨rfl, HB⟩
      go_wp2_with fail
      go_ret
      exact ⟨rfl, HB.out⟩
    · by_cases h3 : 1099511627776 < p
      · clear h
        go_enter Try.func5, Try.ntmps5
        go_wp2_with fail
        refine hend.out.mono ?_
        rintro e w1 ⟨rfl, HB⟩
        go_wp2_with fail
        go_ret
        exact ⟨rfl, HB.out⟩
      · by_cases h4 : q < 0
        · clear h
          go_enter Try.func5, Try.ntmps5
          go_wp2_with fail
          refine hend.out.mono ?_
          rintro e w1 ⟨rfl, HB⟩
          go_wp2_with fail
          go_ret
          exact ⟨rfl, HB.out⟩
        · have h5 : 1099511627776 < q := by omega
          clear h
          go_enter Try.func5, Try.ntmps5
          go_wp2_with fail
          refine hend.out.mono ?_
          rintro e w1 ⟨rfl, HB⟩
          go_wp2_with fail
          go_ret
          exact ⟨rfl, HB.out⟩

end Go.Proofs.Ytigjapiapgkgmaa
