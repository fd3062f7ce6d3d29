/-
  TreeLooks: its walk.
-/
import Derived.Test.YtdpnahonidmohaaDoorTrRef6
import Derived.Test.YtdpnahonidmohaaDoorTrAlive
namespace Go.Proofs.YtdpnahonidmohaaDoor.Tr
open Go.RowKit

abbrev zI : It := (⟨#[]⟩, false, [])

set_option maxHeartbeats 4000000 in
set_option maxRecDepth 100000 in
theorem looks_no (w : World) (vt vu : Value) (t u : List It) (p : ByteArray) (ht : IRow Any w vt t) (hu : IRow Any w vu u) (h : ¬ (lightB t 30 = true ∧ lightB u 30 = true ∧ p.size ≤ 250)) :
    Calls Tryd.prog 3 #[vt, vu, .string p] w fun e w' => e = .returned (.bool true) ∧ Kp No w w' := by
  have HL1 := hid (fun (V : World) (k : Kp No w V) => light_any V vt t 30 (by decide) (ht.kept k))
  have HL2 := hid (fun (V : World) (k : Kp No w V) => light_any V vu u 30 (by decide) (hu.kept k))
  obtain ⟨a, c, rfl, _⟩ := ht.form
  obtain ⟨a', c', rfl, _⟩ := hu.form
  clear ht hu
  cases h1 : lightB t 30 with
  | false =>
    simp only [h1] at HL1
    clear h h1
    go_enter Tryd.func3, Tryd.ntmps3
    go_wp2_with (first
      | (go_at_call 6; refine (HL1.out _ (Kp.refl _ _)).mono ?_; rintro e wa ⟨rfl, hk⟩; have HKA := hid hk; clear hk)
      | (go_at_call 7; refine (alive_any _).mono ?_; rintro e w13 ⟨rfl, hk⟩; have HK13 := hid (HKA.out.andNone hk); clear hk))
    go_ret
    exact ⟨rfl, HK13.out⟩
  | true =>
    simp only [h1] at HL1
    cases h2 : lightB u 30 with
    | false =>
      simp only [h2] at HL2
      clear h h1 h2
      go_enter Tryd.func3, Tryd.ntmps3
      go_wp2_with (first
        | (go_at_call 6; refine (HL2.out _ HKA.out).mono ?_; rintro e w0 ⟨rfl, hk⟩; have HK0 := hid (HKA.out.andNone hk); clear hk)
        | (go_at_call 6; refine (HL1.out _ (Kp.refl _ _)).mono ?_; rintro e wa ⟨rfl, hk⟩; have HKA := hid hk; clear hk)
        | (go_at_call 7; refine (alive_any _).mono ?_; rintro e w13 ⟨rfl, hk⟩; have HK13 := hid (HK0.out.andNone hk); clear hk))
      go_ret
      exact ⟨rfl, HK13.out⟩
    | true =>
      have hp : (250 : Int) < (p.size : Int) := by
        have : ¬ p.size ≤ 250 := fun h3 => h ⟨h1, h2, h3⟩
        omega
      simp only [h2] at HL2
      clear h h1 h2
      go_enter Tryd.func3, Tryd.ntmps3
      go_wp2_with (first
        | (go_at_call 6; refine (HL2.out _ HKA.out).mono ?_; rintro e w0 ⟨rfl, hk⟩; have HK0 := hid (HKA.out.andNone hk); clear hk)
        | (go_at_call 6; refine (HL1.out _ (Kp.refl _ _)).mono ?_; rintro e wa ⟨rfl, hk⟩; have HKA := hid hk; clear hk)
        | (go_at_call 7; refine (alive_any _).mono ?_; rintro e w13 ⟨rfl, hk⟩; have HK13 := hid (HK0.out.andNone hk); clear hk))
      go_ret
      exact ⟨rfl, HK13.out⟩

set_option maxHeartbeats 8000000 in
set_option maxRecDepth 100000 in
theorem looks_yes (w : World) (vt vu : Value) (t u : List It) (p : ByteArray) (ht : IRow Any w vt t) (hu : IRow Any w vu u) (h1 : lightB t 30 = true) (h2 : lightB u 30 = true) (hp : p.size ≤ 250) :
    Calls Tryd.prog 3 #[vt, vu, .string p] w fun e w' => e = .returned (.bool true) ∧ Kp No w w' := by
  have HL1 := hid (fun (V : World) (k : Kp No w V) => light_any V vt t 30 (by decide) (ht.kept k))
  have HL2 := hid (fun (V : World) (k : Kp No w V) => light_any V vu u 30 (by decide) (hu.kept k))
  simp only [h1] at HL1
  simp only [h2] at HL2
  obtain ⟨hl, hsh⟩ := light_short h1
  have hs : ∀ x ∈ t, ShortI x := fun x hx => ⟨by have := (hsh x hx).1; omega, by have := (hsh x hx).2; omega⟩
  have H3 := hid (fun (V : World) (k : Kp No w V) => rright_any V vt t (ht.kept k) (by omega) hs)
  have H4 := hid (fun (V : World) (k : Kp No w V) => right_any V vt t (ht.kept k) (by omega) hs)
  have H5 := hid (fun (V : World) (k : Kp No w V) => same_any V vt vu t u (ht.kept k) (hu.kept k) (by omega) hs)
  have H6 := hid (fun (V : World) (k : Kp No w V) => rsame_any V vt vu t u (ht.kept k) (hu.kept k) (by omega) hs)
  have H7 := hid (fun (V : World) (k : Kp No w V) => bytes_any V vt t (ht.kept k) (by omega) hs)
  have H8 := hid (fun (V : World) (k : Kp No w V) => rbytes_any V vt t (ht.kept k) (by omega) hs)
  have H9 := hid (fun (V : World) (k : Kp No w V) => under_any V vt t p (ht.kept k) (by omega) hs)
  have H10 := hid (fun (V : World) (k : Kp No w V) => runder_any V vt t p V.heap.size (ht.kept k).below (Nat.le_refl _) (by omega))
  have hul : (underL t p).length ≤ 100000 := by
    have := List.length_filter_le (fun x : It => withinB (tx p) (tx x.1)) t
    unfold underL
    omega
  have hus : ∀ x ∈ underL t p, ShortI x := fun x hx => hs x (List.mem_filter.1 hx).1
  have H11 := hid (fun (V : World) (q r : Value) (hq : IRow Any V q (underL t p)) (hr : IRow Any V r (underL t p)) => rsame_any V q r (underL t p) (underL t p) hq hr hul hus)
  have hdt : decide (underL t p = underL t p) = true := decide_eq_true rfl
  rw [hdt] at H11
  clear hdt
  have hpI : ¬ (250 : Int) < (p.size : Int) := by omega
  have HF1 := hid (fun (hn : look t p = none) (V : World) (k : Kp No w V) => find_no V vt t p (ht.kept k) (by omega) hn)
  have HF2 := hid (fun (hn : look t p = none) (V : World) (k : Kp No w V) => rfind_no V vt t p (ht.kept k) (by omega) hn)
  have HG1 := hid (fun (x : It) (hn : look t p = some x) (V : World) (k : Kp No w V) => find_yes V vt t p x (hs x (look_mem hn).1) (ht.kept k) (by omega) hn)
  have HG2 := hid (fun (x : It) (hn : look t p = some x) (V : World) (k : Kp No w V) => rfind_yes V vt t p x (ht.kept k) (by omega) hn)
  have HSS := hid (fun (x : It) (hn : look t p = some x) => hs x (look_mem hn).1)
  obtain ⟨a, c, rfl, _⟩ := ht.form
  obtain ⟨a', c', rfl, _⟩ := hu.form
  generalize decide (t = u) = dd at *
  generalize bytesN t = bb at *
  generalize underL t p = ul at *
  clear ht hu h1 h2 hl hsh hs hul hus
  cases hx : look t p with
  | none =>
    have H1 := hid (HF1.out hx)
    have H2 := hid (HF2.out hx)
    clear HF1 HF2 HG1 HG2 HSS hx
    cases hq : rightB t with
    | false =>
      simp only [hq] at H3 H4
      clear hq
      go_enter Tryd.func3, Tryd.ntmps3
      go_wp2_with (first
        | (go_at_call 6; refine (HL2.out _ HKA.out).mono ?_; rintro e w0 ⟨rfl, hk⟩; have HK0 := hid (HKA.out.andNone hk); clear hk)
        | (go_at_call 6; refine (HL1.out _ (Kp.refl _ _)).mono ?_; rintro e wa ⟨rfl, hk⟩; have HKA := hid hk; clear hk)
        | (go_at_call 7; refine (alive_any _).mono ?_; rintro e w13 ⟨rfl, hk⟩; have HK13 := hid (HK11.out.andNone hk); clear hk)
        | (go_at_call 13; refine (H11.out _ _ _ HU2.out.row HR2.out.row).mono ?_; rintro e w11 ⟨rfl, hk⟩; have HK11 := hid (HK10.out.andNone hk); have HJ11 := hid (HJ10.out.andNone hk); have HL11 := hid (HL10.out.andNone hk); obtain ⟨k0, k1, k2⟩ := box_it w1 zI (.slice none 0 0) _ _ HJ11.out; obtain ⟨l0, l1, l2⟩ := box_it w2 zI (.slice none 0 0) _ _ HL11.out; clear hk)
        | (go_at_call 17; refine (H10.out _ HK9.out).mono ?_; rintro e w10 ⟨ra, rn, rc, rfl, ho, _, hk⟩; have HU2 := hid (HU1.out.kept hk); have HR2 := hid ho; have HK10 := hid (HK9.out.andNone hk); have HJ10 := hid (HJ9.out.andNone hk); have HL10 := hid (HL9.out.andNone hk); clear hk ho)
        | (go_at_call 16; refine (H9.out _ HK8.out).mono ?_; rintro e w9 ⟨ua, un, uc, rfl, ho, _, hk⟩; have HU1 := hid ho; have HK9 := hid (HK8.out.andNone hk); have HJ9 := hid (HJ8.out.andNone hk); have HL9 := hid (HL8.out.andNone hk); clear hk ho)
        | (go_at_call 15; refine (H8.out _ HK7.out).mono ?_; rintro e w8 ⟨rfl, hk⟩; have HK8 := hid (HK7.out.andNone hk); have HJ8 := hid (HJ7.out.andNone hk); have HL8 := hid (HL7.out.andNone hk); clear hk)
        | (go_at_call 14; refine (H7.out _ HK6.out).mono ?_; rintro e w7 ⟨rfl, hk⟩; have HK7 := hid (HK6.out.andNone hk); have HJ7 := hid (HJ6.out.andNone hk); have HL7 := hid (HL6.out.andNone hk); clear hk)
        | (go_at_call 13; refine (H6.out _ HK5.out).mono ?_; rintro e w6 ⟨rfl, hk⟩; have HK6 := hid (HK5.out.andNone hk); have HJ6 := hid (HJ5.out.andNone hk); have HL6 := hid (HL5.out.andNone hk); clear hk)
        | (go_at_call 12; refine (H5.out _ HK4.out).mono ?_; rintro e w5 ⟨rfl, hk⟩; have HK5 := hid (HK4.out.andNone hk); have HJ5 := hid (HJ4.out.andNone hk); have HL5 := hid (HL4.out.andNone hk); clear hk)
        | (go_at_call 11; refine (H4.out _ HK3.out).mono ?_; rintro e w4 ⟨rfl, hk⟩; have HK4 := hid (HK3.out.andNone hk); have HJ4 := hid (HJ3.out.andNone hk); have HL4 := hid (HL3.out.andNone hk); clear hk)
        | (go_at_call 10; refine (H3.out _ HK2.out).mono ?_; rintro e w3 ⟨rfl, hk⟩; have HK3 := hid (HK2.out.andNone hk); have HJ3 := hid (HJ2.out.andNone hk); have HL3 := hid (HL2.out.andNone hk); clear hk)
        | (go_at_call 9; refine (H2.out _ HK1.out).mono ?_; rintro e w2 ⟨rfl, hk⟩; have HK2 := hid ((HK1.out.andNone hk).alloc (.cells (itC zI (.slice none 0 0)).toArray 27)); have HJ2 := hid ((HJ1.out.andNone hk).alloc (.cells (itC zI (.slice none 0 0)).toArray 27)); have HL2 : Hid (Kp No (w2.alloc (.cells (itC zI (.slice none 0 0)).toArray 27)) (w2.alloc (.cells (itC zI (.slice none 0 0)).toArray 27))) := Kp.refl _ _; clear hk)
        | (go_at_call 8; refine (H1.out _ HK0.out).mono ?_; rintro e w1 ⟨rfl, hk⟩; have HK1 := hid ((HK0.out.andNone hk).alloc (.cells (itC zI (.slice none 0 0)).toArray 27)); have HJ1 : Hid (Kp No (w1.alloc (.cells (itC zI (.slice none 0 0)).toArray 27)) (w1.alloc (.cells (itC zI (.slice none 0 0)).toArray 27))) := Kp.refl _ _; clear hk))
      go_ret
      exact ⟨rfl, HK13.out⟩
    | true =>
      simp only [hq] at H3 H4
      clear hq
      go_enter Tryd.func3, Tryd.ntmps3
      go_wp2_with (first
        | (go_at_call 6; refine (HL2.out _ HKA.out).mono ?_; rintro e w0 ⟨rfl, hk⟩; have HK0 := hid (HKA.out.andNone hk); clear hk)
        | (go_at_call 6; refine (HL1.out _ (Kp.refl _ _)).mono ?_; rintro e wa ⟨rfl, hk⟩; have HKA := hid hk; clear hk)
        | (go_at_call 7; refine (alive_any _).mono ?_; rintro e w13 ⟨rfl, hk⟩; have HK13 := hid (HK12.out.andNone hk); clear hk)
        | (go_at_call 18; refine (rsameitem_any _ zI zI (.slice none 0 0) (.slice none 0 0) (ByP.nil _ _) (ByP.nil _ _) ⟨by decide, by decide⟩).mono ?_; rw [decide_eq_true rfl]; rintro e w12 ⟨rfl, hk⟩; have HK12 := hid (HK11.out.andNone hk); clear hk)
        | (go_at_call 13; refine (H11.out _ _ _ HU2.out.row HR2.out.row).mono ?_; rintro e w11 ⟨rfl, hk⟩; have HK11 := hid (HK10.out.andNone hk); have HJ11 := hid (HJ10.out.andNone hk); have HL11 := hid (HL10.out.andNone hk); obtain ⟨k0, k1, k2⟩ := box_it w1 zI (.slice none 0 0) _ _ HJ11.out; obtain ⟨l0, l1, l2⟩ := box_it w2 zI (.slice none 0 0) _ _ HL11.out; clear hk)
        | (go_at_call 17; refine (H10.out _ HK9.out).mono ?_; rintro e w10 ⟨ra, rn, rc, rfl, ho, _, hk⟩; have HU2 := hid (HU1.out.kept hk); have HR2 := hid ho; have HK10 := hid (HK9.out.andNone hk); have HJ10 := hid (HJ9.out.andNone hk); have HL10 := hid (HL9.out.andNone hk); clear hk ho)
        | (go_at_call 16; refine (H9.out _ HK8.out).mono ?_; rintro e w9 ⟨ua, un, uc, rfl, ho, _, hk⟩; have HU1 := hid ho; have HK9 := hid (HK8.out.andNone hk); have HJ9 := hid (HJ8.out.andNone hk); have HL9 := hid (HL8.out.andNone hk); clear hk ho)
        | (go_at_call 15; refine (H8.out _ HK7.out).mono ?_; rintro e w8 ⟨rfl, hk⟩; have HK8 := hid (HK7.out.andNone hk); have HJ8 := hid (HJ7.out.andNone hk); have HL8 := hid (HL7.out.andNone hk); clear hk)
        | (go_at_call 14; refine (H7.out _ HK6.out).mono ?_; rintro e w7 ⟨rfl, hk⟩; have HK7 := hid (HK6.out.andNone hk); have HJ7 := hid (HJ6.out.andNone hk); have HL7 := hid (HL6.out.andNone hk); clear hk)
        | (go_at_call 13; refine (H6.out _ HK5.out).mono ?_; rintro e w6 ⟨rfl, hk⟩; have HK6 := hid (HK5.out.andNone hk); have HJ6 := hid (HJ5.out.andNone hk); have HL6 := hid (HL5.out.andNone hk); clear hk)
        | (go_at_call 12; refine (H5.out _ HK4.out).mono ?_; rintro e w5 ⟨rfl, hk⟩; have HK5 := hid (HK4.out.andNone hk); have HJ5 := hid (HJ4.out.andNone hk); have HL5 := hid (HL4.out.andNone hk); clear hk)
        | (go_at_call 11; refine (H4.out _ HK3.out).mono ?_; rintro e w4 ⟨rfl, hk⟩; have HK4 := hid (HK3.out.andNone hk); have HJ4 := hid (HJ3.out.andNone hk); have HL4 := hid (HL3.out.andNone hk); clear hk)
        | (go_at_call 10; refine (H3.out _ HK2.out).mono ?_; rintro e w3 ⟨rfl, hk⟩; have HK3 := hid (HK2.out.andNone hk); have HJ3 := hid (HJ2.out.andNone hk); have HL3 := hid (HL2.out.andNone hk); clear hk)
        | (go_at_call 9; refine (H2.out _ HK1.out).mono ?_; rintro e w2 ⟨rfl, hk⟩; have HK2 := hid ((HK1.out.andNone hk).alloc (.cells (itC zI (.slice none 0 0)).toArray 27)); have HJ2 := hid ((HJ1.out.andNone hk).alloc (.cells (itC zI (.slice none 0 0)).toArray 27)); have HL2 : Hid (Kp No (w2.alloc (.cells (itC zI (.slice none 0 0)).toArray 27)) (w2.alloc (.cells (itC zI (.slice none 0 0)).toArray 27))) := Kp.refl _ _; clear hk)
        | (go_at_call 8; refine (H1.out _ HK0.out).mono ?_; rintro e w1 ⟨rfl, hk⟩; have HK1 := hid ((HK0.out.andNone hk).alloc (.cells (itC zI (.slice none 0 0)).toArray 27)); have HJ1 : Hid (Kp No (w1.alloc (.cells (itC zI (.slice none 0 0)).toArray 27)) (w1.alloc (.cells (itC zI (.slice none 0 0)).toArray 27))) := Kp.refl _ _; clear hk))
      go_ret
      exact ⟨rfl, HK13.out⟩
  | some x =>
    have H1 := hid (HG1.out x hx)
    have H2 := hid (HG2.out x hx)
    have HSX := hid (HSS.out x hx)
    clear HF1 HF2 HG1 HG2 HSS hx
    cases hq : rightB t with
    | false =>
      simp only [hq] at H3 H4
      clear hq
      go_enter Tryd.func3, Tryd.ntmps3
      go_wp2_with (first
        | (go_at_call 6; refine (HL2.out _ HKA.out).mono ?_; rintro e w0 ⟨rfl, hk⟩; have HK0 := hid (HKA.out.andNone hk); clear hk)
        | (go_at_call 6; refine (HL1.out _ (Kp.refl _ _)).mono ?_; rintro e wa ⟨rfl, hk⟩; have HKA := hid hk; clear hk)
        | (go_at_call 7; refine (alive_any _).mono ?_; rintro e w13 ⟨rfl, hk⟩; have HK13 := hid (HK11.out.andNone hk); clear hk)
        | (go_at_call 13; refine (H11.out _ _ _ HU2.out.row HR2.out.row).mono ?_; rintro e w11 ⟨rfl, hk⟩; have HK11 := hid (HK10.out.andNone hk); have HJ11 := hid (HJ10.out.andNone hk); have HL11 := hid (HL10.out.andNone hk); obtain ⟨k0, k1, k2⟩ := box_it w1 x (.slice a1 x.2.2.length c1) _ _ HJ11.out; obtain ⟨l0, l1, l2⟩ := box_it w2 x (.slice a2 x.2.2.length c2) _ _ HL11.out; clear hk)
        | (go_at_call 17; refine (H10.out _ HK9.out).mono ?_; rintro e w10 ⟨ra, rn, rc, rfl, ho, _, hk⟩; have HU2 := hid (HU1.out.kept hk); have HR2 := hid ho; have HK10 := hid (HK9.out.andNone hk); have HJ10 := hid (HJ9.out.andNone hk); have HL10 := hid (HL9.out.andNone hk); clear hk ho)
        | (go_at_call 16; refine (H9.out _ HK8.out).mono ?_; rintro e w9 ⟨ua, un, uc, rfl, ho, _, hk⟩; have HU1 := hid ho; have HK9 := hid (HK8.out.andNone hk); have HJ9 := hid (HJ8.out.andNone hk); have HL9 := hid (HL8.out.andNone hk); clear hk ho)
        | (go_at_call 15; refine (H8.out _ HK7.out).mono ?_; rintro e w8 ⟨rfl, hk⟩; have HK8 := hid (HK7.out.andNone hk); have HJ8 := hid (HJ7.out.andNone hk); have HL8 := hid (HL7.out.andNone hk); clear hk)
        | (go_at_call 14; refine (H7.out _ HK6.out).mono ?_; rintro e w7 ⟨rfl, hk⟩; have HK7 := hid (HK6.out.andNone hk); have HJ7 := hid (HJ6.out.andNone hk); have HL7 := hid (HL6.out.andNone hk); clear hk)
        | (go_at_call 13; refine (H6.out _ HK5.out).mono ?_; rintro e w6 ⟨rfl, hk⟩; have HK6 := hid (HK5.out.andNone hk); have HJ6 := hid (HJ5.out.andNone hk); have HL6 := hid (HL5.out.andNone hk); clear hk)
        | (go_at_call 12; refine (H5.out _ HK4.out).mono ?_; rintro e w5 ⟨rfl, hk⟩; have HK5 := hid (HK4.out.andNone hk); have HJ5 := hid (HJ4.out.andNone hk); have HL5 := hid (HL4.out.andNone hk); clear hk)
        | (go_at_call 11; refine (H4.out _ HK3.out).mono ?_; rintro e w4 ⟨rfl, hk⟩; have HK4 := hid (HK3.out.andNone hk); have HJ4 := hid (HJ3.out.andNone hk); have HL4 := hid (HL3.out.andNone hk); clear hk)
        | (go_at_call 10; refine (H3.out _ HK2.out).mono ?_; rintro e w3 ⟨rfl, hk⟩; have HK3 := hid (HK2.out.andNone hk); have HJ3 := hid (HJ2.out.andNone hk); have HL3 := hid (HL2.out.andNone hk); clear hk)
        | (go_at_call 9; refine (H2.out _ HK1.out).mono ?_; rintro e w2 ⟨u2, rfl, hb, hk⟩; obtain ⟨a2, c2, e2⟩ := hb.form; subst e2; have HB2 := hid hb; have HK2 := hid ((HK1.out.andNone hk).alloc (.cells (itC x (.slice a2 x.2.2.length c2)).toArray 27)); have HJ2 := hid ((HJ1.out.andNone hk).alloc (.cells (itC x (.slice a2 x.2.2.length c2)).toArray 27)); have HL2 : Hid (Kp No (w2.alloc (.cells (itC x (.slice a2 x.2.2.length c2)).toArray 27)) (w2.alloc (.cells (itC x (.slice a2 x.2.2.length c2)).toArray 27))) := Kp.refl _ _; clear hk hb)
        | (go_at_call 8; refine (H1.out _ HK0.out).mono ?_; rintro e w1 ⟨u1, rfl, hb, hk⟩; obtain ⟨a1, c1, e1⟩ := hb.form; subst e1; have HB1 := hid hb; have HK1 := hid ((HK0.out.andNone hk).alloc (.cells (itC x (.slice a1 x.2.2.length c1)).toArray 27)); have HJ1 : Hid (Kp No (w1.alloc (.cells (itC x (.slice a1 x.2.2.length c1)).toArray 27)) (w1.alloc (.cells (itC x (.slice a1 x.2.2.length c1)).toArray 27))) := Kp.refl _ _; clear hk hb))
      go_ret
      exact ⟨rfl, HK13.out⟩
    | true =>
      simp only [hq] at H3 H4
      clear hq
      go_enter Tryd.func3, Tryd.ntmps3
      go_wp2_with (first
        | (go_at_call 6; refine (HL2.out _ HKA.out).mono ?_; rintro e w0 ⟨rfl, hk⟩; have HK0 := hid (HKA.out.andNone hk); clear hk)
        | (go_at_call 6; refine (HL1.out _ (Kp.refl _ _)).mono ?_; rintro e wa ⟨rfl, hk⟩; have HKA := hid hk; clear hk)
        | (go_at_call 7; refine (alive_any _).mono ?_; rintro e w13 ⟨rfl, hk⟩; have HK13 := hid (HK12.out.andNone hk); clear hk)
        | (go_at_call 18; refine (rsameitem_any _ x x (.slice a1 x.2.2.length c1) (.slice a2 x.2.2.length c2) (HB1.out.kept (((Kp.refl No w1).alloc _).andNone HJ11.out)) (HB2.out.kept (((Kp.refl No w2).alloc _).andNone HL11.out)) HSX.out).mono ?_; rw [decide_eq_true rfl]; rintro e w12 ⟨rfl, hk⟩; have HK12 := hid (HK11.out.andNone hk); clear hk)
        | (go_at_call 13; refine (H11.out _ _ _ HU2.out.row HR2.out.row).mono ?_; rintro e w11 ⟨rfl, hk⟩; have HK11 := hid (HK10.out.andNone hk); have HJ11 := hid (HJ10.out.andNone hk); have HL11 := hid (HL10.out.andNone hk); obtain ⟨k0, k1, k2⟩ := box_it w1 x (.slice a1 x.2.2.length c1) _ _ HJ11.out; obtain ⟨l0, l1, l2⟩ := box_it w2 x (.slice a2 x.2.2.length c2) _ _ HL11.out; clear hk)
        | (go_at_call 17; refine (H10.out _ HK9.out).mono ?_; rintro e w10 ⟨ra, rn, rc, rfl, ho, _, hk⟩; have HU2 := hid (HU1.out.kept hk); have HR2 := hid ho; have HK10 := hid (HK9.out.andNone hk); have HJ10 := hid (HJ9.out.andNone hk); have HL10 := hid (HL9.out.andNone hk); clear hk ho)
        | (go_at_call 16; refine (H9.out _ HK8.out).mono ?_; rintro e w9 ⟨ua, un, uc, rfl, ho, _, hk⟩; have HU1 := hid ho; have HK9 := hid (HK8.out.andNone hk); have HJ9 := hid (HJ8.out.andNone hk); have HL9 := hid (HL8.out.andNone hk); clear hk ho)
        | (go_at_call 15; refine (H8.out _ HK7.out).mono ?_; rintro e w8 ⟨rfl, hk⟩; have HK8 := hid (HK7.out.andNone hk); have HJ8 := hid (HJ7.out.andNone hk); have HL8 := hid (HL7.out.andNone hk); clear hk)
        | (go_at_call 14; refine (H7.out _ HK6.out).mono ?_; rintro e w7 ⟨rfl, hk⟩; have HK7 := hid (HK6.out.andNone hk); have HJ7 := hid (HJ6.out.andNone hk); have HL7 := hid (HL6.out.andNone hk); clear hk)
        | (go_at_call 13; refine (H6.out _ HK5.out).mono ?_; rintro e w6 ⟨rfl, hk⟩; have HK6 := hid (HK5.out.andNone hk); have HJ6 := hid (HJ5.out.andNone hk); have HL6 := hid (HL5.out.andNone hk); clear hk)
        | (go_at_call 12; refine (H5.out _ HK4.out).mono ?_; rintro e w5 ⟨rfl, hk⟩; have HK5 := hid (HK4.out.andNone hk); have HJ5 := hid (HJ4.out.andNone hk); have HL5 := hid (HL4.out.andNone hk); clear hk)
        | (go_at_call 11; refine (H4.out _ HK3.out).mono ?_; rintro e w4 ⟨rfl, hk⟩; have HK4 := hid (HK3.out.andNone hk); have HJ4 := hid (HJ3.out.andNone hk); have HL4 := hid (HL3.out.andNone hk); clear hk)
        | (go_at_call 10; refine (H3.out _ HK2.out).mono ?_; rintro e w3 ⟨rfl, hk⟩; have HK3 := hid (HK2.out.andNone hk); have HJ3 := hid (HJ2.out.andNone hk); have HL3 := hid (HL2.out.andNone hk); clear hk)
        | (go_at_call 9; refine (H2.out _ HK1.out).mono ?_; rintro e w2 ⟨u2, rfl, hb, hk⟩; obtain ⟨a2, c2, e2⟩ := hb.form; subst e2; have HB2 := hid hb; have HK2 := hid ((HK1.out.andNone hk).alloc (.cells (itC x (.slice a2 x.2.2.length c2)).toArray 27)); have HJ2 := hid ((HJ1.out.andNone hk).alloc (.cells (itC x (.slice a2 x.2.2.length c2)).toArray 27)); have HL2 : Hid (Kp No (w2.alloc (.cells (itC x (.slice a2 x.2.2.length c2)).toArray 27)) (w2.alloc (.cells (itC x (.slice a2 x.2.2.length c2)).toArray 27))) := Kp.refl _ _; clear hk hb)
        | (go_at_call 8; refine (H1.out _ HK0.out).mono ?_; rintro e w1 ⟨u1, rfl, hb, hk⟩; obtain ⟨a1, c1, e1⟩ := hb.form; subst e1; have HB1 := hid hb; have HK1 := hid ((HK0.out.andNone hk).alloc (.cells (itC x (.slice a1 x.2.2.length c1)).toArray 27)); have HJ1 : Hid (Kp No (w1.alloc (.cells (itC x (.slice a1 x.2.2.length c1)).toArray 27)) (w1.alloc (.cells (itC x (.slice a1 x.2.2.length c1)).toArray 27))) := Kp.refl _ _; clear hk hb))
      go_ret
      exact ⟨rfl, HK13.out⟩

theorem looks_main (w : World) (vt vu : Value) (t u : List It) (p : ByteArray) (ht : IRow Any w vt t) (hu : IRow Any w vu u) :
    Calls Tryd.prog 3 #[vt, vu, .string p] w fun e w' => e = .returned (.bool true) ∧ Kp No w w' := by
  by_cases h : lightB t 30 = true ∧ lightB u 30 = true ∧ p.size ≤ 250
  · exact looks_yes w vt vu t u p ht hu h.1 h.2.1 h.2.2
  · exact looks_no w vt vu t u p ht hu h

end Go.Proofs.YtdpnahonidmohaaDoor.Tr
