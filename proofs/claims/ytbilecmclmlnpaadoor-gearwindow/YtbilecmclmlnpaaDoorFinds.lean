/-
  GearFinds.
-/
import Derived.Test.YtbilecmclmlnpaaDoorHashes
namespace Go.Proofs.YtbilecmclmlnpaaDoor
open Go.RowKit

/-- The first n bytes of a slice. -/
theorem BySl.front {b : Nat} {w : World} {a : Option Addr} {cap : Nat} {bs : List Nat} (h : BySl b w (.slice a bs.length cap) bs) (n : Nat) (hn : n ≤ bs.length) : BySl b w (.slice a n cap) (bs.take n) := by
  obtain ⟨a', cap', e, h2, h3, h4, h5, h6, h7⟩ := h
  cases e
  have hl : (bs.take n).length = n := List.length_take_of_le hn
  refine ⟨a, cap, by rw [hl], by omega, h3, fun e => ?_, by omega, fun x hx => h6 x (List.mem_of_mem_take hx), fun hne => ?_⟩
  · obtain ⟨rfl, rfl⟩ := h4 e
    exact ⟨by simp, rfl⟩
  · have hb : bs ≠ [] := fun e => hne (by rw [e]; simp)
    obtain ⟨g, o, e, hg, hg', hc⟩ := h7 hb
    refine ⟨g, o, e, hg, hg', fun i hi => ?_⟩
    rw [hc i (by omega)]
    have : (bs.take n).getD i 0 = bs.getD i 0 := by simp [show i < n by omega]
    rw [this]

set_option maxHeartbeats 2000000 in
set_option maxRecDepth 100000 in
theorem finds_main (s m : Nat) (hs : s < M64) (hm : m < M64) (v : Value) (bs : List Nat) (w : World) (hv : BySl w.heap.size w v bs) (hl : bs.length ≤ 300) (hT : Tab w) :
    Calls Tryd.prog 7 #[.int .u64 s, v, .int .u64 m] w fun e w' => e = .returned (.bool true) ∧ Below w.heap.size w w' := by
  have H := hid hv
  have HT := hid hT
  obtain ⟨a, cap, rfl, _, _, _, h5, _, _⟩ := hv
  clear hT
  have h1 : 1 < w.heap.size := HT.out.lt
  go_enter Tryd.func7, Tryd.ntmps7
  go_wp2_with fail
  refine (new_any s hs _).mono ?_
  rintro e w1 ⟨rfl, hb, hsz, hg⟩
  have HB := hid hb
  have HG := hid (gr_x hg (.inl rfl))
  have HV := hid (H.out.below hb)
  clear hb hsz hg
  go_wp2_with fail
  refine (find15_any w.heap.size s m hm _ bs _ HG.out HV.out).mono ?_
  rintro e w2 ⟨⟨z, rfl, hz⟩, hk, hg2⟩
  have HB2 := hid (Kept.toBelow HB.out hk (Nat.le_refl _))
  have HV2 := hid (HV.out.kept hk)
  have HG2 := hid hg2
  have HZ := hid hz
  clear hk hg2 hz
  have hz1 : ¬ z < -1 := by
    rcases HZ.out with ⟨rfl, _⟩ | ⟨k, rfl, _⟩ <;> omega
  have hz2 : z < bs.length := by
    rcases HZ.out with ⟨rfl, _⟩ | ⟨k, rfl, hk, _⟩ <;> omega
  go_wp2_with fail
  go_loopw [9] (fun i wr => ∃ k : Nat, k ≤ bs.length ∧ i = .int .i64 k ∧ Hid (NoneTo s m bs k ∧ Below w.heap.size w wr ∧ GrX wr w.heap.size s ∧ BySl w.heap.size wr (.slice a bs.length cap) bs)) (fun i _ => bs.length - (intOf i).toNat)
  case atStart => exact ⟨0, Nat.zero_le _, rfl, fun j hj => absurd hj (by omega), HB2.out, HG2.out, HV2.out⟩
  case round =>
    obtain ⟨k, hk, rfl, HR⟩ := hrel
    by_cases hlt : k < bs.length
    · have hki : (k : Int) < (bs.length : Int) := by omega
      have hl1 := hashOf_lt s (bs.take (k + 1))
      have ha := and_i _ m hl1 hm
      go_wp2_with fail
      refine (hash13_any w.heap.size s _ (bs.take (k + 1)) _ HR.out.2.2.1 (HR.out.2.2.2.front (k + 1) (by omega))).mono ?_
      rintro e w3 ⟨rfl, hk3, hg3⟩
      have HB3 := hid (Kept.toBelow HR.out.2.1 hk3 (Nat.le_refl _))
      have HV3 := hid (HR.out.2.2.2.kept hk3)
      have HG3 := hid hg3
      clear hk3 hg3
      generalize hx0 : hashOf s (bs.take (k + 1)) = x at *
      have HX := hid hx0
      clear hx0
      by_cases hy : x &&& m = 0
      · have hy' : (((x &&& m : Nat) : Int) == 0) = true := by rw [hy]; rfl
        obtain rfl : z = (k : Int) := found_one HZ.out (.inr ⟨k, rfl, hlt, HR.out.1, by rw [HX.out]; exact hy⟩)
        have hkk : ((k : Int) == (k : Int)) = true := by simp
        clear hy
        go_wp2_with fail
        refine (alive_any _ (HT.out.below HB3.out h1)).mono ?_
        rintro e w6 ⟨rfl, hb⟩
        go_wp2_with fail
        go_ret
        exact ⟨rfl, HB3.out.trans (hb.mono HB3.out.size)⟩
      · have hy' : (((x &&& m : Nat) : Int) == 0) = false := by simp; omega
        have HY := hid hy
        clear hy
        go_wp2_with fail
        go_roundw
        case rel => exact ⟨k + 1, by omega, by go_num, HR.out.1.next (by rw [HX.out]; exact HY.out), HB3.out, HG3.out, HV3.out⟩
        case measure => simp [intOf]; omega
    · obtain rfl : k = bs.length := by omega
      obtain rfl : z = -1 := found_one HZ.out (.inl ⟨rfl, HR.out.1⟩)
      go_wp2_with fail
      refine (alive_any _ (HT.out.below HR.out.2.1 h1)).mono ?_
      rintro e w6 ⟨rfl, hb⟩
      go_wp2_with fail
      go_ret
      exact ⟨rfl, HR.out.2.1.trans (hb.mono HR.out.2.1.size)⟩

set_option maxHeartbeats 1000000 in
theorem finds_other (s m : Nat) (a : Option Addr) (len cap : Nat) (w : World) (hl : 300 < len) (hT : Tab w) :
    Calls Tryd.prog 7 #[.int .u64 s, .slice a len cap, .int .u64 m] w fun e w' => e = .returned (.bool true) ∧ Below w.heap.size w w' := by
  have HT := hid hT
  clear hT
  go_enter Tryd.func7, Tryd.ntmps7
  go_wp2_with fail
  refine (alive_any _ HT.out).mono ?_
  rintro e w6 ⟨rfl, hb⟩
  go_wp2_with fail
  go_ret
  exact ⟨rfl, hb⟩

end Go.Proofs.YtbilecmclmlnpaaDoor
