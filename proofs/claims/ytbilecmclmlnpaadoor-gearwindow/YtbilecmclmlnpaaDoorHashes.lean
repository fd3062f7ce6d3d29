/-
  GearHashes.
-/
import Derived.Test.YtbilecmclmlnpaaDoorAlive
namespace Go.Proofs.YtbilecmclmlnpaaDoor
open Go.RowKit

theorem gr_x {w : World} {b s f : Nat} (h : Gr w b s f) (hf : f = 0 ∨ f = 1) : GrX w b s := ⟨f, hf, h⟩

set_option maxHeartbeats 2000000 in
theorem hashes_main (s c h m : Nat) (hs : s < M64) (hc : c < 256) (hm : m < M64) (v : Value) (bs : List Nat) (w : World) (hv : BySl w.heap.size w v bs) (hl : bs.length ≤ 1000) (hT : Tab w) :
    Calls Tryd.prog 3 #[.int .u64 s, .int .u8 c, .int .u64 h, v, .int .u64 m] w fun e w' => e = .returned (.bool true) ∧ Below w.heap.size w w' := by
  have H := hid hv
  have HT := hid hT
  obtain ⟨a, cap, rfl, _, _, _, h5, _, _⟩ := hv
  clear hT
  have h1 : 1 < w.heap.size := HT.out.lt
  have hrl := refRoll_i s h c
  go_enter Tryd.func3, Tryd.ntmps3
  go_wp2_with fail
  refine (new_any s hs _).mono ?_
  rintro e w1 ⟨rfl, hb, hsz, hg⟩
  have HB := hid hb
  have HG := hid (gr_x hg (.inl rfl))
  have HV := hid (H.out.below hb)
  clear hb hsz hg
  go_wp2_with fail
  obtain ⟨f, hf, hg⟩ := HG.out
  refine (row10_any w.heap.size s f c hc _ hf hg).mono ?_
  rintro e w2 ⟨rfl, hk, hg2⟩
  have HB2 := hid (Kept.toBelow HB.out hk (Nat.le_refl _))
  have HG2 := hid hg2
  have HV2 := hid (HV.out.kept hk)
  clear hk hg2 hg hf
  go_wp2_with fail
  refine (refRow_any s c hs hc _).mono ?_
  rintro e w3 ⟨rfl, hw⟩
  subst w3
  have hrr : (((rowOf s c : Nat) : Int) == ((rowOf s c : Nat) : Int)) = true := by simp
  go_wp2_with fail
  refine (roll12_any w.heap.size s 1 h c hc _ (.inr rfl) HG2.out).mono ?_
  rintro e w3 ⟨rfl, hk, hg2⟩
  have HB3 := hid (Kept.toBelow HB2.out hk (Nat.le_refl _))
  have HG3 := hid (gr_x hg2 (.inr rfl))
  have HV3 := hid (HV2.out.kept hk)
  clear hk hg2
  go_wp2_with fail
  refine (refRow_any s c hs hc _).mono ?_
  rintro e w4 ⟨rfl, hw⟩
  subst w4
  have hrs : (((roll s h c : Nat) : Int) == ((roll s h c : Nat) : Int)) = true := by simp
  go_wp2_with fail
  refine (hash13_any w.heap.size s _ bs _ HG3.out HV3.out).mono ?_
  rintro e w4 ⟨rfl, hk, hg2⟩
  have HB4 := hid (Kept.toBelow HB3.out hk (Nat.le_refl _))
  have HG4 := hid hg2
  have HV4 := hid (HV3.out.kept hk)
  clear hk hg2
  go_wp2_with fail
  refine (refHash_any w.heap.size s hs _ bs _ HV4.out).mono ?_
  rintro e w5 ⟨rfl, hw⟩
  subst w5
  have hrh : (((hashOf s bs : Nat) : Int) == ((hashOf s bs : Nat) : Int)) = true := by simp
  go_wp2_with fail
  refine (find15_any w.heap.size s m hm _ bs _ HG4.out HV4.out).mono ?_
  rintro e w5 ⟨⟨z, rfl, hz⟩, hk, hg2⟩
  have HB5 := hid (Kept.toBelow HB4.out hk (Nat.le_refl _))
  have HV5 := hid (HV4.out.kept hk)
  have HZ := hid hz
  clear hk hg2 hz
  go_wp2_with fail
  refine (refFind_any w.heap.size s m hs hm _ bs _ HV5.out).mono ?_
  rintro e w6 ⟨⟨z', rfl, hz'⟩, hw⟩
  subst w6
  obtain rfl := found_one HZ.out hz'
  clear hz'
  have hzz : (z == z) = true := by simp
  go_wp2_with fail
  refine (alive_any _ (HT.out.below HB5.out h1)).mono ?_
  rintro e w6 ⟨rfl, hb⟩
  go_wp2_with fail
  go_ret
  exact ⟨rfl, HB5.out.trans (hb.mono HB5.out.size)⟩

set_option maxHeartbeats 1000000 in
theorem hashes_other (s c h m : Nat) (a : Option Addr) (len cap : Nat) (w : World) (hl : 1000 < len) (hT : Tab w) :
    Calls Tryd.prog 3 #[.int .u64 s, .int .u8 c, .int .u64 h, .slice a len cap, .int .u64 m] w fun e w' => e = .returned (.bool true) ∧ Below w.heap.size w w' := by
  have HT := hid hT
  clear hT
  go_enter Tryd.func3, Tryd.ntmps3
  go_wp2_with fail
  refine (alive_any _ HT.out).mono ?_
  rintro e w6 ⟨rfl, hb⟩
  go_wp2_with fail
  go_ret
  exact ⟨rfl, hb⟩

end Go.Proofs.YtbilecmclmlnpaaDoor
