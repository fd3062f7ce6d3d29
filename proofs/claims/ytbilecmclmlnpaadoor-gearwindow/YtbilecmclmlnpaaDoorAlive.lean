/-
  alive.
-/
import Derived.Test.YtbilecmclmlnpaaDoorMask
import Derived.Test.YtbilecmclmlnpaaDoorHash
namespace Go.Proofs.YtbilecmclmlnpaaDoor
open Go.RowKit

theorem Tab.below {w w' : World} {B : Nat} (h : Tab w) (k : Below B w w') (hB : 1 < B) : Tab w' := fun j hj => (k.cell (p := ⟨1, j, none⟩) hB).trans (h j hj)
theorem Tab.kept {w w' : World} {b : Nat} (h : Tab w) (k : Kept b w w') (hb : 1 < w.heap.size) (hb' : 1 ≠ b) : Tab w' := fun j hj => (k.cell (p := ⟨1, j, none⟩) hb hb').trans (h j hj)
theorem Tab.lt {w : World} (h : Tab w) : 1 < w.heap.size := World.block_lt_of_cell? _ _ (h 0 (by omega))

theorem mask32 {m : Nat} (h : IsMask 32 m) : m = 17870283321406128128 := isMask_one h (.inl ⟨5, by decide, by decide, by decide⟩)

set_option maxHeartbeats 1000000 in
theorem alive_any (w : World) (hT : Tab w) :
    Calls Tryd.prog 8 #[] w fun e w' => e = .returned (.bool true) ∧ Below w.heap.size w w' := by
  have HT := hid hT
  clear hT
  go_enter Tryd.func8, Tryd.ntmps8
  go_wp2_with fail
  refine (mask18_any 32 (by decide) _ HT.out).mono ?_
  rintro e w1 ⟨⟨m, rfl, hm⟩, hw⟩
  subst w1
  rw [mask32 hm]
  clear hm
  go_wp2_with fail
  refine (new_any 0 (by decide) _).mono ?_
  rintro e w1 ⟨rfl, hb, hs, hg⟩
  have HB := hid hb
  have HS := hid hs
  have HG := hid hg
  clear hb hs hg
  go_wp2_with fail
  refine (hash13_any w.heap.size 0 _ [] _ ⟨0, .inl rfl, HG.out⟩ (BySl.none _ _)).mono ?_
  rintro e w2 ⟨rfl, hk, _⟩
  have HB2 := hid (Kept.toBelow HB.out hk (Nat.le_refl _))
  clear hk
  rw [hashOf, hashFrom_nil]
  go_wp2_with fail
  refine (new_any 0 (by decide) _).mono ?_
  rintro e w3 ⟨rfl, hb, hs, hg⟩
  have HB3 := hid (HB2.out.trans (hb.mono HB2.out.size))
  have HG3 := hid hg
  clear hb hs hg
  go_wp2_with fail
  refine (row10_any w2.heap.size 0 0 0 (by decide) _ (.inl rfl) HG3.out).mono ?_
  rintro e w4 ⟨rfl, hk, _⟩
  have HB4 := hid (Kept.toBelow HB3.out hk HB2.out.size)
  clear hk
  go_wp2_with fail
  refine (refRow_any 0 0 (by decide) (by decide) _).mono ?_
  rintro e w5 ⟨rfl, hw⟩
  subst w5
  generalize rowOf 0 0 = r at *
  go_wp2_with fail
  go_ret
  exact ⟨rfl, HB4.out⟩

end Go.Proofs.YtbilecmclmlnpaaDoor
