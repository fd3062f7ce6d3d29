/-
  slices.SortFunc of items, by their paths.
-/
import Derived.Test.YtdooiflmjeibdaaDoorTrStays
import Derived.Test.YtdooiflmjeibdaaDoorTrSShelf
import Derived.Shelf.SlSortCmp.WholeK
namespace Go.Proofs.YtdooiflmjeibdaaDoor.Tr
open Go.RowKit Go.Lib Go.Sort Go.Shelf

/-- An item with the slice of its bytes. -/
abbrev Sl := It × (Option Addr × Nat × Nat)
def encS (z : Sl) : List Value := [.string z.1.1, .bool z.1.2.1, .slice z.2.1 z.2.2.1 z.2.2.2]
def cmpS (x y : Sl) : Int := Lib.compareBytes (tx x.1.1) (tx y.1.1)

set_option maxHeartbeats 1000000 in
theorem closure_any (x y : Sl) (W : World) : Calls Tryd.prog 28 #[.agg #[.string x.1.1, .bool x.1.2.1, .slice x.2.1 x.2.2.1 x.2.2.2], .agg #[.string y.1.1, .bool y.1.2.1, .slice y.2.1 y.2.2.1 y.2.2.2]] W fun e w' => e = .returned (.int .i64 (cmpS x y)) ∧ ∃ q os', w' = grow (W.drewN q) os' := by
  have hcon := fun W' => compare_any x.1.1 y.1.1 W'
  have HC : Hid (cmpS x y = Lib.compareBytes (tx x.1.1) (tx y.1.1)) := rfl
  rw [HC.out]
  unfold tx
  generalize Lib.compareBytes x.1.1.data.toList y.1.1.data.toList = r at hcon ⊢
  obtain ⟨⟨xp, xd, xb⟩, xa, xn, xc⟩ := x
  obtain ⟨⟨yp, yd, yb⟩, ya, yn, yc⟩ := y
  simp only at hcon ⊢
  clear HC
  go_enter Tryd.func28, Tryd.ntmps28
  go_wp2_with (go_at_call 29; refine (hcon _).mono ?_; rintro e w' ⟨rfl, rfl⟩)
  go_ret
  exact ⟨rfl, 0, _, by rw [alloc_eq_grow, alloc_eq_grow, grow_grow]; rfl⟩

theorem cmpLaysS (blk off size : Nat) (w : World) : CmpLays Tryd.prog 28 #[] encS 3 cmpS blk off size w :=
  fun _ _ _ _ x y => closure_any x y _

set_option maxHeartbeats 2000000 in
theorem sortF_any (hO : SWO (ltOf cmpS)) (blk off cap : Nat) (d : Array Sl) (w : World) (hH : HoldsK encS 3 w blk off d) (hblk : blk < w.heap.size) (hsz : d.size < 4611686018427387904) :
    Calls Tryd.prog 27 #[.slice (some ⟨blk, off, none⟩) d.size cap, .func (.func 28) #[] #[]] w fun e w' => e = .returned (.tuple #[]) ∧ ∃ d' n os, PermIn 0 d.size d d' ∧ SortedIn (ltOf cmpS) 0 d.size d' ∧ w' = sortWorldK encS 3 w blk off n d' os := by
  have eg : ∀ args w, (callFunc 28 args).run Tryd.prog w = .ok (.enter 28 args) w := enters_of Tryd.func28 (by kernel_rfl) rfl
  have hlim : Lib.bitLen d.size < 4611686018427387904 := Nat.lt_of_le_of_lt (Lib.bitLen_le d.size 62 (by omega) (by omega)) (by omega)
  have hp := AnyQ.pdqsortCmpFunc_all Tryd.pdqF 3 Tryd.isAgg33 Tryd.sizeOf33 encS cmpS 28 #[] hO blk off cap d w eg (cmpLaysS blk off d.size w) ⟨fun _ => rfl, fun x v hv => by simp [encS] at hv; rcases hv with rfl | rfl | rfl <;> rfl, hH, hblk⟩ (d.size + 1) 0 d.size (Lib.bitLen d.size) d w (by omega) rfl (SWK.start hH) (Nat.zero_le _) (Nat.le_refl _) hsz hlim (Or.inl rfl)
  have hl : Calls Tryd.prog 43 #[.int .u64 (d.size : Int)] w fun e w' => e = .returned (.int .i64 (Lib.bitLen d.size : Nat)) ∧ w' = w := by
    have h := Any.bits_Len (SlLaysF0.n15.bits Tryd.lenF) (d.size : Int) w (by omega) (by omega)
    rwa [Int.toNat_natCast] at h
  change Calls Tryd.prog 42 _ _ _ at hp
  have wr : IntKind.u64.wrap (d.size : Int) = d.size := by simp [IntKind.wrap, IntKind.bits, IntKind.signed]; omega
  have HPD := hid (pdq_sorts (ltOf cmpS) hO d 0 d.size (Lib.bitLen d.size) true true (Nat.zero_le _) (Nat.le_refl _) (Or.inl rfl))
  clear hH eg hO hblk
  generalize pdq (ltOf cmpS) d 0 d.size (Lib.bitLen d.size) true true = d' at *
  go_enter Tryd.func27, Tryd.ntmps27
  go_wp2_with (first | (go_at_call 43; refine hl.mono ?_; rintro e w' ⟨rfl, rfl⟩) | (go_at_call 42; refine hp.mono ?_; rintro e w' ⟨rfl, n, os, rfl⟩))
  go_end0
  exact ⟨rfl, d', n, os, HPD.out.1, HPD.out.2, rfl⟩

end Go.Proofs.YtdooiflmjeibdaaDoor.Tr
