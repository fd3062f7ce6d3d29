/- Of the proof: the texts PkGet, FrBackM, TlvRefTake, CrcRefOpen, FrRTake, FrRScan, FrTurned, FrBackR, PkRun, PkNames, PkIdM, PkId, PkPick, ShNil, ShOpen, ShIds, ShMax, SgStabM, SgRow, SgSwap, SgRot, SgCmp, SgIns, SgSymA, SgSymB, SgSymC, SgStable, SgCompact, SgSort, SgRight, SgBin, SgFind, SgJoin, SgCmpM, SgOwn, one behind the other. -/
import Derived.Test.YtaaioaocjfpajaaGreatDoorB10
import Derived.Test.YtaaioaocjfpajaaGreatDoorB8
import Derived.Test.YtaaioaocjfpajaaGreatDoorB5
import Derived.Test.YtaaioaocjfpajaaGreatDoorB9
import Derived.Test.YtaaioaocjfpajaaGreatDoorB11
import Derived.Test.YtaaioaocjfpajaaGreatDoorB3
import Derived.Lib.ItoaLen
import Derived.Lib.AppendIntMem
import Derived.Lib.AtoiAll
import Derived.Test.YtaaioaocjfpajaaGreatDoorB1
import Derived.Test.YtaaioaocjfpajaaGreatDoorPkShelf
import Derived.Sort.OwnSortedInts
import Derived.Sort.KeysCollected
import Derived.Deep.MidRow
import Derived.Deep.RegionHeld3
import Derived.Lib.BytesEntry
import Derived.Deep.RegionWith
import Derived.BigRegion
import Derived.Deep.DeepCutAuto
import Derived.Stop.BytesEq
import Derived.Lib.AppendZerosOnto
section
/-
  A record of a pack is got.
-/
namespace Go.Proofs.YtaaioaocjfpajaaGreatDoor
open Go.RowKit Go.Shelf
open Tlv (BySlS)
open Sim (hid Kp No PS Done Blk nm finds pBytes OwnB)

theorem takeF_faults (bs : List Int) : (takeF bs).1 = 0 ∨ ((takeF bs).1 ≠ 0 ∧ (takeF bs).1 ≠ 1 ∧ takeF bs = noRec (takeF bs).1) := by
  cases hr : Tlv.rd 8 bs with
  | none => rw [takeF_none hr]; right; simp [noRec]
  | some x =>
    obtain ⟨t, m⟩ := x
    rw [takeF_some hr]
    by_cases h1 : bs.length - m < 4
    · rw [if_pos h1]; right; simp [noRec]
    · rw [if_neg h1]
      by_cases h2 : sumI (bs.take m) ≠ (bs.drop m).take 4
      · rw [if_pos h2]; right; simp [noRec]
      · rw [if_neg h2]
        cases recOf t with
        | none => right; simp [noRec]
        | some r => left; rfl

/-- What Get answers: a fault of the reading, a place that is none, or what stands there. -/
def Gotten (w w' : World) (b : Nat) (e : Ending) (f : Nat) (bs : List Int) (z : Int) : Prop :=
  ((f ≠ 0 ∧ e = .returned (.tuple #[.agg zRec.toArray, .int .i64 (f : Int)])) ∨
   (f = 0 ∧ (z < 0 ∨ (bs.length : Int) ≤ z) ∧ e = .returned (.tuple #[.agg zRec.toArray, .int .i64 1])) ∨
   (∃ k : Nat, f = 0 ∧ z = k ∧ k < bs.length ∧ (takeF (bs.drop k)).1 ≠ 0 ∧ e = .returned (.tuple #[.agg zRec.toArray, .int .i64 4])) ∨
   (∃ k : Nat, f = 0 ∧ z = k ∧ k < bs.length ∧ (takeF (bs.drop k)).1 = 0 ∧ ∃ a c, e = .returned (.tuple #[.agg (recA (takeF (bs.drop k)).2.1.1 (takeF (bs.drop k)).2.1.2.1 (.slice a (takeF (bs.drop k)).2.1.2.2.length c)).toArray, .int .i64 0]) ∧
      BySlS (fun g => w.heap.size ≤ g ∧ g < w'.heap.size) w' (.slice a (takeF (bs.drop k)).2.1.2.2.length c) (takeF (bs.drop k)).2.1.2.2 ∧ ((takeF (bs.drop k)).2.1.2.1.length = 32 ∧ ∀ y ∈ (takeF (bs.drop k)).2.1.2.1, 0 ≤ y ∧ y ≤ 255))) ∧
  Crc.Kept b w w' ∧ TabX w' b

set_option maxHeartbeats 2000000 in
set_option maxRecDepth 100000 in
theorem get_any {P : Nat → Prop} {N : Nat} (w : World) (s b : Nat) (p : PS) (i : Nat) (z : Int) (h1 : 1 ≤ i) (h2 : i < 100) (h : Sim.Sys P N w s p) (hT : TabX w b) (hb : ∀ x ∈ pBytes (nm (nameP i)) p, x < 256) (hl : (pBytes (nm (nameP i)) p).length ≤ 20000000) :
    Calls Tryz.prog 43 #[.pointer (some ⟨s, 0, none⟩), .pointer (some ⟨b, 0, none⟩), .int .i64 (i : Int), .int .i64 z] w fun e w' => Gotten w w' b e (finds p (nm (nameP i))) (ints (pBytes (nm (nameP i)) p)) z := by
  have HRD := hid (fun V (k : Below w.heap.size w V) => pread_any V s b p i h1 h2 (h.kept (Kp.below k)))
  have HT := hid hT
  have hbw := hT.lt
  obtain ⟨F, hF⟩ : ∃ F, finds p (nm (nameP i)) = F := ⟨_, rfl⟩
  obtain ⟨Y, hY⟩ : ∃ Y, pBytes (nm (nameP i)) p = Y := ⟨_, rfl⟩
  rw [hY] at hb hl
  simp only [hF, hY] at HRD ⊢
  have HY := hid (And.intro hb hl)
  have hz0 := zero35
  have hb0 := build35z
  obtain ⟨Z, hZ⟩ : ∃ Z, zRec = Z := ⟨_, rfl⟩
  have HZ := hid hZ
  have HZL : Hid (Z.length = 34) := by rw [← hZ]; exact zRec_length
  have HZs : Hid (Z.toArray.size = 34) := HZL.out
  rw [hZ] at hz0 hb0
  clear hF hY hb hT hZ
  have HI2 : Hid ((Tryz.prog.info? 56).map (·.size) = some Z.toArray.size) := by rw [← HZ.out]; exact Tryz.info35
  have H1 : Hid (Z.toArray.all (·.oneCell') = true) := by rw [← HZ.out]; exact all_oneCell_toArray zRec_one
  have hB1 : Below w.heap.size w (w.alloc (.cells Z.toArray 56)) := (Below.refl _ _).alloc (Nat.le_refl _) _
  have HT1 : Hid (World.there (w.alloc (.cells Z.toArray 56)) w.heap.size 0 34) := by have h := there_new w Z 56; rwa [HZL.out] at h
  have hs1 : (w.alloc (.cells Z.toArray 56)).heap.size = w.heap.size + 1 := by simp
  have HB1 := hid hB1
  have HRD1 := hid (HRD.out _ hB1)
  clear HRD
  go_enter Tryz.func43, Tryz.ntmps43
  go_wp2_with fail
  generalize hW1 : w.alloc (.cells Z.toArray 56) = W1 at *
  refine HRD1.out.mono ?_
  rintro e w2 ⟨ad, cap, rfl, ho, hlt, hk⟩
  have hB2 : Below W1.heap.size W1 w2 := hk.toBelow'
  have HB2 : Hid (Below w.heap.size w w2) := HB1.out.trans (hB2.mono HB1.out.size)
  have HT2 : Hid (w2.there w.heap.size 0 34) := there_below HT1.out hB2 (by omega)
  have hs2 := hB2.size
  have HO := hid (And.intro ho hlt)
  clear ho hlt hk hB2
  by_cases hF0 : F = 0
  · subst hF0
    have HTB2 := hid (HT.out.below HB2.out)
    have HBY : Hid (BySlS (fun g => W1.heap.size ≤ g ∧ g < w2.heap.size) w2 (.slice ad Y.length cap) (ints Y)) := own_of HO.out.1 HY.out.1 (by have := HY.out.2; omega) W1.heap.size HO.out.2
    by_cases hzr : z < 0 ∨ ((ints Y).length : Int) ≤ z
    · have HAT := hid (at_bad b ad Y.length cap z w2 (by rw [ints_length] at hzr; exact hzr))
      rw [HZ.out] at HAT
      go_wp2_with fail
      refine HAT.out.mono ?_
      rintro e w3 ⟨rfl, hb3⟩
      have HB3 := hid hb3
      have hs3 := hb3.size
      have HTN : Hid (World.there (w3.alloc (.cells Z.toArray 56)) w3.heap.size 0 Z.toArray.size) := there_new w3 Z 56
      have hn3 : Below w3.heap.size w3 ((w3.alloc (.cells Z.toArray 56)).setCells w3.heap.size 0 Z) := ((Below.refl _ _).alloc (Nat.le_refl _) _).trans (setCells_below (Nat.le_refl _) _ _ _)
      have HTR : Hid (World.there ((w3.alloc (.cells Z.toArray 56)).setCells w3.heap.size 0 Z) w.heap.size 0 Z.toArray.size) := by
        rw [Hid, HZs.out]
        exact there_below (there_below HT2.out hb3 (by omega)) hn3 (by omega)
      have HN3 := hid hn3
      clear hb3 hn3
      go_wp2_with (first
        | (refine wpList_store_mid (by rfl) 56 _ _ (by rfl) w3.heap.size 0 Z.toArray (by rfl) (by rfl) HTN.out HI2.out H1.out ?_)
        | (refine wpList_store_mid (by rfl) 56 _ _ (by rfl) w.heap.size 0 Z.toArray (by rfl) (by rfl) HTR.out HI2.out H1.out ?_))
      have hr : World.rangeAt (((w3.alloc (.cells Z.toArray 56)).setCells w3.heap.size 0 Z).setCells w.heap.size 0 Z) w.heap.size 0 Z := World.rangeAt_setCells_same _ _ _ _ HTR.out
      refine bodyPost_ret (v := .tuple #[.agg Z.toArray, .int .i64 1]) (results_cell_mid2 Tryz.results43 _ _ w.heap.size 0 _ _ rfl hr Tryz.underlying56 rfl HI2.out) rfl ?_
      have hall : Below w.heap.size w (((w3.alloc (.cells Z.toArray 56)).setCells w3.heap.size 0 Z).setCells w.heap.size 0 Z) := ((HB2.out.trans (HB3.out.mono HB2.out.size)).trans (HN3.out.mono (by omega))).trans (setCells_below (Nat.le_refl _) _ _ _)
      exact ⟨.inr (.inl ⟨rfl, hzr, by rw [HZ.out]⟩), Crc.Kept.below hall, HT.out.below hall⟩
    · obtain ⟨k, rfl⟩ : ∃ k : Nat, z = k := ⟨z.toNat, by omega⟩
      have hkl : k < (ints Y).length := by omega
      have HAT := hid (at_any b k (.slice ad Y.length cap) (ints Y) w2 HTB2.out (BySlS.mono HBY.out (fun g hg => ⟨by omega, hg.2⟩)) hkl)
      have HFA := hid (takeF_faults ((ints Y).drop k))
      go_wp2_with fail
      refine HAT.out.mono ?_
      rintro e w3 ⟨ar, cr, rfl, hby, hnm, hkk, htt⟩
      generalize hX : takeF ((ints Y).drop k) = X at *
      have HPL := hid (recA_length X.2.1.1 X.2.1.2.1 (.slice ar X.2.1.2.2.length cr) hnm.1)
      have HPO := hid (recA_one X.2.1.1 X.2.1.2.1 ar X.2.1.2.2.length cr)
      obtain ⟨C, hC⟩ : ∃ C, recA X.2.1.1 X.2.1.2.1 (.slice ar X.2.1.2.2.length cr) = C := ⟨_, rfl⟩
      rw [hC] at HPL HPO
      rw [hC]
      have HCs : Hid (C.toArray.size = 34) := HPL.out
      have HI : Hid ((Tryz.prog.info? 56).map (·.size) = some C.toArray.size) := by rw [Hid, HCs.out]; exact Tryz.info35
      have HOC : Hid (C.toArray.all (·.oneCell') = true) := all_oneCell_toArray HPO.out
      have hs3 := hkk.size
      have HTN : Hid (World.there (w3.alloc (.cells Z.toArray 56)) w3.heap.size 0 C.toArray.size) := by have h := there_new w3 Z 56; rw [HZL.out] at h; rw [Hid, HCs.out]; exact h
      have HRN : Hid (World.rangeAt ((w3.alloc (.cells Z.toArray 56)).setCells w3.heap.size 0 C) w3.heap.size 0 C) := World.rangeAt_setCells_same _ _ _ _ HTN.out
      have hn3 : Below w3.heap.size w3 ((w3.alloc (.cells Z.toArray 56)).setCells w3.heap.size 0 C) := ((Below.refl _ _).alloc (Nat.le_refl _) _).trans (setCells_below (Nat.le_refl _) _ _ _)
      have ht3 : ((w3.alloc (.cells Z.toArray 56)).setCells w3.heap.size 0 C).there w.heap.size 0 34 := there_below (there_kept HT2.out hkk (by omega) (by omega)) hn3 (by omega)
      have HTR : Hid (World.there ((w3.alloc (.cells Z.toArray 56)).setCells w3.heap.size 0 C) w.heap.size 0 C.toArray.size) := by rw [Hid, HCs.out]; exact ht3
      have HTZ : Hid (World.there ((w3.alloc (.cells Z.toArray 56)).setCells w3.heap.size 0 C) w.heap.size 0 Z.toArray.size) := by rw [Hid, HZs.out]; exact ht3
      have HN3 := hid hn3
      have HBY3 := hid (And.intro hby (And.intro hnm (And.intro hkk htt)))
      have HX := hid (And.intro hX hC)
      clear hby hnm hkk htt hn3 ht3 hX hC
      have HKALL : Hid (∀ D : List Value, Crc.Kept b w (((w3.alloc (.cells Z.toArray 56)).setCells w3.heap.size 0 C).setCells w.heap.size 0 D) ∧ TabX (((w3.alloc (.cells Z.toArray 56)).setCells w3.heap.size 0 C).setCells w.heap.size 0 D) b) := fun D => by
        have hV : Below w.heap.size w3 (((w3.alloc (.cells Z.toArray 56)).setCells w3.heap.size 0 C).setCells w.heap.size 0 D) := (HN3.out.mono (by omega)).trans (setCells_below (Nat.le_refl _) _ _ _)
        exact ⟨Kept.then ((Crc.Kept.below HB2.out).trans HBY3.out.2.2.1) hV, tabX_below HBY3.out.2.2.2 hV hbw⟩
      by_cases hx0 : X.1 = 0
      · have HX0 := hid hx0
        rw [hx0]
        clear hx0
        go_wp2_with (first
          | (refine wpList_store_mid (by rfl) 56 _ _ (by rfl) w3.heap.size 0 C.toArray (by rfl) (by rfl) HTN.out HI.out HOC.out ?_)
          | (refine wpList_load_mid (by rfl) 56 _ (by rfl) w3.heap.size 0 (by rfl) C _ HRN.out Tryz.underlying56 rfl HI.out ?_)
          | (refine wpList_store_mid (by rfl) 56 _ _ (by rfl) w.heap.size 0 C.toArray (by rfl) (by rfl) HTR.out HI.out HOC.out ?_))
        have hr : World.rangeAt (((w3.alloc (.cells Z.toArray 56)).setCells w3.heap.size 0 C).setCells w.heap.size 0 C) w.heap.size 0 C := World.rangeAt_setCells_same _ _ _ _ HTR.out
        refine bodyPost_ret (v := .tuple #[.agg C.toArray, .int .i64 0]) (results_cell_mid2 Tryz.results43 _ _ w.heap.size 0 _ _ rfl hr Tryz.underlying56 rfl HI.out) rfl ?_
        obtain ⟨hby, hnm, hkk, htt⟩ := HBY3.out
        obtain ⟨hX, hC⟩ := HX.out
        refine ⟨.inr (.inr (.inr ⟨k, rfl, rfl, hkl, by rw [hX]; exact HX0.out, ar, cr, by rw [hX, hC], ?_, by rw [hX]; exact hnm⟩)), HKALL.out C⟩
        rw [hX]
        have hV : Below w.heap.size w3 (((w3.alloc (.cells Z.toArray 56)).setCells w3.heap.size 0 C).setCells w.heap.size 0 C) := (HN3.out.mono (by omega)).trans (setCells_below (Nat.le_refl _) _ _ _)
        exact hby.agree (fun g hg => (setCells_block _ _ _ _ _ (by omega)).trans (HN3.out.block g hg.2)) (fun g hg => ⟨by omega, Nat.lt_of_lt_of_le hg.2 hV.size⟩)
      · have hx1 : ¬ X.1 = 1 := by
          rcases HFA.out with h | h
          · exact absurd h hx0
          · exact h.2.1
        obtain ⟨fx, hfx⟩ : ∃ fx, X.1 = fx := ⟨_, rfl⟩
        have HFX := hid hfx
        rw [hfx] at hx0 hx1 ⊢
        clear hfx
        go_wp2_with (first
          | (refine wpList_store_mid (by rfl) 56 _ _ (by rfl) w3.heap.size 0 C.toArray (by rfl) (by rfl) HTN.out HI.out HOC.out ?_)
          | (refine wpList_store_mid (by rfl) 56 _ _ (by rfl) w.heap.size 0 Z.toArray (by rfl) (by rfl) HTZ.out HI2.out H1.out ?_))
        have hr : World.rangeAt (((w3.alloc (.cells Z.toArray 56)).setCells w3.heap.size 0 C).setCells w.heap.size 0 Z) w.heap.size 0 Z := World.rangeAt_setCells_same _ _ _ _ HTZ.out
        refine bodyPost_ret (v := .tuple #[.agg Z.toArray, .int .i64 4]) (results_cell_mid2 Tryz.results43 _ _ w.heap.size 0 _ _ rfl hr Tryz.underlying56 rfl HI2.out) rfl ?_
        exact ⟨.inr (.inr (.inl ⟨k, rfl, rfl, hkl, by rw [HX.out.1, HFX.out]; exact hx0, by rw [HZ.out]⟩)), HKALL.out Z⟩
  · have hF' : ¬ ((F : Int) = 0) := by omega
    have HTZ : Hid (World.there w2 w.heap.size 0 Z.toArray.size) := by rw [Hid, HZs.out]; exact HT2.out
    go_wp2_with (refine wpList_store_mid (by rfl) 56 _ _ (by rfl) w.heap.size 0 Z.toArray (by rfl) (by rfl) HTZ.out HI2.out H1.out ?_)
    have hr : World.rangeAt (w2.setCells w.heap.size 0 Z) w.heap.size 0 Z := World.rangeAt_setCells_same _ _ _ _ HTZ.out
    refine bodyPost_ret (v := .tuple #[.agg Z.toArray, .int .i64 (F : Int)]) (results_cell_mid2 Tryz.results43 _ _ w.heap.size 0 _ _ rfl hr Tryz.underlying56 rfl HI2.out) rfl ?_
    have hall : Below w.heap.size w (w2.setCells w.heap.size 0 Z) := HB2.out.trans (setCells_below (Nat.le_refl _) _ _ _)
    exact ⟨.inl ⟨hF0, by rw [HZ.out]⟩, Crc.Kept.below hall, HT.out.below hall⟩
end Go.Proofs.YtaaioaocjfpajaaGreatDoor
end

section
/-
  Plain mathematics: frames laid one behind the other, and cut off anywhere, are scanned to those that are whole.
-/
namespace Go.Proofs.YtaaioaocjfpajaaGreatDoor

abbrev Rec : Type := Int × List Int × List Int
def frOf (r : Rec) : List Int := frameR r.1 r.2.1 r.2.2
def Rt (r : Rec) : Prop := RightR r.1 r.2.1 r.2.2
theorem frOf_length {r : Rec} (h : Rt r) : (frOf r).length = 49 + r.2.2.length := frameR_length h

/-- Frames, one behind the other. -/
def cat : List Rec → List Int
  | [] => []
  | r :: rs => frOf r ++ cat rs
theorem cat_bd : ∀ {rs : List Rec}, (∀ r ∈ rs, Rt r) → ∀ x ∈ cat rs, 0 ≤ x ∧ x ≤ 255
  | [], _, x, hx => by simp [cat] at hx
  | r :: rs, h, x, hx => by
    rw [cat] at hx
    rcases List.mem_append.1 hx with hx | hx
    · exact frameR_bd (h r List.mem_cons_self) x hx
    · exact cat_bd (fun y hy => h y (List.mem_cons_of_mem _ hy)) x hx

/-- What is found of them, from a place on. -/
def itemsOf : Nat → List Rec → List Item
  | _, [] => []
  | p, r :: rs => (p, (0, r, (frOf r).length)) :: itemsOf (p + (frOf r).length) rs
theorem itemsOf_length : ∀ (p : Nat) (rs : List Rec), (itemsOf p rs).length = rs.length
  | _, [] => rfl
  | p, r :: rs => by rw [itemsOf, List.length_cons, List.length_cons, itemsOf_length]
/-- How many are whole in the first c bytes. -/
def cnt : List Rec → Nat → Nat
  | [], _ => 0
  | r :: rs, c => if (frOf r).length ≤ c then cnt rs (c - (frOf r).length) + 1 else 0
theorem cnt_all : ∀ (rs : List Rec) (c : Nat), (cat rs).length ≤ c → cnt rs c = rs.length
  | [], _, _ => rfl
  | r :: rs, c, h => by
    rw [cat, List.length_append] at h
    rw [cnt, if_pos (by omega), cnt_all rs _ (by omega), List.length_cons]
theorem scan_cat : ∀ (rs : List Rec) (pre : List Int) (c : Nat), (∀ r ∈ rs, Rt r) → c ≤ (cat rs).length →
    scanR (tl (pre ++ (cat rs).take c) pre.length) pre.length = (itemsOf pre.length (rs.take (cnt rs c)), pre.length + (cat (rs.take (cnt rs c))).length, if (cat (rs.take (cnt rs c))).length = c then 0 else 16)
  | [], pre, c, _, hc => by
    have h0 : c = 0 := by simpa [cat] using hc
    subst h0
    rw [tl_end (by simp [cat])]
    simp [scanR, cnt, itemsOf, cat]
  | r :: rs, pre, c, hr, hc => by
    have hR := hr r List.mem_cons_self
    have hl := frOf_length hR
    have hrs : ∀ x ∈ rs, Rt x := fun x hx => hr x (List.mem_cons_of_mem _ hx)
    rw [cat, List.length_append] at hc
    by_cases h1 : (frOf r).length ≤ c
    · have e : (cat (r :: rs)).take c = frOf r ++ (cat rs).take (c - (frOf r).length) := by rw [cat, List.take_append, List.take_of_length_le h1]
      have hd : (pre ++ (cat (r :: rs)).take c).drop pre.length = frOf r ++ (cat rs).take (c - (frOf r).length) := by rw [e, List.drop_left' rfl]
      have ht : takeF ((pre ++ (cat (r :: rs)).take c).drop pre.length) = (0, r, (frOf r).length) := by rw [hd, hl]; exact take_frame hR _
      have hlt : pre.length < (pre ++ (cat (r :: rs)).take c).length := by rw [e, List.length_append, List.length_append]; omega
      rw [tl_good hlt (by rw [ht]), ht]
      have ih := scan_cat rs (pre ++ frOf r) (c - (frOf r).length) hrs (by omega)
      have e2 : (pre ++ (cat (r :: rs)).take c) = (pre ++ frOf r) ++ (cat rs).take (c - (frOf r).length) := by rw [e, List.append_assoc]
      have e3 : pre.length + (frOf r).length = (pre ++ frOf r).length := by rw [List.length_append]
      rw [scanR, if_pos rfl, e2, show (pre.length, ((0 : Int), r, (frOf r).length)).fst + (pre.length, ((0 : Int), r, (frOf r).length)).snd.snd.snd = (pre ++ frOf r).length from e3,
        ih, cnt, if_pos h1, List.take_succ_cons, itemsOf, cat, List.length_append, List.length_append]
      simp only [Prod.mk.injEq, true_and]
      refine ⟨by omega, ?_⟩
      by_cases h2 : (cat (rs.take (cnt rs (c - (frOf r).length)))).length = c - (frOf r).length
      · rw [if_pos h2, if_pos (by omega)]
      · rw [if_neg h2, if_neg (by omega)]
    · have e : (cat (r :: rs)).take c = (frOf r).take c := by rw [cat, List.take_append_of_le_length (by omega)]
      have hc0 : cnt (r :: rs) c = 0 := by rw [cnt, if_neg h1]
      rw [hc0, e]
      by_cases h0 : c = 0
      · subst h0
        rw [tl_end (by simp)]
        simp [scanR, itemsOf, cat]
      · have hd : (pre ++ (frOf r).take c).drop pre.length = (frOf r).take c := by rw [List.drop_left' rfl]
        have ht : takeF ((pre ++ (frOf r).take c).drop pre.length) = noRec 16 := by rw [hd]; exact take_cut hR (by omega)
        have hlt : pre.length < (pre ++ (frOf r).take c).length := by rw [List.length_append, List.length_take]; omega
        rw [tl_bad hlt (by rw [ht]; simp [noRec]), ht, scanR, if_neg (by simp [noRec])]
        simp only [List.take_zero, itemsOf, cat, List.length_nil, Nat.add_zero]
        rw [if_neg (by omega)]
        rfl

/-- What Scan finds in the first c bytes. -/
theorem scanF_cat {rs : List Rec} {c : Nat} (hr : ∀ r ∈ rs, Rt r) (hc : c ≤ (cat rs).length) :
    scanF ((cat rs).take c) = (itemsOf 0 (rs.take (cnt rs c)), (cat (rs.take (cnt rs c))).length, if (cat (rs.take (cnt rs c))).length = c then 0 else 16) := by
  have h := scan_cat rs [] c hr hc
  simpa [scanF] using h

end Go.Proofs.YtaaioaocjfpajaaGreatDoor
end

section
/-
  What the reference's Take and Get answer.
-/
namespace Go.Proofs.YtaaioaocjfpajaaGreatDoor.Tlv
open Go.RowKit
attribute [local go_sem ↓] Go.wp_at_zero Go.wp_at_succ

end Go.Proofs.YtaaioaocjfpajaaGreatDoor.Tlv
end

section
/-
  What the reference's Open does.
-/
namespace Go.Proofs.YtaaioaocjfpajaaGreatDoor.Crc
open Go.RowKit

end Go.Proofs.YtaaioaocjfpajaaGreatDoor.Crc
end

section
/-
  The document's Take.
-/
namespace Go.Proofs.YtaaioaocjfpajaaGreatDoor
open Go.RowKit Go.Shelf
open Tlv (Tr BySlS AgreeS Agree)
open Crc (hid Kept Tab)
end Go.Proofs.YtaaioaocjfpajaaGreatDoor
end

section
/-
  The document's Scan.
-/
namespace Go.Proofs.YtaaioaocjfpajaaGreatDoor
open Go.RowKit Go.Shelf
open Tlv (Tr BySlS AgreeS Agree)
open Crc (hid Kept Tab)

theorem wpList_val {P : Program} {ops : Array Oper} {rest : List Oper} {o : Oper} {a : Act} {Q : Exit → Act → World → Prop} {w w' : World} {v : Value} (hgd : o.guard = none) (hr : (execOp a.eval o).run P w = .ok (.value v) w') (h : wpList P ops Q rest (a.put o.dst v) w') : wpList P ops Q (o :: rest) a w :=
  wpList_plain hgd fun _ hK => by unfold Oper.wp; rw [hr]; exact hK _ _ h

end Go.Proofs.YtaaioaocjfpajaaGreatDoor
end

section
/-
  FrameTurned, walked: a frame of which bits within 32 are turned, behind its first three bytes, is none.
-/
namespace Go.Proofs.YtaaioaocjfpajaaGreatDoor
open Go.RowKit
open Tlv (Tr BySlS AgreeS Agree)
open Crc (hid Kept Tab turn)
end Go.Proofs.YtaaioaocjfpajaaGreatDoor
end

section
/-
  Three rows that a call builds side by side: bytes, ends, records.
-/
namespace Go.Proofs.YtaaioaocjfpajaaGreatDoor
open Go.RowKit Go.Shelf
open Tlv (Tr BySlS AgreeS Agree)
open Crc (hid Kept Tab)

/-- One of the list: a record, and where its body lies. -/
abbrev El : Type := Rec × Option Addr × Nat
def elV (z : El) : Value := .slice z.2.1 z.1.2.2.length z.2.2
def elC (z : El) : List Value := recA z.1.1 z.1.2.1 (elV z)
def elOk (z : El) : Prop := z.1.2.1.length = 32 ∧ ∀ y ∈ z.1.2.1, 0 ≤ y ∧ y ≤ 255
theorem elC_length {z : El} (h : elOk z) : (elC z).length = 34 := recA_length _ _ _ h.1
theorem elC_one (z : El) : ∀ v ∈ elC z, v.oneCell' = true := recA_one _ _ _ _ _
section
variable {B b : Nat} {w1 wr W : World} {va ve vw : Value} {xa : List Int} {xe : List Nat} {zs : List El}
end
end Go.Proofs.YtaaioaocjfpajaaGreatDoor
end

section
/-
  A pack that is written, record by record, on a disk that may go down; the writer's other calls.
-/
namespace Go.Proofs.YtaaioaocjfpajaaGreatDoor
open Go.RowKit Go.Shelf
open Tlv (BySlS Agree)
open Sim (hid Kp No PS Done Blk nm finds pBytes pRemove OwnB Beg)

theorem sizeW_any (w : World) (g s b : Nat) (i sz ct : Int) (cl : Bool) (h : WrAt w g s b i sz ct cl) : Calls Tryz.prog 82 #[.pointer (some ⟨g, 0, none⟩)] w fun e w' => e = .returned (.int .i64 sz) ∧ w' = w := by
  have c3 : w.cell? ⟨g, 3, none⟩ = some (.int .i64 sz) := h.cell 3
  clear h
  go_enter Tryz.func82, Tryz.ntmps82
  go_wp2
  go_ret
  exact ⟨rfl, rfl⟩
def goodB (y : El) : Bool := rightB y.1.1 y.1.2.2.length
theorem good_right {y : El} (h : goodB y = true) (ho : elOk y) (hb : ∀ x ∈ y.1.2.2, 0 ≤ x ∧ x ≤ 255) : Rt y.1 := by
  simp [goodB, rightB] at h
  exact ⟨by omega, by omega, by omega, ho.1, ho.2, hb⟩
section
variable {s b g x N : Nat} {ar : Bool} {K K' : Nat → Prop} {w wr V : World} {rs : List Rec}
end
end Go.Proofs.YtaaioaocjfpajaaGreatDoor
end

section
/-
  The names of any id.
-/
namespace Go.Proofs.YtaaioaocjfpajaaGreatDoor
open Go.RowKit Go.Shelf
open Sim (hid)

/-- A name of that sort, of any id. -/
def nameZ (p : ByteArray) (z : Int) : ByteArray := if idB z then p ++ ⟨(Lib.itoa z).toArray⟩ else ⟨#[]⟩

set_option maxHeartbeats 1000000 in
theorem name_any (p : ByteArray) (hp : p.size ≤ 100) (z : Int) (w : World) (htab : Lib.TabIs Tryz.prog w "internal/strconv.uint64pow10" .u64 Lib.pow10Tab) :
    Calls Tryz.prog 33 #[.string p, .int .i64 z] w fun e w' => e = .returned (.string (nameZ p z)) ∧ Below w.heap.size w w' := by
  cases hid1 : idB z with
  | false =>
    go_enter Tryz.func33, Tryz.ntmps33
    go_wp2_with (go_at_call 57; refine (isID_any _ _).mono ?_; rintro e w1 ⟨rfl, h⟩; subst w1; rw [hid1])
    go_ret
    exact ⟨by rw [nameZ, hid1]; rfl, Below.refl _ _⟩
  | true =>
    have hz : 1 ≤ z ∧ z ≤ 999999 := by simpa [idB] using hid1
    have HI : Hid (Calls Tryz.prog 58 #[.int .i64 z] w fun e w' => e = .returned (.string ⟨(Lib.itoa z).toArray⟩) ∧ Below w.heap.size w w') := by
      refine (Any.strconv_Itoa Sim.Tryz.itoa z (by omega) (by omega) w htab).mono ?_
      rintro e w' ⟨rfl, k, os, rfl⟩
      exact ⟨rfl, Lib.below_grow _ _ (Nat.le_refl _) _ _⟩
    have hl := Lib.itoa_length_le z (by omega) (by omega)
    have hsz : ¬ 9223372036854775807 < p.size + (Lib.itoa z).length := by omega
    go_enter Tryz.func33, Tryz.ntmps33
    go_wp2_with (first
      | (go_at_call 57; refine (isID_any _ _).mono ?_; rintro e w1 ⟨rfl, h⟩; subst w1; rw [hid1])
      | (go_at_call 58; refine HI.out.mono ?_; rintro e w2 ⟨rfl, h⟩; have HG := Sim.hid h; clear h))
    go_ret
    exact ⟨by rw [nameZ, hid1]; rfl, HG.out⟩

end Go.Proofs.YtaaioaocjfpajaaGreatDoor
end

section
/-
  Digits, and what they tell.
-/
namespace Go.Proofs.YtaaioaocjfpajaaGreatDoor
open Go.RowKit Go.Shelf
open Sim (hid)

def digB (c : UInt8) : Bool := decide (48 ≤ c.toNat) && decide (c.toNat ≤ 57)
/-- What digits tell, behind a number. -/
def valD (a : Nat) (l : List UInt8) : Nat := l.foldl (fun a c => a * 10 + (c.toNat - 48)) a
theorem valD_append (a : Nat) (l m : List UInt8) : valD a (l ++ m) = valD (valD a l) m := by unfold valD; rw [List.foldl_append]
theorem dig_of {i : Nat} (h : i < 10) : (UInt8.ofNat (48 + i)).toNat = 48 + i := by
  rw [UInt8.toNat_ofNat']
  omega
theorem dec_step {u : Nat} (h : ¬ u < 10) : Lib.decDigits u = Lib.decDigits (u / 10) ++ [UInt8.ofNat (48 + u % 10)] := by
  rw [Lib.decDigits, dif_neg h]
theorem dec_digs (u : Nat) : ∀ c ∈ Lib.decDigits u, digB c = true := by
  induction u using Nat.strongRecOn with
  | _ u ih =>
    by_cases h : u < 10
    · rw [Lib.decDigits_one h]
      intro c hc
      rw [List.mem_singleton] at hc
      subst hc
      unfold digB
      rw [dig_of h]
      simp
      omega
    · rw [dec_step h]
      intro c hc
      rcases List.mem_append.1 hc with hc | hc
      · exact ih (u / 10) (by omega) c hc
      · rw [List.mem_singleton] at hc
        subst hc
        have : u % 10 < 10 := by omega
        unfold digB
        rw [dig_of this]
        simp
        omega
theorem dec_val (u : Nat) : valD 0 (Lib.decDigits u) = u := by
  induction u using Nat.strongRecOn with
  | _ u ih =>
    by_cases h : u < 10
    · rw [Lib.decDigits_one h]
      show 0 * 10 + ((UInt8.ofNat (48 + u)).toNat - 48) = u
      rw [dig_of h]
      omega
    · rw [dec_step h, valD_append, ih (u / 10) (by omega)]
      have : u % 10 < 10 := by omega
      show u / 10 * 10 + ((UInt8.ofNat (48 + u % 10)).toNat - 48) = u
      rw [dig_of this]
      omega
theorem dec_pos (u : Nat) : 1 ≤ (Lib.decDigits u).length := by
  by_cases h : u < 10
  · rw [Lib.decDigits_one h]; simp
  · rw [dec_step h]; simp
theorem dec_len : ∀ (k u : Nat), u < 10 ^ (k + 1) → (Lib.decDigits u).length ≤ k + 1
  | 0, u, h => by rw [Lib.decDigits_one (by simpa using h)]; simp
  | k + 1, u, h => by
    by_cases h1 : u < 10
    · rw [Lib.decDigits_one h1]; simp
    · rw [dec_step h1, List.length_append, List.length_singleton]
      have := dec_len k (u / 10) (by rw [Nat.pow_succ] at h; omega)
      omega
theorem dec_six {u : Nat} (h : u ≤ 999999) : (Lib.decDigits u).length ≤ 6 := dec_len 5 u (by have : (10 : Nat) ^ 6 = 1000000 := by decide
                                                                                             omega)
theorem parse_digs : ∀ (l : List UInt8) (a : Nat), l.all digB = true → (a + 1) * 10 ^ l.length ≤ 1000000000000 → Lib.parseUint10 a l = .ok (valD a l)
  | [], a, _, _ => rfl
  | c :: r, a, h, hb => by
    simp only [List.all_cons, Bool.and_eq_true] at h
    have hc : 48 ≤ c.toNat ∧ c.toNat ≤ 57 := by have := h.1; simp [digB] at this; exact this
    rw [List.length_cons, Nat.pow_succ] at hb
    have hp : 1 ≤ 10 ^ r.length := Nat.one_le_pow _ _ (by omega)
    have h10 : a * 10 + (c.toNat - 48) + 1 ≤ (a + 1) * 10 := by omega
    have hb' : (a * 10 + (c.toNat - 48) + 1) * 10 ^ r.length ≤ 1000000000000 := by
      refine Nat.le_trans (Nat.mul_le_mul_right _ h10) ?_
      rw [Nat.mul_assoc, Nat.mul_comm 10]
      exact hb
    have ha : a * 10 + (c.toNat - 48) + 1 ≤ 1000000000000 := Nat.le_trans (Nat.le_mul_of_pos_right _ hp) hb'
    unfold Lib.parseUint10
    rw [if_pos hc, if_neg (by omega), if_neg (by omega), parse_digs r _ h.2 hb']
    rfl

/-! ### The id of a name -/
/-- Those of that sort. -/
theorem nameZ_of {p : ByteArray} {u : Nat} (h1 : 1 ≤ u) (h2 : u ≤ 999999) : nameZ p (u : Int) = p ++ ⟨(Lib.decDigits u).toArray⟩ := by
  have : idB (u : Int) = true := by simp [idB]; omega
  rw [nameZ, this, if_pos rfl, Lib.itoa_nonneg]
/-- What a number tells, or none. -/
def idAt (p s : ByteArray) : Lib.NumEnd Int → Int × Bool
  | .ok v => if nameZ p v = s then (v, true) else (0, false)
  | _ => (0, false)
/-- What ID tells: by the rest behind the prefix. -/
def idOf (p s : ByteArray) : Int × Bool :=
  if Lib.hasPrefix s.data.toList p.data.toList = true then idAt p s (Lib.atoiAll (Lib.trimPrefix s.data.toList p.data.toList)) else (0, false)
theorem atoi_dec {u : Nat} (h : u ≤ 999999) : Lib.atoiAll (Lib.decDigits u) = .ok (u : Int) := by
  have hd := dec_digs u
  have hl := dec_six h
  have hp := dec_pos u
  have hv := dec_val u
  generalize Lib.decDigits u = l at *
  cases l with
  | nil => simp at hp
  | cons c r =>
    have hc : 48 ≤ c.toNat ∧ c.toNat ≤ 57 := by have := hd c (by simp); simp [digB] at this; exact this
    have hall : (c :: r).all digB = true := List.all_eq_true.2 hd
    have hlen : (0 + 1) * 10 ^ (c :: r).length ≤ 1000000000000 := by
      have : 10 ^ (c :: r).length ≤ 10 ^ 6 := Nat.pow_le_pow_right (by omega) hl
      have e : (10 : Nat) ^ 6 = 1000000 := by decide
      omega
    unfold Lib.atoiAll
    simp only
    rw [if_neg (by omega)]
    unfold Lib.parseMag
    rw [if_neg (by simp), parse_digs _ _ hall hlen, hv]
    simp only
    rw [if_neg (by omega), if_neg (by omega), if_neg (by omega)]
theorem bytes_inj {a b : ByteArray} (h : a.data.toList = b.data.toList) : a = b := by
  cases a; cases b; simp at h; rw [h]
theorem app_data (p : ByteArray) (l : List UInt8) : (p ++ ⟨l.toArray⟩ : ByteArray).data.toList = p.data.toList ++ l := by
  simp [ByteArray.data_append]
theorem pre_app (p l : List UInt8) : Lib.hasPrefix (p ++ l) p = true := by
  unfold Lib.hasPrefix
  exact List.isPrefixOf_iff_prefix.2 (List.prefix_append p l)
theorem trim_app (p l : List UInt8) : Lib.trimPrefix (p ++ l) p = l := by
  unfold Lib.trimPrefix
  rw [if_pos (pre_app p l), List.drop_left]
/-- A pack's name has its id. -/
theorem idOf_name {p : ByteArray} {u : Nat} (h1 : 1 ≤ u) (h2 : u ≤ 999999) : idOf p (nameZ p (u : Int)) = ((u : Int), true) := by
  have e := nameZ_of (p := p) h1 h2
  have hd : (nameZ p (u : Int)).data.toList = p.data.toList ++ Lib.decDigits u := by rw [e, app_data]
  unfold idOf
  rw [hd, if_pos (pre_app _ _), trim_app, atoi_dec h2]
  show (if nameZ p (u : Int) = nameZ p (u : Int) then ((u : Int), true) else (0, false)) = _
  rw [if_pos rfl]
end Go.Proofs.YtaaioaocjfpajaaGreatDoor
end

section
/-
  The id of any name.
-/
namespace Go.Proofs.YtaaioaocjfpajaaGreatDoor
open Go.RowKit Go.Shelf
open Sim (hid)

/-- The variables of strconv that are read: a table, two errors. -/
structure Vars (w : World) : Prop where
  tab : Lib.TabIs Tryz.prog w "internal/strconv.uint64pow10" .u64 Lib.pow10Tab
  syn : ∃ tp p, w.var? Tryz.prog "strconv.ErrSyntax" = some #[.iface tp p]
  rng : ∃ tp p, w.var? Tryz.prog "strconv.ErrRange" = some #[.iface tp p]
theorem var_below {w w' : World} {n : String} {cs : Array Value} (k : Below w.heap.size w w') (h : w.var? Tryz.prog n = some cs) : w'.var? Tryz.prog n = some cs := by
  unfold World.var? at h ⊢
  cases hg : Tryz.prog.globalNamed n with
  | none => rw [hg] at h; cases h
  | some g =>
    rw [hg] at h
    simp only [Option.bind_some] at h ⊢
    have hlt : g < w.heap.size := by
      rcases Nat.lt_or_ge g w.heap.size with h' | h'
      · exact h'
      · rw [Array.getElem?_eq_none h'] at h; cases h
    rw [k.block g hlt]
    exact h
theorem Vars.below {w w' : World} (h : Vars w) (k : Below w.heap.size w w') : Vars w' := by
  obtain ⟨h1, ⟨t2, p2, h2⟩, ⟨t3, p3, h3⟩⟩ := h
  exact ⟨var_below k h1, ⟨t2, p2, var_below k h2⟩, ⟨t3, p3, var_below k h3⟩⟩

/-- Atoi of any text: a number, or an error that is not nil. -/
theorem atoi_any (s : ByteArray) (hs : s.size ≤ 20000000) (w : World) (hv : Vars w) : Calls Tryz.prog 87 #[.string s] w fun e w' => (∃ (z : Int) (er : Value), e = .returned (.tuple #[.int .i64 z, er]) ∧ ((er = .nilIface ∧ Lib.atoiAll s.data.toList = .ok z) ∨ ((∃ t a, er = .iface t (.pointer (some a))) ∧ ∀ v, Lib.atoiAll s.data.toList ≠ .ok v))) ∧ Below w.heap.size w w' := by
  cases h : Lib.atoiAll s.data.toList with
  | ok v =>
    refine (Any.strconv_Atoi_ok Sim.Tryz.atoi s (by omega) v h w).mono ?_
    rintro e w' ⟨rfl, hw⟩
    refine ⟨⟨v, .nilIface, rfl, .inl ⟨rfl, rfl⟩⟩, ?_⟩
    rcases hw with rfl | ⟨t, rfl⟩
    · exact Below.refl _ _
    · exact Lib.bytesWorld_below _ _ _
  | «syntax» =>
    obtain ⟨tp, p, hp⟩ := hv.syn
    refine (Any.strconv_Atoi_syntax_var Sim.Tryz.atoi s (by omega) h tp p w hp).mono ?_
    rintro e w' ⟨N, rfl, _, _, hb⟩
    exact ⟨⟨0, _, rfl, .inr ⟨⟨_, _, rfl⟩, fun v hv => by cases hv⟩⟩, hb⟩
  | range =>
    obtain ⟨tp, p, hp⟩ := hv.rng
    refine (Any.strconv_Atoi_range_var Sim.Tryz.atoi s (by omega) h tp p w hp).mono ?_
    rintro e w' ⟨N, rfl, _, _, hb⟩
    exact ⟨⟨_, _, rfl, .inr ⟨⟨_, _, rfl⟩, fun v hv => by cases hv⟩⟩, hb⟩

set_option maxHeartbeats 4000000 in
theorem pid_any (p : ByteArray) (hp : p.size ≤ 100) (s : ByteArray) (hs : s.size ≤ 20000000) (w : World) (hv : Vars w) :
    Calls Tryz.prog 61 #[.string p, .string s] w fun e w' => e = .returned (.tuple #[.int .i64 (idOf p s).1, .bool (idOf p s).2]) ∧ Below w.heap.size w w' := by
  have HCUT := hid (Any.strings_CutPrefix Sim.Tryz.cut s p w)
  cases hh : Lib.hasPrefix s.data.toList p.data.toList with
  | false =>
    have e : idOf p s = (0, false) := by unfold idOf; rw [hh]; rfl
    rw [e]
    rw [hh] at HCUT
    clear hh e
    go_enter Tryz.func61, Tryz.ntmps61
    go_wp2_with (go_at_call 86; refine HCUT.out.mono ?_; rintro e w1 ⟨rfl, h⟩; subst w1)
    go_ret2
    exact ⟨rfl, Below.refl _ _⟩
  | true =>
    rw [hh] at HCUT
    have hr : (⟨(Lib.trimPrefix s.data.toList p.data.toList).toArray⟩ : ByteArray).size ≤ 20000000 := by
      have h1 : (Lib.trimPrefix s.data.toList p.data.toList).length ≤ s.size := by
        unfold Lib.trimPrefix
        rw [Lib.size_eq, if_pos hh, List.length_drop]
        omega
      have h2 : (⟨(Lib.trimPrefix s.data.toList p.data.toList).toArray⟩ : ByteArray).size = (Lib.trimPrefix s.data.toList p.data.toList).length := by rw [Lib.size_eq]
      omega
    have HAT := hid (atoi_any ⟨(Lib.trimPrefix s.data.toList p.data.toList).toArray⟩ hr w hv)
    have HV := hid hv
    have HI : Hid (idOf p s = idAt p s (Lib.atoiAll (Lib.trimPrefix s.data.toList p.data.toList))) := by unfold Hid idOf; rw [if_pos hh]
    have hd : (⟨(Lib.trimPrefix s.data.toList p.data.toList).toArray⟩ : ByteArray).data.toList = Lib.trimPrefix s.data.toList p.data.toList := rfl
    rw [hd] at HAT
    generalize Lib.trimPrefix s.data.toList p.data.toList = l at *
    obtain ⟨x, hx⟩ : ∃ x, idOf p s = x := ⟨_, rfl⟩
    rw [hx] at HI ⊢
    clear hh hr hd hx hv
    go_enter Tryz.func61, Tryz.ntmps61
    go_wp2_with fail
    refine HCUT.out.mono ?_
    rintro e w1 ⟨rfl, h⟩
    subst w1
    go_wp2_with fail
    refine HAT.out.mono ?_
    rintro e w2 ⟨⟨z, er, rfl, hz⟩, hb⟩
    have HB := hid hb
    have HV2 := hid (HV.out.below hb)
    clear hb
    rcases hz with ⟨rfl, hz⟩ | ⟨⟨t, a, rfl⟩, hz⟩
    · rw [hz, show idAt p s (.ok z) = if nameZ p z = s then (z, true) else (0, false) from rfl] at HI
      have HN := hid (name_any p hp z w2 HV2.out.tab)
      by_cases hq : nameZ p z = s
      · rw [if_pos hq] at HI
        rw [hq] at HN
        have heq : (s.toList == s.toList) = true := by simp
        clear hq hz
        go_wp2_with (go_at_call 33; refine HN.out.mono ?_; rintro e w3 ⟨rfl, h⟩; have HB3 := hid h; clear h)
        go_ret2
        exact ⟨by rw [HI.out]; rfl, HB.out.trans (HB3.out.mono HB.out.size)⟩
      · rw [if_neg hq] at HI
        have heq : ((nameZ p z).toList == s.toList) = false := by
          rw [beq_eq_false_iff_ne, ByteArray.toList_eq, ByteArray.toList_eq]
          exact fun e => hq (bytes_inj e)
        generalize nameZ p z = nz at *
        clear hq hz
        go_wp2_with (go_at_call 33; refine HN.out.mono ?_; rintro e w3 ⟨rfl, h⟩; have HB3 := hid h; clear h)
        go_ret2
        exact ⟨by rw [HI.out]; rfl, HB.out.trans (HB3.out.mono HB.out.size)⟩
    · have HX : Hid (x = (0, false)) := by
        rw [Hid, HI.out]
        cases hl : Lib.atoiAll l with
        | ok v => exact absurd hl (hz v)
        | «syntax» => rfl
        | range => rfl
      clear hz HI
      go_wp2
      go_ret2
      exact ⟨by rw [HX.out]; rfl, HB.out⟩

end Go.Proofs.YtaaioaocjfpajaaGreatDoor
end

section
/-
  What is picked of the names that are seen: temporary ones; and their cleaning.
-/
namespace Go.Proofs.YtaaioaocjfpajaaGreatDoor
open Go.RowKit Go.Shelf
open Sim (hid Kp No PS Done Blk nm finds pBytes pRemove pSyncDir pList Nm OwnN Row)

def tmpL : List UInt8 := [116, 109, 112, 46]
/-- Is it a temporary name? -/
def isTmp (n : Nm) : Bool := Lib.hasPrefix n tmpL

theorem own_any (n : Nm) (w : World) : Calls Tryz.prog 47 #[.string ⟨#[116, 109, 112, 46]⟩, .string ⟨n.toArray⟩] w fun e w' => ∃ t, e = .returned (.tuple #[.string t, .bool (isTmp n)]) ∧ (isTmp n = true → t = ⟨n.toArray⟩) ∧ w' = w := by
  have HP := hid (Any.strings_HasPrefix Sim.Tryz.hasP ⟨n.toArray⟩ ⟨#[116, 109, 112, 46]⟩ w)
  have e : Lib.hasPrefix (⟨n.toArray⟩ : ByteArray).data.toList (⟨#[116, 109, 112, 46]⟩ : ByteArray).data.toList = isTmp n := rfl
  rw [e] at HP
  clear e
  cases hb : isTmp n with
  | true =>
    rw [hb] at HP
    clear hb
    go_enter Tryz.func47, Tryz.ntmps47
    go_wp2_with (go_at_call 75; refine HP.out.mono ?_; rintro e w1 ⟨rfl, h⟩; subst w1)
    go_ret2
    exact ⟨_, rfl, fun _ => rfl, rfl⟩
  | false =>
    rw [hb] at HP
    clear hb
    go_enter Tryz.func47, Tryz.ntmps47
    go_wp2_with (go_at_call 75; refine HP.out.mono ?_; rintro e w1 ⟨rfl, h⟩; subst w1)
    go_ret2
    exact ⟨_, rfl, fun h => (by cases h), rfl⟩

theorem infoS : (Tryz.prog.info? 9).map (fun i => (i.zero, i.size, i.bytes)) = some (some (.string ⟨#[]⟩), 1, 16) := by kernel_rfl
theorem run_onestr (s : ByteArray) (w : World) : (Instr.buildSlice 70 1 #[(0, .string s)]).run Tryz.prog w = .ok (.slice (some ⟨w.heap.size, 0, none⟩) 1 1) (w.alloc (.cells #[.string s] 9)) := by kernel_rfl
theorem OwnN.cell {w : World} {g n cap : Nat} {ns : List Nm} (h : OwnN w (.slice (some ⟨g, 0, none⟩) n cap) ns) (hn : n = ns.length) (k : Nat) {x : Nm} (hk : ns[k]? = some x) : w.cell? ⟨g, k, none⟩ = some (.string ⟨x.toArray⟩) := by
  subst hn
  have hl := (List.getElem?_eq_some_iff.1 hk).1
  have h' : Row w 9 1 (.slice (some ⟨g, 0, none⟩) ns.length cap) ns.length (ns.map encStr) := h
  rw [h'.cellAt k (by omega), List.getElem?_map, hk]
  rfl
theorem OwnN.form {w : World} {v : Value} {ns : List Nm} (h : OwnN w v ns) : ∃ a c, v = .slice a ns.length c ∧ (ns ≠ [] → ∃ g, a = some ⟨g, 0, none⟩) := by
  have h' : Row w 9 1 v ns.length (ns.map encStr) := h
  obtain ⟨a, c, h1, _, _, h2, h3⟩ := h'.shape
  refine ⟨a, c, h1, fun hne => ?_⟩
  cases a with
  | none => exact absurd (List.length_eq_zero_iff.1 (h2 rfl).1) hne
  | some q =>
    obtain ⟨gq, oq, sq⟩ := q
    obtain ⟨h4, h5⟩ := h3 _ rfl
    simp only at h4 h5
    subst h4 h5
    exact ⟨gq, rfl⟩

set_option maxHeartbeats 2000000 in
set_option maxRecDepth 100000 in
theorem pickS_any {P : Nat → Prop} {N : Nat} (w : World) (s : Nat) (p : PS) (h : Sim.Sys P N w s p) :
    Calls Tryz.prog 46 #[.pointer (some ⟨s, 0, none⟩), .func (.func 47) #[.string ⟨#[116, 109, 112, 46]⟩] #[]] w fun e w' => ∃ u, e = .returned u ∧ OwnN w' u ((pList p).filter isTmp) ∧ (∀ x, u.ownBlock = some x → w.heap.size ≤ x) ∧ Kp No w w' := by
  have HL := hid (Sim.list_any w s p h)
  have hlen : (pList p).length ≤ 1000 := by
    have h1 := h.inv.lseen
    have h2 := h.inv.big
    unfold pList
    split
    · simp
    · rw [List.length_map]; omega
  obtain ⟨L, hL⟩ : ∃ L, pList p = L := ⟨_, rfl⟩
  rw [hL] at HL hlen ⊢
  clear hL h
  go_enter Tryz.func46, Tryz.ntmps46
  go_wp2_with fail
  refine HL.out.mono ?_
  rintro e w1 ⟨u, rfl, hu, hub, hk⟩
  obtain ⟨ua, uc, rfl, hform⟩ := OwnN.form hu
  have HU := hid (And.intro hu (And.intro hub (And.intro hk hform)))
  have HK1 := hid hk
  clear hu hub hk hform
  go_wp2_with fail
  go_loopw [5, 13] (fun v i wr => ∃ (k : Nat) (a : Option Addr) (m c : Nat), k ≤ L.length ∧ i = .int .i64 (k : Int) ∧ v = .slice a m c ∧ m ≤ k ∧ Hid (m = ((L.take k).filter isTmp).length ∧ OwnN wr (.slice a m c) ((L.take k).filter isTmp) ∧ (∀ x, (Value.slice a m c).ownBlock = some x → w1.heap.size ≤ x) ∧ Kp No w1 wr)) (fun _ i _ => L.length - (intOf i).toNat)
  case atStart => exact ⟨0, none, 0, 0, Nat.zero_le _, rfl, rfl, Nat.le_refl _, by simp, Row.nil _ _ _, (by intro x hx; cases hx), Kp.refl _ _⟩
  case round =>
    obtain ⟨k, a, m, c, hk, rfl, rfl, hmk, HS⟩ := hrel
    by_cases hlt : k < L.length
    · have hltI : (k : Int) < (L.length : Int) := by omega
      obtain ⟨n, hn⟩ : ∃ n, L[k]? = some n := ⟨_, List.getElem?_eq_getElem hlt⟩
      obtain ⟨hu, hub, hk1, hform⟩ := HU.out
      obtain ⟨gu, rfl⟩ := hform (by intro e; rw [e] at hlt; simp at hlt)
      obtain ⟨hm, hrow, hblk, hkr⟩ := HS.out
      have cu : wr.cell? ⟨gu, k, none⟩ = some (.string ⟨n.toArray⟩) := OwnN.cell (Row.kept hu hkr) rfl k hn
      have HOWN := hid (own_any n wr)
      have HN := hid hn
      have HX := hid (And.intro hm (And.intro hrow (And.intro hblk hkr)))
      clear hu hub hk1 hform hm hrow hblk hkr hn HS
      cases hb : isTmp n with
      | false =>
        rw [hb] at HOWN
        go_wp2_with fail
        refine HOWN.out.mono ?_
        rintro e w2 ⟨t, rfl, ht, hw2⟩
        rw [hw2]
        clear hw2 w2 ht HOWN
        have HF : Hid (m = ((L.take (k + 1)).filter isTmp).length ∧ OwnN wr (.slice a m c) ((L.take (k + 1)).filter isTmp) ∧ (∀ x, (Value.slice a m c).ownBlock = some x → w1.heap.size ≤ x) ∧ Kp No w1 wr) := by
          have e : (L.take (k + 1)).filter isTmp = (L.take k).filter isTmp := by rw [List.take_add_one, HN.out, List.filter_append]; simp [hb]
          rw [Hid, e]
          exact HX.out
        clear hb
        go_wp2_with fail
        go_round
        case rel => exact ⟨k + 1, a, m, c, by omega, by go_num, rfl, by omega, HF⟩
        case measure => simp [intOf]; omega
      | true =>
        rw [hb] at HOWN
        go_wp2_with fail
        refine HOWN.out.mono ?_
        rintro e w2 ⟨t, rfl, ht, hw2⟩
        rw [hw2, ht (by first | rfl | trivial)]
        clear hw2 w2 ht HOWN
        have hal : Kp No wr (wr.alloc (.cells #[.string ⟨n.toArray⟩] 9)) := (Kp.refl _ _).alloc _
        have HR5 : Hid (Row (wr.alloc (.cells #[.string ⟨n.toArray⟩] 9)) 9 1 (.slice a m c) m (((L.take k).filter isTmp).map encStr)) := by
          have h : Row wr 9 1 (.slice a m c) ((L.take k).filter isTmp).length (((L.take k).filter isTmp).map encStr) := HX.out.2.1
          rw [← HX.out.1] at h
          exact h.kept hal
        have HSRC : Hid (Sim.Src (wr.alloc (.cells #[.string ⟨n.toArray⟩] 9)) (.slice (some ⟨wr.heap.size, 0, none⟩) 1 1) 1 1 [.string ⟨n.toArray⟩]) := Sim.Src.one wr [.string ⟨n.toArray⟩] 1 9 rfl (by intro u hu; rw [List.mem_singleton.1 hu]; rfl)
        have HN1 := hid (fun V => run_onestr ⟨n.toArray⟩ V)
        have HAL := hid hal
        have HB := hid hb
        clear hal hb
        go_wp2_with (first
          | (refine wpList_val (by rfl) (exec_slice1 70 _ (by rfl) (.string ⟨n.toArray⟩) _ (by rfl) (HN1.out _)) ?_)
          | (refine Sim.app_row _ (by rfl) _ _ 70 9 (.string ⟨#[]⟩) 1 16 (by rfl) Tryz.underlying70 infoS rfl (by omega) (.slice a m c) (.slice (some ⟨wr.heap.size, 0, none⟩) 1 1) m 1 (((L.take k).filter isTmp).map encStr) [.string ⟨n.toArray⟩] (by rfl) (by rfl) HR5.out HSRC.out (by omega) (by omega) ?_; intro ad2 cap2 w6 hrow6 hgr6 hown6))
        have HF : Hid (m + 1 = ((L.take (k + 1)).filter isTmp).length ∧ OwnN w6 (.slice ad2 (m + 1) cap2) ((L.take (k + 1)).filter isTmp) ∧ (∀ x, (Value.slice ad2 (m + 1) cap2).ownBlock = some x → w1.heap.size ≤ x) ∧ Kp No w1 w6) := by
          obtain ⟨hm, hrow, hblk, hkr⟩ := HX.out
          have e : (L.take (k + 1)).filter isTmp = (L.take k).filter isTmp ++ [n] := by rw [List.take_add_one, HN.out, List.filter_append]; simp [HB.out]
          have hs := hkr.size
          rw [Hid, e, List.length_append, ← hm]
          refine ⟨rfl, ?_, fun x hx => ?_, ?_⟩
          · unfold OwnN
            rw [List.length_append, ← hm, List.map_append]
            exact hrow6
          · rcases hown6 with h | h
            · exact hblk x (by rw [← h]; exact hx)
            · rw [h] at hx
              have := Option.some.inj hx
              simp at this
              omega
          · exact (hkr.andNone HAL.out).grown hgr6 (fun x hx => .inr (hblk x hx))
        clear hrow6 hgr6 hown6 HX
        go_wp2_with fail
        go_round
        case rel => exact ⟨k + 1, _, m + 1, _, by omega, by go_num, rfl, by omega, HF⟩
        case measure => simp [intOf]; omega
    · have hltI : ¬ (k : Int) < (L.length : Int) := by omega
      have hkn : k = L.length := by omega
      subst hkn
      go_wp2_with fail
      go_ret
      obtain ⟨hm, hrow, hblk, hkr⟩ := HS.out
      rw [List.take_length] at hrow
      exact ⟨_, rfl, hrow, fun x hx => Nat.le_trans HK1.out.size (hblk x hx), HK1.out.andNone hkr⟩

theorem temps_any {P : Nat → Prop} {N : Nat} (w : World) (s : Nat) (p : PS) (h : Sim.Sys P N w s p) :
    Calls Tryz.prog 23 #[.pointer (some ⟨s, 0, none⟩)] w fun e w' => ∃ u, e = .returned u ∧ OwnN w' u ((pList p).filter isTmp) ∧ (∀ x, u.ownBlock = some x → w.heap.size ≤ x) ∧ Kp No w w' := by
  have HP := hid (pickS_any w s p h)
  clear h
  go_enter Tryz.func23, Tryz.ntmps23
  go_wp2_with (go_at_call 46; refine HP.out.mono ?_; rintro e w1 ⟨u, rfl, h1, h2, h3⟩; have H1 := hid (And.intro h1 (And.intro h2 h3)); clear h1 h2 h3)
  go_ret
  exact ⟨u, rfl, H1.out⟩

/-- What Clean does, name by name: how many are gone, the fault, the files. -/
def cleanF : List Nm → Nat → PS → Nat × Nat × PS
  | [], k, p => if k = 0 then (0, 0, p) else (k, (pSyncDir p).1, (pSyncDir p).2)
  | n :: r, k, p => if (pRemove n p).1 ≠ 0 then (k, (pRemove n p).1, (pRemove n p).2) else cleanF r (k + 1) (pRemove n p).2

set_option maxHeartbeats 2000000 in
set_option maxRecDepth 100000 in
theorem clean_any {P : Nat → Prop} {N : Nat} (w : World) (s : Nat) (p : PS) (h : Sim.Sys P N w s p) (hN : N + (pList p).length + 1 ≤ 1000) (hnl : ∀ n ∈ pList p, n.length ≤ 20000000) :
    Calls Tryz.prog 25 #[.pointer (some ⟨s, 0, none⟩)] w fun e w' => e = .returned (.tuple #[.int .i64 ((cleanF ((pList p).filter isTmp) 0 p).1 : Nat), .int .i64 ((cleanF ((pList p).filter isTmp) 0 p).2.1 : Nat)]) ∧ Done P (N + (pList p).length + 1) w w' s (cleanF ((pList p).filter isTmp) 0 p).2.2 := by
  have HT := hid (temps_any w s p h)
  obtain ⟨L, hL⟩ : ∃ L, (pList p).filter isTmp = L := ⟨_, rfl⟩
  have hLl : L.length ≤ (pList p).length := by rw [← hL]; exact List.length_filter_le _ _
  have hLn : ∀ n ∈ L, n.length ≤ 20000000 := fun n hn => hnl n (by rw [← hL] at hn; exact (List.mem_filter.1 hn).1)
  obtain ⟨M, hM⟩ : ∃ M, (pList p).length = M := ⟨_, rfl⟩
  rw [hL] at HT ⊢
  rw [hM] at hLl hN ⊢
  have HS := hid h
  have HLN := hid hLn
  clear hL hM h hnl hLn
  obtain ⟨R, hR⟩ : ∃ R, cleanF L 0 p = R := ⟨_, rfl⟩
  have HR := hid hR
  rw [hR]
  clear hR
  go_enter Tryz.func25, Tryz.ntmps25
  go_wp2_with fail
  refine HT.out.mono ?_
  rintro e w1 ⟨u, rfl, hu, hub, hk⟩
  obtain ⟨ua, uc, rfl, hform⟩ := OwnN.form hu
  have hlt := HS.out.lt
  have HU := hid (And.intro hu (And.intro hub hform))
  have HST : Hid (∃ P', Sim.Sys P' (N + 0) w1 s p ∧ Kp P w w1 ∧ (∀ x, P' x → P x ∨ w.heap.size ≤ x) ∧ OwnN w1 (.slice ua L.length uc) L ∧ ∀ x, (Value.slice ua L.length uc).ownBlock = some x → ¬ P' x ∧ w.heap.size ≤ x) :=
    ⟨P, HS.out.kept hk, hk.ofNo, fun x hx => .inl hx, hu, fun x hx => ⟨fun hp => by have := hlt x hp; have := hub x hx; omega, hub x hx⟩⟩
  clear hu hub hk hform hlt HT
  go_wp2_with fail
  go_loopw [4, 13] (fun v i wr => ∃ (k : Nat), k ≤ L.length ∧ i = .int .i64 (k : Int) ∧ v = .int .i64 (k : Int) ∧ Hid (∃ q P', R = cleanF (L.drop k) k q ∧ Sim.Sys P' (N + k) wr s q ∧ Kp P w wr ∧ (∀ x, P' x → P x ∨ w.heap.size ≤ x) ∧ OwnN wr (.slice ua L.length uc) L ∧ ∀ x, (Value.slice ua L.length uc).ownBlock = some x → ¬ P' x ∧ w.heap.size ≤ x)) (fun _ i _ => L.length - (intOf i).toNat)
  case atStart =>
    obtain ⟨P', h1, h2⟩ := HST.out
    exact ⟨0, Nat.zero_le _, rfl, rfl, p, P', HR.out.symm, h1, h2⟩
  case round =>
    obtain ⟨k, hk, rfl, rfl, HQ⟩ := hrel
    by_cases hlt : k < L.length
    · have hltI : (k : Int) < (L.length : Int) := by omega
      obtain ⟨n, hn⟩ : ∃ n, L[k]? = some n := ⟨_, List.getElem?_eq_getElem hlt⟩
      obtain ⟨gu, rfl⟩ := HU.out.2.2 (by intro e; rw [e] at hlt; simp at hlt)
      obtain ⟨q, P', hRq, hSq, hKq, hPq, hOq, hAq⟩ := HQ.out
      have cu : wr.cell? ⟨gu, k, none⟩ = some (.string ⟨n.toArray⟩) := OwnN.cell hOq rfl k hn
      have hdr : L.drop k = n :: L.drop (k + 1) := by
        rw [List.drop_eq_getElem_cons hlt]
        have := (List.getElem?_eq_some_iff.1 hn).2
        rw [this]
      rw [hdr, cleanF] at hRq
      have hsz : (⟨n.toArray⟩ : ByteArray).size ≤ 20000000 := by
        have := HLN.out n (List.mem_of_getElem? hn)
        have e : (⟨n.toArray⟩ : ByteArray).size = n.length := by rw [Lib.size_eq]
        omega
      have HRM := hid (Sim.remove_any wr s q ⟨n.toArray⟩ hsz hSq (by omega))
      have hnm : nm ⟨n.toArray⟩ = n := rfl
      rw [hnm] at HRM
      obtain ⟨A, hA⟩ : ∃ A, pRemove n q = A := ⟨_, rfl⟩
      rw [hA] at HRM hRq
      have HX := hid (And.intro hRq (And.intro hSq (And.intro hKq (And.intro hPq (And.intro hOq hAq)))))
      clear hRq hSq hKq hPq hOq hAq hA hsz hnm hdr hn HQ
      go_wp2_with fail
      refine HRM.out.mono ?_
      rintro e w2 ⟨rfl, P2, hS2, hK2, hP2⟩
      obtain ⟨hRq, hSq, hKq, hPq, hOq, hAq⟩ := HX.out
      have hKw : Kp P w w2 := hKq.trans hK2 (fun x hx => by
        rcases hPq x hx with e | e
        · exact .inl e
        · exact .inr e)
      have hPw : ∀ x, P2 x → P x ∨ w.heap.size ≤ x := fun x hx => by
        rcases hP2 x hx with e | e
        · exact hPq x e
        · right; have := hKq.size; omega
      have HX2 := hid (And.intro hS2 (And.intro hKw (And.intro hPw (And.intro (Row.kp hOq hK2 (fun x hx => (hAq x hx).1)) (fun x hx => (show ¬ P2 x ∧ w.heap.size ≤ x from ⟨fun hp => by
        rcases hP2 x hp with e | e
        · exact (hAq x hx).1 e
        · have := Row.lt hOq x hx; omega, (hAq x hx).2⟩))))))
      have HRQ := hid hRq
      clear hRq hSq hKq hPq hOq hAq hS2 hK2 hP2 hKw hPw HX HRM
      by_cases hA0 : A.1 = 0
      · have HA0 := hid hA0
        rw [hA0]
        have hwk : IntKind.i64.wrap ((k : Int) + 1) = ((k + 1 : Nat) : Int) := by rw [IntKind.wrap_i64]; omega
        clear hA0
        go_wp2_with fail
        go_round
        case rel =>
          obtain ⟨h1, h2, h3, h4, h5⟩ := HX2.out
          refine ⟨k + 1, by omega, by go_num, by go_num, A.2, P2, ?_, h1, h2, h3, h4, h5⟩
          rw [HRQ.out, if_neg (by rw [HA0.out]; simp)]
        case measure => simp [intOf]; omega
      · have hA1 : ¬ ((A.1 : Int) = 0) := by omega
        obtain ⟨f, hf⟩ : ∃ f, A.1 = f := ⟨_, rfl⟩
        have HF := hid hf
        rw [hf] at hA0 hA1 ⊢
        clear hf
        go_wp2_with fail
        go_ret2
        obtain ⟨h1, h2, h3, _, _⟩ := HX2.out
        have e : R = (k, A.1, A.2) := by rw [HRQ.out, if_pos (by rw [HF.out]; exact hA0)]
        rw [e]
        exact ⟨by rw [HF.out]; rfl, P2, h1.more (by omega) (by omega), h2, h3⟩
    · have hltI : ¬ (k : Int) < (L.length : Int) := by omega
      have hkn : k = L.length := by omega
      subst hkn
      obtain ⟨q, P', hRq, hSq, hKq, hPq, hOq, hAq⟩ := HQ.out
      rw [List.drop_length, cleanF] at hRq
      by_cases h0 : L.length = 0
      · rw [if_pos h0] at hRq
        have HX := hid (And.intro hRq (And.intro hSq (And.intro hKq hPq)))
        have h0I : ((L.length : Int) = 0) := by omega
        clear hRq hSq hKq hPq hOq hAq
        go_wp2_with fail
        go_ret2
        obtain ⟨e, h1, h2, h3⟩ := HX.out
        rw [e]
        exact ⟨rfl, P', h1.more (by omega) (by omega), h2, h3⟩
      · rw [if_neg h0] at hRq
        have h0I : ¬ ((L.length : Int) = 0) := by omega
        have HSY := hid (Sim.syncdir_any wr s q hSq (by omega))
        obtain ⟨A, hA⟩ : ∃ A, pSyncDir q = A := ⟨_, rfl⟩
        rw [hA] at HSY hRq
        have HX := hid (And.intro hRq (And.intro hKq hPq))
        clear hRq hSq hKq hPq hOq hAq hA
        go_wp2_with fail
        refine HSY.out.mono ?_
        rintro e w2 ⟨rfl, P2, hS2, hK2, hP2⟩
        have HD := hid (And.intro hS2 (And.intro hK2 hP2))
        clear hS2 hK2 hP2 HSY
        go_wp2_with fail
        go_ret2
        obtain ⟨e, h2, h3⟩ := HX.out
        obtain ⟨d1, d2, d3⟩ := HD.out
        rw [e]
        refine ⟨rfl, P2, d1.more (by omega) (by omega), h2.trans d2 (fun x hx => h3 x hx), fun x hx => ?_⟩
        rcases d3 x hx with e | e
        · exact h3 x e
        · right; have := h2.size; omega
end Go.Proofs.YtaaioaocjfpajaaGreatDoor
end

section
/-
  The shelf: what is said of what is not there.
-/
namespace Go.Proofs.YtaaioaocjfpajaaGreatDoor.Sh
open Go.RowKit
open Sim (hid Kp No)
end Go.Proofs.YtaaioaocjfpajaaGreatDoor.Sh
end

section
/-
  The shelf: Open, and what an empty one tells.
-/
namespace Go.Proofs.YtaaioaocjfpajaaGreatDoor.Sh
open Go.RowKit Go.Shelf
open Sim (hid Kp No PS Done Blk nm pList OwnN)

def shC (s b : Nat) (n : Int) : List Value := [.pointer (some ⟨s, 0, none⟩), .pointer (some ⟨b, 0, none⟩), .int .i64 n]
/-- A shelf at h, of the files at s, with the table at b; the greatest id that was begun is n. -/
def ShAt (w : World) (h s b : Nat) (n : Int) : Prop := Blk w h 87 (shC s b n)

theorem none_any (w : World) (h s b : Nat) (n : Int) (hH : ShAt w h s b n) : Calls Tryz.prog 26 #[.pointer (some ⟨h, 0, none⟩)] w fun e w' => e = .returned (.bool false) ∧ w' = w := by
  have c0 : w.cell? ⟨h, 0, none⟩ = some (.pointer (some ⟨s, 0, none⟩)) := hH.cell 0
  go_enter Tryz.func26, Tryz.ntmps26
  go_wp2_with fail
  go_ret
  exact ⟨rfl, rfl⟩

/-- What Open answers, and leaves: a fault, or a shelf at a new block. -/
def OpenP (P : Nat → Prop) (N : Nat) (w : World) (s b : Nat) (f : Nat) (q : PS) (e : Ending) (w' : World) : Prop :=
  (f ≠ 0 ∧ e = .returned (.tuple #[.pointer none, .int .i64 (f : Nat)]) ∧ Done P N w w' s q) ∨
  (f = 0 ∧ ∃ g P', e = .returned (.tuple #[.pointer (some ⟨g, 0, none⟩), .int .i64 0]) ∧ ShAt w' g s b 0 ∧ Sim.Sys P' N w' s q ∧ Kp P w w' ∧ (∀ x, P' x → P x ∨ w.heap.size ≤ x) ∧ ¬ P' g ∧ w.heap.size ≤ g)

theorem open_any {P : Nat → Prop} {N : Nat} (w : World) (s b : Nat) (p : PS) (h : Sim.Sys P N w s p) (hN : N + (pList p).length + 1 ≤ 1000) (hnl : ∀ n ∈ pList p, n.length ≤ 20000000) :
    Calls Tryz.prog 7 #[.pointer (some ⟨s, 0, none⟩), .pointer (some ⟨b, 0, none⟩)] w fun e w' => OpenP P (N + (pList p).length + 1) w s b (cleanF ((pList p).filter isTmp) 0 p).2.1 (cleanF ((pList p).filter isTmp) 0 p).2.2 e w' := by
  have HC := hid (clean_any w s p h hN hnl)
  obtain ⟨R, hR⟩ : ∃ R, cleanF ((pList p).filter isTmp) 0 p = R := ⟨_, rfl⟩
  rw [hR] at HC ⊢
  generalize N + (pList p).length + 1 = M at *
  clear hR h hN hnl
  go_enter Tryz.func7, Tryz.ntmps7
  go_wp2_with fail
  refine HC.out.mono ?_
  rintro e w1 ⟨rfl, hD⟩
  have HD := hid hD
  clear hD HC
  by_cases hz : R.2.1 = 0
  · have HZ := hid hz
    rw [hz]
    clear hz
    go_wp2_with fail
    obtain ⟨P', h1, h2, h3⟩ := HD.out
    refine bodyPost_ret (v := .tuple #[.pointer (some ⟨w1.heap.size, 0, none⟩), .int .i64 0]) (by simp [results, Tryz.results7, go_sem]) rfl ?_
    have hal : Kp No w1 (w1.alloc (.cells (shC s b 0).toArray 87)) := (Kp.refl _ _).alloc _
    exact .inr ⟨HZ.out, w1.heap.size, P', rfl, Blk.new w1 _ _, h1.kept hal, h2.andNone hal, h3, fun e => by have := h1.lt _ e; omega, h2.size⟩
  · have HZ := hid hz
    obtain ⟨F, hF⟩ : ∃ F, R.2.1 = F := ⟨_, rfl⟩
    have HF := hid hF
    rw [hF] at hz ⊢
    have hz' : ¬ ((F : Int) = 0) := by omega
    clear hF
    go_wp2_with fail
    refine bodyPost_ret (v := .tuple #[.pointer none, .int .i64 (F : Nat)]) (by simp [results, Tryz.results7, go_sem]) rfl ?_
    exact .inl ⟨HZ.out, by rw [HF.out], HD.out⟩

end Go.Proofs.YtaaioaocjfpajaaGreatDoor.Sh
end

section
/-
  The ids of the packs that are seen, rising.
-/
namespace Go.Proofs.YtaaioaocjfpajaaGreatDoor.Sh
open Go.RowKit Go.Shelf
open Sim (hid Kp No PS Done Blk nm pList OwnN Row Nm)

def packS : ByteArray := ⟨#[112, 97, 99, 107, 46]⟩
/-- The id that a name tells. -/
def idN (n : Nm) : Option Int := if (idOf packS ⟨n.toArray⟩).2 = true then some (idOf packS ⟨n.toArray⟩).1 else none
def ic (zs : List Int) : List Value := zs.map (Value.int .i64)
def RowZ (w : World) (v : Value) (zs : List Int) : Prop := Row w 3 1 v zs.length (ic zs)
theorem infoI : (Tryz.prog.info? 3).map (fun i => (i.zero, i.size, i.bytes)) = some (some (.int .i64 0), 1, 8) := by kernel_rfl
theorem run_oneI (n : Int) (w : World) : (Instr.buildSlice 23 1 #[(0, .int .i64 n)]).run Tryz.prog w = .ok (.slice (some ⟨w.heap.size, 0, none⟩) 1 1) (w.alloc (.cells #[.int .i64 n] 3)) := by kernel_rfl
theorem RowZ.form {w : World} {v : Value} {zs : List Int} (h : RowZ w v zs) : ∃ a c, v = .slice a zs.length c ∧ zs.length ≤ c ∧ c ≤ maxLen ∧ (zs ≠ [] → ∃ g, a = some ⟨g, 0, none⟩ ∧ g < w.heap.size) := by
  obtain ⟨a, c, rfl, h1, h2, h3, h4⟩ := Row.shape h
  refine ⟨a, c, rfl, h1, h2, fun hne => ?_⟩
  cases a with
  | none =>
    have := (h3 rfl).1
    exact absurd (List.length_eq_zero_iff.1 this) hne
  | some x =>
    obtain ⟨hs, ho⟩ := h4 x rfl
    obtain ⟨b, o, s⟩ := x
    simp only at hs ho
    subst hs ho
    exact ⟨b, rfl, Row.lt h b rfl⟩
theorem RowZ.cell {w : World} {g n c : Nat} {zs : List Int} (h : RowZ w (.slice (some ⟨g, 0, none⟩) n c) zs) (hn : n = zs.length) (i : Nat) {z : Int} (hi : zs[i]? = some z) : w.cell? ⟨g, i, none⟩ = some (.int .i64 z) := by
  subst hn
  have hl := (List.getElem?_eq_some_iff.1 hi).1
  have := Row.cellAt h i (by omega)
  rw [this, ic, List.getElem?_map, hi]
  rfl

theorem Vars.kept {w w' : World} (h : Vars w) (k : Kp No w w') : Vars w' := h.below k.toBelow'

set_option maxHeartbeats 1000000 in
theorem pickI_any {P : Nat → Prop} {N : Nat} (w : World) (s : Nat) (p : PS) (h : Sim.Sys P N w s p) (hV : Vars w) (hnl : ∀ n ∈ pList p, n.length ≤ 20000000) :
    Calls Tryz.prog 60 #[.pointer (some ⟨s, 0, none⟩), .func (.func 61) #[.string ⟨#[112, 97, 99, 107, 46]⟩] #[]] w fun e w' => ∃ u, e = .returned u ∧ RowZ w' u ((pList p).filterMap idN) ∧ (∀ x, u.ownBlock = some x → w.heap.size ≤ x) ∧ Kp No w w' := by
  have HL := hid (Sim.list_any w s p h)
  have hlen : (pList p).length ≤ 1000 := by
    have h1 := h.inv.lseen
    have h2 := h.inv.big
    unfold pList
    split
    · simp
    · rw [List.length_map]; omega
  have HV := hid hV
  obtain ⟨L, hL⟩ : ∃ L, pList p = L := ⟨_, rfl⟩
  rw [hL] at HL hlen hnl ⊢
  have HNL := hid hnl
  clear hL h hV hnl
  go_enter Tryz.func60, Tryz.ntmps60
  go_wp2_with fail
  refine HL.out.mono ?_
  rintro e w1 ⟨u, rfl, hu, hub, hk⟩
  obtain ⟨ua, uc, rfl, hform⟩ := OwnN.form hu
  have HU := hid (And.intro hu (And.intro hub (And.intro hk hform)))
  have HK1 := hid hk
  have HV1 := hid (Vars.kept HV.out hk)
  clear hu hub hk hform HV
  go_wp2_with fail
  go_loopw [5, 13] (fun v i wr => ∃ (k : Nat) (a : Option Addr) (m c : Nat), k ≤ L.length ∧ i = .int .i64 (k : Int) ∧ v = .slice a m c ∧ m ≤ k ∧ Hid (m = ((L.take k).filterMap idN).length ∧ RowZ wr (.slice a m c) ((L.take k).filterMap idN) ∧ (∀ x, (Value.slice a m c).ownBlock = some x → w1.heap.size ≤ x) ∧ Kp No w1 wr)) (fun _ i _ => L.length - (intOf i).toNat)
  case atStart => exact ⟨0, none, 0, 0, Nat.zero_le _, rfl, rfl, Nat.le_refl _, by simp, Row.nil _ _ _, (by intro x hx; cases hx), Kp.refl _ _⟩
  case round =>
    obtain ⟨k, a, m, c, hk, rfl, rfl, hmk, HS⟩ := hrel
    by_cases hlt : k < L.length
    · have hltI : (k : Int) < (L.length : Int) := by omega
      obtain ⟨n, hn⟩ : ∃ n, L[k]? = some n := ⟨_, List.getElem?_eq_getElem hlt⟩
      obtain ⟨hu, hub, hk1, hform⟩ := HU.out
      obtain ⟨gu, rfl⟩ := hform (by intro e; rw [e] at hlt; simp at hlt)
      obtain ⟨hm, hrow, hblk, hkr⟩ := HS.out
      have cu : wr.cell? ⟨gu, k, none⟩ = some (.string ⟨n.toArray⟩) := OwnN.cell (Row.kept hu hkr) rfl k hn
      have hsz : (⟨n.toArray⟩ : ByteArray).size ≤ 20000000 := by
        have := HNL.out n (List.mem_of_getElem? hn)
        have e : (⟨n.toArray⟩ : ByteArray).size = n.length := by rw [Lib.size_eq]
        omega
      have HOWN := hid (pid_any ⟨#[112, 97, 99, 107, 46]⟩ (by decide) ⟨n.toArray⟩ hsz wr (Vars.kept HV1.out hkr))
      have HN := hid hn
      have HX := hid (And.intro hm (And.intro hrow (And.intro hblk hkr)))
      clear hu hub hk1 hform hm hrow hblk hkr hn HS hsz
      obtain ⟨I, hI⟩ : ∃ I, idOf ⟨#[112, 97, 99, 107, 46]⟩ ⟨n.toArray⟩ = I := ⟨_, rfl⟩
      rw [hI] at HOWN
      have HIN : Hid (idN n = if I.2 = true then some I.1 else none) := by rw [Hid, idN, packS, hI]
      clear hI
      obtain ⟨z, b⟩ := I
      cases b with
      | false =>
        go_wp2_with fail
        refine HOWN.out.mono ?_
        rintro e w2 ⟨rfl, hb2⟩
        have HF : Hid (m = ((L.take (k + 1)).filterMap idN).length ∧ RowZ w2 (.slice a m c) ((L.take (k + 1)).filterMap idN) ∧ (∀ x, (Value.slice a m c).ownBlock = some x → w1.heap.size ≤ x) ∧ Kp No w1 w2) := by
          have e : (L.take (k + 1)).filterMap idN = (L.take k).filterMap idN := by
            have hin := HIN.out
            rw [List.take_add_one, HN.out, List.filterMap_append]
            simp [hin]
          rw [Hid, e]
          obtain ⟨q1, q2, q3, q4⟩ := HX.out
          exact ⟨q1, Row.kept q2 (Kp.below hb2), q3, q4.andNone (Kp.below hb2)⟩
        clear hb2 HOWN
        go_wp2_with fail
        go_round
        case rel => exact ⟨k + 1, a, m, c, by omega, by go_num, rfl, by omega, HF⟩
        case measure => simp [intOf]; omega
      | true =>
        go_wp2_with fail
        refine HOWN.out.mono ?_
        rintro e w2 ⟨rfl, hb2⟩
        have HK2 : Hid (Kp No wr w2) := Kp.below hb2
        clear hb2 HOWN
        have hal : Kp No w2 (w2.alloc (.cells #[.int .i64 z] 3)) := (Kp.refl _ _).alloc _
        have HR5 : Hid (Row (w2.alloc (.cells #[.int .i64 z] 3)) 3 1 (.slice a m c) m (ic ((L.take k).filterMap idN))) := by
          have h : Row wr 3 1 (.slice a m c) ((L.take k).filterMap idN).length (ic ((L.take k).filterMap idN)) := HX.out.2.1
          rw [← HX.out.1] at h
          exact (h.kept HK2.out).kept hal
        have HSRC : Hid (Sim.Src (w2.alloc (.cells #[.int .i64 z] 3)) (.slice (some ⟨w2.heap.size, 0, none⟩) 1 1) 1 1 [.int .i64 z]) := Sim.Src.one w2 [.int .i64 z] 1 3 rfl (by intro u hu; rw [List.mem_singleton.1 hu]; rfl)
        have HN1 := hid (fun V => run_oneI z V)
        have HAL := hid hal
        clear hal
        go_wp2_with (first
          | (refine wpList_val (by rfl) (exec_slice1 23 _ (by rfl) (.int .i64 z) _ (by rfl) (HN1.out _)) ?_)
          | (refine Sim.app_row _ (by rfl) _ _ 23 3 (.int .i64 0) 1 8 (by rfl) Tryz.underlying23 infoI rfl (by omega) (.slice a m c) (.slice (some ⟨w2.heap.size, 0, none⟩) 1 1) m 1 (ic ((L.take k).filterMap idN)) [.int .i64 z] (by rfl) (by rfl) HR5.out HSRC.out (by omega) (by omega) ?_; intro ad2 cap2 w6 hrow6 hgr6 hown6))
        have HF : Hid (m + 1 = ((L.take (k + 1)).filterMap idN).length ∧ RowZ w6 (.slice ad2 (m + 1) cap2) ((L.take (k + 1)).filterMap idN) ∧ (∀ x, (Value.slice ad2 (m + 1) cap2).ownBlock = some x → w1.heap.size ≤ x) ∧ Kp No w1 w6) := by
          obtain ⟨hm, hrow, hblk, hkr⟩ := HX.out
          have e : (L.take (k + 1)).filterMap idN = (L.take k).filterMap idN ++ [z] := by
            have hin := HIN.out
            rw [List.take_add_one, HN.out, List.filterMap_append]
            simp [hin]
          have hs := hkr.size
          have hs2 := HK2.out.size
          rw [Hid, e, List.length_append, ← hm]
          refine ⟨rfl, ?_, fun x hx => ?_, ?_⟩
          · unfold RowZ
            rw [List.length_append, ← hm, ic, List.map_append]
            exact hrow6
          · rcases hown6 with h | h
            · exact hblk x (by rw [← h]; exact hx)
            · rw [h] at hx
              have := Option.some.inj hx
              simp at this
              omega
          · exact ((hkr.andNone HK2.out).andNone HAL.out).grown hgr6 (fun x hx => .inr (hblk x hx))
        clear hrow6 hgr6 hown6 HX
        go_wp2_with fail
        go_round
        case rel => exact ⟨k + 1, _, m + 1, _, by omega, by go_num, rfl, by omega, HF⟩
        case measure => simp [intOf]; omega
    · have hltI : ¬ (k : Int) < (L.length : Int) := by omega
      have hkn : k = L.length := by omega
      subst hkn
      go_wp2_with fail
      go_ret
      obtain ⟨hm, hrow, hblk, hkr⟩ := HS.out
      rw [List.take_length] at hrow
      exact ⟨_, rfl, hrow, fun x hx => Nat.le_trans HK1.out.size (hblk x hx), HK1.out.andNone hkr⟩

def leI (x y : Int) : Bool := decide (x ≤ y)
/-- The ids that are seen, rising. -/
def idsP (p : PS) : List Int := ((pList p).filterMap idN).mergeSort leI

theorem sort_row (w u : World) (v : Value) (zs : List Int) (h : RowZ w v zs) (ho : ∀ x, v.ownBlock = some x → u.heap.size ≤ x) (hl : zs.length ≤ 1000) :
    Calls Tryz.prog 62 #[v] w fun e w' => e = .returned (.tuple #[]) ∧ RowZ w' v (zs.mergeSort leI) ∧ Kp (fun x => u.heap.size ≤ x) w w' := by
  obtain ⟨a, c, rfl, h1, h2, h3⟩ := h.form
  by_cases hz : zs = []
  · subst hz
    have hc := Any.slices_Sort_int_none Sim.Tryz.sortI a c w
    refine Calls.mono hc ?_
    rintro e w' ⟨rfl, rfl⟩
    exact ⟨rfl, by simpa using h, Kp.refl _ _⟩
  · obtain ⟨g, rfl, hg⟩ := h3 hz
    rcases h.2 with ⟨h0, _⟩ | ⟨g', cap', cur, hv, _, hb, hn, hcap, hsz, ht⟩
    · cases h0
    cases hv
    have ht' : cur.toList.take zs.length = zs.map (Value.int .i64) := by rw [Nat.mul_one] at ht; exact ht
    refine (Any.slices_Sort_int Sim.Tryz.sortI g 0 c zs w (holds_of_blockI hb ht') hg (by omega)).mono ?_
    rintro e w' ⟨rfl, n, os, rfl⟩
    have hlen : (zs.mergeSort fun x y => decide (x ≤ y)).length = zs.length := List.length_mergeSort zs
    refine ⟨rfl, ?_, ?_⟩
    · have hr := ownsRow_sortedI (n := n) (os := os) (base := 0) hlen (Nat.zero_le _) hb hn hcap hsz
      show Sim.Row _ 3 1 _ (zs.mergeSort leI).length (ic (zs.mergeSort leI))
      rw [show (zs.mergeSort leI).length = zs.length from hlen]
      exact hr
    · have hgr := grownBy_sortedI (w := w) (g := g) (n := n) (os := os) (zs.mergeSort fun x y => decide (x ≤ y)).toArray
      exact (Kp.ofGrown hgr).mono (fun x hx => .inl (by have := ho x (by rw [← hx]; rfl); exact this))

set_option maxHeartbeats 1000000 in
theorem pids_any {P : Nat → Prop} {N : Nat} (w : World) (s : Nat) (p : PS) (h : Sim.Sys P N w s p) (hV : Vars w) (hnl : ∀ n ∈ pList p, n.length ≤ 20000000) :
    Calls Tryz.prog 35 #[.pointer (some ⟨s, 0, none⟩)] w fun e w' => ∃ u, e = .returned u ∧ RowZ w' u (idsP p) ∧ (∀ x, u.ownBlock = some x → w.heap.size ≤ x) ∧ Kp No w w' := by
  have hmf : ∀ (fn : Fn) (first cap : Array Value) (w : World), (Instr.makeFunc fn first cap).run Tryz.prog w = .ok (.func fn first cap) w := fun _ _ _ _ => rfl
  have HP := hid (pickI_any w s p h hV hnl)
  have hlen : ((pList p).filterMap idN).length ≤ 1000 := by
    have h1 := h.inv.lseen
    have h2 := h.inv.big
    refine Nat.le_trans (List.length_filterMap_le _ _) ?_
    unfold pList
    split
    · simp
    · rw [List.length_map]; omega
  have HS := hid (fun V v (hv : RowZ V v ((pList p).filterMap idN)) (ho : ∀ x, v.ownBlock = some x → w.heap.size ≤ x) => sort_row V w v _ hv ho hlen)
  unfold idsP
  obtain ⟨Z, hZ⟩ : ∃ Z, (pList p).filterMap idN = Z := ⟨_, rfl⟩
  rw [hZ] at HP HS ⊢
  clear hZ h hV hnl hlen
  go_enter Tryz.func35, Tryz.ntmps35
  go_wp2_with fail
  refine HP.out.mono ?_
  rintro e w1 ⟨u, rfl, hu, hub, hk⟩
  obtain ⟨a, c, rfl, _⟩ := hu.form
  have HSS := hid (HS.out w1 _ hu hub)
  have HK := hid (And.intro hub hk)
  clear hu hub hk HS HP
  generalize hn : Z.length = n at *
  clear hn
  go_wp2_with fail
  refine HSS.out.mono ?_
  rintro e w2 ⟨rfl, hr, hk2⟩
  have HF : Hid (RowZ w2 (.slice a n c) (Z.mergeSort leI) ∧ (∀ x, (Value.slice a n c).ownBlock = some x → w.heap.size ≤ x) ∧ Kp No w w2) := ⟨hr, HK.out.1, HK.out.2.trans hk2 (fun x hx => .inr hx)⟩
  clear hr hk2
  go_wp2_with fail
  go_ret
  exact ⟨_, rfl, HF.out⟩

end Go.Proofs.YtaaioaocjfpajaaGreatDoor.Sh
end

section
/-
  The greatest of some numbers; the ids of a shelf.
-/
namespace Go.Proofs.YtaaioaocjfpajaaGreatDoor.Sh
open Go.RowKit Go.Shelf
open Sim (hid Kp No PS Done Blk nm pList OwnN Row Nm)

def maxZ : List Int → Int
  | [] => 0
  | z :: r => r.foldl max z
theorem maxZ_snoc (zs : List Int) (z : Int) (h : zs ≠ []) : maxZ (zs ++ [z]) = max (maxZ zs) z := by
  cases zs with
  | nil => exact absurd rfl h
  | cons y r => simp [maxZ, List.foldl_append]

set_option maxHeartbeats 1000000 in
theorem max_any (w : World) (v : Value) (zs : List Int) (h : RowZ w v zs) (hne : zs ≠ []) (hl : zs.length ≤ 100000) :
    Calls Tryz.prog 48 #[v] w fun e w' => e = .returned (.int .i64 (maxZ zs)) ∧ w' = w := by
  obtain ⟨a, c, rfl, h1, h2, h3⟩ := h.form
  obtain ⟨g, rfl, hg⟩ := h3 hne
  have HC : Hid (∀ i z, zs[i]? = some z → w.cell? ⟨g, i, none⟩ = some (.int .i64 z)) := fun i z hi => h.cell rfl i hi
  have hpos : 0 < zs.length := List.length_pos_iff.2 hne
  obtain ⟨z0, hz0⟩ : ∃ z, zs[0]? = some z := ⟨_, List.getElem?_eq_getElem hpos⟩
  have c0 := HC.out 0 z0 hz0
  obtain ⟨n, hn⟩ : ∃ n, zs.length = n := ⟨_, rfl⟩
  have HN := hid hn
  have H0 : Hid (maxZ (zs.take 1) = z0) := by
    rw [Hid, List.take_add_one, hz0]
    rfl
  obtain ⟨M, hM⟩ : ∃ M, maxZ zs = M := ⟨_, rfl⟩
  have HM := hid hM
  rw [hn] at h1 hpos hl ⊢
  rw [hM]
  have hlt1 : ¬ ((n : Int) < 1) := by omega
  clear h h3 hne hz0 hn hM
  go_enter Tryz.func48, Tryz.ntmps48
  go_wp2_with fail
  go_loopw [3, 4] (fun m i wr => ∃ (k : Nat) (z : Int), 1 ≤ k ∧ k ≤ n ∧ i = .int .i64 (k : Int) ∧ m = .int .i64 z ∧ wr = w ∧ Hid (maxZ (zs.take k) = z)) (fun _ i _ => n - (intOf i).toNat)
  case atStart => exact ⟨1, z0, Nat.le_refl _, by omega, rfl, rfl, rfl, H0⟩
  case round =>
    obtain ⟨k, z, hk1, hk2, rfl, rfl, hwr, HZ⟩ := hrel
    subst hwr
    by_cases hlt : k < n
    · have hltI : (k : Int) < (n : Int) := by omega
      obtain ⟨y, hy⟩ : ∃ y, zs[k]? = some y := ⟨_, List.getElem?_eq_getElem (by rw [HN.out]; exact hlt)⟩
      have cy := HC.out k y hy
      have HF : Hid (maxZ (zs.take (k + 1)) = max z y) := by
        rw [Hid, List.take_add_one, hy, ← HZ.out]
        exact maxZ_snoc _ _ (fun e => by
          have := congrArg List.length e
          rw [List.length_take, HN.out] at this
          simp at this
          omega)
      clear hy
      go_wp2_with fail
      exact ⟨⟨k + 1, max z y, by omega, by omega, by go_num, rfl, trivial, HF⟩, by simp [intOf]; omega⟩
    · have hltI : ¬ (k : Int) < (n : Int) := by omega
      have hkn : k = n := by omega
      subst hkn
      go_wp2_with fail
      go_ret
      have hz := HZ.out
      rw [← HN.out, List.take_length, HM.out] at hz
      exact ⟨by rw [hz]; rfl, rfl⟩

theorem ids_any {P : Nat → Prop} {N : Nat} (w : World) (h s b : Nat) (n : Int) (p : PS) (hH : ShAt w h s b n) (hS : Sim.Sys P N w s p) (hV : Vars w) (hnl : ∀ n ∈ pList p, n.length ≤ 20000000) :
    Calls Tryz.prog 15 #[.pointer (some ⟨h, 0, none⟩)] w fun e w' => ∃ u, e = .returned u ∧ RowZ w' u (idsP p) ∧ (∀ x, u.ownBlock = some x → w.heap.size ≤ x) ∧ Kp No w w' := by
  have c0 : w.cell? ⟨h, 0, none⟩ = some (.pointer (some ⟨s, 0, none⟩)) := hH.cell 0
  have HN := hid (none_any w h s b n hH)
  have HI := hid (pids_any w s p hS hV hnl)
  clear hH hS hV hnl
  generalize idsP p = Z at *
  go_enter Tryz.func15, Tryz.ntmps15
  go_wp2_with fail
  refine HN.out.mono ?_
  rintro e w1 ⟨rfl, rfl⟩
  go_wp2_with fail
  refine HI.out.mono ?_
  rintro e w2 ⟨u, rfl, hu, ho, hk⟩
  obtain ⟨a, c, rfl, _⟩ := hu.form
  have HF := hid (And.intro hu (And.intro ho hk))
  clear hu ho hk
  go_wp2_with fail
  go_ret
  exact ⟨_, rfl, HF.out⟩

/-- A number is laid behind a row of one's own. -/
theorem app_oneI (W V : World) (t : TypeId) (v : Value) (zs : List Int) (z : Int) (g : Nat) (h : RowZ W v zs) (hV : Kp No W V) (hc : V.cell? ⟨g, 0, none⟩ = some (.int .i64 z)) (hl : zs.length ≤ 100000) :
    ∃ ad cap w', (Builtin.append_ #[23, 23] t #[v, .slice (some ⟨g, 0, none⟩) 1 1]).run Tryz.prog V = .ok (.slice ad (zs.length + 1) cap) w' ∧ RowZ w' (.slice ad (zs.length + 1) cap) (zs ++ [z]) ∧ V.grownBy w' v.ownBlock := by
  obtain ⟨i, hi, hiz⟩ : ∃ i, Tryz.prog.info? 3 = some i ∧ (i.zero, i.size, i.bytes) = (some (.int .i64 0), 1, 8) := Option.map_eq_some_iff.1 infoI
  simp only [Prod.mk.injEq] at hiz
  obtain ⟨z1, z2, z3⟩ := hiz
  have hr : V.ownsRow 0 3 1 v zs.length (ic zs) := Row.kept h hV
  obtain ⟨gg, cap, W2, hap, hown2, hgrow, _, _⟩ := run_append_lies (P := Tryz.prog) V 23 t 0 3 i (.int .i64 0) 1 8 Tryz.underlying23 hi z1 z2 z3 rfl (by omega)
    v zs.length _ hr ⟨g, 0, none⟩ 1 1 [.int .i64 z] rfl (fun j u hj => by
      match j, hj with
      | 0, hj =>
        simp at hj
        subst hj
        exact hc) (by intro u hu; rw [List.mem_singleton.1 hu]; rfl) (by omega) (by unfold maxLen; omega) (by omega) (Nat.zero_le _) _ rfl
  refine ⟨_, cap, W2, hap, ?_, hgrow⟩
  show Sim.Row _ _ _ _ (zs ++ [z]).length (ic (zs ++ [z]))
  rw [List.length_append, ic, List.map_append]
  exact hown2

end Go.Proofs.YtaaioaocjfpajaaGreatDoor.Sh
end

section
/-
  Plain mathematics of a stable sort: rows of things with keys; inserting, rotating and merging in place keep, of each key, the order.
-/
namespace Go.Proofs.YtaaioaocjfpajaaGreatDoor.Stb

/-- Keys: bytes. -/
abbrev κ : Type := List Int
section
variable {α : Type} (key : α → κ) (lt : κ → κ → Bool)
/-- Of each key the same, in the same order. -/
def Stab (l m : List α) : Prop := ∀ k, m.filter (fun x => decide (key x = k)) = l.filter (fun x => decide (key x = k))
/-- None stands behind a greater one. -/
def Srt (l : List α) : Prop := l.Pairwise (fun x y => lt (key y) (key x) = false)
/-- All of the first stand ahead of all of the second. -/
def Lts (l m : List α) : Prop := ∀ x ∈ l, ∀ y ∈ m, lt (key x) (key y) = true
/-- None of the second stands ahead of one of the first. -/
def Les (l m : List α) : Prop := ∀ x ∈ l, ∀ y ∈ m, lt (key y) (key x) = false
end

section
variable {α : Type} {key : α → κ} {lt : κ → κ → Bool}
/-! ### A merge in place -/
/-- What a merge of two sorted rows makes. -/
def Mrg (key : α → κ) (lt : κ → κ → Bool) (a b m : List α) : Prop := Stab key (a ++ b) m ∧ Srt key lt m
end
end Go.Proofs.YtaaioaocjfpajaaGreatDoor.Stb
end

section
/-
  Entries in memory: 35 cells each, one behind the other in a block.
-/
namespace Go.Proofs.YtaaioaocjfpajaaGreatDoor.Sg
open Go.RowKit
open Sim (hid Kp No)

/-- An entry: the name's bytes, and the place. -/
abbrev Ent : Type := List Int × Int × Int × Int
def b8 (xs : List Int) : List Value := xs.map (Value.int .u8)
theorem setCells_kp (w : World) (g o : Nat) (cs : List Value) : Kp (· = g) w (w.setCells g o cs) := by
  induction cs generalizing w o with
  | nil => exact Kp.refl _ _
  | cons c cs ih =>
    rw [World.setCells]
    exact (Kp.setCell (p := ⟨g, o, none⟩) (Kp.refl (· = g) w) (.inl rfl) c).trans (ih _ _) (fun x hx => .inl hx)
end Go.Proofs.YtaaioaocjfpajaaGreatDoor.Sg
end

section
/-
  Ranges of entries that are swapped, and turned about.
-/
namespace Go.Proofs.YtaaioaocjfpajaaGreatDoor.Sg
open Go.RowKit
open Sim (hid Kp No)
end Go.Proofs.YtaaioaocjfpajaaGreatDoor.Sg
end

section
/-
  Two ranges that stand side by side are turned about.
-/
namespace Go.Proofs.YtaaioaocjfpajaaGreatDoor.Sg
open Go.RowKit
open Sim (hid Kp No)
end Go.Proofs.YtaaioaocjfpajaaGreatDoor.Sg
end

section
/-
  How the names of two entries stand: compare, walked.
-/
namespace Go.Proofs.YtaaioaocjfpajaaGreatDoor.Sg
open Go.RowKit
open Sim (hid Kp No)
end Go.Proofs.YtaaioaocjfpajaaGreatDoor.Sg
end

section
/-
  A range of entries is sorted by inserting.
-/
namespace Go.Proofs.YtaaioaocjfpajaaGreatDoor.Sg
open Go.RowKit
open Stb (Stab Srt Mrg)
open Sim (hid Kp No)
section
variable {L R X D S1 S2 S Y : List Ent} {a i j b : Nat} {y : Ent}
end
end Go.Proofs.YtaaioaocjfpajaaGreatDoor.Sg
end

section
/-
  One entry is merged into the sorted ones behind it.
-/
namespace Go.Proofs.YtaaioaocjfpajaaGreatDoor.Sg
open Go.RowKit
open Stb (Stab Srt Mrg)
open Sim (hid Kp No)
end Go.Proofs.YtaaioaocjfpajaaGreatDoor.Sg
end

section
/-
  One entry is merged into the sorted ones ahead of it.
-/
namespace Go.Proofs.YtaaioaocjfpajaaGreatDoor.Sg
open Go.RowKit
open Stb (Stab Srt Mrg)
open Sim (hid Kp No)
end Go.Proofs.YtaaioaocjfpajaaGreatDoor.Sg
end

section
/-
  Two sorted ranges that stand side by side are merged in place.
-/
namespace Go.Proofs.YtaaioaocjfpajaaGreatDoor.Sg
open Go.RowKit
open Stb (Stab Srt Mrg Lts Les)
open Sim (hid Kp No)
section
variable {A B : List Ent} {a m b mid lo hi : Nat}
end

end Go.Proofs.YtaaioaocjfpajaaGreatDoor.Sg
end

section
/-
  A row of entries is sorted, each name's entries in their order: slices.SortStableFunc by compare.
-/
namespace Go.Proofs.YtaaioaocjfpajaaGreatDoor.Sg
open Go.RowKit
open Stb (Stab Srt Mrg)
open Sim (hid Kp No)
end Go.Proofs.YtaaioaocjfpajaaGreatDoor.Sg
end

section
/-
  Of entries that follow one another with one name the first stays: slices.CompactFunc by namesake.
-/
namespace Go.Proofs.YtaaioaocjfpajaaGreatDoor.Sg
open Go.RowKit
open Stb (Stab Srt Mrg)
open Sim (hid Kp No)
/-- Those of which the one ahead has another name. -/
def kept : Ent → List Ent → List Ent
  | _, [] => []
  | p, y :: r => if y.1 = p.1 then kept y r else y :: kept y r
end Go.Proofs.YtaaioaocjfpajaaGreatDoor.Sg
end

section
/-
  Entries as values that are read, rows of the call's own, and segment.Sort: of each name the first, in the names' order.
-/
namespace Go.Proofs.YtaaioaocjfpajaaGreatDoor.Sg
open Go.RowKit
open Stb (Stab Srt Mrg)
open Sim (hid Kp No)
end Go.Proofs.YtaaioaocjfpajaaGreatDoor.Sg
end

section
/-
  Right of segment: not more than 900, places that can be, names strictly rising.
-/
namespace Go.Proofs.YtaaioaocjfpajaaGreatDoor.Sg
open Go.RowKit
open Stb (Stab Srt Mrg)
open Sim (hid Kp No)
theorem thereE (w : World) (A : Array Value) (t : TypeId) (n : Nat) (hn : n ≤ A.size) : (w.alloc (.cells A t)).there w.heap.size 0 n := fun j hj => by
  refine ⟨?_, World.frozen?_alloc_at _ _ _ _ rfl⟩
  rw [Nat.zero_add, World.cell?_alloc_at _ _ _ _ rfl]
  simp
  omega
theorem wpList_store_box {ops : Array Oper} {rest : List Oper} {op : Oper} {a : Act} {w : World} {Q : Exit → Act → World → Prop} (F : World → Prop) (hgd : op.guard = none) (ty : TypeId) (x y : Operand) (ho : op.op = .store ty x y)
    (b o : Nat) (cells : Array Value) (hx : a.eval x = .pointer (some ⟨b, o, none⟩)) (hy : a.eval y = .agg cells)
    (ht : w.there b o cells.size) (hi : (Tryz.prog.info? ty).map (·.size) = some cells.size) (h1 : cells.all (·.oneCell') = true)
    (hF : F (w.setCells b o cells.toList)) (h : ∀ W, F W → wpList Tryz.prog ops Q rest (a.put op.dst undef) W) : wpList Tryz.prog ops Q (op :: rest) a w :=
  wpList_store_mid hgd ty x y ho b o cells hx hy ht hi h1 (h _ hF)

end Go.Proofs.YtaaioaocjfpajaaGreatDoor.Sg
end

section
/-
  slices.BinarySearchFunc by compare: where a name stands in names that rise, or would stand.
-/
namespace Go.Proofs.YtaaioaocjfpajaaGreatDoor.Sg
open Go.RowKit
open Stb (Stab Srt Mrg)
open Sim (hid Kp No)
end Go.Proofs.YtaaioaocjfpajaaGreatDoor.Sg
end

section
/-
  segment.Find: where the object of a name stands.
-/
namespace Go.Proofs.YtaaioaocjfpajaaGreatDoor.Sg
open Go.RowKit
open Stb (Stab Srt Mrg)
open Sim (hid Kp No)
end Go.Proofs.YtaaioaocjfpajaaGreatDoor.Sg
end

section
/-
  slices.Concat of two rows of entries, and segment.Join.
-/
namespace Go.Proofs.YtaaioaocjfpajaaGreatDoor.Sg
open Go.RowKit
open Stb (Stab Srt Mrg)
open Sim (hid Kp No)

end Go.Proofs.YtaaioaocjfpajaaGreatDoor.Sg
end

section
/-
  Of a stable sort the first of each name: strictly rising names, and of each name the first of what was sorted.
-/
namespace Go.Proofs.YtaaioaocjfpajaaGreatDoor.Sg
open Go.RowKit
open Stb (Stab Srt Mrg)
open Sim (hid Kp No)
end Go.Proofs.YtaaioaocjfpajaaGreatDoor.Sg
end

section
/-
  Own of the tenth law: entries of the document's type as the program's.
-/
namespace Go.Proofs.YtaaioaocjfpajaaGreatDoor.Sg
open Go.RowKit
open Stb (Stab Srt Mrg)
open Sim (hid Kp No)
theorem exec_appE {P : Program} {o : Oper} {a : Act} {w w' : World} (s x : Operand) (t : TypeId) (ho : o.op = .call { callee := .builtin .append, args := #[s, x], argTypes := #[t, t] }) (vs vx v : Value) (hs : a.eval s = vs) (hx : a.eval x = vx)
    (hr : (Builtin.append_ #[t, t] o.type #[vs, vx]).run P w = .ok v w') : (execOp a.eval o).run P w = .ok (.value v) w' := by
  unfold execOp
  simp [ho, resolve, invoke, builtin, hs, hx, hr, Result.andThen]
theorem wp_valE {P : Program} {o : Oper} {a : Act} {K : Act → World → Prop} {Q : Exit → Act → World → Prop} {w w' : World} {v : Value} (hr : (execOp a.eval o).run P w = .ok (.value v) w') (h : K (a.put o.dst v) w') : Oper.wp P o a w K Q := by
  unfold Oper.wp
  rw [hr]
  exact h

end Go.Proofs.YtaaioaocjfpajaaGreatDoor.Sg
end
