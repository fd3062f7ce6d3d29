/- Of the proof: the texts CrcOpen, FrTake, FrRange, ShRange, PkName, PkBegin, PkNil, FrScanM, one behind the other. -/
import Derived.Test.YtaaioaocjfpajaaGreatDoorB6
import Derived.Deep.DeepCutAuto
import Derived.Laws.Cover3
import Derived.Deep.RegionWith
import Derived.Test.YtaaioaocjfpajaaGreatDoorB7
import Derived.RangeFuncNested
import Derived.RangeFuncBound
import Derived.RangeFuncCalls
import Derived.RangeFuncLeaves
import Derived.Shelf.Abstract
import Derived.Shelf.RegionOpen
import Derived.OwnWalkIn
import Derived.TacticsInMore
import Derived.LoopNIn
import Derived.LoopIn
import Derived.Test.YtaaioaocjfpajaaGreatDoorB1
import Derived.Test.YtaaioaocjfpajaaGreatDoorSimShelf
import Derived.Lib.AtoiErrMem
import Derived.Test.YtaaioaocjfpajaaGreatDoorB2
import Derived.Test.YtaaioaocjfpajaaGreatDoorPkShelf
section
/-
  What Open and the reference's Open do.
-/
namespace Go.Proofs.YtaaioaocjfpajaaGreatDoor.Crc
open Go.RowKit

/-- Four bytes held against four. -/
theorem eq62 (a b c d a' b' c' d' : Int) (w : World) : (Op.equalIn 10000 250 (.agg #[.int .u8 a, .int .u8 b, .int .u8 c, .int .u8 d]) (.agg #[.int .u8 a', .int .u8 b', .int .u8 c', .int .u8 d'])).run Tryz.prog w = .ok (a == a' && b == b' && c == c' && d == d') w := by
  have u5 := Tryz.underlying5
  have a5 := Tryz.isAgg5
  have z5 := Tryz.sizeOf5
  rw [show (10000 : Nat) = 9999 + 1 from rfl, Op.equalIn]
  simp only [Sem.run_bind, run_underlying Tryz.underlying250, Result.andThen_ok]
  simp only [Std.Legacy.Range.forIn_eq_forIn_range', Std.Legacy.Range.size, Nat.sub_zero, Nat.add_sub_cancel, Nat.div_one, List.range'_succ, List.range'_zero, List.forIn_cons, List.forIn_nil]
  go_simp
  by_cases h1 : a = a' <;> by_cases h2 : b = b' <;> by_cases h3 : c = c' <;> by_cases h4 : d = d' <;> simp [h1, h2, h3, h4]

theorem BySl.take {b : Nat} {w : World} {a : Option Addr} {cap k : Nat} {bs : List Nat} (h : BySl b w (.slice a bs.length cap) bs) (hk : k ≤ bs.length) : BySl b w (.slice a k cap) (bs.take k) := by
  obtain ⟨a', cap', e, h2, h3, h4, h5, h6, h7⟩ := h
  cases e
  have hl : (bs.take k).length = k := List.length_take_of_le hk
  refine ⟨a, cap, by rw [hl], by omega, h3, fun e => ⟨by rw [(h4 e).1]; simp, (h4 e).2⟩, by omega, fun x hx => h6 x (List.mem_of_mem_take hx), fun hne => ?_⟩
  obtain ⟨g, o, e, hgb, hg, hc⟩ := h7 (by intro e; subst e; simp at hne)
  refine ⟨g, o, e, hgb, hg, fun i hi => ?_⟩
  rw [hl] at hi
  rw [hc i (by omega)]
  simp [hi]

set_option maxHeartbeats 2000000 in
set_option maxRecDepth 100000 in
theorem open_any (b f : Nat) (n : Int) (v : Value) (xs : List Nat) (y0 y1 y2 y3 : Nat) (w : World) (hf : f = 0 ∨ f = 1) (ht : Tab w b f n) (h : BySl b w v (xs ++ [y0, y1, y2, y3])) (hl : xs.length ≤ 80000) :
    Calls Tryz.prog 132 #[.pointer (some ⟨b, 0, none⟩), v] w fun e w' => Kept b w w' ∧ Tab w' b 1 (wrap64 (n + xs.length)) ∧
      ∃ v' q, e = .returned (.tuple #[v', .int .i64 q]) ∧ ((le4 (more 0 xs) = [y0, y1, y2, y3] ∧ q = 0 ∧ BySl b w' v' xs) ∨ (le4 (more 0 xs) ≠ [y0, y1, y2, y3] ∧ q = 4 ∧ v' = .slice none 0 0)) := by
  have H := hid h
  have T := hid ht
  obtain ⟨a, cap, rfl, h2, h3, h4, h5, h6, h7⟩ := h
  obtain ⟨g, o, rfl, hgb, hg, hc⟩ := h7 (by simp)
  have hN : (xs ++ [y0, y1, y2, y3]).length = xs.length + 4 := by simp
  have hat : ∀ i, (xs ++ [y0, y1, y2, y3]).getD (xs.length + i) 0 = [y0, y1, y2, y3].getD i 0 := fun i => by simp [List.getElem?_append_right]
  have k0 := hc (xs.length + 0) (by omega)
  have k1 := hc (xs.length + 1) (by omega)
  have k2 := hc (xs.length + 2) (by omega)
  have k3 := hc (xs.length + 3) (by omega)
  rw [hat] at k0 k1 k2 k3
  simp only [List.getD_cons_zero, List.getD_cons_succ, Nat.add_zero, ← Nat.add_assoc] at k0 k1 k2 k3
  have H1 : Hid (BySl b w (.slice (some ⟨g, o, none⟩) xs.length cap) xs) := by
    have := BySl.take H.out (k := xs.length) (by omega)
    rw [List.take_left' rfl] at this
    exact this
  rw [hN] at H h2 ⊢
  obtain ⟨N, hN2⟩ : ∃ N, xs.length = N := ⟨_, rfl⟩
  have HN := hid hN2
  rw [hN2] at H h2 k0 k1 k2 k3 hl H1 ⊢
  have hm := more_lt 0 xs
  obtain ⟨s, hs⟩ : ∃ s, more 0 xs = s := ⟨_, rfl⟩
  have HS := hid hs
  rw [hs] at hm ⊢
  clear hs hN2 hat hc h7 h6 h4 h5 hN ht
  unfold maxLen at h3
  go_enter Tryz.func132, Tryz.ntmps132
  go_upto_region 6 with fail
  have hcN : ¬ cap = N := by omega
  have c12 : Hid (Calls Tryz.prog 171 #[.pointer (some ⟨b, 0, none⟩), .slice (some ⟨g, o, none⟩) N cap] w.drew fun e w1 => e = .returned (.int .u32 (s : Nat)) ∧ Hid (Kept b w w1) ∧ Hid (Tab w1 b 1 (wrap64 (n + N))) ∧ g < w1.heap.size ∧
      w1.cell? ⟨g, o + N, none⟩ = some (.int .u8 (y0 : Nat)) ∧ w1.cell? ⟨g, o + N + 1, none⟩ = some (.int .u8 (y1 : Nat)) ∧ w1.cell? ⟨g, o + N + 2, none⟩ = some (.int .u8 (y2 : Nat)) ∧ w1.cell? ⟨g, o + N + 3, none⟩ = some (.int .u8 (y3 : Nat))) := by
    have h := sum_any b f n (.slice (some ⟨g, o, none⟩) N cap) xs w.drew hf T.out H1.out
    refine h.mono ?_
    rw [HS.out, HN.out]
    rintro e w1 ⟨rfl, hk0, ht1⟩
    have hk1 : Kept b w w1 := ((Kept.refl b w).drew).trans hk0
    exact ⟨rfl, hk1, ht1, Nat.lt_of_lt_of_le hg hk1.size, (hk1.cell (p := ⟨g, o + N, none⟩) hg hgb).trans k0, (hk1.cell (p := ⟨g, o + N + 1, none⟩) hg hgb).trans k1, (hk1.cell (p := ⟨g, o + N + 2, none⟩) hg hgb).trans k2, (hk1.cell (p := ⟨g, o + N + 3, none⟩) hg hgb).trans k3⟩
  have c22 : Hid (∀ w1 : World, g < w1.heap.size → w1.cell? ⟨g, o + N, none⟩ = some (.int .u8 (y0 : Nat)) → w1.cell? ⟨g, o + N + 1, none⟩ = some (.int .u8 (y1 : Nat)) → w1.cell? ⟨g, o + N + 2, none⟩ = some (.int .u8 (y2 : Nat)) → w1.cell? ⟨g, o + N + 3, none⟩ = some (.int .u8 (y3 : Nat)) →
      Calls Tryz.prog 170 #[.int .u32 s] w1 fun e w2 => e = .returned (.agg #[.int .u8 ((s : Int) % 256), .int .u8 ((s : Int) / 256 % 256), .int .u8 ((s : Int) / 65536 % 256), .int .u8 ((s : Int) / 16777216)]) ∧ Hid (Below w1.heap.size w1 w2) ∧
        w2.cell? ⟨g, o + N, none⟩ = some (.int .u8 (y0 : Nat)) ∧ w2.cell? ⟨g, o + N + 1, none⟩ = some (.int .u8 (y1 : Nat)) ∧ w2.cell? ⟨g, o + N + 2, none⟩ = some (.int .u8 (y2 : Nat)) ∧ w2.cell? ⟨g, o + N + 3, none⟩ = some (.int .u8 (y3 : Nat))) := by
    intro w1 hg1 d0 d1 d2 d3
    refine (sumBytes_any s hm w1).mono ?_
    rintro e w2 ⟨rfl, hb⟩
    exact ⟨rfl, hb, (hb.cell (p := ⟨g, o + N, none⟩) hg1).trans d0, (hb.cell (p := ⟨g, o + N + 1, none⟩) hg1).trans d1, (hb.cell (p := ⟨g, o + N + 2, none⟩) hg1).trans d2, (hb.cell (p := ⟨g, o + N + 3, none⟩) hg1).trans d3⟩
  have hat : ∀ w, (Instr.arrayAt 250 (.slice (some ⟨g, o + N, none⟩) 4 (cap - N))).run Tryz.prog w = .ok (.pointer (some ⟨g, o + N, none⟩)) w := fun w => run_arrayAt w 250 5 4 _ 4 _ Tryz.underlying250 (Nat.le_refl _)
  have heq := fun w => eq62 ((s : Int) % 256) ((s : Int) / 256 % 256) ((s : Int) / 65536 % 256) ((s : Int) / 16777216) y0 y1 y2 y3 w
  have hE : Hid (((s : Int) % 256 == (y0 : Int) && (s : Int) / 256 % 256 == (y1 : Int) && (s : Int) / 65536 % 256 == (y2 : Int) && (s : Int) / 16777216 == (y3 : Int)) = decide (le4 s = [y0, y1, y2, y3])) := by
    rw [Hid, Bool.eq_iff_iff]
    simp [le4]
    omega
  generalize ((s : Int) % 256 == (y0 : Int) && (s : Int) / 256 % 256 == (y1 : Int) && (s : Int) / 65536 % 256 == (y2 : Int) && (s : Int) / 16777216 == (y3 : Int)) = E at heq hE
  go_cut [25] (fun c wx => c = .bool (!E) ∧ Hid (Kept b w wx) ∧ Hid (Tab wx b 1 (wrap64 (n + N))))
  case first =>
    go_region_with (first | (go_at_call 171; refine c12.out.mono ?_; rintro e w1 ⟨rfl, HK1, HT1, hg1, d0, d1, d2, d3⟩) | (go_at_call 170; refine (c22.out w1 hg1 d0 d1 d2 d3).mono ?_; rintro e w2 ⟨rfl, HB2, e0, e1, e2, e3⟩))
    all_goals (go_wp2_with fail; go_meet; exact ⟨rfl, HK1.out.trans (Kept.below HB2.out), HT1.out.below HB2.out⟩)
  case rest =>
    obtain ⟨rfl, HK, HT⟩ := hcut
    clear c12 c22 heq hat k0 k1 k2 k3
    cases E
    · go_wp2_with fail
      go_ret2
      exact ⟨HK.out, HT.out, _, _, rfl, .inr ⟨of_decide_eq_false hE.out.symm, rfl, rfl⟩⟩
    · go_wp2_with fail
      have hkb := HK.out
      refine (clone_any b _ xs _ HT.out.1 (H1.out.kept hkb) (by rw [HN.out]; omega)).mono ?_
      rintro e w3 ⟨v', rfl, hv, hb3⟩
      have HV := hid hv
      have HB3 := hid hb3
      clear hv hb3 hkb
      go_wp2_with fail
      go_ret2
      exact ⟨HK.out.trans (Kept.below HB3.out), HT.out.below HB3.out, _, _, rfl, .inl ⟨of_decide_eq_true hE.out.symm, rfl, HV.out⟩⟩

end Go.Proofs.YtaaioaocjfpajaaGreatDoor.Crc
end

section
/-
  What Take answers.
-/
namespace Go.Proofs.YtaaioaocjfpajaaGreatDoor
open Go.RowKit
open Tlv (Tr BySlS AgreeS Agree)
open Crc (hid Kept Tab)

/-- What Take leaves: the record in new memory; of the old the table alone may have turned. -/
def Took (w w' : World) (b : Nat) (e : Ending) (x : Int × (Int × List Int × List Int) × Nat) : Prop :=
  ∃ a c, e = .returned (.tuple #[.agg (recA x.2.1.1 x.2.1.2.1 (.slice a x.2.1.2.2.length c)).toArray, .int .i64 (x.2.2 : Nat), .int .i64 x.1]) ∧
    BySlS (fun g => w.heap.size ≤ g ∧ g < w'.heap.size) w' (.slice a x.2.1.2.2.length c) x.2.1.2.2 ∧ (x.2.1.2.1.length = 32 ∧ ∀ y ∈ x.2.1.2.1, 0 ≤ y ∧ y ≤ 255) ∧ Kept b w w' ∧ TabX w' b

theorem took_none (w w' : World) (f : Int) (b : Nat) (hk : Kept b w w') (ht : TabX w' b) : Took w w' b (.returned (.tuple #[.agg zRec.toArray, .int .i64 0, .int .i64 f])) (noRec f) := by
  refine ⟨none, 0, rfl, Tlv.BySlS.none _ _, ⟨by simp [noRec], ?_⟩, hk, ht⟩
  intro y hy
  rw [(List.mem_replicate.1 hy).2]
  omega

theorem Kept.then {b : Nat} {w W V : World} (h : Kept b w W) (k : Below w.heap.size W V) : Kept b w V :=
  ⟨k.os.trans h.os, k.tape.trans h.tape, k.output.trans h.output, Nat.le_trans h.size k.size, fun i hi hb => (k.block i hi).trans (h.block i hi hb)⟩
theorem setCells_block (w : World) (g o k : Nat) (cs : List Value) (h : k ≠ g) : (w.setCells g o cs).heap[k]? = w.heap[k]? := by
  induction cs generalizing w o with
  | nil => rfl
  | cons c cs ih => rw [World.setCells, ih]; exact Below.heap_setCell _ _ _ _ (by omega)
theorem Kept.set {b : Nat} {u w : World} {g o : Nat} {cs : List Value} (hg : u.heap.size ≤ g ∧ b < u.heap.size) (h : Kept b u w) : Kept b u (w.setCells g o cs) :=
  Kept.then h (setCells_below hg.1 _ _ _)
theorem TabX.set {b g o : Nat} {u w : World} {cs : List Value} (h : TabX w b) (hg : u.heap.size ≤ g ∧ b < u.heap.size) : TabX (w.setCells g o cs) b := by
  obtain ⟨f, n, hf, ht⟩ := h
  have hb := setCells_below (B := u.heap.size) hg.1 w o cs
  refine ⟨f, n, hf, ?_⟩
  obtain ⟨h1, h2, h3, h4, h5, h6, h7⟩ := ht
  have c : ∀ j, (w.setCells g o cs).cell? ⟨b, j, none⟩ = w.cell? ⟨b, j, none⟩ := fun j => hb.cell (p := ⟨b, j, none⟩) hg.2
  refine ⟨by rw [setCells_size]; exact h1, (c _).trans h2, (c _).trans h3, (c _).trans h4, fun j hj => ?_, fun e j hj => (c _).trans (h6 e j hj), fun j => (hb.frozen (p := ⟨b, j, none⟩) hg.2).trans (h7 j)⟩
  obtain ⟨x, hx⟩ := h5 j hj
  exact ⟨x, (c _).trans hx⟩

theorem tail4 {xs : List Int} {m : Nat} (h : 4 ≤ xs.length - m) : ∃ y0 y1 y2 y3 : Nat, nats ((xs.drop m).take 4) = [y0, y1, y2, y3] := by
  have hl : (nats ((xs.drop m).take 4)).length = 4 := by rw [nats_length, List.length_take, List.length_drop]; omega
  match hq : nats ((xs.drop m).take 4), hl with
  | [y0, y1, y2, y3], _ => exact ⟨y0, y1, y2, y3, rfl⟩

theorem bySlS_take {S : Nat → Prop} {w : World} {a : Option Addr} {cap E : Nat} {xs : List Int} (h : BySlS S w (.slice a xs.length cap) xs) (hE : E ≤ xs.length) : BySlS S w (.slice a E cap) (xs.take E) := by
  obtain ⟨a', cap', e, h2, h3, h4, h5, h6, h7⟩ := h
  simp only [Value.slice.injEq, true_and] at e
  obtain ⟨rfl, rfl⟩ := e
  have hl : (xs.take E).length = E := by rw [List.length_take]; omega
  refine ⟨a, cap, by rw [hl], by rw [hl]; omega, h3, fun e => ⟨by rw [(h4 e).1]; simp, (h4 e).2⟩, by rw [hl]; omega, fun x hx => h6 x (List.mem_of_mem_take hx), fun hne => ?_⟩
  obtain ⟨b, o, e, hS, hc⟩ := h7 (fun e => hne (by rw [e]; simp))
  refine ⟨b, o, e, hS, fun i hi => ?_⟩
  rw [hl] at hi
  rw [hc i (by omega)]
  simp [List.getElem?_take_of_lt hi]

set_option maxHeartbeats 4000000 in
set_option maxRecDepth 100000 in
theorem take_any (b : Nat) (v : Value) (xs : List Int) (w : World) (hT : TabX w b) (h : BySlS (fun g => g ≠ b ∧ g < w.heap.size) w v xs) :
    Calls Tryz.prog 97 #[.pointer (some ⟨b, 0, none⟩), v] w fun e w' => Took w w' b e (takeF xs) := by
  obtain ⟨a, cap, rfl, h2, h3, _, h5, h6, _⟩ := id h
  have H := hid h
  have HT := hid hT
  have hbw := hT.lt
  have HX := hid h6
  clear h hT h6
  have hz := zero35
  obtain ⟨Z, hZ⟩ : ∃ Z, zRec = Z := ⟨_, rfl⟩
  have HZ := hid hZ
  rw [hZ] at hz
  clear hZ
  have HZS : Hid (Z.toArray.size = 34) := by rw [← HZ.out]; rfl
  have HI2 : Hid ((Tryz.prog.info? 56).map (·.size) = some Z.toArray.size) := by rw [← HZ.out]; exact Tryz.info35
  have H1 : Hid (Z.toArray.all (·.oneCell') = true) := by rw [← HZ.out]; exact all_oneCell_toArray zRec_one
  have HZB : Hid (w.heap.size ≤ w.heap.size ∧ b < w.heap.size) := ⟨Nat.le_refl _, hbw⟩
  have k0 : Below w.heap.size w (w.alloc (.cells Z.toArray 56)) := (Below.refl _ _).alloc (Nat.le_refl _) _
  have HTH : Hid (World.there (w.alloc (.cells Z.toArray 56)) w.heap.size 0 34) := by
    have h := there_new w Z 56
    rw [show Z.length = 34 from HZS.out] at h
    exact h
  have HK0 := hid k0
  have hz0 : w.heap.size < (w.alloc (.cells Z.toArray 56)).heap.size := by simp
  go_enter Tryz.func97, Tryz.ntmps97
  go_wp2_with fail
  obtain ⟨W0, hW0⟩ : ∃ W0, w.alloc (.cells Z.toArray 56) = W0 := ⟨_, rfl⟩
  rw [hW0] at HTH HK0 hz0
  rw [hW0]
  clear hW0 k0
  have HB0 := hid (BySlS.below H.out HK0.out (fun g hg => hg.2))
  refine (first_any _ xs W0 (HB0.out.to (fun g hg => Nat.lt_of_lt_of_le hg.2 HK0.out.size))).mono ?_
  rintro e w1 ⟨hres, hb1⟩
  have HB1 : Hid (Below w.heap.size w w1) := HK0.out.trans (hb1.mono HK0.out.size)
  have HT1 := hid (there_below HTH.out hb1 hz0)
  have hz1 : w.heap.size < w1.heap.size := Nat.lt_of_lt_of_le hz0 hb1.size
  have hzz : W0.heap.size ≤ w1.heap.size := hb1.size
  have HBX := hid hb1
  clear hb1
  rcases hres with ⟨hn, x, y, a1, l1, c1, a2, l2, c2, sz, rfl⟩ | ⟨t, m, a1, l1, c1, a2, l2, c2, hs, rfl, hr⟩
  · have HE := hid (takeF_none hn)
    clear hn
    have HV : Hid (World.there (w1.alloc (.cells #[.int .i64 x, .int .u64 y, .slice a1 l1 c1, .slice a2 l2 c2] 156)) w.heap.size 0 Z.toArray.size) := by
      rw [Hid, HZS.out]
      exact there_below HT1.out ((Below.refl _ _).alloc (Nat.le_refl _) _) hz1
    have HKV : Hid (Kept b w (w1.alloc (.cells #[.int .i64 x, .int .u64 y, .slice a1 l1 c1, .slice a2 l2 c2] 156))) := (Kept.below HB1.out).alloc _
    have HTV : Hid (TabX (w1.alloc (.cells #[.int .i64 x, .int .u64 y, .slice a1 l1 c1, .slice a2 l2 c2] 156)) b) := (HT.out.below HB1.out).below ((Below.refl _ _).alloc (Nat.le_refl _) _)
    go_wp2_with (refine wpList_store_mid (by rfl) 56 _ _ (by rfl) w.heap.size 0 Z.toArray (by rfl) (by rfl) HV.out HI2.out H1.out ?_)
    have hr : World.rangeAt (World.setCells (w1.alloc (.cells #[.int .i64 x, .int .u64 y, .slice a1 l1 c1, .slice a2 l2 c2] 156)) w.heap.size 0 Z) w.heap.size 0 Z := World.rangeAt_setCells_same _ _ _ _ HV.out
    refine bodyPost_ret (v := .tuple #[.agg Z.toArray, .int .i64 0, .int .i64 16]) (results_cell_mid3 Tryz.results97 _ _ w.heap.size 0 _ _ rfl hr Tryz.underlying56 rfl HI2.out) rfl ?_
    rw [HE.out, ← HZ.out]
    exact took_none w _ 16 b (Kept.set HZB.out HKV.out) (HTV.out.set HZB.out)
  · have HE := hid (takeF_some hs)
    have HM := hid (rd_end hs)
    have hm := Tlv.rd_pos hs
    have HBZ : Hid ((Tlv.bsz 9 t 65535 8).2 = true) := (Tlv.rd_form 8 xs t m HX.out hs).2
    have HML : Hid (m ≤ 65538) := by
      have h1 := (Tlv.rd_form 8 xs t m HX.out hs)
      have h3 : (Tlv.formOf 9 t).length = (xs.take m).length := congrArg List.length h1.1
      have h4 : ((Tlv.bodyOf 9 t).length : Int) ≤ 65535 := (Tlv.Rt.facts ⟨8, h1.2⟩).2.1
      have h5 : (Tlv.formOf 9 t).length = 3 + (Tlv.bodyOf 9 t).length := by simp [Tlv.formOf]; omega
      rw [List.length_take] at h3
      rw [Hid]
      omega
    have HRP := hid hr
    clear hs hr
    have hm64 : (m : Int) ≤ 9223372036854775807 := by have := HML.out; omega
    have hsub : wrap64 ((xs.length : Int) - m) = (xs.length : Int) - m := IntWalk.wrap64_in _ ⟨by omega, by omega⟩
    by_cases h4 : xs.length - m < 4
    · have h4' : (xs.length : Int) - m < 4 := by omega
      have HE2 : Hid (takeF xs = noRec 16) := by rw [Hid, HE.out, if_pos h4]
      have HV : Hid (World.there (w1.alloc (.cells #[.int .i64 t.hd.1, .int .u64 t.hd.2.1, .slice a1 l1 c1, .slice a2 l2 c2] 156)) w.heap.size 0 Z.toArray.size) := by
        rw [Hid, HZS.out]
        exact there_below HT1.out ((Below.refl _ _).alloc (Nat.le_refl _) _) hz1
      have HKV : Hid (Kept b w (w1.alloc (.cells #[.int .i64 t.hd.1, .int .u64 t.hd.2.1, .slice a1 l1 c1, .slice a2 l2 c2] 156))) := (Kept.below HB1.out).alloc _
      have HTV : Hid (TabX (w1.alloc (.cells #[.int .i64 t.hd.1, .int .u64 t.hd.2.1, .slice a1 l1 c1, .slice a2 l2 c2] 156)) b) := (HT.out.below HB1.out).below ((Below.refl _ _).alloc (Nat.le_refl _) _)
      clear h4 HE
      go_wp2_with (refine wpList_store_mid (by rfl) 56 _ _ (by rfl) w.heap.size 0 Z.toArray (by rfl) (by rfl) HV.out HI2.out H1.out ?_)
      have hr : World.rangeAt (World.setCells (w1.alloc (.cells #[.int .i64 t.hd.1, .int .u64 t.hd.2.1, .slice a1 l1 c1, .slice a2 l2 c2] 156)) w.heap.size 0 Z) w.heap.size 0 Z := World.rangeAt_setCells_same _ _ _ _ HV.out
      refine bodyPost_ret (v := .tuple #[.agg Z.toArray, .int .i64 0, .int .i64 16]) (results_cell_mid3 Tryz.results97 _ _ w.heap.size 0 _ _ rfl hr Tryz.underlying56 rfl HI2.out) rfl ?_
      rw [HE2.out, ← HZ.out]
      exact took_none w _ 16 b (Kept.set HZB.out HKV.out) (HTV.out.set HZB.out)
    · have h4' : (4 : Int) ≤ (xs.length : Int) - m := by omega
      have h4n : m + 4 ≤ xs.length := by omega
      have h4c : m + 4 ≤ cap := by omega
      obtain ⟨V, hV⟩ : ∃ V, w1.alloc (.cells #[.int .i64 t.hd.1, .int .u64 t.hd.2.1, .slice a1 l1 c1, .slice a2 l2 c2] 156) = V := ⟨_, rfl⟩
      have kV : Below w1.heap.size w1 V := by rw [← hV]; exact (Below.refl _ _).alloc (Nat.le_refl _) _
      have HBOX : Hid (∀ j u, (#[.int .i64 t.hd.1, .int .u64 t.hd.2.1, .slice a1 l1 c1, .slice a2 l2 c2] : Array Value)[j]? = some u → V.cell? ⟨w1.heap.size, j, none⟩ = some u) := fun j u hj => by
        rw [← hV, World.cell?_alloc_at _ _ _ _ rfl, hj]
      have hzV : w1.heap.size < V.heap.size := by rw [← hV]; simp
      have HKV : Hid (Below w.heap.size w V) := HB1.out.trans (kV.mono HB1.out.size)
      have HTV := hid (there_below HT1.out kV hz1)
      have HRV : Hid (Tlv.Rep W0.heap.size w1.heap.size V 9 t (.slice a1 l1 c1) (.slice a2 l2 c2)) := HRP.out.agree (Agree.below kV) (Nat.le_refl _) (Nat.le_refl _)
      obtain ⟨y0, y1, y2, y3, hy⟩ := tail4 (xs := xs) (m := m) (by omega)
      have HY := hid hy
      have HTK : Hid (nats (xs.take (m + 4)) = nats (xs.take m) ++ [y0, y1, y2, y3]) := by rw [Hid, ← hy, ← nats_append, List.take_add]
      clear hy kV h4
      have HCB : Hid (Crc.BySl b V (.slice a (m + 4) cap) (nats (xs.take m) ++ [y0, y1, y2, y3])) := by
        rw [Hid, ← HTK.out]
        exact toCrc (bySlS_take (BySlS.below H.out HKV.out (fun g hg => hg.2)) h4n) (fun g hg => ⟨hg.1, Nat.lt_of_lt_of_le hg.2 HKV.out.size⟩)
      obtain ⟨f, n, hf, ht⟩ := HT.out.below HKV.out
      have HOP := hid (Crc.open_any b f n (.slice a (m + 4) cap) (nats (xs.take m)) y0 y1 y2 y3 V hf ht HCB.out (by have := HML.out; rw [nats_length, List.length_take]; omega))
      clear ht hf HCB
      go_wp2_with fail
      refine HOP.out.mono ?_
      rintro e w2 ⟨hk2, ht2, v', q, rfl, hq⟩
      have HK2 : Hid (Kept b w w2) := (Kept.below HKV.out).trans hk2
      have HT2 : Hid (TabX w2 b) := TabX.of ht2
      have hbV : w.heap.size < V.heap.size := by omega
      have HH2 := hid (there_kept HTV.out hk2 hbV (by omega))
      have HHZ : Hid (w2.there w.heap.size 0 Z.toArray.size) := by rw [Hid, HZS.out]; exact HH2.out
      have hcb := fun j u hj => (hk2.cell (p := ⟨w1.heap.size, j, none⟩) hzV (by simp; omega)).trans (HBOX.out j u hj)
      have b0 := hcb 0 _ rfl
      have b1 := hcb 1 _ rfl
      have b2 := hcb 2 _ rfl
      have b3 := hcb 3 _ rfl
      have HR2 : Hid (Tlv.Rep W0.heap.size w1.heap.size w2 9 t (.slice a1 l1 c1) (.slice a2 l2 c2)) := HRV.out.agree (fun k h1 h2 => hk2.block k (by omega) (by omega)) (Nat.le_refl _) (Nat.le_refl _)
      have hz2 : V.heap.size ≤ w2.heap.size := hk2.size
      clear hk2 ht2 hcb HOP
      rcases hq with ⟨heq, rfl, hv⟩ | ⟨hne, rfl, rfl⟩
      rotate_left
      · have HE2 : Hid (takeF xs = noRec 4) := by
          rw [Hid, HE.out, if_neg (by omega), if_pos]
          intro hc
          apply hne
          rw [← HY.out, ← hc, sumI, nats_ints]
        clear hne HE
        go_wp2_with (refine wpList_store_mid (by rfl) 56 _ _ (by rfl) w.heap.size 0 Z.toArray (by rfl) (by rfl) HHZ.out HI2.out H1.out ?_)
        have hr : World.rangeAt (World.setCells w2 w.heap.size 0 Z) w.heap.size 0 Z := World.rangeAt_setCells_same _ _ _ _ HHZ.out
        refine bodyPost_ret (v := .tuple #[.agg Z.toArray, .int .i64 0, .int .i64 4]) (results_cell_mid3 Tryz.results97 _ _ w.heap.size 0 _ _ rfl hr Tryz.underlying56 rfl HI2.out) rfl ?_
        rw [HE2.out, ← HZ.out]
        exact took_none w _ 4 b (Kept.set HZB.out HK2.out) (HT2.out.set HZB.out)
      · have HE2 : Hid (takeF xs = match recOf t with
            | none => noRec 3
            | some r => (0, r, m + 4)) := by
          have hc : ¬ sumI (xs.take m) ≠ (xs.drop m).take 4 := by
            intro hc
            apply hc
            rw [sumI, heq, ← HY.out, ints_nats]
            intro x hx
            exact HX.out x (List.mem_of_mem_drop (List.mem_of_mem_take hx))
          rw [Hid, HE.out, if_neg (by omega), if_neg hc]
          cases recOf t <;> rfl
        obtain ⟨av, cv, rfl, _⟩ := id hv
        clear heq HE hv
        go_wp2_with fail
        refine (record_any t _ _ W0.heap.size w1.heap.size w2 HR2.out (by omega) HBZ.out).mono ?_
        rintro e w3 ⟨hres, hb3⟩
        have HK3 : Hid (Kept b w w3) := Kept.then HK2.out (hb3.mono (by omega))
        have HT3 := hid (HT2.out.below hb3)
        have HH3 := hid (there_below HH2.out hb3 (by omega))
        have hz3 : w2.heap.size ≤ w3.heap.size := hb3.size
        clear hb3
        rcases hres with ⟨hn, rfl⟩ | ⟨k, nm, bs, ar, cr, hs, rfl, hbs, hnl, hnx⟩
        · have HE3 : Hid (takeF xs = noRec 3) := by rw [Hid, HE2.out, hn]
          have HHZ3 : Hid (w3.there w.heap.size 0 Z.toArray.size) := by rw [Hid, HZS.out]; exact HH3.out
          have HHZ4 : Hid (World.there (w3.setCells w.heap.size 0 Z) w.heap.size 0 Z.toArray.size) := World.there_setCells HHZ3.out _ _ _
          have HK4 : Hid (Kept b w (w3.setCells w.heap.size 0 Z)) := Kept.set HZB.out HK3.out
          have HT4 : Hid (TabX (w3.setCells w.heap.size 0 Z) b) := HT3.out.set HZB.out
          clear hn HE2
          rw [HZ.out]
          go_wp2_with (first
            | (refine wpList_store_mid (by rfl) 56 _ _ (by rfl) w.heap.size 0 Z.toArray (by rfl) (by rfl) HHZ3.out HI2.out H1.out ?_)
            | (refine wpList_store_mid (by rfl) 56 _ _ (by rfl) w.heap.size 0 Z.toArray (by rfl) (by rfl) HHZ4.out HI2.out H1.out ?_))
          have hr : World.rangeAt (World.setCells (w3.setCells w.heap.size 0 Z) w.heap.size 0 Z) w.heap.size 0 Z := World.rangeAt_setCells_same _ _ _ _ HHZ4.out
          refine bodyPost_ret (v := .tuple #[.agg Z.toArray, .int .i64 0, .int .i64 3]) (results_cell_mid3 Tryz.results97 _ _ w.heap.size 0 _ _ rfl hr Tryz.underlying56 rfl HI2.out) rfl ?_
          rw [HE3.out, ← HZ.out]
          rw [← HZ.out] at HK4 HT4
          exact took_none w _ 3 b (Kept.set HZB.out HK4.out) (HT4.out.set HZB.out)
        · have HE3 : Hid (takeF xs = (0, (k, nm, bs), m + 4)) := by rw [Hid, HE2.out, hs]
          have HBS := hid hbs
          have HNX := hid (And.intro hnl hnx)
          have HCL := hid (recA_length k nm (.slice ar bs.length cr) hnl)
          have HCO := hid (recA_one k nm ar bs.length cr)
          clear hs HE2 hbs hnl hnx
          obtain ⟨C, hC⟩ : ∃ C, recA k nm (.slice ar bs.length cr) = C := ⟨_, rfl⟩
          rw [hC] at HCL HCO
          rw [hC]
          have HC := hid hC
          clear hC
          have HCS : Hid (C.toArray.size = 34) := HCL.out
          have HHZ3 : Hid (w3.there w.heap.size 0 C.toArray.size) := by rw [Hid, HCS.out]; exact HH3.out
          have HHZ4 : Hid (World.there (w3.setCells w.heap.size 0 C) w.heap.size 0 C.toArray.size) := World.there_setCells HHZ3.out _ _ _
          have HRG : Hid (World.rangeAt (w3.setCells w.heap.size 0 C) w.heap.size 0 C) := World.rangeAt_setCells_same _ _ _ _ HHZ3.out
          have HIC : Hid ((Tryz.prog.info? 56).map (·.size) = some C.length) := by rw [Hid, HCL.out]; exact Tryz.info35
          have HI3 : Hid ((Tryz.prog.info? 56).map (·.size) = some C.toArray.size) := HIC.out
          have H3 : Hid (C.toArray.all (·.oneCell') = true) := all_oneCell_toArray HCO.out
          go_wp2_with (first
            | (refine wpList_load_mid (by rfl) 56 _ (by rfl) w.heap.size 0 (by rfl) C _ HRG.out Tryz.underlying56 rfl HIC.out ?_)
            | (refine wpList_store_mid (by rfl) 56 _ _ (by rfl) w.heap.size 0 C.toArray (by rfl) (by rfl) HHZ3.out HI3.out H3.out ?_)
            | (refine wpList_store_mid (by rfl) 56 _ _ (by rfl) w.heap.size 0 C.toArray (by rfl) (by rfl) HHZ4.out HI3.out H3.out ?_))
          have hr : World.rangeAt (World.setCells (w3.setCells w.heap.size 0 C) w.heap.size 0 C) w.heap.size 0 C := World.rangeAt_setCells_same _ _ _ _ HHZ4.out
          refine bodyPost_ret (v := .tuple #[.agg C.toArray, .int .i64 ((m + 4 : Nat) : Int), .int .i64 0]) (results_cell_mid3 Tryz.results97 _ _ w.heap.size 0 _ _ rfl hr Tryz.underlying56 rfl HI3.out) rfl ?_
          rw [HE3.out]
          refine ⟨ar, cr, by rw [HC.out], ?_, HNX.out, Kept.set HZB.out (Kept.set HZB.out HK3.out), (HT3.out.set HZB.out).set HZB.out⟩
          have hblk : ∀ g, W0.heap.size ≤ g → (World.setCells (w3.setCells w.heap.size 0 C) w.heap.size 0 C).heap[g]? = w3.heap[g]? := fun g hg => by
            rw [setCells_block _ _ _ _ _ (by omega), setCells_block _ _ _ _ _ (by omega)]
          refine HBS.out.toS.agree (fun g hg => hblk g hg.1) (fun g hg => ⟨by omega, ?_⟩)
          rw [setCells_size, setCells_size]
          omega
end Go.Proofs.YtaaioaocjfpajaaGreatDoor
end

section
/-
  A range over a function that itself writes one block and hands out memory that it has made: the caller's law.
-/
namespace Go.Proofs.YtaaioaocjfpajaaGreatDoor
open Go.RowKit
open Tlv (Tr BySlS AgreeS Agree)
open Crc (hid Kept Tab)

/-- The blocks below B, b left out, hold what they held. -/
structure KeptTo (B b : Nat) (U V : World) : Prop where
  os : V.os = U.os
  tape : V.tape = U.tape
  output : V.output = U.output
  size : U.heap.size ≤ V.heap.size
  block : ∀ k, k < B → k ≠ b → V.heap[k]? = U.heap[k]?

theorem KeptTo.of_below {B b : Nat} {U V : World} (h : Below B U V) : KeptTo B b U V := ⟨h.os, h.tape, h.output, h.size, fun k hk _ => h.block k hk⟩
theorem KeptTo.of_kept {B b : Nat} {U V : World} (h : Kept b U V) (hB : B ≤ U.heap.size) : KeptTo B b U V := ⟨h.os, h.tape, h.output, h.size, fun k hk hb => h.block k (by omega) hb⟩

theorem put_below {B l : Nat} (W : World) (o : Obj) (h : B ≤ l) (hl : l < W.heap.size) : Below B W (W.putObj l o) :=
  (Below.refl B W).grown (grownBy_putObj' W l o) (by omega) (fun k e => by cases e; omega)

/-- The record of a loop, in a block from B on, is put anew; all else stands. -/
structure Putl (B : Nat) (U W : World) : Prop where
  os : W.os = U.os
  tape : W.tape = U.tape
  output : W.output = U.output
  size : W.heap.size = U.heap.size
  at' : ∃ l lp, B ≤ l ∧ U.heap[l]? = some (.loop lp) ∧ ∀ i, i ≠ l → W.heap[i]? = U.heap[i]?

theorem Putl.below {B : Nat} {U W : World} (h : Putl B U W) : Below B U W := by
  obtain ⟨l, lp, h1, h2, h3⟩ := h.at'
  exact ⟨h.os, h.tape, h.output, by have := h.size; omega, fun k hk => h3 k (by omega)⟩
/-- Cells stand. -/
theorem Putl.block {B : Nat} {U W : World} (h : Putl B U W) {g : Nat} {cs : Array Value} {t : TypeId} {fr : Nat × Nat} (hg : U.heap[g]? = some (.cells cs t fr)) : W.heap[g]? = some (.cells cs t fr) := by
  obtain ⟨l, lp, h1, h2, h3⟩ := h.at'
  rw [h3 g (fun e => by rw [e, h2] at hg; cases hg)]
  exact hg
theorem Putl.cell {B : Nat} {U W : World} (h : Putl B U W) {g o : Nat} {v : Value} (hc : U.cell? ⟨g, o, none⟩ = some v) : W.cell? ⟨g, o, none⟩ = some v := by
  obtain ⟨l, lp, h1, h2, h3⟩ := h.at'
  rw [World.cell?_of_block (w := U) (a := ⟨g, o, none⟩) (h3 g (fun e => by
    rw [e] at hc
    simp [World.cell?, h2] at hc))]
  exact hc

/-- What an iterator that may write block b, and no other that was there, tells: in round k values as V says, in memory from m on, where the caller had none yet; N rounds. T: what it asks of the world, and leaves. -/
def Tells (n gf : Nat) (lb : Array Value) (b : Nat) (T : World → Prop) (V : Nat → Nat → Array Value → World → Prop) (N : Nat) : Prop :=
  ∀ (l : Nat) (J : Nat → Nat → World → Prop) (Jx : Nat → World → Prop) (W : World), T W → (∀ k m U W', J k m U → T W' → Kept b U W' → J k m W') →
    (∀ k m U vs, k < N → m ≤ U.heap.size → J k m U → T U → V k m vs U → YieldAt Fence.wide (n - 1) Tryz.prog l vs U fun e W' => (e = .returned (.bool true) ∧ J (k + 1) W'.heap.size W' ∧ T W') ∨ (e = .returned (.bool false) ∧ Jx (k + 1) W')) →
    J 0 W.heap.size W →
    CallsIn Fence.wide n Tryz.prog gf (#[.func (.yield l) #[] #[]] ++ lb) W fun e W' => (∃ v, e = .returned v) ∧ ((∃ m, J N m W' ∧ T W') ∨ ∃ k, k ≤ N ∧ Jx k W')

/-- How the body of a round may be left: k rounds have come, this one with them. -/
def roundEnds (B : Nat) (T : World → Prop) (I : Nat → Nat → World → Prop) (Ix : Code → Nat → World → Prop) (k : Nat) (W : World) : Exit → Act → World → Prop
  | .normal, _, V => KeepsFrom B W V ∧ I k V.heap.size V ∧ T V
  | .ret, _, V => KeepsFrom B W V ∧ Ix .ret k V
  | .exit id, _, V => KeepsFrom B W V ∧ Ix (.exit id) k V
  | _, _, _ => False

theorem over_func {g : Operand} {ps : Array Tmp} {assign body : Code} {Q : Exit → Act → World → Prop} {a : Act} {w : World} {n gf : Nat} {lb : Array Value}
    (hg : a.eval g = .func (.func gf) #[] lb) (eg : ∀ args w, (callFunc gf args).run Tryz.prog w = .ok (.enter gf args) w)
    {b : Nat} {T : World → Prop} {V : Nat → Nat → Array Value → World → Prop} {N : Nat} (hseq : Tells (n - 1) gf lb b T V N) (hps : ∀ k m vs U, V k m vs U → vs.size = ps.size)
    (hb : b < w.heap.size) (hT : ∀ U W, T U → Below w.heap.size U W → T W) (hT0 : T w)
    (I : Nat → Nat → World → Prop) (Ix : Code → Nat → World → Prop) (hIk : ∀ k m U W, I k m U → T W → Kept b U W → I k m W) (hI : ∀ k m U W, I k m U → Putl w.heap.size U W → I k m W)
    (hIx : ∀ c k U W, Ix c k U → Putl w.heap.size U W → Ix c k W)
    (h0 : ∀ W, Below w.heap.size w W → W.heap.size = w.heap.size + 2 → I 0 W.heap.size W)
    (asg : Array Value → World → World) (hasg : ∀ vs W, Below W.heap.size W (asg vs W)) (hVa : ∀ k m vs U, V k m vs U → V k m vs (asg vs U)) (hIa : ∀ k m vs U, V k m vs U → I k m U → I k m (asg vs U)) (a₁ : Nat → Array Value → World → Act)
    (hV : ∀ k m vs U W, V k m vs U → Putl w.heap.size U W → V k m vs W)
    (hassign : ∀ (l k m : Nat) (vs : Array Value) (W : World) (K : Act → World → Prop), k < N → V k m vs W → K (a₁ k vs W) (asg vs W) →
      assign.wpIn (Fence.wide.inRound l) (n - 1 - 1) Tryz.prog (Exit.then K (fun _ _ _ => False)) { tmps := (ps.zip vs).foldl (fun t (p, v) => t.setIfInBounds p v) a.tmps, defers := [] } W)
    (hbody : ∀ (l k m : Nat) (vs : Array Value) (U W : World), k < N → m ≤ U.heap.size → V k m vs W → I k m W → T W → W.heap.size = (asg vs U).heap.size → (∀ i, U.heap.size ≤ i → W.heap[i]? = (asg vs U).heap[i]?) → w.heap.size ≤ U.heap.size → body.wpIn (Fence.wide.inRound l) (n - 1 - 1) Tryz.prog (roundEnds w.heap.size T I Ix (k + 1) W) (a₁ k vs U) W)
    (hdone : ∀ (D m : Nat) (W : World), w.heap.size ≤ D → I N m W → T W → W.heap[D]? = some (.deferred (some [])) → Q .normal { a with defers := { target := .collected D, args := #[] } :: a.defers } W)
    (hstop : ∀ (D : Nat) (c : Code) (k : Nat) (W : World), w.heap.size ≤ D → k ≤ N → Ix c k W → W.heap[D]? = some (.deferred (some [])) → c.wpIn Fence.wide n Tryz.prog Q { a with defers := { target := .collected D, args := #[] } :: a.defers } W) :
    (Code.rangeFunc g ps assign body).wpIn Fence.wide n Tryz.prog Q a w := by
  refine wpIn_rangeFunc fun fn hfn => ?_
  -- the record of the loop, by its state and the jump that is pending; it lies in the second of two new blocks
  let rec0 : LoopState → Option Code → Loop := fun st pe => { state := st, pending := pe, fn, tmps := a.tmps, params := ps, assign, body, defers := w.heap.size }
  have hB : ∀ (W : World) (o : Obj) (l : Nat), w.heap.size ≤ l → l < W.heap.size → Below w.heap.size W (W.putObj l o) := fun W o l h1 h2 => put_below W o h1 h2
  let Rec : LoopState → Option Code → World → Prop := fun st pe W => W.heap[w.heap.size + 1]? = some (.loop (rec0 st pe)) ∧ W.heap[w.heap.size]? = some (.deferred (some []))
  have start : Below w.heap.size w ((w.alloc (.deferred (some []))).alloc (.loop (rec0 .ready none))) := ((Below.refl _ w).alloc (Nat.le_refl _) _).alloc (by simp) _
  have r0 : Rec .ready none ((w.alloc (.deferred (some []))).alloc (.loop (rec0 .ready none))) := by
    refine ⟨?_, (Below.heap_alloc _ _ _ (by simp)).trans (World.alloc_heap_new w _)⟩
    have h := World.alloc_heap_new (w.alloc (.deferred (some []))) (.loop (rec0 .ready none))
    rwa [World.size_alloc] at h
  have hlt : ∀ {st pe W}, Rec st pe W → w.heap.size + 1 < W.heap.size := fun h => (Array.getElem?_eq_some_iff.1 h.1).1
  -- the record is put anew
  have put : ∀ {st pe W} (st' : LoopState) (pe' : Option Code), Rec st pe W → Rec st' pe' (W.putObj (w.heap.size + 1) (.loop (rec0 st' pe'))) := fun st' pe' h =>
    ⟨World.putObj_heap_same (hlt h), (World.putObj_heap_other (by omega)).trans h.2⟩
  have keep : ∀ {st pe W V}, Rec st pe W → KeepsFrom w.heap.size W V → Rec st pe V := fun h k => ⟨k.same _ _ (by omega) h.1 rfl, k.same _ _ (Nat.le_refl _) h.2 rfl⟩
  have psz : ∀ (W : World) (o : Obj) (l : Nat), (W.putObj l o).heap.size = W.heap.size := fun W o l => by simp [World.putObj]
  have poth : ∀ (W : World) (o : Obj), ∀ i, i ≠ w.heap.size + 1 → (W.putObj (w.heap.size + 1) o).heap[i]? = W.heap[i]? := fun W o i hi => World.putObj_heap_other (by omega)
  have putI : ∀ {k m st pe W} (st' : LoopState) (pe' : Option Code), Rec st pe W → I k m W → I k m (W.putObj (w.heap.size + 1) (.loop (rec0 st' pe'))) := fun {k m st pe W} st' pe' h hi =>
    hI k m W _ hi ⟨rfl, rfl, rfl, psz _ _ _, w.heap.size + 1, _, by omega, h.1, poth W _⟩
  have putIx : ∀ {c k st pe W} (st' : LoopState) (pe' : Option Code), Rec st pe W → Ix c k W → Ix c k (W.putObj (w.heap.size + 1) (.loop (rec0 st' pe'))) := fun {c k st pe W} st' pe' h hi =>
    hIx c k W _ hi ⟨rfl, rfl, rfl, psz _ _ _, w.heap.size + 1, _, by omega, h.1, poth W _⟩
  refine ⟨w.heap.size + 1, [{ target := .collected w.heap.size, args := #[] }], (w.alloc (.deferred (some []))).alloc (.loop (rec0 .ready none)), { target := .fn (.func gf) lb, args := #[.func (.yield (w.heap.size + 1)) #[] #[]] },
    (w.alloc (.deferred (some []))).alloc (.loop (rec0 .ready none)), gf, #[.func (.yield (w.heap.size + 1)) #[] #[]] ++ lb, (w.alloc (.deferred (some []))).alloc (.loop (rec0 .ready none)), ?_, ?_, fun _ _ => trivial, ?_, fun h => by simp [Fence.wide] at h, ?_⟩
  · exact run_enterLoop_outer _ _ _ _ _
  · simp only [resolve, hg]
    simp [go_sem]
  · simp [invoke, go_sem, eg]
  · refine (hseq (w.heap.size + 1) (fun k m W => I k m W ∧ Rec .ready none W) (fun k W => ∃ c, Ix c k W ∧ Rec .done (some c) W) _ (hT _ _ hT0 start) ?_ ?_ ⟨h0 _ start (by simp), r0⟩).mono ?_
    · -- the iterator writes block b
      rintro k m U W' ⟨hi, hr⟩ hTW hk
      have hs := hlt hr
      exact ⟨hIk k m U W' hi hTW hk, (hk.block _ hs (by omega)).trans hr.1, (hk.block _ (by omega) (by omega)).trans hr.2⟩
    · -- one round
      rintro k m U vs hkN hmU ⟨hi, hr⟩ hTU hVU
      have hs := hlt hr
      have ba := hasg vs U
      have hra : Rec .ready none (asg vs U) := ⟨(ba.block _ hs).trans hr.1, (ba.block _ (by omega)).trans hr.2⟩
      have hsa := hlt hra
      refine ⟨fn, _, assign, body, run_yield (P := Tryz.prog) (args := vs) hr.1 (hps k m vs U hVU), roundIn_of_wpIn hfn (hassign _ k m vs U _ hkN hVU ⟨_, run_beginRound hra.1 rfl, ?_⟩)⟩
      have b1 := hB (asg vs U) (.loop { rec0 .ready none with state := .busy }) _ (by omega) hsa
      have hTa : T (asg vs U) := hT _ _ hTU (ba.mono (by omega))
      have hIa' : I k m (asg vs U) := hIa k m vs U hVU hi
      have hVa' : V k m vs (asg vs U) := hVa k m vs U hVU
      refine wpIn_mono (hbody _ k m vs U _ hkN hmU ?_ (putI .busy none hra hIa') (hT _ _ hTa b1) ?_ ?_ (by omega)) ?_
      · exact hV k m vs _ _ hVa' ⟨rfl, rfl, rfl, psz _ _ _, w.heap.size + 1, _, by omega, hra.1, poth _ _⟩
      · exact psz _ _ _
      · intro i hi
        exact poth _ _ i (by omega)
      have hr1 : Rec .busy none ((asg vs U).putObj (w.heap.size + 1) (.loop { rec0 .ready none with state := .busy })) := put .busy none hra
      have ends : ∀ (jump : Option Code) (V : World), KeepsFrom w.heap.size ((asg vs U).putObj (w.heap.size + 1) (.loop { rec0 .ready none with state := .busy })) V →
          (Instr.endRound (w.heap.size + 1) jump).run Tryz.prog V = .ok (.bool jump.isNone) (V.putObj (w.heap.size + 1) (.loop (rec0 (if jump.isNone then .ready else .done) jump))) ∧
          Rec (if jump.isNone then .ready else .done) jump (V.putObj (w.heap.size + 1) (.loop (rec0 (if jump.isNone then .ready else .done) jump))) ∧ Below w.heap.size V (V.putObj (w.heap.size + 1) (.loop (rec0 (if jump.isNone then .ready else .done) jump))) ∧ Rec .busy none V := fun jump V hk => by
        have hr2 := keep hr1 hk
        exact ⟨run_endRound (P := Tryz.prog) jump hr2.1, put _ _ hr2, hB V _ _ (by omega) (hlt hr2), hr2⟩
      rintro e a3 V hp
      cases e with
      | normal =>
        obtain ⟨hk, hi2, ht2⟩ := hp
        obtain ⟨h1, h2, h3, h4⟩ := ends none V hk
        exact ⟨_, _, h1, .inl ⟨rfl, ⟨by rw [psz]; exact putI _ _ h4 hi2, h2⟩, hT _ _ ht2 h3⟩⟩
      | ret =>
        obtain ⟨hk, hi2⟩ := hp
        obtain ⟨h1, h2, h3, h4⟩ := ends (some .ret) V hk
        exact ⟨_, _, h1, .inr ⟨rfl, .ret, putIx _ _ h4 hi2, h2⟩⟩
      | exit id =>
        obtain ⟨hk, hi2⟩ := hp
        obtain ⟨h1, h2, h3, h4⟩ := ends (some (.exit id)) V hk
        exact ⟨_, _, h1, .inr ⟨rfl, .exit id, putIx _ _ h4 hi2, h2⟩⟩
      | goto t => exact hp.elim
      | panic ch => exact hp.elim
      | outgrown => exact hp.elim
    · -- behind the iterator
      rintro e V ⟨⟨v, rfl⟩, (⟨m, ⟨hi, hr⟩, ht⟩ | ⟨k, hk, c, hi, hr⟩)⟩
      · exact ⟨none, _, run_endLoop (P := Tryz.prog) hr.1 (by simp [rec0]), hdone _ m _ (Nat.le_refl _) (putI .exhausted none hr hi) (hT _ _ ht (hB V _ _ (Nat.le_succ _) (hlt hr))) ((World.putObj_heap_other (by omega)).trans hr.2)⟩
      · exact ⟨some c, _, run_endLoop (P := Tryz.prog) hr.1 (by simp [rec0]), hstop _ c k _ (Nat.le_refl _) hk (putIx .exhausted (some c) hr hi) ((World.putObj_heap_other (by omega)).trans hr.2)⟩

end Go.Proofs.YtaaioaocjfpajaaGreatDoor
end

section
/-
  A range over a function that itself writes one block, and holds memory over its yields: the caller's law. (As FrRange's, but the body says which blocks it owns, and leaves all others.)
-/
namespace Go.Proofs.YtaaioaocjfpajaaGreatDoor
open Go.RowKit
open Crc (hid Kept Tab)

/-- Cells outside O that were there stand. -/
structure StayO (O : Nat → Prop) (U W : World) : Prop where
  size : U.heap.size ≤ W.heap.size
  cell : ∀ g o v, U.cell? ⟨g, o, none⟩ = some v → ¬ O g → W.cell? ⟨g, o, none⟩ = some v
theorem StayO.trans {O : Nat → Prop} {U V W : World} (h : StayO O U V) (k : StayO O V W) : StayO O U W := ⟨Nat.le_trans h.size k.size, fun g o v hi ho => k.cell g o v (h.cell g o v hi ho) ho⟩
theorem cell_lt {U : World} {g o : Nat} {v : Value} (h : U.cell? ⟨g, o, none⟩ = some v) : g < U.heap.size := by
  by_cases hg : g < U.heap.size
  · exact hg
  · simp [World.cell?, Array.getElem?_eq_none (Nat.le_of_not_lt hg)] at h
theorem StayO.of_below {O : Nat → Prop} {U W : World} (h : Below U.heap.size U W) : StayO O U W := ⟨h.size, fun g o _ hi _ => (h.cell (p := ⟨g, o, none⟩) (cell_lt hi)).trans hi⟩
theorem StayO.of_putl {O : Nat → Prop} {B : Nat} {U W : World} (h : Putl B U W) : StayO O U W := ⟨Nat.le_of_eq h.size.symm, fun _ _ _ hi _ => h.cell hi⟩
theorem StayO.of_kp {O L : Nat → Prop} {U W : World} (h : Sim.Kp L U W) (hL : ∀ x, L x → O x) : StayO O U W := ⟨h.size, fun g o _ hi ho => (h.cell (p := ⟨g, o, none⟩) (cell_lt hi) (fun e => ho (hL g e))).trans hi⟩
theorem StayO.mono {O Q : Nat → Prop} {U W : World} (h : StayO O U W) (hs : ∀ x, O x → Q x) : StayO Q U W := ⟨h.size, fun g o v hi ho => h.cell g o v hi (fun e => ho (hs g e))⟩
/-- A range, and bytes, outside O stand. -/
theorem StayO.range {O : Nat → Prop} {U W : World} (h : StayO O U W) {g o : Nat} {C : List Value} (hr : U.rangeAt g o C) (hg : ¬ O g) : W.rangeAt g o C := fun j v hv => h.cell g (o + j) v (hr j v hv) hg
theorem StayO.bytes {O S S' : Nat → Prop} {U W : World} (h : StayO O U W) {v : Value} {xs : List Int} (hb : Tlv.BySlS S U v xs) (hS : ∀ g, S g → ¬ O g ∧ S' g) : Tlv.BySlS S' W v xs := by
  obtain ⟨a, c, e, h1, h2, h3, h4, h5, h6⟩ := hb
  refine ⟨a, c, e, h1, h2, h3, h4, h5, fun hne => ?_⟩
  obtain ⟨b, o, e, hg, hc⟩ := h6 hne
  exact ⟨b, o, e, (hS b hg).2, fun i hi => h.cell b (o + i) _ (hc i hi) (hS b hg).1⟩

/-- What an iterator that may write block b and blocks that it made itself tells, over a body that owns the blocks O (they grow by new ones), and leaves all other cells that were there: N rounds, in round k values as V says. -/
def TellsO (n gf : Nat) (lb : Array Value) (b : Nat) (T : World → Prop) (V : Nat → (Nat → Prop) → Array Value → World → Prop) (N : Nat) (O0 : Nat → Prop) : Prop :=
  ∀ (l : Nat) (J : Nat → (Nat → Prop) → World → Prop) (Jx : Nat → World → Prop) (W : World), T W → (∀ k O U W', J k O U → T W' → Kept b U W' → J k O W') →
    (∀ k O U vs, k < N → (∀ x, O x → x < U.heap.size) → J k O U → T U → V k O vs U → YieldAt Fence.wide (n - 1) Tryz.prog l vs U fun e W' =>
      (e = .returned (.bool true) ∧ ∃ O', J (k + 1) O' W' ∧ T W' ∧ (∀ x, O' x → (O x ∨ U.heap.size ≤ x) ∧ x < W'.heap.size) ∧ StayO O U W') ∨ (e = .returned (.bool false) ∧ Jx (k + 1) W')) →
    J 0 O0 W → (∀ x, O0 x → x < W.heap.size) →
    CallsIn Fence.wide n Tryz.prog gf (#[.func (.yield l) #[] #[]] ++ lb) W fun e W' => (∃ v, e = .returned v) ∧ ((∃ O, J N O W' ∧ T W') ∨ ∃ k, k ≤ N ∧ Jx k W')

/-- How the body of a round may be left: k rounds have come, this one with them. -/
def roundEndsO (B : Nat) (T : World → Prop) (I : Nat → (Nat → Prop) → World → Prop) (Ix : Code → Nat → World → Prop) (k : Nat) (O : Nat → Prop) (W : World) : Exit → Act → World → Prop
  | .normal, _, V => KeepsFrom B W V ∧ (∃ O', I k O' V ∧ (∀ x, O' x → (O x ∨ W.heap.size ≤ x) ∧ x < V.heap.size) ∧ StayO O W V) ∧ T V
  | .ret, _, V => KeepsFrom B W V ∧ Ix .ret k V
  | .exit id, _, V => KeepsFrom B W V ∧ Ix (.exit id) k V
  | _, _, _ => False

theorem over_funcO {g : Operand} {ps : Array Tmp} {assign body : Code} {Q : Exit → Act → World → Prop} {a : Act} {w : World} {n gf : Nat} {lb : Array Value}
    (hg : a.eval g = .func (.func gf) #[] lb) (eg : ∀ args w, (callFunc gf args).run Tryz.prog w = .ok (.enter gf args) w)
    {b : Nat} {T : World → Prop} {V : Nat → (Nat → Prop) → Array Value → World → Prop} {N : Nat} {O0 : Nat → Prop} (hO0 : ∀ x, O0 x → x < w.heap.size) (hseq : TellsO (n - 1) gf lb b T V N O0) (hps : ∀ k m vs U, V k m vs U → vs.size = ps.size)
    (hb : b < w.heap.size) (hT : ∀ U W, T U → Below w.heap.size U W → T W) (hT0 : T w)
    (I : Nat → (Nat → Prop) → World → Prop) (Ix : Code → Nat → World → Prop) (hIk : ∀ k m U W, I k m U → T W → Kept b U W → I k m W) (hI : ∀ k m U W, I k m U → Putl w.heap.size U W → I k m W)
    (hIx : ∀ c k U W, Ix c k U → Putl w.heap.size U W → Ix c k W)
    (h0 : ∀ W, Below w.heap.size w W → W.heap.size = w.heap.size + 2 → I 0 O0 W)
    (asg : Array Value → World → World) (hasg : ∀ vs W, Below W.heap.size W (asg vs W)) (hVa : ∀ k m vs U, V k m vs U → V k m vs (asg vs U)) (hIa : ∀ k m vs U, V k m vs U → I k m U → I k m (asg vs U)) (a₁ : Nat → Array Value → World → Act)
    (hV : ∀ k m vs U W, V k m vs U → Putl w.heap.size U W → V k m vs W)
    (hassign : ∀ (l k : Nat) (m : Nat → Prop) (vs : Array Value) (W : World) (K : Act → World → Prop), k < N → V k m vs W → K (a₁ k vs W) (asg vs W) →
      assign.wpIn (Fence.wide.inRound l) (n - 1 - 1) Tryz.prog (Exit.then K (fun _ _ _ => False)) { tmps := (ps.zip vs).foldl (fun t (p, v) => t.setIfInBounds p v) a.tmps, defers := [] } W)
    (hbody : ∀ (l k : Nat) (m : Nat → Prop) (vs : Array Value) (U W : World), k < N → (∀ x, m x → x < U.heap.size) → V k m vs W → I k m W → T W → W.heap.size = (asg vs U).heap.size → (∀ i, U.heap.size ≤ i → W.heap[i]? = (asg vs U).heap[i]?) → w.heap.size ≤ U.heap.size → body.wpIn (Fence.wide.inRound l) (n - 1 - 1) Tryz.prog (roundEndsO w.heap.size T I Ix (k + 1) m W) (a₁ k vs U) W)
    (hdone : ∀ (D : Nat) (m : Nat → Prop) (W : World), w.heap.size ≤ D → I N m W → T W → W.heap[D]? = some (.deferred (some [])) → Q .normal { a with defers := { target := .collected D, args := #[] } :: a.defers } W)
    (hstop : ∀ (D : Nat) (c : Code) (k : Nat) (W : World), w.heap.size ≤ D → k ≤ N → Ix c k W → W.heap[D]? = some (.deferred (some [])) → c.wpIn Fence.wide n Tryz.prog Q { a with defers := { target := .collected D, args := #[] } :: a.defers } W) :
    (Code.rangeFunc g ps assign body).wpIn Fence.wide n Tryz.prog Q a w := by
  refine wpIn_rangeFunc fun fn hfn => ?_
  -- the record of the loop, by its state and the jump that is pending; it lies in the second of two new blocks
  let rec0 : LoopState → Option Code → Loop := fun st pe => { state := st, pending := pe, fn, tmps := a.tmps, params := ps, assign, body, defers := w.heap.size }
  have hB : ∀ (W : World) (o : Obj) (l : Nat), w.heap.size ≤ l → l < W.heap.size → Below w.heap.size W (W.putObj l o) := fun W o l h1 h2 => put_below W o h1 h2
  let Rec : LoopState → Option Code → World → Prop := fun st pe W => W.heap[w.heap.size + 1]? = some (.loop (rec0 st pe)) ∧ W.heap[w.heap.size]? = some (.deferred (some []))
  have start : Below w.heap.size w ((w.alloc (.deferred (some []))).alloc (.loop (rec0 .ready none))) := ((Below.refl _ w).alloc (Nat.le_refl _) _).alloc (by simp) _
  have r0 : Rec .ready none ((w.alloc (.deferred (some []))).alloc (.loop (rec0 .ready none))) := by
    refine ⟨?_, (Below.heap_alloc _ _ _ (by simp)).trans (World.alloc_heap_new w _)⟩
    have h := World.alloc_heap_new (w.alloc (.deferred (some []))) (.loop (rec0 .ready none))
    rwa [World.size_alloc] at h
  have hlt : ∀ {st pe W}, Rec st pe W → w.heap.size + 1 < W.heap.size := fun h => (Array.getElem?_eq_some_iff.1 h.1).1
  -- the record is put anew
  have put : ∀ {st pe W} (st' : LoopState) (pe' : Option Code), Rec st pe W → Rec st' pe' (W.putObj (w.heap.size + 1) (.loop (rec0 st' pe'))) := fun st' pe' h =>
    ⟨World.putObj_heap_same (hlt h), (World.putObj_heap_other (by omega)).trans h.2⟩
  have keep : ∀ {st pe W V}, Rec st pe W → KeepsFrom w.heap.size W V → Rec st pe V := fun h k => ⟨k.same _ _ (by omega) h.1 rfl, k.same _ _ (Nat.le_refl _) h.2 rfl⟩
  have psz : ∀ (W : World) (o : Obj) (l : Nat), (W.putObj l o).heap.size = W.heap.size := fun W o l => by simp [World.putObj]
  have poth : ∀ (W : World) (o : Obj), ∀ i, i ≠ w.heap.size + 1 → (W.putObj (w.heap.size + 1) o).heap[i]? = W.heap[i]? := fun W o i hi => World.putObj_heap_other (by omega)
  have putI : ∀ {k m st pe W} (st' : LoopState) (pe' : Option Code), Rec st pe W → I k m W → I k m (W.putObj (w.heap.size + 1) (.loop (rec0 st' pe'))) := fun {k m st pe W} st' pe' h hi =>
    hI k m W _ hi ⟨rfl, rfl, rfl, psz _ _ _, w.heap.size + 1, _, by omega, h.1, poth W _⟩
  have putIx : ∀ {c k st pe W} (st' : LoopState) (pe' : Option Code), Rec st pe W → Ix c k W → Ix c k (W.putObj (w.heap.size + 1) (.loop (rec0 st' pe'))) := fun {c k st pe W} st' pe' h hi =>
    hIx c k W _ hi ⟨rfl, rfl, rfl, psz _ _ _, w.heap.size + 1, _, by omega, h.1, poth W _⟩
  refine ⟨w.heap.size + 1, [{ target := .collected w.heap.size, args := #[] }], (w.alloc (.deferred (some []))).alloc (.loop (rec0 .ready none)), { target := .fn (.func gf) lb, args := #[.func (.yield (w.heap.size + 1)) #[] #[]] },
    (w.alloc (.deferred (some []))).alloc (.loop (rec0 .ready none)), gf, #[.func (.yield (w.heap.size + 1)) #[] #[]] ++ lb, (w.alloc (.deferred (some []))).alloc (.loop (rec0 .ready none)), ?_, ?_, fun _ _ => trivial, ?_, fun h => by simp [Fence.wide] at h, ?_⟩
  · exact run_enterLoop_outer _ _ _ _ _
  · simp only [resolve, hg]
    simp [go_sem]
  · simp [invoke, go_sem, eg]
  · refine (hseq (w.heap.size + 1) (fun k m W => I k m W ∧ Rec .ready none W) (fun k W => ∃ c, Ix c k W ∧ Rec .done (some c) W) _ (hT _ _ hT0 start) ?_ ?_ ⟨h0 _ start (by simp), r0⟩ (fun x hx => by have := hO0 x hx; simp; omega)).mono ?_
    · -- the iterator writes block b
      rintro k m U W' ⟨hi, hr⟩ hTW hk
      have hs := hlt hr
      exact ⟨hIk k m U W' hi hTW hk, (hk.block _ hs (by omega)).trans hr.1, (hk.block _ (by omega) (by omega)).trans hr.2⟩
    · -- one round
      rintro k m U vs hkN hmU ⟨hi, hr⟩ hTU hVU
      have hs := hlt hr
      have ba := hasg vs U
      have hra : Rec .ready none (asg vs U) := ⟨(ba.block _ hs).trans hr.1, (ba.block _ (by omega)).trans hr.2⟩
      have hsa := hlt hra
      refine ⟨fn, _, assign, body, run_yield (P := Tryz.prog) (args := vs) hr.1 (hps k m vs U hVU), roundIn_of_wpIn hfn (hassign _ k m vs U _ hkN hVU ⟨_, run_beginRound hra.1 rfl, ?_⟩)⟩
      have b1 := hB (asg vs U) (.loop { rec0 .ready none with state := .busy }) _ (by omega) hsa
      have hTa : T (asg vs U) := hT _ _ hTU (ba.mono (by omega))
      have hIa' : I k m (asg vs U) := hIa k m vs U hVU hi
      have hVa' : V k m vs (asg vs U) := hVa k m vs U hVU
      refine wpIn_mono (hbody _ k m vs U _ hkN hmU ?_ (putI .busy none hra hIa') (hT _ _ hTa b1) ?_ ?_ (by omega)) ?_
      · exact hV k m vs _ _ hVa' ⟨rfl, rfl, rfl, psz _ _ _, w.heap.size + 1, _, by omega, hra.1, poth _ _⟩
      · exact psz _ _ _
      · intro i hi
        exact poth _ _ i (by omega)
      have hr1 : Rec .busy none ((asg vs U).putObj (w.heap.size + 1) (.loop { rec0 .ready none with state := .busy })) := put .busy none hra
      have ends : ∀ (jump : Option Code) (V : World), KeepsFrom w.heap.size ((asg vs U).putObj (w.heap.size + 1) (.loop { rec0 .ready none with state := .busy })) V →
          (Instr.endRound (w.heap.size + 1) jump).run Tryz.prog V = .ok (.bool jump.isNone) (V.putObj (w.heap.size + 1) (.loop (rec0 (if jump.isNone then .ready else .done) jump))) ∧
          Rec (if jump.isNone then .ready else .done) jump (V.putObj (w.heap.size + 1) (.loop (rec0 (if jump.isNone then .ready else .done) jump))) ∧ Below w.heap.size V (V.putObj (w.heap.size + 1) (.loop (rec0 (if jump.isNone then .ready else .done) jump))) ∧ Rec .busy none V := fun jump V hk => by
        have hr2 := keep hr1 hk
        exact ⟨run_endRound (P := Tryz.prog) jump hr2.1, put _ _ hr2, hB V _ _ (by omega) (hlt hr2), hr2⟩
      rintro e a3 V hp
      cases e with
      | normal =>
        obtain ⟨hk, ⟨O', hi2, ho2, hst2⟩, ht2⟩ := hp
        obtain ⟨h1, h2, h3, h4⟩ := ends none V hk
        refine ⟨_, _, h1, .inl ⟨rfl, O', ⟨putI _ _ h4 hi2, h2⟩, hT _ _ ht2 h3, fun x hx => ⟨?_, ?_⟩, ?_⟩⟩
        · rcases (ho2 x hx).1 with e | e
          · exact .inl e
          · right
            rw [psz] at e
            have := ba.size
            omega
        · rw [psz]
          exact (ho2 x hx).2
        · have s1 : StayO m (asg vs U) ((asg vs U).putObj (w.heap.size + 1) (.loop { rec0 .ready none with state := .busy })) := .of_putl (B := w.heap.size) ⟨rfl, rfl, rfl, psz _ _ _, w.heap.size + 1, _, Nat.le_succ _, hra.1, poth _ _⟩
          have s2 : StayO m V (V.putObj (w.heap.size + 1) (.loop (rec0 (if (none : Option Code).isNone then .ready else .done) none))) := .of_putl (B := w.heap.size) ⟨rfl, rfl, rfl, psz _ _ _, w.heap.size + 1, _, Nat.le_succ _, h4.1, poth _ _⟩
          exact (((StayO.of_below ba).trans s1).trans hst2).trans s2
      | ret =>
        obtain ⟨hk, hi2⟩ := hp
        obtain ⟨h1, h2, h3, h4⟩ := ends (some .ret) V hk
        exact ⟨_, _, h1, .inr ⟨rfl, .ret, putIx _ _ h4 hi2, h2⟩⟩
      | exit id =>
        obtain ⟨hk, hi2⟩ := hp
        obtain ⟨h1, h2, h3, h4⟩ := ends (some (.exit id)) V hk
        exact ⟨_, _, h1, .inr ⟨rfl, .exit id, putIx _ _ h4 hi2, h2⟩⟩
      | goto t => exact hp.elim
      | panic ch => exact hp.elim
      | outgrown => exact hp.elim
    · -- behind the iterator
      rintro e V ⟨⟨v, rfl⟩, (⟨m, ⟨hi, hr⟩, ht⟩ | ⟨k, hk, c, hi, hr⟩)⟩
      · exact ⟨none, _, run_endLoop (P := Tryz.prog) hr.1 (by simp [rec0]), hdone _ m _ (Nat.le_refl _) (putI .exhausted none hr hi) (hT _ _ ht (hB V _ _ (Nat.le_succ _) (hlt hr))) ((World.putObj_heap_other (by omega)).trans hr.2)⟩
      · exact ⟨some c, _, run_endLoop (P := Tryz.prog) hr.1 (by simp [rec0]), hstop _ c k _ (Nat.le_refl _) hk (putIx .exhausted (some c) hr hi) ((World.putObj_heap_other (by omega)).trans hr.2)⟩

end Go.Proofs.YtaaioaocjfpajaaGreatDoor
end

section
/-
  A pack's names.
-/
namespace Go.Proofs.YtaaioaocjfpajaaGreatDoor
open Go.RowKit Go.Shelf
open Sim (hid)

def idB (z : Int) : Bool := decide (1 ≤ z) && decide (z ≤ 999999)
/-- Is it an id? -/
theorem isID_any (z : Int) (w : World) : Calls Tryz.prog 57 #[.int .i64 z] w fun e w' => e = .returned (.bool (idB z)) ∧ w' = w := by
  by_cases h1 : 1 ≤ z
  · by_cases h2 : z ≤ 999999
    · go_enter Tryz.func57, Tryz.ntmps57
      go_wp2
      go_ret
      exact ⟨by simp [idB, h1, h2], rfl⟩
    · have h2' : 999999 < z := by omega
      go_enter Tryz.func57, Tryz.ntmps57
      go_wp2
      go_ret
      exact ⟨by simp [idB, h1, h2], rfl⟩
  · have h1' : z < 1 := by omega
    go_enter Tryz.func57, Tryz.ntmps57
    go_wp2
    go_ret
    exact ⟨by rw [idB, decide_eq_false (show ¬ 1 ≤ z by omega), Bool.false_and]; rfl, rfl⟩

/-- A name of that sort. -/
def sortB (p : ByteArray) (i : Nat) : ByteArray := p ++ ⟨(Lib.decDigits i).toArray⟩

theorem dec_small (i : Nat) (h : i < 100) : (Lib.decDigits i).length ≤ 2 := by
  by_cases h1 : i < 10
  · rw [Lib.decDigits_one h1]; simp
  · rw [Lib.decDigits_two h1 h]; simp
theorem name_small (p : ByteArray) (hp : p.size ≤ 100) (i : Nat) (h1 : 1 ≤ i) (h2 : i < 100) (w : World) :
    Calls Tryz.prog 33 #[.string p, .int .i64 (i : Int)] w fun e w' => e = .returned (.string (sortB p i)) ∧ w' = w := by
  have hid1 : idB (i : Int) = true := by simp [idB]; omega
  have hd := dec_small i h2
  have hsz : ¬ 9223372036854775807 < p.size + (Lib.decDigits i).length := by omega
  go_enter Tryz.func33, Tryz.ntmps33
  go_wp2_with (first
    | (go_at_call 57; refine (isID_any _ _).mono ?_; rintro e w1 ⟨rfl, h⟩; subst w1; rw [hid1])
    | (go_at_call 58; refine (Any.strconv_Itoa_small Sim.Tryz.itoaS i h2 _).mono ?_; rintro e w1 ⟨rfl, h⟩; subst w1))
  go_ret
  exact ⟨rfl, rfl⟩

def nameP (i : Nat) : ByteArray := sortB ⟨#[112, 97, 99, 107, 46]⟩ i
def nameT (i : Nat) : ByteArray := sortB ⟨#[116, 109, 112, 46]⟩ i

theorem pname_small (i : Nat) (h1 : 1 ≤ i) (h2 : i < 100) (w : World) : Calls Tryz.prog 13 #[.int .i64 (i : Int)] w fun e w' => e = .returned (.string (nameP i)) ∧ w' = w := by
  go_enter Tryz.func13, Tryz.ntmps13
  go_wp2_with (go_at_call 33; refine (name_small _ (by decide) i h1 h2 _).mono ?_; rintro e w1 ⟨rfl, h⟩; subst w1)
  go_ret
  exact ⟨rfl, rfl⟩
theorem ptemp_small (i : Nat) (h1 : 1 ≤ i) (h2 : i < 100) (w : World) : Calls Tryz.prog 56 #[.int .i64 (i : Int)] w fun e w' => e = .returned (.string (nameT i)) ∧ w' = w := by
  go_enter Tryz.func56, Tryz.ntmps56
  go_wp2_with (go_at_call 33; refine (name_small _ (by decide) i h1 h2 _).mono ?_; rintro e w1 ⟨rfl, h⟩; subst w1)
  go_ret
  exact ⟨rfl, rfl⟩

end Go.Proofs.YtaaioaocjfpajaaGreatDoor
end

section
/-
  A pack is begun.
-/
namespace Go.Proofs.YtaaioaocjfpajaaGreatDoor
open Go.RowKit Go.Shelf
open Sim (hid Kp No PS Done Blk nm pCreate finds pBytes)

theorem TabX.kp {L : Nat → Prop} {w w' : World} {b : Nat} (h : TabX w b) (k : Kp L w w') (hb : ¬ L b) : TabX w' b := by
  have hlt := h.lt
  obtain ⟨f, n, hf, ht⟩ := h
  refine ⟨f, n, hf, ?_⟩
  obtain ⟨h1, h2, h3, h4, h5, h6, h7⟩ := ht
  have c : ∀ j, w'.cell? ⟨b, j, none⟩ = w.cell? ⟨b, j, none⟩ := fun j => k.cell (p := ⟨b, j, none⟩) hlt hb
  refine ⟨Nat.lt_of_lt_of_le h1 k.size, (c _).trans h2, (c _).trans h3, (c _).trans h4, fun j hj => ?_, fun e j hj => (c _).trans (h6 e j hj), fun j => (k.frozen (p := ⟨b, j, none⟩) hlt hb).trans (h7 j)⟩
  obtain ⟨x, hx⟩ := h5 j hj
  exact ⟨x, (c _).trans hx⟩
theorem kp_kept {b : Nat} {w w' : World} (k : Crc.Kept b w w') : Kp (fun x => x = b) w w' := ⟨k.os, k.tape, k.output, k.size, fun i hi hL => k.block i hi hL⟩
theorem sys_kept {P : Nat → Prop} {N b s : Nat} {w w' : World} {p : PS} (h : Sim.Sys P N w s p) (k : Crc.Kept b w w') (hb : ¬ P b) : Sim.Sys P N w' s p :=
  h.kp (kp_kept k) (fun x hx => by rw [hx]; exact hb)

/-- A writer's cells. -/
def wrC (s b : Nat) (i sz ct : Int) (cl : Bool) : List Value := [.pointer (some ⟨s, 0, none⟩), .pointer (some ⟨b, 0, none⟩), .int .i64 i, .int .i64 sz, .int .i64 ct, .bool cl]
def WrAt (w : World) (g s b : Nat) (i sz ct : Int) (cl : Bool) : Prop := Blk w g 166 (wrC s b i sz ct cl)

theorem name_le (p : ByteArray) (hp : p.size ≤ 100) (i : Nat) (h : i < 100) : (sortB p i).size ≤ 20000000 := by
  have := dec_small i h
  have e : (sortB p i).size = p.size + (Lib.decDigits i).length := by
    rw [sortB, ByteArray.size_append]
    rfl
  omega

set_option maxHeartbeats 1000000 in
theorem begin_any {P : Nat → Prop} {N : Nat} (w : World) (s b : Nat) (p : PS) (i : Nat) (h1 : 1 ≤ i) (h2 : i < 100) (h : Sim.Sys P N w s p) (hN : N + 1 ≤ 1000) :
    Calls Tryz.prog 53 #[.pointer (some ⟨s, 0, none⟩), .pointer (some ⟨b, 0, none⟩), .int .i64 (i : Int)] w fun e w' =>
      (finds p (nm (nameP i)) = 0 ∧ e = .returned (.tuple #[.pointer none, .int .i64 6]) ∧ Kp No w w') ∨
      (finds p (nm (nameP i)) ≠ 0 ∧ ∃ x, p.files x = none ∧
        (((pCreate (nm (nameT i)) x p).1 ≠ 0 ∧ e = .returned (.tuple #[.pointer none, .int .i64 ((pCreate (nm (nameT i)) x p).1 : Nat)]) ∧ Done P (N + 1) w w' s (pCreate (nm (nameT i)) x p).2) ∨
         ((pCreate (nm (nameT i)) x p).1 = 0 ∧ ∃ g P', e = .returned (.tuple #[.pointer (some ⟨g, 0, none⟩), .int .i64 0]) ∧ WrAt w' g s b i 0 0 false ∧ Sim.Sys P' (N + 1) w' s (pCreate (nm (nameT i)) x p).2 ∧ Kp P w w' ∧ (∀ x, P' x → P x ∨ w.heap.size ≤ x) ∧ ¬ P' g ∧ w.heap.size ≤ g))) := by
  have HID : Hid (∀ V, Calls Tryz.prog 57 #[.int .i64 (i : Int)] V fun e w' => e = .returned (.bool true) ∧ w' = V) := fun V => by
    have h := isID_any (i : Int) V
    rwa [show idB (i : Int) = true from by simp [idB]; omega] at h
  have HNM := hid (fun V => pname_small i h1 h2 V)
  have HTM := hid (fun V => ptemp_small i h1 h2 V)
  have HSZ := hid (Sim.size_any w s p (nameP i) (name_le _ (by decide) i h2) h)
  have HCR := hid (fun V (k : Kp No w V) => Sim.create_any V s p (nameT i) (name_le _ (by decide) i h2) (h.kept k) hN)
  generalize (pBytes (nm (nameP i)) p).length = ln at HSZ
  by_cases h0 : finds p (nm (nameP i)) = 0
  · rw [h0] at HSZ
    go_enter Tryz.func53, Tryz.ntmps53
    go_wp2_with (first
      | (go_at_call 57; refine (HID.out _).mono ?_; rintro e w1 ⟨rfl, h⟩; subst w1)
      | (go_at_call 13; refine (HNM.out _).mono ?_; rintro e w1 ⟨rfl, h⟩; subst w1)
      | (go_at_call 79; refine HSZ.out.mono ?_; rintro e w1 ⟨rfl, h⟩; have HK := hid h; clear h))
    go_ret2
    exact .inl ⟨h0, rfl, HK.out⟩
  · have HF := hid h0
    obtain ⟨F, hF⟩ : ∃ F, finds p (nm (nameP i)) = F := ⟨_, rfl⟩
    rw [hF] at HSZ h0
    have hF0 : ¬ ((F : Int) = 0) := by omega
    clear hF
    go_enter Tryz.func53, Tryz.ntmps53
    go_wp2_with (first
      | (go_at_call 57; refine (HID.out _).mono ?_; rintro e w1 ⟨rfl, h⟩; subst w1)
      | (go_at_call 13; refine (HNM.out _).mono ?_; rintro e w1 ⟨rfl, h⟩; subst w1)
      | (go_at_call 56; refine (HTM.out _).mono ?_; rintro e w2 ⟨rfl, h⟩; subst w2)
      | (go_at_call 79; refine HSZ.out.mono ?_; rintro e w1 ⟨rfl, h⟩; have HK := hid h; clear h))
    refine (HCR.out w1 HK.out).mono ?_
    rintro e w3 ⟨x, hx, rfl, P', hS, hKp, hP'⟩
    have HX := hid (And.intro hx (And.intro hS (And.intro hKp hP')))
    clear hx hS hKp hP'
    by_cases hc : (pCreate (nm (nameT i)) x p).1 = 0
    · have HC := hid hc
      rw [hc]
      clear hc
      go_wp2_with fail
      go_ret2
      obtain ⟨hx, hS, hKp, hP'⟩ := HX.out
      have hk0 := HK.out.size
      have hk1 := hKp.size
      refine .inr ⟨HF.out, x, hx, .inr ⟨HC.out, w3.heap.size, P', rfl, Blk.new w3 166 (wrC s b i 0 0 false), hS.kept ((Kp.refl _ _).alloc _), ?_, fun y hy => ?_, fun hy => ?_, by omega⟩⟩
      · exact (HK.out.ofNo.trans hKp (fun _ hx => .inl hx)).alloc _
      · rcases hP' y hy with h | h
        · exact .inl h
        · right; omega
      · have := hS.lt _ hy; omega
    · have HC := hid hc
      obtain ⟨G, hG⟩ : ∃ G, (pCreate (nm (nameT i)) x p).1 = G := ⟨_, rfl⟩
      have HG := hid hG
      rw [hG] at hc ⊢
      have hG0 : ¬ ((G : Int) = 0) := by omega
      clear hG
      go_wp2_with fail
      go_ret2
      obtain ⟨hx, hS, hKp, hP'⟩ := HX.out
      refine .inr ⟨HF.out, x, hx, .inl ⟨HC.out, by rw [HG.out]; rfl, Done.after ⟨P', hS, hKp, hP'⟩ HK.out⟩⟩
end Go.Proofs.YtaaioaocjfpajaaGreatDoor
end

section
/-
  What is said of no file system, no table, no writer.
-/
namespace Go.Proofs.YtaaioaocjfpajaaGreatDoor
open Go.RowKit Go.Shelf
open Sim (hid Kp No PS Done Blk nm pCreate finds pBytes)
theorem wrongW_any (w : World) (g s b : Nat) (i sz ct : Int) (cl : Bool) (h : WrAt w g s b i sz ct cl) : Calls Tryz.prog 83 #[.pointer (some ⟨g, 0, none⟩)] w fun e w' => e = .returned (.int .i64 (if cl then 13 else 0)) ∧ w' = w := by
  have c0 : w.cell? ⟨g, 0, none⟩ = some (.pointer (some ⟨s, 0, none⟩)) := h.cell 0
  have c5 : w.cell? ⟨g, 5, none⟩ = some (.bool cl) := h.cell 5
  clear h
  cases cl with
  | false =>
    go_enter Tryz.func83, Tryz.ntmps83
    go_wp2
    go_ret
    exact ⟨rfl, rfl⟩
  | true =>
    go_enter Tryz.func83, Tryz.ntmps83
    go_wp2
    go_ret
    exact ⟨rfl, rfl⟩
end Go.Proofs.YtaaioaocjfpajaaGreatDoor
end

section
/-
  Plain mathematics: what a scan is told, frame behind frame.
-/
namespace Go.Proofs.YtaaioaocjfpajaaGreatDoor

/-- What is told: where, and what Take answers there. -/
abbrev Item : Type := Nat × (Int × (Int × List Int × List Int) × Nat)

def toldN : Nat → List Int → Nat → List Item
  | 0, _, _ => []
  | k + 1, xs, p => if xs.length ≤ p then [] else (p, takeF (xs.drop p)) :: if (takeF (xs.drop p)).1 = 0 then toldN k xs (p + (takeF (xs.drop p)).2.2) else []

theorem toldN_fuel : ∀ (k m : Nat) (xs : List Int) (p : Nat), xs.length + 1 - p ≤ k → xs.length + 1 - p ≤ m → toldN k xs p = toldN m xs p
  | 0, m, xs, p, h1, h2 => by
    cases m with
    | zero => rfl
    | succ m => rw [toldN, toldN, if_pos (by omega)]
  | k + 1, 0, xs, p, h1, h2 => by rw [toldN, toldN, if_pos (by omega)]
  | k + 1, m + 1, xs, p, h1, h2 => by
    rw [toldN, toldN]
    by_cases h : xs.length ≤ p
    · rw [if_pos h, if_pos h]
    · rw [if_neg h, if_neg h]
      by_cases h0 : (takeF (xs.drop p)).1 = 0
      · have hp := takeF_pos h0
        rw [if_pos h0, if_pos h0, toldN_fuel k m xs _ (by omega) (by omega)]
      · rw [if_neg h0, if_neg h0]

/-- All that is told from p on. -/
def tl (xs : List Int) (p : Nat) : List Item := toldN (xs.length + 1 - p) xs p

theorem tl_end {xs : List Int} {p : Nat} (h : xs.length ≤ p) : tl xs p = [] := by
  rw [tl]
  cases hq : xs.length + 1 - p with
  | zero => rfl
  | succ k => rw [toldN, if_pos h]
theorem tl_bad {xs : List Int} {p : Nat} (h : p < xs.length) (hf : (takeF (xs.drop p)).1 ≠ 0) : tl xs p = [(p, takeF (xs.drop p))] := by
  rw [tl, show xs.length + 1 - p = (xs.length - p) + 1 by omega, toldN, if_neg (by omega), if_neg hf]
theorem tl_good {xs : List Int} {p : Nat} (h : p < xs.length) (hf : (takeF (xs.drop p)).1 = 0) : tl xs p = (p, takeF (xs.drop p)) :: tl xs (p + (takeF (xs.drop p)).2.2) := by
  have hp := takeF_pos hf
  rw [tl, show xs.length + 1 - p = (xs.length - p) + 1 by omega, toldN, if_neg (by omega), if_pos hf, tl, toldN_fuel (xs.length - p) (xs.length + 1 - (p + (takeF (xs.drop p)).2.2)) xs _ (by omega) (by omega)]
theorem tl_head {xs : List Int} {p : Nat} (h : p < xs.length) : ∃ L, tl xs p = (p, takeF (xs.drop p)) :: L ∧ (((takeF (xs.drop p)).1 = 0 ∧ L = tl xs (p + (takeF (xs.drop p)).2.2)) ∨ ((takeF (xs.drop p)).1 ≠ 0 ∧ L = [])) := by
  by_cases hf : (takeF (xs.drop p)).1 = 0
  · exact ⟨_, tl_good h hf, .inl ⟨hf, rfl⟩⟩
  · exact ⟨_, tl_bad h hf, .inr ⟨hf, rfl⟩⟩

/-- The good ones, where the first that is none begins, and the fault there. -/
def scanR : List Item → Nat → List Item × Nat × Int
  | [], p => ([], p, 0)
  | x :: L, _ => if x.2.1 = 0 then (x :: (scanR L (x.1 + x.2.2.2)).1, (scanR L (x.1 + x.2.2.2)).2) else ([], x.1, x.2.1)

def scanF (xs : List Int) : List Item × Nat × Int := scanR (tl xs 0) 0

theorem tl_length_le (xs : List Int) : ∀ (d p : Nat), xs.length - p ≤ d → (tl xs p).length ≤ xs.length - p
  | 0, p, h => by rw [tl_end (by omega)]; simp
  | d + 1, p, h => by
    by_cases hp : xs.length ≤ p
    · rw [tl_end hp]; simp
    · by_cases hf : (takeF (xs.drop p)).1 = 0
      · have hq := takeF_pos hf
        have := tl_length_le xs d (p + (takeF (xs.drop p)).2.2) (by omega)
        rw [tl_good (by omega) hf, List.length_cons]
        omega
      · rw [tl_bad (by omega) hf]; simp; omega

end Go.Proofs.YtaaioaocjfpajaaGreatDoor
end
