/-
  Which records are the same: the program's answer, and the reference's.
-/
import Derived.Test.YthbhdbjjobfchaaFrKit
import Derived.Stop.BytesEq
namespace Go.Proofs.Ythbhdbjjobfchaa
open Go.RowKit
open Tlv (Tr BySlS AgreeS Agree)
open Crc (hid Kept Tab)

theorem wpList_bare {P : Program} {ops : Array Oper} {Q : Exit → Act → World → Prop} {a : Act} {w : World} {rest : List Oper} {dst : Option Tmp} {op : Op} {type : TypeId} {pos : String} {after : Array Edge} {g : Option (Nat × Bool)}
    (hw : Region.wanted ⟨dst, op, type, pos, after, g⟩ (yielded ops a.tmps) = true) (h : wpList P ops Q (⟨dst, op, type, pos, after, none⟩ :: rest) a w) : wpList P ops Q (⟨dst, op, type, pos, after, g⟩ :: rest) a w := by
  unfold wpList at h ⊢
  rw [if_pos hw]
  rw [if_pos (by rfl)] at h
  exact h

theorem cells_u8s (l : List Int) (h : ∀ x ∈ l, 0 ≤ x ∧ x ≤ 255) : (l.map fun x => x.toNat.toUInt8).map Extern.Stop.cell = u8s l := by
  unfold u8s
  rw [List.map_map]
  apply List.map_congr_left
  intro x hx
  have := h x hx
  simp [Extern.Stop.cell]
  omega
theorem map_inj : ∀ (xs ys : List Int), (∀ x ∈ xs, 0 ≤ x ∧ x ≤ 255) → (∀ x ∈ ys, 0 ≤ x ∧ x ≤ 255) → (xs.map fun x => x.toNat.toUInt8) = (ys.map fun x => x.toNat.toUInt8) → xs = ys
  | [], [], _, _, _ => rfl
  | [], _ :: _, _, _, h => by simp at h
  | _ :: _, [], _, _, h => by simp at h
  | x :: xs, y :: ys, h1, h2, h => by
    simp only [List.map_cons, List.cons.injEq] at h
    have hx := h1 x (by simp)
    have hy := h2 y (by simp)
    have e := congrArg UInt8.toNat h.1
    simp at e
    have e2 : x = y := by omega
    rw [e2, map_inj xs ys (fun z hz => h1 z (by simp [hz])) (fun z hz => h2 z (by simp [hz])) h.2]

/-- Two names. -/
theorem eqName (xs ys : List Int) (hx : xs.length = 32) (hy : ys.length = 32) (bx : ∀ x ∈ xs, 0 ≤ x ∧ x ≤ 255) (bY : ∀ x ∈ ys, 0 ≤ x ∧ x ≤ 255) (w : World) :
    (Op.equalIn 10000 23 (.agg (u8s xs).toArray) (.agg (u8s ys).toArray)).run Try.prog w = .ok (decide (xs = ys)) w := by
  have h := run_equalIn_bytes (P := Try.prog) w 9998 23 5 32 Try.underlying23 Try.underlying5 Try.sizeOf5 (xs.map fun x => x.toNat.toUInt8) (ys.map fun x => x.toNat.toUInt8) (by simpa using hx) (by simpa using hy)
  rw [cells_u8s xs bx, cells_u8s ys bY] at h
  have e : ((xs.map fun x => x.toNat.toUInt8) == (ys.map fun x => x.toNat.toUInt8)) = decide (xs = ys) := by
    rw [Bool.eq_iff_iff]
    simp only [beq_iff_eq, decide_eq_true_eq]
    exact ⟨map_inj xs ys bx bY, fun e => by rw [e]⟩
  rw [e] at h
  exact h

/-- Records are the same. -/
def sameR (k k' : Int) (nm nm' bs bs' : List Int) : Bool := decide (k = k') && (decide (nm = nm') && decide (bs = bs'))

set_option maxHeartbeats 2000000 in
set_option maxRecDepth 100000 in
/-- Same. -/
theorem same17_any (k k' : Int) (nm nm' bs bs' : List Int) (v v' : Value) (w : World) (hn : nm.length = 32) (hn' : nm'.length = 32) (hx : ∀ x ∈ nm, 0 ≤ x ∧ x ≤ 255) (hx' : ∀ x ∈ nm', 0 ≤ x ∧ x ≤ 255)
    (hb : Tlv.BySl 0 w.heap.size w v bs) (hb' : Tlv.BySl 0 w.heap.size w v' bs') :
    Calls Try.prog 17 #[.agg (recA k nm v).toArray, .agg (recA k' nm' v').toArray] w fun e w' => e = .returned (.bool (sameR k k' nm nm' bs bs')) ∧ Below w.heap.size w w' := by
  obtain ⟨a, cap, rfl, hr⟩ := id hb
  obtain ⟨a', cap', rfl, hr'⟩ := id hb'
  clear hr hr'
  have HB := hid hb
  have HB' := hid hb'
  have hc0 := recA_0 k nm (.slice a bs.length cap)
  have hc33 := recA_33 k nm (.slice a bs.length cap) hn
  have hd0 := recA_0 k' nm' (.slice a' bs'.length cap')
  have hd33 := recA_33 k' nm' (.slice a' bs'.length cap') hn'
  have HE := hid (fun w => eqName nm nm' hn hn' hx hx' w)
  have HI : Hid ((Try.prog.info? 23).map (·.size) = some (u8s nm).length) := by rw [Hid, u8s_length, hn]; kernel_rfl
  have HI' : Hid ((Try.prog.info? 23).map (·.size) = some (u8s nm').length) := by rw [Hid, u8s_length, hn']; kernel_rfl
  clear hb hb' hn hn' hx hx'
  obtain ⟨C, hC⟩ : ∃ C, recA k nm (.slice a bs.length cap) = C := ⟨_, rfl⟩
  obtain ⟨D, hD⟩ : ∃ D, recA k' nm' (.slice a' bs'.length cap') = D := ⟨_, rfl⟩
  rw [hC] at hc0 hc33
  rw [hD] at hd0 hd33
  rw [hC, hD]
  have HC := hid hC
  have HD := hid hD
  clear hC hD
  have HR := hid (range_new w C 35)
  have HRD := hid (range_new (w.alloc (.cells C.toArray 35)) D 35)
  have hbel : Below w.heap.size w ((w.alloc (.cells C.toArray 35)).alloc (.cells D.toArray 35)) := ((Below.refl _ _).alloc (Nat.le_refl _) _).alloc (by simp) _
  have HBL := hid hbel
  clear hbel
  by_cases hk : k = k'
  · have HK := hid hk
    have hkb : (k == k') = true := by simpa using hk
    clear hk
    obtain ⟨b1, hb1⟩ : ∃ b1, decide (nm = nm') = b1 := ⟨_, rfl⟩
    rw [hb1] at HE
    have heq := HE.out
    have HB1 := hid hb1
    clear hb1 HE
    cases b1 with
    | false =>
      go_enter Try.func17, Try.ntmps17
      go_wp2_with (refine wpList_bare (by rfl) ?_; first
        | (refine wpList_load_mid (by rfl) 23 _ (by rfl) w.heap.size 1 (by rfl) (u8s nm) _ ?hc Try.underlying23 rfl HI.out ?_; (case hc => exact rangeAt_name (k := k) (v := .slice a bs.length cap) (World.rangeAt_alloc (by rw [HC.out]; exact HR.out) _)))
        | (refine wpList_load_mid (by rfl) 23 _ (by rfl) (w.heap.size + 1) 1 (by rfl) (u8s nm') _ ?hc Try.underlying23 rfl HI'.out ?_; (case hc => exact rangeAt_name (k := k') (v := .slice a' bs'.length cap') (by rw [HD.out]; simpa using HRD.out))))
      go_ret
      refine ⟨?_, HBL.out⟩
      have h1 := HB1.out
      rw [sameR, h1]
      simp
    | true =>
      go_enter Try.func17, Try.ntmps17
      go_wp2_with (refine wpList_bare (by rfl) ?_; first
        | (refine wpList_load_mid (by rfl) 23 _ (by rfl) w.heap.size 1 (by rfl) (u8s nm) _ ?hc Try.underlying23 rfl HI.out ?_; (case hc => exact rangeAt_name (k := k) (v := .slice a bs.length cap) (World.rangeAt_alloc (by rw [HC.out]; exact HR.out) _)))
        | (refine wpList_load_mid (by rfl) 23 _ (by rfl) (w.heap.size + 1) 1 (by rfl) (u8s nm') _ ?hc Try.underlying23 rfl HI'.out ?_; (case hc => exact rangeAt_name (k := k') (v := .slice a' bs'.length cap') (by rw [HD.out]; simpa using HRD.out))))
      refine (Tlv.equal_any _ _ bs bs' _ (bySl_lift HB.out HBL.out) (bySl_lift HB'.out HBL.out)).mono ?_
      rintro e w1 ⟨rfl, hw1⟩
      subst hw1
      generalize hdd : decide (bs = bs') = b2
      have HDD := hid hdd
      clear hdd
      go_wp2_with fail
      go_ret
      refine ⟨?_, HBL.out⟩
      have h1 := HB1.out
      have h2 := HDD.out
      have h3 := HK.out
      rw [sameR, h1, h2, h3]
      simp
  · have hkb : (k == k') = false := by simpa using hk
    have HK := hid hk
    clear hk HE
    go_enter Try.func17, Try.ntmps17
    go_wp2_with fail
    go_ret
    refine ⟨?_, HBL.out⟩
    rw [sameR, decide_eq_false HK.out]
    rfl

set_option maxHeartbeats 2000000 in
set_option maxRecDepth 100000 in
/-- The reference's Same. -/
theorem same18_any (k k' : Int) (nm nm' bs bs' : List Int) (v v' : Value) (w : World) (hn : nm.length = 32) (hn' : nm'.length = 32) (hx : ∀ x ∈ nm, 0 ≤ x ∧ x ≤ 255) (hx' : ∀ x ∈ nm', 0 ≤ x ∧ x ≤ 255)
    (hb : Tlv.BySl 0 w.heap.size w v bs) (hb' : Tlv.BySl 0 w.heap.size w v' bs') :
    Calls Try.prog 18 #[.agg (recA k nm v).toArray, .agg (recA k' nm' v').toArray] w fun e w' => e = .returned (.bool (sameR k k' nm nm' bs bs')) ∧ Below w.heap.size w w' := by
  obtain ⟨a, cap, rfl, hr⟩ := id hb
  obtain ⟨a', cap', rfl, hr'⟩ := id hb'
  clear hr hr'
  have HB := hid hb
  have HB' := hid hb'
  have hc0 := recA_0 k nm (.slice a bs.length cap)
  have hc33 := recA_33 k nm (.slice a bs.length cap) hn
  have hd0 := recA_0 k' nm' (.slice a' bs'.length cap')
  have hd33 := recA_33 k' nm' (.slice a' bs'.length cap') hn'
  have HE := hid (fun w => eqName nm nm' hn hn' hx hx' w)
  have HI : Hid ((Try.prog.info? 23).map (·.size) = some (u8s nm).length) := by rw [Hid, u8s_length, hn]; kernel_rfl
  have HI' : Hid ((Try.prog.info? 23).map (·.size) = some (u8s nm').length) := by rw [Hid, u8s_length, hn']; kernel_rfl
  clear hb hb' hn hn' hx hx'
  obtain ⟨C, hC⟩ : ∃ C, recA k nm (.slice a bs.length cap) = C := ⟨_, rfl⟩
  obtain ⟨D, hD⟩ : ∃ D, recA k' nm' (.slice a' bs'.length cap') = D := ⟨_, rfl⟩
  rw [hC] at hc0 hc33
  rw [hD] at hd0 hd33
  rw [hC, hD]
  have HC := hid hC
  have HD := hid hD
  clear hC hD
  have HR := hid (range_new w C 26)
  have HRD := hid (range_new (w.alloc (.cells C.toArray 26)) D 26)
  have hbel : Below w.heap.size w ((w.alloc (.cells C.toArray 26)).alloc (.cells D.toArray 26)) := ((Below.refl _ _).alloc (Nat.le_refl _) _).alloc (by simp) _
  have HBL := hid hbel
  clear hbel
  by_cases hk : k = k'
  · have HK := hid hk
    have hkb : (k == k') = true := by simpa using hk
    clear hk
    obtain ⟨b1, hb1⟩ : ∃ b1, decide (nm = nm') = b1 := ⟨_, rfl⟩
    rw [hb1] at HE
    have heq := HE.out
    have HB1 := hid hb1
    clear hb1 HE
    cases b1 with
    | false =>
      go_enter Try.func18, Try.ntmps18
      go_wp2_with (refine wpList_bare (by rfl) ?_; first
        | (refine wpList_load_mid (by rfl) 23 _ (by rfl) w.heap.size 1 (by rfl) (u8s nm) _ ?hc Try.underlying23 rfl HI.out ?_; (case hc => exact rangeAt_name (k := k) (v := .slice a bs.length cap) (World.rangeAt_alloc (by rw [HC.out]; exact HR.out) _)))
        | (refine wpList_load_mid (by rfl) 23 _ (by rfl) (w.heap.size + 1) 1 (by rfl) (u8s nm') _ ?hc Try.underlying23 rfl HI'.out ?_; (case hc => exact rangeAt_name (k := k') (v := .slice a' bs'.length cap') (by rw [HD.out]; simpa using HRD.out))))
      go_ret
      refine ⟨?_, HBL.out⟩
      have h1 := HB1.out
      rw [sameR, h1]
      simp
    | true =>
      go_enter Try.func18, Try.ntmps18
      go_wp2_with (refine wpList_bare (by rfl) ?_; first
        | (refine wpList_load_mid (by rfl) 23 _ (by rfl) w.heap.size 1 (by rfl) (u8s nm) _ ?hc Try.underlying23 rfl HI.out ?_; (case hc => exact rangeAt_name (k := k) (v := .slice a bs.length cap) (World.rangeAt_alloc (by rw [HC.out]; exact HR.out) _)))
        | (refine wpList_load_mid (by rfl) 23 _ (by rfl) (w.heap.size + 1) 1 (by rfl) (u8s nm') _ ?hc Try.underlying23 rfl HI'.out ?_; (case hc => exact rangeAt_name (k := k') (v := .slice a' bs'.length cap') (by rw [HD.out]; simpa using HRD.out))))
      refine (Tlv.refBytes_any _ _ bs bs' _ (bySl_lift HB.out HBL.out) (bySl_lift HB'.out HBL.out)).mono ?_
      rintro e w1 ⟨rfl, hw1⟩
      have HW1 := hid hw1
      clear hw1
      generalize hdd : decide (bs = bs') = b2
      have HDD := hid hdd
      clear hdd
      go_wp2_with fail
      go_ret
      refine ⟨?_, HBL.out.trans (HW1.out.mono (by simp; omega))⟩
      have h1 := HB1.out
      have h2 := HDD.out
      have h3 := HK.out
      rw [sameR, h1, h2, h3]
      simp
  · have hkb : (k == k') = false := by simpa using hk
    have HK := hid hk
    clear hk HE
    go_enter Try.func18, Try.ntmps18
    go_wp2_with fail
    go_ret
    refine ⟨?_, HBL.out⟩
    rw [sameR, decide_eq_false HK.out]
    rfl

end Go.Proofs.Ythbhdbjjobfchaa
