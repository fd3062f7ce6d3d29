/-
  What the reference's Same answers of one tree that lies at two places: true.
-/
import Derived.Test.YtnnanmpogjmkiaaRefs
import Derived.Deep.RegionHeld3
import Derived.Deep.DeepCutAuto
import Derived.Deep.DrawnRows
namespace Go.Proofs.Ytnnanmpogjmkiaa
open Go.RowKit
attribute [local go_sem ↓] Go.wp_at_zero Go.wp_at_succ

def SameOk (n : Nat) : Prop := ∀ (t : Tr n) (S S' : Nat → Prop) (sb sk sb' sk' : Value) (w : World), RepS S w n t sb sk → RepS S' w n t sb' sk' → (∀ b, S b → b < w.heap.size) → (∀ b, S' b → b < w.heap.size) →
  Calls Try.prog 17 #[.agg #[.int .i64 t.hd.1, .int .u64 t.hd.2.1, sb, sk], .agg #[.int .i64 t.hd.1, .int .u64 t.hd.2.1, sb', sk']] w fun e w' => e = .returned (.bool true) ∧ Below w.heap.size w w'

theorem AgreeS.below {S : Nat → Prop} {B : Nat} {w w' : World} (h : Below B w w') (hS : ∀ b, S b → b < B) : AgreeS S w w' := fun b hb => h.block b (hS b hb)

set_option maxHeartbeats 2000000 in
set_option maxRecDepth 100000 in
theorem refSame_any : ∀ n, SameOk n
  | 0 => fun t => by cases t
  | n + 1 => by
    intro t S S' sb sk sb' sk' w h h' hS hS'
    have ih := refSame_any n
    obtain ⟨hn0, hn1, hby, hks⟩ := h
    obtain ⟨_, _, hby', hks'⟩ := h'
    have HB := hid hby
    have HK := hid hks
    have HB' := hid hby'
    have HK' := hid hks'
    have HS := hid hS
    have HS' := hid hS'
    obtain ⟨ab, cb, rfl, hrb⟩ := hby
    obtain ⟨ak, ck, rfl, hrk⟩ := hks
    obtain ⟨ab', cb', rfl, hrb'⟩ := hby'
    obtain ⟨ak', ck', rfl, hrk'⟩ := hks'
    clear hrb hrk hrb' hrk' hS hS'
    have hkl : t.kd.length ≤ 2199023255552 := by obtain ⟨_, _, _, _, _, _, h, _⟩ := HK.out; exact h
    generalize t.kd = ks at *
    generalize t.hd.2.2 = bs at *
    generalize t.hd.2.1 = num at *
    generalize t.hd.1 = tag at *
    have hA : Agree 0 w.heap.size w ((w.alloc (Obj.cells #[Value.int .i64 tag, Value.int .u64 num, Value.slice ab bs.length cb, Value.slice ak ks.length ck] 32)).alloc (Obj.cells #[Value.int .i64 tag, Value.int .u64 num, Value.slice ab' bs.length cb', Value.slice ak' ks.length ck'] 32)) := ((Agree.refl _ _ _).alloc (Nat.le_refl _) _).alloc (by simp) _
    have q1 := hid ((HB.out.to HS.out).agree hA (Nat.le_refl _) (B' := w.heap.size + 1 + 1) (by omega))
    have q2 := hid ((HB'.out.to HS'.out).agree hA (Nat.le_refl _) (B' := w.heap.size + 1 + 1) (by omega))
    clear hA
    go_enter Try.func17, Try.ntmps17
    go_wp2_with fail
    refine (refBytes_any _ _ bs bs _ (by simpa using q1.out) (by simpa using q2.out)).mono ?_
    rintro e w1 ⟨rfl, hb1⟩
    rw [decide_eq_true rfl]
    have hs1 := hb1.size
    simp at hs1
    obtain ⟨hc1, _⟩ := bcell hb1
    have x3 : w1.cell? ⟨w.heap.size, 3, none⟩ = some (.slice ak ks.length ck) := by rw [hc1 _ _ (by simp; omega)]; simp [go_sem]
    have y3 : w1.cell? ⟨w.heap.size + 1, 3, none⟩ = some (.slice ak' ks.length ck') := by rw [hc1 _ _ (by simp)]; simp [go_sem]
    have Hbel : Hid (Below w.heap.size w w1) := (((Below.refl _ _).alloc (Nat.le_refl _) _).alloc (by simp) _).trans (hb1.mono (by simp; omega))
    clear hc1 hb1 q1 q2
    go_wp2_with fail
    go_loopw [5] (fun i wr => ∃ k : Nat, k ≤ ks.length ∧ i = .int .i64 k ∧ Hid (Below w1.heap.size w1 wr)) (fun i _ => ks.length - (intOf i).toNat)
    case atStart => exact ⟨0, Nat.zero_le _, rfl, Below.refl _ _⟩
    case round =>
      obtain ⟨k, hk, rfl, HI⟩ := hrel
      have hws := HI.out.size
      have X3 : wr.cell? ⟨w.heap.size, 3, none⟩ = some (.slice ak ks.length ck) := (HI.out.cell (p := ⟨w.heap.size, 3, none⟩) (by simp; omega)).trans x3
      have Y3 : wr.cell? ⟨w.heap.size + 1, 3, none⟩ = some (.slice ak' ks.length ck') := (HI.out.cell (p := ⟨w.heap.size + 1, 3, none⟩) (by simp; omega)).trans y3
      by_cases hlt : k < ks.length
      · obtain ⟨_, _, ea, _, _, _, _, h7⟩ := HK.out
        simp only [Value.slice.injEq, true_and] at ea
        obtain ⟨rfl, rfl⟩ := ea
        obtain ⟨b, o, rfl, hSb, hc⟩ := h7 (by intro e; subst e; simp at hlt)
        obtain ⟨_, _, ea, _, _, _, _, h7'⟩ := HK'.out
        simp only [Value.slice.injEq, true_and] at ea
        obtain ⟨rfl, rfl⟩ := ea
        obtain ⟨b', o', rfl, hSb', hc'⟩ := h7' (by intro e; subst e; simp at hlt)
        obtain ⟨sb, sk, c0, c1, c2, c3, hrep⟩ := hc k ks[k] (List.getElem?_eq_getElem hlt)
        obtain ⟨sb', sk', c0', c1', c2', c3', hrep'⟩ := hc' k ks[k] (List.getElem?_eq_getElem hlt)
        clear hc hc' h7 h7'
        obtain ⟨a1, l1, p1, a2, l2, p2, rfl, rfl⟩ := hrep.sl
        obtain ⟨a3, l3, p3, a4, l4, p4, rfl, rfl⟩ := hrep'.sl
        have hbw := HS.out b hSb
        have hbw' := HS'.out b' hSb'
        have hbel : Hid (Below w.heap.size w wr) := Hbel.out.trans (HI.out.mono (by omega))
        have hR := hid (hrep.agree (AgreeS.below hbel.out HS.out) (fun _ h => h))
        have hR' := hid (hrep'.agree (AgreeS.below hbel.out HS'.out) (fun _ h => h))
        clear hrep hrep'
        have d0 := (hbel.out.cell (p := ⟨b, o + k * 4, none⟩) hbw).trans c0
        have d1 := (hbel.out.cell (p := ⟨b, o + k * 4 + 1, none⟩) hbw).trans c1
        have d2 := (hbel.out.cell (p := ⟨b, o + k * 4 + 2, none⟩) hbw).trans c2
        have d3 := (hbel.out.cell (p := ⟨b, o + k * 4 + 3, none⟩) hbw).trans c3
        have d0' := (hbel.out.cell (p := ⟨b', o' + k * 4, none⟩) hbw').trans c0'
        have d1' := (hbel.out.cell (p := ⟨b', o' + k * 4 + 1, none⟩) hbw').trans c1'
        have d2' := (hbel.out.cell (p := ⟨b', o' + k * 4 + 2, none⟩) hbw').trans c2'
        have d3' := (hbel.out.cell (p := ⟨b', o' + k * 4 + 3, none⟩) hbw').trans c3'
        clear c0 c1 c2 c3 c0' c1' c2' c3'
        generalize ks[k] = t1 at *
        have hSw : ∀ b, S b → b < wr.drew.heap.size := fun b hb => by have := HS.out b hb; show b < wr.heap.size; omega
        have hSw' : ∀ b, S' b → b < wr.drew.heap.size := fun b hb => by have := HS'.out b hb; show b < wr.heap.size; omega
        have hcall := hid (ih t1 S S' _ _ _ _ wr.drew (RepS.agree (w := wr) (w' := wr.drew) (fun _ _ => rfl) (fun _ h => h) hR.out) (RepS.agree (w := wr) (w' := wr.drew) (fun _ _ => rfl) (fun _ h => h) hR'.out) hSw hSw')
        clear hSw hSw'
        have hkI0 : (0 : Int) ≤ (k : Int) := by omega
        have hkI1 : (k : Int) < (ks.length : Int) := by omega
        go_wp2_with fail
        go_region_with ((go_at_call 17; refine hcall.out.mono ?_; rintro e w2 ⟨rfl, hb2⟩; have HB2 := hid hb2; clear hb2))
        all_goals go_wp2_with fail
        all_goals
          go_roundw
          case rel => exact ⟨k + 1, by omega, by go_num, (HI.out.drew).trans (HB2.out.mono hws)⟩
          case measure => simp [intOf]; omega
      · go_wp2_with fail
        go_ret
        exact ⟨rfl, Hbel.out.trans (HI.out.mono (by omega))⟩

end Go.Proofs.Ytnnanmpogjmkiaa
