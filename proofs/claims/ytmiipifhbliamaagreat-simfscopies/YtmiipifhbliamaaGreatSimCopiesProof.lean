/-
  It is proved that SimfsCopies returns true for every input, and leaves each argument as it read: the statement 'Rows.SimfsCopiesSaid', under no condition of its own.
-/
import Derived.Test.YtmiipifhbliamaaGreatRows
import Derived.Test.YtmiipifhbliamaaGreatSimCopies
import Derived.WalkKit
import Derived.ProofKit
import Derived.OpenShut
import Derived.ShutString
import Derived.ChangeOld
import Derived.Below
namespace Go.Proofs.YtmiipifhbliamaaGreat.simfsCopies
open Go.ChangeShapes Go.WideShapes Go.ChangeAt Go.RowKit
open Go.ChangeMaps (open_string shut_string)
open Go.Proofs.YtmiipifhbliamaaGreat.Sim

theorem own : ownKnob Tryz.prog.godebug = none := by kernel_rfl
theorem laidOut : laidOutB Tryz.prog = true := by kernel_rfl

set_option maxHeartbeats 1000000 in
/-- Many are not light. -/
theorem light_long (a : Option Addr) (L cap : Nat) (w : World) (h1 : 20 < (L : Int)) (_hL : L ≤ 9223372036854775807) :
    Calls Tryz.prog 5 #[.slice a L cap, .int .i64 20] w fun e w' => e = .returned (.bool false) ∧ w' = w := by
  go_enter Tryz.func5, Tryz.ntmps5
  go_wp2
  go_ret
  exact ⟨rfl, rfl⟩
theorem light_all (a : Option Addr) (cap : Nat) (ts : List RawOp) (w : World) (hm : ts.length ≤ 9223372036854775807) (h : Ops w a ts) :
    Calls Tryz.prog 5 #[.slice a ts.length cap, .int .i64 20] w fun e w' => e = .returned (.bool (lightB 20 ts)) ∧ w' = w := by
  by_cases hl : 20 < (ts.length : Int)
  · have : lightB 20 ts = false := by rw [lightB, decide_eq_false (by omega), Bool.false_and]
    rw [this]
    exact light_long a ts.length cap w hl hm
  · exact light_any a cap ts 20 (by omega) w (by omega) h

set_option maxHeartbeats 2000000 in
set_option maxRecDepth 100000 in
theorem dark1 (a : Option Addr) (L cap : Nat) (a2 : Option Addr) (L2 cap2 : Nat) (w : World)
    (h : Calls Tryz.prog 5 #[.slice a L cap, .int .i64 20] w fun e w' => e = .returned (.bool false) ∧ w' = w) :
    Calls Tryz.prog 4 #[.slice a L cap, .slice a2 L2 cap2] w fun e w' => e = .returned (.bool true) ∧ Below w.heap.size w w' := by
  have H := hid h
  clear h
  go_enter Tryz.func4, Tryz.ntmps4
  go_wp2_with fail
  refine H.out.mono ?_
  rintro e w0 ⟨rfl, hw0⟩
  rw [hw0]
  clear hw0 w0 H
  go_wp2_with fail
  refine (alive_any w).mono ?_
  rintro e w1 ⟨rfl, hk⟩
  have HK := hid hk
  clear hk
  go_wp2
  go_ret
  exact ⟨rfl, HK.out.toBelow'⟩
set_option maxHeartbeats 2000000 in
set_option maxRecDepth 100000 in
theorem dark2 (a : Option Addr) (L cap : Nat) (a2 : Option Addr) (L2 cap2 : Nat) (w : World)
    (h : Calls Tryz.prog 5 #[.slice a L cap, .int .i64 20] w fun e w' => e = .returned (.bool true) ∧ w' = w)
    (h2 : Calls Tryz.prog 5 #[.slice a2 L2 cap2, .int .i64 20] w fun e w' => e = .returned (.bool false) ∧ w' = w) :
    Calls Tryz.prog 4 #[.slice a L cap, .slice a2 L2 cap2] w fun e w' => e = .returned (.bool true) ∧ Below w.heap.size w w' := by
  have H := hid h
  have H2 := hid h2
  clear h h2
  go_enter Tryz.func4, Tryz.ntmps4
  go_wp2_with fail
  refine H.out.mono ?_
  rintro e w0 ⟨rfl, hw0⟩
  rw [hw0]
  clear hw0 w0 H
  go_wp2_with fail
  refine H2.out.mono ?_
  rintro e w0 ⟨rfl, hw0⟩
  rw [hw0]
  clear hw0 w0 H2
  go_wp2_with fail
  refine (alive_any w).mono ?_
  rintro e w1 ⟨rfl, hk⟩
  have HK := hid hk
  clear hk
  go_wp2
  go_ret
  exact ⟨rfl, HK.out.toBelow'⟩

theorem walk (a : Option Addr) (cap : Nat) (ts : List RawOp) (a2 : Option Addr) (cap2 : Nat) (us : List RawOp) (w : World) (hm1 : ts.length ≤ 9223372036854775807) (hm2 : us.length ≤ 9223372036854775807) (h1 : Ops w a ts) (h2 : Ops w a2 us) :
    Calls Tryz.prog 4 #[.slice a ts.length cap, .slice a2 us.length cap2] w fun e w' => e = .returned (.bool true) ∧ Below w.heap.size w w' := by
  have l1 := light_all a cap ts w hm1 h1
  have l2 := light_all a2 cap2 us w hm2 h2
  cases g1 : lightB 20 ts with
  | false => rw [g1] at l1; exact dark1 a _ cap a2 _ cap2 w l1
  | true =>
    rw [g1] at l1
    cases g2 : lightB 20 us with
    | false => rw [g2] at l2; exact dark2 a _ cap a2 _ cap2 w l1 l2
    | true =>
      refine (copies_main a cap ts a2 cap2 us w h1 h2 g1 g2).mono ?_
      rintro e w' ⟨rfl, k⟩
      exact ⟨rfl, Kp.toBelow k (fun x hx => by omega)⟩

/-! ### THE ROW's STEP: WRITTEN OUT: LEAVE IT -/
set_option maxRecDepth 100000 in
theorem lifted (os : Os) (started : os.Started) (H : Type) (enc : TypeId × Value → H) :
    ReturnsInHanded {} Tryz.checked os 4 .any (Rows.simfsCopiesSpec.pre6 enc Tryz.prog Tryz.f4 Rows.simfsCopiesRow.domain false) (Rows.simfsCopiesSpec.post enc Tryz.prog Tryz.f4 false true false false) := by
  refine returnsInHanded_of_change (C := Tryz.checked) own started (by kernel_rfl) Tryz.func4
    (ChangeSpec.witness6 (enc := enc) (C := Tryz.checked) false ⟨#[], #[.slice none 0 0, .slice none 0 0], []⟩ 8 (by kernel_rfl) (by kernel_rfl) (by kernel_rfl) (by kernel_rfl)) ?_
  intro W base args ds gs before hval0 hW hcnd _
  have hval : ∀ (j : Nat) t v, Tryz.f4.params[j]? = some t → args[j]? = some v → Value.okWide Tryz.prog W .any base t v := hval0
  have hW' := hW
  obtain ⟨p, q, hA0, hV, rfl, hfz, hnd⟩ := hW
  have hA : DataW.TrodAll enc Tryz.prog W 0 (fun _ => true) true Tryz.f4.params.toList args.toList ds p := hA0
  rw [Tryz.params4] at hA hval
  obtain ⟨v0, vs0, d0, ds0, p0, q0, hargs, rfl, rfl, h0, r0⟩ := trodAll_cons hA
  obtain ⟨v1, vs1, d1, ds1, p1, q1, rfl, rfl, rfl, h1, r1⟩ := trodAll_cons r0
  obtain ⟨rfl, rfl, rfl⟩ := trodAll_nil r1
  obtain rfl : args = #[v0, v1] := by cases args; simp_all
  obtain ⟨rfl, rfl⟩ := trodVars_none hV
  obtain ⟨a0, len0, cap0, rfl⟩ := okWide_slice Tryz.underlying22 (hval 0 22 v0 rfl rfl)
  obtain ⟨a1, len1, cap1, rfl⟩ := okWide_slice Tryz.underlying22 (hval 1 22 v1 rfl rfl)
  have k0 := h0
  have k1 := h1
  have lt0 : ∀ x ∈ p0, x.block < W.heap.size := by obtain ⟨m, hm⟩ := k0; exact DataW.trod_lt m _ _ _ hm
  have lt1 : ∀ x ∈ p1, x.block < W.heap.size := by obtain ⟨m, hm⟩ := k1; exact DataW.trod_lt m _ _ _ hm
  obtain ⟨hm0, ts, hts, w0⟩ : len0 ≤ maxLen ∧ ∃ ts : List RawOp, ts.length = len0 ∧ Ops W a0 ts := by
    obtain ⟨fuel, hf⟩ := h0
    exact ops_of hf
  obtain ⟨hm1, us, hus, w1⟩ : len1 ≤ maxLen ∧ ∃ ts : List RawOp, ts.length = len1 ∧ Ops W a1 ts := by
    obtain ⟨fuel, hf⟩ := h1
    exact ops_of hf
  subst hts hus
  clear hA0 hval0
  refine (walk a0 cap0 ts a1 cap1 us W (by unfold maxLen at hm0; omega) (by unfold maxLen at hm1; omega) w0 w1).mono fun e W' ⟨he, bel⟩ => ?_
  subst he
  exact ⟨_, rfl, _, _, _, [], _, [], hW', trodAll_mk1 (shut_bool Tryz.underlying4 _), (trodAll_cons_mk (Below.trod laidOut (by kernel_rfl) (of_decide_eq_true (by kernel_rfl)) k0 bel lt0) (trodAll_cons_mk (Below.trod laidOut (by kernel_rfl) (of_decide_eq_true (by kernel_rfl)) k1 bel lt1) trodAll_mk0)), rfl, bel.frame _, fun h => by cases h⟩

theorem over : Rows.simfsCopiesRow.holds Tryz.pinned (OpenSpec.ofChange Rows.simfsCopiesSpec) :=
  OpenClaim.holds_of_wide 4 Tryz.f4 rfl rfl rfl rfl rfl rfl rfl ⟨rfl, rfl, rfl, rfl, rfl⟩ rfl rfl rfl rfl rfl (by kernel_rfl) Tryz.func4 (by kernel_rfl)
    (of_decide_eq_true (by kernel_rfl)) (by unfold Func.isWrapper; first | (rw [if_pos (by decide +kernel)]; kernel_rfl) | (rw [if_neg (by decide +kernel)]; exact ⟨rfl, rfl⟩))
    (fun os started H enc _ => lifted os started H enc)

end Go.Proofs.YtmiipifhbliamaaGreat.simfsCopies
namespace Go.Proofs.YtmiipifhbliamaaGreat
theorem copies_holds : Rows.SimfsCopiesSaid := simfsCopies.over
#print axioms copies_holds
end Go.Proofs.YtmiipifhbliamaaGreat
