/-
  It is proved that SimfsSafe returns true for every input, and leaves each argument as it read: the statement 'Rows.SimfsSafeSaid', under no condition of its own.
-/
import Derived.Test.YtcfebhgmbfaahaaRows
import Derived.Test.YtcfebhgmbfaahaaSimSafe
import Derived.WalkKit
import Derived.ProofKit
import Derived.OpenShut
import Derived.ShutString
import Derived.ChangeOld
import Derived.Below
namespace Go.Proofs.Ytcfebhgmbfaahaa.simfsSafe
open Go.ChangeShapes Go.WideShapes Go.ChangeAt Go.RowKit
open Go.ChangeMaps (open_string shut_string)
open Go.Proofs.Ytcfebhgmbfaahaa.Sim

theorem own : ownKnob Try.prog.godebug = none := by kernel_rfl
theorem laidOut : laidOutB Try.prog = true := by kernel_rfl

set_option maxHeartbeats 1000000 in
/-- Many are not light. -/
theorem light_long (a : Option Addr) (L cap : Nat) (w : World) (h1 : 20 < (L : Int)) (_hL : L ≤ 9223372036854775807) :
    Calls Try.prog 5 #[.slice a L cap, .int .i64 20] w fun e w' => e = .returned (.bool false) ∧ w' = w := by
  go_enter Try.func5, Try.ntmps5
  go_wp2
  go_ret
  exact ⟨rfl, rfl⟩
theorem light_all (a : Option Addr) (cap : Nat) (ts : List RawOp) (w : World) (hm : ts.length ≤ 9223372036854775807) (h : Ops w a ts) :
    Calls Try.prog 5 #[.slice a ts.length cap, .int .i64 20] w fun e w' => e = .returned (.bool (lightB 20 ts)) ∧ w' = w := by
  by_cases hl : 20 < (ts.length : Int)
  · have : lightB 20 ts = false := by rw [lightB, decide_eq_false (by omega), Bool.false_and]
    rw [this]
    exact light_long a ts.length cap w hl hm
  · exact light_any a cap ts 20 (by omega) w (by omega) h
set_option maxHeartbeats 1000000 in
theorem name_long (s : ByteArray) (h : 40 < (s.size : Int)) (hm : (s.size : Int) ≤ 9223372036854775807) (w : World) : Calls Try.prog 6 #[.string s] w fun e w' => e = .returned (.bool false) ∧ Kp No w w' := by
  have h1 : ¬ ((s.size : Int) < 1) := by omega
  go_enter Try.func6, Try.ntmps6
  go_wp2
  go_ret
  exact ⟨rfl, Kp.refl _ _⟩

set_option maxHeartbeats 2000000 in
set_option maxRecDepth 100000 in
theorem dark1 (a : Option Addr) (L cap : Nat) (n : ByteArray) (va : Option Addr) (vl vc : Nat) (a2 : Option Addr) (L2 cap2 : Nat) (z : Int) (ca : Option Addr) (cl' cc : Nat) (w : World)
    (h : Calls Try.prog 5 #[.slice a L cap, .int .i64 20] w fun e w' => e = .returned (.bool false) ∧ w' = w) :
    Calls Try.prog 3 #[.slice a L cap, .string n, .slice va vl vc, .slice a2 L2 cap2, .int .i64 z, .slice ca cl' cc] w fun e w' => e = .returned (.bool true) ∧ Below w.heap.size w w' := by
  have H := hid h
  clear h
  go_enter Try.func3, Try.ntmps3
  go_wp2_with fail
  refine H.out.mono ?_
  rintro e w0 ⟨rfl, hw0⟩
  rw [hw0]
  clear hw0 w0 H
  go_wp2_with fail
  refine (alive_any w).mono ?_
  rintro e w1 ⟨rfl, hk⟩
  have HK := hid hk
  clear hk
  go_wp2
  go_ret
  exact ⟨rfl, HK.out.toBelow'⟩
set_option maxHeartbeats 2000000 in
set_option maxRecDepth 100000 in
theorem dark2 (a : Option Addr) (L cap : Nat) (n : ByteArray) (va : Option Addr) (vl vc : Nat) (a2 : Option Addr) (L2 cap2 : Nat) (z : Int) (ca : Option Addr) (cl' cc : Nat) (w : World)
    (h : Calls Try.prog 5 #[.slice a L cap, .int .i64 20] w fun e w' => e = .returned (.bool true) ∧ w' = w)
    (h2 : Calls Try.prog 5 #[.slice a2 L2 cap2, .int .i64 20] w fun e w' => e = .returned (.bool false) ∧ w' = w) :
    Calls Try.prog 3 #[.slice a L cap, .string n, .slice va vl vc, .slice a2 L2 cap2, .int .i64 z, .slice ca cl' cc] w fun e w' => e = .returned (.bool true) ∧ Below w.heap.size w w' := by
  have H := hid h
  have H2 := hid h2
  clear h h2
  go_enter Try.func3, Try.ntmps3
  go_wp2_with fail
  refine H.out.mono ?_
  rintro e w0 ⟨rfl, hw0⟩
  rw [hw0]
  clear hw0 w0 H
  go_wp2_with fail
  refine H2.out.mono ?_
  rintro e w0 ⟨rfl, hw0⟩
  rw [hw0]
  clear hw0 w0 H2
  go_wp2_with fail
  refine (alive_any w).mono ?_
  rintro e w1 ⟨rfl, hk⟩
  have HK := hid hk
  clear hk
  go_wp2
  go_ret
  exact ⟨rfl, HK.out.toBelow'⟩
set_option maxHeartbeats 2000000 in
set_option maxRecDepth 100000 in
theorem dark3 (a : Option Addr) (L cap : Nat) (n : ByteArray) (va : Option Addr) (vl vc : Nat) (a2 : Option Addr) (L2 cap2 : Nat) (z : Int) (ca : Option Addr) (cl' cc : Nat) (w : World)
    (h : Calls Try.prog 5 #[.slice a L cap, .int .i64 20] w fun e w' => e = .returned (.bool true) ∧ w' = w)
    (h2 : Calls Try.prog 5 #[.slice a2 L2 cap2, .int .i64 20] w fun e w' => e = .returned (.bool true) ∧ w' = w)
    (h3 : 200 < (vl : Int) ∨ (¬ 200 < (vl : Int) ∧ 60 < (cl' : Int))) (_hv : (vl : Int) ≤ 9223372036854775807) (_hc : (cl' : Int) ≤ 9223372036854775807) :
    Calls Try.prog 3 #[.slice a L cap, .string n, .slice va vl vc, .slice a2 L2 cap2, .int .i64 z, .slice ca cl' cc] w fun e w' => e = .returned (.bool true) ∧ Below w.heap.size w w' := by
  have H := hid h
  have H2 := hid h2
  clear h h2
  rcases h3 with h3 | ⟨h3, h4⟩
  · go_enter Try.func3, Try.ntmps3
    go_wp2_with fail
    refine H.out.mono ?_
    rintro e w0 ⟨rfl, hw0⟩
    rw [hw0]
    clear hw0 w0 H
    go_wp2_with fail
    refine H2.out.mono ?_
    rintro e w0 ⟨rfl, hw0⟩
    rw [hw0]
    clear hw0 w0 H2
    go_wp2_with fail
    refine (alive_any w).mono ?_
    rintro e w1 ⟨rfl, hk⟩
    have HK := hid hk
    clear hk
    go_wp2
    go_ret
    exact ⟨rfl, HK.out.toBelow'⟩
  · go_enter Try.func3, Try.ntmps3
    go_wp2_with fail
    refine H.out.mono ?_
    rintro e w0 ⟨rfl, hw0⟩
    rw [hw0]
    clear hw0 w0 H
    go_wp2_with fail
    refine H2.out.mono ?_
    rintro e w0 ⟨rfl, hw0⟩
    rw [hw0]
    clear hw0 w0 H2
    go_wp2_with fail
    refine (alive_any w).mono ?_
    rintro e w1 ⟨rfl, hk⟩
    have HK := hid hk
    clear hk
    go_wp2
    go_ret
    exact ⟨rfl, HK.out.toBelow'⟩
set_option maxHeartbeats 2000000 in
set_option maxRecDepth 100000 in
theorem dark5 (a : Option Addr) (L cap : Nat) (n : ByteArray) (va : Option Addr) (vl vc : Nat) (a2 : Option Addr) (L2 cap2 : Nat) (z : Int) (ca : Option Addr) (cl' cc : Nat) (w : World)
    (h : Calls Try.prog 5 #[.slice a L cap, .int .i64 20] w fun e w' => e = .returned (.bool true) ∧ w' = w)
    (h2 : Calls Try.prog 5 #[.slice a2 L2 cap2, .int .i64 20] w fun e w' => e = .returned (.bool true) ∧ w' = w)
    (h3 : ¬ 200 < (vl : Int)) (h4 : ¬ 60 < (cl' : Int)) (h5 : Calls Try.prog 6 #[.string n] w fun e w' => e = .returned (.bool false) ∧ Kp No w w') :
    Calls Try.prog 3 #[.slice a L cap, .string n, .slice va vl vc, .slice a2 L2 cap2, .int .i64 z, .slice ca cl' cc] w fun e w' => e = .returned (.bool true) ∧ Below w.heap.size w w' := by
  have H := hid h
  have H2 := hid h2
  have H5 := hid h5
  clear h h2 h5
  go_enter Try.func3, Try.ntmps3
  go_wp2_with fail
  refine H.out.mono ?_
  rintro e w0 ⟨rfl, hw0⟩
  rw [hw0]
  clear hw0 w0 H
  go_wp2_with fail
  refine H2.out.mono ?_
  rintro e w0 ⟨rfl, hw0⟩
  rw [hw0]
  clear hw0 w0 H2
  go_wp2_with fail
  refine H5.out.mono ?_
  rintro e w0 ⟨rfl, hk0⟩
  have HK0 := hid hk0
  clear hk0 H5
  go_wp2_with fail
  refine (alive_any w0).mono ?_
  rintro e w1 ⟨rfl, hk⟩
  have HK := hid (HK0.out.andNone hk)
  clear hk
  go_wp2
  go_ret
  exact ⟨rfl, HK.out.toBelow'⟩

theorem walk (a : Option Addr) (cap : Nat) (ts : List RawOp) (n : ByteArray) (va : Option Addr) (vl vc : Nat) (a2 : Option Addr) (cap2 : Nat) (us : List RawOp) (z : Int) (ca : Option Addr) (cl' cc : Nat) (w : World) (hm1 : ts.length ≤ 9223372036854775807) (hm2 : us.length ≤ 9223372036854775807) (hn : n.size ≤ 9223372036854775807)
    (h1 : Ops w a ts) (h2 : Ops w a2 us) (hb : InR .u8 w va vl vc) (hc : InR .i64 w ca cl' cc) :
    Calls Try.prog 3 #[.slice a ts.length cap, .string n, .slice va vl vc, .slice a2 us.length cap2, .int .i64 z, .slice ca cl' cc] w fun e w' => e = .returned (.bool true) ∧ Below w.heap.size w w' := by
  have l1 := light_all a cap ts w hm1 h1
  have l2 := light_all a2 cap2 us w hm2 h2
  have hbl := hb.le
  have hcl := hc.le
  cases g1 : lightB 20 ts with
  | false => rw [g1] at l1; exact dark1 a _ cap n va vl vc a2 _ cap2 z ca cl' cc w l1
  | true =>
    rw [g1] at l1
    cases g2 : lightB 20 us with
    | false => rw [g2] at l2; exact dark2 a _ cap n va vl vc a2 _ cap2 z ca cl' cc w l1 l2
    | true =>
      rw [g2] at l2
      by_cases g3 : 200 < (vl : Int) ∨ (¬ 200 < (vl : Int) ∧ 60 < (cl' : Int))
      · exact dark3 a _ cap n va vl vc a2 _ cap2 z ca cl' cc w l1 l2 g3 (by omega) (by omega)
      · have g4 : ¬ 200 < (vl : Int) := fun h => g3 (.inl h)
        have g5 : ¬ 60 < (cl' : Int) := fun h => g3 (.inr ⟨g4, h⟩)
        by_cases g6 : 40 < (n.size : Int)
        · exact dark5 a _ cap n va vl vc a2 _ cap2 z ca cl' cc w l1 l2 g4 g5 (name_long n g6 (by omega) w)
        · have hns : n.size ≤ 1000000 := by omega
          cases g7 : nameB (nm n) with
          | false =>
            have := pNameS_any n hns w
            rw [g7] at this
            exact dark5 a _ cap n va vl vc a2 _ cap2 z ca cl' cc w l1 l2 g4 g5 this
          | true =>
            obtain ⟨bs, rfl, hby⟩ := hb.bytes (by omega)
            obtain ⟨cuts, rfl, hin⟩ := hc.ints (by omega)
            refine (safe_main a cap ts n va vc bs a2 cap2 us z ca cc cuts w h1 h2 g1 g2 hby (by omega) hin (by omega) g7 hns).mono ?_
            rintro e w' ⟨rfl, k⟩
            exact ⟨rfl, Kp.toBelow k (fun x hx => by omega)⟩

/-! ### THE ROW's STEP: WRITTEN OUT: LEAVE IT -/
set_option maxRecDepth 100000 in
theorem lifted (os : Os) (started : os.Started) (H : Type) (enc : TypeId × Value → H) :
    ReturnsInHanded {} Try.checked os 3 .any (Rows.simfsSafeSpec.pre6 enc Try.prog Try.f3 Rows.simfsSafeRow.domain false) (Rows.simfsSafeSpec.post enc Try.prog Try.f3 false true false false) := by
  refine returnsInHanded_of_change (C := Try.checked) own started (by kernel_rfl) Try.func3
    (ChangeSpec.witness6 (enc := enc) (C := Try.checked) false ⟨#[], #[.slice none 0 0, .string ⟨#[]⟩, .slice none 0 0, .slice none 0 0, .int .i64 0, .slice none 0 0], []⟩ 8 (by kernel_rfl) (by kernel_rfl) (by kernel_rfl) (by kernel_rfl)) ?_
  intro W base args ds gs before hval0 hW hcnd _
  have hval : ∀ (j : Nat) t v, Try.f3.params[j]? = some t → args[j]? = some v → Value.okWide Try.prog W .any base t v := hval0
  have hW' := hW
  obtain ⟨p, q, hA0, hV, rfl, hfz, hnd⟩ := hW
  have hA : DataW.TrodAll enc Try.prog W 0 (fun _ => true) true Try.f3.params.toList args.toList ds p := hA0
  rw [Try.params3] at hA hval
  obtain ⟨v0, vs0, d0, ds0, p0, q0, hargs, rfl, rfl, h0, r0⟩ := trodAll_cons hA
  obtain ⟨v1, vs1, d1, ds1, p1, q1, rfl, rfl, rfl, h1, r1⟩ := trodAll_cons r0
  obtain ⟨v2, vs2, d2, ds2, p2, q2, rfl, rfl, rfl, h2, r2⟩ := trodAll_cons r1
  obtain ⟨v3, vs3, d3, ds3, p3, q3, rfl, rfl, rfl, h3, r3⟩ := trodAll_cons r2
  obtain ⟨v4, vs4, d4, ds4, p4, q4, rfl, rfl, rfl, h4, r4⟩ := trodAll_cons r3
  obtain ⟨v5, vs5, d5, ds5, p5, q5, rfl, rfl, rfl, h5, r5⟩ := trodAll_cons r4
  obtain ⟨rfl, rfl, rfl⟩ := trodAll_nil r5
  obtain rfl : args = #[v0, v1, v2, v3, v4, v5] := by cases args; simp_all
  obtain ⟨rfl, rfl⟩ := trodVars_none hV
  obtain ⟨a0, len0, cap0, rfl⟩ := okWide_slice Try.underlying22 (hval 0 22 v0 rfl rfl)
  obtain ⟨a1, rfl, rfl, rfl, w1⟩ := open_string Try.underlying9 (hval 1 9 v1 rfl rfl) h1
  obtain ⟨a2, len2, cap2, rfl⟩ := okWide_slice Try.underlying23 (hval 2 23 v2 rfl rfl)
  obtain ⟨a3, len3, cap3, rfl⟩ := okWide_slice Try.underlying22 (hval 3 22 v3 rfl rfl)
  obtain ⟨a4, rfl, rfl, rfl, w4⟩ := open_int Try.underlying3 (hval 4 3 v4 rfl rfl) h4
  obtain ⟨a5, len5, cap5, rfl⟩ := okWide_slice Try.underlying24 (hval 5 24 v5 rfl rfl)
  have k0 := h0
  have k2 := h2
  have k3 := h3
  have k5 := h5
  have lt0 : ∀ x ∈ p0, x.block < W.heap.size := by obtain ⟨m, hm⟩ := k0; exact DataW.trod_lt m _ _ _ hm
  have lt2 : ∀ x ∈ p2, x.block < W.heap.size := by obtain ⟨m, hm⟩ := k2; exact DataW.trod_lt m _ _ _ hm
  have lt3 : ∀ x ∈ p3, x.block < W.heap.size := by obtain ⟨m, hm⟩ := k3; exact DataW.trod_lt m _ _ _ hm
  have lt5 : ∀ x ∈ p5, x.block < W.heap.size := by obtain ⟨m, hm⟩ := k5; exact DataW.trod_lt m _ _ _ hm
  obtain ⟨hm0, ts, hts, w0⟩ : len0 ≤ maxLen ∧ ∃ ts : List RawOp, ts.length = len0 ∧ Ops W a0 ts := by
    obtain ⟨fuel, hf⟩ := h0
    exact ops_of hf
  obtain ⟨hm3, us, hus, w3⟩ : len3 ≤ maxLen ∧ ∃ ts : List RawOp, ts.length = len3 ∧ Ops W a3 ts := by
    obtain ⟨fuel, hf⟩ := h3
    exact ops_of hf
  have w2 : InR .u8 W a2 len2 cap2 := by
    obtain ⟨fuel, hf⟩ := h2
    obtain ⟨a, l, c, e, hin⟩ := in_of Try.underlying23 Try.underlying5 (by kernel_rfl) hf
    simp only [Value.cells, List.cons.injEq, Value.slice.injEq, and_true] at e
    obtain ⟨rfl, rfl, rfl⟩ := e
    exact hin
  have w5 : InR .i64 W a5 len5 cap5 := by
    obtain ⟨fuel, hf⟩ := h5
    obtain ⟨a, l, c, e, hin⟩ := in_of Try.underlying24 Try.underlying3 (by kernel_rfl) hf
    simp only [Value.cells, List.cons.injEq, Value.slice.injEq, and_true] at e
    obtain ⟨rfl, rfl, rfl⟩ := e
    exact hin
  subst hts hus
  clear hA0 hval0
  refine (walk a0 cap0 ts a1 a2 len2 cap2 a3 cap3 us a4 a5 len5 cap5 W (by unfold maxLen at hm0; omega) (by unfold maxLen at hm3; omega) (by unfold maxLen at w1; omega) w0 w3 w2 w5).mono fun e W' ⟨he, bel⟩ => ?_
  subst he
  exact ⟨_, rfl, _, _, _, [], _, [], hW', trodAll_mk1 (shut_bool Try.underlying4 _), (trodAll_cons_mk (Below.trod laidOut (by kernel_rfl) (of_decide_eq_true (by kernel_rfl)) k0 bel lt0) (trodAll_cons_mk (shut_string Try.underlying9 w1) (trodAll_cons_mk (Below.trod laidOut (by kernel_rfl) (of_decide_eq_true (by kernel_rfl)) k2 bel lt2) (trodAll_cons_mk (Below.trod laidOut (by kernel_rfl) (of_decide_eq_true (by kernel_rfl)) k3 bel lt3) (trodAll_cons_mk (shut_int Try.underlying3 w4) (trodAll_cons_mk (Below.trod laidOut (by kernel_rfl) (of_decide_eq_true (by kernel_rfl)) k5 bel lt5) trodAll_mk0)))))), rfl, bel.frame _, fun h => by cases h⟩

theorem over : Rows.simfsSafeRow.holds Try.pinned (OpenSpec.ofChange Rows.simfsSafeSpec) :=
  OpenClaim.holds_of_wide 3 Try.f3 rfl rfl rfl rfl rfl rfl rfl ⟨rfl, rfl, rfl, rfl, rfl⟩ rfl rfl rfl rfl rfl (by kernel_rfl) Try.func3 (by kernel_rfl)
    (of_decide_eq_true (by kernel_rfl)) (by unfold Func.isWrapper; first | (rw [if_pos (by decide +kernel)]; kernel_rfl) | (rw [if_neg (by decide +kernel)]; exact ⟨rfl, rfl⟩))
    (fun os started H enc _ => lifted os started H enc)

end Go.Proofs.Ytcfebhgmbfaahaa.simfsSafe
namespace Go.Proofs.Ytcfebhgmbfaahaa
theorem safe_holds : Rows.SimfsSafeSaid := simfsSafe.over
#print axioms safe_holds
end Go.Proofs.Ytcfebhgmbfaahaa
