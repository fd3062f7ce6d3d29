/-
  It is proved that SimfsArms returns true for every input, and leaves each argument as it read: the statement 'Rows.SimfsArmsSaid', under no condition of its own.
-/
import Derived.Test.YtcfebhgmbfaahaaRows
import Derived.Test.YtcfebhgmbfaahaaSimArms
import Derived.WalkKit
import Derived.ProofKit
import Derived.OpenShut
import Derived.ShutString
import Derived.ChangeOld
import Derived.Below
namespace Go.Proofs.Ytcfebhgmbfaahaa.simfsArms
open Go.ChangeShapes Go.WideShapes Go.ChangeAt Go.RowKit
open Go.ChangeMaps (open_string shut_string)
open Go.Proofs.Ytcfebhgmbfaahaa.Sim

theorem own : ownKnob Try.prog.godebug = none := by kernel_rfl
theorem laidOut : laidOutB Try.prog = true := by kernel_rfl

set_option maxHeartbeats 1000000 in
set_option maxRecDepth 100000 in
theorem small (z : Int) (hz : z < 0 ∨ 40 < z) (a : Option Addr) (L cap : Nat) (w : World) :
    Calls Try.prog 4 #[.int .i64 z, .slice a L cap] w fun e w' => e = .returned (.bool true) ∧ Below w.heap.size w w' := by
  rcases hz with hz | hz
  · go_enter Try.func4, Try.ntmps4
    go_wp2_with fail
    refine (alive_any w).mono ?_
    rintro e w1 ⟨rfl, hk⟩
    have HK := hid hk
    clear hk
    go_wp2
    go_ret
    exact ⟨rfl, HK.out.toBelow'⟩
  · have hz' : ¬ z < 0 := by omega
    go_enter Try.func4, Try.ntmps4
    go_wp2_with fail
    refine (alive_any w).mono ?_
    rintro e w1 ⟨rfl, hk⟩
    have HK := hid hk
    clear hk
    go_wp2
    go_ret
    exact ⟨rfl, HK.out.toBelow'⟩

set_option maxHeartbeats 1000000 in
set_option maxRecDepth 100000 in
theorem dark (z : Int) (h1 : ¬ z < 0) (h2 : ¬ 40 < z) (a : Option Addr) (L cap : Nat) (w : World) (h : Calls Try.prog 5 #[.slice a L cap, .int .i64 40] w fun e w' => e = .returned (.bool false) ∧ w' = w) :
    Calls Try.prog 4 #[.int .i64 z, .slice a L cap] w fun e w' => e = .returned (.bool true) ∧ Below w.heap.size w w' := by
  have H := hid h
  clear h
  go_enter Try.func4, Try.ntmps4
  go_wp2_with fail
  refine H.out.mono ?_
  rintro e w0 ⟨rfl, hw0⟩
  rw [hw0]
  clear hw0 w0 H
  go_wp2_with fail
  refine (alive_any w).mono ?_
  rintro e w1 ⟨rfl, hk⟩
  have HK := hid hk
  clear hk
  go_wp2
  go_ret
  exact ⟨rfl, HK.out.toBelow'⟩

set_option maxHeartbeats 1000000 in
/-- Many are not light. -/
theorem light_long (a : Option Addr) (L cap : Nat) (w : World) (h1 : 40 < (L : Int)) (_hL : L ≤ 9223372036854775807) :
    Calls Try.prog 5 #[.slice a L cap, .int .i64 40] w fun e w' => e = .returned (.bool false) ∧ w' = w := by
  go_enter Try.func5, Try.ntmps5
  go_wp2
  go_ret
  exact ⟨rfl, rfl⟩

theorem walk (z : Int) (a : Option Addr) (c : Nat) (ts : List RawOp) (w : World) (hm : ts.length ≤ 9223372036854775807) (h : Ops w a ts) :
    Calls Try.prog 4 #[.int .i64 z, .slice a ts.length c] w fun e w' => e = .returned (.bool true) ∧ Below w.heap.size w w' := by
  by_cases hz : z < 0 ∨ 40 < z
  · exact small z hz a ts.length c w
  · have h1 : ¬ z < 0 := fun h => hz (.inl h)
    have h2 : ¬ 40 < z := fun h => hz (.inr h)
    by_cases hl : 40 < (ts.length : Int)
    · exact dark z h1 h2 a ts.length c w (light_long a ts.length c w hl hm)
    · have hli := light_any a c ts 40 (by omega) w (by omega) h
      cases hb : lightB 40 ts with
      | false =>
        rw [hb] at hli
        exact dark z h1 h2 a ts.length c w hli
      | true =>
        obtain ⟨n, rfl⟩ : ∃ n : Nat, z = n := ⟨z.toNat, by omega⟩
        refine (arms_main n (by omega) a c ts w h hb).mono ?_
        rintro e w' ⟨rfl, k⟩
        exact ⟨rfl, Kp.toBelow k (fun x hx => by omega)⟩

/-! ### THE ROW's STEP: WRITTEN OUT: LEAVE IT -/
set_option maxRecDepth 100000 in
theorem lifted (os : Os) (started : os.Started) (H : Type) (enc : TypeId × Value → H) :
    ReturnsInHanded {} Try.checked os 4 .any (Rows.simfsArmsSpec.pre6 enc Try.prog Try.f4 Rows.simfsArmsRow.domain false) (Rows.simfsArmsSpec.post enc Try.prog Try.f4 false true false false) := by
  refine returnsInHanded_of_change (C := Try.checked) own started (by kernel_rfl) Try.func4
    (ChangeSpec.witness6 (enc := enc) (C := Try.checked) false ⟨#[], #[.int .i64 0, .slice none 0 0], []⟩ 8 (by kernel_rfl) (by kernel_rfl) (by kernel_rfl) (by kernel_rfl)) ?_
  intro W base args ds gs before hval0 hW hcnd _
  have hval : ∀ (j : Nat) t v, Try.f4.params[j]? = some t → args[j]? = some v → Value.okWide Try.prog W .any base t v := hval0
  have hW' := hW
  obtain ⟨p, q, hA0, hV, rfl, hfz, hnd⟩ := hW
  have hA : DataW.TrodAll enc Try.prog W 0 (fun _ => true) true Try.f4.params.toList args.toList ds p := hA0
  rw [Try.params4] at hA hval
  obtain ⟨v0, vs0, d0, ds0, p0, q0, hargs, rfl, rfl, h0, r0⟩ := trodAll_cons hA
  obtain ⟨v1, vs1, d1, ds1, p1, q1, rfl, rfl, rfl, h1, r1⟩ := trodAll_cons r0
  obtain ⟨rfl, rfl, rfl⟩ := trodAll_nil r1
  obtain rfl : args = #[v0, v1] := by cases args; simp_all
  obtain ⟨rfl, rfl⟩ := trodVars_none hV
  obtain ⟨a1, rfl, rfl, rfl, w1⟩ := open_int Try.underlying3 (hval 0 3 v0 rfl rfl) h0
  obtain ⟨a0, len0, cap0, rfl⟩ := okWide_slice Try.underlying22 (hval 1 22 v1 rfl rfl)
  have k0 := h1
  have lt0 : ∀ x ∈ p1, x.block < W.heap.size := by obtain ⟨m, hm⟩ := k0; exact DataW.trod_lt m _ _ _ hm
  obtain ⟨hm0, ts, hts, w0⟩ : len0 ≤ maxLen ∧ ∃ ts : List RawOp, ts.length = len0 ∧ Ops W a0 ts := by
    obtain ⟨fuel, hf⟩ := h1
    exact ops_of hf
  subst hts
  clear hA0 hval0
  refine (walk a1 a0 cap0 ts W (by unfold maxLen at hm0; omega) w0).mono fun e W' ⟨he, bel⟩ => ?_
  subst he
  exact ⟨_, rfl, _, _, _, [], _, [], hW', trodAll_mk1 (shut_bool Try.underlying4 _), (trodAll_cons_mk (shut_int Try.underlying3 w1) (trodAll_cons_mk (Below.trod laidOut (by kernel_rfl) (of_decide_eq_true (by kernel_rfl)) k0 bel lt0) trodAll_mk0)), rfl, bel.frame _, fun h => by cases h⟩

theorem over : Rows.simfsArmsRow.holds Try.pinned (OpenSpec.ofChange Rows.simfsArmsSpec) :=
  OpenClaim.holds_of_wide 4 Try.f4 rfl rfl rfl rfl rfl rfl rfl ⟨rfl, rfl, rfl, rfl, rfl⟩ rfl rfl rfl rfl rfl (by kernel_rfl) Try.func4 (by kernel_rfl)
    (of_decide_eq_true (by kernel_rfl)) (by unfold Func.isWrapper; first | (rw [if_pos (by decide +kernel)]; kernel_rfl) | (rw [if_neg (by decide +kernel)]; exact ⟨rfl, rfl⟩))
    (fun os started H enc _ => lifted os started H enc)

end Go.Proofs.Ytcfebhgmbfaahaa.simfsArms
namespace Go.Proofs.Ytcfebhgmbfaahaa
theorem arms_holds : Rows.SimfsArmsSaid := simfsArms.over
#print axioms arms_holds
end Go.Proofs.Ytcfebhgmbfaahaa
