/-
  It is proved that SimfsPlays returns true for every input, and leaves each argument as it read: the statement 'Rows.SimfsPlaysSaid', under no condition of its own.
-/
import Derived.Test.YtmiipifhbliamaaGreatRows
import Derived.Test.YtmiipifhbliamaaGreatSimPlays
import Derived.WalkKit
import Derived.ProofKit
import Derived.OpenShut
import Derived.ShutString
import Derived.ChangeOld
import Derived.Below
namespace Go.Proofs.YtmiipifhbliamaaGreat.simfsPlays
open Go.ChangeShapes Go.WideShapes Go.ChangeAt Go.RowKit
open Go.ChangeMaps (open_string shut_string)
open Go.Proofs.YtmiipifhbliamaaGreat.Sim

theorem own : ownKnob Tryz.prog.godebug = none := by kernel_rfl
theorem laidOut : laidOutB Tryz.prog = true := by kernel_rfl

set_option maxHeartbeats 1000000 in
set_option maxRecDepth 100000 in
theorem dark (z : Int) (a : Option Addr) (L cap : Nat) (w : World) (h : Calls Tryz.prog 5 #[.slice a L cap, .int .i64 40] w fun e w' => e = .returned (.bool false) ∧ w' = w) :
    Calls Tryz.prog 3 #[.int .i64 z, .slice a L cap] w fun e w' => e = .returned (.bool true) ∧ Below w.heap.size w w' := by
  have H := hid h
  clear h
  go_enter Tryz.func3, Tryz.ntmps3
  go_wp2_with fail
  refine H.out.mono ?_
  rintro e w0 ⟨rfl, hw0⟩
  rw [hw0]
  clear hw0 w0 H
  go_wp2_with fail
  refine (alive_any w).mono ?_
  rintro e w1 ⟨rfl, hk⟩
  have HK := hid hk
  clear hk
  go_wp2
  go_ret
  exact ⟨rfl, HK.out.toBelow'⟩

set_option maxHeartbeats 1000000 in
/-- Many are not light. -/
theorem light_long (a : Option Addr) (L cap : Nat) (w : World) (h1 : 40 < (L : Int)) (_hL : L ≤ 9223372036854775807) :
    Calls Tryz.prog 5 #[.slice a L cap, .int .i64 40] w fun e w' => e = .returned (.bool false) ∧ w' = w := by
  go_enter Tryz.func5, Tryz.ntmps5
  go_wp2
  go_ret
  exact ⟨rfl, rfl⟩

theorem walk (z : Int) (a : Option Addr) (c : Nat) (ts : List RawOp) (w : World) (hm : ts.length ≤ 9223372036854775807) (h : Ops w a ts) :
    Calls Tryz.prog 3 #[.int .i64 z, .slice a ts.length c] w fun e w' => e = .returned (.bool true) ∧ Below w.heap.size w w' := by
  by_cases hl : 40 < (ts.length : Int)
  · exact dark z a ts.length c w (light_long a ts.length c w hl hm)
  · have hli := light_any a c ts 40 (by omega) w (by omega) h
    cases hb : lightB 40 ts with
    | false =>
      rw [hb] at hli
      exact dark z a ts.length c w hli
    | true =>
      by_cases hz : z < 0 ∨ 99000 < z
      · refine (plays_no z hz a c ts w h hb).mono ?_
        rintro e w' ⟨rfl, k⟩
        exact ⟨rfl, Kp.toBelow k (fun x hx => by omega)⟩
      · obtain ⟨n, rfl⟩ : ∃ n : Nat, z = n := ⟨z.toNat, by omega⟩
        refine (plays_main n (by omega) a c ts w h hb).mono ?_
        rintro e w' ⟨rfl, k⟩
        exact ⟨rfl, Kp.toBelow k (fun x hx => by omega)⟩

/-! ### THE ROW's STEP: WRITTEN OUT: LEAVE IT -/
set_option maxRecDepth 100000 in
theorem lifted (os : Os) (started : os.Started) (H : Type) (enc : TypeId × Value → H) :
    ReturnsInHanded {} Tryz.checked os 3 .any (Rows.simfsPlaysSpec.pre6 enc Tryz.prog Tryz.f3 Rows.simfsPlaysRow.domain false) (Rows.simfsPlaysSpec.post enc Tryz.prog Tryz.f3 false true false false) := by
  refine returnsInHanded_of_change (C := Tryz.checked) own started (by kernel_rfl) Tryz.func3
    (ChangeSpec.witness6 (enc := enc) (C := Tryz.checked) false ⟨#[], #[.int .i64 0, .slice none 0 0], []⟩ 8 (by kernel_rfl) (by kernel_rfl) (by kernel_rfl) (by kernel_rfl)) ?_
  intro W base args ds gs before hval0 hW hcnd _
  have hval : ∀ (j : Nat) t v, Tryz.f3.params[j]? = some t → args[j]? = some v → Value.okWide Tryz.prog W .any base t v := hval0
  have hW' := hW
  obtain ⟨p, q, hA0, hV, rfl, hfz, hnd⟩ := hW
  have hA : DataW.TrodAll enc Tryz.prog W 0 (fun _ => true) true Tryz.f3.params.toList args.toList ds p := hA0
  rw [Tryz.params3] at hA hval
  obtain ⟨v0, vs0, d0, ds0, p0, q0, hargs, rfl, rfl, h0, r0⟩ := trodAll_cons hA
  obtain ⟨v1, vs1, d1, ds1, p1, q1, rfl, rfl, rfl, h1, r1⟩ := trodAll_cons r0
  obtain ⟨rfl, rfl, rfl⟩ := trodAll_nil r1
  obtain rfl : args = #[v0, v1] := by cases args; simp_all
  obtain ⟨rfl, rfl⟩ := trodVars_none hV
  obtain ⟨a1, rfl, rfl, rfl, w1⟩ := open_int Tryz.underlying3 (hval 0 3 v0 rfl rfl) h0
  obtain ⟨a0, len0, cap0, rfl⟩ := okWide_slice Tryz.underlying22 (hval 1 22 v1 rfl rfl)
  have k0 := h1
  have lt0 : ∀ x ∈ p1, x.block < W.heap.size := by obtain ⟨m, hm⟩ := k0; exact DataW.trod_lt m _ _ _ hm
  obtain ⟨hm0, ts, hts, w0⟩ : len0 ≤ maxLen ∧ ∃ ts : List RawOp, ts.length = len0 ∧ Ops W a0 ts := by
    obtain ⟨fuel, hf⟩ := h1
    exact ops_of hf
  subst hts
  clear hA0 hval0
  refine (walk a1 a0 cap0 ts W (by unfold maxLen at hm0; omega) w0).mono fun e W' ⟨he, bel⟩ => ?_
  subst he
  exact ⟨_, rfl, _, _, _, [], _, [], hW', trodAll_mk1 (shut_bool Tryz.underlying4 _), (trodAll_cons_mk (shut_int Tryz.underlying3 w1) (trodAll_cons_mk (Below.trod laidOut (by kernel_rfl) (of_decide_eq_true (by kernel_rfl)) k0 bel lt0) trodAll_mk0)), rfl, bel.frame _, fun h => by cases h⟩

theorem over : Rows.simfsPlaysRow.holds Tryz.pinned (OpenSpec.ofChange Rows.simfsPlaysSpec) :=
  OpenClaim.holds_of_wide 3 Tryz.f3 rfl rfl rfl rfl rfl rfl rfl ⟨rfl, rfl, rfl, rfl, rfl⟩ rfl rfl rfl rfl rfl (by kernel_rfl) Tryz.func3 (by kernel_rfl)
    (of_decide_eq_true (by kernel_rfl)) (by unfold Func.isWrapper; first | (rw [if_pos (by decide +kernel)]; kernel_rfl) | (rw [if_neg (by decide +kernel)]; exact ⟨rfl, rfl⟩))
    (fun os started H enc _ => lifted os started H enc)

end Go.Proofs.YtmiipifhbliamaaGreat.simfsPlays
namespace Go.Proofs.YtmiipifhbliamaaGreat
theorem plays_holds : Rows.SimfsPlaysSaid := simfsPlays.over
#print axioms plays_holds
end Go.Proofs.YtmiipifhbliamaaGreat
