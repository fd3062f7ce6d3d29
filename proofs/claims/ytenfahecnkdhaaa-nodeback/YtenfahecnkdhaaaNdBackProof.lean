/-
  It is proved that NodeBack returns true for every input, and leaves each argument as it read: the statement 'Rows.NodeBackSaid', under no condition of its own.
-/
import Derived.Test.YtenfahecnkdhaaaRows
import Derived.Test.YtenfahecnkdhaaaB17
import Derived.WalkKit
import Derived.ProofKit
import Derived.OpenShut
import Derived.ShutString
import Derived.ChangeOld
import Derived.Below
namespace Go.Proofs.Ytenfahecnkdhaaa.nodeBack
open Go.ChangeShapes Go.WideShapes Go.ChangeAt Go.RowKit
open Go.ChangeMaps (open_string shut_string)

theorem own : ownKnob Try.prog.godebug = none := by kernel_rfl
theorem laidOut : laidOutB Try.prog = true := by kernel_rfl

theorem walk (s1 : Int) (a1 : Option Addr) (n1 c1 : Nat) (d1 : List (List Int)) (s2 : Int) (a2 : Option Addr) (n2 c2 : Nat) (d2 : List (List Int)) (a3 : Option Addr) (n3 c3 : Nat) (l : List Nd.Ent) (a4 : Option Addr) (n4 c4 : Nat) (m : List Nd.Ent) (K : Int) (a5 : Option Addr) (n5 c5 : Nat) (w : World)
    (m1 : d1.length = n1) (h1 : Nd.HV (fun g => g < w.heap.size) w (.slice a1 n1 c1) d1) (m2 : d2.length = n2) (h2 : Nd.HV (fun g => g < w.heap.size) w (.slice a2 n2 c2) d2) (h3 : Nd.EV (fun g => g < w.heap.size) w (.slice a3 n3 c3) l) (h4 : Nd.EV (fun g => g < w.heap.size) w (.slice a4 n4 c4) m)
    (h5 : n5 ≤ 140737488355328 → ∃ bs : List Int, bs.length = n5 ∧ Tlv.BySl 0 w.heap.size w (.slice a5 n5 c5) bs) :
    Calls Try.prog 6 #[.agg #[.int .i64 s1, .slice a1 n1 c1], .agg #[.int .i64 s2, .slice a2 n2 c2], .slice a3 n3 c3, .slice a4 n4 c4, .agg #[.int .i64 K, .slice a5 n5 c5]] w fun e w' => e = .returned (.bool true) ∧ Below w.heap.size w w' := by
  have hL1 := fun V (hV : Sim.Kp Sim.No w V) => Nd.light_any V _ l _ s1 K a1 a5 n1 c1 n5 c5 (h3.kept hV)
  have hL2 := fun V (hV : Sim.Kp Sim.No w V) => Nd.light_any V _ m _ s2 K a2 a5 n2 c2 n5 c5 (h4.kept hV)
  cases hq : (Nd.lightN n1 l n5 && Nd.lightN n2 m n5) with
  | false => exact Nd.nback_dark w s1 s2 K a1 a2 a3 a4 a5 n1 c1 n2 c2 n3 c3 n4 c4 n5 c5 _ _ hq hL1 hL2
  | true =>
    rw [Bool.and_eq_true] at hq
    have hb := (Nd.lightN_short hq.1).2.2.1
    obtain ⟨bs, hbl, hby⟩ := h5 (by omega)
    subst m1
    subst m2
    subst hbl
    exact Nd.nback_main w s1 s2 K _ _ _ _ _ d1 d2 l m bs h1 h2 h3 h4 hby hq.1 hq.2

/-! ### THE ROW's STEP: WRITTEN OUT: LEAVE IT -/
set_option maxRecDepth 100000 in
theorem lifted (os : Os) (started : os.Started) (H : Type) (enc : TypeId × Value → H) :
    ReturnsInHanded {} Try.checked os 6 .any (Rows.nodeBackSpec.pre6 enc Try.prog Try.f6 Rows.nodeBackRow.domain false) (Rows.nodeBackSpec.post enc Try.prog Try.f6 false true false false) := by
  refine returnsInHanded_of_change (C := Try.checked) own started (by kernel_rfl) Try.func6
    (ChangeSpec.witness6 (enc := enc) (C := Try.checked) false ⟨#[], #[.agg #[.int .i64 0, .slice none 0 0], .agg #[.int .i64 0, .slice none 0 0], .slice none 0 0, .slice none 0 0, .agg #[.int .i64 0, .slice none 0 0]], []⟩ 8 (by kernel_rfl) (by kernel_rfl) (by kernel_rfl) (by kernel_rfl)) ?_
  intro W base args ds gs before hval0 hW hcnd _
  have hval : ∀ (j : Nat) t v, Try.f6.params[j]? = some t → args[j]? = some v → Value.okWide Try.prog W .any base t v := hval0
  have hW' := hW
  obtain ⟨p, q, hA0, hV, rfl, hfz, hnd⟩ := hW
  have hA : DataW.TrodAll enc Try.prog W 0 (fun _ => true) true Try.f6.params.toList args.toList ds p := hA0
  rw [Try.params6] at hA hval
  obtain ⟨v0, vs0, d0, ds0, p0, q0, hargs, rfl, rfl, h0, r0⟩ := trodAll_cons hA
  obtain ⟨v1, vs1, d1, ds1, p1, q1, rfl, rfl, rfl, h1, r1⟩ := trodAll_cons r0
  obtain ⟨v2, vs2, d2, ds2, p2, q2, rfl, rfl, rfl, h2, r2⟩ := trodAll_cons r1
  obtain ⟨v3, vs3, d3, ds3, p3, q3, rfl, rfl, rfl, h3, r3⟩ := trodAll_cons r2
  obtain ⟨v4, vs4, d4, ds4, p4, q4, rfl, rfl, rfl, h4, r4⟩ := trodAll_cons r3
  obtain ⟨rfl, rfl, rfl⟩ := trodAll_nil r4
  obtain rfl : args = #[v0, v1, v2, v3, v4] := by cases args; simp_all
  obtain ⟨rfl, rfl⟩ := trodVars_none hV
  have k0 := h0
  have lt0 : ∀ x ∈ p0, x.block < W.heap.size := by obtain ⟨m, hm⟩ := k0; exact DataW.trod_lt m _ _ _ hm
  obtain ⟨s0, a0, n0, c0, x0, rfl, m0, e0⟩ := Nd.open_file (hval 0 24 v0 rfl rfl) h0
  have k1 := h1
  have lt1 : ∀ x ∈ p1, x.block < W.heap.size := by obtain ⟨m, hm⟩ := k1; exact DataW.trod_lt m _ _ _ hm
  obtain ⟨s1, a1, n1, c1, x1, rfl, m1, e1⟩ := Nd.open_file (hval 1 24 v1 rfl rfl) h1
  obtain ⟨a2, len2, cap2, rfl⟩ := okWide_slice Try.underlying25 (hval 2 25 v2 rfl rfl)
  have k2 := h2
  have lt2 : ∀ x ∈ p2, x.block < W.heap.size := by obtain ⟨m, hm⟩ := k2; exact DataW.trod_lt m _ _ _ hm
  obtain ⟨l2, ll2, e2⟩ : ∃ d : List Nd.Ent, d.length = len2 ∧ Nd.EV (fun g => g < W.heap.size) W (.slice a2 len2 cap2) d := by
    obtain ⟨fuel, hf⟩ := h2
    exact Nd.ents_of hf
  obtain ⟨a3, len3, cap3, rfl⟩ := okWide_slice Try.underlying25 (hval 3 25 v3 rfl rfl)
  have k3 := h3
  have lt3 : ∀ x ∈ p3, x.block < W.heap.size := by obtain ⟨m, hm⟩ := k3; exact DataW.trod_lt m _ _ _ hm
  obtain ⟨l3, ll3, e3⟩ : ∃ d : List Nd.Ent, d.length = len3 ∧ Nd.EV (fun g => g < W.heap.size) W (.slice a3 len3 cap3) d := by
    obtain ⟨fuel, hf⟩ := h3
    exact Nd.ents_of hf
  have k4 := h4
  have lt4 : ∀ x ∈ p4, x.block < W.heap.size := by obtain ⟨m, hm⟩ := k4; exact DataW.trod_lt m _ _ _ hm
  obtain ⟨s4, a4, n4, c4, rfl, e4⟩ := Nd.open_obj (hval 4 29 v4 rfl rfl) h4
  clear hA0 hval0
  refine (walk s0 a0 n0 c0 x0 s1 a1 n1 c1 x1 a2 len2 cap2 l2 a3 len3 cap3 l3 s4 a4 n4 c4 W m0 e0 m1 e1 e2 e3 e4).mono fun e W' ⟨he, kp⟩ => ?_
  subst he
  have bel : Below W.heap.size W W' := kp
  exact ⟨_, rfl, _, _, _, [], _, [], hW', trodAll_mk1 (shut_bool Try.underlying4 _), (trodAll_cons_mk (Below.trod laidOut (by kernel_rfl) (of_decide_eq_true (by kernel_rfl)) k0 bel lt0) (trodAll_cons_mk (Below.trod laidOut (by kernel_rfl) (of_decide_eq_true (by kernel_rfl)) k1 bel lt1) (trodAll_cons_mk (Below.trod laidOut (by kernel_rfl) (of_decide_eq_true (by kernel_rfl)) k2 bel lt2) (trodAll_cons_mk (Below.trod laidOut (by kernel_rfl) (of_decide_eq_true (by kernel_rfl)) k3 bel lt3) (trodAll_cons_mk (Below.trod laidOut (by kernel_rfl) (of_decide_eq_true (by kernel_rfl)) k4 bel lt4) trodAll_mk0))))), rfl, bel.frame _, fun h => by cases h⟩

theorem over : Rows.nodeBackRow.holds Try.pinned (OpenSpec.ofChange Rows.nodeBackSpec) :=
  OpenClaim.holds_of_wide 6 Try.f6 rfl rfl rfl rfl rfl rfl rfl ⟨rfl, rfl, rfl, rfl, rfl⟩ rfl rfl rfl rfl rfl (by kernel_rfl) Try.func6 (by kernel_rfl)
    (of_decide_eq_true (by kernel_rfl)) (by unfold Func.isWrapper; first | (rw [if_pos (by decide +kernel)]; kernel_rfl) | (rw [if_neg (by decide +kernel)]; exact ⟨rfl, rfl⟩))
    (fun os started H enc _ => lifted os started H enc)

end Go.Proofs.Ytenfahecnkdhaaa.nodeBack
namespace Go.Proofs.Ytenfahecnkdhaaa
theorem back_holds : Rows.NodeBackSaid := nodeBack.over
#print axioms back_holds
end Go.Proofs.Ytenfahecnkdhaaa
