/-
  It is proved that NodePuts returns true for every input, and leaves each argument as it read: the statement 'Rows.NodePutsSaid', under no condition of its own.
-/
import Derived.Test.YtenfahecnkdhaaaRows
import Derived.Test.YtenfahecnkdhaaaB13
import Derived.WalkKit
import Derived.ProofKit
import Derived.OpenShut
import Derived.ShutString
import Derived.ChangeOld
import Derived.Below
namespace Go.Proofs.Ytenfahecnkdhaaa.nodePuts
open Go.ChangeShapes Go.WideShapes Go.ChangeAt Go.RowKit
open Go.ChangeMaps (open_string shut_string)

theorem own : ownKnob Try.prog.godebug = none := by kernel_rfl
theorem laidOut : laidOutB Try.prog = true := by kernel_rfl

theorem walk (s1 : Int) (a1 : Option Addr) (n1 c1 : Nat) (d1 : List (List Int)) (a3 : Option Addr) (n3 c3 : Nat) (l : List Nd.Ent) (a5 : Option Addr) (n5 c5 : Nat) (w : World)
    (m1 : d1.length = n1) (h1 : Nd.HV (fun g => g < w.heap.size) w (.slice a1 n1 c1) d1) (h3 : Nd.EV (fun g => g < w.heap.size) w (.slice a3 n3 c3) l)
    (h5 : n5 ≤ 140737488355328 → ∃ bs : List Int, bs.length = n5 ∧ Tlv.BySl 0 w.heap.size w (.slice a5 n5 c5) bs) :
    Calls Try.prog 3 #[.agg #[.int .i64 s1, .slice a1 n1 c1], .slice a3 n3 c3, .slice a5 n5 c5] w fun e w' => e = .returned (.bool true) ∧ Below w.heap.size w w' := by
  have hL1 := fun V (hV : Sim.Kp Sim.No w V) => Nd.light_any V _ l _ s1 0 a1 none n1 c1 0 0 (h3.kept hV)
  cases hq : Nd.lightN n1 l 0 with
  | false => exact Nd.nputs_dark w s1 a1 a3 a5 n1 c1 n3 c3 n5 c5 false (.inl rfl) (by rw [hq] at hL1; exact hL1)
  | true =>
    by_cases hb : n5 ≤ 5000
    · obtain ⟨bs, hbl, hby⟩ := h5 (by omega)
      subst m1
      subst hbl
      exact Nd.nputs_main w s1 _ _ _ d1 l bs h1 h3 hby hq hb
    · exact Nd.nputs_dark w s1 a1 a3 a5 n1 c1 n3 c3 n5 c5 true (.inr (by omega)) (by rw [hq] at hL1; exact hL1)

/-! ### THE ROW's STEP: WRITTEN OUT: LEAVE IT -/
set_option maxRecDepth 100000 in
theorem lifted (os : Os) (started : os.Started) (H : Type) (enc : TypeId × Value → H) :
    ReturnsInHanded {} Try.checked os 3 .any (Rows.nodePutsSpec.pre6 enc Try.prog Try.f3 Rows.nodePutsRow.domain false) (Rows.nodePutsSpec.post enc Try.prog Try.f3 false true false false) := by
  refine returnsInHanded_of_change (C := Try.checked) own started (by kernel_rfl) Try.func3
    (ChangeSpec.witness6 (enc := enc) (C := Try.checked) false ⟨#[], #[.agg #[.int .i64 0, .slice none 0 0], .slice none 0 0, .slice none 0 0], []⟩ 8 (by kernel_rfl) (by kernel_rfl) (by kernel_rfl) (by kernel_rfl)) ?_
  intro W base args ds gs before hval0 hW hcnd _
  have hval : ∀ (j : Nat) t v, Try.f3.params[j]? = some t → args[j]? = some v → Value.okWide Try.prog W .any base t v := hval0
  have hW' := hW
  obtain ⟨p, q, hA0, hV, rfl, hfz, hnd⟩ := hW
  have hA : DataW.TrodAll enc Try.prog W 0 (fun _ => true) true Try.f3.params.toList args.toList ds p := hA0
  rw [Try.params3] at hA hval
  obtain ⟨v0, vs0, d0, ds0, p0, q0, hargs, rfl, rfl, h0, r0⟩ := trodAll_cons hA
  obtain ⟨v1, vs1, d1, ds1, p1, q1, rfl, rfl, rfl, h1, r1⟩ := trodAll_cons r0
  obtain ⟨v2, vs2, d2, ds2, p2, q2, rfl, rfl, rfl, h2, r2⟩ := trodAll_cons r1
  obtain ⟨rfl, rfl, rfl⟩ := trodAll_nil r2
  obtain rfl : args = #[v0, v1, v2] := by cases args; simp_all
  obtain ⟨rfl, rfl⟩ := trodVars_none hV
  have k0 := h0
  have lt0 : ∀ x ∈ p0, x.block < W.heap.size := by obtain ⟨m, hm⟩ := k0; exact DataW.trod_lt m _ _ _ hm
  obtain ⟨s0, a0, n0, c0, x0, rfl, m0, e0⟩ := Nd.open_file (hval 0 24 v0 rfl rfl) h0
  obtain ⟨a1, len1, cap1, rfl⟩ := okWide_slice Try.underlying25 (hval 1 25 v1 rfl rfl)
  have k1 := h1
  have lt1 : ∀ x ∈ p1, x.block < W.heap.size := by obtain ⟨m, hm⟩ := k1; exact DataW.trod_lt m _ _ _ hm
  obtain ⟨l1, ll1, e1⟩ : ∃ d : List Nd.Ent, d.length = len1 ∧ Nd.EV (fun g => g < W.heap.size) W (.slice a1 len1 cap1) d := by
    obtain ⟨fuel, hf⟩ := h1
    exact Nd.ents_of hf
  have k2 := h2
  have lt2 : ∀ x ∈ p2, x.block < W.heap.size := by obtain ⟨m, hm⟩ := k2; exact DataW.trod_lt m _ _ _ hm
  obtain ⟨a2, n2, c2, rfl, e2⟩ := Nd.open_bytes (hval 2 26 v2 rfl rfl) h2
  clear hA0 hval0
  refine (walk s0 a0 n0 c0 x0 a1 len1 cap1 l1 a2 n2 c2 W m0 e0 e1 e2).mono fun e W' ⟨he, kp⟩ => ?_
  subst he
  have bel : Below W.heap.size W W' := kp
  exact ⟨_, rfl, _, _, _, [], _, [], hW', trodAll_mk1 (shut_bool Try.underlying4 _), (trodAll_cons_mk (Below.trod laidOut (by kernel_rfl) (of_decide_eq_true (by kernel_rfl)) k0 bel lt0) (trodAll_cons_mk (Below.trod laidOut (by kernel_rfl) (of_decide_eq_true (by kernel_rfl)) k1 bel lt1) (trodAll_cons_mk (Below.trod laidOut (by kernel_rfl) (of_decide_eq_true (by kernel_rfl)) k2 bel lt2) trodAll_mk0))), rfl, bel.frame _, fun h => by cases h⟩

theorem over : Rows.nodePutsRow.holds Try.pinned (OpenSpec.ofChange Rows.nodePutsSpec) :=
  OpenClaim.holds_of_wide 3 Try.f3 rfl rfl rfl rfl rfl rfl rfl ⟨rfl, rfl, rfl, rfl, rfl⟩ rfl rfl rfl rfl rfl (by kernel_rfl) Try.func3 (by kernel_rfl)
    (of_decide_eq_true (by kernel_rfl)) (by unfold Func.isWrapper; first | (rw [if_pos (by decide +kernel)]; kernel_rfl) | (rw [if_neg (by decide +kernel)]; exact ⟨rfl, rfl⟩))
    (fun os started H enc _ => lifted os started H enc)

end Go.Proofs.Ytenfahecnkdhaaa.nodePuts
namespace Go.Proofs.Ytenfahecnkdhaaa
theorem puts_holds : Rows.NodePutsSaid := nodePuts.over
#print axioms puts_holds
end Go.Proofs.Ytenfahecnkdhaaa
