/-
  It is proved that SegmentFinds returns true for every input, and leaves each argument as it read: the statement 'Rows.SegmentFindsSaid', under no condition of its own.
-/
import Derived.Test.YtampnikdmgojjaaGreatRows
import Derived.Test.YtampnikdmgojjaaGreatB19
import Derived.WalkKit
import Derived.ProofKit
import Derived.OpenShut
import Derived.ShutString
import Derived.ChangeOld
import Derived.Below
namespace Go.Proofs.YtampnikdmgojjaaGreat.segmentFinds
open Go.ChangeShapes Go.WideShapes Go.ChangeAt Go.RowKit
open Go.ChangeMaps (open_string shut_string)

theorem own : ownKnob Tryz.prog.godebug = none := by kernel_rfl
theorem laidOut : laidOutB Tryz.prog = true := by kernel_rfl

theorem walk (a1 : Option Addr) (n1 c1 : Nat) (l : List Sg.Ent) (a2 : Option Addr) (n2 c2 : Nat) (m : List Sg.Ent) (nm : List Int) (a3 : Option Addr) (n3 c3 : Nat) (w : World) (h1 : Sg.EV (fun g => g < w.heap.size) w (.slice a1 n1 c1) l) (f1 : Sg.Wf (l.map (·.2.1))) (h2 : Sg.EV (fun g => g < w.heap.size) w (.slice a2 n2 c2) m) (hl : nm.length = 32) (hb : ∀ x ∈ nm, 0 ≤ x ∧ x ≤ 255) (h3 : Sg.InNums w a3 n3 c3) :
    Calls Tryz.prog 4 #[.slice a1 n1 c1, .slice a2 n2 c2, .agg (Sg.b8 nm).toArray, .slice a3 n3 c3] w fun e w' => e = .returned (.bool true) ∧ Sim.Kp Sim.No w w' := by
  obtain ⟨zs, _, hz, wz⟩ := h3.iv
  exact Sg.finds_main w _ _ _ nm l m zs _ _ _ h1 h2 hl hb hz f1 wz

/-! ### THE ROW's STEP: WRITTEN OUT: LEAVE IT -/
set_option maxRecDepth 100000 in
theorem lifted (os : Os) (started : os.Started) (H : Type) (enc : TypeId × Value → H) :
    ReturnsInHanded {} Tryz.checked os 4 .any (Rows.segmentFindsSpec.pre6 enc Tryz.prog Tryz.f4 Rows.segmentFindsRow.domain false) (Rows.segmentFindsSpec.post enc Tryz.prog Tryz.f4 false true false false) := by
  refine returnsInHanded_of_change (C := Tryz.checked) own started (by kernel_rfl) Tryz.func4
    (ChangeSpec.witness6 (enc := enc) (C := Tryz.checked) false ⟨#[], #[.slice none 0 0, .slice none 0 0, .agg (List.replicate 32 (.int .u8 0)).toArray, .slice none 0 0], []⟩ 8 (by kernel_rfl) (by kernel_rfl) (by kernel_rfl) (by kernel_rfl)) ?_
  intro W base args ds gs before hval0 hW hcnd _
  have hval : ∀ (j : Nat) t v, Tryz.f4.params[j]? = some t → args[j]? = some v → Value.okWide Tryz.prog W .any base t v := hval0
  have hW' := hW
  obtain ⟨p, q, hA0, hV, rfl, hfz, hnd⟩ := hW
  have hA : DataW.TrodAll enc Tryz.prog W 0 (fun _ => true) true Tryz.f4.params.toList args.toList ds p := hA0
  rw [Tryz.params4] at hA hval
  obtain ⟨v0, vs0, d0, ds0, p0, q0, hargs, rfl, rfl, h0, r0⟩ := trodAll_cons hA
  obtain ⟨v1, vs1, d1, ds1, p1, q1, rfl, rfl, rfl, h1, r1⟩ := trodAll_cons r0
  obtain ⟨v2, vs2, d2, ds2, p2, q2, rfl, rfl, rfl, h2, r2⟩ := trodAll_cons r1
  obtain ⟨v3, vs3, d3, ds3, p3, q3, rfl, rfl, rfl, h3, r3⟩ := trodAll_cons r2
  obtain ⟨rfl, rfl, rfl⟩ := trodAll_nil r3
  obtain rfl : args = #[v0, v1, v2, v3] := by cases args; simp_all
  obtain ⟨rfl, rfl⟩ := trodVars_none hV
  obtain ⟨a0, len0, cap0, rfl⟩ := okWide_slice Tryz.underlying22 (hval 0 22 v0 rfl rfl)
  have k0 := h0
  have lt0 : ∀ x ∈ p0, x.block < W.heap.size := by obtain ⟨m, hm⟩ := k0; exact DataW.trod_lt m _ _ _ hm
  obtain ⟨l0, ll0, e0⟩ : ∃ d : List Sg.Ent, d.length = len0 ∧ Sg.EV (fun g => g < W.heap.size) W (.slice a0 len0 cap0) d := by
    obtain ⟨fuel, hf⟩ := h0
    exact Sg.ents_of hf
  have f0 : Sg.Wf (l0.map (·.2.1)) := by
    obtain ⟨fuel, hf⟩ := h0
    exact Sg.mem_wf hf ll0 e0
  obtain ⟨a1, len1, cap1, rfl⟩ := okWide_slice Tryz.underlying22 (hval 1 22 v1 rfl rfl)
  have k1 := h1
  have lt1 : ∀ x ∈ p1, x.block < W.heap.size := by obtain ⟨m, hm⟩ := k1; exact DataW.trod_lt m _ _ _ hm
  obtain ⟨l1, ll1, e1⟩ : ∃ d : List Sg.Ent, d.length = len1 ∧ Sg.EV (fun g => g < W.heap.size) W (.slice a1 len1 cap1) d := by
    obtain ⟨fuel, hf⟩ := h1
    exact Sg.ents_of hf
  have k2 := h2
  have lt2 : ∀ x ∈ p2, x.block < W.heap.size := by obtain ⟨m, hm⟩ := k2; exact DataW.trod_lt m _ _ _ hm
  obtain ⟨nm2, rfl, nl2, nb2⟩ := Sg.open_hash (hval 2 46 v2 rfl rfl) h2
  obtain ⟨a3, len3, cap3, rfl⟩ := okWide_slice Tryz.underlying47 (hval 3 47 v3 rfl rfl)
  have k3 := h3
  have lt3 : ∀ x ∈ p3, x.block < W.heap.size := by obtain ⟨m, hm⟩ := k3; exact DataW.trod_lt m _ _ _ hm
  have r3w : Sg.InNums W a3 len3 cap3 := by
    obtain ⟨fuel, hf⟩ := h3
    rcases open_ints Tryz.underlying47 Tryz.underlying3 (by kernel_rfl) hf with ⟨hcs, _⟩ | ⟨x, l, c, zs, hcs, _, hl, hm, hz, _, hcell, hwz⟩
    · simp [Value.cells] at hcs
      obtain ⟨rfl, rfl, rfl⟩ := hcs
      exact .inl ⟨rfl, rfl, rfl⟩
    · simp [Value.cells] at hcs
      obtain ⟨rfl, rfl, rfl⟩ := hcs
      exact .inr ⟨_, zs, rfl, hl, hm, by simpa using hz, hcell, hwz⟩
  clear hA0 hval0
  refine (walk a0 len0 cap0 l0 a1 len1 cap1 l1 nm2 a3 len3 cap3 W e0 f0 e1 nl2 nb2 r3w).mono fun e W' ⟨he, kp⟩ => ?_
  subst he
  have bel : Below W.heap.size W W' := kp.toBelow'
  exact ⟨_, rfl, _, _, _, [], _, [], hW', trodAll_mk1 (shut_bool Tryz.underlying4 _), (trodAll_cons_mk (Below.trod laidOut (by kernel_rfl) (of_decide_eq_true (by kernel_rfl)) k0 bel lt0) (trodAll_cons_mk (Below.trod laidOut (by kernel_rfl) (of_decide_eq_true (by kernel_rfl)) k1 bel lt1) (trodAll_cons_mk (Below.trod laidOut (by kernel_rfl) (of_decide_eq_true (by kernel_rfl)) k2 bel lt2) (trodAll_cons_mk (Below.trod laidOut (by kernel_rfl) (of_decide_eq_true (by kernel_rfl)) k3 bel lt3) trodAll_mk0)))), rfl, bel.frame _, fun h => by cases h⟩

theorem over : Rows.segmentFindsRow.holds Tryz.pinned (OpenSpec.ofChange Rows.segmentFindsSpec) :=
  OpenClaim.holds_of_wide 4 Tryz.f4 rfl rfl rfl rfl rfl rfl rfl ⟨rfl, rfl, rfl, rfl, rfl⟩ rfl rfl rfl rfl rfl (by kernel_rfl) Tryz.func4 (by kernel_rfl)
    (of_decide_eq_true (by kernel_rfl)) (by unfold Func.isWrapper; first | (rw [if_pos (by decide +kernel)]; kernel_rfl) | (rw [if_neg (by decide +kernel)]; exact ⟨rfl, rfl⟩))
    (fun os started H enc _ => lifted os started H enc)

end Go.Proofs.YtampnikdmgojjaaGreat.segmentFinds
namespace Go.Proofs.YtampnikdmgojjaaGreat
theorem finds_holds : Rows.SegmentFindsSaid := segmentFinds.over
#print axioms finds_holds
end Go.Proofs.YtampnikdmgojjaaGreat
