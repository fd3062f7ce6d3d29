/-
  It is proved that ShelfWalks returns true for every input, and leaves each argument as it read, the five listed variables of strconv and math/bits being laid as the program's text lays them: the card 'Rows.ShelfWalksCardSaid', under no condition of its own.
-/
import Derived.Test.YtaaioaocjfpajaaGreatDoorB3
import Derived.Test.YtaaioaocjfpajaaGreatDoorB18
import Derived.WalkKit
import Derived.ProofKit
import Derived.OpenShut
import Derived.ShutString
import Derived.ChangeOld
import Derived.Below
namespace Go.Proofs.YtaaioaocjfpajaaGreatDoor.shelfWalks
open Go.ChangeShapes Go.WideShapes Go.ChangeAt Go.RowKit
open Sim (hid)

theorem walk (a0 a1 : Option Addr) (L0 c0 L1 c1 : Nat) (z : Int) (w : World) (hV : Vars w) (hz : -9223372036854775808 ≤ z ∧ z ≤ 9223372036854775807)
    (h0 : ∀ i, i < L0 → ∃ g o a n c, a0 = some ⟨g, o, none⟩ ∧ g < w.heap.size ∧ w.cell? ⟨g, o + i, none⟩ = some (.slice a n c) ∧ n ≤ maxLen ∧ ∃ ts : List Raw, ts.length = n ∧ Sh.RawL w a ts) (h1 : Sim.InR .i64 w a1 L1 c1) :
    Calls Tryz.prog 3 #[.slice a0 L0 c0, .slice a1 L1 c1, .int .i64 z] w fun e w' => e = .returned (.bool true) ∧ Sim.Kp Sim.No w w' := by
  by_cases hd : 6 < (L0 : Int) ∨ 6 < (L1 : Int) ∨ 100 < z
  · exact Sh.walks_dark w a0 a1 L0 c0 L1 c1 z hV hd
  · refine Sh.walks_light w a0 a1 L0 c0 L1 c1 z hV (by omega) (by omega) (by omega) hz.1 (fun i hi => ?_) (fun j hj => ?_)
    · obtain ⟨g, o, a, n, c, h2, h3, h4, h5, ts, h6, h7⟩ := h0 i hi
      subst h6
      exact ⟨g, o, a, ts.length, c, h2, h3, h4, Sh.lin_of w a c ts (by unfold maxLen at h5; omega) h7⟩
    · rcases h1 with ⟨_, rfl, _⟩ | ⟨y, zs, rfl, h2, h3, h4, h5, h6⟩
      · omega
      · have hc := h5 j (by omega)
        have hc0 := h5 0 (by omega)
        have hsp := spot_none hc0
        obtain ⟨b, o, s⟩ := y
        simp only at hsp
        subst hsp
        rw [addr_plus] at hc
        exact ⟨b, o, _, rfl, hc⟩

set_option maxRecDepth 100000 in
theorem contract (H : Type) (enc : TypeId × Value → H) (W : World) (base : Nat) (args : Array Value) (ds gs : List (DataW H)) (before : List MemPlace)
    (hval : ∀ (j : Nat) t v, Tryz.f3.params[j]? = some t → args[j]? = some v → Value.okWide Tryz.prog W .any base t v)
    (hW : DataW.Whole enc Tryz.prog Tryz.f3.params.toList Rows.shelfWalksSpec.vars false W args.toList ds gs before) (hlaid : laidMetH Tryz.prog laidFive W) :
    Calls Tryz.prog 3 args W fun e W' => ∃ v, e = .returned v ∧ Rows.shelfWalksSpec.post enc Tryz.prog Tryz.f3 false true false false W args v W' := by
  have hW' := hW
  obtain ⟨p, q, hA0, hV, rfl, hfz, hnd⟩ := hW
  have hA : DataW.TrodAll enc Tryz.prog W 0 (fun _ => true) true Tryz.f3.params.toList args.toList ds p := hA0
  rw [Tryz.params3] at hA hval
  obtain ⟨v0, vs0, d0, ds0, p0, q0, hargs, rfl, rfl, h0, r0⟩ := trodAll_cons hA
  obtain ⟨v1, vs1, d1, ds1, p1, q1, rfl, rfl, rfl, h1, r1⟩ := trodAll_cons r0
  obtain ⟨v2, vs2, d2, ds2, p2, q2, rfl, rfl, rfl, h2, r2⟩ := trodAll_cons r1
  obtain ⟨rfl, rfl, rfl⟩ := trodAll_nil r2
  obtain rfl : args = #[v0, v1, v2] := by cases args; simp_all
  obtain ⟨rfl, rfl⟩ := trodVars_none hV
  obtain ⟨a0, len0, cap0, rfl⟩ := okWide_slice Tryz.underlying22 (hval 0 22 v0 rfl rfl)
  have k0 := h0
  have lt0 : ∀ x ∈ p0, x.block < W.heap.size := by obtain ⟨m, hm⟩ := k0; exact DataW.trod_lt m _ _ _ hm
  obtain ⟨hm0, w0⟩ : len0 ≤ maxLen ∧ ∀ i, i < len0 → ∃ g o a n c, a0 = some ⟨g, o, none⟩ ∧ g < W.heap.size ∧ W.cell? ⟨g, o + i, none⟩ = some (.slice a n c) ∧ n ≤ maxLen ∧ ∃ ts : List Raw, ts.length = n ∧ Sh.RawL W a ts := by
    obtain ⟨fuel, hf⟩ := h0
    exact Sh.lists_of hf
  obtain ⟨a1, len1, cap1, rfl⟩ := okWide_slice Tryz.underlying23 (hval 1 23 v1 rfl rfl)
  have k1 := h1
  have lt1 : ∀ x ∈ p1, x.block < W.heap.size := by obtain ⟨m, hm⟩ := k1; exact DataW.trod_lt m _ _ _ hm
  have w1 : Sim.InR .i64 W a1 len1 cap1 := by
    obtain ⟨fuel, hf⟩ := h1
    obtain ⟨a, l, c, e, hin⟩ := Sim.in_of Tryz.underlying23 Tryz.underlying3 (by kernel_rfl) hf
    simp only [Value.cells, List.cons.injEq, Value.slice.injEq, and_true] at e
    obtain ⟨rfl, rfl, rfl⟩ := e
    exact hin
  obtain ⟨a2, rfl, rfl, rfl, w2⟩ := open_int Tryz.underlying3 (hval 2 3 v2 rfl rfl) h2
  clear hA0
  refine ((walk a0 a1 len0 cap0 len1 cap1 a2 W (vars_of_laid hlaid) (i64_wf w2) w0 w1).mono fun e W' h => (⟨h.1, h.2.toBelow'⟩ : e = .returned (.bool true) ∧ Below W.heap.size W W')).mono fun e W' ⟨he, bel⟩ => ?_
  subst he
  exact ⟨_, rfl, _, _, _, [], _, [], hW', trodAll_mk1 (shut_bool Tryz.underlying4 _), (trodAll_cons_mk (Below.trod laidOut (by kernel_rfl) (of_decide_eq_true (by kernel_rfl)) k0 bel lt0) (trodAll_cons_mk (Below.trod laidOut (by kernel_rfl) (of_decide_eq_true (by kernel_rfl)) k1 bel lt1) (trodAll_cons_mk (shut_int Tryz.underlying3 w2) trodAll_mk0))), rfl, bel.frame _, fun h => by cases h⟩

theorem reads (os : Os) {H : Type} (enc : TypeId × Value → H) : ∃ d places, DataW.whole enc Tryz.prog (({ World.holding Tryz.prog os ⟨#[.cells #[.string synS] 285, .cells #[.string rngS] 285], #[], []⟩ with heap := (((((World.holding Tryz.prog os ⟨#[.cells #[.string synS] 285, .cells #[.string rngS] 285], #[], []⟩).heap.modify 1 (lay #[.iface 283 (.pointer (some ⟨10, 0, none⟩))])).modify 2 (lay #[.iface 283 (.pointer (some ⟨11, 0, none⟩))])).modify 0 (lay tab10)).modify 3 (lay tab32)).modify 4 (lay tab64) } : World).forCall (fun _ _ => 0) ⟨#[], #[.slice none 0 0, .slice none 0 0, .int .i64 0], []⟩).memory Tryz.f3.params.toList Rows.shelfWalksSpec.vars false (#[.slice none 0 0, .slice none 0 0, .int .i64 0] : Array Value).toList 8 = some (d, [], places) :=
  ⟨[.nil, .nil, .lit (.int .i64 0)], [], by kernel_rfl⟩

set_option maxRecDepth 100000 in
theorem lifted (os : Os) (started : os.Started) (H : Type) (enc : TypeId × Value → H) (F : Stop.Interp) :
    ReturnsInHanded {} Tryz.checked os 3 .any ((OpenSpec.ofChange Rows.shelfWalksSpec).preRow enc Tryz.prog Tryz.f3 Rows.shelfWalksRow.domain false Rows.shelfWalksRow.laid) (((OpenSpec.ofChange Rows.shelfWalksSpec).at F).post enc Tryz.prog Tryz.f3 false true false false) := by
  obtain ⟨d, places, hx⟩ := reads os enc
  refine returnsInHanded_of_row (C := Tryz.checked) (s := OpenSpec.ofChange Rows.shelfWalksSpec) own started (by kernel_rfl) Tryz.func3
    (witness_row_at (enc := enc) (C := Tryz.checked) false ({ World.holding Tryz.prog os ⟨#[.cells #[.string synS] 285, .cells #[.string rngS] 285], #[], []⟩ with heap := (((((World.holding Tryz.prog os ⟨#[.cells #[.string synS] 285, .cells #[.string rngS] 285], #[], []⟩).heap.modify 1 (lay #[.iface 283 (.pointer (some ⟨10, 0, none⟩))])).modify 2 (lay #[.iface 283 (.pointer (some ⟨11, 0, none⟩))])).modify 0 (lay tab10)).modify 3 (lay tab32)).modify 4 (lay tab64) } : World) #[.slice none 0 0, .slice none 0 0, .int .i64 0] rfl (by kernel_rfl) (by kernel_rfl) (by kernel_rfl)
      (OpenSpec.preRow_of_cond 8 hx (by kernel_rfl) (fun k hk => by cases hk) (by kernel_rfl) (laid_met os _))) ?_
  intro W base args ds gs before hval hW _ _ _ hL _ _
  exact contract H enc W base args ds gs before hval hW hL

theorem said : Rows.ShelfWalksSaid :=
  OpenClaim.holds_of_cond 3 Tryz.f3 rfl rfl rfl rfl rfl rfl rfl ⟨rfl, rfl, rfl, rfl, rfl⟩ rfl rfl rfl rfl rfl (by kernel_rfl) Tryz.func3 closed
    (of_decide_eq_true (by kernel_rfl)) (by unfold Func.isWrapper; first | (rw [if_pos (by decide +kernel)]; kernel_rfl) | (rw [if_neg (by decide +kernel)]; exact ⟨rfl, rfl⟩))
    (fun os started H enc _ F => by rw [OpenClaim.pre_eq_preRow]; exact lifted os started H enc F)

theorem plain (f : FuncId) (fn : Func) (hf : Tryz.pinned.checked.prog.funcNamed Rows.shelfWalksRow.func = some f) (hfn : Tryz.pinned.checked.prog.funcs[f]? = some fn) :
    true = Tryz.pinned.checked.prog.looks [] ∧ ∀ (j : Nat) t, fn.params[j]? = some t → Tryz.pinned.checked.prog.wantsStandIn t = false := by
  obtain rfl : f = 3 := Option.some.inj ((show Tryz.prog.funcNamed Rows.shelfWalksRow.func = some 3 by kernel_rfl).symm.trans hf) |>.symm
  obtain rfl : fn = Tryz.f3 := (Option.some.inj (Tryz.func3.symm.trans hfn)).symm
  refine ⟨by kernel_rfl, fun j t ht => ?_⟩
  rw [Tryz.params3] at ht
  have hm : t ∈ [22, 23, 3] := by simpa using Array.mem_of_getElem? ht
  have hall : ([22, 23, 3].all fun u => !Tryz.prog.wantsStandIn u) = true := by kernel_rfl
  exact (show Tryz.prog.wantsStandIn t = false by simpa using List.all_eq_true.1 hall t hm)

end Go.Proofs.YtaaioaocjfpajaaGreatDoor.shelfWalks
namespace Go.Proofs.YtaaioaocjfpajaaGreatDoor
theorem shelfWalks_holds : Rows.ShelfWalksCardSaid :=
  Claim7.holds_tied_plain_at .later [] _ _ _ _ shelfWalks.said (fun _ h => by cases h) (by kernel_rfl) (fun _ h => by cases h) shelfWalks_row_tie rfl ⟨rfl, rfl⟩ (by kernel_rfl) rfl shelfWalks.plain (by kernel_rfl)
#print axioms shelfWalks_holds
end Go.Proofs.YtaaioaocjfpajaaGreatDoor
