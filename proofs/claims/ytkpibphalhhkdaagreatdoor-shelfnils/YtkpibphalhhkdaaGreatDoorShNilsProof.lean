/-
  It is proved that ShelfNils returns true for every input, and leaves each argument as it read, the five listed variables of strconv and math/bits being laid as the program's text lays them: the card 'Rows.ShelfNilsCardSaid', under no condition of its own.
-/
import Derived.Test.YtkpibphalhhkdaaGreatDoorB18
import Derived.WalkKit
import Derived.ProofKit
import Derived.OpenShut
import Derived.ShutString
import Derived.ChangeOld
import Derived.Below
namespace Go.Proofs.YtkpibphalhhkdaaGreatDoor.shelfNils
open Go.ChangeShapes Go.WideShapes Go.ChangeAt Go.RowKit
open Sim (hid)

set_option maxHeartbeats 1000000 in
/-- Many are not light. -/
theorem light_long (a : Option Addr) (L cap : Nat) (w : World) (h1 : 20 < (L : Int)) (_hL : L ≤ 9223372036854775807) :
    Calls Tryz.prog 4 #[.slice a L cap] w fun e w' => e = .returned (.bool false) ∧ w' = w := by
  go_enter Tryz.func4, Tryz.ntmps4
  go_wp2
  go_ret
  exact ⟨rfl, rfl⟩

theorem bySl_lift {B : Nat} {w : World} {v : Value} {bs : List Int} (h : Tlv.BySl 0 B w v bs) : Tlv.BySlS (fun g => g < B) w v bs := by
  obtain ⟨a, c, e, h1, h2, h3, h4, h5, h6⟩ := h
  refine ⟨a, c, e, h1, h2, h3, h4, h5, fun h => ?_⟩
  obtain ⟨b, o, e, _, hb, hc⟩ := h6 h
  exact ⟨b, o, e, hb, hc⟩

theorem walk (a : Option Addr) (c : Nat) (ts : List Raw) (n : Int) (w : World) (hV : Vars w) (hm : ts.length ≤ 9223372036854775807)
    (h : ∀ j t, ts[j]? = some t → (t.2.1.length = 32 ∧ ∀ y ∈ t.2.1, 0 ≤ y ∧ y ≤ 255) ∧ InRow w t.2.2.1 t.2.2.2.1 t.2.2.2.2 ∧ ∃ g o, a = some ⟨g, o, none⟩ ∧ g < w.heap.size ∧ w.rangeAt g (o + j * 34) (rawC t)) :
    Calls Tryz.prog 3 #[.slice a ts.length c, .int .i64 n] w fun e w' => e = .returned (.bool true) ∧ Sim.Kp Sim.No w w' := by
  by_cases hl : 20 < (ts.length : Int)
  · exact Sh.nils_dark a ts.length c n w hV (light_long a ts.length c w hl hm)
  · have hli := light_any a c (ts.map fun t => t.2.2.2.1) w (by rw [List.length_map]; omega) (fun l hl => by
      obtain ⟨t, ht, rfl⟩ := List.mem_map.1 hl
      obtain ⟨j, hj⟩ := List.mem_iff_getElem?.1 ht
      exact (h j t hj).2.1.le) (fun i hi => by
      rw [List.length_map] at hi
      obtain ⟨h1, _, g, o, h2, _, h3⟩ := h i ts[i] (List.getElem?_eq_getElem hi)
      refine ⟨g, o, ts[i].2.2.1, ts[i].2.2.2.2, h2, ?_⟩
      have h4 := h3 33 _ (recA_33 _ _ _ h1.1)
      rw [h4, List.getD_eq_getElem?_getD, List.getElem?_map, List.getElem?_eq_getElem hi]
      rfl)
    rw [List.length_map] at hli
    cases hb : lightB (ts.map fun t => t.2.2.2.1) with
    | false =>
      rw [hb] at hli
      exact Sh.nils_dark a ts.length c n w hV hli
    | true =>
      rw [hb] at hli
      have hs : ∀ t ∈ ts, t.2.2.2.1 ≤ 140737488355328 := fun t ht => by
        simp [lightB] at hb
        have h1 : t.2.2.2.1 ≤ 5100 := hb.2 _ _ _ _ _ ht
        exact Nat.le_trans h1 (by omega)
      obtain ⟨ys, y1, y2, y3, y4, y5⟩ := els_of h hs
      have hrw : Sh.RW (fun _ => True) w (.slice a ys.length c) ys := ⟨a, c, rfl, fun z hz => ⟨y3 z hz, BySlS.mono (bySl_lift (y5 z hz)) (fun g hg => ⟨trivial, hg⟩)⟩, fun i z hz => by
        obtain ⟨g, o, e, hg, hr⟩ := y4 i z hz
        exact ⟨g, o, e, trivial, hg, hr⟩⟩
      rw [← y1] at hli ⊢
      exact Sh.nils_light ys a c n w hV (by omega) hrw hli

set_option maxRecDepth 100000 in
theorem contract (H : Type) (enc : TypeId × Value → H) (W : World) (base : Nat) (args : Array Value) (ds gs : List (DataW H)) (before : List MemPlace)
    (hval : ∀ (j : Nat) t v, Tryz.f3.params[j]? = some t → args[j]? = some v → Value.okWide Tryz.prog W .any base t v)
    (hW : DataW.Whole enc Tryz.prog Tryz.f3.params.toList Rows.shelfNilsSpec.vars false W args.toList ds gs before) (hlaid : laidMetH Tryz.prog laidFive W) :
    Calls Tryz.prog 3 args W fun e W' => ∃ v, e = .returned v ∧ Rows.shelfNilsSpec.post enc Tryz.prog Tryz.f3 false true false false W args v W' := by
  have hW' := hW
  obtain ⟨p, q, hA0, hV, rfl, hfz, hnd⟩ := hW
  have hA : DataW.TrodAll enc Tryz.prog W 0 (fun _ => true) true Tryz.f3.params.toList args.toList ds p := hA0
  rw [Tryz.params3] at hA hval
  obtain ⟨v0, vs0, d0, ds0, p0, q0, hargs, rfl, rfl, h0, r0⟩ := trodAll_cons hA
  obtain ⟨v1, vs1, d1, ds1, p1, q1, rfl, rfl, rfl, h1, r1⟩ := trodAll_cons r0
  obtain ⟨rfl, rfl, rfl⟩ := trodAll_nil r1
  obtain rfl : args = #[v0, v1] := by cases args; simp_all
  obtain ⟨rfl, rfl⟩ := trodVars_none hV
  obtain ⟨a0, len0, cap0, rfl⟩ := okWide_slice Tryz.underlying22 (hval 0 22 v0 rfl rfl)
  have k0 := h0
  have lt0 : ∀ x ∈ p0, x.block < W.heap.size := by obtain ⟨m, hm⟩ := k0; exact DataW.trod_lt m _ _ _ hm
  obtain ⟨hm0, ts, hts, w0⟩ : len0 ≤ maxLen ∧ ∃ ts : List Raw, ts.length = len0 ∧ ∀ j t, ts[j]? = some t → (t.2.1.length = 32 ∧ ∀ y ∈ t.2.1, 0 ≤ y ∧ y ≤ 255) ∧ InRow W t.2.2.1 t.2.2.2.1 t.2.2.2.2 ∧
      ∃ g o, a0 = some ⟨g, o, none⟩ ∧ g < W.heap.size ∧ W.rangeAt g (o + j * 34) (rawC t) := by
    obtain ⟨fuel, hf⟩ := h0
    exact recs_of hf
  subst hts
  obtain ⟨a1, rfl, rfl, rfl, w1⟩ := open_int Tryz.underlying3 (hval 1 3 v1 rfl rfl) h1
  clear hA0
  refine ((walk a0 cap0 ts a1 W (vars_of_laid hlaid) (by unfold maxLen at hm0; omega) w0).mono fun e W' h => (⟨h.1, h.2.toBelow'⟩ : e = .returned (.bool true) ∧ Below W.heap.size W W')).mono fun e W' ⟨he, bel⟩ => ?_
  subst he
  exact ⟨_, rfl, _, _, _, [], _, [], hW', trodAll_mk1 (shut_bool Tryz.underlying4 _), (trodAll_cons_mk (Below.trod laidOut (by kernel_rfl) (of_decide_eq_true (by kernel_rfl)) k0 bel lt0) (trodAll_cons_mk (shut_int Tryz.underlying3 w1) trodAll_mk0)), rfl, bel.frame _, fun h => by cases h⟩

theorem reads (os : Os) {H : Type} (enc : TypeId × Value → H) : ∃ d places, DataW.whole enc Tryz.prog (({ World.holding Tryz.prog os ⟨#[.cells #[.string synS] 272, .cells #[.string rngS] 272], #[], []⟩ with heap := (((((World.holding Tryz.prog os ⟨#[.cells #[.string synS] 272, .cells #[.string rngS] 272], #[], []⟩).heap.modify 0 (lay #[.iface 270 (.pointer (some ⟨10, 0, none⟩))])).modify 1 (lay #[.iface 270 (.pointer (some ⟨11, 0, none⟩))])).modify 2 (lay tab10)).modify 3 (lay tab32)).modify 4 (lay tab64) } : World).forCall (fun _ _ => 0) ⟨#[], #[.slice none 0 0, .int .i64 0], []⟩).memory Tryz.f3.params.toList Rows.shelfNilsSpec.vars false (#[.slice none 0 0, .int .i64 0] : Array Value).toList 8 = some (d, [], places) :=
  ⟨[.nil, .lit (.int .i64 0)], [], by kernel_rfl⟩

set_option maxRecDepth 100000 in
theorem lifted (os : Os) (started : os.Started) (H : Type) (enc : TypeId × Value → H) (F : Stop.Interp) :
    ReturnsInHanded {} Tryz.checked os 3 .any ((OpenSpec.ofChange Rows.shelfNilsSpec).preRow enc Tryz.prog Tryz.f3 Rows.shelfNilsRow.domain false Rows.shelfNilsRow.laid) (((OpenSpec.ofChange Rows.shelfNilsSpec).at F).post enc Tryz.prog Tryz.f3 false true false false) := by
  obtain ⟨d, places, hx⟩ := reads os enc
  refine returnsInHanded_of_row (C := Tryz.checked) (s := OpenSpec.ofChange Rows.shelfNilsSpec) own started (by kernel_rfl) Tryz.func3
    (witness_row_at (enc := enc) (C := Tryz.checked) false ({ World.holding Tryz.prog os ⟨#[.cells #[.string synS] 272, .cells #[.string rngS] 272], #[], []⟩ with heap := (((((World.holding Tryz.prog os ⟨#[.cells #[.string synS] 272, .cells #[.string rngS] 272], #[], []⟩).heap.modify 0 (lay #[.iface 270 (.pointer (some ⟨10, 0, none⟩))])).modify 1 (lay #[.iface 270 (.pointer (some ⟨11, 0, none⟩))])).modify 2 (lay tab10)).modify 3 (lay tab32)).modify 4 (lay tab64) } : World) #[.slice none 0 0, .int .i64 0] rfl (by kernel_rfl) (by kernel_rfl) (by kernel_rfl)
      (OpenSpec.preRow_of_cond 8 hx (by kernel_rfl) (fun k hk => by cases hk) (by kernel_rfl) (laid_met os _))) ?_
  intro W base args ds gs before hval hW _ _ _ hL _ _
  exact contract H enc W base args ds gs before hval hW hL

theorem said : Rows.ShelfNilsSaid :=
  OpenClaim.holds_of_cond 3 Tryz.f3 rfl rfl rfl rfl rfl rfl rfl ⟨rfl, rfl, rfl, rfl, rfl⟩ rfl rfl rfl rfl rfl (by kernel_rfl) Tryz.func3 closed
    (of_decide_eq_true (by kernel_rfl)) (by unfold Func.isWrapper; first | (rw [if_pos (by decide +kernel)]; kernel_rfl) | (rw [if_neg (by decide +kernel)]; exact ⟨rfl, rfl⟩))
    (fun os started H enc _ F => by rw [OpenClaim.pre_eq_preRow]; exact lifted os started H enc F)

theorem plain (f : FuncId) (fn : Func) (hf : Tryz.pinned.checked.prog.funcNamed Rows.shelfNilsRow.func = some f) (hfn : Tryz.pinned.checked.prog.funcs[f]? = some fn) :
    true = Tryz.pinned.checked.prog.looks [] ∧ ∀ (j : Nat) t, fn.params[j]? = some t → Tryz.pinned.checked.prog.wantsStandIn t = false := by
  obtain rfl : f = 3 := Option.some.inj ((show Tryz.prog.funcNamed Rows.shelfNilsRow.func = some 3 by kernel_rfl).symm.trans hf) |>.symm
  obtain rfl : fn = Tryz.f3 := (Option.some.inj (Tryz.func3.symm.trans hfn)).symm
  refine ⟨by kernel_rfl, fun j t ht => ?_⟩
  rw [Tryz.params3] at ht
  have hm : t ∈ [22, 3] := by simpa using Array.mem_of_getElem? ht
  have hall : ([22, 3].all fun u => !Tryz.prog.wantsStandIn u) = true := by kernel_rfl
  exact (show Tryz.prog.wantsStandIn t = false by simpa using List.all_eq_true.1 hall t hm)

end Go.Proofs.YtkpibphalhhkdaaGreatDoor.shelfNils
namespace Go.Proofs.YtkpibphalhhkdaaGreatDoor
theorem shelfNils_holds : Rows.ShelfNilsCardSaid :=
  Claim7.holds_tied_plain_at .later [] _ _ _ _ shelfNils.said (fun _ h => by cases h) (by kernel_rfl) (fun _ h => by cases h) shelfNils_row_tie rfl ⟨rfl, rfl⟩ (by kernel_rfl) rfl shelfNils.plain (by kernel_rfl)
#print axioms shelfNils_holds
end Go.Proofs.YtkpibphalhhkdaaGreatDoor
