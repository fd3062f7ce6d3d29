/- Of the proof: the texts PkWholeStep, PkWholeFacts, one behind the other. -/
import Derived.Test.YtkekajmmcjacgaaGreatDoorB17
import Derived.WalkKit
import Derived.ProofKit
import Derived.OpenShut
import Derived.ShutString
import Derived.ChangeOld
import Derived.Below
import Derived.Test.YtkekajmmcjacgaaGreatDoorChecked
section
/-
  The steps to PackWhole's card: it is proved that PackWhole returns true for every input, and leaves each argument as it read, the five listed variables of strconv and math/bits being laid as the program's text lays them: the card 'Rows.PackWholeCardSaid', under no condition of its own.
-/
namespace Go.Proofs.YtkekajmmcjacgaaGreatDoor.packWhole
open Go.ChangeShapes Go.WideShapes Go.ChangeAt Go.RowKit
open Go.ChangeMaps (open_string shut_string)
open Sim (hid)

set_option maxHeartbeats 1000000 in
/-- Many are not light. -/
theorem light_long (a : Option Addr) (L cap : Nat) (w : World) (h1 : 20 < (L : Int)) (_hL : L ≤ 9223372036854775807) :
    Calls Tryz.prog 45 #[.slice a L cap] w fun e w' => e = .returned (.bool false) ∧ w' = w := by
  go_enter Tryz.func45, Tryz.ntmps45
  go_wp2
  go_ret
  exact ⟨rfl, rfl⟩

set_option maxHeartbeats 1000000 in
set_option maxRecDepth 100000 in
theorem dark (a : Option Addr) (L cap : Nat) (z1 z2 : Int) (ca : Option Addr) (cl cc : Nat) (lb : Bool) (w : World) (hd : lb = false ∨ (lb = true ∧ 60 < (cl : Int)) ∨ (lb = true ∧ ¬ 60 < (cl : Int) ∧ z1 < 0)) (_hc : (cl : Int) ≤ 9223372036854775807) (h : Calls Tryz.prog 45 #[.slice a L cap] w fun e w' => e = .returned (.bool lb) ∧ w' = w) :
    Calls Tryz.prog 4 #[.slice a L cap, .int .i64 z1, .int .i64 z2, .slice ca cl cc] w fun e w' => e = .returned (.bool true) ∧ Below w.heap.size w w' := by
  have H := hid h
  clear h
  rcases hd with rfl | ⟨rfl, h1⟩ | ⟨rfl, h1, h2⟩
  · go_enter Tryz.func4, Tryz.ntmps4
    go_wp2_with fail
    refine H.out.mono ?_
    rintro e w0 ⟨rfl, hw0⟩
    rw [hw0]
    clear hw0 w0 H
    go_wp2_with fail
    refine (alive_any w).mono ?_
    rintro e w1 ⟨rfl, hb⟩
    have HB := hid hb
    clear hb
    go_wp2_with fail
    go_ret
    exact ⟨rfl, HB.out⟩
  · go_enter Tryz.func4, Tryz.ntmps4
    go_wp2_with fail
    refine H.out.mono ?_
    rintro e w0 ⟨rfl, hw0⟩
    rw [hw0]
    clear hw0 w0 H
    go_wp2_with fail
    refine (alive_any w).mono ?_
    rintro e w1 ⟨rfl, hb⟩
    have HB := hid hb
    clear hb
    go_wp2_with fail
    go_ret
    exact ⟨rfl, HB.out⟩
  · go_enter Tryz.func4, Tryz.ntmps4
    go_wp2_with fail
    refine H.out.mono ?_
    rintro e w0 ⟨rfl, hw0⟩
    rw [hw0]
    clear hw0 w0 H
    go_wp2_with fail
    refine (alive_any w).mono ?_
    rintro e w1 ⟨rfl, hb⟩
    have HB := hid hb
    clear hb
    go_wp2_with fail
    go_ret
    exact ⟨rfl, HB.out⟩

theorem walk (a : Option Addr) (c : Nat) (ts : List Raw) (z1 z2 : Int) (ca : Option Addr) (cl cc : Nat) (w : World) (hm : ts.length ≤ 9223372036854775807)
    (h : ∀ j t, ts[j]? = some t → (t.2.1.length = 32 ∧ ∀ y ∈ t.2.1, 0 ≤ y ∧ y ≤ 255) ∧ InRow w t.2.2.1 t.2.2.2.1 t.2.2.2.2 ∧ ∃ g o, a = some ⟨g, o, none⟩ ∧ g < w.heap.size ∧ w.rangeAt g (o + j * 34) (rawC t)) (hz1 : -9223372036854775808 ≤ z1 ∧ z1 ≤ 9223372036854775807) (hcl : cl ≤ 9223372036854775807) (hc : Sim.InR .i64 w ca cl cc) :
    Calls Tryz.prog 4 #[.slice a ts.length c, .int .i64 z1, .int .i64 z2, .slice ca cl cc] w fun e w' => e = .returned (.bool true) ∧ Below w.heap.size w w' := by
  by_cases hl : 20 < (ts.length : Int)
  · exact dark a ts.length c z1 z2 ca cl cc false w (.inl rfl) (by omega) (light_long a ts.length c w hl hm)
  · have hli := light_any a c (ts.map fun t => t.2.2.2.1) w (by rw [List.length_map]; omega) (fun l hl => by
      obtain ⟨t, ht, rfl⟩ := List.mem_map.1 hl
      obtain ⟨j, hj⟩ := List.mem_iff_getElem?.1 ht
      exact (h j t hj).2.1.le) (fun i hi => by
      rw [List.length_map] at hi
      obtain ⟨h1, _, g, o, h2, _, h3⟩ := h i ts[i] (List.getElem?_eq_getElem hi)
      refine ⟨g, o, ts[i].2.2.1, ts[i].2.2.2.2, h2, ?_⟩
      have h4 := h3 33 _ (recA_33 _ _ _ h1.1)
      rw [h4, List.getD_eq_getElem?_getD, List.getElem?_map, List.getElem?_eq_getElem hi]
      rfl)
    rw [List.length_map] at hli
    cases hb : lightB (ts.map fun t => t.2.2.2.1) with
    | false =>
      rw [hb] at hli
      exact dark a ts.length c z1 z2 ca cl cc false w (.inl rfl) (by omega) hli
    | true =>
      rw [hb] at hli
      have hs : ∀ t ∈ ts, t.2.2.2.1 ≤ 140737488355328 := fun t ht => by
        simp [lightB] at hb
        have h1 : t.2.2.2.1 ≤ 5100 := hb.2 _ _ _ _ _ ht
        exact Nat.le_trans h1 (by omega)
      obtain ⟨ys, y1, y2, y3, y4, y5⟩ := els_of h hs
      by_cases h60 : 60 < (cl : Int)
      · exact dark a ts.length c z1 z2 ca cl cc true w (.inr (.inl ⟨rfl, h60⟩)) (by omega) hli
      · by_cases hz0 : z1 < 0
        · exact dark a ts.length c z1 z2 ca cl cc true w (.inr (.inr ⟨rfl, h60, hz0⟩)) (by omega) hli
        · obtain ⟨st, rfl⟩ : ∃ st : Nat, z1 = st := ⟨z1.toNat, by omega⟩
          obtain ⟨cuts, rfl, hin⟩ := hc.ints (by omega)
          rw [← y1]
          exact whole_light ys a c st z2 ca cc cuts w (by rw [y2]; exact hb) y3 y4 y5 (by omega) hin (by omega)

set_option maxRecDepth 100000 in
theorem contract (H : Type) (enc : TypeId × Value → H) (W : World) (base : Nat) (args : Array Value) (ds gs : List (DataW H)) (before : List MemPlace)
    (hval : ∀ (j : Nat) t v, Tryz.f4.params[j]? = some t → args[j]? = some v → Value.okWide Tryz.prog W .any base t v)
    (hW : DataW.Whole enc Tryz.prog Tryz.f4.params.toList Rows.packWholeSpec.vars false W args.toList ds gs before) (_hL : laidMetH Tryz.prog laidFive W) :
    Calls Tryz.prog 4 args W fun e W' => ∃ v, e = .returned v ∧ Rows.packWholeSpec.post enc Tryz.prog Tryz.f4 false true false false W args v W' := by
  have hW' := hW
  obtain ⟨p, q, hA0, hV, rfl, hfz, hnd⟩ := hW
  have hA : DataW.TrodAll enc Tryz.prog W 0 (fun _ => true) true Tryz.f4.params.toList args.toList ds p := hA0
  rw [Tryz.params4] at hA hval
  obtain ⟨v0, vs0, d0, ds0, p0, q0, hargs, rfl, rfl, h0, r0⟩ := trodAll_cons hA
  obtain ⟨v1, vs1, d1, ds1, p1, q1, rfl, rfl, rfl, h1, r1⟩ := trodAll_cons r0
  obtain ⟨v2, vs2, d2, ds2, p2, q2, rfl, rfl, rfl, h2, r2⟩ := trodAll_cons r1
  obtain ⟨v3, vs3, d3, ds3, p3, q3, rfl, rfl, rfl, h3, r3⟩ := trodAll_cons r2
  obtain ⟨rfl, rfl, rfl⟩ := trodAll_nil r3
  obtain rfl : args = #[v0, v1, v2, v3] := by cases args; simp_all
  obtain ⟨rfl, rfl⟩ := trodVars_none hV
  obtain ⟨a0, len0, cap0, rfl⟩ := okWide_slice Tryz.underlying87 (hval 0 87 v0 rfl rfl)
  have k0 := h0
  have lt0 : ∀ x ∈ p0, x.block < W.heap.size := by obtain ⟨m, hm⟩ := k0; exact DataW.trod_lt m _ _ _ hm
  obtain ⟨hm0, ts, hts, w0⟩ : len0 ≤ maxLen ∧ ∃ ts : List Raw, ts.length = len0 ∧ ∀ j t, ts[j]? = some t → (t.2.1.length = 32 ∧ ∀ y ∈ t.2.1, 0 ≤ y ∧ y ≤ 255) ∧ InRow W t.2.2.1 t.2.2.2.1 t.2.2.2.2 ∧
      ∃ g o, a0 = some ⟨g, o, none⟩ ∧ g < W.heap.size ∧ W.rangeAt g (o + j * 34) (rawC t) := by
    obtain ⟨fuel, hf⟩ := h0
    exact recs_of hf
  subst hts
  obtain ⟨a1, rfl, rfl, rfl, w1⟩ := open_int Tryz.underlying3 (hval 1 3 v1 rfl rfl) h1
  obtain ⟨a2, rfl, rfl, rfl, w2⟩ := open_int Tryz.underlying3 (hval 2 3 v2 rfl rfl) h2
  obtain ⟨a3, len3, cap3, rfl⟩ := okWide_slice Tryz.underlying41 (hval 3 41 v3 rfl rfl)
  have b1 := i64_wf w1
  have k3 := h3
  have lt3 : ∀ x ∈ p3, x.block < W.heap.size := by obtain ⟨m, hm⟩ := k3; exact DataW.trod_lt m _ _ _ hm
  have w3 : Sim.InR .i64 W a3 len3 cap3 := by
    obtain ⟨fuel, hf⟩ := h3
    obtain ⟨a, l, c, e, hin⟩ := Sim.in_of Tryz.underlying41 Tryz.underlying3 (by kernel_rfl) hf
    simp only [Value.cells, List.cons.injEq, Value.slice.injEq, and_true] at e
    obtain ⟨rfl, rfl, rfl⟩ := e
    exact hin
  clear hA0
  refine (walk a0 cap0 ts a1 a2 a3 len3 cap3 W (by unfold maxLen at hm0; omega) w0 b1 w3.le w3).mono fun e W' ⟨he, bel⟩ => ?_
  subst he
  exact ⟨_, rfl, _, _, _, [], _, [], hW', trodAll_mk1 (shut_bool Tryz.underlying4 _), (trodAll_cons_mk (Below.trod laidOut (by kernel_rfl) (of_decide_eq_true (by kernel_rfl)) k0 bel lt0) (trodAll_cons_mk (shut_int Tryz.underlying3 w1) (trodAll_cons_mk (shut_int Tryz.underlying3 w2) (trodAll_cons_mk (Below.trod laidOut (by kernel_rfl) (of_decide_eq_true (by kernel_rfl)) k3 bel lt3) trodAll_mk0)))), rfl, bel.frame _, fun h => by cases h⟩

theorem reads (os : Os) {H : Type} (enc : TypeId × Value → H) : ∃ d places, DataW.whole enc Tryz.prog (({ World.holding Tryz.prog os ⟨#[.cells #[.string synS] 360, .cells #[.string rngS] 360], #[], []⟩ with heap := (((((World.holding Tryz.prog os ⟨#[.cells #[.string synS] 360, .cells #[.string rngS] 360], #[], []⟩).heap.modify 0 (lay #[.iface 358 (.pointer (some ⟨10, 0, none⟩))])).modify 1 (lay #[.iface 358 (.pointer (some ⟨11, 0, none⟩))])).modify 2 (lay tab10)).modify 3 (lay tab32)).modify 4 (lay tab64) } : World).forCall (fun _ _ => 0) ⟨#[], #[.slice none 0 0, .int .i64 0, .int .i64 0, .slice none 0 0], []⟩).memory Tryz.f4.params.toList Rows.packWholeSpec.vars false (#[.slice none 0 0, .int .i64 0, .int .i64 0, .slice none 0 0] : Array Value).toList 8 = some ([.nil, .lit (.int .i64 0), .lit (.int .i64 0), d], [], places) :=
  ⟨.nil, [], by kernel_rfl⟩

set_option maxRecDepth 100000 in
theorem lifted (os : Os) (started : os.Started) (H : Type) (enc : TypeId × Value → H) (F : Stop.Interp) :
    ReturnsInHanded {} Tryz.checked os 4 .any ((OpenSpec.ofChange Rows.packWholeSpec).preRow enc Tryz.prog Tryz.f4 Rows.packWholeRow.domain false Rows.packWholeRow.laid) (((OpenSpec.ofChange Rows.packWholeSpec).at F).post enc Tryz.prog Tryz.f4 false true false false) := by
  obtain ⟨d, places, hx⟩ := reads os enc
  refine returnsInHanded_of_row (C := Tryz.checked) (s := OpenSpec.ofChange Rows.packWholeSpec) own started (by kernel_rfl) Tryz.func4
    (witness_row_at (enc := enc) (C := Tryz.checked) false ({ World.holding Tryz.prog os ⟨#[.cells #[.string synS] 360, .cells #[.string rngS] 360], #[], []⟩ with heap := (((((World.holding Tryz.prog os ⟨#[.cells #[.string synS] 360, .cells #[.string rngS] 360], #[], []⟩).heap.modify 0 (lay #[.iface 358 (.pointer (some ⟨10, 0, none⟩))])).modify 1 (lay #[.iface 358 (.pointer (some ⟨11, 0, none⟩))])).modify 2 (lay tab10)).modify 3 (lay tab32)).modify 4 (lay tab64) } : World) #[.slice none 0 0, .int .i64 0, .int .i64 0, .slice none 0 0] rfl (by kernel_rfl) (by kernel_rfl) (by kernel_rfl)
      (OpenSpec.preRow_of_cond 8 hx (by kernel_rfl) (fun k hk => by cases hk) (by kernel_rfl) (laid_met os _))) ?_
  intro W base args ds gs before hval hW _ _ _ hL _ _
  exact contract H enc W base args ds gs before hval hW hL

end Go.Proofs.YtkekajmmcjacgaaGreatDoor.packWhole
end

section
/-
  The closed facts of PackWhole's row, one by one: which functions her road reaches.
-/
namespace Go.Proofs.YtkekajmmcjacgaaGreatDoor.packWhole
open Go.ChangeShapes Go.WideShapes Go.ChangeAt Go.RowKit

theorem f10 : (Rows.packWholeRow.inPlace == Tryz.prog.inPlace 4) = true := by kernel_rfl
theorem f11 : (Rows.packWholeRow.unfollowed == Tryz.prog.unfollowed 4) = true := by kernel_rfl
theorem f12 : (Rows.packWholeRow.recurses == Tryz.prog.recurses 4) = true := by kernel_rfl
theorem f13 : (Rows.packWholeRow.named == Tryz.prog.varsNamed 4) = true := by kernel_rfl
theorem closed : joinedFacts Tryz.prog 4 Tryz.f4 (OpenSpec.ofChange Rows.packWholeSpec).bare Rows.packWholeRow = true := by
  unfold joinedFacts
  rw [f10, f11, f12, f13]
  kernel_rfl
end Go.Proofs.YtkekajmmcjacgaaGreatDoor.packWhole
end
