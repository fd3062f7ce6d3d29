/-
  What the statements' own example answers: true, whatever the world.
-/
import Derived.Test.YtnnanmpogjmkiaaGet
import Derived.Test.YtnnanmpogjmkiaaPutTop
import Derived.Test.YtnnanmpogjmkiaaMany
import Derived.Lib.SlBytesConst
namespace Go.Proofs.Ytnnanmpogjmkiaa
open Go.RowKit

def exT : Tr 2 := Tr.mk 3 0 [] [Tr.mk 1 300 [] [], Tr.mk 2 0 [97] []]

theorem exT_form : formOf 2 exT = [3, 0, 9, 1, 0, 2, 1, 44, 2, 0, 1, 97] := by rfl
theorem exT_size : szT 2 exT = 12 := by rfl
theorem exT_get : getT [3, 0, 9, 1, 0, 2, 1, 44, 2, 0, 1, 97] = some (Tr.mk 3 0 [] [Tr.mk 1 300 [] [], Tr.mk 2 0 [97] []]) := by rfl

theorem bySl_one (w : World) : BySl w.heap.size (w.alloc (Obj.cells #[Value.int IntKind.u8 97] 5 (1, 2))).heap.size (w.alloc (Obj.cells #[Value.int IntKind.u8 97] 5 (1, 2))) (.slice (some ⟨w.heap.size, 0, none⟩) 1 1) [97] := by
  refine ⟨_, 1, rfl, by simp, by decide, by simp, by simp, by simp, fun _ => ⟨w.heap.size, 0, rfl, Nat.le_refl _, by simp, fun i hi => ?_⟩⟩
  have : i = 0 := by simpa using hi
  subst this
  rw [Nat.add_zero, World.cell?_alloc_mark]
  rfl

theorem bySl_lit (w : World) (l : List Int) (hl : l.length ≤ 1000) (hx : ∀ x ∈ l, 0 ≤ x ∧ x ≤ 255) : BySl w.heap.size (w.alloc (Obj.cells (l.map (Value.int .u8)).toArray 5)).heap.size (w.alloc (Obj.cells (l.map (Value.int .u8)).toArray 5)) (.slice (some ⟨w.heap.size, 0, none⟩) l.length l.length) l := by
  refine ⟨_, l.length, rfl, Nat.le_refl _, by unfold maxLen; omega, by simp, by omega, hx, fun _ => ⟨w.heap.size, 0, rfl, Nat.le_refl _, by simp, fun i hi => ?_⟩⟩
  rw [Nat.zero_add, World.cell?_alloc_new]
  simp [List.getElem?_eq_getElem hi]

/-- The two values of the example, in one row. -/
theorem ksl_two (w : World) (a : Option Addr) (c : Nat) (h : BySl 0 w.heap.size w (.slice a 1 c) [97]) :
    KSl 0 (w.alloc (Obj.cells #[Value.int IntKind.i64 1, Value.int IntKind.u64 300, Value.slice none 0 0, Value.slice none 0 0, Value.int IntKind.i64 2, Value.int IntKind.u64 0, Value.slice a 1 c, Value.slice none 0 0] 29)).heap.size
      (w.alloc (Obj.cells #[Value.int IntKind.i64 1, Value.int IntKind.u64 300, Value.slice none 0 0, Value.slice none 0 0, Value.int IntKind.i64 2, Value.int IntKind.u64 0, Value.slice a 1 c, Value.slice none 0 0] 29))
      (Rep 0 (w.alloc (Obj.cells #[Value.int IntKind.i64 1, Value.int IntKind.u64 300, Value.slice none 0 0, Value.slice none 0 0, Value.int IntKind.i64 2, Value.int IntKind.u64 0, Value.slice a 1 c, Value.slice none 0 0] 29)).heap.size
        (w.alloc (Obj.cells #[Value.int IntKind.i64 1, Value.int IntKind.u64 300, Value.slice none 0 0, Value.slice none 0 0, Value.int IntKind.i64 2, Value.int IntKind.u64 0, Value.slice a 1 c, Value.slice none 0 0] 29)) 1)
      (.slice (some ⟨w.heap.size, 0, none⟩) 2 2) [Tr.mk 1 300 [] [], Tr.mk 2 0 [97] []] := by
  refine ⟨_, 2, rfl, by simp, by decide, by simp, by simp, fun _ => ⟨w.heap.size, 0, rfl, Nat.zero_le _, by simp, fun j t hj => ?_⟩⟩
  match j, hj with
  | 0, hj =>
    simp only [List.getElem?_cons_zero, Option.some.injEq] at hj
    subst hj
    exact ⟨.slice none 0 0, .slice none 0 0, by simp [Tr.mk, Tr.hd], by simp [Tr.mk, Tr.hd], by simp, by simp, (by decide : (0 : Int) ≤ 300), (by decide : (300 : Int) ≤ 18446744073709551615), BySl.none _ _ _, KSl.none _ _ _ _⟩
  | 1, hj =>
    simp only [List.getElem?_cons_succ, List.getElem?_cons_zero, Option.some.injEq] at hj
    subst hj
    exact ⟨.slice a 1 c, .slice none 0 0, by simp [Tr.mk, Tr.hd], by simp [Tr.mk, Tr.hd], by simp, by simp, (by decide : (0 : Int) ≤ 0), (by decide : (0 : Int) ≤ 18446744073709551615), h.agree ((Agree.refl _ _ _).alloc (Nat.le_refl _) _) (Nat.le_refl _) (by simp), KSl.none _ _ _ _⟩
  | k + 2, hj => simp at hj

set_option maxHeartbeats 2000000 in
set_option maxRecDepth 100000 in
theorem alive_any (w : World) : Calls Try.prog 9 #[] w fun e w' => e = .returned (.bool true) ∧ Below w.heap.size w w' := by
  have kc := fun (w : World) (C : Array Value) (n c : Nat) => Lib.run_convert_bytes_const (P := Try.prog) w 26 5 C n c Try.underlying26 Try.underlying5
  go_enter Try.func9, Try.ntmps9
  go_wp2_with fail
  refine (number_any 300 _).mono ?_
  rintro e w1 ⟨rfl, hb1⟩
  have Hb1 := hid hb1
  clear hb1
  go_wp2_with fail
  refine (bytes_any _ [97] _ ((bySl_one w1).agree (Agree.refl _ _ _) (Nat.zero_le _) (Nat.le_refl _))).mono ?_
  rintro e w2 ⟨v2, rfl, hv2, hb2⟩
  have hz2 := hb2.size
  simp at hz2
  obtain ⟨a2, c2, rfl, hr2⟩ := id hv2
  clear hr2
  have Hv2 : Hid (BySl 0 w2.heap.size w2 (.slice a2 1 c2) [97]) := hv2.agree (Agree.refl _ _ _) (Nat.zero_le _) (Nat.le_refl _)
  have Hb2 : Hid (Below w.heap.size w w2) := (Hb1.out.alloc Hb1.out.size _).trans (hb2.mono (by have := Hb1.out.size; simp; omega))
  clear hb2 hv2
  go_wp2_with fail
  refine (many_any [Tr.mk 1 300 [] [], Tr.mk 2 0 [97] []] _ _ (ksl_two w2 a2 c2 Hv2.out) (by omega)).mono ?_
  rintro e w3 ⟨sb3, sk3, rfl, hr3, hb3⟩
  have hz3 := hb3.size
  simp at hz3
  have Hr3 : Hid (Rep 0 w3.heap.size w3 2 exT sb3 sk3) := hr3.agree (Agree.refl _ _ _) (Nat.zero_le _) (Nat.le_refl _)
  obtain ⟨a3, l3, p3, a4, l4, p4, rfl, rfl⟩ := hr3.sl
  have Hb3 : Hid (Below w.heap.size w w3) := (Hb2.out.alloc Hb2.out.size _).trans (hb3.mono (by have := Hb2.out.size; simp; omega))
  clear hb3 hr3
  go_wp2_with fail
  refine (Put_yes exT _ _ _ Hr3.out (by rw [exT_size]; decide)).mono ?_
  rintro e w4 ⟨v4, rfl, hv4, hb4⟩
  rw [exT_form] at hv4
  have hz4 := hb4.size
  obtain ⟨a5, c5, rfl, hr5⟩ := id hv4
  clear hr5
  have Hv4 : Hid (BySl 0 w4.heap.size w4 (.slice a5 12 c5) [3, 0, 9, 1, 0, 2, 1, 44, 2, 0, 1, 97]) := hv4.agree (Agree.refl _ _ _) (Nat.zero_le _) (Nat.le_refl _)
  have Hb4 : Hid (Below w.heap.size w w4) := Hb3.out.trans (hb4.mono Hb3.out.size)
  clear hb4 hv4
  go_wp2_with fail
  refine (get_any _ _ _ Hv4.out).mono ?_
  rintro e w5 ⟨hres, hb5⟩
  have hz5 := hb5.size
  rcases hres with ⟨hn, _⟩ | ⟨t, sb5, sk5, hs, rfl, hr5⟩
  · rw [exT_get] at hn
    simp at hn
  · rw [exT_get] at hs
    simp only [Option.some.injEq] at hs
    subst hs
    have Hb5 : Hid (Below w.heap.size w w5) := Hb4.out.trans (hb5.mono Hb4.out.size)
    have Hv5 : Hid (BySl 0 w5.heap.size w5 (.slice a5 12 c5) [3, 0, 9, 1, 0, 2, 1, 44, 2, 0, 1, 97]) := Hv4.out.agree (Agree.below hb5) (Nat.le_refl _) hz5
    simp only [show (Tr.mk 3 0 [] [Tr.mk 1 300 [] [], Tr.mk 2 0 [97] []] : Tr 9).hd.1 = 3 from rfl, show (Tr.mk 3 0 [] [Tr.mk 1 300 [] [], Tr.mk 2 0 [97] []] : Tr 9).hd.2.1 = 0 from rfl]
    obtain ⟨_, _, ⟨a6, c6, rfl, _⟩, ⟨a7, c7, rfl, hl7, _, _, _, h7⟩⟩ := hr5
    obtain ⟨b, o, rfl, _, hbw, hcells⟩ := h7 (by simp [Tr.kd, Tr.mk])
    obtain ⟨_, _, _, hN, _⟩ := hcells 0 (Tr.mk 1 300 [] []) rfl
    have hN' : w5.cell? ⟨b, o + 1, none⟩ = some (.int .u64 300) := by simpa [Tr.mk, Tr.hd] using hN
    clear hN hcells h7 hb5
    simp only [show (Tr.mk 3 0 [] [Tr.mk 1 300 [] [], Tr.mk 2 0 [97] []] : Tr 9).hd.2.2.length = 0 from rfl, show (Tr.mk 3 0 [] [Tr.mk 1 300 [] [], Tr.mk 2 0 [97] []] : Tr 9).kd.length = 2 from rfl] at hl7 ⊢
    go_wp2_with fail
    refine (refBytes_any _ _ [3, 0, 9, 1, 0, 2, 1, 44, 2, 0, 1, 97] [3, 0, 9, 1, 0, 2, 1, 44, 2, 0, 1, 97] _ ?_ ?_).mono ?_
    · exact Hv5.out.agree (((Agree.refl _ _ _).alloc (Nat.le_refl _) _).alloc (by simp) _) (Nat.le_refl _) (by simp; omega)
    · have h := bySl_lit (w5.alloc (Obj.cells #[Value.int IntKind.i64 3, Value.int IntKind.u64 0, Value.slice a6 0 c6, Value.slice (some ⟨b, o, none⟩) 2 c7] 29)) [3, 0, 9, 1, 0, 2, 1, 44, 2, 0, 1, 97] (by decide) (by decide)
      have h' := h.agree (L' := 0) (Agree.refl _ _ _) (Nat.zero_le _) (Nat.le_refl _)
      simpa using h'
    · rintro e w7 ⟨rfl, hb7⟩
      obtain ⟨hc, hf⟩ := bcell hb7
      have k3 : w7.cell? ⟨w5.heap.size, 3, none⟩ = some (.slice (some ⟨b, o, none⟩) 2 c7) := by rw [hc _ _ (by simp; omega)]; simp [go_sem]
      have kN : w7.cell? ⟨b, o + 1, none⟩ = some (.int .u64 300) := by rw [hc _ _ (by simp; omega), World.cell?_alloc_past _ _ _ (by simp; omega), World.cell?_alloc_past _ _ _ hbw]; exact hN'
      have Hb7 : Hid (Below w.heap.size w w7) := (((Hb5.out.alloc Hb5.out.size _).alloc (by have := Hb5.out.size; simp; omega) _).trans (hb7.mono (by have := Hb5.out.size; simp; omega)))
      clear hb7 hc hf
      go_wp2_with fail
      go_ret
      exact ⟨rfl, Hb7.out⟩

end Go.Proofs.Ytnnanmpogjmkiaa
