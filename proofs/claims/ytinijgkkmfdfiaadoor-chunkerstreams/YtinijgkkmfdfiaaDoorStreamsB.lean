/-
  ChunkerStreams at each input; parts that came in.
-/
import Derived.Test.YtinijgkkmfdfiaaDoorStreams
import Derived.Test.YtinijgkkmfdfiaaDoorRow
import Derived.Deep.Matrix
namespace Go.Proofs.YtinijgkkmfdfiaaDoor
open Go.RowKit

theorem open_rows {H : Type} {enc : TypeId × Value → H} {W : World} {a : Option Addr} {len cap : Nat} {d : DataW H} {p : List MemPlace} (h : DataW.Trod enc Tryd.prog W 0 (fun _ => true) true 27 (.slice a len cap) d p) : len ≤ 9223372036854775807 ∧ InRows W a len := by
  obtain ⟨fuel, hf⟩ := h
  rcases Go.Deep.open_int_rows (k := .u8) Tryd.underlying27 Tryd.underlying25 Tryd.underlying5 (by kernel_rfl) (by kernel_rfl) hf with ⟨hcs, _⟩ | ⟨x, l, c, A, L, C, Z, hcs, _, hl, hm, hx, hr⟩
  · simp only [Value.cells, List.cons.injEq, Value.slice.injEq, and_true] at hcs
    obtain ⟨rfl, rfl, rfl⟩ := hcs
    exact ⟨by omega, fun r hr => absurd hr (by omega)⟩
  · simp only [Value.cells, List.cons.injEq, Value.slice.injEq, and_true] at hcs
    obtain ⟨rfl, rfl, rfl⟩ := hcs
    refine ⟨by unfold maxLen at hm; omega, fun r hlt => ?_⟩
    have c0 := (hr 0 (by omega)).1
    have hx0 := spot_none c0
    obtain ⟨b, o, s⟩ := x
    simp only at hx0
    subst hx0
    have hbl := World.block_lt_of_cell? W _ c0
    obtain ⟨h1, h2, h3, h4, h5, h6, h7⟩ := hr r (by omega)
    rw [Addr.add_mid] at h1
    have row : IsRow .u8 W (A r) (L r) (C r) (Z r) := by
      cases e : A r with
      | none =>
        have hc := h6 e
        refine .inl ⟨rfl, by omega, hc, ?_⟩
        exact List.length_eq_zero_iff.1 (by omega)
      | some a' =>
        exact .inr ⟨a', rfl, h2, h3, h4, fun i hi => (h7 a' e).2 i (by omega), h5⟩
    refine ⟨b, o, rfl, hbl, A r, L r, C r, h1, row.le, fun hle => ?_⟩
    obtain ⟨r1, e1⟩ := row_bytes row (by omega)
    exact ⟨_, e1, r1.toP (fun _ _ => trivial)⟩

set_option maxHeartbeats 400000 in
theorem streams_other (s mn av mx : Int) (a : Option Addr) (K cap : Nat) (w : World) (h : 30 < K) (hm : K ≤ 9223372036854775807) (hT : Tab w) :
    Calls Tryd.prog 4 #[ruleV s mn av mx, .slice a K cap] w fun e w' => e = .returned (.bool true) ∧ Below w.heap.size w w' := by
  have HT := hid hT
  have h2 := hT.lt
  clear hT
  go_enter Tryd.func4, Tryd.ntmps4
  go_wp2_with fail
  refine (alive_any _ (HT.out.below ((Below.refl _ _).alloc (Nat.le_refl _) _) h2)).mono ?_
  rintro e w1 ⟨rfl, hb⟩
  have HB := hid hb
  clear hb
  go_wp2
  go_ret
  exact ⟨rfl, ((Below.refl _ _).alloc (Nat.le_refl _) _).trans (HB.out.mono (by simp))⟩

set_option maxHeartbeats 1000000 in
theorem streams_no (s mn av mx : Int) (hr : rightB mn av mx = false) (a : Option Addr) (K cap : Nat) (w : World) (h : K ≤ 30) (hT : Tab w) :
    Calls Tryd.prog 4 #[ruleV s mn av mx, .slice a K cap] w fun e w' => e = .returned (.bool true) ∧ Below w.heap.size w w' := by
  have HT := hid hT
  have h2 := hT.lt
  have HR := hid hr
  clear hT hr
  have hnot : ∀ (x : Bool) (w : World), (Op.unary .not (.bool x)).run Tryd.prog w = .ok (.bool (!x)) w := fun _ _ => rfl
  have HB1 : Hid (Below w.heap.size w (w.alloc (.cells #[.int .u64 s, .int .i64 mn, .int .i64 av, .int .i64 mx] 24))) := (Below.refl _ _).alloc (Nat.le_refl _) _
  have HQ : Hid (∀ j, (w.alloc (.cells #[.int .u64 s, .int .i64 mn, .int .i64 av, .int .i64 mx] 24)).cell? ⟨w.heap.size, j, none⟩ = (#[.int .u64 s, .int .i64 mn, .int .i64 av, .int .i64 mx] : Array Value)[j]?) := fun j => World.cell?_alloc_at _ _ _ _ rfl
  have hz1 : w.heap.size < (w.alloc (.cells #[.int .u64 s, .int .i64 mn, .int .i64 av, .int .i64 mx] 24)).heap.size := by simp
  go_enter Tryd.func4, Tryd.ntmps4
  go_upto_region 3 with fail
  generalize w.alloc (.cells #[.int .u64 s, .int .i64 mn, .int .i64 av, .int .i64 mx] 24) = W at *
  have r0 : ∀ w', Below W.heap.size W w' → w'.cell? ⟨w.heap.size, 0, none⟩ = some (.int .u64 s) := fun w' h => (h.cell (p := ⟨w.heap.size, 0, none⟩) hz1).trans (HQ.out 0)
  have r1 : ∀ w', Below W.heap.size W w' → w'.cell? ⟨w.heap.size, 1, none⟩ = some (.int .i64 mn) := fun w' h => (h.cell (p := ⟨w.heap.size, 1, none⟩) hz1).trans (HQ.out 1)
  have r2 : ∀ w', Below W.heap.size W w' → w'.cell? ⟨w.heap.size, 2, none⟩ = some (.int .i64 av) := fun w' h => (h.cell (p := ⟨w.heap.size, 2, none⟩) hz1).trans (HQ.out 2)
  have r3 : ∀ w', Below W.heap.size W w' → w'.cell? ⟨w.heap.size, 3, none⟩ = some (.int .i64 mx) := fun w' h => (h.cell (p := ⟨w.heap.size, 3, none⟩) hz1).trans (HQ.out 3)
  have b0 : Below W.heap.size W W := Below.refl _ _
  have HTB : Hid (∀ V, Below W.heap.size W V → Tab V) := fun V h => HT.out.below (HB1.out.trans (h.mono (by omega))) h2
  go_wp2_with fail
  refine (own9_any s mn av mx W).mono ?_
  rintro e w2 ⟨rfl, b2⟩
  go_wp2_with fail
  refine (open_no s mn av mx HR.out w2).mono ?_
  rintro e w3 ⟨rfl, b3'⟩
  have b3 : Below W.heap.size W w3 := b2.trans (b3'.mono b2.size)
  clear b3' b2
  go_wp2_with fail
  refine (right13_any s mn av mx w3).mono ?_
  rintro e w4 ⟨rfl, b4'⟩
  rw [HR.out]
  have b4 : Below W.heap.size W w4 := b3.trans (b4'.mono b3.size)
  clear b4' b3
  go_wp2_with fail
  refine (alive_any w4 (HTB.out w4 b4)).mono ?_
  rintro e w8 ⟨rfl, b8⟩
  have HB8 := hid (b4.trans (b8.mono b4.size))
  clear b8
  go_wp2
  go_ret
  exact ⟨rfl, HB1.out.trans (HB8.out.mono (by omega))⟩

end Go.Proofs.YtinijgkkmfdfiaaDoor
