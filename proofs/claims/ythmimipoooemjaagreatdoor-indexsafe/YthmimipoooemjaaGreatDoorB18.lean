/- Of the proof: the texts SgRRight, SgRSort, IxSafe, FrOpen, one behind the other. -/
import Derived.Test.YthmimipoooemjaaGreatDoorAbb
import Derived.Test.YthmimipoooemjaaGreatDoorB12
import Derived.Test.YthmimipoooemjaaGreatDoorB17
import Derived.Deep.DeepCutAuto
import Derived.Test.YthmimipoooemjaaGreatDoorB16
import Derived.Test.YthmimipoooemjaaGreatDoorB13
import Derived.Test.YthmimipoooemjaaGreatDoorB15
import Derived.Test.YthmimipoooemjaaGreatDoorB6
import Derived.ProofKit
import Derived.OpenShut
import Derived.Deep.Slices
import Derived.Deep.Strs
import Derived.Lib.SmallJoins
import Derived.WideKeyArr2
section
/-
  The document's Right of entries.
-/
namespace Go.Proofs.YthmimipoooemjaaGreatDoor.Sg
open Go.RowKit
open Sim (hid Kp No)

theorem rev_row {P : Nat → Prop} {w : World} {a : Option Addr} {n c : Nat} {d : List Ent} (h : EV P w (.slice a n c) d) (hd : d ≠ []) : ∃ g o, a = some ⟨g, o, none⟩ ∧ P g ∧ ERow w g o d := by
  obtain ⟨a', c', e, _, _, _, _, h6⟩ := h
  simp only [Value.slice.injEq] at e
  rw [e.1]
  exact h6 hd
theorem plB_no {nm : List Int} {p q r : Int} (h : p < 1 ∨ 999999 < p ∨ q < 0 ∨ 12000 < q ∨ r < 1 ∨ 12000 < r) : plB (nm, p, q, r) = false := by
  cases hp : plB (nm, p, q, r) with
  | false => rfl
  | true =>
    simp [plB] at hp
    omega
theorem notRight {d : List Ent} {k : Nat} {e : Ent} (he : d[k]? = some e) (hp : plB e = false) : ¬ RightP d := fun h => by
  have := (h.2 k e (List.getElem?_eq_some_iff.1 he).1 he).1
  rw [hp] at this
  cases this
theorem notRise {d : List Ent} {k : Nat} {x e : Ent} (hx : d[k]? = some x) (he : d[k + 1]? = some e) (hl : lexB x.1 e.1 = false) : ¬ RightP d := fun h => by
  have := (h.2 (k + 1) e (List.getElem?_eq_some_iff.1 he).1 he).2 k x rfl hx
  rw [hl] at this
  cases this

set_option maxHeartbeats 4000000 in
set_option maxRecDepth 100000 in
theorem rright_any (w : World) (v : Value) (d : List Ent) (P : Nat → Prop) (hv : EV P w v d) (hl : d.length ≤ 1000000) :
    Calls Tryz.prog 33 #[v] w fun e w' => RAns d e ∧ Kp No w w' := by
  have HV := hid hv
  obtain ⟨a, c, e, _⟩ := hv
  subst e
  obtain ⟨n, hn⟩ : ∃ n, d.length = n := ⟨_, rfl⟩
  have HN := hid hn
  rw [hn] at HV hl ⊢
  clear hn
  go_enter Tryz.func33, Tryz.ntmps33
  go_wp2_with fail
  go_loopw [3] (fun x wr => ∃ (k : Nat), x = .int .i64 (k : Int) ∧ k ≤ n ∧ Hid (UpTo d k) ∧ Hid (Kp No w wr)) (fun x _ => n - (intOf x).toNat)
  case atStart => exact ⟨0, rfl, Nat.zero_le _, UpTo.zero d, Kp.refl _ _⟩
  case round =>
    obtain ⟨k, rfl, hkn, HU, HK⟩ := hrel
    by_cases hlt : k < n
    · have hltI : (k : Int) < (n : Int) := by omega
      have hwk : IntKind.i64.wrap ((k : Int) + 1) = ((k + 1 : Nat) : Int) := by rw [IntKind.wrap_i64]; omega
      obtain ⟨y, hy⟩ : ∃ y, d[k]? = some y := ⟨_, List.getElem?_eq_getElem (by rw [HN.out]; exact hlt)⟩
      obtain ⟨g, o, rfl, _, hr⟩ := rev_row (HV.out.kept HK.out) (by intro e; have := HN.out; rw [e] at this; simp at this; omega)
      obtain ⟨hyo, hyr⟩ := hr.2 k y hy
      obtain ⟨nm, p, q, r⟩ := y
      have hgw : g < wr.heap.size := hr.1
      have hpl := rng_place hyo hyr
      have c0 : wr.cell? ⟨g, o + k * 35 + 32, none⟩ = some (.int .i64 p) := hpl 0 _ rfl
      have c1 : wr.cell? ⟨g, o + k * 35 + 32 + 1, none⟩ = some (.int .i64 q) := hpl 1 _ rfl
      have c2 : wr.cell? ⟨g, o + k * 35 + 32 + 2, none⟩ = some (.int .i64 r) := hpl 2 _ rfl
      have HY := hid hy
      have HYO := hid hyo
      have HROW := hid hr
      clear hpl hr hyo hyr hy
      by_cases h0 : p < 1
      · have d0 : decide (p < 1) = true := decide_eq_true h0
        have HNR : Hid (¬ RightP d) := notRight HY.out (plB_no (.inl h0))
        go_wp2_with fail
        go_quiet (fail)
        go_wp2_with fail
        go_ret
        exact ⟨⟨false, rfl, fun e => (by cases e), fun e => absurd e HNR.out⟩, (HK.out.alloc _).drewN _⟩
      · have d0 : decide (p < 1) = false := decide_eq_false h0
        by_cases h1 : 999999 < p
        · have d1 : decide (999999 < p) = true := decide_eq_true h1
          have HNR : Hid (¬ RightP d) := notRight HY.out (plB_no (.inr (.inl h1)))
          go_wp2_with fail
          go_quiet (fail)
          go_wp2_with fail
          go_ret
          exact ⟨⟨false, rfl, fun e => (by cases e), fun e => absurd e HNR.out⟩, (HK.out.alloc _).drewN _⟩
        · have d1 : decide (999999 < p) = false := decide_eq_false h1
          by_cases h2 : q < 0
          · have d2 : decide (q < 0) = true := decide_eq_true h2
            have HNR : Hid (¬ RightP d) := notRight HY.out (plB_no (.inr (.inr (.inl h2))))
            go_wp2_with fail
            go_quiet (fail)
            go_wp2_with fail
            go_ret
            exact ⟨⟨false, rfl, fun e => (by cases e), fun e => absurd e HNR.out⟩, (HK.out.alloc _).drewN _⟩
          · have d2 : decide (q < 0) = false := decide_eq_false h2
            by_cases h3 : 12000 < q
            · have d3 : decide (12000 < q) = true := decide_eq_true h3
              have HNR : Hid (¬ RightP d) := notRight HY.out (plB_no (.inr (.inr (.inr (.inl h3)))))
              go_wp2_with fail
              go_quiet (fail)
              go_wp2_with fail
              go_ret
              exact ⟨⟨false, rfl, fun e => (by cases e), fun e => absurd e HNR.out⟩, (HK.out.alloc _).drewN _⟩
            · have d3 : decide (12000 < q) = false := decide_eq_false h3
              by_cases h4 : r < 1
              · have d4 : decide (r < 1) = true := decide_eq_true h4
                have HNR : Hid (¬ RightP d) := notRight HY.out (plB_no (.inr (.inr (.inr (.inr (.inl h4))))))
                go_wp2_with fail
                go_quiet (fail)
                go_wp2_with fail
                go_ret
                exact ⟨⟨false, rfl, fun e => (by cases e), fun e => absurd e HNR.out⟩, (HK.out.alloc _).drewN _⟩
              · have d4 : decide (r < 1) = false := decide_eq_false h4
                by_cases h5 : 12000 < r
                · have d5 : decide (12000 < r) = true := decide_eq_true h5
                  have HNR : Hid (¬ RightP d) := notRight HY.out (plB_no (.inr (.inr (.inr (.inr (.inr h5))))))
                  go_wp2_with fail
                  go_quiet (fail)
                  go_wp2_with fail
                  go_ret
                  exact ⟨⟨false, rfl, fun e => (by cases e), fun e => absurd e HNR.out⟩, (HK.out.alloc _).drewN _⟩
                · have d5 : decide (12000 < r) = false := decide_eq_false h5
                  have HPB : Hid (plB (nm, p, q, r) = true) := by
                    rw [Hid, plB]
                    simp
                    omega
                  cases k with
                  | zero =>
                    have HNX : Hid (UpTo d (0 + 1)) := HU.out.next HY.out HPB.out (fun j x hj => by omega)
                    have hk0 : decide ((0 : Int) < ((0 : Nat) : Int)) = false := by simp
                    go_wp2_with fail
                    go_quiet (fail)
                    go_wp2_with fail
                    go_round
                    case rel => exact ⟨0 + 1, by first | rfl | go_num, by omega, HNX.out, (HK.out.alloc _).drewN _⟩
                    case measure => simp [intOf]; omega
                  | succ k =>
                    have hk0 : decide ((0 : Int) < ((k + 1 : Nat) : Int)) = true := by simp
                    obtain ⟨x, hx⟩ : ∃ x, d[k]? = some x := ⟨_, List.getElem?_eq_getElem (by rw [HN.out]; omega)⟩
                    have hwm : IntKind.i64.wrap (((k + 1 : Nat) : Int) - 1) = (k : Int) := by rw [IntKind.wrap_i64]; omega
                    have hw0 : IntKind.i64.wrap (k : Int) = (k : Int) := by rw [IntKind.wrap_i64]; omega
                    have hkn1 : k < n := by omega
                    have hkn2 : ¬ ((k : Int) + 1 < 0) := by omega
                    have hxr := HROW.out.2 k x hx
                    have hyr := HROW.out.2 (k + 1) _ HY.out
                    have HX := hid hx
                    obtain ⟨W4, hW4⟩ : ∃ W4, wr.alloc (.cells #[.int .i64 p, .int .i64 q, .int .i64 r] 157) = W4 := ⟨_, rfl⟩
                    have hK4 : Kp No wr W4 := by rw [← hW4]; exact (Kp.refl No wr).alloc _
                    have hz4 : wr.heap.size < W4.heap.size := by rw [← hW4]; simp
                    have HV4 : Hid (∀ V, Kp No W4 V → V.cell? ⟨wr.heap.size, 0, none⟩ = some (.int .i64 p) ∧ V.cell? ⟨wr.heap.size, 1, none⟩ = some (.int .i64 q) ∧ V.cell? ⟨wr.heap.size, 2, none⟩ = some (.int .i64 r)) := fun V hV => by
                      have cc : ∀ j, V.cell? ⟨wr.heap.size, j, none⟩ = W4.cell? ⟨wr.heap.size, j, none⟩ := fun j => hV.cell (p := ⟨wr.heap.size, j, none⟩) hz4 (fun x => x)
                      rw [cc, cc, cc, ← hW4]
                      refine ⟨by simp, by simp, by simp⟩
                    have HLX : Hid (∀ V, Kp No W4 V → V.rangeAt g (o + k * 35) (b8 x.1)) := fun V hV j u hu => ((hK4.andNone hV).cell (p := ⟨g, _, none⟩) hgw (fun x => x)).trans (rng_name hxr.2 j u hu)
                    have HLY : Hid (∀ V, Kp No W4 V → V.rangeAt g (o + (k + 1) * 35) (b8 nm)) := fun V hV j u hu => ((hK4.andNone hV).cell (p := ⟨g, _, none⟩) hgw (fun x => x)).trans (rng_name hyr.2 j u hu)
                    have HI1 : Hid ((Tryz.prog.info? 53).map (·.size) = some (b8 x.1).length) := by rw [Hid, b8_length, hxr.1.1]; exact infH
                    have HI2 : Hid ((Tryz.prog.info? 53).map (·.size) = some (b8 nm).length) := by rw [Hid, b8_length, HYO.out.1]; exact infH
                    have HLE := hid (fun W => less_any x.1 nm W hxr.1.1 HYO.out.1)
                    have HK4 := hid (HK.out.andNone hK4)
                    generalize b8 x.1 = bx at *
                    generalize b8 nm = bY at *
                    clear hxr hyr hx hK4
                    cases hlx : lexB x.1 nm with
                    | false =>
                      have HNR : Hid (¬ RightP d) := notRise HX.out HY.out hlx
                      rw [hlx] at HLE
                      clear hlx
                      go_wp2_with fail
                    
                      clear hW4 c0 c1 c2
                      refine wp_region_held_drew (S := fun V => Kp No W4 V) (by kernel_rfl) ((Kp.refl _ _).drew) (fun hHeld => ?_)
                      refine wpAnyH_take (i := 0) (oi := ⟨some 16, .fieldAddr 157 (.tmp 4) 0, 0, "ref.go:22", #[], none⟩) (v := .pointer (some ⟨wr.heap.size, 0, none⟩)) rfl (by kernel_rfl) (by kernel_rfl) (by kernel_rfl) (fun _ _ _ h => h) (Or.inl ⟨by rfl, fun w' hw' => by (clear hw'; go_simp)⟩) hHeld ?_
                      simp only [Act.put, sjA, sjB, sjC]
                      refine wpAnyH_take (i := 1) (oi := ⟨some 17, .load 3 (.tmp 16), 3, "ref.go:22", #[⟨0, .data⟩], none⟩) (v := .int .i64 p) rfl (by kernel_rfl) (by kernel_rfl) (by kernel_rfl) (fun _ _ _ h => h) (Or.inl ⟨by rfl, fun w' hw' => by (have qq := (HV4.out _ hw').1; clear hw'; go_simp)⟩) hHeld ?_
                      simp only [Act.put, sjA, sjB, sjC]
                      refine wpAnyH_take (i := 2) (oi := ⟨some 18, .binOp BinOp.lss 3 (.tmp 17) (Operand.const (Value.int IntKind.i64 1)) 3, 4, "ref.go:22", #[⟨1, .data⟩], none⟩) (v := .bool false) rfl (by kernel_rfl) (by kernel_rfl) (by kernel_rfl) (fun _ _ _ h => h) (Or.inl ⟨by rfl, fun w' hw' => by (clear hw'; go_simp)⟩) hHeld ?_
                      simp only [Act.put, sjA, sjB, sjC]
                      refine wpAnyH_take (i := 3) (oi := ⟨some 19, .move (.tmp 18), 4, "ref.go:22", #[⟨2, .data⟩], none⟩) (v := .bool false) rfl (by kernel_rfl) (by kernel_rfl) (by kernel_rfl) (fun _ _ _ h => h) (Or.inl ⟨by rfl, fun w' hw' => by (clear hw'; go_simp)⟩) hHeld ?_
                      simp only [Act.put, sjA, sjB, sjC]
                      refine wpAnyH_take (i := 4) (oi := ⟨some 20, .fieldAddr 157 (.tmp 4) 0, 0, "ref.go:22", #[⟨3, .guard⟩], some (3, false)⟩) (v := .pointer (some ⟨wr.heap.size, 0, none⟩)) rfl (by kernel_rfl) (by kernel_rfl) (by kernel_rfl) (fun _ _ _ h => h) (Or.inl ⟨by rfl, fun w' hw' => by (clear hw'; go_simp)⟩) hHeld ?_
                      simp only [Act.put, sjA, sjB, sjC]
                      refine wpAnyH_take (i := 5) (oi := ⟨some 21, .load 3 (.tmp 20), 3, "ref.go:22", #[⟨4, .data⟩, ⟨3, .guard⟩], some (3, false)⟩) (v := .int .i64 p) rfl (by kernel_rfl) (by kernel_rfl) (by kernel_rfl) (fun _ _ _ h => h) (Or.inl ⟨by rfl, fun w' hw' => by (have qq := (HV4.out _ hw').1; clear hw'; go_simp)⟩) hHeld ?_
                      simp only [Act.put, sjA, sjB, sjC]
                      refine wpAnyH_take (i := 6) (oi := ⟨some 22, .binOp BinOp.gtr 3 (.tmp 21) (Operand.const (Value.int IntKind.i64 999999)) 3, 4, "ref.go:22", #[⟨5, .data⟩, ⟨3, .guard⟩], some (3, false)⟩) (v := .bool false) rfl (by kernel_rfl) (by kernel_rfl) (by kernel_rfl) (fun _ _ _ h => h) (Or.inl ⟨by rfl, fun w' hw' => by (clear hw'; go_simp)⟩) hHeld ?_
                      simp only [Act.put, sjA, sjB, sjC]
                      refine wpAnyH_take (i := 7) (oi := ⟨some 23, .pick (.tmp 19) (Operand.const (Value.bool true)) (.tmp 22), 4, "ref.go:22", #[⟨3, .data⟩, ⟨6, .data⟩], none⟩) (v := .bool false) rfl (by kernel_rfl) (by kernel_rfl) (by kernel_rfl) (fun _ _ _ h => h) (Or.inl ⟨by rfl, fun w' hw' => by (clear hw'; go_simp)⟩) hHeld ?_
                      simp only [Act.put, sjA, sjB, sjC]
                      refine wpAnyH_take (i := 8) (oi := ⟨some 24, .move (.tmp 23), 4, "ref.go:22", #[⟨7, .data⟩, ⟨3, .chain⟩], none⟩) (v := .bool false) rfl (by kernel_rfl) (by kernel_rfl) (by kernel_rfl) (fun _ _ _ h => h) (Or.inl ⟨by rfl, fun w' hw' => by (clear hw'; go_simp)⟩) hHeld ?_
                      simp only [Act.put, sjA, sjB, sjC]
                      refine wpAnyH_take (i := 9) (oi := ⟨some 25, .fieldAddr 157 (.tmp 4) 1, 0, "ref.go:22", #[⟨8, .guard⟩], some (8, false)⟩) (v := .pointer (some ⟨wr.heap.size, 1, none⟩)) rfl (by kernel_rfl) (by kernel_rfl) (by kernel_rfl) (fun _ _ _ h => h) (Or.inl ⟨by rfl, fun w' hw' => by (clear hw'; go_simp)⟩) hHeld ?_
                      simp only [Act.put, sjA, sjB, sjC]
                      refine wpAnyH_take (i := 10) (oi := ⟨some 26, .load 3 (.tmp 25), 3, "ref.go:22", #[⟨9, .data⟩, ⟨8, .guard⟩], some (8, false)⟩) (v := .int .i64 q) rfl (by kernel_rfl) (by kernel_rfl) (by kernel_rfl) (fun _ _ _ h => h) (Or.inl ⟨by rfl, fun w' hw' => by (have qq := (HV4.out _ hw').2.1; clear hw'; go_simp)⟩) hHeld ?_
                      simp only [Act.put, sjA, sjB, sjC]
                      refine wpAnyH_take (i := 11) (oi := ⟨some 27, .binOp BinOp.lss 3 (.tmp 26) (Operand.const (Value.int IntKind.i64 0)) 3, 4, "ref.go:22", #[⟨10, .data⟩, ⟨8, .guard⟩], some (8, false)⟩) (v := .bool false) rfl (by kernel_rfl) (by kernel_rfl) (by kernel_rfl) (fun _ _ _ h => h) (Or.inl ⟨by rfl, fun w' hw' => by (clear hw'; go_simp)⟩) hHeld ?_
                      simp only [Act.put, sjA, sjB, sjC]
                      refine wpAnyH_take (i := 12) (oi := ⟨some 28, .pick (.tmp 24) (Operand.const (Value.bool true)) (.tmp 27), 4, "ref.go:22", #[⟨8, .data⟩, ⟨11, .data⟩], none⟩) (v := .bool false) rfl (by kernel_rfl) (by kernel_rfl) (by kernel_rfl) (fun _ _ _ h => h) (Or.inl ⟨by rfl, fun w' hw' => by (clear hw'; go_simp)⟩) hHeld ?_
                      simp only [Act.put, sjA, sjB, sjC]
                      refine wpAnyH_take (i := 13) (oi := ⟨some 29, .move (.tmp 28), 4, "ref.go:22", #[⟨12, .data⟩, ⟨8, .chain⟩], none⟩) (v := .bool false) rfl (by kernel_rfl) (by kernel_rfl) (by kernel_rfl) (fun _ _ _ h => h) (Or.inl ⟨by rfl, fun w' hw' => by (clear hw'; go_simp)⟩) hHeld ?_
                      simp only [Act.put, sjA, sjB, sjC]
                      refine wpAnyH_take (i := 14) (oi := ⟨some 30, .fieldAddr 157 (.tmp 4) 1, 0, "ref.go:22", #[⟨13, .guard⟩], some (13, false)⟩) (v := .pointer (some ⟨wr.heap.size, 1, none⟩)) rfl (by kernel_rfl) (by kernel_rfl) (by kernel_rfl) (fun _ _ _ h => h) (Or.inl ⟨by rfl, fun w' hw' => by (clear hw'; go_simp)⟩) hHeld ?_
                      simp only [Act.put, sjA, sjB, sjC]
                      refine wpAnyH_take (i := 15) (oi := ⟨some 31, .load 3 (.tmp 30), 3, "ref.go:22", #[⟨14, .data⟩, ⟨13, .guard⟩], some (13, false)⟩) (v := .int .i64 q) rfl (by kernel_rfl) (by kernel_rfl) (by kernel_rfl) (fun _ _ _ h => h) (Or.inl ⟨by rfl, fun w' hw' => by (have qq := (HV4.out _ hw').2.1; clear hw'; go_simp)⟩) hHeld ?_
                      simp only [Act.put, sjA, sjB, sjC]
                      refine wpAnyH_take (i := 16) (oi := ⟨some 32, .binOp BinOp.gtr 3 (.tmp 31) (Operand.const (Value.int IntKind.i64 12000)) 3, 4, "ref.go:22", #[⟨15, .data⟩, ⟨13, .guard⟩], some (13, false)⟩) (v := .bool false) rfl (by kernel_rfl) (by kernel_rfl) (by kernel_rfl) (fun _ _ _ h => h) (Or.inl ⟨by rfl, fun w' hw' => by (clear hw'; go_simp)⟩) hHeld ?_
                      simp only [Act.put, sjA, sjB, sjC]
                      refine wpAnyH_take (i := 17) (oi := ⟨some 33, .pick (.tmp 29) (Operand.const (Value.bool true)) (.tmp 32), 4, "ref.go:22", #[⟨13, .data⟩, ⟨16, .data⟩], none⟩) (v := .bool false) rfl (by kernel_rfl) (by kernel_rfl) (by kernel_rfl) (fun _ _ _ h => h) (Or.inl ⟨by rfl, fun w' hw' => by (clear hw'; go_simp)⟩) hHeld ?_
                      simp only [Act.put, sjA, sjB, sjC]
                      refine wpAnyH_take (i := 18) (oi := ⟨some 34, .move (.tmp 33), 4, "ref.go:22", #[⟨17, .data⟩, ⟨13, .chain⟩], none⟩) (v := .bool false) rfl (by kernel_rfl) (by kernel_rfl) (by kernel_rfl) (fun _ _ _ h => h) (Or.inl ⟨by rfl, fun w' hw' => by (clear hw'; go_simp)⟩) hHeld ?_
                      simp only [Act.put, sjA, sjB, sjC]
                      refine wpAnyH_take (i := 19) (oi := ⟨some 35, .fieldAddr 157 (.tmp 4) 2, 0, "ref.go:22", #[⟨18, .guard⟩], some (18, false)⟩) (v := .pointer (some ⟨wr.heap.size, 2, none⟩)) rfl (by kernel_rfl) (by kernel_rfl) (by kernel_rfl) (fun _ _ _ h => h) (Or.inl ⟨by rfl, fun w' hw' => by (clear hw'; go_simp)⟩) hHeld ?_
                      simp only [Act.put, sjA, sjB, sjC]
                      refine wpAnyH_take (i := 20) (oi := ⟨some 36, .load 3 (.tmp 35), 3, "ref.go:22", #[⟨19, .data⟩, ⟨18, .guard⟩], some (18, false)⟩) (v := .int .i64 r) rfl (by kernel_rfl) (by kernel_rfl) (by kernel_rfl) (fun _ _ _ h => h) (Or.inl ⟨by rfl, fun w' hw' => by (have qq := (HV4.out _ hw').2.2; clear hw'; go_simp)⟩) hHeld ?_
                      simp only [Act.put, sjA, sjB, sjC]
                      refine wpAnyH_take (i := 21) (oi := ⟨some 37, .binOp BinOp.lss 3 (.tmp 36) (Operand.const (Value.int IntKind.i64 1)) 3, 4, "ref.go:22", #[⟨20, .data⟩, ⟨18, .guard⟩], some (18, false)⟩) (v := .bool false) rfl (by kernel_rfl) (by kernel_rfl) (by kernel_rfl) (fun _ _ _ h => h) (Or.inl ⟨by rfl, fun w' hw' => by (clear hw'; go_simp)⟩) hHeld ?_
                      simp only [Act.put, sjA, sjB, sjC]
                      refine wpAnyH_take (i := 22) (oi := ⟨some 38, .pick (.tmp 34) (Operand.const (Value.bool true)) (.tmp 37), 4, "ref.go:22", #[⟨18, .data⟩, ⟨21, .data⟩], none⟩) (v := .bool false) rfl (by kernel_rfl) (by kernel_rfl) (by kernel_rfl) (fun _ _ _ h => h) (Or.inl ⟨by rfl, fun w' hw' => by (clear hw'; go_simp)⟩) hHeld ?_
                      simp only [Act.put, sjA, sjB, sjC]
                      refine wpAnyH_take (i := 23) (oi := ⟨some 39, .move (.tmp 38), 4, "ref.go:22", #[⟨22, .data⟩, ⟨18, .chain⟩], none⟩) (v := .bool false) rfl (by kernel_rfl) (by kernel_rfl) (by kernel_rfl) (fun _ _ _ h => h) (Or.inl ⟨by rfl, fun w' hw' => by (clear hw'; go_simp)⟩) hHeld ?_
                      simp only [Act.put, sjA, sjB, sjC]
                      refine wpAnyH_take (i := 24) (oi := ⟨some 40, .fieldAddr 157 (.tmp 4) 2, 0, "ref.go:22", #[⟨23, .guard⟩], some (23, false)⟩) (v := .pointer (some ⟨wr.heap.size, 2, none⟩)) rfl (by kernel_rfl) (by kernel_rfl) (by kernel_rfl) (fun _ _ _ h => h) (Or.inl ⟨by rfl, fun w' hw' => by (clear hw'; go_simp)⟩) hHeld ?_
                      simp only [Act.put, sjA, sjB, sjC]
                      refine wpAnyH_take (i := 25) (oi := ⟨some 41, .load 3 (.tmp 40), 3, "ref.go:22", #[⟨24, .data⟩, ⟨23, .guard⟩], some (23, false)⟩) (v := .int .i64 r) rfl (by kernel_rfl) (by kernel_rfl) (by kernel_rfl) (fun _ _ _ h => h) (Or.inl ⟨by rfl, fun w' hw' => by (have qq := (HV4.out _ hw').2.2; clear hw'; go_simp)⟩) hHeld ?_
                      simp only [Act.put, sjA, sjB, sjC]
                      refine wpAnyH_take (i := 26) (oi := ⟨some 42, .binOp BinOp.gtr 3 (.tmp 41) (Operand.const (Value.int IntKind.i64 12000)) 3, 4, "ref.go:22", #[⟨25, .data⟩, ⟨23, .guard⟩], some (23, false)⟩) (v := .bool false) rfl (by kernel_rfl) (by kernel_rfl) (by kernel_rfl) (fun _ _ _ h => h) (Or.inl ⟨by rfl, fun w' hw' => by (clear hw'; go_simp)⟩) hHeld ?_
                      simp only [Act.put, sjA, sjB, sjC]
                      refine wpAnyH_take (i := 27) (oi := ⟨some 43, .pick (.tmp 39) (Operand.const (Value.bool true)) (.tmp 42), 4, "ref.go:22", #[⟨23, .data⟩, ⟨26, .data⟩], none⟩) (v := .bool false) rfl (by kernel_rfl) (by kernel_rfl) (by kernel_rfl) (fun _ _ _ h => h) (Or.inl ⟨by rfl, fun w' hw' => by (clear hw'; go_simp)⟩) hHeld ?_
                      simp only [Act.put, sjA, sjB, sjC]
                      refine wpAnyH_take (i := 28) (oi := ⟨some 44, .move (.tmp 43), 4, "ref.go:22", #[⟨27, .data⟩, ⟨23, .chain⟩], none⟩) (v := .bool false) rfl (by kernel_rfl) (by kernel_rfl) (by kernel_rfl) (fun _ _ _ h => h) (Or.inl ⟨by rfl, fun w' hw' => by (clear hw'; go_simp)⟩) hHeld ?_
                      simp only [Act.put, sjA, sjB, sjC]
                      refine wpAnyH_take (i := 29) (oi := ⟨some 45, .move (.tmp 3), 3, "ref.go:22", #[⟨28, .guard⟩], some (28, false)⟩) (v := .int .i64 ((k + 1 : Nat) : Int)) rfl (by kernel_rfl) (by kernel_rfl) (by kernel_rfl) (fun _ _ _ h => h) (Or.inl ⟨by rfl, fun w' hw' => by (clear hw'; go_simp)⟩) hHeld ?_
                      simp only [Act.put, sjA, sjB, sjC]
                      refine wpAnyH_take (i := 30) (oi := ⟨some 46, .binOp BinOp.gtr 3 (.tmp 45) (Operand.const (Value.int IntKind.i64 0)) 3, 4, "ref.go:22", #[⟨29, .data⟩, ⟨28, .guard⟩], some (28, false)⟩) (v := .bool true) rfl (by kernel_rfl) (by kernel_rfl) (by kernel_rfl) (fun _ _ _ h => h) (Or.inl ⟨by rfl, fun w' hw' => by (clear hw'; go_simp)⟩) hHeld ?_
                      simp only [Act.put, sjA, sjB, sjC]
                      refine wpAnyH_take (i := 31) (oi := ⟨some 47, .move (.tmp 46), 4, "ref.go:22", #[⟨30, .data⟩, ⟨28, .chain⟩, ⟨28, .guard⟩], some (28, false)⟩) (v := .bool true) rfl (by kernel_rfl) (by kernel_rfl) (by kernel_rfl) (fun _ _ _ h => h) (Or.inl ⟨by rfl, fun w' hw' => by (clear hw'; go_simp)⟩) hHeld ?_
                      simp only [Act.put, sjA, sjB, sjC]
                      refine wpAnyH_take (i := 32) (oi := ⟨some 48, .move (.tmp 0), 77, "ref.go:22", #[⟨31, .guard⟩], some (31, true)⟩) (v := .slice (some ⟨g, o, none⟩) n c) rfl (by kernel_rfl) (by kernel_rfl) (by kernel_rfl) (fun _ _ _ h => h) (Or.inl ⟨by rfl, fun w' hw' => by (clear hw'; go_simp)⟩) hHeld ?_
                      simp only [Act.put, sjA, sjB, sjC]
                      refine wpAnyH_take (i := 33) (oi := ⟨some 49, .move (.tmp 3), 3, "ref.go:22", #[⟨31, .guard⟩], some (31, true)⟩) (v := .int .i64 ((k + 1 : Nat) : Int)) rfl (by kernel_rfl) (by kernel_rfl) (by kernel_rfl) (fun _ _ _ h => h) (Or.inl ⟨by rfl, fun w' hw' => by (clear hw'; go_simp)⟩) hHeld ?_
                      simp only [Act.put, sjA, sjB, sjC]
                      refine wpAnyH_take (i := 34) (oi := ⟨some 50, .binOp BinOp.sub 3 (.tmp 49) (Operand.const (Value.int IntKind.i64 1)) 3, 3, "ref.go:22", #[⟨33, .data⟩, ⟨31, .guard⟩], some (31, true)⟩) (v := .int .i64 (k : Int)) rfl (by kernel_rfl) (by kernel_rfl) (by kernel_rfl) (fun _ _ _ h => h) (Or.inl ⟨by rfl, fun w' hw' => by (clear hw'; go_simp)⟩) hHeld ?_
                      simp only [Act.put, sjA, sjB, sjC]
                      refine wpAnyH_take (i := 35) (oi := ⟨some 51, .indexAddr 77 (.tmp 48) (.tmp 50), 0, "ref.go:22", #[⟨32, .data⟩, ⟨34, .data⟩, ⟨31, .guard⟩], some (31, true)⟩) (v := .pointer (some ⟨g, o + k * 35, none⟩)) rfl (by kernel_rfl) (by kernel_rfl) (by kernel_rfl) (fun _ _ _ h => h) (Or.inl ⟨by rfl, fun w' hw' => by (clear hw'; go_simp)⟩) hHeld ?_
                      simp only [Act.put, sjA, sjB, sjC]
                      refine wpAnyH_take (i := 36) (oi := ⟨some 52, .fieldAddr 159 (.tmp 51) 0, 0, "ref.go:22", #[⟨35, .data⟩, ⟨31, .guard⟩], some (31, true)⟩) (v := .pointer (some ⟨g, o + k * 35, none⟩)) rfl (by kernel_rfl) (by kernel_rfl) (by kernel_rfl) (fun _ _ _ h => h) (Or.inl ⟨by rfl, fun w' hw' => by (clear hw'; go_simp)⟩) hHeld ?_
                      simp only [Act.put, sjA, sjB, sjC]
                      refine wpAnyH_take (i := 37) (oi := ⟨some 53, .load 53 (.tmp 52), 53, "ref.go:22", #[⟨36, .data⟩, ⟨31, .guard⟩], some (31, true)⟩) (v := .agg bx.toArray) rfl (by kernel_rfl) (by kernel_rfl) (by kernel_rfl) (fun _ _ _ h => h) (yieldsIf_load_mid (by rfl) _ _ rfl g (o + k * 35) rfl bx _ (HLX.out) Tryz.underlying53 rfl HI1.out) hHeld ?_
                      simp only [Act.put, sjA, sjB, sjC]
                      refine wpAnyH_take (i := 38) (oi := ⟨some 54, .move (.tmp 0), 77, "ref.go:22", #[⟨31, .guard⟩], some (31, true)⟩) (v := .slice (some ⟨g, o, none⟩) n c) rfl (by kernel_rfl) (by kernel_rfl) (by kernel_rfl) (fun _ _ _ h => h) (Or.inl ⟨by rfl, fun w' hw' => by (clear hw'; go_simp)⟩) hHeld ?_
                      simp only [Act.put, sjA, sjB, sjC]
                      refine wpAnyH_take (i := 39) (oi := ⟨some 55, .move (.tmp 3), 3, "ref.go:22", #[⟨31, .guard⟩], some (31, true)⟩) (v := .int .i64 ((k + 1 : Nat) : Int)) rfl (by kernel_rfl) (by kernel_rfl) (by kernel_rfl) (fun _ _ _ h => h) (Or.inl ⟨by rfl, fun w' hw' => by (clear hw'; go_simp)⟩) hHeld ?_
                      simp only [Act.put, sjA, sjB, sjC]
                      refine wpAnyH_take (i := 40) (oi := ⟨some 56, .indexAddr 77 (.tmp 54) (.tmp 55), 0, "ref.go:22", #[⟨38, .data⟩, ⟨39, .data⟩, ⟨31, .guard⟩], some (31, true)⟩) (v := .pointer (some ⟨g, o + (k + 1) * 35, none⟩)) rfl (by kernel_rfl) (by kernel_rfl) (by kernel_rfl) (fun _ _ _ h => h) (Or.inl ⟨by rfl, fun w' hw' => by (clear hw'; go_simp)⟩) hHeld ?_
                      simp only [Act.put, sjA, sjB, sjC]
                      refine wpAnyH_take (i := 41) (oi := ⟨some 57, .fieldAddr 159 (.tmp 56) 0, 0, "ref.go:22", #[⟨40, .data⟩, ⟨31, .guard⟩], some (31, true)⟩) (v := .pointer (some ⟨g, o + (k + 1) * 35, none⟩)) rfl (by kernel_rfl) (by kernel_rfl) (by kernel_rfl) (fun _ _ _ h => h) (Or.inl ⟨by rfl, fun w' hw' => by (clear hw'; go_simp)⟩) hHeld ?_
                      simp only [Act.put, sjA, sjB, sjC]
                      refine wpAnyH_take (i := 42) (oi := ⟨some 58, .load 53 (.tmp 57), 53, "ref.go:22", #[⟨41, .data⟩, ⟨31, .guard⟩], some (31, true)⟩) (v := .agg bY.toArray) rfl (by kernel_rfl) (by kernel_rfl) (by kernel_rfl) (fun _ _ _ h => h) (yieldsIf_load_mid (by rfl) _ _ rfl g (o + (k + 1) * 35) rfl bY _ (HLY.out) Tryz.underlying53 rfl HI2.out) hHeld ?_
                      simp only [Act.put, sjA, sjB, sjC]
                      refine wpAnyH_ready (rs := [43]) (by kernel_rfl) (by simp) ?_
                      refine AllReadyH.cons (o := ⟨some 59, .call { callee := Callee.value (Operand.func 73), args := #[.tmp 53, .tmp 58], argTypes := #[53, 53] }, 4, "ref.go:22", #[⟨37, .data⟩, ⟨42, .data⟩, ⟨31, .chain⟩, ⟨31, .guard⟩], some (31, true)⟩) rfl (fun K hK => ?_) AllReadyH.nil
                      go_simp
                      refine (HLE.out _).mono ?_
                      rintro e w3 ⟨rfl, hb3⟩
                      have HK3 : Hid (Kp No W4 w3) := ((Kp.refl No W4).drew).andNone hb3
                      clear hb3
                      go_wp2_with fail
                      refine hK.out _ _ (HK3.out) (fun hh => ?_)
                      clear hK K hHeld
                      have hHeld := hh
                      clear hh
                      try simp only [Act.put, sjA, sjB, sjC]
                      refine wpAnyH_take (i := 44) (oi := ⟨some 60, .unOp UnOp.not 4 (.tmp 59), 4, "ref.go:22", #[⟨43, .data⟩, ⟨31, .guard⟩], some (31, true)⟩) (v := .bool true) rfl (by kernel_rfl) (by kernel_rfl) (by kernel_rfl) (fun _ _ _ h => h) (Or.inl ⟨by rfl, fun w' hw' => by (clear hw'; go_simp)⟩) hHeld ?_
                      simp only [Act.put, sjA, sjB, sjC]
                      refine wpAnyH_take (i := 45) (oi := ⟨some 61, .pick (.tmp 47) (.tmp 60) (Operand.const (Value.bool false)), 4, "ref.go:22", #[⟨31, .data⟩, ⟨44, .data⟩, ⟨28, .guard⟩], some (28, false)⟩) (v := .bool true) rfl (by kernel_rfl) (by kernel_rfl) (by kernel_rfl) (fun _ _ _ h => h) (Or.inl ⟨by rfl, fun w' hw' => by (clear hw'; go_simp)⟩) hHeld ?_
                      simp only [Act.put, sjA, sjB, sjC]
                      refine wpAnyH_take (i := 46) (oi := ⟨some 62, .pick (.tmp 44) (Operand.const (Value.bool true)) (.tmp 61), 4, "ref.go:22", #[⟨28, .data⟩, ⟨45, .data⟩], none⟩) (v := .bool true) rfl (by kernel_rfl) (by kernel_rfl) (by kernel_rfl) (fun _ _ _ h => h) (Or.inl ⟨by rfl, fun w' hw' => by (clear hw'; go_simp)⟩) hHeld ?_
                      simp only [Act.put, sjA, sjB, sjC]
                      refine wpAnyH_done (by kernel_rfl) ?_ _
                      clear hHeld
                      go_wp2_with fail
                      go_ret
                      exact ⟨⟨false, rfl, fun e => (by cases e), fun e => absurd e HNR.out⟩, HK4.out.andNone HK3.out⟩
                    | true =>
                      have HNX : Hid (UpTo d (k + 1 + 1)) := HU.out.next HY.out HPB.out (fun j z hj hz => by
                        have : j = k := by omega
                        subst this
                        rw [HX.out] at hz
                        cases hz
                        exact hlx)
                      rw [hlx] at HLE
                      clear hlx
                      go_wp2_with fail
                    
                      clear hW4 c0 c1 c2
                      refine wp_region_held_drew (S := fun V => Kp No W4 V) (by kernel_rfl) ((Kp.refl _ _).drew) (fun hHeld => ?_)
                      refine wpAnyH_take (i := 0) (oi := ⟨some 16, .fieldAddr 157 (.tmp 4) 0, 0, "ref.go:22", #[], none⟩) (v := .pointer (some ⟨wr.heap.size, 0, none⟩)) rfl (by kernel_rfl) (by kernel_rfl) (by kernel_rfl) (fun _ _ _ h => h) (Or.inl ⟨by rfl, fun w' hw' => by (clear hw'; go_simp)⟩) hHeld ?_
                      simp only [Act.put, sjA, sjB, sjC]
                      refine wpAnyH_take (i := 1) (oi := ⟨some 17, .load 3 (.tmp 16), 3, "ref.go:22", #[⟨0, .data⟩], none⟩) (v := .int .i64 p) rfl (by kernel_rfl) (by kernel_rfl) (by kernel_rfl) (fun _ _ _ h => h) (Or.inl ⟨by rfl, fun w' hw' => by (have qq := (HV4.out _ hw').1; clear hw'; go_simp)⟩) hHeld ?_
                      simp only [Act.put, sjA, sjB, sjC]
                      refine wpAnyH_take (i := 2) (oi := ⟨some 18, .binOp BinOp.lss 3 (.tmp 17) (Operand.const (Value.int IntKind.i64 1)) 3, 4, "ref.go:22", #[⟨1, .data⟩], none⟩) (v := .bool false) rfl (by kernel_rfl) (by kernel_rfl) (by kernel_rfl) (fun _ _ _ h => h) (Or.inl ⟨by rfl, fun w' hw' => by (clear hw'; go_simp)⟩) hHeld ?_
                      simp only [Act.put, sjA, sjB, sjC]
                      refine wpAnyH_take (i := 3) (oi := ⟨some 19, .move (.tmp 18), 4, "ref.go:22", #[⟨2, .data⟩], none⟩) (v := .bool false) rfl (by kernel_rfl) (by kernel_rfl) (by kernel_rfl) (fun _ _ _ h => h) (Or.inl ⟨by rfl, fun w' hw' => by (clear hw'; go_simp)⟩) hHeld ?_
                      simp only [Act.put, sjA, sjB, sjC]
                      refine wpAnyH_take (i := 4) (oi := ⟨some 20, .fieldAddr 157 (.tmp 4) 0, 0, "ref.go:22", #[⟨3, .guard⟩], some (3, false)⟩) (v := .pointer (some ⟨wr.heap.size, 0, none⟩)) rfl (by kernel_rfl) (by kernel_rfl) (by kernel_rfl) (fun _ _ _ h => h) (Or.inl ⟨by rfl, fun w' hw' => by (clear hw'; go_simp)⟩) hHeld ?_
                      simp only [Act.put, sjA, sjB, sjC]
                      refine wpAnyH_take (i := 5) (oi := ⟨some 21, .load 3 (.tmp 20), 3, "ref.go:22", #[⟨4, .data⟩, ⟨3, .guard⟩], some (3, false)⟩) (v := .int .i64 p) rfl (by kernel_rfl) (by kernel_rfl) (by kernel_rfl) (fun _ _ _ h => h) (Or.inl ⟨by rfl, fun w' hw' => by (have qq := (HV4.out _ hw').1; clear hw'; go_simp)⟩) hHeld ?_
                      simp only [Act.put, sjA, sjB, sjC]
                      refine wpAnyH_take (i := 6) (oi := ⟨some 22, .binOp BinOp.gtr 3 (.tmp 21) (Operand.const (Value.int IntKind.i64 999999)) 3, 4, "ref.go:22", #[⟨5, .data⟩, ⟨3, .guard⟩], some (3, false)⟩) (v := .bool false) rfl (by kernel_rfl) (by kernel_rfl) (by kernel_rfl) (fun _ _ _ h => h) (Or.inl ⟨by rfl, fun w' hw' => by (clear hw'; go_simp)⟩) hHeld ?_
                      simp only [Act.put, sjA, sjB, sjC]
                      refine wpAnyH_take (i := 7) (oi := ⟨some 23, .pick (.tmp 19) (Operand.const (Value.bool true)) (.tmp 22), 4, "ref.go:22", #[⟨3, .data⟩, ⟨6, .data⟩], none⟩) (v := .bool false) rfl (by kernel_rfl) (by kernel_rfl) (by kernel_rfl) (fun _ _ _ h => h) (Or.inl ⟨by rfl, fun w' hw' => by (clear hw'; go_simp)⟩) hHeld ?_
                      simp only [Act.put, sjA, sjB, sjC]
                      refine wpAnyH_take (i := 8) (oi := ⟨some 24, .move (.tmp 23), 4, "ref.go:22", #[⟨7, .data⟩, ⟨3, .chain⟩], none⟩) (v := .bool false) rfl (by kernel_rfl) (by kernel_rfl) (by kernel_rfl) (fun _ _ _ h => h) (Or.inl ⟨by rfl, fun w' hw' => by (clear hw'; go_simp)⟩) hHeld ?_
                      simp only [Act.put, sjA, sjB, sjC]
                      refine wpAnyH_take (i := 9) (oi := ⟨some 25, .fieldAddr 157 (.tmp 4) 1, 0, "ref.go:22", #[⟨8, .guard⟩], some (8, false)⟩) (v := .pointer (some ⟨wr.heap.size, 1, none⟩)) rfl (by kernel_rfl) (by kernel_rfl) (by kernel_rfl) (fun _ _ _ h => h) (Or.inl ⟨by rfl, fun w' hw' => by (clear hw'; go_simp)⟩) hHeld ?_
                      simp only [Act.put, sjA, sjB, sjC]
                      refine wpAnyH_take (i := 10) (oi := ⟨some 26, .load 3 (.tmp 25), 3, "ref.go:22", #[⟨9, .data⟩, ⟨8, .guard⟩], some (8, false)⟩) (v := .int .i64 q) rfl (by kernel_rfl) (by kernel_rfl) (by kernel_rfl) (fun _ _ _ h => h) (Or.inl ⟨by rfl, fun w' hw' => by (have qq := (HV4.out _ hw').2.1; clear hw'; go_simp)⟩) hHeld ?_
                      simp only [Act.put, sjA, sjB, sjC]
                      refine wpAnyH_take (i := 11) (oi := ⟨some 27, .binOp BinOp.lss 3 (.tmp 26) (Operand.const (Value.int IntKind.i64 0)) 3, 4, "ref.go:22", #[⟨10, .data⟩, ⟨8, .guard⟩], some (8, false)⟩) (v := .bool false) rfl (by kernel_rfl) (by kernel_rfl) (by kernel_rfl) (fun _ _ _ h => h) (Or.inl ⟨by rfl, fun w' hw' => by (clear hw'; go_simp)⟩) hHeld ?_
                      simp only [Act.put, sjA, sjB, sjC]
                      refine wpAnyH_take (i := 12) (oi := ⟨some 28, .pick (.tmp 24) (Operand.const (Value.bool true)) (.tmp 27), 4, "ref.go:22", #[⟨8, .data⟩, ⟨11, .data⟩], none⟩) (v := .bool false) rfl (by kernel_rfl) (by kernel_rfl) (by kernel_rfl) (fun _ _ _ h => h) (Or.inl ⟨by rfl, fun w' hw' => by (clear hw'; go_simp)⟩) hHeld ?_
                      simp only [Act.put, sjA, sjB, sjC]
                      refine wpAnyH_take (i := 13) (oi := ⟨some 29, .move (.tmp 28), 4, "ref.go:22", #[⟨12, .data⟩, ⟨8, .chain⟩], none⟩) (v := .bool false) rfl (by kernel_rfl) (by kernel_rfl) (by kernel_rfl) (fun _ _ _ h => h) (Or.inl ⟨by rfl, fun w' hw' => by (clear hw'; go_simp)⟩) hHeld ?_
                      simp only [Act.put, sjA, sjB, sjC]
                      refine wpAnyH_take (i := 14) (oi := ⟨some 30, .fieldAddr 157 (.tmp 4) 1, 0, "ref.go:22", #[⟨13, .guard⟩], some (13, false)⟩) (v := .pointer (some ⟨wr.heap.size, 1, none⟩)) rfl (by kernel_rfl) (by kernel_rfl) (by kernel_rfl) (fun _ _ _ h => h) (Or.inl ⟨by rfl, fun w' hw' => by (clear hw'; go_simp)⟩) hHeld ?_
                      simp only [Act.put, sjA, sjB, sjC]
                      refine wpAnyH_take (i := 15) (oi := ⟨some 31, .load 3 (.tmp 30), 3, "ref.go:22", #[⟨14, .data⟩, ⟨13, .guard⟩], some (13, false)⟩) (v := .int .i64 q) rfl (by kernel_rfl) (by kernel_rfl) (by kernel_rfl) (fun _ _ _ h => h) (Or.inl ⟨by rfl, fun w' hw' => by (have qq := (HV4.out _ hw').2.1; clear hw'; go_simp)⟩) hHeld ?_
                      simp only [Act.put, sjA, sjB, sjC]
                      refine wpAnyH_take (i := 16) (oi := ⟨some 32, .binOp BinOp.gtr 3 (.tmp 31) (Operand.const (Value.int IntKind.i64 12000)) 3, 4, "ref.go:22", #[⟨15, .data⟩, ⟨13, .guard⟩], some (13, false)⟩) (v := .bool false) rfl (by kernel_rfl) (by kernel_rfl) (by kernel_rfl) (fun _ _ _ h => h) (Or.inl ⟨by rfl, fun w' hw' => by (clear hw'; go_simp)⟩) hHeld ?_
                      simp only [Act.put, sjA, sjB, sjC]
                      refine wpAnyH_take (i := 17) (oi := ⟨some 33, .pick (.tmp 29) (Operand.const (Value.bool true)) (.tmp 32), 4, "ref.go:22", #[⟨13, .data⟩, ⟨16, .data⟩], none⟩) (v := .bool false) rfl (by kernel_rfl) (by kernel_rfl) (by kernel_rfl) (fun _ _ _ h => h) (Or.inl ⟨by rfl, fun w' hw' => by (clear hw'; go_simp)⟩) hHeld ?_
                      simp only [Act.put, sjA, sjB, sjC]
                      refine wpAnyH_take (i := 18) (oi := ⟨some 34, .move (.tmp 33), 4, "ref.go:22", #[⟨17, .data⟩, ⟨13, .chain⟩], none⟩) (v := .bool false) rfl (by kernel_rfl) (by kernel_rfl) (by kernel_rfl) (fun _ _ _ h => h) (Or.inl ⟨by rfl, fun w' hw' => by (clear hw'; go_simp)⟩) hHeld ?_
                      simp only [Act.put, sjA, sjB, sjC]
                      refine wpAnyH_take (i := 19) (oi := ⟨some 35, .fieldAddr 157 (.tmp 4) 2, 0, "ref.go:22", #[⟨18, .guard⟩], some (18, false)⟩) (v := .pointer (some ⟨wr.heap.size, 2, none⟩)) rfl (by kernel_rfl) (by kernel_rfl) (by kernel_rfl) (fun _ _ _ h => h) (Or.inl ⟨by rfl, fun w' hw' => by (clear hw'; go_simp)⟩) hHeld ?_
                      simp only [Act.put, sjA, sjB, sjC]
                      refine wpAnyH_take (i := 20) (oi := ⟨some 36, .load 3 (.tmp 35), 3, "ref.go:22", #[⟨19, .data⟩, ⟨18, .guard⟩], some (18, false)⟩) (v := .int .i64 r) rfl (by kernel_rfl) (by kernel_rfl) (by kernel_rfl) (fun _ _ _ h => h) (Or.inl ⟨by rfl, fun w' hw' => by (have qq := (HV4.out _ hw').2.2; clear hw'; go_simp)⟩) hHeld ?_
                      simp only [Act.put, sjA, sjB, sjC]
                      refine wpAnyH_take (i := 21) (oi := ⟨some 37, .binOp BinOp.lss 3 (.tmp 36) (Operand.const (Value.int IntKind.i64 1)) 3, 4, "ref.go:22", #[⟨20, .data⟩, ⟨18, .guard⟩], some (18, false)⟩) (v := .bool false) rfl (by kernel_rfl) (by kernel_rfl) (by kernel_rfl) (fun _ _ _ h => h) (Or.inl ⟨by rfl, fun w' hw' => by (clear hw'; go_simp)⟩) hHeld ?_
                      simp only [Act.put, sjA, sjB, sjC]
                      refine wpAnyH_take (i := 22) (oi := ⟨some 38, .pick (.tmp 34) (Operand.const (Value.bool true)) (.tmp 37), 4, "ref.go:22", #[⟨18, .data⟩, ⟨21, .data⟩], none⟩) (v := .bool false) rfl (by kernel_rfl) (by kernel_rfl) (by kernel_rfl) (fun _ _ _ h => h) (Or.inl ⟨by rfl, fun w' hw' => by (clear hw'; go_simp)⟩) hHeld ?_
                      simp only [Act.put, sjA, sjB, sjC]
                      refine wpAnyH_take (i := 23) (oi := ⟨some 39, .move (.tmp 38), 4, "ref.go:22", #[⟨22, .data⟩, ⟨18, .chain⟩], none⟩) (v := .bool false) rfl (by kernel_rfl) (by kernel_rfl) (by kernel_rfl) (fun _ _ _ h => h) (Or.inl ⟨by rfl, fun w' hw' => by (clear hw'; go_simp)⟩) hHeld ?_
                      simp only [Act.put, sjA, sjB, sjC]
                      refine wpAnyH_take (i := 24) (oi := ⟨some 40, .fieldAddr 157 (.tmp 4) 2, 0, "ref.go:22", #[⟨23, .guard⟩], some (23, false)⟩) (v := .pointer (some ⟨wr.heap.size, 2, none⟩)) rfl (by kernel_rfl) (by kernel_rfl) (by kernel_rfl) (fun _ _ _ h => h) (Or.inl ⟨by rfl, fun w' hw' => by (clear hw'; go_simp)⟩) hHeld ?_
                      simp only [Act.put, sjA, sjB, sjC]
                      refine wpAnyH_take (i := 25) (oi := ⟨some 41, .load 3 (.tmp 40), 3, "ref.go:22", #[⟨24, .data⟩, ⟨23, .guard⟩], some (23, false)⟩) (v := .int .i64 r) rfl (by kernel_rfl) (by kernel_rfl) (by kernel_rfl) (fun _ _ _ h => h) (Or.inl ⟨by rfl, fun w' hw' => by (have qq := (HV4.out _ hw').2.2; clear hw'; go_simp)⟩) hHeld ?_
                      simp only [Act.put, sjA, sjB, sjC]
                      refine wpAnyH_take (i := 26) (oi := ⟨some 42, .binOp BinOp.gtr 3 (.tmp 41) (Operand.const (Value.int IntKind.i64 12000)) 3, 4, "ref.go:22", #[⟨25, .data⟩, ⟨23, .guard⟩], some (23, false)⟩) (v := .bool false) rfl (by kernel_rfl) (by kernel_rfl) (by kernel_rfl) (fun _ _ _ h => h) (Or.inl ⟨by rfl, fun w' hw' => by (clear hw'; go_simp)⟩) hHeld ?_
                      simp only [Act.put, sjA, sjB, sjC]
                      refine wpAnyH_take (i := 27) (oi := ⟨some 43, .pick (.tmp 39) (Operand.const (Value.bool true)) (.tmp 42), 4, "ref.go:22", #[⟨23, .data⟩, ⟨26, .data⟩], none⟩) (v := .bool false) rfl (by kernel_rfl) (by kernel_rfl) (by kernel_rfl) (fun _ _ _ h => h) (Or.inl ⟨by rfl, fun w' hw' => by (clear hw'; go_simp)⟩) hHeld ?_
                      simp only [Act.put, sjA, sjB, sjC]
                      refine wpAnyH_take (i := 28) (oi := ⟨some 44, .move (.tmp 43), 4, "ref.go:22", #[⟨27, .data⟩, ⟨23, .chain⟩], none⟩) (v := .bool false) rfl (by kernel_rfl) (by kernel_rfl) (by kernel_rfl) (fun _ _ _ h => h) (Or.inl ⟨by rfl, fun w' hw' => by (clear hw'; go_simp)⟩) hHeld ?_
                      simp only [Act.put, sjA, sjB, sjC]
                      refine wpAnyH_take (i := 29) (oi := ⟨some 45, .move (.tmp 3), 3, "ref.go:22", #[⟨28, .guard⟩], some (28, false)⟩) (v := .int .i64 ((k + 1 : Nat) : Int)) rfl (by kernel_rfl) (by kernel_rfl) (by kernel_rfl) (fun _ _ _ h => h) (Or.inl ⟨by rfl, fun w' hw' => by (clear hw'; go_simp)⟩) hHeld ?_
                      simp only [Act.put, sjA, sjB, sjC]
                      refine wpAnyH_take (i := 30) (oi := ⟨some 46, .binOp BinOp.gtr 3 (.tmp 45) (Operand.const (Value.int IntKind.i64 0)) 3, 4, "ref.go:22", #[⟨29, .data⟩, ⟨28, .guard⟩], some (28, false)⟩) (v := .bool true) rfl (by kernel_rfl) (by kernel_rfl) (by kernel_rfl) (fun _ _ _ h => h) (Or.inl ⟨by rfl, fun w' hw' => by (clear hw'; go_simp)⟩) hHeld ?_
                      simp only [Act.put, sjA, sjB, sjC]
                      refine wpAnyH_take (i := 31) (oi := ⟨some 47, .move (.tmp 46), 4, "ref.go:22", #[⟨30, .data⟩, ⟨28, .chain⟩, ⟨28, .guard⟩], some (28, false)⟩) (v := .bool true) rfl (by kernel_rfl) (by kernel_rfl) (by kernel_rfl) (fun _ _ _ h => h) (Or.inl ⟨by rfl, fun w' hw' => by (clear hw'; go_simp)⟩) hHeld ?_
                      simp only [Act.put, sjA, sjB, sjC]
                      refine wpAnyH_take (i := 32) (oi := ⟨some 48, .move (.tmp 0), 77, "ref.go:22", #[⟨31, .guard⟩], some (31, true)⟩) (v := .slice (some ⟨g, o, none⟩) n c) rfl (by kernel_rfl) (by kernel_rfl) (by kernel_rfl) (fun _ _ _ h => h) (Or.inl ⟨by rfl, fun w' hw' => by (clear hw'; go_simp)⟩) hHeld ?_
                      simp only [Act.put, sjA, sjB, sjC]
                      refine wpAnyH_take (i := 33) (oi := ⟨some 49, .move (.tmp 3), 3, "ref.go:22", #[⟨31, .guard⟩], some (31, true)⟩) (v := .int .i64 ((k + 1 : Nat) : Int)) rfl (by kernel_rfl) (by kernel_rfl) (by kernel_rfl) (fun _ _ _ h => h) (Or.inl ⟨by rfl, fun w' hw' => by (clear hw'; go_simp)⟩) hHeld ?_
                      simp only [Act.put, sjA, sjB, sjC]
                      refine wpAnyH_take (i := 34) (oi := ⟨some 50, .binOp BinOp.sub 3 (.tmp 49) (Operand.const (Value.int IntKind.i64 1)) 3, 3, "ref.go:22", #[⟨33, .data⟩, ⟨31, .guard⟩], some (31, true)⟩) (v := .int .i64 (k : Int)) rfl (by kernel_rfl) (by kernel_rfl) (by kernel_rfl) (fun _ _ _ h => h) (Or.inl ⟨by rfl, fun w' hw' => by (clear hw'; go_simp)⟩) hHeld ?_
                      simp only [Act.put, sjA, sjB, sjC]
                      refine wpAnyH_take (i := 35) (oi := ⟨some 51, .indexAddr 77 (.tmp 48) (.tmp 50), 0, "ref.go:22", #[⟨32, .data⟩, ⟨34, .data⟩, ⟨31, .guard⟩], some (31, true)⟩) (v := .pointer (some ⟨g, o + k * 35, none⟩)) rfl (by kernel_rfl) (by kernel_rfl) (by kernel_rfl) (fun _ _ _ h => h) (Or.inl ⟨by rfl, fun w' hw' => by (clear hw'; go_simp)⟩) hHeld ?_
                      simp only [Act.put, sjA, sjB, sjC]
                      refine wpAnyH_take (i := 36) (oi := ⟨some 52, .fieldAddr 159 (.tmp 51) 0, 0, "ref.go:22", #[⟨35, .data⟩, ⟨31, .guard⟩], some (31, true)⟩) (v := .pointer (some ⟨g, o + k * 35, none⟩)) rfl (by kernel_rfl) (by kernel_rfl) (by kernel_rfl) (fun _ _ _ h => h) (Or.inl ⟨by rfl, fun w' hw' => by (clear hw'; go_simp)⟩) hHeld ?_
                      simp only [Act.put, sjA, sjB, sjC]
                      refine wpAnyH_take (i := 37) (oi := ⟨some 53, .load 53 (.tmp 52), 53, "ref.go:22", #[⟨36, .data⟩, ⟨31, .guard⟩], some (31, true)⟩) (v := .agg bx.toArray) rfl (by kernel_rfl) (by kernel_rfl) (by kernel_rfl) (fun _ _ _ h => h) (yieldsIf_load_mid (by rfl) _ _ rfl g (o + k * 35) rfl bx _ (HLX.out) Tryz.underlying53 rfl HI1.out) hHeld ?_
                      simp only [Act.put, sjA, sjB, sjC]
                      refine wpAnyH_take (i := 38) (oi := ⟨some 54, .move (.tmp 0), 77, "ref.go:22", #[⟨31, .guard⟩], some (31, true)⟩) (v := .slice (some ⟨g, o, none⟩) n c) rfl (by kernel_rfl) (by kernel_rfl) (by kernel_rfl) (fun _ _ _ h => h) (Or.inl ⟨by rfl, fun w' hw' => by (clear hw'; go_simp)⟩) hHeld ?_
                      simp only [Act.put, sjA, sjB, sjC]
                      refine wpAnyH_take (i := 39) (oi := ⟨some 55, .move (.tmp 3), 3, "ref.go:22", #[⟨31, .guard⟩], some (31, true)⟩) (v := .int .i64 ((k + 1 : Nat) : Int)) rfl (by kernel_rfl) (by kernel_rfl) (by kernel_rfl) (fun _ _ _ h => h) (Or.inl ⟨by rfl, fun w' hw' => by (clear hw'; go_simp)⟩) hHeld ?_
                      simp only [Act.put, sjA, sjB, sjC]
                      refine wpAnyH_take (i := 40) (oi := ⟨some 56, .indexAddr 77 (.tmp 54) (.tmp 55), 0, "ref.go:22", #[⟨38, .data⟩, ⟨39, .data⟩, ⟨31, .guard⟩], some (31, true)⟩) (v := .pointer (some ⟨g, o + (k + 1) * 35, none⟩)) rfl (by kernel_rfl) (by kernel_rfl) (by kernel_rfl) (fun _ _ _ h => h) (Or.inl ⟨by rfl, fun w' hw' => by (clear hw'; go_simp)⟩) hHeld ?_
                      simp only [Act.put, sjA, sjB, sjC]
                      refine wpAnyH_take (i := 41) (oi := ⟨some 57, .fieldAddr 159 (.tmp 56) 0, 0, "ref.go:22", #[⟨40, .data⟩, ⟨31, .guard⟩], some (31, true)⟩) (v := .pointer (some ⟨g, o + (k + 1) * 35, none⟩)) rfl (by kernel_rfl) (by kernel_rfl) (by kernel_rfl) (fun _ _ _ h => h) (Or.inl ⟨by rfl, fun w' hw' => by (clear hw'; go_simp)⟩) hHeld ?_
                      simp only [Act.put, sjA, sjB, sjC]
                      refine wpAnyH_take (i := 42) (oi := ⟨some 58, .load 53 (.tmp 57), 53, "ref.go:22", #[⟨41, .data⟩, ⟨31, .guard⟩], some (31, true)⟩) (v := .agg bY.toArray) rfl (by kernel_rfl) (by kernel_rfl) (by kernel_rfl) (fun _ _ _ h => h) (yieldsIf_load_mid (by rfl) _ _ rfl g (o + (k + 1) * 35) rfl bY _ (HLY.out) Tryz.underlying53 rfl HI2.out) hHeld ?_
                      simp only [Act.put, sjA, sjB, sjC]
                      refine wpAnyH_ready (rs := [43]) (by kernel_rfl) (by simp) ?_
                      refine AllReadyH.cons (o := ⟨some 59, .call { callee := Callee.value (Operand.func 73), args := #[.tmp 53, .tmp 58], argTypes := #[53, 53] }, 4, "ref.go:22", #[⟨37, .data⟩, ⟨42, .data⟩, ⟨31, .chain⟩, ⟨31, .guard⟩], some (31, true)⟩) rfl (fun K hK => ?_) AllReadyH.nil
                      go_simp
                      refine (HLE.out _).mono ?_
                      rintro e w3 ⟨rfl, hb3⟩
                      have HK3 : Hid (Kp No W4 w3) := ((Kp.refl No W4).drew).andNone hb3
                      clear hb3
                      go_wp2_with fail
                      refine hK.out _ _ (HK3.out) (fun hh => ?_)
                      clear hK K hHeld
                      have hHeld := hh
                      clear hh
                      try simp only [Act.put, sjA, sjB, sjC]
                      refine wpAnyH_take (i := 44) (oi := ⟨some 60, .unOp UnOp.not 4 (.tmp 59), 4, "ref.go:22", #[⟨43, .data⟩, ⟨31, .guard⟩], some (31, true)⟩) (v := .bool false) rfl (by kernel_rfl) (by kernel_rfl) (by kernel_rfl) (fun _ _ _ h => h) (Or.inl ⟨by rfl, fun w' hw' => by (clear hw'; go_simp)⟩) hHeld ?_
                      simp only [Act.put, sjA, sjB, sjC]
                      refine wpAnyH_take (i := 45) (oi := ⟨some 61, .pick (.tmp 47) (.tmp 60) (Operand.const (Value.bool false)), 4, "ref.go:22", #[⟨31, .data⟩, ⟨44, .data⟩, ⟨28, .guard⟩], some (28, false)⟩) (v := .bool false) rfl (by kernel_rfl) (by kernel_rfl) (by kernel_rfl) (fun _ _ _ h => h) (Or.inl ⟨by rfl, fun w' hw' => by (clear hw'; go_simp)⟩) hHeld ?_
                      simp only [Act.put, sjA, sjB, sjC]
                      refine wpAnyH_take (i := 46) (oi := ⟨some 62, .pick (.tmp 44) (Operand.const (Value.bool true)) (.tmp 61), 4, "ref.go:22", #[⟨28, .data⟩, ⟨45, .data⟩], none⟩) (v := .bool false) rfl (by kernel_rfl) (by kernel_rfl) (by kernel_rfl) (fun _ _ _ h => h) (Or.inl ⟨by rfl, fun w' hw' => by (clear hw'; go_simp)⟩) hHeld ?_
                      simp only [Act.put, sjA, sjB, sjC]
                      refine wpAnyH_done (by kernel_rfl) ?_ _
                      clear hHeld
                      go_wp2_with fail
                      go_round
                      case rel => exact ⟨k + 1 + 1, by first | rfl | go_num, by omega, HNX.out, HK4.out.andNone HK3.out⟩
                      case measure => simp [intOf]; omega
    · have hltI : ¬ (k : Int) < (n : Int) := by omega
      have HE : Hid (UpTo d d.length) := by rw [Hid, HN.out, ← show k = n by omega]; exact HU.out
      obtain ⟨z, hz⟩ : ∃ z, decide ((n : Int) ≤ 900) = z := ⟨_, rfl⟩
      have HZ : Hid (z = true ↔ RightP d) := by
        rw [Hid, ← hz, decide_eq_true_eq, RightP, HN.out]
        exact ⟨fun h => ⟨by omega, by rw [← HN.out]; exact HE.out⟩, fun h => by omega⟩
      go_wp2_with fail
      go_ret
      exact ⟨⟨z, by first | (rw [← hz]; rfl) | (simp [← hz]), HZ.out⟩, HK.out⟩
end Go.Proofs.YthmimipoooemjaaGreatDoor.Sg
end

section
/-
  The document's Sort of entries.
-/
namespace Go.Proofs.YthmimipoooemjaaGreatDoor.Sg
open Go.RowKit
open Stb (Stab Srt Mrg)
open Sim (hid Kp No)

theorem app_anyR (w : World) (ty : TypeId) (v vx : Value) (n m : Nat) (xs ys : List Value) (hown : Sim.Row w 159 35 v n xs) (hy : Sim.Src w vx m 35 ys) (hlen : n + m ≤ 2000000) :
    ∃ ad cap w', (Builtin.append_ #[77, 77] ty #[v, vx]).run Tryz.prog w = .ok (.slice ad (n + m) cap) w' ∧ Sim.Row w' 159 35 (.slice ad (n + m) cap) (n + m) (xs ++ ys) ∧ w.grownBy w' v.ownBlock ∧ ((Value.slice ad (n + m) cap).ownBlock = v.ownBlock ∨ (Value.slice ad (n + m) cap).ownBlock = some w.heap.size) := by
  obtain ⟨i0, hi, hz0, hz1', hz2⟩ := info_parts infoR
  rcases hy with ⟨rfl, rfl, rfl⟩ | ⟨ad, c, rfl, hl, hc, h1⟩
  · have hr := run_append_owned_none (P := Tryz.prog) w 0 77 ty 159 i0 35 Tryz.underlying77 hi v n xs hown
    obtain ⟨ad, cap, rfl, _⟩ := hown.shape
    exact ⟨ad, cap, w, hr, by rw [List.append_nil]; exact hown, ⟨rfl, rfl, rfl, Nat.le_refl _, fun _ _ _ => rfl⟩, .inl rfl⟩
  · obtain ⟨v', w', hr, h8, h9, _, h10⟩ := run_append_own_at (P := Tryz.prog) w 0 77 ty 159 i0 (.agg zE.toArray) 35 56 Tryz.underlying77 hi hz0 hz1' hz2 rfl (by omega) v n xs hown ad m c ys hl hc h1 (by unfold maxLen; omega) (by omega) (Nat.zero_le _)
    have h8' : Sim.Row w' 159 35 v' (n + m) (xs ++ ys) := h8
    obtain ⟨ad', cap', rfl, _⟩ := h8'.shape
    exact ⟨ad', cap', w', hr, h8, h9, h10⟩
/-- A row of the call's own behind u. -/
def RowAt (u w : World) (v : Value) (d : List Ent) : Prop := Sim.Row w 159 35 v d.length (ents d) ∧ (∀ x, v.ownBlock = some x → u.heap.size ≤ x)
/-- A step of three appends: the row grows by what is read in blocks that were there. -/
theorem app_step {u w : World} {v vx : Value} {d x : List Ent} (hu : Kp No u w) (hr : RowAt u w v d) (hs : Sim.Src w vx x.length 35 (ents x)) (hl : d.length + x.length ≤ 2000000) (ty : TypeId) :
    ∃ ad cap w', (Builtin.append_ #[77, 77] ty #[v, vx]).run Tryz.prog w = .ok (.slice ad (d.length + x.length) cap) w' ∧ RowAt u w' (.slice ad (d.length + x.length) cap) (d ++ x) ∧ Kp No u w' ∧ Kp (fun g => v.ownBlock = some g) w w' := by
  obtain ⟨ad, cap, w', h1, h2, h3, h4⟩ := app_anyR w ty v vx d.length x.length (ents d) (ents x) hr.1 hs hl
  refine ⟨ad, cap, w', h1, ⟨by rw [List.length_append, ents_append]; exact h2, fun g hg => ?_⟩, hu.grown h3 (fun g hg => .inr (hr.2 g hg)), Kp.ofGrown h3⟩
  rcases h4 with e | e
  · exact hr.2 g (by rw [← e]; exact hg)
  · rw [e] at hg
    cases hg
    exact hu.size
theorem run_zeroR (w : World) : (Instr.buildSlice 77 0 #[]).run Tryz.prog w = .ok (.slice (some ⟨w.heap.size, 0, none⟩) 0 0) (w.alloc (.cells #[] 159)) := by kernel_rfl
theorem exec_slice0 {P : Program} {o : Oper} {a : Act} {w w' : World} (t : TypeId) (ho : o.op = .buildSlice t 0 #[]) (u : Value) (hr : (Instr.buildSlice t 0 #[]).run P w = .ok u w') : (execOp a.eval o).run P w = .ok (.value u) w' := by
  unfold execOp
  simp [ho, hr, Result.andThen]
theorem rowAt_zero {u w : World} (hu : Kp No u w) : RowAt u (w.alloc (.cells #[] 159)) (.slice (some ⟨w.heap.size, 0, none⟩) 0 0) [] :=
  ⟨World.ownsRow_made w #[] 0 (Nat.zero_le _) (Nat.zero_le _) rfl, fun x hx => by simp [Value.ownBlock] at hx; have := hu.size; omega⟩
theorem RowAt.keep {u w w' : World} {v : Value} {d : List Ent} (h : RowAt u w v d) (k : Kp No w w') : RowAt u w' v d := ⟨h.1.kept k, h.2⟩
theorem run_oneRX {e : Ent} (h : EOk e) (w : World) : (Instr.buildSlice 77 1 #[(0, .agg (entC e).toArray)]).run Tryz.prog w = .ok (.slice (some ⟨w.heap.size, 0, none⟩) 1 1) (w.alloc (.cells (entC e).toArray 159)) := by
  obtain ⟨nm, p, q, r⟩ := e
  exact run_oneR nm p q r h.1 w
theorem ents_one' (e : Ent) : ents [e] = entC e := by simp [ents]
theorem src_one {e : Ent} (he : EOk e) (w : World) : Sim.Src (w.alloc (.cells (entC e).toArray 159)) (.slice (some ⟨w.heap.size, 0, none⟩) 1 1) [e].length 35 (ents [e]) := by
  rw [ents_one']
  exact Sim.Src.one w (entC e) 35 159 (entC_length he) (entC_one _)
/-- What is read stays where other blocks are written. -/
theorem src_kp {L : Nat → Prop} {w w' : World} {v : Value} {m : Nat} {ys : List Value} (h : Sim.Src w v m 35 ys) (k : Kp L w w') (hv : ∀ g o s n c, v = .slice (some ⟨g, o, s⟩) n c → g < w.heap.size ∧ ¬ L g) : Sim.Src w' v m 35 ys := by
  rcases h with h | ⟨ad, c, rfl, h2, h3, h4⟩
  · exact .inl h
  · obtain ⟨g, o, s⟩ := ad
    obtain ⟨h5, h6⟩ := hv g o s m c rfl
    exact .inr ⟨_, c, rfl, h2, fun j u hj => by
      rw [← h3 j u hj]
      exact k.cell (p := (⟨g, o, s⟩ : Addr).add j) (by rw [show ((⟨g, o, s⟩ : Addr).add j).block = g by unfold Addr.add; split <;> rfl]; exact h5) (by rw [show ((⟨g, o, s⟩ : Addr).add j).block = g by unfold Addr.add; split <;> rfl]; exact h6), h4⟩
/-- The front of entries, and the rest, as they are read. -/
theorem src_front {w : World} {g cap : Nat} {d : List Ent} (h : ERow w g 0 d) (hd : ∀ e ∈ d, EOk e) (k : Nat) (hk : k ≤ d.length) : Sim.Src w (.slice (some ⟨g, 0, none⟩) k cap) (d.take k).length 35 (ents (d.take k)) := by
  have hl : (d.take k).length = k := by rw [List.length_take]; omega
  have ho : ∀ e ∈ d.take k, EOk e := fun e he => hd e (List.mem_of_mem_take he)
  refine .inr ⟨_, cap, by rw [hl], ents_length _ ho, fun j u hj => ?_, ents_one _⟩
  have hjl := (List.getElem?_eq_some_iff.1 hj).1
  rw [ents_length _ ho, hl] at hjl
  obtain ⟨e, he⟩ : ∃ e, (d.take k)[j / 35]? = some e := ⟨_, List.getElem?_eq_getElem (by rw [hl]; omega)⟩
  have h1 := ents_at _ ho (j / 35) (j % 35) e he (by omega)
  rw [show j / 35 * 35 + j % 35 = j by omega, hj] at h1
  have he2 : d[j / 35]? = some e := by rwa [List.getElem?_take_of_lt (by omega)] at he
  have := (h.2 (j / 35) e he2).2 (j % 35) u h1.symm
  rw [Sim.addr_add]
  rw [show 0 + j / 35 * 35 + j % 35 = 0 + j by omega] at this
  exact this
theorem src_rest {w : World} {g cap m : Nat} {d : List Ent} (h : ERow w g 0 d) (hd : ∀ e ∈ d, EOk e) (k : Nat) (_hk : k ≤ d.length) (hm : d.length = m) (ad : Addr) (had : d.length = k ∨ ad = ⟨g, k * 35, none⟩) : Sim.Src w (.slice (some ad) (m - k) cap) (d.drop k).length 35 (ents (d.drop k)) := by
  have hl : (d.drop k).length = m - k := by rw [List.length_drop, hm]
  have ho : ∀ e ∈ d.drop k, EOk e := fun e he => hd e (List.mem_of_mem_drop he)
  refine .inr ⟨_, cap, by rw [hl], ents_length _ ho, fun j u hj => ?_, ents_one _⟩
  have hjl := (List.getElem?_eq_some_iff.1 hj).1
  rw [ents_length _ ho, hl] at hjl
  rcases had with h0 | rfl
  · omega
  obtain ⟨e, he⟩ : ∃ e, (d.drop k)[j / 35]? = some e := ⟨_, List.getElem?_eq_getElem (by rw [hl]; omega)⟩
  have h1 := ents_at _ ho (j / 35) (j % 35) e he (by omega)
  rw [show j / 35 * 35 + j % 35 = j by omega, hj] at h1
  have he2 : d[k + j / 35]? = some e := by rwa [List.getElem?_drop] at he
  have := (h.2 (k + j / 35) e he2).2 (j % 35) u h1.symm
  rw [Sim.addr_add]
  rw [show 0 + (k + j / 35) * 35 + j % 35 = k * 35 + j by omega] at this
  exact this
theorem Sorted.ok {l out : List Ent} (h : Sorted l out) (hl : ∀ e ∈ l, EOk e) : ∀ e ∈ out, EOk e := fun e he => by
  have h1 := h.1.get he
  rw [h.2] at h1
  exact hl e (List.mem_of_find?_eq_some h1)
theorem Place.zero (out : List Ent) (e : Ent) : ∀ x ∈ out.take 0, lexB x.1 e.1 = true := by simp
theorem take_next {out : List Ent} {e y : Ent} {k : Nat} (h : ∀ x ∈ out.take k, lexB x.1 e.1 = true) (hy : out[k]? = some y) (hl : lexB y.1 e.1 = true) : ∀ x ∈ out.take (k + 1), lexB x.1 e.1 = true := fun x hx => by
  rw [List.take_add_one, hy] at hx
  rcases List.mem_append.1 hx with hx | hx
  · exact h x hx
  · simp at hx
    subst hx
    exact hl

section three
variable {U X : World} {v51 v61 : Value} {out : List Ent} {e : Ent} {k m : Nat}
theorem r9_tail {w1 : World} {ad1 : Option Addr} {cap1 : Nat} {v57 : Value} (h1 : Kp No U w1) (hr : RowAt U w1 (.slice ad1 k cap1) (out.take k)) (hs57 : Sim.Src w1 v57 [e].length 35 (ents [e])) (hs2 : ∀ W, Kp No U W → Sim.Src W v61 (out.drop k).length 35 (ents (out.drop k))) (hk : (out.take k).length = k) (hm : k + 1 + (out.drop k).length = m + 1) (hl : m ≤ 1000) :
    ∃ ad2 cap2 w2 ad3 cap3 w3, (Builtin.append_ #[77, 77] 77 #[.slice ad1 k cap1, v57]).run Tryz.prog w1 = .ok (.slice ad2 (k + 1) cap2) w2 ∧ Kp No U w2 ∧
      (Builtin.append_ #[77, 77] 77 #[.slice ad2 (k + 1) cap2, v61]).run Tryz.prog w2 = .ok (.slice ad3 (m + 1) cap3) w3 ∧ Kp No U w3 ∧ RowAt U w3 (.slice ad3 (m + 1) cap3) (out.take k ++ e :: out.drop k) := by
  obtain ⟨ad2, cap2, w2, a1, a2, a3, _⟩ := app_step h1 hr hs57 (by simp; omega) 77
  have e2 : (out.take k).length + [e].length = k + 1 := by rw [hk]; rfl
  rw [e2] at a1 a2
  obtain ⟨ad3, cap3, w3, b1, b2, b3, _⟩ := app_step a3 a2 (hs2 w2 a3) (by rw [List.length_append, e2]; omega) 77
  have e3 : (out.take k ++ [e]).length + (out.drop k).length = m + 1 := by rw [List.length_append, e2]; exact hm
  rw [e3, List.append_assoc, List.singleton_append] at b2
  rw [e3] at b1
  exact ⟨ad2, cap2, w2, ad3, cap3, w3, a1, a3, b1, b3, b2⟩
/-- The first append. -/
theorem r9_one {W : World} {g : Nat} (hW : Kp No U W) (hr : RowAt U W (.slice (some ⟨g, 0, none⟩) 0 0) []) (hs1 : ∀ W, Kp No U W → Sim.Src W v51 (out.take k).length 35 (ents (out.take k))) (hk : (out.take k).length = k) (hl : k ≤ 1000) :
    ∃ ad1 cap1 w1, (Builtin.append_ #[77, 77] 77 #[.slice (some ⟨g, 0, none⟩) 0 0, v51]).run Tryz.prog W = .ok (.slice ad1 k cap1) w1 ∧ Kp No U w1 ∧ RowAt U w1 (.slice ad1 k cap1) (out.take k) ∧ Kp (fun x => x = g) W w1 := by
  obtain ⟨ad1, cap1, w1, a1, a2, a3, a4⟩ := app_step hW hr (hs1 W hW) (by simp; omega) 77
  have e1 : ([] : List Ent).length + (out.take k).length = k := by rw [hk]; simp
  rw [e1, List.nil_append] at a2
  rw [e1] at a1
  refine ⟨ad1, cap1, w1, a1, a3, a2, ⟨a4.os, a4.tape, a4.output, a4.size, fun j hj hne => a4.block j hj (fun h => hne ?_)⟩⟩
  simp [Value.ownBlock] at h
  exact h.symm
theorem r9a (hX : Kp No U X) (he : EOk e) (hs1 : ∀ W, Kp No U W → Sim.Src W v51 (out.take k).length 35 (ents (out.take k))) (hs2 : ∀ W, Kp No U W → Sim.Src W v61 (out.drop k).length 35 (ents (out.drop k))) (hk : (out.take k).length = k) (hm : k + 1 + (out.drop k).length = m + 1) (hl : m ≤ 1000) (hkm : k ≤ m) :
    ∃ ad1 cap1 w1 ad2 cap2 w2 ad3 cap3 w3, (Builtin.append_ #[77, 77] 77 #[.slice (some ⟨X.heap.size, 0, none⟩) 0 0, v51]).run Tryz.prog (X.alloc (.cells #[] 159)) = .ok (.slice ad1 k cap1) w1 ∧ Kp No U w1 ∧ (Builtin.append_ #[77, 77] 77 #[.slice ad1 k cap1, .slice (some ⟨w1.heap.size, 0, none⟩) 1 1]).run Tryz.prog (w1.alloc (.cells (entC e).toArray 159)) = .ok (.slice ad2 (k + 1) cap2) w2 ∧ Kp No U w2 ∧ (Builtin.append_ #[77, 77] 77 #[.slice ad2 (k + 1) cap2, v61]).run Tryz.prog w2 = .ok (.slice ad3 (m + 1) cap3) w3 ∧ Kp No U w3 ∧ RowAt U w3 (.slice ad3 (m + 1) cap3) (out.take k ++ e :: out.drop k) := by
  obtain ⟨ad1, cap1, w1, a1, a2, a3, _⟩ := r9_one (hX.alloc _) (rowAt_zero hX) hs1 hk (by omega)
  obtain ⟨ad2, cap2, w2, ad3, cap3, w3, b1, b2, b3, b4, b5⟩ := r9_tail (a2.alloc (.cells (entC e).toArray 159)) (a3.keep ((Kp.refl No w1).alloc _)) (src_one he w1) hs2 hk hm hl
  exact ⟨ad1, cap1, w1, ad2, cap2, w2, ad3, cap3, w3, a1, a2, b1, b2, b3, b4, b5⟩
theorem r9b (hX : Kp No U X) (he : EOk e) (hs1 : ∀ W, Kp No U W → Sim.Src W v51 (out.take k).length 35 (ents (out.take k))) (hs2 : ∀ W, Kp No U W → Sim.Src W v61 (out.drop k).length 35 (ents (out.drop k))) (hk : (out.take k).length = k) (hm : k + 1 + (out.drop k).length = m + 1) (hl : m ≤ 1000) (hkm : k ≤ m) :
    ∃ ad1 cap1 w1 ad2 cap2 w2 ad3 cap3 w3, (Builtin.append_ #[77, 77] 77 #[.slice (some ⟨X.heap.size, 0, none⟩) 0 0, v51]).run Tryz.prog ((X.alloc (.cells #[] 159)).alloc (.cells (entC e).toArray 159)) = .ok (.slice ad1 k cap1) w1 ∧ Kp No U w1 ∧ (Builtin.append_ #[77, 77] 77 #[.slice ad1 k cap1, .slice (some ⟨(X.alloc (.cells #[] 159)).heap.size, 0, none⟩) 1 1]).run Tryz.prog w1 = .ok (.slice ad2 (k + 1) cap2) w2 ∧ Kp No U w2 ∧ (Builtin.append_ #[77, 77] 77 #[.slice ad2 (k + 1) cap2, v61]).run Tryz.prog w2 = .ok (.slice ad3 (m + 1) cap3) w3 ∧ Kp No U w3 ∧ RowAt U w3 (.slice ad3 (m + 1) cap3) (out.take k ++ e :: out.drop k) := by
  have hX2 := (hX.alloc (.cells #[] 159)).alloc (.cells (entC e).toArray 159)
  obtain ⟨ad1, cap1, w1, a1, a2, a3, a4⟩ := r9_one hX2 ((rowAt_zero hX).keep ((Kp.refl No _).alloc (.cells (entC e).toArray 159))) hs1 hk (by omega)
  have hs := src_one he (X.alloc (.cells #[] 159))
  obtain ⟨ad2, cap2, w2, ad3, cap3, w3, b1, b2, b3, b4, b5⟩ := r9_tail a2 a3 (src_kp hs a4 (fun g o s n c h => by simp at h; obtain ⟨⟨rfl, _⟩, _⟩ := h; exact ⟨by simp, by simp⟩)) hs2 hk hm hl
  exact ⟨ad1, cap1, w1, ad2, cap2, w2, ad3, cap3, w3, a1, a2, b1, b2, b3, b4, b5⟩
theorem r9c (hX : Kp No U X) (he : EOk e) (hs1 : ∀ W, Kp No U W → Sim.Src W v51 (out.take k).length 35 (ents (out.take k))) (hs2 : ∀ W, Kp No U W → Sim.Src W v61 (out.drop k).length 35 (ents (out.drop k))) (hk : (out.take k).length = k) (hm : k + 1 + (out.drop k).length = m + 1) (hl : m ≤ 1000) (hkm : k ≤ m) :
    ∃ ad1 cap1 w1 ad2 cap2 w2 ad3 cap3 w3, (Builtin.append_ #[77, 77] 77 #[.slice (some ⟨(X.alloc (.cells (entC e).toArray 159)).heap.size, 0, none⟩) 0 0, v51]).run Tryz.prog ((X.alloc (.cells (entC e).toArray 159)).alloc (.cells #[] 159)) = .ok (.slice ad1 k cap1) w1 ∧ Kp No U w1 ∧ (Builtin.append_ #[77, 77] 77 #[.slice ad1 k cap1, .slice (some ⟨X.heap.size, 0, none⟩) 1 1]).run Tryz.prog w1 = .ok (.slice ad2 (k + 1) cap2) w2 ∧ Kp No U w2 ∧ (Builtin.append_ #[77, 77] 77 #[.slice ad2 (k + 1) cap2, v61]).run Tryz.prog w2 = .ok (.slice ad3 (m + 1) cap3) w3 ∧ Kp No U w3 ∧ RowAt U w3 (.slice ad3 (m + 1) cap3) (out.take k ++ e :: out.drop k) := by
  have hX1 := hX.alloc (.cells (entC e).toArray 159)
  have hX2 := hX1.alloc (.cells #[] 159)
  have hz := rowAt_zero hX1
  obtain ⟨ad1, cap1, w1, a1, a2, a3, a4⟩ := r9_one hX2 hz hs1 hk (by omega)
  have hs := src_kp (src_one he X) ((Kp.refl No _).alloc (.cells #[] 159)) (fun g o s n c h => by simp at h; obtain ⟨⟨rfl, _⟩, _⟩ := h; exact ⟨by simp, fun x => x⟩)
  obtain ⟨ad2, cap2, w2, ad3, cap3, w3, b1, b2, b3, b4, b5⟩ := r9_tail a2 a3 (src_kp hs a4 (fun g o s n c h => by simp at h; obtain ⟨⟨rfl, _⟩, _⟩ := h; exact ⟨by simp; omega, by simp⟩)) hs2 hk hm hl
  exact ⟨ad1, cap1, w1, ad2, cap2, w2, ad3, cap3, w3, a1, a2, b1, b2, b3, b4, b5⟩
end three
end Go.Proofs.YthmimipoooemjaaGreatDoor.Sg
end

section
/-
  IndexSafe, walked.
-/
namespace Go.Proofs.YthmimipoooemjaaGreatDoor.Ix
open Go.RowKit Go.Shelf
open Sim (hid Kp No PS Done Blk nm ByP finds pBytes pUp pArm)

theorem form_len {e : Sg.Ent} (he : Sg.EOk e) : (Tlv.formOf 2 (Sg.entT e)).length ≤ 71 := by
  obtain ⟨h1, _, h3⟩ := Sg.ent_bsz he.1 (room := 68) (deep := 1) (by omega) (by omega)
  have h4 := Tlv.bsz_len 2 _ _ _ h1
  have h5 : (Tlv.formOf 2 (Sg.entT e)).length = 3 + (Tlv.bodyOf 2 (Sg.entT e)).length := by simp [Tlv.formOf]; omega
  omega
theorem forms_len : ∀ (d : List Sg.Ent), (∀ e ∈ d, Sg.EOk e) → (((d.map Sg.entT).map (Tlv.formOf 2)).flatten).length ≤ 71 * d.length
  | [], _ => by simp
  | e :: d, h => by
    have h1 := form_len (h e (by simp))
    have h2 := forms_len d (fun x hx => h x (by simp [hx]))
    simp only [List.map_cons, List.flatten_cons, List.length_append, List.length_cons]
    omega
theorem seal_len {d : List Sg.Ent} (h : ∀ e ∈ d, Sg.EOk e) : (nats (Sg.sealE d)).length ≤ 71 * d.length + 7 := by
  have h1 := forms_len d h
  have h2 : Tlv.bodyOf 3 (Sg.entsT d) = ((d.map Sg.entT).map (Tlv.formOf 2)).flatten := Tlv.bodyOf_kids rfl
  have h3 : (Sg.formE d).length = 3 + (Tlv.bodyOf 3 (Sg.entsT d)).length := by rw [Sg.formE]; simp [Tlv.formOf]; omega
  rw [nats_length, Sg.sealE, sealI_length, h3, h2]
  omega

/-- The list that the first save leaves. -/
theorem mid_start {A B : List Nat} {q : PS} {x : Nat} {N : Nat} (w : Went A (Sim.startPS 99000) x 6 q) (hi : Sim.PInv N q) (k : Int) : Mid A B x 0 1 { q with armed := true, left := k.toNat } := by
  have hs := hi.seen_eq
  rw [w.chg6 rfl, seen_one w] at hs
  refine ⟨w.down, w.room, fun _ => hs.symm, w.chg6 rfl, hi.seen_eq, w.fsafe (by omega), by omega, by omega, by omega, by omega, by omega⟩

theorem armed_ok {A : List Nat} {q : PS} {x : Nat} (w : Went A (Sim.startPS 99000) x 6 q) {k : Int} (hk : 0 ≤ k) : pArm k q = (0, { q with armed := true, left := k.toNat }) := by
  rw [pArm, if_neg (by rw [wrongs_zero w.down (by simp)]; simp), if_neg (by omega)]

set_option maxHeartbeats 4000000 in
set_option maxRecDepth 100000 in
/-- Where something is not light: alive. -/
theorem safe_dark (w : World) (a1 a2 a3 : Option Addr) (l1 l2 l3 c1 c2 c3 : Nat) (k z : Int) (hd : (30 < (l1 : Int)) ∨ (¬ 30 < (l1 : Int) ∧ 30 < (l2 : Int)) ∨ (¬ 30 < (l1 : Int) ∧ ¬ 30 < (l2 : Int) ∧ k < 0) ∨ (¬ 30 < (l1 : Int) ∧ ¬ 30 < (l2 : Int) ∧ ¬ k < 0 ∧ 60 < (l3 : Int))) :
    Calls Tryz.prog 6 #[.slice a1 l1 c1, .slice a2 l2 c2, .int .i64 k, .int .i64 z, .slice a3 l3 c3] w fun e w' => e = .returned (.bool true) ∧ Kp No w w' := by
  have HA := hid (alive_any w)
  rcases hd with h1 | ⟨h1, h2⟩ | ⟨h1, h2, h3⟩ | ⟨h1, h2, h3, h4⟩
  all_goals
    go_enter Tryz.func6, Tryz.ntmps6
    go_wp2_with fail
    refine HA.out.mono ?_
    rintro e w1 ⟨rfl, hk⟩
    have HK := hid hk
    clear hk
    go_wp2_with fail
    go_ret
    exact ⟨rfl, HK.out⟩

set_option maxHeartbeats 8000000 in
set_option maxRecDepth 100000 in
theorem safe_light (w : World) (a1 a2 a3 : Option Addr) (c1 c2 c3 L1 L2 L3 : Nat) (l m : List Sg.Ent) (cuts : List Int) (k z : Int) (hk0 : 0 ≤ k) (hkm : k ≤ 9223372036854775807) (e1 : l.length = L1) (e2 : m.length = L2)
    (hl : Sg.EV (fun g => g < w.heap.size) w (.slice a1 L1 c1) l) (hm : Sg.EV (fun g => g < w.heap.size) w (.slice a2 L2 c2) m) (hc : Sim.IntsAt (· < w.heap.size) w (.slice a3 L3 c3) cuts) (h1 : L1 ≤ 30) (h2 : L2 ≤ 30) (h3 : L3 ≤ 60) :
    Calls Tryz.prog 6 #[.slice a1 L1 c1, .slice a2 L2 c2, .int .i64 k, .int .i64 z, .slice a3 L3 c3] w fun e w' => e = .returned (.bool true) ∧ Kp No w w' := by
  have t1 : ¬ 30 < (L1 : Int) := by omega
  have t2 : ¬ 30 < (L2 : Int) := by omega
  have t3 : ¬ 60 < (L3 : Int) := by omega
  have t4 : ¬ k < 0 := by omega
  have HL := hid hl
  have HM := hid hm
  have HC := hid hc
  have HE := hid (And.intro e1 e2)
  have HA := hid alive_any
  clear hl hm hc e1 e2
  go_enter Tryz.func6, Tryz.ntmps6
  go_wp2_with fail
  refine (Sg.rsort_any w _ l _ HL.out (by have := HE.out.1; omega)).mono ?_
  rintro e w1 ⟨r1, A, rfl, hsA, hlA, hrA, hoA, hkA⟩
  have hokA : ∀ e ∈ A, Sg.EOk e := fun e he => HL.out.ok e (by
    have hf := hsA.1.get he
    rw [hsA.2] at hf
    exact List.mem_of_find?_eq_some hf)
  have HVA : Hid (Sg.EV (fun g => w.heap.size ≤ g ∧ g < w1.heap.size) w1 r1 A) := Sg.ev_of_rowT hrA hokA (fun x hx => ⟨hoA x hx, Sim.Row.lt hrA x hx⟩)
  have HK1 := hid hkA
  have HOA : Hid ((∀ e ∈ A, Sg.EOk e) ∧ A.length ≤ 30) := ⟨hokA, by have := HE.out.1; omega⟩
  clear hsA hlA hrA hoA hkA hokA
  obtain ⟨ra, rc, hr, _⟩ := id HVA.out
  obtain ⟨nA, hnA⟩ : ∃ n, A.length = n := ⟨_, rfl⟩
  rw [hnA] at hr
  subst hr
  clear hnA
  go_wp2_with fail
  refine (Sg.rsort_any w1 _ m _ (HM.out.kept HK1.out) (by have := HE.out.2; omega)).mono ?_
  rintro e w2 ⟨r2, B, rfl, hsB, hlB, hrB, hoB, hkB⟩
  have hokB : ∀ e ∈ B, Sg.EOk e := fun e he => HM.out.ok e (by
    have hf := hsB.1.get he
    rw [hsB.2] at hf
    exact List.mem_of_find?_eq_some hf)
  have HVB : Hid (Sg.EV (fun g => w.heap.size ≤ g ∧ g < w2.heap.size) w2 r2 B) := Sg.ev_of_rowT hrB hokB (fun x hx => ⟨Nat.le_trans HK1.out.size (hoB x hx), Sim.Row.lt hrB x hx⟩)
  have HVA2 : Hid (Sg.EV (fun g => w.heap.size ≤ g ∧ g < w2.heap.size) w2 (.slice ra nA rc) A) := (HVA.out.kept hkB).mono (fun g hg => ⟨hg.1, Nat.lt_of_lt_of_le hg.2 hkB.size⟩)
  have HK2 := hid (HK1.out.andNone hkB)
  have HOB : Hid ((∀ e ∈ B, Sg.EOk e) ∧ B.length ≤ 30) := ⟨hokB, by have := HE.out.2; omega⟩
  clear hsB hlB hrB hoB hkB hokB HVA HK1 HL HM HE
  obtain ⟨rb, rd, hr, _⟩ := id HVB.out
  obtain ⟨nB, hnB⟩ : ∃ n, B.length = n := ⟨_, rfl⟩
  rw [hnB] at hr
  subst hr
  clear hnB
  go_wp2_with fail
  refine (Sg.rright_any w2 _ A _ HVA2.out (by have := HOA.out.2; omega)).mono ?_
  rintro e w3 ⟨⟨ba, rfl, hba⟩, hk3⟩
  have HK3 := hid (HK2.out.andNone hk3)
  have HVA3 := hid (HVA2.out.kept hk3)
  have HVB3 := hid (HVB.out.kept hk3)
  have hs3 := hk3.size
  have HBA := hid hba
  clear hk3 hba HVA2 HVB HK2
  cases ba with
  | false =>
    go_wp2_with fail
    refine (HA.out w3).mono ?_
    rintro e w4 ⟨rfl, hk4⟩
    have HK4 := hid (HK3.out.andNone hk4)
    clear hk4
    go_wp2_with fail
    go_ret
    exact ⟨rfl, HK4.out⟩
  | true =>
    have HRA : Hid (Sg.RightP A) := HBA.out.1 rfl
    clear HBA
    go_wp2_with fail
    refine (Sg.rright_any w3 _ B _ HVB3.out (by have := HOB.out.2; omega)).mono ?_
    rintro e w4 ⟨⟨bb, rfl, hbb⟩, hk4⟩
    have HK4 := hid (HK3.out.andNone hk4)
    have HVA4 := hid (HVA3.out.kept hk4)
    have HVB4 := hid (HVB3.out.kept hk4)
    have hs4 := hk4.size
    have HBB := hid hbb
    clear hk4 hbb HVA3 HVB3 HK3
    cases bb with
    | false =>
      go_wp2_with fail
      refine (HA.out w4).mono ?_
      rintro e w5 ⟨rfl, hk5⟩
      have HK5 := hid (HK4.out.andNone hk5)
      clear hk5
      go_wp2_with fail
      go_ret
      exact ⟨rfl, HK5.out⟩
    | true =>
      have HRB : Hid (Sg.RightP B) := HBB.out.1 rfl
      clear HBB
      go_wp2_with fail
      refine (Sim.new_yes 99000 (by omega) w4).mono ?_
      rintro e w5 ⟨rfl, hS5, hk5⟩
      have HS5 : Hid (Sim.Sys (· = w4.heap.size) 0 w5 w4.heap.size (Sim.startPS 99000)) := hS5
      have HC5 : Hid (Kp (fun y => w4.heap.size ≤ y) w4 w5) := hk5.ofNo
      have hs5 : w4.heap.size < w5.heap.size := hS5.lt _ rfl
      have hw4 := HK4.out.size
      clear hS5 hk5
      go_wp2_with fail
      refine (Crc.new_any w5).mono ?_
      rintro e w6 ⟨rfl, hb6, hz6, ht6⟩
      have HS6 := hid (HS5.out.kept (Kp.below hb6))
      have HT6 : Hid (TabX w6 w5.heap.size) := ⟨0, 0, .inl rfl, ht6⟩
      have HC6 := hid (HC5.out.andNone (Kp.below hb6))
      have hs6 : w5.heap.size < w6.heap.size := by omega
      clear hb6 hz6 ht6 HS5 HC5
      have HUP : Hid (∀ V, Kp (fun y => w4.heap.size ≤ y) w4 V → Sg.EV (fun g => w.heap.size ≤ g ∧ g < w2.heap.size) V (.slice ra nA rc) A ∧ Sg.EV (fun g => w.heap.size ≤ g ∧ g < w2.heap.size) V (.slice rb nB rd) B ∧ Sim.IntsAt (· < w.heap.size) V (.slice a3 L3 c3) cuts ∧ Kp No w V) := fun V hV =>
        ⟨HVA4.out.kp hV (fun g hg hL => by omega), HVB4.out.kp hV (fun g hg hL => by omega), (HC.out.kp HK4.out (fun _ hx => hx.elim)).kp hV (fun x hx hq => by omega), HK4.out.trans hV (fun y hy => .inr (by omega))⟩
      clear HVA4 HVB4 HC HK4
      go_wp2_with fail
      refine (Sg.own_any w6 _ A _ (HUP.out w6 HC6.out).1 (by have := HOA.out.2; omega)).mono ?_
      rintro e w7 ⟨r7, rfl, hr7, ho7, hk7⟩
      have HV7 : Hid (Sg.EV (fun g => w6.heap.size ≤ g) w7 r7 A) := Sg.ev_of_row hr7 HOA.out.1 ho7
      have HS7 := hid (HS6.out.kept hk7)
      have HT7 := hid (HT6.out.kp hk7 (fun h => h))
      have HC7 := hid (HC6.out.andNone hk7)
      have hs7 := hk7.size
      clear hr7 ho7 hk7 HS6 HT6 HC6
      obtain ⟨a7, c7, hr, _⟩ := id HV7.out
      obtain ⟨n7, hn7⟩ : ∃ n, A.length = n := ⟨_, rfl⟩
      rw [hn7] at hr
      subst hr
      clear hn7
      go_wp2_with fail
      have HSA : Hid ((nats (Sg.sealE A)).length ≤ 2137) := by have h1 := seal_len HOA.out.1; have h2 := HOA.out.2; rw [Hid]; omega
      have HSB : Hid ((nats (Sg.sealE B)).length ≤ 2137) := by have h1 := seal_len HOB.out.1; have h2 := HOB.out.2; rw [Hid]; omega
      refine (save_any w7 w4.heap.size w5.heap.size (Sim.startPS 99000) _ A HS7.out (by omega) HT7.out (by omega) HV7.out HRA.out (by have := HSA.out; omega) (nats_lt HOA.out.1 HRA.out.1)).mono ?_
      rintro e w8 ⟨r8, hsv8, rfl, ht8, P8, hS8, hk8, hP8⟩
      obtain ⟨hr8, x8, _, hwent⟩ := save_ok ⟨rfl, rfl, rfl⟩ (by rw [start_used]; show 0 + (nats (Sg.sealE A)).length ≤ 99000; have := HSA.out; omega) hsv8
      have HMID : Hid (Mid (nats (Sg.sealE A)) (nats (Sg.sealE B)) x8 0 1 { r8.2 with armed := true, left := k.toNat }) := mid_start hwent hS8.inv k
      have HC8 : Hid (Kp (fun y => w4.heap.size ≤ y) w4 w8) := HC7.out.trans hk8 (fun y hy => .inl (by rcases hy with e | e <;> omega))
      have HP8 : Hid (∀ y, P8 y → w4.heap.size ≤ y ∧ y ≠ w5.heap.size) := fun y hy => by
        rcases hP8 y hy with e | e
        · exact ⟨by omega, by omega⟩
        · exact ⟨by omega, by omega⟩
      have HARM := hid (Sim.arm_any w8 w4.heap.size r8.2 k hkm hS8 (by omega))
      rw [armed_ok hwent hk0] at HARM
      have HT8 := hid ht8
      have hs8 := hk8.size
      rw [hr8]
      clear hsv8 ht8 hS8 hk8 hP8 hr8 hwent HS7 HT7 HC7 HV7
      obtain ⟨p1, hp1⟩ : ∃ p1 : PS, { r8.2 with armed := true, left := k.toNat } = p1 := ⟨_, rfl⟩
      rw [hp1] at HMID HARM
      clear hp1
      go_wp2_with fail
      refine HARM.out.mono ?_
      rintro e w9 ⟨rfl, P9, hS9, hk9, hP9⟩
      have HC9 : Hid (Kp (fun y => w4.heap.size ≤ y) w4 w9) := HC8.out.trans hk9 (fun y hy => .inl (HP8.out y hy).1)
      have HT9 := hid (HT8.out.kp hk9 (fun e => (HP8.out _ e).2 rfl))
      have HP9 : Hid (∀ y, P9 y → w4.heap.size ≤ y ∧ y ≠ w5.heap.size) := fun y hy => by
        rcases hP9 y hy with e | e
        · exact HP8.out y e
        · exact ⟨by omega, by omega⟩
      have HS9 := hid hS9
      have hs9 := hk9.size
      clear hS9 hk9 hP9 HC8 HT8 HP8 HARM
      go_wp2_with fail
      refine (Sg.own_any w9 _ B _ (HUP.out w9 HC9.out).2.1 (by have := HOB.out.2; omega)).mono ?_
      rintro e w10 ⟨r10, rfl, hr10, ho10, hk10⟩
      have HV10 : Hid (Sg.EV (fun g => w9.heap.size ≤ g) w10 r10 B) := Sg.ev_of_row hr10 HOB.out.1 ho10
      have HS10 := hid (HS9.out.kept hk10)
      have HT10 := hid (HT9.out.kp hk10 (fun h => h))
      have HC10 := hid (HC9.out.andNone hk10)
      have hs10 := hk10.size
      clear hr10 ho10 hk10 HS9 HT9 HC9
      obtain ⟨a10, c10, hr, _⟩ := id HV10.out
      obtain ⟨n10, hn10⟩ : ∃ n, B.length = n := ⟨_, rfl⟩
      rw [hn10] at hr
      subst hr
      clear hn10
      go_wp2_with fail
      refine (save_any w10 w4.heap.size w5.heap.size p1 _ B HS10.out (by omega) HT10.out (fun e => (HP9.out _ e).2 rfl) HV10.out HRB.out (by have := HSB.out; omega) (nats_lt HOB.out.1 HRB.out.1)).mono ?_
      rintro e w11 ⟨r11, hsv11, rfl, ht11, P11, hS11, hk11, hP11⟩
      have HAG := hid (save_again HMID.out (by have := HSA.out; have := HSB.out; omega) hsv11)
      have HC11 : Hid (Kp (fun y => w4.heap.size ≤ y) w4 w11) := HC10.out.trans hk11 (fun y hy => .inl (by
        rcases hy with e | e
        · exact (HP9.out y e).1
        · omega))
      have HP11 : Hid (∀ y, P11 y → w4.heap.size ≤ y ∧ y ≠ w5.heap.size) := fun y hy => by
        rcases hP11 y hy with e | e
        · exact HP9.out y e
        · exact ⟨by omega, by omega⟩
      have HUPC := hid (Sim.up_any w11 w4.heap.size r11.2 z _ cuts hS11 (HUP.out w11 HC11.out).2.2.1 (fun x hx e => by have := (HP11.out x e).1; omega))
      have HT11 := hid ht11
      have hs11 := hk11.size
      clear hsv11 ht11 hS11 hk11 hP11 HMID HP9 HC10 HS10 HT10 HV10
      have HLD : Hid (∃ D, (D = A ∨ D = B) ∧ (r11.1 = 0 ∧ D = B ∨ r11.1 = 12) ∧ (∀ e ∈ D, Sg.EOk e) ∧ Sg.RightP D ∧ D.length ≤ 30 ∧ finds (pUp z cuts r11.2) nI = 0 ∧ pBytes nI (pUp z cuts r11.2) = nats (Sg.sealE D)) := by
        rcases HAG.out with ⟨h0, hL⟩ | ⟨h0, hL⟩
        · obtain ⟨hf, hb⟩ := lead_up hL z cuts
          exact ⟨B, .inr rfl, .inl ⟨h0, rfl⟩, HOB.out.1, HRB.out, HOB.out.2, hf, by rcases hb with h | h <;> exact h⟩
        · obtain ⟨hf, hb⟩ := lead_up hL z cuts
          rcases hb with h | h
          · exact ⟨A, .inl rfl, .inr h0, HOA.out.1, HRA.out, HOA.out.2, hf, h⟩
          · exact ⟨B, .inr rfl, .inr h0, HOB.out.1, HRB.out, HOB.out.2, hf, h⟩
      clear HAG HSA HSB
      obtain ⟨p12, hp12⟩ : ∃ q, pUp z cuts r11.2 = q := ⟨_, rfl⟩
      obtain ⟨F, hF⟩ : ∃ F, r11.1 = F := ⟨_, rfl⟩
      rw [hp12] at HUPC
      rw [hp12, hF] at HLD
      rw [hF]
      clear hp12 hF
      go_wp2_with fail
      refine HUPC.out.mono ?_
      rintro e w12 ⟨rfl, P12, hS12, hk12, hP12⟩
      have HC12 : Hid (Kp (fun y => w4.heap.size ≤ y) w4 w12) := HC11.out.trans hk12 (fun y hy => .inl (HP11.out y hy).1)
      have HT12 := hid (HT11.out.kp hk12 (fun e => (HP11.out _ e).2 rfl))
      obtain ⟨D, hDAB, hDF, hDo, hDr, hDl, hDf, hDb⟩ := HLD.out
      have HLB := hid (load_back w12 w4.heap.size w5.heap.size p12 D hS12 HT12.out hDf hDo hDr hDb)
      have HD := hid (And.intro hDAB (And.intro hDo hDl))
      have hs12 := hk12.size
      have HDF := hid hDF
      clear hS12 hk12 hP12 HLD hDAB hDF hDo hDr hDl hDf hDb HUPC HC11 HT11 HP11
      go_wp2_with fail
      refine HLB.out.mono ?_
      rintro e w13 ⟨v13, rfl, hv13, hk13, _⟩
      have HC13 : Hid (Kp (fun y => w4.heap.size ≤ y) w4 w13) := HC12.out.trans hk13 (fun y hy => .inl (by omega))
      have HBK := hid (Sg.back_any w13 v13 D _ hv13 (by have := HD.out.2.2; omega))
      obtain ⟨a13, c13, hr, _⟩ := id hv13
      obtain ⟨n13, hn13⟩ : ∃ n, D.length = n := ⟨_, rfl⟩
      rw [hn13] at hr
      subst hr
      clear hn13 hv13 hk13 HLB HC12 HT12
      go_wp2_with fail
      refine HBK.out.mono ?_
      rintro e w14 ⟨r14, rfl, hr14, ho14, hk14⟩
      have HC14 := hid (HC13.out.andNone hk14)
      have HV14 : Hid (Sg.EV (fun _ => True) w14 r14 D) := Sg.ev_of_rowT hr14 HD.out.2.1 (fun _ _ => trivial)
      clear hr14 ho14 hk14 HC13 HBK
      obtain ⟨a14, c14, hr, _⟩ := id HV14.out
      obtain ⟨n14, hn14⟩ : ∃ n, D.length = n := ⟨_, rfl⟩
      rw [hn14] at hr
      subst hr
      clear hn14
      have HSMA := hid (Sg.same_any w14 _ _ D A _ _ HV14.out (HUP.out w14 HC14.out).1 (by have := HD.out.2.2; omega))
      have HSMB := hid (fun V (hV : Kp No w14 V) => Sg.same_any V _ _ D B _ _ (HV14.out.kept hV) (HUP.out V (HC14.out.andNone hV)).2.1 (by have := HD.out.2.2; omega))
      have HKF := hid (fun V (hV : Kp No w14 V) => (HUP.out V (HC14.out.andNone hV)).2.2.2)
      rcases HDF.out with ⟨rfl, hDB⟩ | rfl
      · have e1 : decide (D = B) = true := by simp [hDB]
        rw [e1] at HSMB
        clear HSMA HUP HC14 HV14 hDB e1 HDF HD
        go_wp2_with fail
        refine (HSMB.out w14 (Kp.refl _ _)).mono ?_
        rintro e w15 ⟨rfl, hk15⟩
        have HK15 := hid hk15
        clear hk15
        go_wp2_with fail
        refine (HA.out w15).mono ?_
        rintro e w16 ⟨rfl, hk16⟩
        have HK16 := hid (HKF.out w16 (HK15.out.andNone hk16))
        clear hk16
        go_wp2_with fail
        go_ret
        exact ⟨rfl, HK16.out⟩
      · have HDAB := hid HD.out.1
        clear HUP HC14 HV14 HDF HD
        cases hq : decide (D = A) with
        | true =>
          rw [hq] at HSMA
          clear hq HSMB
          go_wp2_with fail
          refine HSMA.out.mono ?_
          rintro e w15 ⟨rfl, hk15⟩
          have HK15 := hid hk15
          clear hk15
          go_wp2_with fail
          refine (HA.out w15).mono ?_
          rintro e w16 ⟨rfl, hk16⟩
          have HK16 := hid (HKF.out w16 (HK15.out.andNone hk16))
          clear hk16
          go_wp2_with fail
          go_ret
          exact ⟨rfl, HK16.out⟩
        | false =>
          have e2 : decide (D = B) = true := by
            rcases HDAB.out with h | h
            · simp [h] at hq
            · simp [h]
          rw [hq] at HSMA
          rw [e2] at HSMB
          clear hq e2
          go_wp2_with fail
          refine HSMA.out.mono ?_
          rintro e w15 ⟨rfl, hk15⟩
          have HK15 := hid hk15
          clear hk15
          go_wp2_with fail
          refine (HSMB.out w15 HK15.out).mono ?_
          rintro e w16 ⟨rfl, hk16⟩
          have HK16 := hid (HK15.out.andNone hk16)
          clear hk16
          go_wp2_with fail
          refine (HA.out w16).mono ?_
          rintro e w17 ⟨rfl, hk17⟩
          have HK17 := hid (HKF.out w17 (HK16.out.andNone hk17))
          clear hk17
          go_wp2_with fail
          go_ret
          exact ⟨rfl, HK17.out⟩

end Go.Proofs.YthmimipoooemjaaGreatDoor.Ix
end

section
/-
  Records that came in, opened.
-/
namespace Go.Proofs.YthmimipoooemjaaGreatDoor
open Go.RowKit Go.ChangeShapes Go.WideShapes

theorem mapM_each {α β : Type} {f : α → Option β} : ∀ (L : List α) (ys : List β), L.mapM f = some ys → ∀ i ∈ L, ∃ y, f i = some y
  | [], _, _, i, hi => by simp at hi
  | a :: L, ys, h, i, hi => by
    rw [List.mapM_cons] at h
    simp only [bind, Option.bind_eq_some_iff, pure, Option.some.injEq] at h
    obtain ⟨y, hy, zs, hzs, _⟩ := h
    rcases List.mem_cons.1 hi with rfl | hi
    · exact ⟨y, hy⟩
    · exact mapM_each L zs hzs i hi

section
variable {H : Type} {enc : TypeId × Value → H} {P : Program} {W : World} {base : Nat} {sp : Nat → Bool} {held : Bool} {t e : TypeId} {n : Nat} {q : IntKind}
/-- The cells of an array of integers that came in. -/
theorem arr_ints (hu : P.underlying t = some (.array n e)) (he : P.underlying e = some (.int q)) (h1 : P.cellsOf e = 1) {fuel : Nat} {cs : List Value} {x : DataW H × List MemPlace} (hl : cs.length = n)
    (h : DataW.trod enc P W base sp held fuel t cs = some x) : ∃ zs : List Int, cs = zs.map (fun z => Value.int q z) ∧ zs.length = n ∧ ∀ z ∈ zs, (Lit.int q z).wf = true := by
  cases fuel with
  | zero => simp [DataW.trod] at h
  | succ m =>
    rw [DataW.trod_step] at h
    unfold DataW.trodStep at h
    simp only [hu] at h
    split at h
    · simp only [Option.map_eq_some_iff] at h
      obtain ⟨ys, hy, _⟩ := h
      have hE : ∀ i, i < n → ∃ z, cs[i]? = some (.int q z) ∧ (Lit.int q z).wf = true := fun i hi => by
        obtain ⟨y, hy⟩ := mapM_each _ ys hy i (List.mem_range.2 hi)
        obtain ⟨a, ea, _, wa⟩ := DataW.trod_int he hy
        rw [h1, Nat.mul_one] at ea
        refine ⟨a, ?_, wa⟩
        have h := congrArg (fun l : List Value => l[0]?) ea
        simpa [List.getElem?_take, List.getElem?_drop] using h
      refine ⟨cs.map intOf, ?_, by simpa using hl, ?_⟩
      · apply List.ext_getElem?
        intro i
        by_cases hi : i < n
        · obtain ⟨z, hz, _⟩ := hE i hi
          simp [hz, intOf]
        · have : cs[i]? = none := List.getElem?_eq_none (by omega)
          simp [this]
      · intro z hz
        obtain ⟨x, hx, rfl⟩ := List.mem_map.1 hz
        obtain ⟨i, hi, rfl⟩ := List.getElem_of_mem hx
        obtain ⟨z, hz, hw⟩ := hE i (by omega)
        rw [List.getElem?_eq_getElem hi] at hz
        simp only [Option.some.injEq] at hz
        rw [hz]
        exact hw
    · simp at h
end
theorem spot_none {w : World} {x : Addr} {v : Value} (c0 : w.cell? (x.add 0) = some v) : x.spot = none := by
  have e : x.add 0 = x := rfl
  rw [e] at c0
  unfold World.cell? at c0
  split at c0
  · split at c0
    · cases c0
    · rename_i hs; simpa using hs
  · cases c0

theorem addr_plus (g o i : Nat) : (⟨g, o, none⟩ : Addr).add i = ⟨g, o + i, none⟩ := by unfold Addr.add; split <;> simp_all

theorem u8_wf {y : Int} (h : (Lit.int .u8 y).wf = true) : 0 ≤ y ∧ y ≤ 255 := by
  have hmin : IntKind.u8.min = 0 := rfl
  have hmax : IntKind.u8.max = 255 := rfl
  simp only [Lit.wf, Bool.and_eq_true, decide_eq_true_eq] at h
  omega

theorem i64_wf {y : Int} (h : (Lit.int .i64 y).wf = true) : -9223372036854775808 ≤ y ∧ y ≤ 9223372036854775807 := by
  have hmin : IntKind.i64.min = -9223372036854775808 := rfl
  have hmax : IntKind.i64.max = 9223372036854775807 := rfl
  simp only [Lit.wf, Bool.and_eq_true, decide_eq_true_eq] at h
  omega
end Go.Proofs.YthmimipoooemjaaGreatDoor
end
