/- Of the proof: the texts NdHash, NdRFile, TlvKids, TlvClone, TlvMany, NdVal, NdMany, one behind the other. -/
import Derived.Test.YtenfahecnkdhaaaB9
import Derived.Deep.DeepCutAuto
import Derived.Deep.AppendLies
import Derived.Deep.RegionHeld3
import Derived.Deep.DrawnRows
import Derived.Deep.LoopGhost
section
/-
  Hashes, of the document: are two lists of names the same?
-/
namespace Go.Proofs.Ytenfahecnkdhaaa.Nd
open Go.RowKit
open Sim (hid Kp No)

/-- A hash's bytes. -/
def HOk (h : List Int) : Prop := h.length = 32 ∧ ∀ x ∈ h, 0 ≤ x ∧ x ≤ 255
/-- Block g holds the hashes d from o on, to be read. -/
def HRow (w : World) (g o : Nat) (d : List (List Int)) : Prop := g < w.heap.size ∧ ∀ i h, d[i]? = some h → HOk h ∧ w.rangeAt g (o + i * 32) (b8 h)
theorem HRow.kp {L : Nat → Prop} {w w' : World} {g o : Nat} {d : List (List Int)} (h : HRow w g o d) (k : Kp L w w') (hg : ¬ L g) : HRow w' g o d :=
  ⟨Nat.lt_of_lt_of_le h.1 k.size, fun i e hi => ⟨(h.2 i e hi).1, fun j v hv => (k.cell (p := ⟨g, _, none⟩) h.1 hg).trans ((h.2 i e hi).2 j v hv)⟩⟩
/-- v is a slice of the hashes d, in a block of which P. -/
def HV (P : Nat → Prop) (w : World) (v : Value) (d : List (List Int)) : Prop :=
  ∃ a c, v = .slice a d.length c ∧ d.length ≤ c ∧ c ≤ maxLen ∧ (a = none → d = [] ∧ c = 0) ∧ (∀ h ∈ d, HOk h) ∧ (d ≠ [] → ∃ g o, a = some ⟨g, o, none⟩ ∧ P g ∧ HRow w g o d)
theorem HV.nil (P : Nat → Prop) (w : World) : HV P w (.slice none 0 0) [] := ⟨none, 0, rfl, Nat.le_refl _, Nat.zero_le _, fun _ => ⟨rfl, rfl⟩, by simp, by simp⟩
theorem HV.kept {P : Nat → Prop} {w w' : World} {v : Value} {d : List (List Int)} (h : HV P w v d) (k : Kp No w w') : HV P w' v d := by
  obtain ⟨a, c, e, h2, h3, h4, h5, h6⟩ := h
  refine ⟨a, c, e, h2, h3, h4, h5, fun hne => ?_⟩
  obtain ⟨g, o, e1, hp, hr⟩ := h6 hne
  exact ⟨g, o, e1, hp, hr.kp k (fun x => x)⟩
theorem hv_row {P : Nat → Prop} {w : World} {a : Option Addr} {n c : Nat} {d : List (List Int)} (h : HV P w (.slice a n c) d) (hd : d ≠ []) : ∃ g o, a = some ⟨g, o, none⟩ ∧ P g ∧ HRow w g o d := by
  obtain ⟨a', c', e, _, _, _, _, h6⟩ := h
  simp only [Value.slice.injEq] at e
  rw [e.1]
  exact h6 hd

set_option maxHeartbeats 2000000 in
set_option maxRecDepth 100000 in
theorem hashes_any (w : World) (v v' : Value) (a b : List (List Int)) (P P' : Nat → Prop) (hv : HV P w v a) (hv' : HV P' w v' b) (hl : a.length ≤ 1000000) :
    Calls Try.prog 29 #[v, v'] w fun e w' => e = .returned (.bool (decide (a = b))) ∧ Kp No w w' := by
  have HV := hid hv
  have HV' := hid hv'
  obtain ⟨x1, c1, e1, _⟩ := hv
  obtain ⟨x2, c2, e2, _⟩ := hv'
  subst e1
  subst e2
  obtain ⟨n, hn⟩ : ∃ n, a.length = n := ⟨_, rfl⟩
  obtain ⟨m, hm⟩ : ∃ m, b.length = m := ⟨_, rfl⟩
  have HN := hid hn
  have HM := hid hm
  rw [hn] at HV hl ⊢
  rw [hm] at HV' ⊢
  clear hn hm
  obtain ⟨z, hz⟩ : ∃ z, decide (a = b) = z := ⟨_, rfl⟩
  rw [hz]
  have HZ := hid hz
  clear hz
  by_cases hnm : n = m
  · subst hnm
    go_enter Try.func29, Try.ntmps29
    go_wp2_with fail
    go_loopw [5] (fun v5 wr => ∃ (k : Nat), v5 = .int .i64 (k : Int) ∧ k ≤ n ∧ Hid (a.take k = b.take k) ∧ Hid (Kp No w wr)) (fun v5 _ => n - (intOf v5).toNat)
    case atStart => exact ⟨0, rfl, Nat.zero_le _, rfl, Kp.refl _ _⟩
    case round =>
      obtain ⟨k, rfl, hkn, HS, HK⟩ := hrel
      by_cases hlt : k < n
      · have hltI : (k : Int) < (n : Int) := by omega
        have hwk : IntKind.i64.wrap ((k : Int) + 1) = ((k + 1 : Nat) : Int) := by rw [IntKind.wrap_i64]; omega
        obtain ⟨x, hx⟩ : ∃ x, a[k]? = some x := ⟨_, List.getElem?_eq_getElem (by rw [HN.out]; exact hlt)⟩
        obtain ⟨y, hy⟩ : ∃ y, b[k]? = some y := ⟨_, List.getElem?_eq_getElem (by rw [HM.out]; exact hlt)⟩
        obtain ⟨g, o, rfl, _, hr⟩ := hv_row (HV.out.kept HK.out) (by intro e; have := HN.out; rw [e] at this; simp at this; omega)
        obtain ⟨g', o', rfl, _, hr'⟩ := hv_row (HV'.out.kept HK.out) (by intro e; have := HM.out; rw [e] at this; simp at this; omega)
        obtain ⟨hxo, hxr⟩ := hr.2 k x hx
        obtain ⟨hyo, hyr⟩ := hr'.2 k y hy
        have HQ := hid (fun W => eqHashAt 9998 x y hxo.1 hyo.1 hxo.2 hyo.2 W)
        have hq := HQ.out
        have HX := hid hxr
        have HY := hid hyr
        have HI1 : Hid ((Try.prog.info? 68).map (·.size) = some (b8 x).length) := by rw [Hid, b8_length, hxo.1]; kernel_rfl
        have HI2 : Hid ((Try.prog.info? 68).map (·.size) = some (b8 y).length) := by rw [Hid, b8_length, hyo.1]; kernel_rfl
        have HGW := hid hr.1
        have HGW' := hid hr'.1
        have HGX := hid hx
        have HGY := hid hy
        clear hr hr' hxo hyo hxr hyr hx hy HQ
        obtain ⟨zz, hzz⟩ : ∃ zz, decide (x = y) = zz := ⟨_, rfl⟩
        rw [hzz] at hq
        have HZZ := hid hzz
        clear hzz
        generalize b8 x = X at *
        generalize b8 y = Y at *
        have HLX : Hid (∀ V, Kp No wr V → V.rangeAt g (o + k * 32) X) := fun V hV j u hj => (hV.cell (p := ⟨g, _, none⟩) HGW.out (fun x => x)).trans (HX.out j u hj)
        have HLY : Hid (∀ V, Kp No wr V → V.rangeAt g' (o' + k * 32) Y) := fun V hV j u hj => (hV.cell (p := ⟨g', _, none⟩) HGW'.out (fun x => x)).trans (HY.out j u hj)
        cases zz with
        | true =>
          have HN2 : Hid (a.take (k + 1) = b.take (k + 1)) := by
            rw [Hid, List.take_add_one, List.take_add_one, HS.out, HGX.out, HGY.out, of_decide_eq_true HZZ.out]
          go_wp2_with fail
          refine wp_region_held_drew (S := fun V => Kp No wr V) (by kernel_rfl) ((Kp.refl _ _).drew) (fun hHeld => ?_)
          refine wpAnyH_take (i := 0) (oi := { dst := some 17, op := Op.move (Operand.tmp 0), type := 22, pos := "ref.go:225", after := #[], guard := none }) (v := .slice (some ⟨g, o, none⟩) n c1) rfl (by kernel_rfl) (by kernel_rfl) (by kernel_rfl) (fun _ _ _ h => h) (Or.inl ⟨by rfl, fun w' hw' => by (clear hw'; go_simp)⟩) hHeld ?_
          simp only [Act.put, List.setIfInBounds_toArray, List.set_cons_zero, List.set_cons_succ]
          refine wpAnyH_take (i := 1) (oi := { dst := some 18, op := Op.move (Operand.tmp 5), type := 3, pos := "ref.go:225", after := #[], guard := none }) (v := .int .i64 (k : Int)) rfl (by kernel_rfl) (by kernel_rfl) (by kernel_rfl) (fun _ _ _ h => h) (Or.inl ⟨by rfl, fun w' hw' => by (clear hw'; go_simp)⟩) hHeld ?_
          simp only [Act.put, List.setIfInBounds_toArray, List.set_cons_zero, List.set_cons_succ]
          refine wpAnyH_take (i := 2) (oi := { dst := some 19, op := Op.indexAddr 22 (Operand.tmp 17) (Operand.tmp 18), type := 0, pos := "ref.go:225", after := #[{ on := 0, ground := Ground.data }, { on := 1, ground := Ground.data }], guard := none }) (v := .pointer (some ⟨g, o + k * 32, none⟩)) rfl (by kernel_rfl) (by kernel_rfl) (by kernel_rfl) (fun _ _ _ h => h) (Or.inl ⟨by rfl, fun w' hw' => by (clear hw'; go_simp)⟩) hHeld ?_
          simp only [Act.put, List.setIfInBounds_toArray, List.set_cons_zero, List.set_cons_succ]
          refine wpAnyH_take (i := 3) (oi := { dst := some 20, op := Op.load 68 (Operand.tmp 19), type := 68, pos := "ref.go:225", after := #[{ on := 2, ground := Ground.data }], guard := none }) (v := .agg X.toArray) rfl (by kernel_rfl) (by kernel_rfl) (by kernel_rfl) (fun _ _ _ h => h) (yieldsIf_load_mid (by rfl) _ _ rfl g (o + k * 32) rfl X _ (HLX.out) Try.underlying68 rfl HI1.out) hHeld ?_
          simp only [Act.put, List.setIfInBounds_toArray, List.set_cons_zero, List.set_cons_succ]
          refine wpAnyH_take (i := 4) (oi := { dst := some 21, op := Op.move (Operand.tmp 1), type := 22, pos := "ref.go:225", after := #[], guard := none }) (v := .slice (some ⟨g', o', none⟩) n c2) rfl (by kernel_rfl) (by kernel_rfl) (by kernel_rfl) (fun _ _ _ h => h) (Or.inl ⟨by rfl, fun w' hw' => by (clear hw'; go_simp)⟩) hHeld ?_
          simp only [Act.put, List.setIfInBounds_toArray, List.set_cons_zero, List.set_cons_succ]
          refine wpAnyH_take (i := 5) (oi := { dst := some 22, op := Op.move (Operand.tmp 5), type := 3, pos := "ref.go:225", after := #[], guard := none }) (v := .int .i64 (k : Int)) rfl (by kernel_rfl) (by kernel_rfl) (by kernel_rfl) (fun _ _ _ h => h) (Or.inl ⟨by rfl, fun w' hw' => by (clear hw'; go_simp)⟩) hHeld ?_
          simp only [Act.put, List.setIfInBounds_toArray, List.set_cons_zero, List.set_cons_succ]
          refine wpAnyH_take (i := 6) (oi := { dst := some 23, op := Op.indexAddr 22 (Operand.tmp 21) (Operand.tmp 22), type := 0, pos := "ref.go:225", after := #[{ on := 4, ground := Ground.data }, { on := 5, ground := Ground.data }], guard := none }) (v := .pointer (some ⟨g', o' + k * 32, none⟩)) rfl (by kernel_rfl) (by kernel_rfl) (by kernel_rfl) (fun _ _ _ h => h) (Or.inl ⟨by rfl, fun w' hw' => by (clear hw'; go_simp)⟩) hHeld ?_
          simp only [Act.put, List.setIfInBounds_toArray, List.set_cons_zero, List.set_cons_succ]
          refine wpAnyH_take (i := 7) (oi := { dst := some 24, op := Op.load 68 (Operand.tmp 23), type := 68, pos := "ref.go:225", after := #[{ on := 6, ground := Ground.data }], guard := none }) (v := .agg Y.toArray) rfl (by kernel_rfl) (by kernel_rfl) (by kernel_rfl) (fun _ _ _ h => h) (yieldsIf_load_mid (by rfl) _ _ rfl g' (o' + k * 32) rfl Y _ (HLY.out) Try.underlying68 rfl HI2.out) hHeld ?_
          simp only [Act.put, List.setIfInBounds_toArray, List.set_cons_zero, List.set_cons_succ]
          refine wpAnyH_take (i := 8) (oi := { dst := some 25, op := Op.binOp BinOp.neq 68 (Operand.tmp 20) (Operand.tmp 24) 68, type := 4, pos := "ref.go:225", after := #[{ on := 3, ground := Ground.data }, { on := 7, ground := Ground.data }], guard := none }) (v := .bool false) rfl (by kernel_rfl) (by kernel_rfl) (by kernel_rfl) (fun _ _ _ h => h) (Or.inl ⟨by rfl, fun w' hw' => by (clear hw'; go_simp)⟩) hHeld ?_
          simp only [Act.put, List.setIfInBounds_toArray, List.set_cons_zero, List.set_cons_succ]
          refine wpAnyH_done (by kernel_rfl) ?_ _
          clear hHeld
          go_wp2_with fail
          go_round
          case rel => exact ⟨k + 1, by first | rfl | go_num, by omega, HN2.out, HK.out.drew⟩
          case measure => simp [intOf]; omega
        | false =>
          have HNO : Hid (z = false) := by
            rw [Hid, ← HZ.out, decide_eq_false_iff_not]
            intro e
            have h1 := HGX.out
            rw [e, HGY.out] at h1
            cases h1
            have h2 := HZZ.out
            simp at h2
          go_wp2_with fail
          refine wp_region_held_drew (S := fun V => Kp No wr V) (by kernel_rfl) ((Kp.refl _ _).drew) (fun hHeld => ?_)
          refine wpAnyH_take (i := 0) (oi := { dst := some 17, op := Op.move (Operand.tmp 0), type := 22, pos := "ref.go:225", after := #[], guard := none }) (v := .slice (some ⟨g, o, none⟩) n c1) rfl (by kernel_rfl) (by kernel_rfl) (by kernel_rfl) (fun _ _ _ h => h) (Or.inl ⟨by rfl, fun w' hw' => by (clear hw'; go_simp)⟩) hHeld ?_
          simp only [Act.put, List.setIfInBounds_toArray, List.set_cons_zero, List.set_cons_succ]
          refine wpAnyH_take (i := 1) (oi := { dst := some 18, op := Op.move (Operand.tmp 5), type := 3, pos := "ref.go:225", after := #[], guard := none }) (v := .int .i64 (k : Int)) rfl (by kernel_rfl) (by kernel_rfl) (by kernel_rfl) (fun _ _ _ h => h) (Or.inl ⟨by rfl, fun w' hw' => by (clear hw'; go_simp)⟩) hHeld ?_
          simp only [Act.put, List.setIfInBounds_toArray, List.set_cons_zero, List.set_cons_succ]
          refine wpAnyH_take (i := 2) (oi := { dst := some 19, op := Op.indexAddr 22 (Operand.tmp 17) (Operand.tmp 18), type := 0, pos := "ref.go:225", after := #[{ on := 0, ground := Ground.data }, { on := 1, ground := Ground.data }], guard := none }) (v := .pointer (some ⟨g, o + k * 32, none⟩)) rfl (by kernel_rfl) (by kernel_rfl) (by kernel_rfl) (fun _ _ _ h => h) (Or.inl ⟨by rfl, fun w' hw' => by (clear hw'; go_simp)⟩) hHeld ?_
          simp only [Act.put, List.setIfInBounds_toArray, List.set_cons_zero, List.set_cons_succ]
          refine wpAnyH_take (i := 3) (oi := { dst := some 20, op := Op.load 68 (Operand.tmp 19), type := 68, pos := "ref.go:225", after := #[{ on := 2, ground := Ground.data }], guard := none }) (v := .agg X.toArray) rfl (by kernel_rfl) (by kernel_rfl) (by kernel_rfl) (fun _ _ _ h => h) (yieldsIf_load_mid (by rfl) _ _ rfl g (o + k * 32) rfl X _ (HLX.out) Try.underlying68 rfl HI1.out) hHeld ?_
          simp only [Act.put, List.setIfInBounds_toArray, List.set_cons_zero, List.set_cons_succ]
          refine wpAnyH_take (i := 4) (oi := { dst := some 21, op := Op.move (Operand.tmp 1), type := 22, pos := "ref.go:225", after := #[], guard := none }) (v := .slice (some ⟨g', o', none⟩) n c2) rfl (by kernel_rfl) (by kernel_rfl) (by kernel_rfl) (fun _ _ _ h => h) (Or.inl ⟨by rfl, fun w' hw' => by (clear hw'; go_simp)⟩) hHeld ?_
          simp only [Act.put, List.setIfInBounds_toArray, List.set_cons_zero, List.set_cons_succ]
          refine wpAnyH_take (i := 5) (oi := { dst := some 22, op := Op.move (Operand.tmp 5), type := 3, pos := "ref.go:225", after := #[], guard := none }) (v := .int .i64 (k : Int)) rfl (by kernel_rfl) (by kernel_rfl) (by kernel_rfl) (fun _ _ _ h => h) (Or.inl ⟨by rfl, fun w' hw' => by (clear hw'; go_simp)⟩) hHeld ?_
          simp only [Act.put, List.setIfInBounds_toArray, List.set_cons_zero, List.set_cons_succ]
          refine wpAnyH_take (i := 6) (oi := { dst := some 23, op := Op.indexAddr 22 (Operand.tmp 21) (Operand.tmp 22), type := 0, pos := "ref.go:225", after := #[{ on := 4, ground := Ground.data }, { on := 5, ground := Ground.data }], guard := none }) (v := .pointer (some ⟨g', o' + k * 32, none⟩)) rfl (by kernel_rfl) (by kernel_rfl) (by kernel_rfl) (fun _ _ _ h => h) (Or.inl ⟨by rfl, fun w' hw' => by (clear hw'; go_simp)⟩) hHeld ?_
          simp only [Act.put, List.setIfInBounds_toArray, List.set_cons_zero, List.set_cons_succ]
          refine wpAnyH_take (i := 7) (oi := { dst := some 24, op := Op.load 68 (Operand.tmp 23), type := 68, pos := "ref.go:225", after := #[{ on := 6, ground := Ground.data }], guard := none }) (v := .agg Y.toArray) rfl (by kernel_rfl) (by kernel_rfl) (by kernel_rfl) (fun _ _ _ h => h) (yieldsIf_load_mid (by rfl) _ _ rfl g' (o' + k * 32) rfl Y _ (HLY.out) Try.underlying68 rfl HI2.out) hHeld ?_
          simp only [Act.put, List.setIfInBounds_toArray, List.set_cons_zero, List.set_cons_succ]
          refine wpAnyH_take (i := 8) (oi := { dst := some 25, op := Op.binOp BinOp.neq 68 (Operand.tmp 20) (Operand.tmp 24) 68, type := 4, pos := "ref.go:225", after := #[{ on := 3, ground := Ground.data }, { on := 7, ground := Ground.data }], guard := none }) (v := .bool true) rfl (by kernel_rfl) (by kernel_rfl) (by kernel_rfl) (fun _ _ _ h => h) (Or.inl ⟨by rfl, fun w' hw' => by (clear hw'; go_simp)⟩) hHeld ?_
          simp only [Act.put, List.setIfInBounds_toArray, List.set_cons_zero, List.set_cons_succ]
          refine wpAnyH_done (by kernel_rfl) ?_ _
          clear hHeld
          go_wp2_with fail
          go_ret
          exact ⟨by rw [HNO.out]; rfl, HK.out.drew⟩
      · have hltI : ¬ (k : Int) < (n : Int) := by omega
        have HYE : Hid (z = true) := by
          rw [Hid, ← HZ.out, decide_eq_true_eq]
          have h := HS.out
          rwa [List.take_of_length_le (by rw [HN.out]; omega), List.take_of_length_le (by rw [HM.out]; omega)] at h
        go_wp2_with fail
        go_ret
        exact ⟨by rw [HYE.out]; rfl, HK.out⟩
  · have hne : ((n : Int) != (m : Int)) = true := by simp; omega
    have HNO : Hid (z = false) := by
      rw [Hid, ← HZ.out, decide_eq_false_iff_not]
      intro e
      exact hnm (by rw [← HN.out, ← HM.out, e])
    go_enter Try.func29, Try.ntmps29
    go_wp2_with fail
    go_ret
    exact ⟨by rw [HNO.out]; rfl, Kp.refl _ _⟩
end Go.Proofs.Ytenfahecnkdhaaa.Nd
end

section
/-
  RightFile, of the document, and Chunk of it.
-/
namespace Go.Proofs.Ytenfahecnkdhaaa.Nd
open Go.RowKit
open Sim (hid Kp No)

/-- A file of that size and so many chunks may be. -/
def fileB (s : Int) (n : Nat) : Bool := decide (0 ≤ s ∧ s ≤ 2000 ∧ (n : Int) ≤ s ∧ (s = 0 ∨ 0 < n))

set_option maxHeartbeats 2000000 in
theorem rightFile_any (w : World) (s : Int) (x : Option Addr) (n c : Nat) :
    Calls Try.prog 40 #[.agg #[.int .i64 s, .slice x n c]] w fun e w' => e = .returned (.bool (fileB s n)) ∧ Kp No w w' := by
  have HK : Hid (Kp No w (w.alloc (.cells #[.int .i64 s, .slice x n c] 24))) := (Kp.refl No w).alloc _
  have fin : ∀ b, (b = true ↔ (0 ≤ s ∧ s ≤ 2000 ∧ (n : Int) ≤ s ∧ (s = 0 ∨ 0 < n))) → fileB s n = b := fun b h => by
    unfold fileB
    rw [Bool.eq_iff_iff, decide_eq_true_eq]
    exact h.symm
  have HF := hid fin
  clear fin
  by_cases h1 : 0 ≤ s
  · by_cases h2 : s ≤ 2000
    · by_cases h3 : (n : Int) ≤ s
      · by_cases h4 : s = 0
        · have e := HF.out true ⟨fun _ => ⟨h1, h2, h3, .inl h4⟩, fun _ => rfl⟩
          rw [e]
          have h4b : (s == 0) = true := by simpa using h4
          clear h4 e
          go_enter Try.func40, Try.ntmps40
          go_wp2
          go_ret
          exact ⟨rfl, HK.out⟩
        · have h4b : (s == 0) = false := by simpa using h4
          by_cases h5 : 0 < n
          · have e := HF.out true ⟨fun _ => ⟨h1, h2, h3, .inr h5⟩, fun _ => rfl⟩
            rw [e]
            have h5I : (0 : Int) < (n : Int) := by omega
            clear e h4
            go_enter Try.func40, Try.ntmps40
            go_wp2
            go_ret
            exact ⟨rfl, HK.out⟩
          · have e := HF.out false ⟨fun h => (by cases h), fun h => (by rcases h.2.2.2 with h | h; exact absurd h h4; exact absurd h h5)⟩
            rw [e]
            have h5I : ¬ (0 : Int) < (n : Int) := by omega
            clear e h4
            go_enter Try.func40, Try.ntmps40
            go_wp2
            go_ret
            exact ⟨rfl, HK.out⟩
      · have e := HF.out false ⟨fun h => (by cases h), fun h => absurd h.2.2.1 h3⟩
        rw [e]
        clear e
        go_enter Try.func40, Try.ntmps40
        go_wp2
        go_ret
        exact ⟨rfl, HK.out⟩
    · have e := HF.out false ⟨fun h => (by cases h), fun h => absurd h.2.1 h2⟩
      rw [e]
      clear e
      go_enter Try.func40, Try.ntmps40
      go_wp2
      go_ret
      exact ⟨rfl, HK.out⟩
  · have e := HF.out false ⟨fun h => (by cases h), fun h => absurd h.1 h1⟩
    rw [e]
    clear e
    go_enter Try.func40, Try.ntmps40
    go_wp2
    go_ret
    exact ⟨rfl, HK.out⟩

end Go.Proofs.Ytenfahecnkdhaaa.Nd
end

section
/-
  A slice of values that a call builds by append, one behind the other: how it lies in memory.
-/
namespace Go.Proofs.Ytenfahecnkdhaaa.Tlv
open Go.RowKit

def cell4 {n : Nat} (t : Tr n) (p : Value × Value) : List Value := [.int .i64 t.hd.1, .int .u64 t.hd.2.1, p.1, p.2]

def cellsK {n : Nat} : List (Tr n) → List (Value × Value) → List Value
  | t :: ts, p :: ps => cell4 t p ++ cellsK ts ps
  | _, _ => []

theorem cellsK_snoc {n : Nat} (t : Tr n) (p : Value × Value) : ∀ (ts : List (Tr n)) (ps : List (Value × Value)), ps.length = ts.length → cellsK (ts ++ [t]) (ps ++ [p]) = cellsK ts ps ++ cell4 t p
  | [], [], _ => by simp [cellsK]
  | [], _ :: _, h => by simp at h
  | _ :: _, [], h => by simp at h
  | t' :: ts, p' :: ps, h => by
    simp only [List.cons_append, cellsK, List.append_assoc]
    rw [cellsK_snoc t p ts ps (by simpa using h)]

theorem cellsK_at {n : Nat} : ∀ (ts : List (Tr n)) (ps : List (Value × Value)) (j : Nat) (t : Tr n) (p : Value × Value) (r : Nat), ts[j]? = some t → ps[j]? = some p → r < 4 → (cellsK ts ps)[j * 4 + r]? = (cell4 t p)[r]?
  | [], _, _, _, _, _, h, _, _ => by simp at h
  | _ :: _, [], _, _, _, _, _, h, _ => by simp at h
  | t' :: ts, p' :: ps, 0, t, p, r, h1, h2, h3 => by
    simp only [List.getElem?_cons_zero, Option.some.injEq] at h1 h2
    subst h1 h2
    simp only [cellsK, Nat.zero_mul, Nat.zero_add]
    rw [List.getElem?_append_left (by simpa [cell4] using h3)]
  | t' :: ts, p' :: ps, j + 1, t, p, r, h1, h2, h3 => by
    simp only [List.getElem?_cons_succ] at h1 h2
    simp only [cellsK]
    rw [List.getElem?_append_right (by simp [cell4]; omega), ← cellsK_at ts ps j t p r h1 h2 h3]
    congr 1
    simp [cell4]
    omega

/-- v is a slice of the values ts that the call itself has built, in blocks from base on: its row, and where each value lies, which is none of the row. -/
def CInv {n : Nat} (base : Nat) (ts : List (Tr n)) (v : Value) (w : World) : Prop :=
  ∃ ps : List (Value × Value), ps.length = ts.length ∧ w.ownsRow base 95 4 v ts.length (cellsK ts ps) ∧
    ∀ (j : Nat) (t : Tr n) (p : Value × Value), ts[j]? = some t → ps[j]? = some p → ∃ L B, Rep L B w n t p.1 p.2 ∧ base ≤ L ∧ B ≤ w.heap.size ∧ (∀ r, v.ownBlock = some r → r < L ∨ B ≤ r)

theorem CInv.nil {n : Nat} (base : Nat) (w : World) : CInv base ([] : List (Tr n)) (.slice none 0 0) w := ⟨[], rfl, World.ownsRow_nil _ _ _ _, by simp⟩

theorem ownsRow_agree {w w' : World} {base e size n : Nat} {v : Value} {xs : List Value} (h : w.ownsRow base e size v n xs) (hA : Agree base w.heap.size w w') : w'.ownsRow base e size v n xs := by
  obtain ⟨h1, h2⟩ := h
  refine ⟨h1, ?_⟩
  rcases h2 with h2 | ⟨g, cap, cur, hv, hg, hh, r⟩
  · exact Or.inl h2
  · exact Or.inr ⟨g, cap, cur, hv, hg, by rw [hA g hg (Array.getElem?_eq_some_iff.1 hh).1]; exact hh, r⟩

theorem CInv.agree {n base : Nat} {ts : List (Tr n)} {v : Value} {w w' : World} (h : CInv base ts v w) (hA : Agree base w.heap.size w w') (hs : w.heap.size ≤ w'.heap.size) : CInv base ts v w' := by
  obtain ⟨ps, hl, hown, hk⟩ := h
  refine ⟨ps, hl, ownsRow_agree hown hA, fun j t p hj hp => ?_⟩
  obtain ⟨L, B, hr, hL, hB, hd⟩ := hk j t p hj hp
  exact ⟨L, B, hr.agree (hA.mono hL hB) (Nat.le_refl _) (Nat.le_refl _), hL, by omega, hd⟩

theorem CInv.lt {n base : Nat} {ts : List (Tr n)} {v : Value} {w : World} (h : CInv base ts v w) : ∀ r, v.ownBlock = some r → base ≤ r ∧ r < w.heap.size := by
  obtain ⟨ps, hl, hown, _⟩ := h
  exact hown.lt

theorem CInv.form {n base : Nat} {ts : List (Tr n)} {v : Value} {w : World} (h : CInv base ts v w) : ∃ a c, v = .slice a ts.length c := by
  obtain ⟨ps, hl, hown, _⟩ := h
  rcases hown.2 with ⟨rfl, h0⟩ | ⟨g, cap, cur, rfl, _⟩
  · exact ⟨_, _, by rw [h0]⟩
  · exact ⟨_, _, rfl⟩

/-- One value more, behind the append that lays it. -/
theorem CInv.push {n base g cap L B : Nat} {ts : List (Tr n)} {t : Tr n} {v sb sk : Value} {ps : List (Value × Value)} {w w' : World} (hl : ps.length = ts.length)
    (hk : ∀ (j : Nat) (t : Tr n) (p : Value × Value), ts[j]? = some t → ps[j]? = some p → ∃ L B, Rep L B w n t p.1 p.2 ∧ base ≤ L ∧ B ≤ w.heap.size ∧ (∀ r, v.ownBlock = some r → r < L ∨ B ≤ r))
    (hr : Rep L B w n t sb sk) (hL : base ≤ L) (hB : B ≤ w.heap.size) (hd : ∀ r, v.ownBlock = some r → r < L ∨ B ≤ r)
    (hown : w'.ownsRow base 95 4 (.slice (some ⟨g, 0, none⟩) (ts.length + 1) cap) (ts.length + 1) (cellsK ts ps ++ cell4 t (sb, sk))) (hgrow : w.grownBy w' v.ownBlock) (hat : v.ownBlock = some g ∨ g = w.heap.size) :
    CInv base (ts ++ [t]) (.slice (some ⟨g, 0, none⟩) (ts.length + 1) cap) w' := by
  have old : ∀ {L B : Nat} {t : Tr n} {sb sk : Value}, Rep L B w n t sb sk → base ≤ L → B ≤ w.heap.size → (∀ r, v.ownBlock = some r → r < L ∨ B ≤ r) →
      Rep L B w' n t sb sk ∧ base ≤ L ∧ B ≤ w'.heap.size ∧ (∀ r, (Value.slice (some ⟨g, 0, none⟩) (ts.length + 1) cap).ownBlock = some r → r < L ∨ B ≤ r) := by
    intro L B t sb sk hr hL hB hd
    refine ⟨hr.agree (fun k h1 h2 => hgrow.block k (by omega) (fun e => by have := hd k e.symm; omega)) (Nat.le_refl _) (Nat.le_refl _), hL, by have := hgrow.size; omega, ?_⟩
    intro r e
    simp only [Value.ownBlock, Option.some.injEq] at e
    subst e
    rcases hat with hat | hat
    · exact hd _ hat
    · omega
  refine ⟨ps ++ [(sb, sk)], by simp [hl], ?_, ?_⟩
  · rw [cellsK_snoc _ _ _ _ hl]
    simpa using hown
  · intro j t' p hj hp
    by_cases hlt : j < ts.length
    · rw [List.getElem?_append_left hlt] at hj
      rw [List.getElem?_append_left (by omega)] at hp
      obtain ⟨L', B', q⟩ := hk j t' p hj hp
      exact ⟨L', B', old q.1 q.2.1 q.2.2.1 q.2.2.2⟩
    · have : j = ts.length := by
        have := (List.getElem?_eq_some_iff.1 hj).1
        simp at this
        omega
      subst this
      rw [List.getElem?_append_right (Nat.le_refl _)] at hj
      rw [List.getElem?_append_right (by omega)] at hp
      simp [hl] at hj hp
      subst hj hp
      exact ⟨L, B, old hr hL hB hd⟩

theorem CInv.done {n base : Nat} {ts : List (Tr n)} {v : Value} {w : World} (h : CInv base ts v w) (hlen : ts.length ≤ 2199023255552) : KSl base w.heap.size w (Rep base w.heap.size w n) v ts := by
  obtain ⟨ps, hl, hown, hk⟩ := h
  rcases hown.2 with ⟨rfl, h0⟩ | ⟨g, cap, cur, rfl, hb, hg, hn, hc, hs, ht⟩
  · have : ts = [] := List.length_eq_zero_iff.1 h0
    subst this
    exact KSl.none _ _ _ _
  · refine ⟨_, cap, rfl, hn, hc, by simp, hlen, fun _ => ⟨g, 0, rfl, hb, (Array.getElem?_eq_some_iff.1 hg).1, fun j t hj => ?_⟩⟩
    have hjl := (List.getElem?_eq_some_iff.1 hj).1
    obtain ⟨p, hp⟩ : ∃ p, ps[j]? = some p := ⟨ps[j]'(by omega), List.getElem?_eq_getElem (by omega)⟩
    obtain ⟨L, B, hr, hL, hB, _⟩ := hk j t p hj hp
    have cc : ∀ r, r < 4 → w.cell? ⟨g, 0 + j * 4 + r, none⟩ = (cell4 t p)[r]? := fun r hr4 => by
      rw [Nat.zero_add, hown.cellAt (j * 4 + r) (by omega), cellsK_at ts ps j t p r hj hp hr4]
    exact ⟨p.1, p.2, cc 0 (by omega), cc 1 (by omega), cc 2 (by omega), cc 3 (by omega), hr.agree (Agree.refl _ _ _) hL hB⟩

end Go.Proofs.Ytenfahecnkdhaaa.Tlv
end

section
/-
  What clone and Many of tlv make: the tree that came in, in new memory.
-/
namespace Go.Proofs.Ytenfahecnkdhaaa.Tlv
open Go.RowKit
attribute [local go_sem ↓] Go.wp_at_zero Go.wp_at_succ

theorem cell_far {w : World} {p : Addr} {u : Value} {q : Addr} (h : q.block ≠ p.block) : (w.setCell p u).cell? q = w.cell? q := World.cell?_of_block (w := w) (Below.heap_setCell _ _ _ _ h)

theorem cell_far4 {w : World} {b o0 o1 o2 o3 : Nat} {u0 u1 u2 u3 : Value} {q : Addr} (h : q.block ≠ b) : ((((w.setCell ⟨b, o0, none⟩ u0).setCell ⟨b, o1, none⟩ u1).setCell ⟨b, o2, none⟩ u2).setCell ⟨b, o3, none⟩ u3).cell? q = w.cell? q := by
  rw [cell_far h, cell_far h, cell_far h, cell_far h]

theorem cell_set_ne {w : World} {b i j : Nat} {u : Value} (h : i ≠ j) : (w.setCell ⟨b, i, none⟩ u).cell? ⟨b, j, none⟩ = w.cell? ⟨b, j, none⟩ := World.cell?_setCell_other _ _ _ _ (fun e => h (congrArg Addr.off e))

theorem set4_read {w : World} {b : Nat} {u0 u1 u2 u3 x0 x1 x2 x3 : Value} (h0 : w.cell? ⟨b, 0, none⟩ = some x0) (h1 : w.cell? ⟨b, 1, none⟩ = some x1) (h2 : w.cell? ⟨b, 2, none⟩ = some x2) (h3 : w.cell? ⟨b, 3, none⟩ = some x3) :
    ((((w.setCell ⟨b, 0, none⟩ u0).setCell ⟨b, 1, none⟩ u1).setCell ⟨b, 2, none⟩ u2).setCell ⟨b, 3, none⟩ u3).cell? ⟨b, 0, none⟩ = some u0 ∧
    ((((w.setCell ⟨b, 0, none⟩ u0).setCell ⟨b, 1, none⟩ u1).setCell ⟨b, 2, none⟩ u2).setCell ⟨b, 3, none⟩ u3).cell? ⟨b, 1, none⟩ = some u1 ∧
    ((((w.setCell ⟨b, 0, none⟩ u0).setCell ⟨b, 1, none⟩ u1).setCell ⟨b, 2, none⟩ u2).setCell ⟨b, 3, none⟩ u3).cell? ⟨b, 2, none⟩ = some u2 ∧
    ((((w.setCell ⟨b, 0, none⟩ u0).setCell ⟨b, 1, none⟩ u1).setCell ⟨b, 2, none⟩ u2).setCell ⟨b, 3, none⟩ u3).cell? ⟨b, 3, none⟩ = some u3 := by
  have o : ∀ (w : World) (i j : Nat) (u : Value), i ≠ j → (w.setCell ⟨b, i, none⟩ u).cell? ⟨b, j, none⟩ = w.cell? ⟨b, j, none⟩ := fun w i j u h => World.cell?_setCell_other _ _ _ _ (fun e => h (congrArg Addr.off e))
  refine ⟨?_, ?_, ?_, ?_⟩
  · rw [o _ _ _ _ (by omega), o _ _ _ _ (by omega), o _ _ _ _ (by omega)]
    exact World.cell?_setCell_same _ _ _ h0
  · rw [o _ _ _ _ (by omega), o _ _ _ _ (by omega)]
    exact World.cell?_setCell_same _ _ _ ((o _ _ _ _ (by omega)).trans h1)
  · rw [o _ _ _ _ (by omega)]
    exact World.cell?_setCell_same _ _ _ ((o _ _ _ _ (by omega)).trans ((o _ _ _ _ (by omega)).trans h2))
  · exact World.cell?_setCell_same _ _ _ ((o _ _ _ _ (by omega)).trans ((o _ _ _ _ (by omega)).trans ((o _ _ _ _ (by omega)).trans h3)))

/-- What clone does with a tree that is nested at most n deep. -/
def CloneOk (n : Nat) : Prop := ∀ (t : Tr n) (sb sk : Value) (deep : Int) (w : World), Rep 0 w.heap.size w n t sb sk → (n : Int) ≤ deep → deep ≤ 131072 →
  Calls Try.prog 80 #[.agg #[.int .i64 t.hd.1, .int .u64 t.hd.2.1, sb, sk], .int .i64 deep] w fun e w' =>
    ∃ sb' sk', e = .returned (.tuple #[.agg #[.int .i64 t.hd.1, .int .u64 t.hd.2.1, sb', sk'], .bool true]) ∧ Rep w.heap.size w'.heap.size w' n t sb' sk' ∧ Below w.heap.size w w'

set_option maxHeartbeats 2000000 in
set_option maxRecDepth 100000 in
theorem clone_any : ∀ n, CloneOk n
  | 0 => fun t => by cases t
  | n + 1 => by
    intro t sb sk deep w hrep hd0 hd1
    have ih := clone_any n
    obtain ⟨hn0, hn1, hby, hks⟩ := hrep
    have HB := hid hby
    have HK := hid hks
    obtain ⟨ab, cb, rfl, hrb⟩ := hby
    obtain ⟨ak, ck, rfl, hrk⟩ := hks
    clear hrb hrk
    have hdb : (deep == 0) = false := by simp; omega
    generalize hT1 : t.kd = ks at *
    generalize hT2 : t.hd.2.2 = bs at *
    generalize hT3 : t.hd.2.1 = num at *
    generalize t.hd.1 = tag at *
    have HT1 := hid hT1
    have HT2 := hid hT2
    have HT3 := hid hT3
    clear hT1 hT2 hT3
    go_enter Try.func80, Try.ntmps80
    go_upto_region 3 with fail
    obtain ⟨W0, hW0⟩ : ∃ W0, W0 = (w.alloc (Obj.cells #[Value.int IntKind.i64 tag, Value.int IntKind.u64 num, Value.slice ab bs.length cb, Value.slice ak ks.length ck] 95)).alloc (Obj.cells #[Value.int IntKind.i64 0, Value.int IntKind.u64 0, Value.slice none 0 0, Value.slice none 0 0] 95) := ⟨_, rfl⟩
    have HW0 := hid hW0
    clear hW0
    go_cut [6] (fun s wx => ∃ (g c' L1 B1 : Nat) (a' : Option Addr), s = .pointer (some ⟨g, 0, none⟩) ∧ w.heap.size + 2 ≤ g ∧ g < wx.heap.size ∧ wx.cell? ⟨g, 0, none⟩ = some (.int .i64 tag) ∧ wx.cell? ⟨g, 1, none⟩ = some (.int .u64 num) ∧
      wx.cell? ⟨g, 2, none⟩ = some (.slice a' bs.length c') ∧ wx.cell? ⟨g, 3, none⟩ = some (.slice none 0 0) ∧ (∀ o, wx.frozen? ⟨g, o, none⟩ = false) ∧ Hid (BySl L1 B1 wx (.slice a' bs.length c') bs ∧ w.heap.size + 2 ≤ L1 ∧ B1 ≤ wx.heap.size ∧ (g < L1 ∨ B1 ≤ g) ∧ Below (w.heap.size + 2) W0 wx))
    case first =>
      go_region_held3 (fun w' => w'.cell? ⟨w.heap.size, 0, none⟩ = some (.int .i64 tag) ∧ w'.cell? ⟨w.heap.size, 1, none⟩ = some (.int .u64 num) ∧ w'.cell? ⟨w.heap.size, 2, none⟩ = some (.slice ab bs.length cb)) (first | go_keep | (refine ⟨?_, ?_, ?_⟩ <;> (rw [cell_far4 (by simp; omega)]; assumption)))
        ((go_at_call 47; refine (clone_bytes _ bs _ (HB.out.agree (by repeat' first | exact Agree.refl _ _ _ | apply Agree.drew | refine Agree.alloc ?_ ?_ _ | (simp; done) | (simp; omega)) (Nat.le_refl _) (by simp; omega))).mono ?_; rintro e w1 ⟨v', rfl, hv, hb⟩; obtain ⟨a', c', rfl, hr'⟩ := id hv; clear hr'; have Hv := hid hv; have Hb := hid hb; obtain ⟨hc, hf⟩ := bcell hb; have hz := hb.size; clear hv hb; have q0 : w1.cell? ⟨w.heap.size, 0, none⟩ = some (.int .i64 tag) := (hc _ _ (by simp; try omega)).trans (by simp [go_sem]); have q1 : w1.cell? ⟨w.heap.size, 1, none⟩ = some (.int .u64 num) := (hc _ _ (by simp; try omega)).trans (by simp [go_sem]); have q2 : w1.cell? ⟨w.heap.size, 2, none⟩ = some (.slice ab bs.length cb) := (hc _ _ (by simp; try omega)).trans (by simp [go_sem])))
      · go_wp2_with fail
        go_meet
        simp at hz
        refine ⟨w1.heap.size, c', w.heap.size + 2, w1.heap.size, a', rfl, by omega, by simp, by simp, by simp, by simp, by simp, by simp, Hv.out.agree ((Agree.refl _ _ _).alloc (Nat.le_refl _) _) (by simp) (Nat.le_refl _), by omega, by simp, by omega, ?_⟩
        rw [HW0.out]
        exact (((Below.refl _ _).drew).trans (Hb.out.mono (by simp))).alloc (by omega) _
      · go_wp2_with fail
        go_meet
        simp at hz
        obtain ⟨r0, r1, r2, r3⟩ := set4_read (w := w1) (b := w.heap.size + 1 + 1) (u0 := .int .i64 tag) (u1 := .int .u64 num) (u2 := .slice a' bs.length c') (u3 := .slice none 0 0) (x0 := .int .i64 0) (x1 := .int .u64 0) (x2 := .slice none 0 0) (x3 := .slice none 0 0) ((hc _ _ (by simp)).trans (by simp [go_sem])) ((hc _ _ (by simp)).trans (by simp [go_sem])) ((hc _ _ (by simp)).trans (by simp [go_sem])) ((hc _ _ (by simp)).trans (by simp [go_sem]))
        refine ⟨w.heap.size + 1 + 1, c', w.heap.size + 3, w1.heap.size, a', rfl, by omega, by simp; omega, r0, r1, r2, r3, ?_, Hv.out.agree (Agree.set4 _ (.inl (by simp)) _ _ _ _) (by simp) (Nat.le_refl _), by omega, by simp, by omega, ?_⟩
        · intro o
          simp only [World.frozen?_setCell]
          rw [hf _ _ (by simp)]
          simp [go_sem]
        · rw [HW0.out]
          exact ((((Below.refl _ _).alloc (by simp) _).drew).trans (Hb.out.mono (by simp))).trans (bset4 (by omega) _ _ _ _)
    case rest =>
      obtain ⟨g, c', L1, B1, a', rfl, hg0, hg1, e0, e1, e2, e3, hfr, HX⟩ := hcut
      have xb : ∀ o, wc.cell? ⟨w.heap.size, o, none⟩ = W0.cell? ⟨w.heap.size, o, none⟩ := fun o => HX.out.2.2.2.2.cell (p := ⟨w.heap.size, o, none⟩) (by simp)
      have b3 : wc.cell? ⟨w.heap.size, 3, none⟩ = some (.slice ak ks.length ck) := by rw [xb, HW0.out]; simp [go_sem]
      clear xb
      have hB0 : Hid (Below w.heap.size w W0) := by rw [Hid, HW0.out]; exact ((Below.refl _ _).alloc (Nat.le_refl _) _).alloc (by simp) _
      have hkl : ks.length ≤ 2199023255552 := by obtain ⟨_, _, _, _, _, _, h, _⟩ := HK.out; exact h
      obtain ⟨i0, hi, hz0, hz1, hz2⟩ := info_parts Try.info95
      go_wp2_with fail
      go_loopw [25] (fun i wr => ∃ (k : Nat) (v : Value), k ≤ ks.length ∧ i = .int .i64 k ∧ wr.cell? ⟨g, 0, none⟩ = some (.int .i64 tag) ∧ wr.cell? ⟨g, 1, none⟩ = some (.int .u64 num) ∧
        wr.cell? ⟨g, 2, none⟩ = some (.slice a' bs.length c') ∧ wr.cell? ⟨g, 3, none⟩ = some v ∧ (∀ o, wr.frozen? ⟨g, o, none⟩ = false) ∧ g < wr.heap.size ∧
        Hid (CInv wc.heap.size (ks.take k) v wr ∧ BySl L1 B1 wr (.slice a' bs.length c') bs ∧ Below (w.heap.size + 2) W0 wr ∧ wc.heap.size ≤ wr.heap.size)) (fun i _ => ks.length - (intOf i).toNat)
      case atStart => exact ⟨0, _, Nat.zero_le _, rfl, e0, e1, e2, e3, hfr, hg1, CInv.nil _ _, HX.out.1, HX.out.2.2.2.2, Nat.le_refl _⟩
      case round =>
        obtain ⟨k, v, hk, rfl, f0, f1, f2, f3, hfr', hgs, HI⟩ := hrel
        clear e0 e1 e2 e3 hfr b3
        by_cases hlt : k < ks.length
        · obtain ⟨_, _, ea, _, _, _, _, h7⟩ := HK.out
          simp only [Value.slice.injEq, true_and] at ea
          obtain ⟨rfl, rfl⟩ := ea
          obtain ⟨b, o, rfl, _, hbs, hc⟩ := h7 (by intro e; subst e; simp at hlt)
          clear h7
          obtain ⟨sb, sk, c0, c1, c2, c3, hrep⟩ := hc k ks[k] (List.getElem?_eq_getElem hlt)
          clear hc
          obtain ⟨a1, l1, p1, a2, l2, p2, rfl, rfl⟩ := hrep.sl
          have hR := hid hrep
          clear hrep
          have hbel : Hid (Below w.heap.size w wr) := hB0.out.trans (HI.out.2.2.1.mono (by omega))
          have d0 := (hbel.out.cell (p := ⟨b, o + k * 4, none⟩) hbs).trans c0
          have d1 := (hbel.out.cell (p := ⟨b, o + k * 4 + 1, none⟩) hbs).trans c1
          have d2 := (hbel.out.cell (p := ⟨b, o + k * 4 + 2, none⟩) hbs).trans c2
          have d3 := (hbel.out.cell (p := ⟨b, o + k * 4 + 3, none⟩) hbs).trans c3
          clear c0 c1 c2 c3
          have htake : Hid (ks.take (k + 1) = ks.take k ++ [ks[k]]) := List.take_succ_eq_append_getElem hlt
          generalize ks[k] = t1 at *
          have hlk : Hid ((ks.take k).length = k) := List.length_take_of_le (by omega)
          have hbz := hbel.out.size
          have hbw : b < wr.heap.size := by omega
          obtain ⟨av, cv, hv⟩ := HI.out.1.form
          rw [hlk.out] at hv
          subst hv
          go_wp2_with fail
          refine (ih t1 _ _ _ _ (hR.out.agree ((Agree.below hbel.out).alloc hbz _) (Nat.le_refl _) (by simp; omega)) (by omega) (by omega)).mono ?_
          rintro e w1 ⟨sb', sk', rfl, hr1, hb1⟩
          obtain ⟨a3, l3, p3, a4, l4, p4, rfl, rfl⟩ := hr1.sl
          have Hr1 := hid hr1
          have Hb1 := hid hb1
          obtain ⟨hc, hf⟩ := bcell hb1
          have hz := hb1.size
          simp at hz
          have hgw : g < w1.heap.size := by omega
          have g0 : w1.cell? ⟨g, 0, none⟩ = some (.int .i64 tag) := by rw [hc _ _ (by simp; omega), World.cell?_alloc_past _ _ _ hgs]; exact f0
          have g1 : w1.cell? ⟨g, 1, none⟩ = some (.int .u64 num) := by rw [hc _ _ (by simp; omega), World.cell?_alloc_past _ _ _ hgs]; exact f1
          have g2 : w1.cell? ⟨g, 2, none⟩ = some (.slice a' bs.length c') := by rw [hc _ _ (by simp; omega), World.cell?_alloc_past _ _ _ hgs]; exact f2
          have g3 : w1.cell? ⟨g, 3, none⟩ = some (.slice av k cv) := by rw [hc _ _ (by simp; omega), World.cell?_alloc_past _ _ _ hgs]; exact f3
          have gf : ∀ o, w1.frozen? ⟨g, o, none⟩ = false := fun o => by rw [hf _ _ (by simp; omega), World.frozen?_alloc_past _ _ _ hgs]; exact hfr' o
          clear hr1 hb1 hc hf f0 f1 f2 f3 hfr' d0 d1 d2 d3
          have inv1 : CInv wc.heap.size (ks.take k) (.slice av k cv) ((w1.alloc (Obj.cells #[Value.int .i64 t1.hd.1, Value.int .u64 t1.hd.2.1, Value.slice a3 l3 p3, Value.slice a4 l4 p4] 95)).alloc (Obj.cells #[Value.int .i64 t1.hd.1, Value.int .u64 t1.hd.2.1, Value.slice a3 l3 p3, Value.slice a4 l4 p4] 95)) :=
            HI.out.1.agree (((((Agree.refl _ _ _).alloc (Nat.le_refl _) _).trans (Agree.below (Hb1.out.mono (by simp)))).alloc (by omega) _).alloc (by simp; omega) _) (by simp; omega)
          have hr2 : Hid (Rep (wr.heap.size + 1) w1.heap.size ((w1.alloc (Obj.cells #[Value.int .i64 t1.hd.1, Value.int .u64 t1.hd.2.1, Value.slice a3 l3 p3, Value.slice a4 l4 p4] 95)).alloc (Obj.cells #[Value.int .i64 t1.hd.1, Value.int .u64 t1.hd.2.1, Value.slice a3 l3 p3, Value.slice a4 l4 p4] 95)) n t1 (.slice a3 l3 p3) (.slice a4 l4 p4)) :=
            Hr1.out.agree (((Agree.refl _ _ _).alloc (Nat.le_refl _) _).alloc (by simp) _) (by simp) (Nat.le_refl _)
          have hlt0 := hid HI.out.1.lt
          obtain ⟨ps, hl, hown, hkid⟩ := inv1
          rw [hlk.out] at hown
          have HO := hid hown
          have HKid := hid hkid
          have HL := hid hl
          clear hown hkid hl
          have hws := HI.out.2.2.2
          go_wp2_with (at_builtin; go_must (refine wpList_append_lies _ rfl _ _ 93 rfl wc.heap.size 95 i0 _ 4 64 Try.underlying93 hi hz0 hz1 hz2 rfl (by decide) _ k (cellsK (ks.take k) ps) rfl HO.out ⟨w1.heap.size + 1, 0, none⟩ 1 1 (cell4 t1 (.slice a3 l3 p3, .slice a4 l4 p4)) rfl rfl ?_ ?_ (by omega) (by unfold maxLen; omega) (by omega) (by simp; omega) (w1.heap.size + 1 + 1) (by simp) ?_))
          · exact World.news_of_block (cs := #[Value.int .i64 t1.hd.1, Value.int .u64 t1.hd.2.1, Value.slice a3 l3 p3, Value.slice a4 l4 p4]) (t := 95) (fr := (0, 0)) (by have h := heap_alloc_new (w1.alloc (Obj.cells #[Value.int .i64 t1.hd.1, Value.int .u64 t1.hd.2.1, Value.slice a3 l3 p3, Value.slice a4 l4 p4] 95)) (Obj.cells #[Value.int .i64 t1.hd.1, Value.int .u64 t1.hd.2.1, Value.slice a3 l3 p3, Value.slice a4 l4 p4] 95); simpa using h)
          · intro u hu
            simp only [cell4, List.mem_cons, List.not_mem_nil, or_false] at hu
            rcases hu with rfl | rfl | rfl | rfl <;> rfl
          intro g' cap' w2 hown2 hgrow2 hat2 hlt2
          have hne : some g ≠ (Value.slice av k cv).ownBlock := fun e => by have := (hlt0.out g e.symm).1; omega
          have j0 : w2.cell? ⟨g, 0, none⟩ = some (.int .i64 tag) := by rw [hgrow2.cell_far ⟨g, 0, none⟩ (by simp; omega) hne, World.cell?_alloc_past _ _ _ (by simp; omega), World.cell?_alloc_past _ _ _ hgw]; exact g0
          have j1 : w2.cell? ⟨g, 1, none⟩ = some (.int .u64 num) := by rw [hgrow2.cell_far ⟨g, 1, none⟩ (by simp; omega) hne, World.cell?_alloc_past _ _ _ (by simp; omega), World.cell?_alloc_past _ _ _ hgw]; exact g1
          have j2 : w2.cell? ⟨g, 2, none⟩ = some (.slice a' bs.length c') := by rw [hgrow2.cell_far ⟨g, 2, none⟩ (by simp; omega) hne, World.cell?_alloc_past _ _ _ (by simp; omega), World.cell?_alloc_past _ _ _ hgw]; exact g2
          have j3 : w2.cell? ⟨g, 3, none⟩ = some (.slice av k cv) := by rw [hgrow2.cell_far ⟨g, 3, none⟩ (by simp; omega) hne, World.cell?_alloc_past _ _ _ (by simp; omega), World.cell?_alloc_past _ _ _ hgw]; exact g3
          have jf : ∀ o, w2.frozen? ⟨g, o, none⟩ = false := fun o => by rw [hgrow2.frozen_far ⟨g, o, none⟩ (by simp; omega) hne, World.frozen?_alloc_past _ _ _ (by simp; omega), World.frozen?_alloc_past _ _ _ hgw]; exact gf o
          have hz2 := hgrow2.size
          simp at hz2
          have inv2 : Hid (CInv wc.heap.size (ks.take (k + 1)) (.slice (some ⟨g', 0, none⟩) (k + 1) cap') w2) := by
            have P := CInv.push (g := g') (cap := cap') HL.out HKid.out hr2.out (by omega) (by simp; omega) (fun r e => .inl (by have := (hlt0.out r e).2; omega)) (by rw [hlk.out]; exact hown2) hgrow2 (by simpa using hat2)
            rw [hlk.out, ← htake.out] at P
            exact P
          have bel2 : Hid (Below (w.heap.size + 2) W0 w2) := (((HI.out.2.2.1.alloc (by omega) _).trans (Hb1.out.mono (by simp; omega))).alloc (by omega) _ |>.alloc (by simp; omega) _).grown hgrow2 (by simp; omega) (fun r e => by have := (hlt0.out r e).1; omega)
          have hB1 := HX.out.2.2.1
          have hgB := HX.out.2.2.2.1
          have hL1 := HX.out.2.1
          have byl2 : Hid (BySl L1 B1 w2 (.slice a' bs.length c') bs) := by
            have hA : Agree L1 B1 _ w2 := fun r h1 h2 => hgrow2.block r (by simp; omega) (fun e => by have := (hlt0.out r e.symm).1; omega)
            exact HI.out.2.1.agree (((((Agree.refl _ _ _).alloc (by omega) _).trans (Agree.below (Hb1.out.mono (by simp; omega)))).alloc (by omega) _ |>.alloc (by simp; omega) _).trans hA) (Nat.le_refl _) (Nat.le_refl _)
          clear hown2 hgrow2 hat2 g0 g1 g2 g3 gf
          go_wp2_with fail
          go_roundw
          case rel =>
            refine ⟨k + 1, .slice (some ⟨g', 0, none⟩) (k + 1) cap', by omega, by go_num, (cell_set_ne (by omega)).trans j0, (cell_set_ne (by omega)).trans j1, (cell_set_ne (by omega)).trans j2, World.cell?_setCell_same _ _ _ j3, fun o => by rw [World.frozen?_setCell]; exact jf o, by simp; omega, ?_⟩
            exact ⟨inv2.out.agree ((Agree.refl _ _ _).setCell (.inl (by simpa using hg1)) _) (by simp), byl2.out.agree ((Agree.refl _ _ _).setCell hgB _) (Nat.le_refl _) (Nat.le_refl _), bel2.out.setCell (by simpa using hg0) _, by simp; omega⟩
          case measure => simp [intOf]; omega
        · have xb : ∀ o, wr.cell? ⟨w.heap.size + 1, o, none⟩ = W0.cell? ⟨w.heap.size + 1, o, none⟩ := fun o => HI.out.2.2.1.cell (p := ⟨w.heap.size + 1, o, none⟩) (by simp)
          have xf : ∀ o, wr.frozen? ⟨w.heap.size + 1, o, none⟩ = W0.frozen? ⟨w.heap.size + 1, o, none⟩ := fun o => HI.out.2.2.1.frozen (p := ⟨w.heap.size + 1, o, none⟩) (by simp)
          have r0 : wr.cell? ⟨w.heap.size + 1, 0, none⟩ = some (.int .i64 0) := by rw [xb, HW0.out]; simp [go_sem]
          have r1 : wr.cell? ⟨w.heap.size + 1, 1, none⟩ = some (.int .u64 0) := by rw [xb, HW0.out]; simp [go_sem]
          have r2 : wr.cell? ⟨w.heap.size + 1, 2, none⟩ = some (.slice none 0 0) := by rw [xb, HW0.out]; simp [go_sem]
          have r3 : wr.cell? ⟨w.heap.size + 1, 3, none⟩ = some (.slice none 0 0) := by rw [xb, HW0.out]; simp [go_sem]
          have rf : ∀ o, wr.frozen? ⟨w.heap.size + 1, o, none⟩ = false := fun o => by rw [xf, HW0.out]; simp [go_sem]
          clear xb xf
          obtain ⟨av, cv, hv⟩ := HI.out.1.form
          subst hv
          go_wp2_with fail
          have hgB := HX.out.2.2.2.1
          have hL1 := HX.out.2.1
          have hB1 := HX.out.2.2.1
          have hws := HI.out.2.2.2
          obtain ⟨q0, q1, q2, q3⟩ := set4_read (u0 := .int .i64 tag) (u1 := .int .u64 num) (u2 := .slice a' bs.length c') (u3 := .slice av k cv) r0 r1 r2 r3
          refine bodyPost_ret (v := .tuple #[.agg #[.int .i64 tag, .int .u64 num, .slice a' bs.length c', .slice av k cv], .bool true]) (by simp [results, Try.results80, go_sem, q0, q1, q2, q3]) rfl ⟨_, _, rfl, ⟨by rw [HT3.out]; exact hn0, by rw [HT3.out]; exact hn1, ?_, ?_⟩, ?_⟩
          · rw [HT2.out]
            exact HI.out.2.1.agree (Agree.set4 _ (.inl (by omega)) _ _ _ _) (by omega) (by simp; omega)
          · rw [HT1.out]
            have K := HI.out.1.done (by simp; omega)
            rw [List.take_of_length_le (by omega), show ks.length = k by omega] at K
            have A4 := Agree.set4 (L := wc.heap.size) (B := wr.heap.size) wr (b := w.heap.size + 1) (o0 := 0) (o1 := 1) (o2 := 2) (o3 := 3) (.inl (by omega)) (.int .i64 tag) (.int .u64 num) (.slice a' bs.length c') (.slice av k cv)
            have hsz : wr.heap.size ≤ ((((wr.setCell ⟨w.heap.size + 1, 0, none⟩ (.int .i64 tag)).setCell ⟨w.heap.size + 1, 1, none⟩ (.int .u64 num)).setCell ⟨w.heap.size + 1, 2, none⟩ (.slice a' bs.length c')).setCell ⟨w.heap.size + 1, 3, none⟩ (.slice av k cv)).heap.size := by simp
            exact K.agree (L' := w.heap.size) (fun _ _ _ r => Rep.agree (L' := w.heap.size) A4 (by omega) hsz r) A4 (by omega) hsz
          · exact (hB0.out.trans (HI.out.2.2.1.mono (by omega))).trans (bset4 (by omega) _ _ _ _)

end Go.Proofs.Ytenfahecnkdhaaa.Tlv
end

section
/-
  What Many of tlv makes.
-/
namespace Go.Proofs.Ytenfahecnkdhaaa.Tlv
open Go.RowKit

set_option maxHeartbeats 400000 in
theorem many_any {n : Nat} (ks : List (Tr n)) (v : Value) (w : World) (h : KSl 0 w.heap.size w (Rep 0 w.heap.size w n) v ks) (hn : n < 131072) :
    Calls Try.prog 65 #[v] w fun e w' => ∃ sb' sk', e = .returned (.agg #[.int .i64 3, .int .u64 0, sb', sk']) ∧ Rep w.heap.size w'.heap.size w' (n + 1) (Tr.mk 3 0 [] ks) sb' sk' ∧ Below w.heap.size w w' := by
  obtain ⟨ak, ck, rfl, hr⟩ := id h
  clear hr
  have H := hid h
  clear h
  go_enter Try.func65, Try.ntmps65
  go_wp2_with fail
  have hA : Agree 0 w.heap.size w (w.alloc (Obj.cells #[Value.int IntKind.i64 0, Value.int IntKind.u64 0, Value.slice none 0 0, Value.slice none 0 0] 95)) := (Agree.refl _ _ _).alloc (Nat.le_refl _) _
  have hS : w.heap.size ≤ (w.alloc (Obj.cells #[Value.int IntKind.i64 0, Value.int IntKind.u64 0, Value.slice none 0 0, Value.slice none 0 0] 95)).heap.size := by simp
  refine (clone_any (n + 1) (Tr.mk 3 0 [] ks) _ _ _ _ ⟨by simp [Tr.mk, Tr.hd], by simp [Tr.mk, Tr.hd], BySl.none _ _ _, H.out.agree (fun _ _ _ r => r.agree hA (Nat.le_refl _) hS) hA (Nat.le_refl _) hS⟩ (by omega) (by omega)).mono ?_
  rintro e w1 ⟨sb', sk', rfl, hr1, hb1⟩
  obtain ⟨a3, l3, p3, a4, l4, p4, rfl, rfl⟩ := hr1.sl
  simp only [show (Tr.mk 3 0 [] ks).hd.1 = 3 from rfl, show (Tr.mk 3 0 [] ks).hd.2.1 = 0 from rfl]
  have Hr1 := hid hr1
  have Hb1 := hid hb1
  obtain ⟨hc, hf⟩ := bcell hb1
  have hz := hb1.size
  simp at hz
  have hgw : w.heap.size < w1.heap.size := by omega
  have g0 : w1.cell? ⟨w.heap.size, 0, none⟩ = some (.int .i64 0) := by rw [hc _ _ (by simp)]; simp [go_sem]
  have g1 : w1.cell? ⟨w.heap.size, 1, none⟩ = some (.int .u64 0) := by rw [hc _ _ (by simp)]; simp [go_sem]
  have g2 : w1.cell? ⟨w.heap.size, 2, none⟩ = some (.slice none 0 0) := by rw [hc _ _ (by simp)]; simp [go_sem]
  have g3 : w1.cell? ⟨w.heap.size, 3, none⟩ = some (.slice none 0 0) := by rw [hc _ _ (by simp)]; simp [go_sem]
  have gf : ∀ o, w1.frozen? ⟨w.heap.size, o, none⟩ = false := fun o => by rw [hf _ _ (by simp)]; simp [go_sem]
  clear hc hf hr1 hb1
  go_wp2_with fail
  obtain ⟨q0, q1, q2, q3⟩ := set4_read (u0 := .int .i64 3) (u1 := .int .u64 0) (u2 := .slice a3 l3 p3) (u3 := .slice a4 l4 p4) g0 g1 g2 g3
  refine bodyPost_ret (v := .agg #[.int .i64 3, .int .u64 0, .slice a3 l3 p3, .slice a4 l4 p4]) (by simp [results, Try.results65, go_sem, q0, q1, q2, q3, hgw]) rfl ⟨_, _, rfl, ?_, ?_⟩
  · exact Rep.agree (L' := w.heap.size) ((Agree.set4 w1 (.inl (by simp)) _ _ _ _).alloc (by simp) _) (by simp) (by simp) Hr1.out
  · exact (((((Below.refl _ w).alloc (Nat.le_refl _) _).trans (Hb1.out.mono (by simp))).trans (bset4 (Nat.le_refl _) _ _ _ _)).alloc (by simp; omega) _)

end Go.Proofs.Ytenfahecnkdhaaa.Tlv
end

section
/-
  An entry's value in tlv's words.
-/
namespace Go.Proofs.Ytenfahecnkdhaaa.Nd
open Go.RowKit
open Tlv (Tr Agree)
open Sim (hid Kp No)

theorem bySl_lift {L : Nat} {V w' : World} {v : Value} {bs : List Int} (h : Tlv.BySl L V.heap.size V v bs) (hb : Below V.heap.size V w') : Tlv.BySl L w'.heap.size w' v bs :=
  h.agree (Agree.below hb) (Nat.le_refl _) hb.size

theorem rep1 {L B : Nat} {w : World} (k : Int) (h0 : 0 ≤ k) (h1 : k ≤ 18446744073709551615) : Tlv.Rep L B w 1 (Tr.mk 1 k [] []) (.slice none 0 0) (.slice none 0 0) :=
  ⟨h0, h1, Tlv.BySl.none _ _ _, Tlv.KSl.none _ _ _ _⟩
theorem rep2 {L B : Nat} {w : World} {v : Value} {bs : List Int} (h : Tlv.BySl L B w v bs) : Tlv.Rep L B w 1 (Tr.mk 2 0 bs []) v (.slice none 0 0) :=
  ⟨Int.le_refl _, by simp [Tr.mk, Tlv.Tr.hd], h, Tlv.KSl.none _ _ _ _⟩

theorem bytes44 {S : World → Prop} {W0 : World} {L : Nat} {bs : List Int} {v : Value} (hL : bs.length = L) (hS : ∀ V, S V → Below W0.heap.size W0 V) (hb : Tlv.BySl 0 W0.heap.size W0 v bs) :
    ∀ V, S V → Calls Try.prog 66 #[v] V fun e w' => ∃ a' c', e = .returned (.agg #[.int .i64 2, .int .u64 0, .slice a' L c', .slice none 0 0]) ∧ (Tlv.BySl W0.heap.size w'.heap.size w' (.slice a' L c') bs ∧ Below V.heap.size V w') := by
  intro V hV
  have hk := hS V hV
  refine (Tlv.bytes_any v bs V (hb.agree (Agree.below hk) (Nat.le_refl _) hk.size)).mono ?_
  rintro e w' ⟨v', rfl, hv, hb'⟩
  obtain ⟨a', c', rfl, hr⟩ := id hv
  refine ⟨a', c', by rw [hL], ?_, hb'⟩
  rw [← hL]
  exact hv.agree (Agree.refl _ _ _) hk.size (Nat.le_refl _)

/-- An entry's value, and that of entries. -/
def entT (e : Ent) : Tr 2 := Tr.mk 3 0 [] [(Tr.mk 2 0 e.1 [] : Tr 1), Tr.mk 1 (if e.2.1 then 1 else 0) [] [], Tr.mk 2 0 e.2.2 []]
def entsT (d : List Ent) : Tr 3 := Tr.mk 3 0 [] (d.map entT)

theorem threeIn {w : World} (nm hs : List Int) (q : Int) (vn vh : Value) (h0 : 0 ≤ q ∧ q ≤ 1000000) (bn : Tlv.BySl 0 w.heap.size w vn nm) (bh : Tlv.BySl 0 w.heap.size w vh hs) (ty : TypeId) (C : Array Value)
    (hC : C = #[.int .i64 2, .int .u64 0, vn, .slice none 0 0, .int .i64 1, .int .u64 q, .slice none 0 0, .slice none 0 0, .int .i64 2, .int .u64 0, vh, .slice none 0 0]) :
    Tlv.KSl 0 (w.heap.size + 1) (w.alloc (.cells C ty)) (Tlv.Rep 0 (w.heap.size + 1) (w.alloc (.cells C ty)) 1)
      (.slice (some ⟨w.heap.size, 0, none⟩) 3 3) [(Tr.mk 2 0 nm [] : Tr 1), Tr.mk 1 q [] [], Tr.mk 2 0 hs []] := by
  subst hC
  have hA : ∀ o : Obj, Agree 0 w.heap.size w (w.alloc o) := fun o => (Agree.refl _ _ _).alloc (Nat.le_refl _) _
  have hc : ∀ (C : Array Value) (j : Nat), (w.alloc (.cells C ty)).cell? ⟨w.heap.size, j, none⟩ = C[j]? := fun C j => World.cell?_alloc_at _ _ _ _ rfl
  refine ⟨_, 3, rfl, Nat.le_refl _, by decide, by simp, by simp, fun _ => ⟨w.heap.size, 0, rfl, Nat.zero_le _, by omega, fun j t hj => ?_⟩⟩
  match j, hj with
  | 0, hj =>
    simp only [List.getElem?_cons_zero, Option.some.injEq] at hj
    subst hj
    exact ⟨_, _, hc _ _, hc _ _, hc _ _, hc _ _, rep2 (bn.agree (hA _) (Nat.le_refl _) (by omega))⟩
  | 1, hj =>
    simp only [List.getElem?_cons_succ, List.getElem?_cons_zero, Option.some.injEq] at hj
    subst hj
    exact ⟨_, _, hc _ _, hc _ _, hc _ _, hc _ _, rep1 _ h0.1 (by omega)⟩
  | 2, hj =>
    simp only [List.getElem?_cons_succ, List.getElem?_cons_zero, Option.some.injEq] at hj
    subst hj
    exact ⟨_, _, hc _ _, hc _ _, hc _ _, hc _ _, rep2 (bh.agree (hA _) (Nat.le_refl _) (by omega))⟩

theorem many3 {L : Nat} {w : World} {q : Int} {nm hs : List Int} {vn vh : Value} (h0 : 0 ≤ q ∧ q ≤ 1000000) (bn : Tlv.BySl L w.heap.size w vn nm) (bh : Tlv.BySl L w.heap.size w vh hs) :
    Calls Try.prog 65 #[.slice (some ⟨w.heap.size, 0, none⟩) 3 3] (w.alloc (.cells #[.int .i64 2, .int .u64 0, vn, .slice none 0 0, .int .i64 1, .int .u64 q, .slice none 0 0, .slice none 0 0, .int .i64 2, .int .u64 0, vh, .slice none 0 0] 95))
      fun e w' => ∃ a3 l3 p3 a4 l4 p4, e = .returned (.agg #[.int .i64 3, .int .u64 0, .slice a3 l3 p3, .slice a4 l4 p4]) ∧ Tlv.Rep w.heap.size w'.heap.size w' 2 (Tr.mk 3 0 [] [(Tr.mk 2 0 nm [] : Tr 1), Tr.mk 1 q [] [], Tr.mk 2 0 hs []]) (.slice a3 l3 p3) (.slice a4 l4 p4) ∧ Below w.heap.size w w' := by
  have h := threeIn (w := w) nm hs q vn vh h0 (bn.agree (Agree.refl _ _ _) (Nat.zero_le _) (Nat.le_refl _)) (bh.agree (Agree.refl _ _ _) (Nat.zero_le _) (Nat.le_refl _)) 95 _ rfl
  refine (Tlv.many_any _ _ _ (by simpa using h) (by omega)).mono ?_
  rintro e w5 ⟨sb', sk', rfl, hr5, hb5⟩
  obtain ⟨a3, l3, p3, a4, l4, p4, rfl, rfl⟩ := hr5.sl
  exact ⟨_, _, _, _, _, _, rfl, hr5.agree (Agree.refl _ _ _) (by simp) (Nat.le_refl _), ((Below.refl _ w).alloc (Nat.le_refl _) _).trans (hb5.mono (by simp))⟩

theorem hashIn {W : World} {g o : Nat} {e : Ent} (he : EOk e) (hg : g < W.heap.size) (h : W.rangeAt g o (entC e)) : Tlv.BySl 0 W.heap.size W (.slice (some ⟨g, o + 2, none⟩) 32 32) e.2.2 := by
  refine ⟨_, 32, by rw [he.2.1], by rw [he.2.1]; omega, by decide, by simp, by rw [he.2.1]; omega, he.2.2, fun _ => ⟨g, o + 2, rfl, Nat.zero_le _, hg, fun i hi => ?_⟩⟩
  have := rng_hash h i (.int .u8 (e.2.2.getD i 0)) (by simp [b8, List.getElem?_eq_getElem hi])
  exact this
theorem exec_conv {P : Program} {o : Oper} {a : Act} {w w' : World} (s d : TypeId) (x : Operand) (ho : o.op = .convert s d x) (v u : Value) (hx : a.eval x = v) (hr : (convert s d v).run P w = .ok u w') : (execOp a.eval o).run P w = .ok (.value u) w' := by
  unfold execOp
  simp [ho, hx, hr, Result.andThen]
theorem exec_slice3 {P : Program} {o : Oper} {a : Act} {w w' : World} (t : TypeId) (x y z : Operand) (ho : o.op = .buildSlice t 3 #[(0, x), (1, y), (2, z)]) (v1 v2 v3 u : Value) (hx : a.eval x = v1) (hy : a.eval y = v2) (hz : a.eval z = v3) (hr : (Instr.buildSlice t 3 #[(0, v1), (1, v2), (2, v3)]).run P w = .ok u w') : (execOp a.eval o).run P w = .ok (.value u) w' := by
  unfold execOp
  simp [ho, hx, hy, hz, hr, Result.andThen]
theorem run_threeV (t1 t2 t3 n1 n2 n3 : Int) (b1 b2 b3 k1 k2 k3 : Value) (w : World) : (Instr.buildSlice 93 3 #[(0, .agg #[.int .i64 t1, .int .u64 n1, b1, k1]), (1, .agg #[.int .i64 t2, .int .u64 n2, b2, k2]), (2, .agg #[.int .i64 t3, .int .u64 n3, b3, k3])]).run Try.prog w = .ok (.slice (some ⟨w.heap.size, 0, none⟩) 3 3) (w.alloc (.cells #[.int .i64 t1, .int .u64 n1, b1, k1, .int .i64 t2, .int .u64 n2, b2, k2, .int .i64 t3, .int .u64 n3, b3, k3] 95)) := by kernel_rfl

set_option maxHeartbeats 2000000 in
set_option maxRecDepth 100000 in
theorem entval_any (nm : List Int) (p : Bool) (hs : List Int) (w : World) (he : EOk (nm, p, hs)) (hl : nm.length ≤ 1000000) :
    Calls Try.prog 71 #[.agg (entC (nm, p, hs)).toArray] w fun e w' => ∃ a3 l3 p3 a4 l4 p4, e = .returned (.agg #[.int .i64 3, .int .u64 0, .slice a3 l3 p3, .slice a4 l4 p4]) ∧ Tlv.Rep w.heap.size w'.heap.size w' 2 (entT (nm, p, hs)) (.slice a3 l3 p3) (.slice a4 l4 p4) ∧ Below w.heap.size w w' := by
  have HE := hid he
  have HL := hid hl
  have h0 : 0 ≤ (if p then (1 : Int) else 0) ∧ (if p then (1 : Int) else 0) ≤ 1000000 := by cases p <;> simp
  have hpl : ∀ (W : World) (g : Nat), W.rangeAt g 0 (entC (nm, p, hs)) → W.cell? ⟨g, 0, none⟩ = some (.string (txt nm)) ∧ W.cell? ⟨g, 1, none⟩ = some (.bool p) := fun W g h => ⟨h 0 _ rfl, h 1 _ rfl⟩
  have HPL := hid hpl
  clear hpl he hl
  obtain ⟨C, hC⟩ : ∃ C, entC (nm, p, hs) = C := ⟨_, rfl⟩
  have HC := hid hC
  rw [hC]
  clear hC
  obtain ⟨T, hT⟩ : ∃ T, txt nm = T := ⟨_, rfl⟩
  have HT := hid hT
  obtain ⟨W0, hW0⟩ : ∃ W0, (w.alloc (.cells C.toArray 70)).alloc (.cells #[.int .i64 0, .int .u64 0, .slice none 0 0, .slice none 0 0] 95) = W0 := ⟨_, rfl⟩
  have hz : W0.heap.size = w.heap.size + 2 := by rw [← hW0]; simp
  have hbel : Below w.heap.size w W0 := by rw [← hW0]; exact ((Below.refl _ _).alloc (Nat.le_refl _) _).alloc (by simp) _
  have hrg : W0.rangeAt w.heap.size 0 C := by
    rw [← hW0]
    refine World.rangeAt_alloc (fun j v hv => ?_) _
    rw [Nat.zero_add, World.cell?_alloc_at _ _ _ _ rfl]
    simpa using hv
  have HG : Hid (∀ j u, (#[.int .i64 0, .int .u64 0, .slice none 0 0, .slice none 0 0] : Array Value)[j]? = some u → W0.cell? ⟨w.heap.size + 1, j, none⟩ = some u) := fun j u hj => by
    rw [← hW0, World.cell?_alloc_at _ _ _ _ (by simp), hj]
  have HF : Hid (∀ j, W0.frozen? ⟨w.heap.size + 1, j, none⟩ = false) := fun j => by
    rw [← hW0, World.frozen?_alloc_at _ _ _ _ (by simp)]
  have hplC := HPL.out W0 w.heap.size (by rw [HC.out]; exact hrg)
  rw [hT] at hplC
  have HRC : Hid (∀ V, Below (w.heap.size + 1) W0 V → V.cell? ⟨w.heap.size, 0, none⟩ = some (.string T)) := fun V h => (h.cell (p := ⟨w.heap.size, 0, none⟩) (by simp)).trans hplC.1
  have hwn := hashIn (W := W0) (g := w.heap.size) (o := 0) HE.out (by omega) (by rw [HC.out]; exact hrg)
  have K44 := hid (bytes44 (S := fun V => Below W0.heap.size W0 V) HE.out.2.1 (fun V h => h) hwn)
  have q1 := hplC.2
  have HZ := hid hz
  have HZ2 : Hid (w.heap.size + 1 ≤ W0.heap.size) := by rw [Hid]; omega
  have HBEL := hid hbel
  have HCV := hid (fun V => conv_txt nm HE.out.1 HL.out V)
  rw [hT] at HCV
  have HW0 := hid hW0
  rw [← hW0] at q1
  clear hz hbel hrg hwn hplC hW0 hT
  go_enter Try.func71, Try.ntmps71
  cases p
  · go_wp2_with fail
    rw [HW0.out]
    clear q1
    refine wp_region_held_drew (S := fun V => Below (w.heap.size + 1) W0 V) (by kernel_rfl) ((Below.refl _ _).drew) (fun hHeld => ?_)
    refine wpAnyH_take (i := 0) (oi := { dst := some 6, op := Op.fieldAddr 70 (Operand.tmp 1) 0, type := 0, pos := "dir.go:108", after := #[], guard := none }) (v := .pointer (some ⟨w.heap.size, 0, none⟩)) rfl (by kernel_rfl) (by kernel_rfl) (by kernel_rfl) (fun _ _ _ h => h) (Or.inl ⟨by rfl, fun w' hw' => by (clear hw'; go_simp)⟩) hHeld ?_
    simp only [Act.put, List.setIfInBounds_toArray, List.set_cons_zero, List.set_cons_succ]
    refine wpAnyH_take (i := 1) (oi := { dst := some 7, op := Op.load 9 (Operand.tmp 6), type := 9, pos := "dir.go:108", after := #[{ on := 0, ground := Ground.data }], guard := none }) (v := .string T) rfl (by kernel_rfl) (by kernel_rfl) (by kernel_rfl) (fun _ _ _ h => h) (Or.inl ⟨by rfl, fun w' hw' => by (have q := HRC.out _ hw'; clear hw'; go_simp)⟩) hHeld ?_
    simp only [Act.put, List.setIfInBounds_toArray, List.set_cons_zero, List.set_cons_succ]
    refine wpAnyH_take (i := 4) (oi := { dst := some 10, op := Op.move (Operand.tmp 3), type := 83, pos := "dir.go:108", after := #[], guard := none }) (v := .int .u64 0) rfl (by kernel_rfl) (by kernel_rfl) (by kernel_rfl) (fun _ _ _ h => h) (Or.inl ⟨by rfl, fun w' hw' => by (clear hw'; go_simp)⟩) hHeld ?_
    simp only [Act.put, List.setIfInBounds_toArray, List.set_cons_zero, List.set_cons_succ]
    refine wpAnyH_take (i := 6) (oi := { dst := some 12, op := Op.fieldAddr 70 (Operand.tmp 1) 2, type := 0, pos := "dir.go:108", after := #[], guard := none }) (v := .pointer (some ⟨w.heap.size, 2, none⟩)) rfl (by kernel_rfl) (by kernel_rfl) (by kernel_rfl) (fun _ _ _ h => h) (Or.inl ⟨by rfl, fun w' hw' => by (clear hw'; go_simp)⟩) hHeld ?_
    simp only [Act.put, List.setIfInBounds_toArray, List.set_cons_zero, List.set_cons_succ]
    refine wpAnyH_take (i := 7) (oi := { dst := some 13, op := Op.slice 68 (Operand.tmp 12) none none none, type := 26, pos := "dir.go:108", after := #[{ on := 6, ground := Ground.data }], guard := none }) (v := .slice (some ⟨w.heap.size, 2, none⟩) 32 32) rfl (by kernel_rfl) (by kernel_rfl) (by kernel_rfl) (fun _ _ _ h => h) (Or.inl ⟨by rfl, fun w' hw' => by (clear hw'; go_simp)⟩) hHeld ?_
    simp only [Act.put, List.setIfInBounds_toArray, List.set_cons_zero, List.set_cons_succ]
    refine wpAnyH_ready (rs := [2]) (by kernel_rfl) (by simp) ?_
    refine (AllReadyH.cons (o := { dst := some 8, op := Op.convert 9 26 (Operand.tmp 7), type := 26, pos := "dir.go:108", after := #[{ on := 1, ground := Ground.data }], guard := none }) rfl (fun K hK => ?_) AllReadyH.nil)
    obtain ⟨cn, W1, hcv, hv1, hb1⟩ := HCV.out W0.drew
    have HV1 := hid hv1
    have HK1 : Hid (Below W0.heap.size W0 W1) := (Below.refl _ _).drew.trans hb1
    clear hv1 hb1
    rw [if_pos (by rfl)]
    refine wp_valE (exec_conv 9 26 _ rfl (.string T) _ rfl hcv) ?_
    refine hK.out _ _ (HK1.out.mono HZ2.out) (fun hh => ?_)
    clear hK K hHeld
    have hHeld := hh
    clear hh
    try simp only [Act.put, List.setIfInBounds_toArray, List.set_cons_zero, List.set_cons_succ]
    refine wpAnyH_ready (rs := [3]) (by kernel_rfl) (by simp) ?_
    refine (AllReadyH.cons (o := { dst := some 9, op := Op.call { callee := Callee.value (Operand.func 66), args := #[Operand.tmp 8], argTypes := #[26] }, type := 95, pos := "dir.go:108", after := #[{ on := 2, ground := Ground.data }], guard := none }) rfl (fun K hK => ?_) AllReadyH.nil)
    go_simp
    refine (Tlv.bytes_any _ nm _ (HV1.out.agree (Agree.refl _ _ _) (Nat.zero_le _) (Nat.le_refl _))).mono ?_
    rintro e w2 ⟨v2, rfl, hv2, hb2⟩
    obtain ⟨a2, c2, rfl, hx2⟩ := id hv2
    clear hx2
    have HV2 : Hid (Tlv.BySl W0.heap.size w2.heap.size w2 (.slice a2 nm.length c2) nm) := hv2.agree (Agree.refl _ _ _) HK1.out.size (Nat.le_refl _)
    have HK2 : Hid (Below W0.heap.size W0 w2) := HK1.out.trans (hb2.mono HK1.out.size)
    clear hv2 hb2
    go_wp2_with fail
    refine hK.out _ _ (HK2.out.mono HZ2.out) (fun hh => ?_)
    clear hK K hHeld
    have hHeld := hh
    clear hh
    try simp only [Act.put, List.setIfInBounds_toArray, List.set_cons_zero, List.set_cons_succ]
    refine wpAnyH_ready (rs := [5]) (by kernel_rfl) (by simp) ?_
    refine (AllReadyH.cons (o := { dst := some 11, op := Op.call { callee := Callee.value (Operand.func 67), args := #[Operand.tmp 10], argTypes := #[83] }, type := 95, pos := "dir.go:108", after := #[{ on := 4, ground := Ground.data }, { on := 3, ground := Ground.chain }], guard := none }) rfl (fun K hK => ?_) AllReadyH.nil)
    go_simp
    refine (Tlv.number_any 0 _).mono ?_
    rintro e w3 ⟨rfl, hb3⟩
    have HV3 := hid (bySl_lift HV2.out hb3)
    have HK3 : Hid (Below W0.heap.size W0 w3) := HK2.out.trans (hb3.mono HK2.out.size)
    clear hb3
    go_wp2_with fail
    refine hK.out _ _ (HK3.out.mono HZ2.out) (fun hh => ?_)
    clear hK K hHeld
    have hHeld := hh
    clear hh
    try simp only [Act.put, List.setIfInBounds_toArray, List.set_cons_zero, List.set_cons_succ]
    refine wpAnyH_ready (rs := [8]) (by kernel_rfl) (by simp) ?_
    refine (AllReadyH.cons (o := { dst := some 14, op := Op.call { callee := Callee.value (Operand.func 66), args := #[Operand.tmp 13], argTypes := #[26] }, type := 95, pos := "dir.go:108", after := #[{ on := 7, ground := Ground.data }, { on := 5, ground := Ground.chain }], guard := none }) rfl (fun K hK => ?_) AllReadyH.nil)
    go_simp
    refine (K44.out _ HK3.out).mono ?_
    rintro e w4 ⟨a4, c4, rfl, hv4, hb4⟩
    have HV4 := hid (bySl_lift HV3.out hb4)
    have HH4 := hid hv4
    have HK4 : Hid (Below W0.heap.size W0 w4) := HK3.out.trans (hb4.mono HK3.out.size)
    clear hv4 hb4
    go_wp2_with fail
    refine hK.out _ _ (HK4.out.mono HZ2.out) (fun hh => ?_)
    clear hK K hHeld
    have hHeld := hh
    clear hh
    try simp only [Act.put, List.setIfInBounds_toArray, List.set_cons_zero, List.set_cons_succ]
    refine wpAnyH_ready (rs := [9]) (by kernel_rfl) (by simp) ?_
    refine (AllReadyH.cons (o := { dst := some 15, op := Op.buildSlice 93 3 #[(0, Operand.tmp 9), (1, Operand.tmp 11), (2, Operand.tmp 14)], type := 93, pos := "dir.go:108", after := #[{ on := 3, ground := Ground.data }, { on := 5, ground := Ground.data }, { on := 8, ground := Ground.data }], guard := none }) rfl (fun K hK => ?_) AllReadyH.nil)
    rw [if_pos (by rfl)]
    refine wp_valE (exec_slice3 93 _ _ _ rfl (.agg #[.int .i64 2, .int .u64 0, .slice a2 nm.length c2, .slice none 0 0]) (.agg #[.int .i64 1, .int .u64 0, .slice none 0 0, .slice none 0 0]) (.agg #[.int .i64 2, .int .u64 0, .slice a4 32 c4, .slice none 0 0]) _ rfl rfl rfl (run_threeV _ _ _ _ _ _ _ _ _ _ _ _ _)) ?_
    refine hK.out _ _ ((HK4.out.alloc HK4.out.size _).mono HZ2.out) (fun hh => ?_)
    clear hK K hHeld
    have hHeld := hh
    clear hh
    try simp only [Act.put, List.setIfInBounds_toArray, List.set_cons_zero, List.set_cons_succ]
    refine wpAnyH_ready (rs := [10]) (by kernel_rfl) (by simp) ?_
    refine (AllReadyH.cons (o := { dst := some 16, op := Op.call { callee := Callee.value (Operand.func 65), args := #[Operand.tmp 15], argTypes := #[93] }, type := 95, pos := "dir.go:108", after := #[{ on := 9, ground := Ground.data }, { on := 8, ground := Ground.chain }], guard := none }) rfl (fun K hK => ?_) AllReadyH.nil)
    go_simp
    refine (many3 h0 HV4.out HH4.out).mono ?_
    rintro e w6 ⟨a3, l3, p3, a5, l5, p5, rfl, hr6, hb6⟩
    have HR6 := hid hr6
    have HK6 : Hid (Below W0.heap.size W0 w6) := HK4.out.trans (hb6.mono HK4.out.size)
    have hz6 : w.heap.size + 1 < w6.heap.size := (by have h1 := HK6.out.size; have h2 := HZ.out; omega)
    have hf6 : ∀ j, w6.frozen? ⟨w.heap.size + 1, j, none⟩ = false := (fun j => (HK6.out.frozen (p := ⟨w.heap.size + 1, j, none⟩) (by have h2 := HZ.out; simp; omega)).trans (HF.out j))
    have hc6 : ∀ j u, (#[.int .i64 0, .int .u64 0, .slice none 0 0, .slice none 0 0] : Array Value)[j]? = some u → w6.cell? ⟨w.heap.size + 1, j, none⟩ = some u := (fun j u hj => (HK6.out.cell (p := ⟨w.heap.size + 1, j, none⟩) (by have h2 := HZ.out; simp; omega)).trans (HG.out j u hj))
    have g0 := hc6 0 _ rfl
    have g1 := hc6 1 _ rfl
    have g2 := hc6 2 _ rfl
    have g3 := hc6 3 _ rfl
    clear hr6 hb6 hc6
    go_wp2_with fail
    refine hK.out _ _ (HK6.out.mono HZ2.out) (fun hh => ?_)
    clear hK K hHeld
    have hHeld := hh
    clear hh
    try simp only [Act.put, List.setIfInBounds_toArray, List.set_cons_zero, List.set_cons_succ]
    refine wpAnyH_ready (rs := [11]) (by kernel_rfl) (by simp) ?_
    refine (AllReadyH.cons (o := { dst := none, op := Op.store 95 (Operand.tmp 2) (Operand.tmp 16), type := 0, pos := "dir.go:108", after := #[{ on := 10, ground := Ground.data }, { on := 10, ground := Ground.chain }, { on := 0, ground := Ground.phase }, { on := 1, ground := Ground.phase }, { on := 2, ground := Ground.phase }, { on := 3, ground := Ground.phase }, { on := 4, ground := Ground.phase }, { on := 5, ground := Ground.phase }, { on := 6, ground := Ground.phase }, { on := 7, ground := Ground.phase }, { on := 8, ground := Ground.phase }, { on := 9, ground := Ground.phase }, { on := 10, ground := Ground.phase }], guard := none }) rfl (fun K hK => ?_) AllReadyH.nil)
    go_simp
    refine hK.out _ _ ((HK6.out.mono HZ2.out).trans (Tlv.bset4 (Nat.le_refl _) _ _ _ _)) (fun hh => ?_)
    clear hK K hHeld
    have hHeld := hh
    clear hh
    try simp only [Act.put, List.setIfInBounds_toArray, List.set_cons_zero, List.set_cons_succ]
    refine wpAnyH_done (by kernel_rfl) ?_ _
    clear hHeld
    go_wp2_with fail
    obtain ⟨q0, q1, q2, q3⟩ := Tlv.set4_read (u0 := .int .i64 3) (u1 := .int .u64 0) (u2 := .slice a3 l3 p3) (u3 := .slice a5 l5 p5) g0 g1 g2 g3
    refine bodyPost_ret (v := .agg #[.int .i64 3, .int .u64 0, .slice a3 l3 p3, .slice a5 l5 p5]) (by simp [results, Try.results71, go_sem, q0, q1, q2, q3]) rfl ⟨_, _, _, _, _, _, rfl, ?_, ?_⟩
    · have h1 := HK4.out.size
      have h2 := HZ.out
      exact HR6.out.agree (Agree.set4 _ (.inl (by omega)) _ _ _ _) (by omega) (by simp)
    · exact HBEL.out.trans (((HK6.out.mono HZ2.out).mono (Nat.le_succ _)).trans (Tlv.bset4 (Nat.le_succ _) _ _ _ _))
  · go_wp2_with fail
    rw [HW0.out]
    clear q1
    refine wp_region_held_drew (S := fun V => Below (w.heap.size + 1) W0 V) (by kernel_rfl) ((Below.refl _ _).drew) (fun hHeld => ?_)
    refine wpAnyH_take (i := 0) (oi := { dst := some 6, op := Op.fieldAddr 70 (Operand.tmp 1) 0, type := 0, pos := "dir.go:108", after := #[], guard := none }) (v := .pointer (some ⟨w.heap.size, 0, none⟩)) rfl (by kernel_rfl) (by kernel_rfl) (by kernel_rfl) (fun _ _ _ h => h) (Or.inl ⟨by rfl, fun w' hw' => by (clear hw'; go_simp)⟩) hHeld ?_
    simp only [Act.put, List.setIfInBounds_toArray, List.set_cons_zero, List.set_cons_succ]
    refine wpAnyH_take (i := 1) (oi := { dst := some 7, op := Op.load 9 (Operand.tmp 6), type := 9, pos := "dir.go:108", after := #[{ on := 0, ground := Ground.data }], guard := none }) (v := .string T) rfl (by kernel_rfl) (by kernel_rfl) (by kernel_rfl) (fun _ _ _ h => h) (Or.inl ⟨by rfl, fun w' hw' => by (have q := HRC.out _ hw'; clear hw'; go_simp)⟩) hHeld ?_
    simp only [Act.put, List.setIfInBounds_toArray, List.set_cons_zero, List.set_cons_succ]
    refine wpAnyH_take (i := 4) (oi := { dst := some 10, op := Op.move (Operand.tmp 3), type := 83, pos := "dir.go:108", after := #[], guard := none }) (v := .int .u64 1) rfl (by kernel_rfl) (by kernel_rfl) (by kernel_rfl) (fun _ _ _ h => h) (Or.inl ⟨by rfl, fun w' hw' => by (clear hw'; go_simp)⟩) hHeld ?_
    simp only [Act.put, List.setIfInBounds_toArray, List.set_cons_zero, List.set_cons_succ]
    refine wpAnyH_take (i := 6) (oi := { dst := some 12, op := Op.fieldAddr 70 (Operand.tmp 1) 2, type := 0, pos := "dir.go:108", after := #[], guard := none }) (v := .pointer (some ⟨w.heap.size, 2, none⟩)) rfl (by kernel_rfl) (by kernel_rfl) (by kernel_rfl) (fun _ _ _ h => h) (Or.inl ⟨by rfl, fun w' hw' => by (clear hw'; go_simp)⟩) hHeld ?_
    simp only [Act.put, List.setIfInBounds_toArray, List.set_cons_zero, List.set_cons_succ]
    refine wpAnyH_take (i := 7) (oi := { dst := some 13, op := Op.slice 68 (Operand.tmp 12) none none none, type := 26, pos := "dir.go:108", after := #[{ on := 6, ground := Ground.data }], guard := none }) (v := .slice (some ⟨w.heap.size, 2, none⟩) 32 32) rfl (by kernel_rfl) (by kernel_rfl) (by kernel_rfl) (fun _ _ _ h => h) (Or.inl ⟨by rfl, fun w' hw' => by (clear hw'; go_simp)⟩) hHeld ?_
    simp only [Act.put, List.setIfInBounds_toArray, List.set_cons_zero, List.set_cons_succ]
    refine wpAnyH_ready (rs := [2]) (by kernel_rfl) (by simp) ?_
    refine (AllReadyH.cons (o := { dst := some 8, op := Op.convert 9 26 (Operand.tmp 7), type := 26, pos := "dir.go:108", after := #[{ on := 1, ground := Ground.data }], guard := none }) rfl (fun K hK => ?_) AllReadyH.nil)
    obtain ⟨cn, W1, hcv, hv1, hb1⟩ := HCV.out W0.drew
    have HV1 := hid hv1
    have HK1 : Hid (Below W0.heap.size W0 W1) := (Below.refl _ _).drew.trans hb1
    clear hv1 hb1
    rw [if_pos (by rfl)]
    refine wp_valE (exec_conv 9 26 _ rfl (.string T) _ rfl hcv) ?_
    refine hK.out _ _ (HK1.out.mono HZ2.out) (fun hh => ?_)
    clear hK K hHeld
    have hHeld := hh
    clear hh
    try simp only [Act.put, List.setIfInBounds_toArray, List.set_cons_zero, List.set_cons_succ]
    refine wpAnyH_ready (rs := [3]) (by kernel_rfl) (by simp) ?_
    refine (AllReadyH.cons (o := { dst := some 9, op := Op.call { callee := Callee.value (Operand.func 66), args := #[Operand.tmp 8], argTypes := #[26] }, type := 95, pos := "dir.go:108", after := #[{ on := 2, ground := Ground.data }], guard := none }) rfl (fun K hK => ?_) AllReadyH.nil)
    go_simp
    refine (Tlv.bytes_any _ nm _ (HV1.out.agree (Agree.refl _ _ _) (Nat.zero_le _) (Nat.le_refl _))).mono ?_
    rintro e w2 ⟨v2, rfl, hv2, hb2⟩
    obtain ⟨a2, c2, rfl, hx2⟩ := id hv2
    clear hx2
    have HV2 : Hid (Tlv.BySl W0.heap.size w2.heap.size w2 (.slice a2 nm.length c2) nm) := hv2.agree (Agree.refl _ _ _) HK1.out.size (Nat.le_refl _)
    have HK2 : Hid (Below W0.heap.size W0 w2) := HK1.out.trans (hb2.mono HK1.out.size)
    clear hv2 hb2
    go_wp2_with fail
    refine hK.out _ _ (HK2.out.mono HZ2.out) (fun hh => ?_)
    clear hK K hHeld
    have hHeld := hh
    clear hh
    try simp only [Act.put, List.setIfInBounds_toArray, List.set_cons_zero, List.set_cons_succ]
    refine wpAnyH_ready (rs := [5]) (by kernel_rfl) (by simp) ?_
    refine (AllReadyH.cons (o := { dst := some 11, op := Op.call { callee := Callee.value (Operand.func 67), args := #[Operand.tmp 10], argTypes := #[83] }, type := 95, pos := "dir.go:108", after := #[{ on := 4, ground := Ground.data }, { on := 3, ground := Ground.chain }], guard := none }) rfl (fun K hK => ?_) AllReadyH.nil)
    go_simp
    refine (Tlv.number_any 1 _).mono ?_
    rintro e w3 ⟨rfl, hb3⟩
    have HV3 := hid (bySl_lift HV2.out hb3)
    have HK3 : Hid (Below W0.heap.size W0 w3) := HK2.out.trans (hb3.mono HK2.out.size)
    clear hb3
    go_wp2_with fail
    refine hK.out _ _ (HK3.out.mono HZ2.out) (fun hh => ?_)
    clear hK K hHeld
    have hHeld := hh
    clear hh
    try simp only [Act.put, List.setIfInBounds_toArray, List.set_cons_zero, List.set_cons_succ]
    refine wpAnyH_ready (rs := [8]) (by kernel_rfl) (by simp) ?_
    refine (AllReadyH.cons (o := { dst := some 14, op := Op.call { callee := Callee.value (Operand.func 66), args := #[Operand.tmp 13], argTypes := #[26] }, type := 95, pos := "dir.go:108", after := #[{ on := 7, ground := Ground.data }, { on := 5, ground := Ground.chain }], guard := none }) rfl (fun K hK => ?_) AllReadyH.nil)
    go_simp
    refine (K44.out _ HK3.out).mono ?_
    rintro e w4 ⟨a4, c4, rfl, hv4, hb4⟩
    have HV4 := hid (bySl_lift HV3.out hb4)
    have HH4 := hid hv4
    have HK4 : Hid (Below W0.heap.size W0 w4) := HK3.out.trans (hb4.mono HK3.out.size)
    clear hv4 hb4
    go_wp2_with fail
    refine hK.out _ _ (HK4.out.mono HZ2.out) (fun hh => ?_)
    clear hK K hHeld
    have hHeld := hh
    clear hh
    try simp only [Act.put, List.setIfInBounds_toArray, List.set_cons_zero, List.set_cons_succ]
    refine wpAnyH_ready (rs := [9]) (by kernel_rfl) (by simp) ?_
    refine (AllReadyH.cons (o := { dst := some 15, op := Op.buildSlice 93 3 #[(0, Operand.tmp 9), (1, Operand.tmp 11), (2, Operand.tmp 14)], type := 93, pos := "dir.go:108", after := #[{ on := 3, ground := Ground.data }, { on := 5, ground := Ground.data }, { on := 8, ground := Ground.data }], guard := none }) rfl (fun K hK => ?_) AllReadyH.nil)
    rw [if_pos (by rfl)]
    refine wp_valE (exec_slice3 93 _ _ _ rfl (.agg #[.int .i64 2, .int .u64 0, .slice a2 nm.length c2, .slice none 0 0]) (.agg #[.int .i64 1, .int .u64 1, .slice none 0 0, .slice none 0 0]) (.agg #[.int .i64 2, .int .u64 0, .slice a4 32 c4, .slice none 0 0]) _ rfl rfl rfl (run_threeV _ _ _ _ _ _ _ _ _ _ _ _ _)) ?_
    refine hK.out _ _ ((HK4.out.alloc HK4.out.size _).mono HZ2.out) (fun hh => ?_)
    clear hK K hHeld
    have hHeld := hh
    clear hh
    try simp only [Act.put, List.setIfInBounds_toArray, List.set_cons_zero, List.set_cons_succ]
    refine wpAnyH_ready (rs := [10]) (by kernel_rfl) (by simp) ?_
    refine (AllReadyH.cons (o := { dst := some 16, op := Op.call { callee := Callee.value (Operand.func 65), args := #[Operand.tmp 15], argTypes := #[93] }, type := 95, pos := "dir.go:108", after := #[{ on := 9, ground := Ground.data }, { on := 8, ground := Ground.chain }], guard := none }) rfl (fun K hK => ?_) AllReadyH.nil)
    go_simp
    refine (many3 h0 HV4.out HH4.out).mono ?_
    rintro e w6 ⟨a3, l3, p3, a5, l5, p5, rfl, hr6, hb6⟩
    have HR6 := hid hr6
    have HK6 : Hid (Below W0.heap.size W0 w6) := HK4.out.trans (hb6.mono HK4.out.size)
    have hz6 : w.heap.size + 1 < w6.heap.size := (by have h1 := HK6.out.size; have h2 := HZ.out; omega)
    have hf6 : ∀ j, w6.frozen? ⟨w.heap.size + 1, j, none⟩ = false := (fun j => (HK6.out.frozen (p := ⟨w.heap.size + 1, j, none⟩) (by have h2 := HZ.out; simp; omega)).trans (HF.out j))
    have hc6 : ∀ j u, (#[.int .i64 0, .int .u64 0, .slice none 0 0, .slice none 0 0] : Array Value)[j]? = some u → w6.cell? ⟨w.heap.size + 1, j, none⟩ = some u := (fun j u hj => (HK6.out.cell (p := ⟨w.heap.size + 1, j, none⟩) (by have h2 := HZ.out; simp; omega)).trans (HG.out j u hj))
    have g0 := hc6 0 _ rfl
    have g1 := hc6 1 _ rfl
    have g2 := hc6 2 _ rfl
    have g3 := hc6 3 _ rfl
    clear hr6 hb6 hc6
    go_wp2_with fail
    refine hK.out _ _ (HK6.out.mono HZ2.out) (fun hh => ?_)
    clear hK K hHeld
    have hHeld := hh
    clear hh
    try simp only [Act.put, List.setIfInBounds_toArray, List.set_cons_zero, List.set_cons_succ]
    refine wpAnyH_ready (rs := [11]) (by kernel_rfl) (by simp) ?_
    refine (AllReadyH.cons (o := { dst := none, op := Op.store 95 (Operand.tmp 2) (Operand.tmp 16), type := 0, pos := "dir.go:108", after := #[{ on := 10, ground := Ground.data }, { on := 10, ground := Ground.chain }, { on := 0, ground := Ground.phase }, { on := 1, ground := Ground.phase }, { on := 2, ground := Ground.phase }, { on := 3, ground := Ground.phase }, { on := 4, ground := Ground.phase }, { on := 5, ground := Ground.phase }, { on := 6, ground := Ground.phase }, { on := 7, ground := Ground.phase }, { on := 8, ground := Ground.phase }, { on := 9, ground := Ground.phase }, { on := 10, ground := Ground.phase }], guard := none }) rfl (fun K hK => ?_) AllReadyH.nil)
    go_simp
    refine hK.out _ _ ((HK6.out.mono HZ2.out).trans (Tlv.bset4 (Nat.le_refl _) _ _ _ _)) (fun hh => ?_)
    clear hK K hHeld
    have hHeld := hh
    clear hh
    try simp only [Act.put, List.setIfInBounds_toArray, List.set_cons_zero, List.set_cons_succ]
    refine wpAnyH_done (by kernel_rfl) ?_ _
    clear hHeld
    go_wp2_with fail
    obtain ⟨q0, q1, q2, q3⟩ := Tlv.set4_read (u0 := .int .i64 3) (u1 := .int .u64 0) (u2 := .slice a3 l3 p3) (u3 := .slice a5 l5 p5) g0 g1 g2 g3
    refine bodyPost_ret (v := .agg #[.int .i64 3, .int .u64 0, .slice a3 l3 p3, .slice a5 l5 p5]) (by simp [results, Try.results71, go_sem, q0, q1, q2, q3]) rfl ⟨_, _, _, _, _, _, rfl, ?_, ?_⟩
    · have h1 := HK4.out.size
      have h2 := HZ.out
      exact HR6.out.agree (Agree.set4 _ (.inl (by omega)) _ _ _ _) (by omega) (by simp)
    · exact HBEL.out.trans (((HK6.out.mono HZ2.out).mono (Nat.le_succ _)).trans (Tlv.bset4 (Nat.le_succ _) _ _ _ _))
end Go.Proofs.Ytenfahecnkdhaaa.Nd
end

section
/-
  Many of tlv with nothing: a list that is not there.
-/
namespace Go.Proofs.Ytenfahecnkdhaaa.Nd
open Go.RowKit
open Tlv (Tr Agree bcell set4_read cell_far4 bset4)
open Sim (hid Kp No)
attribute [local go_sem ↓] Go.wp_at_zero Go.wp_at_succ

theorem bclone_none (w : World) : Calls Try.prog 47 #[.slice none 0 0] w fun e w' => e = .returned (.slice none 0 0) ∧ Below w.heap.size w w' := by
  have q22 := Tlv.Try.nilEq
  go_enter Try.func47, Try.ntmps47
  go_wp2
  go_ret
  exact ⟨rfl, Below.refl _ _⟩

set_option maxHeartbeats 2000000 in
set_option maxRecDepth 100000 in
theorem clone_none (w : World) : Calls Try.prog 80 #[.agg #[.int .i64 3, .int .u64 0, .slice none 0 0, .slice none 0 0], .int .i64 131072] w fun e w' => e = .returned (.tuple #[.agg #[.int .i64 3, .int .u64 0, .slice none 0 0, .slice none 0 0], .bool true]) ∧ Below w.heap.size w w' := by
  have HB := hid bclone_none
  go_enter Try.func80, Try.ntmps80
  go_upto_region 3 with fail
  obtain ⟨W0, hW0⟩ : ∃ W0, W0 = (w.alloc (Obj.cells #[Value.int IntKind.i64 3, Value.int IntKind.u64 0, Value.slice none 0 0, Value.slice none 0 0] 95)).alloc (Obj.cells #[Value.int IntKind.i64 0, Value.int IntKind.u64 0, Value.slice none 0 0, Value.slice none 0 0] 95) := ⟨_, rfl⟩
  have HW0 := hid hW0
  clear hW0
  go_cut [6] (fun s wx => ∃ (g : Nat), s = .pointer (some ⟨g, 0, none⟩) ∧ w.heap.size + 2 ≤ g ∧ g < wx.heap.size ∧ wx.cell? ⟨g, 0, none⟩ = some (.int .i64 3) ∧ wx.cell? ⟨g, 1, none⟩ = some (.int .u64 0) ∧
    wx.cell? ⟨g, 2, none⟩ = some (.slice none 0 0) ∧ wx.cell? ⟨g, 3, none⟩ = some (.slice none 0 0) ∧ (∀ o, wx.frozen? ⟨g, o, none⟩ = false) ∧ Hid (Below (w.heap.size + 2) W0 wx))
  case first =>
    go_region_held3 (fun w' => w'.cell? ⟨w.heap.size, 0, none⟩ = some (.int .i64 3) ∧ w'.cell? ⟨w.heap.size, 1, none⟩ = some (.int .u64 0) ∧ w'.cell? ⟨w.heap.size, 2, none⟩ = some (.slice none 0 0)) (first | go_keep | (refine ⟨?_, ?_, ?_⟩ <;> (rw [cell_far4 (by simp; omega)]; assumption)))
      ((go_at_call 47; refine (HB.out _).mono ?_; rintro e w1 ⟨rfl, hb⟩; have Hb := hid hb; obtain ⟨hc, hf⟩ := bcell hb; have hz := hb.size; clear hb; have q0 : w1.cell? ⟨w.heap.size, 0, none⟩ = some (.int .i64 3) := (hc _ _ (by simp; try omega)).trans (by simp [go_sem]); have q1 : w1.cell? ⟨w.heap.size, 1, none⟩ = some (.int .u64 0) := (hc _ _ (by simp; try omega)).trans (by simp [go_sem]); have q2 : w1.cell? ⟨w.heap.size, 2, none⟩ = some (.slice none 0 0) := (hc _ _ (by simp; try omega)).trans (by simp [go_sem])))
    · go_wp2_with fail
      go_meet
      simp at hz
      refine ⟨w1.heap.size, rfl, by omega, by simp, by simp, by simp, by simp, by simp, by simp, ?_⟩
      rw [HW0.out]
      exact (((Below.refl _ _).drew).trans (Hb.out.mono (by simp))).alloc (by omega) _
    · go_wp2_with fail
      go_meet
      simp at hz
      obtain ⟨r0, r1, r2, r3⟩ := set4_read (w := w1) (b := w.heap.size + 1 + 1) (u0 := .int .i64 3) (u1 := .int .u64 0) (u2 := .slice none 0 0) (u3 := .slice none 0 0) (x0 := .int .i64 0) (x1 := .int .u64 0) (x2 := .slice none 0 0) (x3 := .slice none 0 0) ((hc _ _ (by simp)).trans (by simp [go_sem])) ((hc _ _ (by simp)).trans (by simp [go_sem])) ((hc _ _ (by simp)).trans (by simp [go_sem])) ((hc _ _ (by simp)).trans (by simp [go_sem]))
      refine ⟨w.heap.size + 1 + 1, rfl, by omega, by simp; omega, r0, r1, r2, r3, ?_, ?_⟩
      · intro o
        simp only [World.frozen?_setCell]
        rw [hf _ _ (by simp)]
        simp [go_sem]
      · rw [HW0.out]
        exact ((((Below.refl _ _).alloc (by simp) _).drew).trans (Hb.out.mono (by simp))).trans (bset4 (by omega) _ _ _ _)
  case rest =>
    obtain ⟨g, rfl, hg0, hg1, e0, e1, e2, e3, hfr, HX⟩ := hcut
    have xb : ∀ o, wc.cell? ⟨w.heap.size, o, none⟩ = W0.cell? ⟨w.heap.size, o, none⟩ := fun o => HX.out.cell (p := ⟨w.heap.size, o, none⟩) (by simp)
    have b3 : wc.cell? ⟨w.heap.size, 3, none⟩ = some (.slice none 0 0) := by rw [xb, HW0.out]; simp [go_sem]
    have xr : ∀ o, wc.cell? ⟨w.heap.size + 1, o, none⟩ = W0.cell? ⟨w.heap.size + 1, o, none⟩ := fun o => HX.out.cell (p := ⟨w.heap.size + 1, o, none⟩) (by simp)
    have xf : ∀ o, wc.frozen? ⟨w.heap.size + 1, o, none⟩ = W0.frozen? ⟨w.heap.size + 1, o, none⟩ := fun o => HX.out.frozen (p := ⟨w.heap.size + 1, o, none⟩) (by simp)
    have r0 : wc.cell? ⟨w.heap.size + 1, 0, none⟩ = some (.int .i64 0) := by rw [xr, HW0.out]; simp [go_sem]
    have r1 : wc.cell? ⟨w.heap.size + 1, 1, none⟩ = some (.int .u64 0) := by rw [xr, HW0.out]; simp [go_sem]
    have r2 : wc.cell? ⟨w.heap.size + 1, 2, none⟩ = some (.slice none 0 0) := by rw [xr, HW0.out]; simp [go_sem]
    have r3 : wc.cell? ⟨w.heap.size + 1, 3, none⟩ = some (.slice none 0 0) := by rw [xr, HW0.out]; simp [go_sem]
    have rf : ∀ o, wc.frozen? ⟨w.heap.size + 1, o, none⟩ = false := fun o => by rw [xf, HW0.out]; simp [go_sem]
    clear xb xf xr
    have hB0 : Hid (Below w.heap.size w W0) := by rw [Hid, HW0.out]; exact ((Below.refl _ _).alloc (Nat.le_refl _) _).alloc (by simp) _
    go_wp2
    refine wp_loop_rounds 1 ?_
    rw [rounds_succ]
    go_wp2_with fail
    obtain ⟨q0, q1, q2, q3⟩ := set4_read (u0 := .int .i64 3) (u1 := .int .u64 0) (u2 := .slice none 0 0) (u3 := .slice none 0 0) r0 r1 r2 r3
    refine bodyPost_ret (v := .tuple #[.agg #[.int .i64 3, .int .u64 0, .slice none 0 0, .slice none 0 0], .bool true]) (by simp [results, Try.results80, go_sem, q0, q1, q2, q3]) rfl ⟨rfl, ?_⟩
    exact (hB0.out.trans (HX.out.mono (by omega))).trans (bset4 (by omega) _ _ _ _)

set_option maxHeartbeats 400000 in
theorem many_none (w : World) : Calls Try.prog 65 #[.slice none 0 0] w fun e w' => e = .returned (.agg #[.int .i64 3, .int .u64 0, .slice none 0 0, .slice none 0 0]) ∧ Below w.heap.size w w' := by
  have HC := hid clone_none
  go_enter Try.func65, Try.ntmps65
  go_wp2_with fail
  refine (HC.out _).mono ?_
  rintro e w1 ⟨rfl, hb1⟩
  have Hb1 := hid hb1
  obtain ⟨hc, hf⟩ := bcell hb1
  have hz := hb1.size
  simp at hz
  have hgw : w.heap.size < w1.heap.size := by omega
  have g0 : w1.cell? ⟨w.heap.size, 0, none⟩ = some (.int .i64 0) := by rw [hc _ _ (by simp)]; simp [go_sem]
  have g1 : w1.cell? ⟨w.heap.size, 1, none⟩ = some (.int .u64 0) := by rw [hc _ _ (by simp)]; simp [go_sem]
  have g2 : w1.cell? ⟨w.heap.size, 2, none⟩ = some (.slice none 0 0) := by rw [hc _ _ (by simp)]; simp [go_sem]
  have g3 : w1.cell? ⟨w.heap.size, 3, none⟩ = some (.slice none 0 0) := by rw [hc _ _ (by simp)]; simp [go_sem]
  have gf : ∀ o, w1.frozen? ⟨w.heap.size, o, none⟩ = false := fun o => by rw [hf _ _ (by simp)]; simp [go_sem]
  clear hc hf hb1
  go_wp2_with fail
  obtain ⟨q0, q1, q2, q3⟩ := set4_read (u0 := .int .i64 3) (u1 := .int .u64 0) (u2 := .slice none 0 0) (u3 := .slice none 0 0) g0 g1 g2 g3
  refine bodyPost_ret (v := .agg #[.int .i64 3, .int .u64 0, .slice none 0 0, .slice none 0 0]) (by simp [results, Try.results65, go_sem, q0, q1, q2, q3, hgw]) rfl ⟨rfl, ?_⟩
  exact (((((Below.refl _ w).alloc (Nat.le_refl _) _).trans (Hb1.out.mono (by simp))).trans (bset4 (Nat.le_refl _) _ _ _ _)).alloc (by simp; omega) _)
end Go.Proofs.Ytenfahecnkdhaaa.Nd
end
