/- Of the proof: the texts SgBin, SgFind, SgJoin, SgCmpM, SgOwn, one behind the other. -/
import Derived.Test.YthmimipoooemjaaGreatDoorAbb
import Derived.Test.YthmimipoooemjaaGreatDoorB11
import Derived.Lib.AppendZerosOnto
section
/-
  slices.BinarySearchFunc by compare: where a name stands in names that rise, or would stand.
-/
namespace Go.Proofs.YthmimipoooemjaaGreatDoor.Sg
open Go.RowKit
open Stb (Stab Srt Mrg)
open Sim (hid Kp No)

def BS (d : List Ent) (h : List Int) (i : Nat) (b : Bool) : Prop :=
  i ≤ d.length ∧ (∀ z ∈ d.take i, lexB z.1 h = true) ∧ (∀ z ∈ d.drop i, lexB z.1 h = false) ∧ (b = true ↔ ∃ y, d[i]? = some y ∧ y.1 = h)
def BAns (d : List Ent) (h : List Int) (e : Ending) : Prop := ∃ (i : Nat) (b : Bool), e = .returned (.tuple #[.int .i64 (i : Int), .bool b]) ∧ BS d h i b

set_option maxHeartbeats 4000000 in
set_option maxRecDepth 100000 in
theorem bsearch_any (w : World) (v : Value) (d : List Ent) (P : Nat → Prop) (x : Ent) (hv : EV P w v d) (hl : d.length ≤ 1000000) (hx : EOk x)
    (hm : ∀ (t u : Nat) (p q : Ent), t ≤ u → d[t]? = some p → d[u]? = some q → lexB q.1 x.1 = true → lexB p.1 x.1 = true) :
    Calls Tryz.prog 132 #[v, .agg (entC x).toArray, cmpV] w fun e w' => BAns d x.1 e ∧ Kp No w w' := by
  obtain ⟨a, c, rfl, h2, h3, h4, h5, h6⟩ := hv
  obtain ⟨n, hn⟩ : ∃ n, d.length = n := ⟨_, rfl⟩
  have HN := hid hn
  rw [hn] at hl ⊢
  have H6 := hid h6
  have HX := hid hx
  have HMO := hid hm
  obtain ⟨cy, hcy⟩ : ∃ cy, entC x = cy := ⟨_, rfl⟩
  have HIy := hid (inf hx)
  rw [hcy] at HIy ⊢
  have HCY := hid hcy
  have HBX : Hid (∀ V, Kp No (w.alloc (.cells cy.toArray 155)) V → V.rangeAt w.heap.size 0 cy ∧ Kp No w V) := fun V hV => ⟨fun j u hu => (hV.cell (p := ⟨w.heap.size, _, none⟩) (by simp) (fun x => x)).trans (rng_new w cy _ j u hu), ((Kp.refl No w).alloc _).andNone hV⟩
  have HH0 : Hid (Half (fun z => lexB z.1 x.1) d 0 n) := by rw [Hid, ← hn]; exact Half.begin _ _
  clear hn h2 h3 h4 h5 h6 hcy hx hm
  unfold cmpV
  go_enter Tryz.func132, Tryz.ntmps132
  go_wp2_with fail
  generalize hW : w.alloc (.cells cy.toArray 155) = W at *
  go_loopw [9, 10] (fun v9 v10 wr => ∃ (i j : Nat), v9 = .int .i64 (i : Int) ∧ v10 = .int .i64 (j : Int) ∧ i ≤ j ∧ j ≤ n ∧ Hid (Half (fun z => lexB z.1 x.1) d i j ∧ Kp No W wr)) (fun v9 v10 _ => (intOf v10).toNat - (intOf v9).toNat)
  case atStart => exact ⟨0, n, rfl, rfl, Nat.zero_le _, Nat.le_refl _, HH0.out, Kp.refl _ _⟩
  case round =>
    obtain ⟨i, j, rfl, rfl, hij, hjn, HS⟩ := hrel
    by_cases hlt : i < j
    · have hltI : (i : Int) < (j : Int) := by omega
      obtain ⟨h, hh⟩ : ∃ h, (i + j) / 2 = h := ⟨_, rfl⟩
      have hhI : ((i : Int) + (j : Int)) / 2 = (h : Int) := by omega
      have hih : i ≤ h ∧ h < j := by omega
      obtain ⟨hHf, hK⟩ := HS.out
      obtain ⟨g, o, rfl, _, hr⟩ := H6.out (by intro e; have := HN.out; rw [e] at this; simp at this; omega)
      obtain ⟨y, hy⟩ : ∃ y, d[h]? = some y := ⟨_, List.getElem?_eq_getElem (by have := HN.out; omega)⟩
      have hyok := (hr.2 h y hy).1
      have HCMP := hid (fun V => compare_any y x V hyok HX.out)
      have HCV : Hid (cmpE y.1 x.1 < 0 ↔ lexB y.1 x.1 = true) := cmpE_neg y.1 x.1
      have Hx : Hid (∀ V, Kp No wr V → V.rangeAt g (o + h * 35) (entC y)) := fun V hV => ((hr.kp (HBX.out V (hK.andNone hV)).2 (fun x => x)).2 h y hy).2
      have Hy : Hid (∀ V, Kp No wr V → V.rangeAt w.heap.size 0 cy) := fun V hV => (HBX.out V (hK.andNone hV)).1
      have HIx := hid (inf hyok)
      have HYES : Hid (lexB y.1 x.1 = true → Half (fun z => lexB z.1 x.1) d (h + 1) j) := fun e => hHf.yes (h := h) (by omega) (by omega) hy e HMO.out
      have HNO : Hid (lexB y.1 x.1 = false → Half (fun z => lexB z.1 x.1) d i h) := fun e => hHf.no (h := h) (by omega) (by omega) hy e HMO.out
      have HKK := hid hK
      have hhN : (h : Int) < (n : Int) := by omega
      have hwh : IntKind.i64.wrap ((h : Int) + 1) = ((h + 1 : Nat) : Int) := by rw [IntKind.wrap_i64]; omega
      obtain ⟨cx, hcx⟩ : ∃ cx, entC y = cx := ⟨_, rfl⟩
      rw [hcx, HCY.out] at HCMP
      rw [hcx] at Hx HIx
      obtain ⟨z, hzz⟩ : ∃ z, cmpE y.1 x.1 = z := ⟨_, rfl⟩
      rw [hzz] at HCMP HCV
      clear hcx hzz hHf hK hr hy hyok hh HS
      go_wp2_with fail
      by_cases hz : z < 0
      · have HH2 := hid (HYES.out (HCV.out.1 hz))
        clear HYES HNO HCV
        refine wp_region_held_drew (S := fun V => Kp No wr V) (by kernel_rfl) ((Kp.refl _ _).drew) (fun hHeld => ?_)
        refine wpAnyH_take (i := 0) (oi := ⟨some 24, .move (.tmp 2), 222, "sort.go:160", #[], none⟩) (v := .func (.func 133) #[] #[]) rfl (by kernel_rfl) (by kernel_rfl) (by kernel_rfl) (fun _ _ _ h => h) (Or.inl ⟨by rfl, fun w' hw' => by (clear hw'; go_simp)⟩) hHeld ?_
        simp only [Act.put, sjA, sjB, sjC]
        refine wpAnyH_take (i := 1) (oi := ⟨some 25, .move (.tmp 0), 81, "sort.go:160", #[], none⟩) (v := .slice (some ⟨g, o, none⟩) n c) rfl (by kernel_rfl) (by kernel_rfl) (by kernel_rfl) (fun _ _ _ h => h) (Or.inl ⟨by rfl, fun w' hw' => by (clear hw'; go_simp)⟩) hHeld ?_
        simp only [Act.put, sjA, sjB, sjC]
        refine wpAnyH_take (i := 2) (oi := ⟨some 26, .move (.tmp 11), 3, "sort.go:160", #[], none⟩) (v := .int .i64 (h : Int)) rfl (by kernel_rfl) (by kernel_rfl) (by kernel_rfl) (fun _ _ _ h => h) (Or.inl ⟨by rfl, fun w' hw' => by (clear hw'; go_simp)⟩) hHeld ?_
        simp only [Act.put, sjA, sjB, sjC]
        refine wpAnyH_take (i := 3) (oi := ⟨some 27, .indexAddr 81 (.tmp 25) (.tmp 26), 0, "sort.go:160", #[⟨1, .data⟩, ⟨2, .data⟩], none⟩) (v := .pointer (some ⟨g, o + h * 35, none⟩)) rfl (by kernel_rfl) (by kernel_rfl) (by kernel_rfl) (fun _ _ _ h => h) (Or.inl ⟨by rfl, fun w' hw' => by (clear hw'; go_simp)⟩) hHeld ?_
        simp only [Act.put, sjA, sjB, sjC]
        refine wpAnyH_take (i := 4) (oi := ⟨some 28, .load 155 (.tmp 27), 155, "sort.go:160", #[⟨3, .data⟩], none⟩) (v := .agg cx.toArray) rfl (by kernel_rfl) (by kernel_rfl) (by kernel_rfl) (fun _ _ _ h => h) (yieldsIf_load_mid (by rfl) _ _ rfl g (o + h * 35) rfl cx _ (Hx.out) Tryz.underlying155 rfl HIx.out) hHeld ?_
        simp only [Act.put, sjA, sjB, sjC]
        refine wpAnyH_take (i := 5) (oi := ⟨some 29, .load 155 (.tmp 4), 155, "sort.go:160", #[], none⟩) (v := .agg cy.toArray) rfl (by kernel_rfl) (by kernel_rfl) (by kernel_rfl) (fun _ _ _ h => h) (yieldsIf_load_mid (by rfl) _ _ rfl w.heap.size 0 rfl cy _ (Hy.out) Tryz.underlying155 rfl HIy.out) hHeld ?_
        simp only [Act.put, sjA, sjB, sjC]
        refine wpAnyH_ready (rs := [6]) (by kernel_rfl) (by simp) ?_
        refine AllReadyH.cons (o := ⟨some 30, .call { callee := Callee.value (.tmp 24), args := #[.tmp 28, .tmp 29], argTypes := #[155, 155] }, 3, "sort.go:160", #[⟨0, .data⟩, ⟨4, .data⟩, ⟨5, .data⟩], none⟩) rfl (fun K hK => ?_) AllReadyH.nil
        go_simp
        refine (HCMP.out _).mono ?_
        rintro e w3 ⟨rfl, h3⟩
        have HK3 : Hid (Kp No wr w3) := (Kp.refl No wr).drew.andNone (Kp.below h3)
        clear h3
        go_wp2_with fail
        refine hK.out _ _ (HK3.out) (fun hh => ?_)
        clear hK K hHeld
        have hHeld := hh
        clear hh
        try simp only [Act.put, sjA, sjB, sjC]
        refine wpAnyH_take (i := 7) (oi := ⟨some 31, .binOp BinOp.lss 3 (.tmp 30) (Operand.const (Value.int IntKind.i64 0)) 3, 4, "sort.go:160", #[⟨6, .data⟩], none⟩) (v := .bool true) rfl (by kernel_rfl) (by kernel_rfl) (by kernel_rfl) (fun _ _ _ h => h) (Or.inl ⟨by rfl, fun w' hw' => by (clear hw'; go_simp)⟩) hHeld ?_
        simp only [Act.put, sjA, sjB, sjC]
        refine wpAnyH_done (by kernel_rfl) ?_ _
        have HA3 := hid (HKK.out.andNone HK3.out)
        clear hHeld HK3 HCMP Hx Hy HIx HKK
        go_wp2_with fail
        go_round
        case rel => exact ⟨h + 1, j, by go_num, rfl, by omega, by omega, HH2.out, HA3.out⟩
        case measure => simp [intOf]; omega
      · have hls : lexB y.1 x.1 = false := by
          cases hb : lexB y.1 x.1 with
          | false => rfl
          | true => exact absurd (HCV.out.2 hb) hz
        have HH2 := hid (HNO.out hls)
        clear HYES HNO HCV hls
        refine wp_region_held_drew (S := fun V => Kp No wr V) (by kernel_rfl) ((Kp.refl _ _).drew) (fun hHeld => ?_)
        refine wpAnyH_take (i := 0) (oi := ⟨some 24, .move (.tmp 2), 222, "sort.go:160", #[], none⟩) (v := .func (.func 133) #[] #[]) rfl (by kernel_rfl) (by kernel_rfl) (by kernel_rfl) (fun _ _ _ h => h) (Or.inl ⟨by rfl, fun w' hw' => by (clear hw'; go_simp)⟩) hHeld ?_
        simp only [Act.put, sjA, sjB, sjC]
        refine wpAnyH_take (i := 1) (oi := ⟨some 25, .move (.tmp 0), 81, "sort.go:160", #[], none⟩) (v := .slice (some ⟨g, o, none⟩) n c) rfl (by kernel_rfl) (by kernel_rfl) (by kernel_rfl) (fun _ _ _ h => h) (Or.inl ⟨by rfl, fun w' hw' => by (clear hw'; go_simp)⟩) hHeld ?_
        simp only [Act.put, sjA, sjB, sjC]
        refine wpAnyH_take (i := 2) (oi := ⟨some 26, .move (.tmp 11), 3, "sort.go:160", #[], none⟩) (v := .int .i64 (h : Int)) rfl (by kernel_rfl) (by kernel_rfl) (by kernel_rfl) (fun _ _ _ h => h) (Or.inl ⟨by rfl, fun w' hw' => by (clear hw'; go_simp)⟩) hHeld ?_
        simp only [Act.put, sjA, sjB, sjC]
        refine wpAnyH_take (i := 3) (oi := ⟨some 27, .indexAddr 81 (.tmp 25) (.tmp 26), 0, "sort.go:160", #[⟨1, .data⟩, ⟨2, .data⟩], none⟩) (v := .pointer (some ⟨g, o + h * 35, none⟩)) rfl (by kernel_rfl) (by kernel_rfl) (by kernel_rfl) (fun _ _ _ h => h) (Or.inl ⟨by rfl, fun w' hw' => by (clear hw'; go_simp)⟩) hHeld ?_
        simp only [Act.put, sjA, sjB, sjC]
        refine wpAnyH_take (i := 4) (oi := ⟨some 28, .load 155 (.tmp 27), 155, "sort.go:160", #[⟨3, .data⟩], none⟩) (v := .agg cx.toArray) rfl (by kernel_rfl) (by kernel_rfl) (by kernel_rfl) (fun _ _ _ h => h) (yieldsIf_load_mid (by rfl) _ _ rfl g (o + h * 35) rfl cx _ (Hx.out) Tryz.underlying155 rfl HIx.out) hHeld ?_
        simp only [Act.put, sjA, sjB, sjC]
        refine wpAnyH_take (i := 5) (oi := ⟨some 29, .load 155 (.tmp 4), 155, "sort.go:160", #[], none⟩) (v := .agg cy.toArray) rfl (by kernel_rfl) (by kernel_rfl) (by kernel_rfl) (fun _ _ _ h => h) (yieldsIf_load_mid (by rfl) _ _ rfl w.heap.size 0 rfl cy _ (Hy.out) Tryz.underlying155 rfl HIy.out) hHeld ?_
        simp only [Act.put, sjA, sjB, sjC]
        refine wpAnyH_ready (rs := [6]) (by kernel_rfl) (by simp) ?_
        refine AllReadyH.cons (o := ⟨some 30, .call { callee := Callee.value (.tmp 24), args := #[.tmp 28, .tmp 29], argTypes := #[155, 155] }, 3, "sort.go:160", #[⟨0, .data⟩, ⟨4, .data⟩, ⟨5, .data⟩], none⟩) rfl (fun K hK => ?_) AllReadyH.nil
        go_simp
        refine (HCMP.out _).mono ?_
        rintro e w3 ⟨rfl, h3⟩
        have HK3 : Hid (Kp No wr w3) := (Kp.refl No wr).drew.andNone (Kp.below h3)
        clear h3
        go_wp2_with fail
        refine hK.out _ _ (HK3.out) (fun hh => ?_)
        clear hK K hHeld
        have hHeld := hh
        clear hh
        try simp only [Act.put, sjA, sjB, sjC]
        refine wpAnyH_take (i := 7) (oi := ⟨some 31, .binOp BinOp.lss 3 (.tmp 30) (Operand.const (Value.int IntKind.i64 0)) 3, 4, "sort.go:160", #[⟨6, .data⟩], none⟩) (v := .bool false) rfl (by kernel_rfl) (by kernel_rfl) (by kernel_rfl) (fun _ _ _ h => h) (Or.inl ⟨by rfl, fun w' hw' => by (clear hw'; go_simp)⟩) hHeld ?_
        simp only [Act.put, sjA, sjB, sjC]
        refine wpAnyH_done (by kernel_rfl) ?_ _
        have HA3 := hid (HKK.out.andNone HK3.out)
        clear hHeld HK3 HCMP Hx Hy HIx HKK
        go_wp2_with fail
        go_round
        case rel => exact ⟨i, h, rfl, rfl, by omega, by omega, HH2.out, HA3.out⟩
        case measure => simp [intOf]; omega
    · have hltI : ¬ (i : Int) < (j : Int) := by omega
      obtain ⟨hHf, hK⟩ := HS.out
      have hji : j = i := by omega
      rw [hji] at hHf
      have HE := hid hHf.end
      have HKK := hid hK
      clear hHf hK HS
      by_cases hin : i < n
      · have hinI : (i : Int) < (n : Int) := by omega
        obtain ⟨g, o, rfl, _, hr⟩ := H6.out (by intro e; have := HN.out; rw [e] at this; simp at this; omega)
        obtain ⟨y, hy⟩ : ∃ y, d[i]? = some y := ⟨_, List.getElem?_eq_getElem (by have := HN.out; omega)⟩
        have hyok := (hr.2 i y hy).1
        have HCMP := hid (fun V => compare_any y x V hyok HX.out)
        have HCV : Hid (cmpE y.1 x.1 = 0 ↔ y.1 = x.1) := cmpE_zero y.1 x.1
        have Hx : Hid (∀ V, Kp No wr V → V.rangeAt g (o + i * 35) (entC y)) := fun V hV => ((hr.kp (HBX.out V (HKK.out.andNone hV)).2 (fun x => x)).2 i y hy).2
        have Hy : Hid (∀ V, Kp No wr V → V.rangeAt w.heap.size 0 cy) := fun V hV => (HBX.out V (HKK.out.andNone hV)).1
        have HIx := hid (inf hyok)
        have HYE := hid hy
        obtain ⟨cx, hcx⟩ : ∃ cx, entC y = cx := ⟨_, rfl⟩
        rw [hcx, HCY.out] at HCMP
        rw [hcx] at Hx HIx
        obtain ⟨z, hzz⟩ : ∃ z, cmpE y.1 x.1 = z := ⟨_, rfl⟩
        rw [hzz] at HCMP HCV
        clear hcx hzz hr hy hyok
        go_wp2_with fail
        by_cases hz : z = 0
        · have HB : Hid (BS d x.1 i true) := ⟨by rw [HN.out]; omega, HE.out.1, HE.out.2, ⟨fun _ => ⟨y, HYE.out, HCV.out.1 hz⟩, fun _ => rfl⟩⟩
          clear HCV
          refine wp_region_held_drew (S := fun V => Kp No wr V) (by kernel_rfl) ((Kp.refl _ _).drew) (fun hHeld => ?_)
          refine wpAnyH_take (i := 0) (oi := ⟨some 35, .move (.tmp 9), 3, "sort.go:167", #[], none⟩) (v := .int .i64 (i : Int)) rfl (by kernel_rfl) (by kernel_rfl) (by kernel_rfl) (fun _ _ _ h => h) (Or.inl ⟨by rfl, fun w' hw' => by (clear hw'; go_simp)⟩) hHeld ?_
          simp only [Act.put, sjA, sjB, sjC]
          refine wpAnyH_take (i := 1) (oi := ⟨some 36, .move (.tmp 9), 3, "sort.go:167", #[], none⟩) (v := .int .i64 (i : Int)) rfl (by kernel_rfl) (by kernel_rfl) (by kernel_rfl) (fun _ _ _ h => h) (Or.inl ⟨by rfl, fun w' hw' => by (clear hw'; go_simp)⟩) hHeld ?_
          simp only [Act.put, sjA, sjB, sjC]
          refine wpAnyH_take (i := 2) (oi := ⟨some 37, .move (.tmp 8), 3, "sort.go:167", #[], none⟩) (v := .int .i64 (n : Int)) rfl (by kernel_rfl) (by kernel_rfl) (by kernel_rfl) (fun _ _ _ h => h) (Or.inl ⟨by rfl, fun w' hw' => by (clear hw'; go_simp)⟩) hHeld ?_
          simp only [Act.put, sjA, sjB, sjC]
          refine wpAnyH_take (i := 3) (oi := ⟨some 38, .binOp BinOp.lss 3 (.tmp 36) (.tmp 37) 3, 4, "sort.go:167", #[⟨1, .data⟩, ⟨2, .data⟩], none⟩) (v := .bool true) rfl (by kernel_rfl) (by kernel_rfl) (by kernel_rfl) (fun _ _ _ h => h) (Or.inl ⟨by rfl, fun w' hw' => by (clear hw'; go_simp)⟩) hHeld ?_
          simp only [Act.put, sjA, sjB, sjC]
          refine wpAnyH_take (i := 4) (oi := ⟨some 39, .move (.tmp 38), 4, "sort.go:167", #[⟨3, .data⟩], none⟩) (v := .bool true) rfl (by kernel_rfl) (by kernel_rfl) (by kernel_rfl) (fun _ _ _ h => h) (Or.inl ⟨by rfl, fun w' hw' => by (clear hw'; go_simp)⟩) hHeld ?_
          simp only [Act.put, sjA, sjB, sjC]
          refine wpAnyH_take (i := 5) (oi := ⟨some 40, .move (.tmp 2), 222, "sort.go:167", #[⟨4, .guard⟩], some (4, true)⟩) (v := .func (.func 133) #[] #[]) rfl (by kernel_rfl) (by kernel_rfl) (by kernel_rfl) (fun _ _ _ h => h) (Or.inl ⟨by rfl, fun w' hw' => by (clear hw'; go_simp)⟩) hHeld ?_
          simp only [Act.put, sjA, sjB, sjC]
          refine wpAnyH_take (i := 6) (oi := ⟨some 41, .move (.tmp 0), 81, "sort.go:167", #[⟨4, .guard⟩], some (4, true)⟩) (v := .slice (some ⟨g, o, none⟩) n c) rfl (by kernel_rfl) (by kernel_rfl) (by kernel_rfl) (fun _ _ _ h => h) (Or.inl ⟨by rfl, fun w' hw' => by (clear hw'; go_simp)⟩) hHeld ?_
          simp only [Act.put, sjA, sjB, sjC]
          refine wpAnyH_take (i := 7) (oi := ⟨some 42, .move (.tmp 9), 3, "sort.go:167", #[⟨4, .guard⟩], some (4, true)⟩) (v := .int .i64 (i : Int)) rfl (by kernel_rfl) (by kernel_rfl) (by kernel_rfl) (fun _ _ _ h => h) (Or.inl ⟨by rfl, fun w' hw' => by (clear hw'; go_simp)⟩) hHeld ?_
          simp only [Act.put, sjA, sjB, sjC]
          refine wpAnyH_take (i := 8) (oi := ⟨some 43, .indexAddr 81 (.tmp 41) (.tmp 42), 0, "sort.go:167", #[⟨6, .data⟩, ⟨7, .data⟩, ⟨4, .guard⟩], some (4, true)⟩) (v := .pointer (some ⟨g, o + i * 35, none⟩)) rfl (by kernel_rfl) (by kernel_rfl) (by kernel_rfl) (fun _ _ _ h => h) (Or.inl ⟨by rfl, fun w' hw' => by (clear hw'; go_simp)⟩) hHeld ?_
          simp only [Act.put, sjA, sjB, sjC]
          refine wpAnyH_take (i := 9) (oi := ⟨some 44, .load 155 (.tmp 43), 155, "sort.go:167", #[⟨8, .data⟩, ⟨4, .guard⟩], some (4, true)⟩) (v := .agg cx.toArray) rfl (by kernel_rfl) (by kernel_rfl) (by kernel_rfl) (fun _ _ _ h => h) (yieldsIf_load_mid (by rfl) _ _ rfl g (o + i * 35) rfl cx _ (Hx.out) Tryz.underlying155 rfl HIx.out) hHeld ?_
          simp only [Act.put, sjA, sjB, sjC]
          refine wpAnyH_take (i := 10) (oi := ⟨some 45, .load 155 (.tmp 4), 155, "sort.go:167", #[⟨4, .guard⟩], some (4, true)⟩) (v := .agg cy.toArray) rfl (by kernel_rfl) (by kernel_rfl) (by kernel_rfl) (fun _ _ _ h => h) (yieldsIf_load_mid (by rfl) _ _ rfl w.heap.size 0 rfl cy _ (Hy.out) Tryz.underlying155 rfl HIy.out) hHeld ?_
          simp only [Act.put, sjA, sjB, sjC]
          refine wpAnyH_ready (rs := [11]) (by kernel_rfl) (by simp) ?_
          refine AllReadyH.cons (o := ⟨some 46, .call { callee := Callee.value (.tmp 40), args := #[.tmp 44, .tmp 45], argTypes := #[155, 155] }, 3, "sort.go:167", #[⟨5, .data⟩, ⟨9, .data⟩, ⟨10, .data⟩, ⟨4, .chain⟩, ⟨4, .guard⟩], some (4, true)⟩) rfl (fun K hK => ?_) AllReadyH.nil
          go_simp
          refine (HCMP.out _).mono ?_
          rintro e w3 ⟨rfl, h3⟩
          have HK3 : Hid (Kp No wr w3) := (Kp.refl No wr).drew.andNone (Kp.below h3)
          clear h3
          go_wp2_with fail
          refine hK.out _ _ (HK3.out) (fun hh => ?_)
          clear hK K hHeld
          have hHeld := hh
          clear hh
          try simp only [Act.put, sjA, sjB, sjC]
          refine wpAnyH_take (i := 12) (oi := ⟨some 47, .binOp BinOp.eql 3 (.tmp 46) (Operand.const (Value.int IntKind.i64 0)) 3, 4, "sort.go:167", #[⟨11, .data⟩, ⟨4, .guard⟩, ⟨14, .gcOnly .lateStores⟩], some (4, true)⟩) (v := .bool true) rfl (by kernel_rfl) (by kernel_rfl) (by kernel_rfl) (fun _ _ _ h => h) (Or.inl ⟨by rfl, fun w' hw' => by (clear hw'; go_simp)⟩) hHeld ?_
          simp only [Act.put, sjA, sjB, sjC]
          refine wpAnyH_take (i := 13) (oi := ⟨some 48, .pick (.tmp 39) (.tmp 47) (Operand.const (Value.bool false)), 4, "sort.go:167", #[⟨4, .data⟩, ⟨12, .data⟩, ⟨14, .gcOnly .lateStores⟩], none⟩) (v := .bool true) rfl (by kernel_rfl) (by kernel_rfl) (by kernel_rfl) (fun _ _ _ h => h) (Or.inl ⟨by rfl, fun w' hw' => by (clear hw'; go_simp)⟩) hHeld ?_
          simp only [Act.put, sjA, sjB, sjC]
          refine wpAnyH_take (i := 14) (oi := ⟨some 6, .assign (.tmp 35), 3, "sort.go:167", #[⟨0, .data⟩, ⟨11, .chain⟩, ⟨0, .phase⟩, ⟨1, .textOnly .lateStores⟩, ⟨2, .textOnly .lateStores⟩, ⟨3, .textOnly .lateStores⟩, ⟨4, .textOnly .lateStores⟩, ⟨5, .textOnly .lateStores⟩, ⟨6, .textOnly .lateStores⟩, ⟨7, .textOnly .lateStores⟩, ⟨8, .textOnly .lateStores⟩, ⟨9, .textOnly .lateStores⟩, ⟨10, .textOnly .lateStores⟩, ⟨11, .textOnly .lateStoresUnsure⟩, ⟨12, .textOnly .lateStores⟩, ⟨13, .textOnly .lateStores⟩], none⟩) (v := .int .i64 (i : Int)) rfl (by kernel_rfl) (by kernel_rfl) (by kernel_rfl) (fun _ _ _ h => h) (Or.inl ⟨by rfl, fun w' hw' => by (clear hw'; go_simp)⟩) hHeld ?_
          simp only [Act.put, sjA, sjB, sjC]
          refine wpAnyH_take (i := 15) (oi := ⟨some 7, .assign (.tmp 48), 4, "sort.go:167", #[⟨13, .data⟩, ⟨14, .chain⟩, ⟨0, .phase⟩, ⟨1, .phase⟩, ⟨2, .phase⟩, ⟨3, .phase⟩, ⟨4, .phase⟩, ⟨5, .phase⟩, ⟨6, .phase⟩, ⟨7, .phase⟩, ⟨8, .phase⟩, ⟨9, .phase⟩, ⟨10, .phase⟩, ⟨11, .phase⟩, ⟨12, .phase⟩, ⟨13, .phase⟩, ⟨14, .phase⟩], none⟩) (v := .bool true) rfl (by kernel_rfl) (by kernel_rfl) (by kernel_rfl) (fun _ _ _ h => h) (Or.inl ⟨by rfl, fun w' hw' => by (clear hw'; go_simp)⟩) hHeld ?_
          simp only [Act.put, sjA, sjB, sjC]
          refine wpAnyH_done (by kernel_rfl) ?_ _
          have HA3 := hid (HBX.out _ (HKK.out.andNone HK3.out)).2
          clear hHeld HK3 HCMP Hx Hy HIx HKK
          go_wp2_with fail
          go_ret2
          exact ⟨⟨i, true, rfl, HB.out⟩, HA3.out⟩
        · have HB : Hid (BS d x.1 i false) := ⟨by rw [HN.out]; omega, HE.out.1, HE.out.2, ⟨fun h => (by cases h), fun ⟨q, hq, hqe⟩ => (by
            rw [HYE.out] at hq
            cases hq
            exact absurd (HCV.out.2 hqe) hz)⟩⟩
          clear HCV
          refine wp_region_held_drew (S := fun V => Kp No wr V) (by kernel_rfl) ((Kp.refl _ _).drew) (fun hHeld => ?_)
          refine wpAnyH_take (i := 0) (oi := ⟨some 35, .move (.tmp 9), 3, "sort.go:167", #[], none⟩) (v := .int .i64 (i : Int)) rfl (by kernel_rfl) (by kernel_rfl) (by kernel_rfl) (fun _ _ _ h => h) (Or.inl ⟨by rfl, fun w' hw' => by (clear hw'; go_simp)⟩) hHeld ?_
          simp only [Act.put, sjA, sjB, sjC]
          refine wpAnyH_take (i := 1) (oi := ⟨some 36, .move (.tmp 9), 3, "sort.go:167", #[], none⟩) (v := .int .i64 (i : Int)) rfl (by kernel_rfl) (by kernel_rfl) (by kernel_rfl) (fun _ _ _ h => h) (Or.inl ⟨by rfl, fun w' hw' => by (clear hw'; go_simp)⟩) hHeld ?_
          simp only [Act.put, sjA, sjB, sjC]
          refine wpAnyH_take (i := 2) (oi := ⟨some 37, .move (.tmp 8), 3, "sort.go:167", #[], none⟩) (v := .int .i64 (n : Int)) rfl (by kernel_rfl) (by kernel_rfl) (by kernel_rfl) (fun _ _ _ h => h) (Or.inl ⟨by rfl, fun w' hw' => by (clear hw'; go_simp)⟩) hHeld ?_
          simp only [Act.put, sjA, sjB, sjC]
          refine wpAnyH_take (i := 3) (oi := ⟨some 38, .binOp BinOp.lss 3 (.tmp 36) (.tmp 37) 3, 4, "sort.go:167", #[⟨1, .data⟩, ⟨2, .data⟩], none⟩) (v := .bool true) rfl (by kernel_rfl) (by kernel_rfl) (by kernel_rfl) (fun _ _ _ h => h) (Or.inl ⟨by rfl, fun w' hw' => by (clear hw'; go_simp)⟩) hHeld ?_
          simp only [Act.put, sjA, sjB, sjC]
          refine wpAnyH_take (i := 4) (oi := ⟨some 39, .move (.tmp 38), 4, "sort.go:167", #[⟨3, .data⟩], none⟩) (v := .bool true) rfl (by kernel_rfl) (by kernel_rfl) (by kernel_rfl) (fun _ _ _ h => h) (Or.inl ⟨by rfl, fun w' hw' => by (clear hw'; go_simp)⟩) hHeld ?_
          simp only [Act.put, sjA, sjB, sjC]
          refine wpAnyH_take (i := 5) (oi := ⟨some 40, .move (.tmp 2), 222, "sort.go:167", #[⟨4, .guard⟩], some (4, true)⟩) (v := .func (.func 133) #[] #[]) rfl (by kernel_rfl) (by kernel_rfl) (by kernel_rfl) (fun _ _ _ h => h) (Or.inl ⟨by rfl, fun w' hw' => by (clear hw'; go_simp)⟩) hHeld ?_
          simp only [Act.put, sjA, sjB, sjC]
          refine wpAnyH_take (i := 6) (oi := ⟨some 41, .move (.tmp 0), 81, "sort.go:167", #[⟨4, .guard⟩], some (4, true)⟩) (v := .slice (some ⟨g, o, none⟩) n c) rfl (by kernel_rfl) (by kernel_rfl) (by kernel_rfl) (fun _ _ _ h => h) (Or.inl ⟨by rfl, fun w' hw' => by (clear hw'; go_simp)⟩) hHeld ?_
          simp only [Act.put, sjA, sjB, sjC]
          refine wpAnyH_take (i := 7) (oi := ⟨some 42, .move (.tmp 9), 3, "sort.go:167", #[⟨4, .guard⟩], some (4, true)⟩) (v := .int .i64 (i : Int)) rfl (by kernel_rfl) (by kernel_rfl) (by kernel_rfl) (fun _ _ _ h => h) (Or.inl ⟨by rfl, fun w' hw' => by (clear hw'; go_simp)⟩) hHeld ?_
          simp only [Act.put, sjA, sjB, sjC]
          refine wpAnyH_take (i := 8) (oi := ⟨some 43, .indexAddr 81 (.tmp 41) (.tmp 42), 0, "sort.go:167", #[⟨6, .data⟩, ⟨7, .data⟩, ⟨4, .guard⟩], some (4, true)⟩) (v := .pointer (some ⟨g, o + i * 35, none⟩)) rfl (by kernel_rfl) (by kernel_rfl) (by kernel_rfl) (fun _ _ _ h => h) (Or.inl ⟨by rfl, fun w' hw' => by (clear hw'; go_simp)⟩) hHeld ?_
          simp only [Act.put, sjA, sjB, sjC]
          refine wpAnyH_take (i := 9) (oi := ⟨some 44, .load 155 (.tmp 43), 155, "sort.go:167", #[⟨8, .data⟩, ⟨4, .guard⟩], some (4, true)⟩) (v := .agg cx.toArray) rfl (by kernel_rfl) (by kernel_rfl) (by kernel_rfl) (fun _ _ _ h => h) (yieldsIf_load_mid (by rfl) _ _ rfl g (o + i * 35) rfl cx _ (Hx.out) Tryz.underlying155 rfl HIx.out) hHeld ?_
          simp only [Act.put, sjA, sjB, sjC]
          refine wpAnyH_take (i := 10) (oi := ⟨some 45, .load 155 (.tmp 4), 155, "sort.go:167", #[⟨4, .guard⟩], some (4, true)⟩) (v := .agg cy.toArray) rfl (by kernel_rfl) (by kernel_rfl) (by kernel_rfl) (fun _ _ _ h => h) (yieldsIf_load_mid (by rfl) _ _ rfl w.heap.size 0 rfl cy _ (Hy.out) Tryz.underlying155 rfl HIy.out) hHeld ?_
          simp only [Act.put, sjA, sjB, sjC]
          refine wpAnyH_ready (rs := [11]) (by kernel_rfl) (by simp) ?_
          refine AllReadyH.cons (o := ⟨some 46, .call { callee := Callee.value (.tmp 40), args := #[.tmp 44, .tmp 45], argTypes := #[155, 155] }, 3, "sort.go:167", #[⟨5, .data⟩, ⟨9, .data⟩, ⟨10, .data⟩, ⟨4, .chain⟩, ⟨4, .guard⟩], some (4, true)⟩) rfl (fun K hK => ?_) AllReadyH.nil
          go_simp
          refine (HCMP.out _).mono ?_
          rintro e w3 ⟨rfl, h3⟩
          have HK3 : Hid (Kp No wr w3) := (Kp.refl No wr).drew.andNone (Kp.below h3)
          clear h3
          go_wp2_with fail
          refine hK.out _ _ (HK3.out) (fun hh => ?_)
          clear hK K hHeld
          have hHeld := hh
          clear hh
          try simp only [Act.put, sjA, sjB, sjC]
          refine wpAnyH_take (i := 12) (oi := ⟨some 47, .binOp BinOp.eql 3 (.tmp 46) (Operand.const (Value.int IntKind.i64 0)) 3, 4, "sort.go:167", #[⟨11, .data⟩, ⟨4, .guard⟩, ⟨14, .gcOnly .lateStores⟩], some (4, true)⟩) (v := .bool false) rfl (by kernel_rfl) (by kernel_rfl) (by kernel_rfl) (fun _ _ _ h => h) (Or.inl ⟨by rfl, fun w' hw' => by (clear hw'; go_simp)⟩) hHeld ?_
          simp only [Act.put, sjA, sjB, sjC]
          refine wpAnyH_take (i := 13) (oi := ⟨some 48, .pick (.tmp 39) (.tmp 47) (Operand.const (Value.bool false)), 4, "sort.go:167", #[⟨4, .data⟩, ⟨12, .data⟩, ⟨14, .gcOnly .lateStores⟩], none⟩) (v := .bool false) rfl (by kernel_rfl) (by kernel_rfl) (by kernel_rfl) (fun _ _ _ h => h) (Or.inl ⟨by rfl, fun w' hw' => by (clear hw'; go_simp)⟩) hHeld ?_
          simp only [Act.put, sjA, sjB, sjC]
          refine wpAnyH_take (i := 14) (oi := ⟨some 6, .assign (.tmp 35), 3, "sort.go:167", #[⟨0, .data⟩, ⟨11, .chain⟩, ⟨0, .phase⟩, ⟨1, .textOnly .lateStores⟩, ⟨2, .textOnly .lateStores⟩, ⟨3, .textOnly .lateStores⟩, ⟨4, .textOnly .lateStores⟩, ⟨5, .textOnly .lateStores⟩, ⟨6, .textOnly .lateStores⟩, ⟨7, .textOnly .lateStores⟩, ⟨8, .textOnly .lateStores⟩, ⟨9, .textOnly .lateStores⟩, ⟨10, .textOnly .lateStores⟩, ⟨11, .textOnly .lateStoresUnsure⟩, ⟨12, .textOnly .lateStores⟩, ⟨13, .textOnly .lateStores⟩], none⟩) (v := .int .i64 (i : Int)) rfl (by kernel_rfl) (by kernel_rfl) (by kernel_rfl) (fun _ _ _ h => h) (Or.inl ⟨by rfl, fun w' hw' => by (clear hw'; go_simp)⟩) hHeld ?_
          simp only [Act.put, sjA, sjB, sjC]
          refine wpAnyH_take (i := 15) (oi := ⟨some 7, .assign (.tmp 48), 4, "sort.go:167", #[⟨13, .data⟩, ⟨14, .chain⟩, ⟨0, .phase⟩, ⟨1, .phase⟩, ⟨2, .phase⟩, ⟨3, .phase⟩, ⟨4, .phase⟩, ⟨5, .phase⟩, ⟨6, .phase⟩, ⟨7, .phase⟩, ⟨8, .phase⟩, ⟨9, .phase⟩, ⟨10, .phase⟩, ⟨11, .phase⟩, ⟨12, .phase⟩, ⟨13, .phase⟩, ⟨14, .phase⟩], none⟩) (v := .bool false) rfl (by kernel_rfl) (by kernel_rfl) (by kernel_rfl) (fun _ _ _ h => h) (Or.inl ⟨by rfl, fun w' hw' => by (clear hw'; go_simp)⟩) hHeld ?_
          simp only [Act.put, sjA, sjB, sjC]
          refine wpAnyH_done (by kernel_rfl) ?_ _
          have HA3 := hid (HBX.out _ (HKK.out.andNone HK3.out)).2
          clear hHeld HK3 HCMP Hx Hy HIx HKK
          go_wp2_with fail
          go_ret2
          exact ⟨⟨i, false, rfl, HB.out⟩, HA3.out⟩
      · have hinI : ¬ (i : Int) < (n : Int) := by omega
        have HB : Hid (BS d x.1 i false) := ⟨by rw [HN.out]; omega, HE.out.1, HE.out.2, ⟨fun h => (by cases h), fun ⟨y, hy, _⟩ => (by have := (List.getElem?_eq_some_iff.1 hy).1; have := HN.out; omega)⟩⟩
        go_wp2_with fail
        refine wp_region_held_drew (S := fun V => Kp No wr V) (by kernel_rfl) ((Kp.refl _ _).drew) (fun hHeld => ?_)
        refine wpAnyH_take (i := 0) (oi := ⟨some 35, .move (.tmp 9), 3, "sort.go:167", #[], none⟩) (v := .int .i64 (i : Int)) rfl (by kernel_rfl) (by kernel_rfl) (by kernel_rfl) (fun _ _ _ h => h) (Or.inl ⟨by rfl, fun w' hw' => by (clear hw'; go_simp)⟩) hHeld ?_
        simp only [Act.put, sjA, sjB, sjC]
        refine wpAnyH_take (i := 1) (oi := ⟨some 36, .move (.tmp 9), 3, "sort.go:167", #[], none⟩) (v := .int .i64 (i : Int)) rfl (by kernel_rfl) (by kernel_rfl) (by kernel_rfl) (fun _ _ _ h => h) (Or.inl ⟨by rfl, fun w' hw' => by (clear hw'; go_simp)⟩) hHeld ?_
        simp only [Act.put, sjA, sjB, sjC]
        refine wpAnyH_take (i := 2) (oi := ⟨some 37, .move (.tmp 8), 3, "sort.go:167", #[], none⟩) (v := .int .i64 (n : Int)) rfl (by kernel_rfl) (by kernel_rfl) (by kernel_rfl) (fun _ _ _ h => h) (Or.inl ⟨by rfl, fun w' hw' => by (clear hw'; go_simp)⟩) hHeld ?_
        simp only [Act.put, sjA, sjB, sjC]
        refine wpAnyH_take (i := 3) (oi := ⟨some 38, .binOp BinOp.lss 3 (.tmp 36) (.tmp 37) 3, 4, "sort.go:167", #[⟨1, .data⟩, ⟨2, .data⟩], none⟩) (v := .bool false) rfl (by kernel_rfl) (by kernel_rfl) (by kernel_rfl) (fun _ _ _ h => h) (Or.inl ⟨by rfl, fun w' hw' => by (clear hw'; go_simp)⟩) hHeld ?_
        simp only [Act.put, sjA, sjB, sjC]
        refine wpAnyH_take (i := 4) (oi := ⟨some 39, .move (.tmp 38), 4, "sort.go:167", #[⟨3, .data⟩], none⟩) (v := .bool false) rfl (by kernel_rfl) (by kernel_rfl) (by kernel_rfl) (fun _ _ _ h => h) (Or.inl ⟨by rfl, fun w' hw' => by (clear hw'; go_simp)⟩) hHeld ?_
        simp only [Act.put, sjA, sjB, sjC]
        refine wpAnyH_take (i := 5) (oi := ⟨some 40, .move (.tmp 2), 222, "sort.go:167", #[⟨4, .guard⟩], some (4, true)⟩) (v := undef) rfl (by kernel_rfl) (by kernel_rfl) (by kernel_rfl) (fun _ _ _ h => h) (Or.inr ⟨by rfl, rfl⟩) hHeld ?_
        simp only [Act.put, sjA, sjB, sjC]
        refine wpAnyH_take (i := 6) (oi := ⟨some 41, .move (.tmp 0), 81, "sort.go:167", #[⟨4, .guard⟩], some (4, true)⟩) (v := undef) rfl (by kernel_rfl) (by kernel_rfl) (by kernel_rfl) (fun _ _ _ h => h) (Or.inr ⟨by rfl, rfl⟩) hHeld ?_
        simp only [Act.put, sjA, sjB, sjC]
        refine wpAnyH_take (i := 7) (oi := ⟨some 42, .move (.tmp 9), 3, "sort.go:167", #[⟨4, .guard⟩], some (4, true)⟩) (v := undef) rfl (by kernel_rfl) (by kernel_rfl) (by kernel_rfl) (fun _ _ _ h => h) (Or.inr ⟨by rfl, rfl⟩) hHeld ?_
        simp only [Act.put, sjA, sjB, sjC]
        refine wpAnyH_take (i := 8) (oi := ⟨some 43, .indexAddr 81 (.tmp 41) (.tmp 42), 0, "sort.go:167", #[⟨6, .data⟩, ⟨7, .data⟩, ⟨4, .guard⟩], some (4, true)⟩) (v := undef) rfl (by kernel_rfl) (by kernel_rfl) (by kernel_rfl) (fun _ _ _ h => h) (Or.inr ⟨by rfl, rfl⟩) hHeld ?_
        simp only [Act.put, sjA, sjB, sjC]
        refine wpAnyH_take (i := 9) (oi := ⟨some 44, .load 155 (.tmp 43), 155, "sort.go:167", #[⟨8, .data⟩, ⟨4, .guard⟩], some (4, true)⟩) (v := undef) rfl (by kernel_rfl) (by kernel_rfl) (by kernel_rfl) (fun _ _ _ h => h) (Or.inr ⟨by rfl, rfl⟩) hHeld ?_
        simp only [Act.put, sjA, sjB, sjC]
        refine wpAnyH_take (i := 10) (oi := ⟨some 45, .load 155 (.tmp 4), 155, "sort.go:167", #[⟨4, .guard⟩], some (4, true)⟩) (v := undef) rfl (by kernel_rfl) (by kernel_rfl) (by kernel_rfl) (fun _ _ _ h => h) (Or.inr ⟨by rfl, rfl⟩) hHeld ?_
        simp only [Act.put, sjA, sjB, sjC]
        refine wpAnyH_take (i := 11) (oi := ⟨some 46, .call { callee := Callee.value (.tmp 40), args := #[.tmp 44, .tmp 45], argTypes := #[155, 155] }, 3, "sort.go:167", #[⟨5, .data⟩, ⟨9, .data⟩, ⟨10, .data⟩, ⟨4, .chain⟩, ⟨4, .guard⟩], some (4, true)⟩) (v := undef) rfl (by kernel_rfl) (by kernel_rfl) (by kernel_rfl) (fun _ _ _ h => h) (Or.inr ⟨by rfl, rfl⟩) hHeld ?_
        simp only [Act.put, sjA, sjB, sjC]
        refine wpAnyH_take (i := 12) (oi := ⟨some 47, .binOp BinOp.eql 3 (.tmp 46) (Operand.const (Value.int IntKind.i64 0)) 3, 4, "sort.go:167", #[⟨11, .data⟩, ⟨4, .guard⟩, ⟨14, .gcOnly .lateStores⟩], some (4, true)⟩) (v := undef) rfl (by kernel_rfl) (by kernel_rfl) (by kernel_rfl) (fun _ _ _ h => h) (Or.inr ⟨by rfl, rfl⟩) hHeld ?_
        simp only [Act.put, sjA, sjB, sjC]
        refine wpAnyH_take (i := 13) (oi := ⟨some 48, .pick (.tmp 39) (.tmp 47) (Operand.const (Value.bool false)), 4, "sort.go:167", #[⟨4, .data⟩, ⟨12, .data⟩, ⟨14, .gcOnly .lateStores⟩], none⟩) (v := .bool false) rfl (by kernel_rfl) (by kernel_rfl) (by kernel_rfl) (fun _ _ _ h => h) (Or.inl ⟨by rfl, fun w' hw' => by (clear hw'; go_simp)⟩) hHeld ?_
        simp only [Act.put, sjA, sjB, sjC]
        refine wpAnyH_take (i := 14) (oi := ⟨some 6, .assign (.tmp 35), 3, "sort.go:167", #[⟨0, .data⟩, ⟨11, .chain⟩, ⟨0, .phase⟩, ⟨1, .textOnly .lateStores⟩, ⟨2, .textOnly .lateStores⟩, ⟨3, .textOnly .lateStores⟩, ⟨4, .textOnly .lateStores⟩, ⟨5, .textOnly .lateStores⟩, ⟨6, .textOnly .lateStores⟩, ⟨7, .textOnly .lateStores⟩, ⟨8, .textOnly .lateStores⟩, ⟨9, .textOnly .lateStores⟩, ⟨10, .textOnly .lateStores⟩, ⟨11, .textOnly .lateStoresUnsure⟩, ⟨12, .textOnly .lateStores⟩, ⟨13, .textOnly .lateStores⟩], none⟩) (v := .int .i64 (i : Int)) rfl (by kernel_rfl) (by kernel_rfl) (by kernel_rfl) (fun _ _ _ h => h) (Or.inl ⟨by rfl, fun w' hw' => by (clear hw'; go_simp)⟩) hHeld ?_
        simp only [Act.put, sjA, sjB, sjC]
        refine wpAnyH_take (i := 15) (oi := ⟨some 7, .assign (.tmp 48), 4, "sort.go:167", #[⟨13, .data⟩, ⟨14, .chain⟩, ⟨0, .phase⟩, ⟨1, .phase⟩, ⟨2, .phase⟩, ⟨3, .phase⟩, ⟨4, .phase⟩, ⟨5, .phase⟩, ⟨6, .phase⟩, ⟨7, .phase⟩, ⟨8, .phase⟩, ⟨9, .phase⟩, ⟨10, .phase⟩, ⟨11, .phase⟩, ⟨12, .phase⟩, ⟨13, .phase⟩, ⟨14, .phase⟩], none⟩) (v := .bool false) rfl (by kernel_rfl) (by kernel_rfl) (by kernel_rfl) (fun _ _ _ h => h) (Or.inl ⟨by rfl, fun w' hw' => by (clear hw'; go_simp)⟩) hHeld ?_
        simp only [Act.put, sjA, sjB, sjC]
        refine wpAnyH_done (by kernel_rfl) ?_ _
        have HA3 := hid (HBX.out _ (HKK.out.andNone ((Kp.refl _ _).drew))).2
        clear hHeld HKK
        go_wp2_with fail
        go_ret2
        exact ⟨⟨i, false, rfl, HB.out⟩, HA3.out⟩
end Go.Proofs.YthmimipoooemjaaGreatDoor.Sg
end

section
/-
  segment.Find: where the object of a name stands.
-/
namespace Go.Proofs.YthmimipoooemjaaGreatDoor.Sg
open Go.RowKit
open Stb (Stab Srt Mrg)
open Sim (hid Kp No)

theorem UpTo.lt {d : List Ent} (h : UpTo d d.length) : ∀ (m t u : Nat) (p q : Ent), u = t + 1 + m → d[t]? = some p → d[u]? = some q → lexB p.1 q.1 = true
  | 0, t, u, p, q, hu, hp, hq => (h u q (List.getElem?_eq_some_iff.1 hq).1 hq).2 t p (by omega) hp
  | m + 1, t, u, p, q, hu, hp, hq => by
    have hul := (List.getElem?_eq_some_iff.1 hq).1
    obtain ⟨r, hr⟩ : ∃ r, d[t + 1 + m]? = some r := ⟨_, List.getElem?_eq_getElem (by omega)⟩
    exact lexB_trans _ _ _ (UpTo.lt h m t (t + 1 + m) p r rfl hp hr) ((h u q hul hq).2 (t + 1 + m) r (by omega) hr)
theorem UpTo.mono {d : List Ent} (h : UpTo d d.length) (x : List Int) : ∀ (t u : Nat) (p q : Ent), t ≤ u → d[t]? = some p → d[u]? = some q → lexB q.1 x = true → lexB p.1 x = true := fun t u p q htu hp hq hl => by
  by_cases e : t = u
  · subst e
    rw [hp] at hq
    cases hq
    exact hl
  · exact lexB_trans _ _ _ (h.lt (u - t - 1) t u p q (by omega) hp hq) hl

theorem results_cell_two {P : Program} {fn : Func} {p u : Tmp} {ty : TypeId} (h : fn.results = #[.cell p ty, .tmp u]) (tmps : Array Value) (w : World) (g o : Nat) (cs : List Value) (d : TypeDesc)
    (hp : tmps.getD p undef = .pointer (some ⟨g, o, none⟩)) (hc : w.rangeAt g o cs) (hu : P.underlying ty = some d) (hd : d.isRow = true) (hi : (P.info? ty).map (·.size) = some cs.length) :
    (results fn tmps).run P w = .ok (.tuple #[.agg cs.toArray, tmps.getD u undef]) w := by
  have hp' : tmps[p]?.getD undef = .pointer (some ⟨g, o, none⟩) := by simpa using hp
  simp only [results, h]
  simp [Result.andThen, hp', asAddr, run_loadVar_mid w g o ty cs d hc hu hd hi]

theorem wpList_build1 {P : Program} {ops : Array Oper} {rest : List Oper} {o : Oper} {a : Act} {w : World} {Q : Exit → Act → World → Prop} (hg : o.guard = none) (ty : TypeId) (x : Operand) (ho : o.op = .build ty #[(0, x)])
    (vx : Value) (hx : a.eval x = vx) (C : Array Value) (hb : P.built ty [(0, vx)] = some C)
    (h : wpList P ops Q rest (a.put o.dst (.agg C)) w) : wpList P ops Q (o :: rest) a w := by
  have e : P.built ty ((#[(0, x)] : Array (Nat × Operand)).map fun (i, x) => (i, a.eval x)).toList = some C := by
    rw [← hb]
    simp only [List.map_toArray, List.map_cons, List.map_nil, hx]
  refine wpList_plain hg fun _ hK => ?_
  unfold Oper.wp execOp
  simp only [ho, Sem.run_bind, run_build w ty _ C e, Result.andThen_ok]
  exact hK _ _ h

theorem built48 (nm : List Int) (h : nm.length = 32) : Tryz.prog.built 155 [(0, .agg (b8 nm).toArray)] = some (entC (nm, 0, 0, 0)).toArray := by
  rcases nm with _ | ⟨x0, _ | ⟨x1, _ | ⟨x2, _ | ⟨x3, _ | ⟨x4, _ | ⟨x5, _ | ⟨x6, _ | ⟨x7, _ | ⟨x8, _ | ⟨x9, _ | ⟨x10, _ | ⟨x11, _ | ⟨x12, _ | ⟨x13, _ | ⟨x14, _ | ⟨x15, _ | ⟨x16, _ | ⟨x17, _ | ⟨x18, _ | ⟨x19, _ | ⟨x20, _ | ⟨x21, _ | ⟨x22, _ | ⟨x23, _ | ⟨x24, _ | ⟨x25, _ | ⟨x26, _ | ⟨x27, _ | ⟨x28, _ | ⟨x29, _ | ⟨x30, _ | ⟨x31, _ | ⟨x32, r⟩⟩⟩⟩⟩⟩⟩⟩⟩⟩⟩⟩⟩⟩⟩⟩⟩⟩⟩⟩⟩⟩⟩⟩⟩⟩⟩⟩⟩⟩⟩⟩⟩ <;> first | (exfalso; simp at h; done) | (exfalso; simp at h; omega) | kernel_rfl

/-- What Find answers. -/
def FAns (d : List Ent) (h : List Int) (e : Ending) : Prop :=
  ∃ (p : Int × Int × Int) (b : Bool), e = .returned (.tuple #[.agg #[.int .i64 p.1, .int .i64 p.2.1, .int .i64 p.2.2], .bool b]) ∧ (b = true ↔ RightP d ∧ ∃ y ∈ d, y.1 = h) ∧ (b = true → (h, p) ∈ d) ∧ (b = false → p = (0, 0, 0))
theorem FAns.no {d : List Ent} {h : List Int} (hn : ¬ (RightP d ∧ ∃ y ∈ d, y.1 = h)) : FAns d h (.returned (.tuple #[.agg #[.int .i64 0, .int .i64 0, .int .i64 0], .bool false])) :=
  ⟨(0, 0, 0), false, rfl, ⟨fun e => (by cases e), fun e => absurd e hn⟩, fun e => (by cases e), fun _ => rfl⟩

set_option maxHeartbeats 4000000 in
set_option maxRecDepth 100000 in
theorem find_any (w : World) (v : Value) (d : List Ent) (P : Nat → Prop) (h : List Int) (hv : EV P w v d) (hl : d.length ≤ 1000000) (hh : h.length = 32) (hb : ∀ x ∈ h, 0 ≤ x ∧ x ≤ 255) :
    Calls Tryz.prog 83 #[v, .agg (b8 h).toArray] w fun e w' => FAns d h e ∧ Kp No w w' := by
  have HI1 : Hid ((Tryz.prog.info? 53).map (·.size) = some (b8 h).length) := by rw [Hid, b8_length, hh]; exact infH
  have HB1 := hid (built48 h hh)
  have HOK := hid hv.ok
  have HRT : Hid (∀ V, Kp No w V → Calls Tryz.prog 112 #[v] V fun e w' => RAns d e ∧ Kp No V w') := fun V hV => right_any V v d P (hv.kept hV) hl
  have HBS : Hid (RightP d → ∀ V, Kp No w V → Calls Tryz.prog 132 #[v, .agg (entC (h, 0, 0, 0)).toArray, cmpV] V fun e w' => BAns d h e ∧ Kp No V w') := fun hr V hV => bsearch_any V v d P (h, 0, 0, 0) (hv.kept hV) hl ⟨hh, hb⟩ (hr.2.mono h)
  unfold cmpV at HBS
  have HV := hid hv
  obtain ⟨a, c, rfl, h2, h3, h4, h5, h6⟩ := hv
  obtain ⟨n, hn⟩ : ∃ n, d.length = n := ⟨_, rfl⟩
  have HN := hid hn
  rw [hn] at hl HRT HBS ⊢
  have H6 := hid h6
  clear hn h2 h3 h4 h5 h6 HV
  generalize b8 h = bh at *
  generalize (entC (h, 0, 0, 0)).toArray = E0 at *
  obtain ⟨W, hW⟩ : ∃ W, (w.alloc (.cells bh.toArray 53)).alloc (.cells #[.int .i64 0, .int .i64 0, .int .i64 0] 51) = W := ⟨_, rfl⟩
  have hsz : (w.alloc (.cells bh.toArray 53)).heap.size = w.heap.size + 1 := by simp
  have hKW : Kp No w W := by rw [← hW]; exact ((Kp.refl No w).alloc _).alloc _
  have hWs : W.heap.size = w.heap.size + 2 := by rw [← hW]; simp
  have HBX : Hid (∀ V, Kp No W V → V.rangeAt w.heap.size 0 bh ∧ V.there (w.heap.size + 1) 0 3 ∧ Kp No w V) := fun V hV => by
    have h1 : W.rangeAt w.heap.size 0 bh := by rw [← hW]; exact World.rangeAt_alloc (rng_new w bh _) _
    have h2 : W.there (w.heap.size + 1) 0 3 := by
      rw [← hW, ← hsz]
      exact thereE _ _ _ _ (by simp)
    refine ⟨fun j u hu => (hV.cell (p := ⟨w.heap.size, _, none⟩) (by show w.heap.size < _; omega) (fun x => x)).trans (h1 j u hu), fun j hj => ?_, hKW.andNone hV⟩
    rw [hV.cell (p := ⟨w.heap.size + 1, _, none⟩) (by show w.heap.size + 1 < _; omega) (fun x => x), hV.frozen (p := ⟨w.heap.size + 1, _, none⟩) (by show w.heap.size + 1 < _; omega) (fun x => x)]
    exact h2 j hj
  have HST : Hid (∀ (V : World) (p q r : Int), Kp No W V → (fun V' => V'.rangeAt (w.heap.size + 1) 0 [.int .i64 p, .int .i64 q, .int .i64 r] ∧ Kp No w V') (V.setCells (w.heap.size + 1) 0 (#[.int .i64 p, .int .i64 q, .int .i64 r] : Array Value).toList)) := fun V p q r hV => ⟨World.rangeAt_setCells_same _ _ _ _ (HBX.out V hV).2.1, (HBX.out V hV).2.2.trans (setCells_kp V _ _ _) (fun x hx => .inr (by omega))⟩
  have HI3 : Hid ((Tryz.prog.info? 51).map (·.size) = some 3) := infW (h, 0, 0, 0)
  have HO3 : Hid (∀ p q r : Int, (#[.int .i64 p, .int .i64 q, .int .i64 r] : Array Value).all (·.oneCell') = true) := fun p q r => all_oneCell_toArray (cs := [.int .i64 p, .int .i64 q, .int .i64 r]) (by
    intro v hv
    simp at hv
    rcases hv with rfl | rfl | rfl <;> rfl)
  go_enter Tryz.func83, Tryz.ntmps83
  go_wp2_with fail
  have HKW := hid hKW
  clear hW hsz hKW hWs
  refine (HRT.out _ HKW.out).mono ?_
  rintro e3 w3 ⟨⟨b, rfl, hb1⟩, k3⟩
  have HB3 := hid hb1
  have HK3 := hid k3
  clear hb1 k3
  cases b with
  | false =>
    have HF : Hid (FAns d h (.returned (.tuple #[.agg #[.int .i64 0, .int .i64 0, .int .i64 0], .bool false]))) := FAns.no (fun hr => by have := HB3.out.2 hr.1; cases this)
    go_wp2_with (first
      | (refine wpList_store_box (fun V' => V'.rangeAt (w.heap.size + 1) 0 [.int .i64 0, .int .i64 0, .int .i64 0] ∧ Kp No w V') (by rfl) 51 _ _ (by rfl) (w.heap.size + 1) 0 #[.int .i64 0, .int .i64 0, .int .i64 0] (by rfl) (by rfl) (HBX.out _ HK3.out).2.1 HI3.out (HO3.out _ _ _) (HST.out _ 0 0 0 HK3.out) ?_; intro w5 h5; have H5 := hid h5; clear h5))
    refine bodyPost_ret (results_cell_two rfl _ _ (w.heap.size + 1) 0 [.int .i64 0, .int .i64 0, .int .i64 0] _ rfl H5.out.1 Tryz.underlying51 rfl HI3.out) rfl ?_
    exact ⟨HF.out, H5.out.2⟩
  | true =>
    have HR := hid (HB3.out.1 rfl)
    go_wp2_with (first
      | (refine wpList_load_mid (by rfl) 53 _ (by rfl) w.heap.size 0 (by rfl) bh _ (HBX.out _ HK3.out).1 Tryz.underlying53 rfl HI1.out ?_)
      | (refine wpList_build1 (by rfl) 155 _ (by rfl) _ (by rfl) E0 HB1.out ?_))
    refine (HBS.out HR.out _ (HBX.out _ HK3.out).2.2).mono ?_
    rintro e4 w4 ⟨⟨i, b4, rfl, hbs⟩, k4⟩
    have HS4 := hid hbs
    have HK4 : Hid (Kp No W w4) := HK3.out.andNone k4
    clear hbs k4
    cases b4 with
    | false =>
      have HF : Hid (FAns d h (.returned (.tuple #[.agg #[.int .i64 0, .int .i64 0, .int .i64 0], .bool false]))) := FAns.no (fun hr => by
        obtain ⟨_, y, hy, hyh⟩ := hr
        obtain ⟨h1, h2, h3, h4⟩ := HS4.out
        rw [← List.take_append_drop i d] at hy
        rcases List.mem_append.1 hy with hy | hy
        · have := h2 y hy
          rw [hyh, lexB_irr] at this
          cases this
        · obtain ⟨k, hk⟩ := List.mem_iff_getElem?.1 hy
          rw [List.getElem?_drop] at hk
          have hkl := (List.getElem?_eq_some_iff.1 hk).1
          by_cases hk0 : k = 0
          · subst hk0
            have := h4.2 ⟨y, hk, hyh⟩
            cases this
          · obtain ⟨z, hz⟩ : ∃ z, d[i]? = some z := ⟨_, List.getElem?_eq_getElem (by omega)⟩
            have h5 := HR.out.2.lt (k - 1) i (i + k) z y (by omega) hz hk
            rw [hyh] at h5
            have h6 := h3 z (List.mem_iff_getElem?.2 ⟨0, by rw [List.getElem?_drop]; exact hz⟩)
            rw [h5] at h6
            cases h6)
      go_wp2_with (first
        | (refine wpList_store_box (fun V' => V'.rangeAt (w.heap.size + 1) 0 [.int .i64 0, .int .i64 0, .int .i64 0] ∧ Kp No w V') (by rfl) 51 _ _ (by rfl) (w.heap.size + 1) 0 #[.int .i64 0, .int .i64 0, .int .i64 0] (by rfl) (by rfl) (HBX.out _ HK4.out).2.1 HI3.out (HO3.out _ _ _) (HST.out _ 0 0 0 HK4.out) ?_; intro w5 h5; have H5 := hid h5; clear h5))
      refine bodyPost_ret (results_cell_two rfl _ _ (w.heap.size + 1) 0 [.int .i64 0, .int .i64 0, .int .i64 0] _ rfl H5.out.1 Tryz.underlying51 rfl HI3.out) rfl ?_
      exact ⟨HF.out, H5.out.2⟩
    | true =>
      obtain ⟨y, hy, hyh⟩ := HS4.out.2.2.2.1 rfl
      have hil := (List.getElem?_eq_some_iff.1 hy).1
      rw [HN.out] at hil
      have hilI : (i : Int) < (n : Int) := by omega
      obtain ⟨g, o, rfl, _, hr⟩ := H6.out (by intro e; rw [e] at hy; simp at hy)
      have hrow := (hr.kp (HBX.out _ HK4.out).2.2 (fun x => x)).2 i y hy
      have hpl := rng_place hrow.1 hrow.2
      unfold plC at hpl
      obtain ⟨nm, p, q, r⟩ := y
      dsimp only at hpl hyh
      subst hyh
      have HPL := hid hpl
      have HF : Hid (FAns d nm (.returned (.tuple #[.agg #[.int .i64 p, .int .i64 q, .int .i64 r], .bool true]))) := ⟨(p, q, r), true, rfl, ⟨fun _ => ⟨HR.out, _, List.mem_of_getElem? hy, rfl⟩, fun _ => rfl⟩, fun _ => List.mem_of_getElem? hy, fun e => (by cases e)⟩
      clear hpl hrow hr hy
      go_wp2_with (first
        | (refine wpList_load_mid (by rfl) 51 _ (by rfl) g (o + i * 35 + 32) (by rfl) [.int .i64 p, .int .i64 q, .int .i64 r] _ HPL.out Tryz.underlying51 rfl HI3.out ?_)
        | (refine wpList_store_box (fun V' => V'.rangeAt (w.heap.size + 1) 0 [.int .i64 p, .int .i64 q, .int .i64 r] ∧ Kp No w V') (by rfl) 51 _ _ (by rfl) (w.heap.size + 1) 0 #[.int .i64 p, .int .i64 q, .int .i64 r] (by rfl) (by rfl) (HBX.out _ HK4.out).2.1 HI3.out (HO3.out _ _ _) (HST.out _ p q r HK4.out) ?_; intro w5 h5; have H5 := hid h5; clear h5))
      refine bodyPost_ret (results_cell_two rfl _ _ (w.heap.size + 1) 0 [.int .i64 p, .int .i64 q, .int .i64 r] _ rfl H5.out.1 Tryz.underlying51 rfl HI3.out) rfl ?_
      exact ⟨HF.out, H5.out.2⟩
end Go.Proofs.YthmimipoooemjaaGreatDoor.Sg
end

section
/-
  slices.Concat of two rows of entries, and segment.Join.
-/
namespace Go.Proofs.YthmimipoooemjaaGreatDoor.Sg
open Go.RowKit
open Stb (Stab Srt Mrg)
open Sim (hid Kp No)

theorem ev_of_row {w : World} {v : Value} {d : List Ent} {P : Nat → Prop} (h : Sim.Row w 155 35 v d.length (ents d)) (hd : ∀ e ∈ d, EOk e) (hP : ∀ x, v.ownBlock = some x → P x) : EV P w v d := by
  obtain ⟨a, cap, rfl, h2, h3, h4, h5⟩ := h.shape
  refine ⟨a, cap, rfl, h2, h3, fun e => ⟨List.length_eq_zero_iff.1 (h4 e).1, (h4 e).2⟩, hd, fun hne => ?_⟩
  cases a with
  | none => exact absurd (List.length_eq_zero_iff.1 (h4 rfl).1) hne
  | some x =>
    obtain ⟨g, o, sp⟩ := x
    obtain ⟨e1, e2⟩ := h5 _ rfl
    cases e1
    cases e2
    exact ⟨g, 0, rfl, hP g rfl, (own_row h rfl hd).1⟩

/-- A row of the call's own that began at u. -/
def Mine (u w : World) (v : Value) (d : List Ent) : Prop := Sim.Row w 155 35 v d.length (ents d) ∧ (∀ x, v.ownBlock = some x → u.heap.size ≤ x) ∧ Kp No u w
theorem Mine.more {u w w' : World} {v v' : Value} {d d' : List Ent} (h : Mine u w v d) (hr : Sim.Row w' 155 35 v' (d.length + d'.length) (ents d ++ ents d')) (hg : w.grownBy w' v.ownBlock) (ho : v'.ownBlock = v.ownBlock ∨ v'.ownBlock = some w.heap.size) : Mine u w' v' (d ++ d') := by
  refine ⟨by rw [List.length_append, ents_append]; exact hr, fun x hx => ?_, h.2.2.grown hg (fun x hx => .inr (h.2.1 x hx))⟩
  rcases ho with e | e
  · exact h.2.1 x (by rw [← e]; exact hx)
  · rw [e] at hx
    cases hx
    exact h.2.2.size

theorem grown35 (w : World) (n G : Nat) (hG : n ≤ G) (hm : G ≤ maxLen) : Sim.Row (w.drew.alloc (.cells (Builtin.zeroCells (Value.agg zE.toArray).cells n ++ Builtin.zeroCells (Value.agg zE.toArray).cells (G - n)) 155)) 155 35 (.slice (some ⟨w.heap.size, 0, none⟩) 0 G) 0 [] := by
  exact World.ownsRow_made w.drew _ G (Nat.zero_le _) hm (by rw [Array.size_append, size_zeroCells, size_zeroCells]; simp [Value.cells, zE, entC, b8]; omega)

set_option maxHeartbeats 1000000 in
theorem growE_any (n : Nat) (w : World) (h0 : 0 < n) (hn : n ≤ 2000000) :
    Calls Tryz.prog 175 #[.slice none 0 0, .int .i64 n] w fun e w' => ∃ v, e = .returned v ∧ Mine w w' v [] := by
  obtain ⟨i0, hi, hz0, hz1, hz2⟩ := info_parts infoE
  have hrz : ∀ ty, (Builtin.append_ #[81, 3] ty #[.slice none 0 0, .int .i64 n]).run Tryz.prog w = _ := fun ty => Lib.run_append_nil_zeros w 81 3 ty 155 i0 (.agg zE.toArray) .i64 .i64 Tryz.underlying81 Tryz.underlying3 hi hz0 n h0 (by omega) (by omega) (by rw [hz2]; omega)
  have hGn : n ≤ grownCap w n 0 155 := grownCap_ge w _ _ _
  have hGm := grownCap_le_maxLen w n 0 155 (by unfold maxLen; omega)
  generalize grownCap w n 0 155 = G at *
  have hG63 : G ≤ 9223372036854775807 := by unfold maxLen at hGm; omega
  have HF : Hid (Mine w (w.drew.alloc (.cells (Builtin.zeroCells (Value.agg zE.toArray).cells n ++ Builtin.zeroCells (Value.agg zE.toArray).cells (G - n)) 155)) (.slice (some ⟨w.heap.size, 0, none⟩) 0 G) []) := ⟨grown35 w n G hGn hGm, fun x hx => by simp [Value.ownBlock] at hx; omega, (Kp.refl No w).drew.alloc _⟩
  clear hGm hz0 hz1 hz2 hi
  have hnn : ¬ ((n : Int) < 0) := by omega
  have hn2 : (n : Int) > 0 := by omega
  go_enter Tryz.func175, Tryz.ntmps175
  go_wp2_with (at_builtin; refine Lib.wpList_append_run _ rfl _ _ _ _ rfl _ _ rfl rfl _ _ (hrz _) ?_)
  all_goals (go_ret; exact ⟨_, rfl, HF.out⟩)
theorem growE_zero (w : World) :
    Calls Tryz.prog 175 #[.slice none 0 0, .int .i64 0] w fun e w' => ∃ v, e = .returned v ∧ Mine w w' v [] := by
  have HF : Hid (Mine w w (.slice none 0 0) []) := ⟨Sim.Row.nil _ _ _, by intro x hx; simp [Value.ownBlock] at hx, Kp.refl _ _⟩
  go_enter Tryz.func175, Tryz.ntmps175
  go_wp2_with fail
  go_ret
  exact ⟨_, rfl, HF.out⟩
theorem growE (z : Int) (n : Nat) (w : World) (hz : z = n) (hn : n ≤ 2000000) :
    Calls Tryz.prog 175 #[.slice none 0 0, .int .i64 z] w fun e w' => ∃ v, e = .returned v ∧ Mine w w' v [] := by
  subst hz
  by_cases h : n = 0
  · subst h
    exact growE_zero w
  · exact growE_any n w (by omega) hn

set_option maxHeartbeats 4000000 in
set_option maxRecDepth 100000 in
/-- slices.Concat of two. -/
theorem concatE (w : World) (g : Nat) (v1 v2 : Value) (xs ys : List Ent) (P1 P2 : Nat → Prop) (c0 : w.cell? ⟨g, 0, none⟩ = some v1) (c1 : w.cell? ⟨g, 1, none⟩ = some v2) (hg : g < w.heap.size) (h1 : EV P1 w v1 xs) (h2 : EV P2 w v2 ys) (hl : xs.length + ys.length ≤ 1000000) :
    Calls Tryz.prog 137 #[.slice (some ⟨g, 0, none⟩) 2 2] w fun e w' => ∃ v, e = .returned v ∧ Mine w w' v (xs ++ ys) := by
  have H1 := hid h1
  have H2 := hid h2
  obtain ⟨a1, k1, rfl, r1⟩ := h1
  obtain ⟨a2, k2, rfl, r2⟩ := h2
  clear r1 r2
  obtain ⟨L1, hL1⟩ : ∃ L, xs.length = L := ⟨_, rfl⟩
  obtain ⟨L2, hL2⟩ : ∃ L, ys.length = L := ⟨_, rfl⟩
  rw [hL1] at H1 c0 hl
  rw [hL2] at H2 c1 hl
  have HL1 := hid hL1
  have HL2 := hid hL2
  clear hL1 hL2
  go_enter Tryz.func137, Tryz.ntmps137
  go_wp2
  refine wp_loop_rounds 3 ?_
  rw [rounds_succ]
  go_wp2
  rw [rounds_succ]
  go_wp2
  rw [rounds_succ]
  go_wp2_with fail
  refine (growE _ (L1 + L2) w (by omega) (by omega)).mono ?_
  rintro e w1 ⟨v, rfl, hM⟩
  obtain ⟨aN, cN, rfl, _⟩ := hM.1.shape
  have HM := hid hM
  have HR1 := hid hM.1
  have HS1 := hid (H1.out.kept hM.2.2).src
  have hk1 := hM.2.2
  have d0 : w1.cell? ⟨g, 0, none⟩ = some (.slice a1 L1 k1) := (hk1.cell (p := ⟨g, 0, none⟩) hg (fun x => x)).trans c0
  have d1 : w1.cell? ⟨g, 1, none⟩ = some (.slice a2 L2 k2) := (hk1.cell (p := ⟨g, 1, none⟩) hg (fun x => x)).trans c1
  rw [HL1.out] at HS1
  clear hM hk1 c0 c1
  go_wp2
  refine wp_loop_rounds 3 ?_
  rw [rounds_succ]
  go_wp2_with (refine Sim.app_row _ (by rfl) _ _ 81 155 (.agg zE.toArray) 35 56 (by rfl) Tryz.underlying81 infoE rfl (by omega) (.slice aN 0 cN) (.slice a1 L1 k1) 0 L1 [] (ents xs) (by rfl) (by rfl) HR1.out HS1.out (by omega) (by omega) ?_; intro ad2 cap2 w2 hrow2 hgr2 hown2)
  have hM2 : Mine w w2 (.slice ad2 L1 cap2) ([] ++ xs) := by
    rw [Nat.zero_add] at hrow2 hown2
    exact HM.out.more (by rw [HL1.out]; simpa [ents] using hrow2) hgr2 hown2
  rw [List.nil_append] at hM2
  have HM2 := hid hM2
  have HR2 := hid hM2.1
  rw [HL1.out] at HR2
  have HS2 := hid (H2.out.kept hM2.2.2).src
  rw [HL2.out] at HS2
  have e0 : w2.cell? ⟨g, 0, none⟩ = some (.slice a1 L1 k1) := by
    refine ((Kp.refl (fun x => (Value.slice aN 0 cN).ownBlock = some x) w1).grown hgr2 (fun _ h => .inl h)).cell (p := ⟨g, 0, none⟩) (Nat.lt_of_lt_of_le hg HM.out.2.2.size) (fun hx => ?_) |>.trans d0
    have := HM.out.2.1 g hx
    omega
  have e1 : w2.cell? ⟨g, 1, none⟩ = some (.slice a2 L2 k2) := by
    refine ((Kp.refl (fun x => (Value.slice aN 0 cN).ownBlock = some x) w1).grown hgr2 (fun _ h => .inl h)).cell (p := ⟨g, 1, none⟩) (Nat.lt_of_lt_of_le hg HM.out.2.2.size) (fun hx => ?_) |>.trans d1
    have := HM.out.2.1 g hx
    omega
  clear hM2 hrow2 hgr2 hown2 d0 d1 HM HR1 HS1
  go_wp2
  rw [rounds_succ]
  go_wp2_with (refine Sim.app_row _ (by rfl) _ _ 81 155 (.agg zE.toArray) 35 56 (by rfl) Tryz.underlying81 infoE rfl (by omega) (.slice ad2 L1 cap2) (.slice a2 L2 k2) L1 L2 (ents xs) (ents ys) (by rfl) (by rfl) HR2.out HS2.out (by omega) (by omega) ?_; intro ad3 cap3 w3 hrow3 hgr3 hown3)
  have HF : Hid (Mine w w3 (.slice ad3 (L1 + L2) cap3) (xs ++ ys)) := HM2.out.more (by rw [HL1.out, HL2.out]; exact hrow3) hgr3 hown3
  clear hrow3 hgr3 hown3 HM2 HR2 HS2 e0 e1
  go_wp2
  rw [rounds_succ]
  go_wp2
  go_ret
  exact ⟨_, rfl, HF.out⟩

set_option maxHeartbeats 4000000 in
set_option maxRecDepth 100000 in
theorem join_any (w : World) (v1 v2 : Value) (xs ys : List Ent) (P1 P2 : Nat → Prop) (h1 : EV P1 w v1 xs) (h2 : EV P2 w v2 ys) (hl : xs.length + ys.length ≤ 1000000) :
    Calls Tryz.prog 85 #[v1, v2] w fun e w' => ∃ r X, e = .returned r ∧ Stab ky (xs ++ ys) X ∧ Srt ky lexB X ∧ Kp No w w' ∧ EV (fun g => w.heap.size ≤ g) w' r (cmpct X) := by
  have HC : Hid (∀ t, Calls Tryz.prog 137 #[.slice (some ⟨w.heap.size, 0, none⟩) 2 2] (w.alloc (.cells #[v1, v2] t)) fun e w' => ∃ v, e = .returned v ∧ Mine (w.alloc (.cells #[v1, v2] t)) w' v (xs ++ ys)) := fun t => by
    have hk : Kp No w (w.alloc (.cells #[v1, v2] t)) := (Kp.refl No w).alloc _
    exact concatE _ w.heap.size v1 v2 xs ys P1 P2 (by rw [World.cell?_alloc_at _ _ _ _ rfl]; rfl) (by rw [World.cell?_alloc_at _ _ _ _ rfl]; rfl) (by simp) (h1.kept hk) (h2.kept hk) hl
  have HOK : Hid (∀ e ∈ xs ++ ys, EOk e) := fun e he => by
    rcases List.mem_append.1 he with he | he
    · exact h1.ok e he
    · exact h2.ok e he
  have HL : Hid ((xs ++ ys).length ≤ 1000000) := by rw [Hid, List.length_append]; exact hl
  obtain ⟨a1, k1, rfl, r1⟩ := h1
  obtain ⟨a2, k2, rfl, r2⟩ := h2
  clear r1 r2
  go_enter Tryz.func85, Tryz.ntmps85
  go_wp2_with fail
  refine (HC.out _).mono ?_
  rintro e w2 ⟨v, rfl, hM⟩
  have HSO := hid (sort_any w2 v (xs ++ ys) _ (ev_of_row hM.1 HOK.out hM.2.1) HL.out)
  have HK2 : Hid (Kp No w w2) := ((Kp.refl No w).alloc _).andNone hM.2.2
  obtain ⟨a3, k3, rfl, _⟩ := hM.1.shape
  rw [List.length_append] at HSO
  clear hM
  go_wp2_with fail
  refine HSO.out.mono ?_
  rintro e w3 ⟨r, X, rfl, h1, h2, h3, h4⟩
  have HF : Hid (Stab ky (xs ++ ys) X ∧ Srt ky lexB X ∧ Kp No w w3 ∧ EV (fun g => w.heap.size ≤ g) w3 r (cmpct X)) := ⟨h1, h2, HK2.out.andNone h3, h4.mono (fun g hg => Nat.le_trans HK2.out.size hg)⟩
  clear h1 h2 h3 h4
  go_wp2_with fail
  go_ret
  exact ⟨_, X, rfl, HF.out⟩
end Go.Proofs.YthmimipoooemjaaGreatDoor.Sg
end

section
/-
  Of a stable sort the first of each name: strictly rising names, and of each name the first of what was sorted.
-/
namespace Go.Proofs.YthmimipoooemjaaGreatDoor.Sg
open Go.RowKit
open Stb (Stab Srt Mrg)
open Sim (hid Kp No)

/-- Names that rise strictly. -/
def Rise (d : List Ent) : Prop := d.Pairwise (fun a b => lexB a.1 b.1 = true)

theorem Rise.get {d : List Ent} (h : Rise d) {y : Ent} (hy : y ∈ d) : d.find? (fun x => decide (x.1 = y.1)) = some y := by
  induction d with
  | nil => cases hy
  | cons x r ih =>
    obtain ⟨h1, h2⟩ := List.pairwise_cons.1 h
    rcases List.mem_cons.1 hy with rfl | hy
    · rw [List.find?_cons_of_pos (by simp)]
    · have hx : x.1 ≠ y.1 := fun e => by
        have := h1 y hy
        rw [e, lexB_irr] at this
        cases this
      rw [List.find?_cons_of_neg (by simpa using hx)]
      exact ih h2 hy
end Go.Proofs.YthmimipoooemjaaGreatDoor.Sg
end

section
/-
  Own of the tenth law: entries of the document's type as the program's.
-/
namespace Go.Proofs.YthmimipoooemjaaGreatDoor.Sg
open Go.RowKit
open Stb (Stab Srt Mrg)
open Sim (hid Kp No)

theorem x32 {nm : List Int} (h : nm.length = 32) : ∃ x0 x1 x2 x3 x4 x5 x6 x7 x8 x9 x10 x11 x12 x13 x14 x15 x16 x17 x18 x19 x20 x21 x22 x23 x24 x25 x26 x27 x28 x29 x30 x31,
    nm = [x0, x1, x2, x3, x4, x5, x6, x7, x8, x9, x10, x11, x12, x13, x14, x15, x16, x17, x18, x19, x20, x21, x22, x23, x24, x25, x26, x27, x28, x29, x30, x31] := by
  match nm, h with
  | [x0, x1, x2, x3, x4, x5, x6, x7, x8, x9, x10, x11, x12, x13, x14, x15, x16, x17, x18, x19, x20, x21, x22, x23, x24, x25, x26, x27, x28, x29, x30, x31], _ => exact ⟨_, _, _, _, _, _, _, _, _, _, _, _, _, _, _, _, _, _, _, _, _, _, _, _, _, _, _, _, _, _, _, _, rfl⟩
theorem built48b (nm : List Int) (p q r : Int) (h : nm.length = 32) : Tryz.prog.built 155 [(0, .agg (b8 nm).toArray), (1, .agg #[.int .i64 p, .int .i64 q, .int .i64 r])] = some (entC (nm, p, q, r)).toArray := by
  obtain ⟨x0, x1, x2, x3, x4, x5, x6, x7, x8, x9, x10, x11, x12, x13, x14, x15, x16, x17, x18, x19, x20, x21, x22, x23, x24, x25, x26, x27, x28, x29, x30, x31, rfl⟩ := x32 h
  kernel_rfl
theorem run_oneE (nm : List Int) (p q r : Int) (h : nm.length = 32) (w : World) : (Instr.buildSlice 81 1 #[(0, .agg (entC (nm, p, q, r)).toArray)]).run Tryz.prog w = .ok (.slice (some ⟨w.heap.size, 0, none⟩) 1 1) (w.alloc (.cells (entC (nm, p, q, r)).toArray 155)) := by
  obtain ⟨x0, x1, x2, x3, x4, x5, x6, x7, x8, x9, x10, x11, x12, x13, x14, x15, x16, x17, x18, x19, x20, x21, x22, x23, x24, x25, x26, x27, x28, x29, x30, x31, rfl⟩ := x32 h
  kernel_rfl
theorem yields_two {P : Program} {ops : Array Oper} {S : World → Prop} {o : Oper} {a : Act} (hw : Region.wanted o (yielded ops a.tmps) = true) (t : TypeId) (i j : Nat) (x y : Operand) (ho : o.op = .build t #[(i, x), (j, y)])
    (vx vy : Value) (hx : a.eval x = vx) (hy : a.eval y = vy) (C : Array Value) (hb : P.built t [(i, vx), (j, vy)] = some C) : YieldsIf P ops S o (.agg C) a :=
  .inl ⟨hw, fun w _ => by
    have e : P.built t ((#[(i, x), (j, y)] : Array (Nat × Operand)).map fun (i, x) => (i, a.eval x)).toList = some C := by
      rw [← hb]
      simp only [List.map_toArray, List.map_cons, List.map_nil, hx, hy]
    unfold execOp
    simp only [ho, Sem.run_bind, run_build w t _ C e, Result.andThen_ok]
    rfl⟩
theorem exec_sliceE {P : Program} {o : Oper} {a : Act} {w w' : World} (t : TypeId) (x : Operand) (ho : o.op = .buildSlice t 1 #[(0, x)]) (v u : Value) (hx : a.eval x = v) (hr : (Instr.buildSlice t 1 #[(0, v)]).run P w = .ok u w') : (execOp a.eval o).run P w = .ok (.value u) w' := by
  unfold execOp
  simp [ho, hx, hr, Result.andThen]
theorem exec_appE {P : Program} {o : Oper} {a : Act} {w w' : World} (s x : Operand) (t : TypeId) (ho : o.op = .call { callee := .builtin .append, args := #[s, x], argTypes := #[t, t] }) (vs vx v : Value) (hs : a.eval s = vs) (hx : a.eval x = vx)
    (hr : (Builtin.append_ #[t, t] o.type #[vs, vx]).run P w = .ok v w') : (execOp a.eval o).run P w = .ok (.value v) w' := by
  unfold execOp
  simp [ho, resolve, invoke, builtin, hs, hx, hr, Result.andThen]
theorem wp_valE {P : Program} {o : Oper} {a : Act} {K : Act → World → Prop} {Q : Exit → Act → World → Prop} {w w' : World} {v : Value} (hr : (execOp a.eval o).run P w = .ok (.value v) w') (h : K (a.put o.dst v) w') : Oper.wp P o a w K Q := by
  unfold Oper.wp
  rw [hr]
  exact h
/-- append of a row of the call's own, with its world. -/
theorem app_run (w : World) (ty : TypeId) (v vx : Value) (n m : Nat) (xs ys : List Value) (hown : Sim.Row w 155 35 v n xs) (hy : Sim.Src w vx m 35 ys) (hm : 0 < m) (hlen : n + m ≤ 2000000) :
    ∃ ad cap w', (Builtin.append_ #[81, 81] ty #[v, vx]).run Tryz.prog w = .ok (.slice ad (n + m) cap) w' ∧ Sim.Row w' 155 35 (.slice ad (n + m) cap) (n + m) (xs ++ ys) ∧ w.grownBy w' v.ownBlock ∧ ((Value.slice ad (n + m) cap).ownBlock = v.ownBlock ∨ (Value.slice ad (n + m) cap).ownBlock = some w.heap.size) := by
  obtain ⟨i0, hi, hz0, hz1', hz2⟩ := info_parts infoE
  rcases hy with ⟨rfl, rfl, rfl⟩ | ⟨ad, c, rfl, hl, hc, h1⟩
  · omega
  · obtain ⟨v', w', hr, h8, h9, _, h10⟩ := run_append_own_at (P := Tryz.prog) w 0 81 ty 155 i0 (.agg zE.toArray) 35 56 Tryz.underlying81 hi hz0 hz1' hz2 rfl (by omega) v n xs hown ad m c ys hl hc h1 (by unfold maxLen; omega) (by omega) (Nat.zero_le _)
    have h8' : Sim.Row w' 155 35 v' (n + m) (xs ++ ys) := h8
    obtain ⟨ad', cap', rfl, _⟩ := h8'.shape
    exact ⟨ad', cap', w', hr, h8, h9, h10⟩

set_option maxHeartbeats 4000000 in
set_option maxRecDepth 100000 in
theorem own_any (w : World) (v : Value) (d : List Ent) (P : Nat → Prop) (hv : EV P w v d) (hl : d.length ≤ 1000000) :
    Calls Tryz.prog 35 #[v] w fun e w' => ∃ r, e = .returned r ∧ Mine w w' r d := by
  obtain ⟨a, c, rfl, h2, h3, h4, h5, h6⟩ := hv
  obtain ⟨n, hn⟩ : ∃ n, d.length = n := ⟨_, rfl⟩
  have HN := hid hn
  rw [hn] at hl ⊢
  have H6 := hid h6
  have HM0 : Hid (Mine w w (.slice none 0 0) (d.take 0)) := ⟨Sim.Row.nil _ _ _, by intro x hx; simp [Value.ownBlock] at hx, Kp.refl _ _⟩
  clear hn h2 h3 h4 h5 h6
  go_enter Tryz.func35, Tryz.ntmps35
  go_wp2_with fail
  go_loopw [3, 4] (fun v3 v4 wr => ∃ (k : Nat) (ad : Option Addr) (cap : Nat), v3 = .slice ad k cap ∧ v4 = .int .i64 (k : Int) ∧ k ≤ n ∧ Hid (Mine w wr (.slice ad k cap) (d.take k))) (fun _ v4 _ => n - (intOf v4).toNat)
  case atStart => exact ⟨0, none, 0, rfl, rfl, Nat.zero_le _, HM0.out⟩
  case round =>
    obtain ⟨k, ad, cap, rfl, rfl, hkn, HS⟩ := hrel
    by_cases hlt : k < n
    · have hltI : (k : Int) < (n : Int) := by omega
      have hwk : IntKind.i64.wrap ((k : Int) + 1) = ((k + 1 : Nat) : Int) := by rw [IntKind.wrap_i64]; omega
      obtain ⟨g, o, rfl, _, hr⟩ := H6.out (by intro e; have := HN.out; rw [e] at this; simp at this; omega)
      obtain ⟨e, he⟩ : ∃ e, d[k]? = some e := ⟨_, List.getElem?_eq_getElem (by rw [HN.out]; exact hlt)⟩
      obtain ⟨heo, _⟩ := hr.2 k e he
      obtain ⟨nm, p, q, r⟩ := e
      have hnm : nm.length = 32 := heo.1
      have hgO : (Value.slice ad k cap).ownBlock ≠ some g := fun e => by have := HS.out.2.1 g e; have := hr.1; omega
      have hgw : g < wr.heap.size := Nat.lt_of_lt_of_le hr.1 HS.out.2.2.size
      have hrow : ∀ V, Kp (fun x => (Value.slice ad k cap).ownBlock = some x) wr V → V.rangeAt g (o + k * 35) (entC (nm, p, q, r)) := fun V hV j u hu => (hV.cell (p := ⟨g, _, none⟩) hgw hgO).trans (((hr.kp HS.out.2.2 (fun x => x)).2 k _ he).2 j u hu)
      have HLX : Hid (∀ V, Kp (fun x => (Value.slice ad k cap).ownBlock = some x) wr V → V.rangeAt g (o + k * 35) (b8 nm)) := fun V hV => rng_name (hrow V hV)
      have HLP : Hid (∀ V, Kp (fun x => (Value.slice ad k cap).ownBlock = some x) wr V → V.cell? ⟨g, o + k * 35 + 32, none⟩ = some (.int .i64 p) ∧ V.cell? ⟨g, o + k * 35 + 32 + 1, none⟩ = some (.int .i64 q) ∧ V.cell? ⟨g, o + k * 35 + 32 + 2, none⟩ = some (.int .i64 r)) := fun V hV => by
        have h := rng_place heo (hrow V hV)
        exact ⟨h 0 _ rfl, h 1 _ rfl, h 2 _ rfl⟩
      have HI1 : Hid ((Tryz.prog.info? 53).map (·.size) = some (b8 nm).length) := by rw [Hid, b8_length, hnm]; exact infH
      have HB1 := hid (built48b nm p q r hnm)
      have HB2 := hid (fun W => run_oneE nm p q r hnm W)
      have hkl : (d.take k).length = k := by rw [List.length_take, HN.out]; omega
      have HNX : Hid (d.take (k + 1) = d.take k ++ [(nm, p, q, r)]) := by rw [Hid, List.take_add_one, he]; rfl
      obtain ⟨C, hC⟩ : ∃ C, entC (nm, p, q, r) = C := ⟨_, rfl⟩
      have hRA : Sim.Row (wr.drew.alloc (.cells C.toArray 155)) 155 35 (.slice ad k cap) k (ents (d.take k)) := by
        have := HS.out.1
        rw [hkl] at this
        exact this.kept (((Kp.refl No wr).drew).alloc _)
      have hSC : Sim.Src (wr.drew.alloc (.cells C.toArray 155)) (.slice (some ⟨wr.heap.size, 0, none⟩) 1 1) 1 35 C := Sim.Src.one wr.drew C 35 155 (by rw [← hC]; exact entC_length heo) (by rw [← hC]; exact entC_one _)
      obtain ⟨ad2, cap2, w2, hap, hrow2, hgr2, hown2⟩ := app_run _ 81 (.slice ad k cap) (.slice (some ⟨wr.heap.size, 0, none⟩) 1 1) k 1 _ _ hRA hSC (by omega) (by omega)
      have hgr : wr.grownBy w2 (Value.slice ad k cap).ownBlock → True := fun _ => trivial
      have HKA : Hid (Kp (fun x => (Value.slice ad k cap).ownBlock = some x) wr (wr.drew.alloc (.cells C.toArray 155))) := ((Kp.refl _ wr).drew).alloc _
      have HK2 : Hid (Kp (fun x => (Value.slice ad k cap).ownBlock = some x) wr w2) := HKA.out.grown hgr2 (fun x hx => .inl hx)
      have HF : Hid (Mine w w2 (.slice ad2 (k + 1) cap2) (d.take (k + 1))) := by
        rw [HNX.out]
        refine ⟨?_, fun x hx => ?_, HS.out.2.2.trans HK2.out (fun x hx => .inr (HS.out.2.1 x hx))⟩
        · rw [List.length_append, hkl, ents_append]
          have : ents [(nm, p, q, r)] = C := by simp [ents, hC]
          rw [this]
          exact hrow2
        · rcases hown2 with e | e
          · exact HS.out.2.1 x (by rw [← e]; exact hx)
          · rw [e] at hx
            cases hx
            exact Nat.le_trans HS.out.2.2.size HKA.out.size
      have HAP := hid hap
      rw [hC] at HB1 HB2
      clear hC hRA hSC hap hrow2 hgr2 hown2 hkl hrow hr he heo hgO hgw hgr HNX HS
      generalize b8 nm = bx at *
      go_wp2_with fail
      refine wp_region_held_drew (S := fun V => Kp (fun x => (Value.slice ad k cap).ownBlock = some x) wr V) (by kernel_rfl) ((Kp.refl _ _).drew) (fun hHeld => ?_)
      refine wpAnyH_take (i := 0) (oi := ⟨some 11, .move (.tmp 3), 81, "law.go:19", #[], none⟩) (v := .slice ad k cap) rfl (by kernel_rfl) (by kernel_rfl) (by kernel_rfl) (fun _ _ _ h => h) (Or.inl ⟨by rfl, fun w' hw' => by (clear hw'; go_simp)⟩) hHeld ?_
      simp only [Act.put, sjA, sjB, sjC]
      refine wpAnyH_take (i := 1) (oi := ⟨some 12, .move (.tmp 0), 77, "law.go:19", #[], none⟩) (v := .slice (some ⟨g, o, none⟩) n c) rfl (by kernel_rfl) (by kernel_rfl) (by kernel_rfl) (fun _ _ _ h => h) (Or.inl ⟨by rfl, fun w' hw' => by (clear hw'; go_simp)⟩) hHeld ?_
      simp only [Act.put, sjA, sjB, sjC]
      refine wpAnyH_take (i := 2) (oi := ⟨some 13, .move (.tmp 4), 3, "law.go:19", #[], none⟩) (v := .int .i64 (k : Int)) rfl (by kernel_rfl) (by kernel_rfl) (by kernel_rfl) (fun _ _ _ h => h) (Or.inl ⟨by rfl, fun w' hw' => by (clear hw'; go_simp)⟩) hHeld ?_
      simp only [Act.put, sjA, sjB, sjC]
      refine wpAnyH_take (i := 3) (oi := ⟨some 14, .indexAddr 77 (.tmp 12) (.tmp 13), 0, "law.go:19", #[⟨1, .data⟩, ⟨2, .data⟩], none⟩) (v := .pointer (some ⟨g, o + k * 35, none⟩)) rfl (by kernel_rfl) (by kernel_rfl) (by kernel_rfl) (fun _ _ _ h => h) (Or.inl ⟨by rfl, fun w' hw' => by (clear hw'; go_simp)⟩) hHeld ?_
      simp only [Act.put, sjA, sjB, sjC]
      refine wpAnyH_take (i := 4) (oi := ⟨some 15, .fieldAddr 159 (.tmp 14) 0, 0, "law.go:19", #[⟨3, .data⟩], none⟩) (v := .pointer (some ⟨g, o + k * 35, none⟩)) rfl (by kernel_rfl) (by kernel_rfl) (by kernel_rfl) (fun _ _ _ h => h) (Or.inl ⟨by rfl, fun w' hw' => by (clear hw'; go_simp)⟩) hHeld ?_
      simp only [Act.put, sjA, sjB, sjC]
      refine wpAnyH_take (i := 5) (oi := ⟨some 16, .load 53 (.tmp 15), 53, "law.go:19", #[⟨4, .data⟩], none⟩) (v := .agg bx.toArray) rfl (by kernel_rfl) (by kernel_rfl) (by kernel_rfl) (fun _ _ _ h => h) (yieldsIf_load_mid (by rfl) _ _ rfl g (o + k * 35) rfl bx _ (HLX.out) Tryz.underlying53 rfl HI1.out) hHeld ?_
      simp only [Act.put, sjA, sjB, sjC]
      refine wpAnyH_take (i := 6) (oi := ⟨some 17, .move (.tmp 0), 77, "law.go:19", #[], none⟩) (v := .slice (some ⟨g, o, none⟩) n c) rfl (by kernel_rfl) (by kernel_rfl) (by kernel_rfl) (fun _ _ _ h => h) (Or.inl ⟨by rfl, fun w' hw' => by (clear hw'; go_simp)⟩) hHeld ?_
      simp only [Act.put, sjA, sjB, sjC]
      refine wpAnyH_take (i := 7) (oi := ⟨some 18, .move (.tmp 4), 3, "law.go:19", #[], none⟩) (v := .int .i64 (k : Int)) rfl (by kernel_rfl) (by kernel_rfl) (by kernel_rfl) (fun _ _ _ h => h) (Or.inl ⟨by rfl, fun w' hw' => by (clear hw'; go_simp)⟩) hHeld ?_
      simp only [Act.put, sjA, sjB, sjC]
      refine wpAnyH_take (i := 8) (oi := ⟨some 19, .indexAddr 77 (.tmp 17) (.tmp 18), 0, "law.go:19", #[⟨6, .data⟩, ⟨7, .data⟩], none⟩) (v := .pointer (some ⟨g, o + k * 35, none⟩)) rfl (by kernel_rfl) (by kernel_rfl) (by kernel_rfl) (fun _ _ _ h => h) (Or.inl ⟨by rfl, fun w' hw' => by (clear hw'; go_simp)⟩) hHeld ?_
      simp only [Act.put, sjA, sjB, sjC]
      refine wpAnyH_take (i := 9) (oi := ⟨some 20, .fieldAddr 159 (.tmp 19) 1, 0, "law.go:19", #[⟨8, .data⟩], none⟩) (v := .pointer (some ⟨g, o + k * 35 + 32, none⟩)) rfl (by kernel_rfl) (by kernel_rfl) (by kernel_rfl) (fun _ _ _ h => h) (Or.inl ⟨by rfl, fun w' hw' => by (clear hw'; go_simp)⟩) hHeld ?_
      simp only [Act.put, sjA, sjB, sjC]
      refine wpAnyH_take (i := 10) (oi := ⟨some 21, .fieldAddr 157 (.tmp 20) 0, 0, "law.go:19", #[⟨9, .data⟩], none⟩) (v := .pointer (some ⟨g, o + k * 35 + 32, none⟩)) rfl (by kernel_rfl) (by kernel_rfl) (by kernel_rfl) (fun _ _ _ h => h) (Or.inl ⟨by rfl, fun w' hw' => by (clear hw'; go_simp)⟩) hHeld ?_
      simp only [Act.put, sjA, sjB, sjC]
      refine wpAnyH_take (i := 11) (oi := ⟨some 22, .load 3 (.tmp 21), 3, "law.go:19", #[⟨10, .data⟩], none⟩) (v := .int .i64 p) rfl (by kernel_rfl) (by kernel_rfl) (by kernel_rfl) (fun _ _ _ h => h) (Or.inl ⟨by rfl, fun w' hw' => by (have q := (HLP.out _ hw').1; clear hw'; go_simp)⟩) hHeld ?_
      simp only [Act.put, sjA, sjB, sjC]
      refine wpAnyH_take (i := 12) (oi := ⟨some 23, .move (.tmp 0), 77, "law.go:19", #[], none⟩) (v := .slice (some ⟨g, o, none⟩) n c) rfl (by kernel_rfl) (by kernel_rfl) (by kernel_rfl) (fun _ _ _ h => h) (Or.inl ⟨by rfl, fun w' hw' => by (clear hw'; go_simp)⟩) hHeld ?_
      simp only [Act.put, sjA, sjB, sjC]
      refine wpAnyH_take (i := 13) (oi := ⟨some 24, .move (.tmp 4), 3, "law.go:19", #[], none⟩) (v := .int .i64 (k : Int)) rfl (by kernel_rfl) (by kernel_rfl) (by kernel_rfl) (fun _ _ _ h => h) (Or.inl ⟨by rfl, fun w' hw' => by (clear hw'; go_simp)⟩) hHeld ?_
      simp only [Act.put, sjA, sjB, sjC]
      refine wpAnyH_take (i := 14) (oi := ⟨some 25, .indexAddr 77 (.tmp 23) (.tmp 24), 0, "law.go:19", #[⟨12, .data⟩, ⟨13, .data⟩], none⟩) (v := .pointer (some ⟨g, o + k * 35, none⟩)) rfl (by kernel_rfl) (by kernel_rfl) (by kernel_rfl) (fun _ _ _ h => h) (Or.inl ⟨by rfl, fun w' hw' => by (clear hw'; go_simp)⟩) hHeld ?_
      simp only [Act.put, sjA, sjB, sjC]
      refine wpAnyH_take (i := 15) (oi := ⟨some 26, .fieldAddr 159 (.tmp 25) 1, 0, "law.go:19", #[⟨14, .data⟩], none⟩) (v := .pointer (some ⟨g, o + k * 35 + 32, none⟩)) rfl (by kernel_rfl) (by kernel_rfl) (by kernel_rfl) (fun _ _ _ h => h) (Or.inl ⟨by rfl, fun w' hw' => by (clear hw'; go_simp)⟩) hHeld ?_
      simp only [Act.put, sjA, sjB, sjC]
      refine wpAnyH_take (i := 16) (oi := ⟨some 27, .fieldAddr 157 (.tmp 26) 1, 0, "law.go:19", #[⟨15, .data⟩], none⟩) (v := .pointer (some ⟨g, o + k * 35 + 32 + 1, none⟩)) rfl (by kernel_rfl) (by kernel_rfl) (by kernel_rfl) (fun _ _ _ h => h) (Or.inl ⟨by rfl, fun w' hw' => by (clear hw'; go_simp)⟩) hHeld ?_
      simp only [Act.put, sjA, sjB, sjC]
      refine wpAnyH_take (i := 17) (oi := ⟨some 28, .load 3 (.tmp 27), 3, "law.go:19", #[⟨16, .data⟩], none⟩) (v := .int .i64 q) rfl (by kernel_rfl) (by kernel_rfl) (by kernel_rfl) (fun _ _ _ h => h) (Or.inl ⟨by rfl, fun w' hw' => by (have q := (HLP.out _ hw').2.1; clear hw'; go_simp)⟩) hHeld ?_
      simp only [Act.put, sjA, sjB, sjC]
      refine wpAnyH_take (i := 18) (oi := ⟨some 29, .move (.tmp 0), 77, "law.go:19", #[], none⟩) (v := .slice (some ⟨g, o, none⟩) n c) rfl (by kernel_rfl) (by kernel_rfl) (by kernel_rfl) (fun _ _ _ h => h) (Or.inl ⟨by rfl, fun w' hw' => by (clear hw'; go_simp)⟩) hHeld ?_
      simp only [Act.put, sjA, sjB, sjC]
      refine wpAnyH_take (i := 19) (oi := ⟨some 30, .move (.tmp 4), 3, "law.go:19", #[], none⟩) (v := .int .i64 (k : Int)) rfl (by kernel_rfl) (by kernel_rfl) (by kernel_rfl) (fun _ _ _ h => h) (Or.inl ⟨by rfl, fun w' hw' => by (clear hw'; go_simp)⟩) hHeld ?_
      simp only [Act.put, sjA, sjB, sjC]
      refine wpAnyH_take (i := 20) (oi := ⟨some 31, .indexAddr 77 (.tmp 29) (.tmp 30), 0, "law.go:19", #[⟨18, .data⟩, ⟨19, .data⟩], none⟩) (v := .pointer (some ⟨g, o + k * 35, none⟩)) rfl (by kernel_rfl) (by kernel_rfl) (by kernel_rfl) (fun _ _ _ h => h) (Or.inl ⟨by rfl, fun w' hw' => by (clear hw'; go_simp)⟩) hHeld ?_
      simp only [Act.put, sjA, sjB, sjC]
      refine wpAnyH_take (i := 21) (oi := ⟨some 32, .fieldAddr 159 (.tmp 31) 1, 0, "law.go:19", #[⟨20, .data⟩], none⟩) (v := .pointer (some ⟨g, o + k * 35 + 32, none⟩)) rfl (by kernel_rfl) (by kernel_rfl) (by kernel_rfl) (fun _ _ _ h => h) (Or.inl ⟨by rfl, fun w' hw' => by (clear hw'; go_simp)⟩) hHeld ?_
      simp only [Act.put, sjA, sjB, sjC]
      refine wpAnyH_take (i := 22) (oi := ⟨some 33, .fieldAddr 157 (.tmp 32) 2, 0, "law.go:19", #[⟨21, .data⟩], none⟩) (v := .pointer (some ⟨g, o + k * 35 + 32 + 2, none⟩)) rfl (by kernel_rfl) (by kernel_rfl) (by kernel_rfl) (fun _ _ _ h => h) (Or.inl ⟨by rfl, fun w' hw' => by (clear hw'; go_simp)⟩) hHeld ?_
      simp only [Act.put, sjA, sjB, sjC]
      refine wpAnyH_take (i := 23) (oi := ⟨some 34, .load 3 (.tmp 33), 3, "law.go:19", #[⟨22, .data⟩], none⟩) (v := .int .i64 r) rfl (by kernel_rfl) (by kernel_rfl) (by kernel_rfl) (fun _ _ _ h => h) (Or.inl ⟨by rfl, fun w' hw' => by (have q := (HLP.out _ hw').2.2; clear hw'; go_simp)⟩) hHeld ?_
      simp only [Act.put, sjA, sjB, sjC]
      refine wpAnyH_take (i := 24) (oi := ⟨some 35, .build 51 #[(0, .tmp 22), (1, .tmp 28), (2, .tmp 34)], 51, "law.go:19", #[⟨11, .data⟩, ⟨17, .data⟩, ⟨23, .data⟩], none⟩) (v := .agg #[.int .i64 p, .int .i64 q, .int .i64 r]) rfl (by kernel_rfl) (by kernel_rfl) (by kernel_rfl) (fun _ _ _ h => h) (Or.inl ⟨by rfl, fun w' hw' => by (clear hw'; go_simp)⟩) hHeld ?_
      simp only [Act.put, sjA, sjB, sjC]
      refine wpAnyH_take (i := 25) (oi := ⟨some 36, .build 155 #[(0, .tmp 16), (1, .tmp 35)], 155, "law.go:19", #[⟨5, .data⟩, ⟨24, .data⟩], none⟩) (v := .agg C.toArray) rfl (by kernel_rfl) (by kernel_rfl) (by kernel_rfl) (fun _ _ _ h => h) (yields_two (by rfl) 155 0 1 (.tmp 16) (.tmp 35) rfl (.agg bx.toArray) (.agg #[.int .i64 p, .int .i64 q, .int .i64 r]) rfl rfl _ HB1.out) hHeld ?_
      simp only [Act.put, sjA, sjB, sjC]
      refine wpAnyH_ready (rs := [26]) (by kernel_rfl) (by simp) ?_
      refine AllReadyH.cons (o := ⟨some 37, .buildSlice 81 1 #[(0, .tmp 36)], 81, "law.go:19", #[⟨25, .data⟩], none⟩) rfl (fun K hK => ?_) AllReadyH.nil
      rw [if_pos (by rfl)]
      refine wp_valE (exec_sliceE 81 _ rfl (.agg C.toArray) _ rfl (HB2.out _)) ?_
      refine hK.out _ _ HKA.out (fun hh => ?_)
      clear hK K hHeld
      have hHeld := hh
      clear hh
      try simp only [Act.put, sjA, sjB, sjC]
      refine wpAnyH_ready (rs := [27]) (by kernel_rfl) (by simp) ?_
      refine AllReadyH.cons (o := ⟨some 38, .call { callee := Callee.builtin Builtin.append, args := #[.tmp 11, .tmp 37], argTypes := #[81, 81] }, 81, "law.go:19", #[⟨0, .data⟩, ⟨26, .data⟩], none⟩) rfl (fun K hK => ?_) AllReadyH.nil
      rw [if_pos (by rfl)]
      refine wp_valE (exec_appE _ _ 81 rfl (.slice ad k cap) (.slice (some ⟨wr.heap.size, 0, none⟩) 1 1) _ rfl rfl HAP.out) ?_
      refine hK.out _ _ HK2.out (fun hh => ?_)
      clear hK K hHeld
      have hHeld := hh
      clear hh
      try simp only [Act.put, sjA, sjB, sjC]
      refine wpAnyH_take (i := 28) (oi := ⟨some 3, .assign (.tmp 38), 81, "law.go:19", #[⟨27, .data⟩, ⟨27, .chain⟩, ⟨0, .phase⟩, ⟨1, .phase⟩, ⟨2, .phase⟩, ⟨3, .phase⟩, ⟨4, .phase⟩, ⟨5, .phase⟩, ⟨6, .phase⟩, ⟨7, .phase⟩, ⟨8, .phase⟩, ⟨9, .phase⟩, ⟨10, .phase⟩, ⟨11, .phase⟩, ⟨12, .phase⟩, ⟨13, .phase⟩, ⟨14, .phase⟩, ⟨15, .phase⟩, ⟨16, .phase⟩, ⟨17, .phase⟩, ⟨18, .phase⟩, ⟨19, .phase⟩, ⟨20, .phase⟩, ⟨21, .phase⟩, ⟨22, .phase⟩, ⟨23, .phase⟩, ⟨24, .phase⟩, ⟨25, .phase⟩, ⟨26, .phase⟩, ⟨27, .phase⟩], none⟩) (v := .slice ad2 (k + 1) cap2) rfl (by kernel_rfl) (by kernel_rfl) (by kernel_rfl) (fun _ _ _ h => h) (Or.inl ⟨by rfl, fun w' hw' => by (clear hw'; go_simp)⟩) hHeld ?_
      simp only [Act.put, sjA, sjB, sjC]
      refine wpAnyH_done (by kernel_rfl) ?_ _
      clear hHeld
      go_wp2_with fail
      go_round
      case rel => exact ⟨k + 1, ad2, cap2, rfl, by first | rfl | go_num, by omega, HF.out⟩
      case measure => simp [intOf]; omega
    · have hltI : ¬ (k : Int) < (n : Int) := by omega
      have hkn' : k = n := by omega
      have HF : Hid (Mine w wr (.slice ad k cap) d) := by
        have := HS.out
        rw [hkn', ← HN.out, List.take_length] at this
        rw [Hid, hkn', ← HN.out]
        exact this
      clear hkn'
      go_wp2_with fail
      go_ret
      exact ⟨_, rfl, HF.out⟩
end Go.Proofs.YthmimipoooemjaaGreatDoor.Sg
end
