/- Of the proof: the texts SgSwap, SgRot, SgCmp, one behind the other. -/
import Derived.Test.YthmimipoooemjaaGreatDoorB6
import Derived.Lib.BytesEntry
import Derived.Deep.RegionWith
section
/-
  Ranges of entries that are swapped, and turned about.
-/
namespace Go.Proofs.YthmimipoooemjaaGreatDoor.Sg
open Go.RowKit
open Sim (hid Kp No)

def zEnt : Ent := ([], 0, 0, 0)
def swap2 (d : List Ent) (i j : Nat) : List Ent := (d.set i (d.getD j zEnt)).set j (d.getD i zEnt)
def swapN (d : List Ent) (a b : Nat) : Nat → List Ent
  | 0 => d
  | n + 1 => swap2 (swapN d a b n) (a + n) (b + n)
theorem swap2_length (d : List Ent) (i j : Nat) : (swap2 d i j).length = d.length := by simp [swap2]
theorem swapN_length (d : List Ent) (a b : Nat) : ∀ n, (swapN d a b n).length = d.length
  | 0 => rfl
  | n + 1 => by rw [swapN, swap2_length, swapN_length d a b n]
/-- Two are swapped: what is read, what is written, what stands there then. -/
theorem swap2_at {w wr : World} {g o : Nat} {d : List Ent} {i j : Nat} {x y : Ent} (h : At w g o d wr) (hx : d[i]? = some x) (hy : d[j]? = some y) :
    EOk x ∧ EOk y ∧ (∀ V, Kp No wr V → V.rangeAt g (o + i * 35) (entC x)) ∧ (∀ V, Kp No wr V → V.rangeAt g (o + j * 35) (entC y)) ∧ wr.drew.there g (o + i * 35) (entC y).toArray.size ∧
      (wr.drew.setCells g (o + i * 35) (entC y)).there g (o + j * 35) (entC x).toArray.size ∧ At w g o (swap2 d i j) ((wr.drew.setCells g (o + i * 35) (entC y)).setCells g (o + j * 35) (entC x)) := by
  have hi : i < d.length := (List.getElem?_eq_some_iff.1 hx).1
  have hj : j < d.length := (List.getElem?_eq_some_iff.1 hy).1
  obtain ⟨ox, _⟩ := h.range hx
  obtain ⟨oy, _⟩ := h.range hy
  have hd := h.drew
  have h1 := hd.set hi oy
  have h2 := h1.set (i := j) (by simpa using hj) ox
  refine ⟨ox, oy, fun V hV => ((h.kept hV).range hx).2, fun V hV => ((h.kept hV).range hy).2, hd.2.there hi oy, h1.2.there (by simpa using hj) ox, ?_⟩
  have e : swap2 d i j = (d.set i y).set j x := by rw [swap2, List.getD_eq_getElem?_getD, hy, List.getD_eq_getElem?_getD, hx]; rfl
  rw [e]
  exact h2

set_option maxHeartbeats 2000000 in
set_option maxRecDepth 100000 in
theorem swapR_any (w : World) (g o : Nat) (d : List Ent) (cap a b n : Nat) (cv : Value) (h : EOwn w g o d) (ha : a + n ≤ d.length) (hb : b + n ≤ d.length) (hab : a + n ≤ b) (hl : d.length ≤ 1000000) :
    Calls Tryz.prog 261 #[.slice (some ⟨g, o, none⟩) d.length cap, .int .i64 (a : Int), .int .i64 (b : Int), .int .i64 (n : Int), cv] w fun e w' => e = .returned (.tuple #[]) ∧ At w g o (swapN d a b n) w' := by
  have H0 := hid (At.start h)
  have HOK := hid h.1.ok
  have HG := hid h.1.1
  clear h
  obtain ⟨N, hN⟩ : ∃ N, d.length = N := ⟨_, rfl⟩
  have HN := hid hN
  rw [hN] at ha hb hl ⊢
  clear hN
  go_enter Tryz.func261, Tryz.ntmps261
  go_wp2_with fail
  go_loopw [10] (fun i wr => ∃ k : Nat, i = .int .i64 (k : Int) ∧ k ≤ n ∧ Hid (At w g o (swapN d a b k) wr)) (fun i _ => n - (intOf i).toNat)
  case atStart => exact ⟨0, rfl, Nat.zero_le _, H0.out⟩
  case round =>
    obtain ⟨k, rfl, hk, HA⟩ := hrel
    by_cases hlt : k < n
    · have hltI : (k : Int) < (n : Int) := by omega
      obtain ⟨i, hi⟩ : ∃ i, a + k = i := ⟨_, rfl⟩
      obtain ⟨j, hj⟩ : ∃ j, b + k = j := ⟨_, rfl⟩
      have hwi : IntKind.i64.wrap ((a : Int) + (k : Int)) = (i : Int) := by rw [IntKind.wrap_i64]; omega
      have hwj : IntKind.i64.wrap ((b : Int) + (k : Int)) = (j : Int) := by rw [IntKind.wrap_i64]; omega
      have hiN : i < N := by omega
      have hjN : j < N := by omega
      have hij : i < j := by omega
      have hiI : (i : Int) < (N : Int) := by omega
      have hjI : (j : Int) < (N : Int) := by omega
      obtain ⟨D, hD⟩ : ∃ D, swapN d a b k = D := ⟨_, rfl⟩
      have hDl : D.length = N := by rw [← hD, swapN_length, HN.out]
      have HS : Hid (swapN d a b (k + 1) = swap2 D i j) := by rw [Hid, swapN, hD, hi, hj]
      rw [hD] at HA
      obtain ⟨ex, hx⟩ : ∃ ex, D[i]? = some ex := ⟨_, List.getElem?_eq_getElem (by omega)⟩
      obtain ⟨ey, hy⟩ : ∃ ey, D[j]? = some ey := ⟨_, List.getElem?_eq_getElem (by omega)⟩
      have HRW := hid (swap2_at HA.out hx hy)
      obtain ⟨hox, hoy, hrx, hry, ht1, ht2, hfin⟩ := HRW.out
      rw [← HS.out] at hfin
      have HFIN := hid hfin
      have HT1 := hid ht1
      have HT2 := hid ht2
      have HIx := hid (inf hox)
      have HIy := hid (inf hoy)
      have HAx := hid (infA hox)
      have HAy := hid (infA hoy)
      have HOx := hid (all_oneCell_toArray (entC_one ex))
      have HOy := hid (all_oneCell_toArray (entC_one ey))
      have Hx := hid hrx
      have Hy := hid hry
      generalize entC ex = x at *
      generalize entC ey = y at *
      clear hi hj hiN hjN hij hD hDl hx hy hox hoy hrx hry ht1 ht2 hfin HRW HS HA
      go_wp2_with fail
      refine wp_region_held_drew (S := fun _ => True) (by kernel_rfl) trivial (fun hHeld => ?_)
      refine wpAnyH_take (i := 0) (oi := { dst := some 16, op := Op.move (Operand.tmp 0), type := 81, pos := "zsortanyfunc.go:331", after := #[], guard := none }) (v := .slice (some ⟨g, o, none⟩) N cap) rfl (by kernel_rfl) (by kernel_rfl) (by kernel_rfl) (fun _ _ _ h => h) (Or.inl ⟨by rfl, fun w' hw' => by (clear hw'; go_simp)⟩) hHeld ?_
      simp only [Act.put, List.setIfInBounds_toArray, List.set_cons_zero, List.set_cons_succ]
      refine wpAnyH_take (i := 1) (oi := { dst := some 17, op := Op.move (Operand.tmp 1), type := 3, pos := "zsortanyfunc.go:331", after := #[], guard := none }) (v := .int .i64 (a : Int)) rfl (by kernel_rfl) (by kernel_rfl) (by kernel_rfl) (fun _ _ _ h => h) (Or.inl ⟨by rfl, fun w' hw' => by (clear hw'; go_simp)⟩) hHeld ?_
      simp only [Act.put, List.setIfInBounds_toArray, List.set_cons_zero, List.set_cons_succ]
      refine wpAnyH_take (i := 2) (oi := { dst := some 18, op := Op.move (Operand.tmp 10), type := 3, pos := "zsortanyfunc.go:331", after := #[], guard := none }) (v := .int .i64 (k : Int)) rfl (by kernel_rfl) (by kernel_rfl) (by kernel_rfl) (fun _ _ _ h => h) (Or.inl ⟨by rfl, fun w' hw' => by (clear hw'; go_simp)⟩) hHeld ?_
      simp only [Act.put, List.setIfInBounds_toArray, List.set_cons_zero, List.set_cons_succ]
      refine wpAnyH_take (i := 3) (oi := { dst := some 19, op := Op.binOp BinOp.add 3 (Operand.tmp 17) (Operand.tmp 18) 3, type := 3, pos := "zsortanyfunc.go:331", after := #[{ on := 1, ground := Ground.data }, { on := 2, ground := Ground.data }], guard := none }) (v := .int .i64 (i : Int)) rfl (by kernel_rfl) (by kernel_rfl) (by kernel_rfl) (fun _ _ _ h => h) (Or.inl ⟨by rfl, fun w' hw' => by (clear hw'; go_simp)⟩) hHeld ?_
      simp only [Act.put, List.setIfInBounds_toArray, List.set_cons_zero, List.set_cons_succ]
      refine wpAnyH_take (i := 4) (oi := { dst := some 20, op := Op.move (Operand.tmp 0), type := 81, pos := "zsortanyfunc.go:331", after := #[{ on := 21, ground := Ground.gcOnly Departure.lateStores }], guard := none }) (v := .slice (some ⟨g, o, none⟩) N cap) rfl (by kernel_rfl) (by kernel_rfl) (by kernel_rfl) (fun _ _ _ h => h) (Or.inl ⟨by rfl, fun w' hw' => by (clear hw'; go_simp)⟩) hHeld ?_
      simp only [Act.put, List.setIfInBounds_toArray, List.set_cons_zero, List.set_cons_succ]
      refine wpAnyH_take (i := 5) (oi := { dst := some 21, op := Op.move (Operand.tmp 2), type := 3, pos := "zsortanyfunc.go:331", after := #[{ on := 21, ground := Ground.gcOnly Departure.lateStores }], guard := none }) (v := .int .i64 (b : Int)) rfl (by kernel_rfl) (by kernel_rfl) (by kernel_rfl) (fun _ _ _ h => h) (Or.inl ⟨by rfl, fun w' hw' => by (clear hw'; go_simp)⟩) hHeld ?_
      simp only [Act.put, List.setIfInBounds_toArray, List.set_cons_zero, List.set_cons_succ]
      refine wpAnyH_take (i := 6) (oi := { dst := some 22, op := Op.move (Operand.tmp 10), type := 3, pos := "zsortanyfunc.go:331", after := #[{ on := 21, ground := Ground.gcOnly Departure.lateStores }], guard := none }) (v := .int .i64 (k : Int)) rfl (by kernel_rfl) (by kernel_rfl) (by kernel_rfl) (fun _ _ _ h => h) (Or.inl ⟨by rfl, fun w' hw' => by (clear hw'; go_simp)⟩) hHeld ?_
      simp only [Act.put, List.setIfInBounds_toArray, List.set_cons_zero, List.set_cons_succ]
      refine wpAnyH_take (i := 7) (oi := { dst := some 23, op := Op.binOp BinOp.add 3 (Operand.tmp 21) (Operand.tmp 22) 3, type := 3, pos := "zsortanyfunc.go:331", after := #[{ on := 5, ground := Ground.data }, { on := 6, ground := Ground.data }, { on := 21, ground := Ground.gcOnly Departure.lateStores }], guard := none }) (v := .int .i64 (j : Int)) rfl (by kernel_rfl) (by kernel_rfl) (by kernel_rfl) (fun _ _ _ h => h) (Or.inl ⟨by rfl, fun w' hw' => by (clear hw'; go_simp)⟩) hHeld ?_
      simp only [Act.put, List.setIfInBounds_toArray, List.set_cons_zero, List.set_cons_succ]
      refine wpAnyH_take (i := 8) (oi := { dst := some 24, op := Op.move (Operand.tmp 0), type := 81, pos := "zsortanyfunc.go:331", after := #[], guard := none }) (v := .slice (some ⟨g, o, none⟩) N cap) rfl (by kernel_rfl) (by kernel_rfl) (by kernel_rfl) (fun _ _ _ h => h) (Or.inl ⟨by rfl, fun w' hw' => by (clear hw'; go_simp)⟩) hHeld ?_
      simp only [Act.put, List.setIfInBounds_toArray, List.set_cons_zero, List.set_cons_succ]
      refine wpAnyH_take (i := 9) (oi := { dst := some 25, op := Op.move (Operand.tmp 2), type := 3, pos := "zsortanyfunc.go:331", after := #[], guard := none }) (v := .int .i64 (b : Int)) rfl (by kernel_rfl) (by kernel_rfl) (by kernel_rfl) (fun _ _ _ h => h) (Or.inl ⟨by rfl, fun w' hw' => by (clear hw'; go_simp)⟩) hHeld ?_
      simp only [Act.put, List.setIfInBounds_toArray, List.set_cons_zero, List.set_cons_succ]
      refine wpAnyH_take (i := 10) (oi := { dst := some 26, op := Op.move (Operand.tmp 10), type := 3, pos := "zsortanyfunc.go:331", after := #[], guard := none }) (v := .int .i64 (k : Int)) rfl (by kernel_rfl) (by kernel_rfl) (by kernel_rfl) (fun _ _ _ h => h) (Or.inl ⟨by rfl, fun w' hw' => by (clear hw'; go_simp)⟩) hHeld ?_
      simp only [Act.put, List.setIfInBounds_toArray, List.set_cons_zero, List.set_cons_succ]
      refine wpAnyH_take (i := 11) (oi := { dst := some 27, op := Op.binOp BinOp.add 3 (Operand.tmp 25) (Operand.tmp 26) 3, type := 3, pos := "zsortanyfunc.go:331", after := #[{ on := 9, ground := Ground.data }, { on := 10, ground := Ground.data }], guard := none }) (v := .int .i64 (j : Int)) rfl (by kernel_rfl) (by kernel_rfl) (by kernel_rfl) (fun _ _ _ h => h) (Or.inl ⟨by rfl, fun w' hw' => by (clear hw'; go_simp)⟩) hHeld ?_
      simp only [Act.put, List.setIfInBounds_toArray, List.set_cons_zero, List.set_cons_succ]
      refine wpAnyH_take (i := 12) (oi := { dst := some 28, op := Op.indexAddr 81 (Operand.tmp 24) (Operand.tmp 27), type := 0, pos := "zsortanyfunc.go:331", after := #[{ on := 8, ground := Ground.data }, { on := 11, ground := Ground.data }], guard := none }) (v := .pointer (some ⟨g, o + j * 35, none⟩)) rfl (by kernel_rfl) (by kernel_rfl) (by kernel_rfl) (fun _ _ _ h => h) (Or.inl ⟨by rfl, fun w' hw' => by (clear hw'; go_simp)⟩) hHeld ?_
      simp only [Act.put, List.setIfInBounds_toArray, List.set_cons_zero, List.set_cons_succ]
      refine wpAnyH_take (i := 14) (oi := { dst := some 30, op := Op.move (Operand.tmp 0), type := 81, pos := "zsortanyfunc.go:331", after := #[], guard := none }) (v := .slice (some ⟨g, o, none⟩) N cap) rfl (by kernel_rfl) (by kernel_rfl) (by kernel_rfl) (fun _ _ _ h => h) (Or.inl ⟨by rfl, fun w' hw' => by (clear hw'; go_simp)⟩) hHeld ?_
      simp only [Act.put, List.setIfInBounds_toArray, List.set_cons_zero, List.set_cons_succ]
      refine wpAnyH_take (i := 15) (oi := { dst := some 31, op := Op.move (Operand.tmp 1), type := 3, pos := "zsortanyfunc.go:331", after := #[], guard := none }) (v := .int .i64 (a : Int)) rfl (by kernel_rfl) (by kernel_rfl) (by kernel_rfl) (fun _ _ _ h => h) (Or.inl ⟨by rfl, fun w' hw' => by (clear hw'; go_simp)⟩) hHeld ?_
      simp only [Act.put, List.setIfInBounds_toArray, List.set_cons_zero, List.set_cons_succ]
      refine wpAnyH_take (i := 16) (oi := { dst := some 32, op := Op.move (Operand.tmp 10), type := 3, pos := "zsortanyfunc.go:331", after := #[], guard := none }) (v := .int .i64 (k : Int)) rfl (by kernel_rfl) (by kernel_rfl) (by kernel_rfl) (fun _ _ _ h => h) (Or.inl ⟨by rfl, fun w' hw' => by (clear hw'; go_simp)⟩) hHeld ?_
      simp only [Act.put, List.setIfInBounds_toArray, List.set_cons_zero, List.set_cons_succ]
      refine wpAnyH_take (i := 17) (oi := { dst := some 33, op := Op.binOp BinOp.add 3 (Operand.tmp 31) (Operand.tmp 32) 3, type := 3, pos := "zsortanyfunc.go:331", after := #[{ on := 15, ground := Ground.data }, { on := 16, ground := Ground.data }], guard := none }) (v := .int .i64 (i : Int)) rfl (by kernel_rfl) (by kernel_rfl) (by kernel_rfl) (fun _ _ _ h => h) (Or.inl ⟨by rfl, fun w' hw' => by (clear hw'; go_simp)⟩) hHeld ?_
      simp only [Act.put, List.setIfInBounds_toArray, List.set_cons_zero, List.set_cons_succ]
      refine wpAnyH_take (i := 18) (oi := { dst := some 34, op := Op.indexAddr 81 (Operand.tmp 30) (Operand.tmp 33), type := 0, pos := "zsortanyfunc.go:331", after := #[{ on := 14, ground := Ground.data }, { on := 17, ground := Ground.data }], guard := none }) (v := .pointer (some ⟨g, o + i * 35, none⟩)) rfl (by kernel_rfl) (by kernel_rfl) (by kernel_rfl) (fun _ _ _ h => h) (Or.inl ⟨by rfl, fun w' hw' => by (clear hw'; go_simp)⟩) hHeld ?_
      simp only [Act.put, List.setIfInBounds_toArray, List.set_cons_zero, List.set_cons_succ]
      refine wpAnyH_ready (rs := [13, 19]) (by kernel_rfl) (by simp) ?_
      refine AllReadyH.cons (o := { dst := some 29, op := Op.load 155 (Operand.tmp 28), type := 155, pos := "zsortanyfunc.go:331", after := #[{ on := 12, ground := Ground.data }], guard := none }) rfl (fun K hK => ?_) (AllReadyH.cons (o := { dst := some 35, op := Op.load 155 (Operand.tmp 34), type := 155, pos := "zsortanyfunc.go:331", after := #[{ on := 18, ground := Ground.data }], guard := none }) rfl (fun K hK => ?_) AllReadyH.nil)
      · rw [if_pos (by rfl)]
        refine wp_load_mid 155 _ (by rfl) g (o + j * 35) (by rfl) y _ (Hy.out _ ((Kp.refl No _).drew)) Tryz.underlying155 rfl HIy.out ?_
        refine hK.out _ _ trivial (fun hh => ?_)
        clear hK K hHeld
        have hHeld := hh
        clear hh
        try simp only [Act.put, List.setIfInBounds_toArray, List.set_cons_zero, List.set_cons_succ]
        refine wpAnyH_ready (rs := [19]) (by kernel_rfl) (by simp) ?_
        refine AllReadyH.cons (o := { dst := some 35, op := Op.load 155 (Operand.tmp 34), type := 155, pos := "zsortanyfunc.go:331", after := #[{ on := 18, ground := Ground.data }], guard := none }) rfl (fun K hK => ?_) AllReadyH.nil
        rw [if_pos (by rfl)]
        refine wp_load_mid 155 _ (by rfl) g (o + i * 35) (by rfl) x _ (Hx.out _ ((Kp.refl No _).drew)) Tryz.underlying155 rfl HIx.out ?_
        refine hK.out _ _ trivial (fun hh => ?_)
        clear hK K hHeld
        have hHeld := hh
        clear hh
        try simp only [Act.put, List.setIfInBounds_toArray, List.set_cons_zero, List.set_cons_succ]
        refine wpAnyH_take (i := 20) (oi := { dst := some 36, op := Op.indexAddr 81 (Operand.tmp 16) (Operand.tmp 19), type := 0, pos := "zsortanyfunc.go:331", after := #[{ on := 0, ground := Ground.data }, { on := 3, ground := Ground.data }, { on := 0, ground := Ground.phase }, { on := 1, ground := Ground.phase }, { on := 2, ground := Ground.phase }, { on := 3, ground := Ground.phase }, { on := 4, ground := Ground.textOnly Departure.lateStores }, { on := 5, ground := Ground.textOnly Departure.lateStores }, { on := 6, ground := Ground.textOnly Departure.lateStores }, { on := 7, ground := Ground.textOnly Departure.lateStores }, { on := 8, ground := Ground.phase }, { on := 9, ground := Ground.phase }, { on := 10, ground := Ground.phase }, { on := 11, ground := Ground.phase }, { on := 12, ground := Ground.phase }, { on := 13, ground := Ground.phase }, { on := 14, ground := Ground.textOnly Departure.lateStores }, { on := 15, ground := Ground.textOnly Departure.lateStores }, { on := 16, ground := Ground.textOnly Departure.lateStores }, { on := 17, ground := Ground.textOnly Departure.lateStores }, { on := 18, ground := Ground.textOnly Departure.lateStoresUnsure }, { on := 19, ground := Ground.phase }], guard := none }) (v := .pointer (some ⟨g, o + i * 35, none⟩)) rfl (by kernel_rfl) (by kernel_rfl) (by kernel_rfl) (fun _ _ _ h => h) (Or.inl ⟨by rfl, fun w' hw' => by (clear hw'; go_simp)⟩) hHeld ?_
        simp only [Act.put, List.setIfInBounds_toArray, List.set_cons_zero, List.set_cons_succ]
        refine wpAnyH_ready (rs := [21]) (by kernel_rfl) (by simp) ?_
        refine AllReadyH.cons (o := { dst := none, op := Op.store 155 (Operand.tmp 36) (Operand.tmp 29), type := 0, pos := "zsortanyfunc.go:331", after := #[{ on := 20, ground := Ground.data }, { on := 13, ground := Ground.data }, { on := 0, ground := Ground.phase }, { on := 1, ground := Ground.phase }, { on := 2, ground := Ground.phase }, { on := 3, ground := Ground.phase }, { on := 4, ground := Ground.textOnly Departure.lateStores }, { on := 5, ground := Ground.textOnly Departure.lateStores }, { on := 6, ground := Ground.textOnly Departure.lateStores }, { on := 7, ground := Ground.textOnly Departure.lateStores }, { on := 8, ground := Ground.phase }, { on := 9, ground := Ground.phase }, { on := 10, ground := Ground.phase }, { on := 11, ground := Ground.phase }, { on := 12, ground := Ground.phase }, { on := 13, ground := Ground.phase }, { on := 14, ground := Ground.textOnly Departure.lateStores }, { on := 15, ground := Ground.textOnly Departure.lateStores }, { on := 16, ground := Ground.textOnly Departure.lateStores }, { on := 17, ground := Ground.textOnly Departure.lateStores }, { on := 18, ground := Ground.textOnly Departure.lateStoresUnsure }, { on := 19, ground := Ground.phase }], guard := none }) rfl (fun K hK => ?_) AllReadyH.nil
        rw [if_pos (by rfl)]
        refine wp_store_mid 155 _ _ (by rfl) g (o + i * 35) y.toArray (by rfl) (by rfl) HT1.out HAy.out HOy.out ?_
        refine hK.out _ _ trivial (fun hh => ?_)
        clear hK K hHeld
        have hHeld := hh
        clear hh
        simp only [Act.put]
        refine wpAnyH_take (i := 22) (oi := { dst := some 37, op := Op.indexAddr 81 (Operand.tmp 20) (Operand.tmp 23), type := 0, pos := "zsortanyfunc.go:331", after := #[{ on := 4, ground := Ground.data }, { on := 7, ground := Ground.data }, { on := 0, ground := Ground.phase }, { on := 1, ground := Ground.phase }, { on := 2, ground := Ground.phase }, { on := 3, ground := Ground.phase }, { on := 4, ground := Ground.phase }, { on := 5, ground := Ground.phase }, { on := 6, ground := Ground.phase }, { on := 7, ground := Ground.phase }, { on := 8, ground := Ground.phase }, { on := 9, ground := Ground.phase }, { on := 10, ground := Ground.phase }, { on := 11, ground := Ground.phase }, { on := 12, ground := Ground.phase }, { on := 13, ground := Ground.phase }, { on := 14, ground := Ground.phase }, { on := 15, ground := Ground.phase }, { on := 16, ground := Ground.phase }, { on := 17, ground := Ground.phase }, { on := 18, ground := Ground.phase }, { on := 19, ground := Ground.phase }, { on := 20, ground := Ground.phase }, { on := 21, ground := Ground.phase }], guard := none }) (v := .pointer (some ⟨g, o + j * 35, none⟩)) rfl (by kernel_rfl) (by kernel_rfl) (by kernel_rfl) (fun _ _ _ h => h) (Or.inl ⟨by rfl, fun w' hw' => by (clear hw'; go_simp)⟩) hHeld ?_
        simp only [Act.put, List.setIfInBounds_toArray, List.set_cons_zero, List.set_cons_succ]
        refine wpAnyH_ready (rs := [23]) (by kernel_rfl) (by simp) ?_
        refine AllReadyH.cons (o := { dst := none, op := Op.store 155 (Operand.tmp 37) (Operand.tmp 35), type := 0, pos := "zsortanyfunc.go:331", after := #[{ on := 22, ground := Ground.data }, { on := 19, ground := Ground.data }, { on := 21, ground := Ground.chain }, { on := 0, ground := Ground.phase }, { on := 1, ground := Ground.phase }, { on := 2, ground := Ground.phase }, { on := 3, ground := Ground.phase }, { on := 4, ground := Ground.phase }, { on := 5, ground := Ground.phase }, { on := 6, ground := Ground.phase }, { on := 7, ground := Ground.phase }, { on := 8, ground := Ground.phase }, { on := 9, ground := Ground.phase }, { on := 10, ground := Ground.phase }, { on := 11, ground := Ground.phase }, { on := 12, ground := Ground.phase }, { on := 13, ground := Ground.phase }, { on := 14, ground := Ground.phase }, { on := 15, ground := Ground.phase }, { on := 16, ground := Ground.phase }, { on := 17, ground := Ground.phase }, { on := 18, ground := Ground.phase }, { on := 19, ground := Ground.phase }, { on := 20, ground := Ground.phase }, { on := 21, ground := Ground.phase }], guard := none }) rfl (fun K hK => ?_) AllReadyH.nil
        rw [if_pos (by rfl)]
        refine wp_store_mid 155 _ _ (by rfl) g (o + j * 35) x.toArray (by rfl) (by rfl) HT2.out HAx.out HOx.out ?_
        refine hK.out _ _ trivial (fun hh => ?_)
        clear hK K hHeld
        have hHeld := hh
        clear hh
        simp only [Act.put]
        refine wpAnyH_done (by kernel_rfl) ?_ _
        go_wp2_with fail
        go_round
        case rel => exact ⟨k + 1, by go_num, by omega, HFIN.out⟩
        case measure => simp [intOf]; omega
      · rw [if_pos (by rfl)]
        refine wp_load_mid 155 _ (by rfl) g (o + i * 35) (by rfl) x _ (Hx.out _ ((Kp.refl No _).drew)) Tryz.underlying155 rfl HIx.out ?_
        refine hK.out _ _ trivial (fun hh => ?_)
        clear hK K hHeld
        have hHeld := hh
        clear hh
        try simp only [Act.put, List.setIfInBounds_toArray, List.set_cons_zero, List.set_cons_succ]
        refine wpAnyH_ready (rs := [13]) (by kernel_rfl) (by simp) ?_
        refine AllReadyH.cons (o := { dst := some 29, op := Op.load 155 (Operand.tmp 28), type := 155, pos := "zsortanyfunc.go:331", after := #[{ on := 12, ground := Ground.data }], guard := none }) rfl (fun K hK => ?_) AllReadyH.nil
        rw [if_pos (by rfl)]
        refine wp_load_mid 155 _ (by rfl) g (o + j * 35) (by rfl) y _ (Hy.out _ ((Kp.refl No _).drew)) Tryz.underlying155 rfl HIy.out ?_
        refine hK.out _ _ trivial (fun hh => ?_)
        clear hK K hHeld
        have hHeld := hh
        clear hh
        try simp only [Act.put, List.setIfInBounds_toArray, List.set_cons_zero, List.set_cons_succ]
        refine wpAnyH_take (i := 20) (oi := { dst := some 36, op := Op.indexAddr 81 (Operand.tmp 16) (Operand.tmp 19), type := 0, pos := "zsortanyfunc.go:331", after := #[{ on := 0, ground := Ground.data }, { on := 3, ground := Ground.data }, { on := 0, ground := Ground.phase }, { on := 1, ground := Ground.phase }, { on := 2, ground := Ground.phase }, { on := 3, ground := Ground.phase }, { on := 4, ground := Ground.textOnly Departure.lateStores }, { on := 5, ground := Ground.textOnly Departure.lateStores }, { on := 6, ground := Ground.textOnly Departure.lateStores }, { on := 7, ground := Ground.textOnly Departure.lateStores }, { on := 8, ground := Ground.phase }, { on := 9, ground := Ground.phase }, { on := 10, ground := Ground.phase }, { on := 11, ground := Ground.phase }, { on := 12, ground := Ground.phase }, { on := 13, ground := Ground.phase }, { on := 14, ground := Ground.textOnly Departure.lateStores }, { on := 15, ground := Ground.textOnly Departure.lateStores }, { on := 16, ground := Ground.textOnly Departure.lateStores }, { on := 17, ground := Ground.textOnly Departure.lateStores }, { on := 18, ground := Ground.textOnly Departure.lateStoresUnsure }, { on := 19, ground := Ground.phase }], guard := none }) (v := .pointer (some ⟨g, o + i * 35, none⟩)) rfl (by kernel_rfl) (by kernel_rfl) (by kernel_rfl) (fun _ _ _ h => h) (Or.inl ⟨by rfl, fun w' hw' => by (clear hw'; go_simp)⟩) hHeld ?_
        simp only [Act.put, List.setIfInBounds_toArray, List.set_cons_zero, List.set_cons_succ]
        refine wpAnyH_ready (rs := [21]) (by kernel_rfl) (by simp) ?_
        refine AllReadyH.cons (o := { dst := none, op := Op.store 155 (Operand.tmp 36) (Operand.tmp 29), type := 0, pos := "zsortanyfunc.go:331", after := #[{ on := 20, ground := Ground.data }, { on := 13, ground := Ground.data }, { on := 0, ground := Ground.phase }, { on := 1, ground := Ground.phase }, { on := 2, ground := Ground.phase }, { on := 3, ground := Ground.phase }, { on := 4, ground := Ground.textOnly Departure.lateStores }, { on := 5, ground := Ground.textOnly Departure.lateStores }, { on := 6, ground := Ground.textOnly Departure.lateStores }, { on := 7, ground := Ground.textOnly Departure.lateStores }, { on := 8, ground := Ground.phase }, { on := 9, ground := Ground.phase }, { on := 10, ground := Ground.phase }, { on := 11, ground := Ground.phase }, { on := 12, ground := Ground.phase }, { on := 13, ground := Ground.phase }, { on := 14, ground := Ground.textOnly Departure.lateStores }, { on := 15, ground := Ground.textOnly Departure.lateStores }, { on := 16, ground := Ground.textOnly Departure.lateStores }, { on := 17, ground := Ground.textOnly Departure.lateStores }, { on := 18, ground := Ground.textOnly Departure.lateStoresUnsure }, { on := 19, ground := Ground.phase }], guard := none }) rfl (fun K hK => ?_) AllReadyH.nil
        rw [if_pos (by rfl)]
        refine wp_store_mid 155 _ _ (by rfl) g (o + i * 35) y.toArray (by rfl) (by rfl) HT1.out HAy.out HOy.out ?_
        refine hK.out _ _ trivial (fun hh => ?_)
        clear hK K hHeld
        have hHeld := hh
        clear hh
        simp only [Act.put]
        refine wpAnyH_take (i := 22) (oi := { dst := some 37, op := Op.indexAddr 81 (Operand.tmp 20) (Operand.tmp 23), type := 0, pos := "zsortanyfunc.go:331", after := #[{ on := 4, ground := Ground.data }, { on := 7, ground := Ground.data }, { on := 0, ground := Ground.phase }, { on := 1, ground := Ground.phase }, { on := 2, ground := Ground.phase }, { on := 3, ground := Ground.phase }, { on := 4, ground := Ground.phase }, { on := 5, ground := Ground.phase }, { on := 6, ground := Ground.phase }, { on := 7, ground := Ground.phase }, { on := 8, ground := Ground.phase }, { on := 9, ground := Ground.phase }, { on := 10, ground := Ground.phase }, { on := 11, ground := Ground.phase }, { on := 12, ground := Ground.phase }, { on := 13, ground := Ground.phase }, { on := 14, ground := Ground.phase }, { on := 15, ground := Ground.phase }, { on := 16, ground := Ground.phase }, { on := 17, ground := Ground.phase }, { on := 18, ground := Ground.phase }, { on := 19, ground := Ground.phase }, { on := 20, ground := Ground.phase }, { on := 21, ground := Ground.phase }], guard := none }) (v := .pointer (some ⟨g, o + j * 35, none⟩)) rfl (by kernel_rfl) (by kernel_rfl) (by kernel_rfl) (fun _ _ _ h => h) (Or.inl ⟨by rfl, fun w' hw' => by (clear hw'; go_simp)⟩) hHeld ?_
        simp only [Act.put, List.setIfInBounds_toArray, List.set_cons_zero, List.set_cons_succ]
        refine wpAnyH_ready (rs := [23]) (by kernel_rfl) (by simp) ?_
        refine AllReadyH.cons (o := { dst := none, op := Op.store 155 (Operand.tmp 37) (Operand.tmp 35), type := 0, pos := "zsortanyfunc.go:331", after := #[{ on := 22, ground := Ground.data }, { on := 19, ground := Ground.data }, { on := 21, ground := Ground.chain }, { on := 0, ground := Ground.phase }, { on := 1, ground := Ground.phase }, { on := 2, ground := Ground.phase }, { on := 3, ground := Ground.phase }, { on := 4, ground := Ground.phase }, { on := 5, ground := Ground.phase }, { on := 6, ground := Ground.phase }, { on := 7, ground := Ground.phase }, { on := 8, ground := Ground.phase }, { on := 9, ground := Ground.phase }, { on := 10, ground := Ground.phase }, { on := 11, ground := Ground.phase }, { on := 12, ground := Ground.phase }, { on := 13, ground := Ground.phase }, { on := 14, ground := Ground.phase }, { on := 15, ground := Ground.phase }, { on := 16, ground := Ground.phase }, { on := 17, ground := Ground.phase }, { on := 18, ground := Ground.phase }, { on := 19, ground := Ground.phase }, { on := 20, ground := Ground.phase }, { on := 21, ground := Ground.phase }], guard := none }) rfl (fun K hK => ?_) AllReadyH.nil
        rw [if_pos (by rfl)]
        refine wp_store_mid 155 _ _ (by rfl) g (o + j * 35) x.toArray (by rfl) (by rfl) HT2.out HAx.out HOx.out ?_
        refine hK.out _ _ trivial (fun hh => ?_)
        clear hK K hHeld
        have hHeld := hh
        clear hh
        simp only [Act.put]
        refine wpAnyH_done (by kernel_rfl) ?_ _
        go_wp2_with fail
        go_round
        case rel => exact ⟨k + 1, by go_num, by omega, HFIN.out⟩
        case measure => simp [intOf]; omega
    · have hltI : ¬ (k : Int) < (n : Int) := by omega
      have hkn : k = n := by omega
      subst hkn
      go_wp2_with fail
      go_end0
      exact ⟨rfl, HA.out⟩
end Go.Proofs.YthmimipoooemjaaGreatDoor.Sg
end

section
/-
  Two ranges that stand side by side are turned about.
-/
namespace Go.Proofs.YthmimipoooemjaaGreatDoor.Sg
open Go.RowKit
open Sim (hid Kp No)

theorem swap2_blocks (A B C : List Ent) (x y : Ent) : swap2 (A ++ x :: (B ++ y :: C)) A.length (A.length + 1 + B.length) = A ++ y :: (B ++ x :: C) := by
  have e1 : (A ++ x :: (B ++ y :: C)).getD A.length zEnt = x := by simp [List.getD_eq_getElem?_getD]
  have e2 : (A ++ x :: (B ++ y :: C)).getD (A.length + 1 + B.length) zEnt = y := by
    rw [List.getD_eq_getElem?_getD, List.getElem?_append_right (by omega), show A.length + 1 + B.length - A.length = B.length + 1 by omega]
    simp
  have e3 : (A ++ x :: (B ++ y :: C)).set A.length y = A ++ y :: (B ++ y :: C) := by simp [List.set_append_right]
  rw [swap2, e1, e2, e3, List.set_append_right _ _ (by omega), show A.length + 1 + B.length - A.length = B.length + 1 by omega, List.set_cons_succ, List.set_append_right _ _ (by omega), Nat.sub_self, List.set_cons_zero]
theorem swapN_blocks : ∀ (n : Nat) (L X M Y R : List Ent), X.length = n → Y.length = n → swapN (L ++ (X ++ (M ++ (Y ++ R)))) L.length (L.length + n + M.length) n = L ++ (Y ++ (M ++ (X ++ R)))
  | 0, L, X, M, Y, R, hx, hy => by
    rw [List.length_eq_zero_iff.1 hx, List.length_eq_zero_iff.1 hy]
    rfl
  | n + 1, L, X, M, Y, R, hx, hy => by
    have nx : X ≠ [] := by intro e; rw [e] at hx; simp at hx
    have ny : Y ≠ [] := by intro e; rw [e] at hy; simp at hy
    obtain ⟨X', x, rfl⟩ : ∃ X' x, X = X' ++ [x] := ⟨X.dropLast, X.getLast nx, (List.dropLast_concat_getLast nx).symm⟩
    obtain ⟨Y', y, rfl⟩ : ∃ Y' y, Y = Y' ++ [y] := ⟨Y.dropLast, Y.getLast ny, (List.dropLast_concat_getLast ny).symm⟩
    have hx' : X'.length = n := by simpa using hx
    have hy' : Y'.length = n := by simpa using hy
    have ih := swapN_blocks n L X' (x :: M) Y' (y :: R) hx' hy'
    have e1 : L ++ (X' ++ [x] ++ (M ++ (Y' ++ [y] ++ R))) = L ++ (X' ++ ((x :: M) ++ (Y' ++ y :: R))) := by simp
    have e2 : L.length + (n + 1) + M.length = L.length + n + (x :: M).length := by simp; omega
    rw [swapN, e1, e2, ih]
    have h2 := swap2_blocks (L ++ Y') (M ++ X') R x y
    have e3 : L ++ (Y' ++ ((x :: M) ++ (X' ++ y :: R))) = (L ++ Y') ++ x :: ((M ++ X') ++ y :: R) := by simp
    have e4 : L.length + n = (L ++ Y').length := by simp [hy']
    have e5 : L.length + n + (x :: M).length + n = (L ++ Y').length + 1 + (M ++ X').length := by simp [hx', hy']; omega
    rw [e5, e4, e3, h2]
    simp

/-- How far a turning has come: X and Y are left, and F is what comes out. -/
def RotSt (m i j : Nat) (F D : List Ent) : Prop := ∃ L X Y R : List Ent, X.length = i ∧ Y.length = j ∧ L.length + i = m ∧ D = L ++ (X ++ (Y ++ R)) ∧ F = L ++ (Y ++ (X ++ R))
theorem RotSt.gt {m i j : Nat} {F D : List Ent} (h : RotSt m i j F D) (hj : j < i) : RotSt m (i - j) j F (swapN D (m - i) m j) := by
  obtain ⟨L, X, Y, R, hx, hy, hm, rfl, rfl⟩ := h
  have e := swapN_blocks j L (X.take j) (X.drop j) Y R (by rw [List.length_take]; omega) hy
  have e1 : L ++ (X ++ (Y ++ R)) = L ++ (X.take j ++ (X.drop j ++ (Y ++ R))) := by rw [← List.append_assoc (X.take j), List.take_append_drop]
  have e2 : L.length + j + (X.drop j).length = m := by rw [List.length_drop]; omega
  rw [e2] at e
  refine ⟨L ++ Y, X.drop j, X.take j, R, by rw [List.length_drop]; omega, by rw [List.length_take]; omega, by rw [List.length_append]; omega, ?_, ?_⟩
  · rw [e1, show m - i = L.length by omega, e]; simp
  · have : X.take j ++ (X.drop j ++ R) = X ++ R := by rw [← List.append_assoc, List.take_append_drop]
    rw [this]; simp
theorem RotSt.lt {m i j : Nat} {F D : List Ent} (h : RotSt m i j F D) (hj : i < j) : RotSt m i (j - i) F (swapN D (m - i) (m + j - i) i) := by
  obtain ⟨L, X, Y, R, hx, hy, hm, rfl, rfl⟩ := h
  have e := swapN_blocks i L X (Y.take (j - i)) (Y.drop (j - i)) R hx (by rw [List.length_drop]; omega)
  have e1 : L ++ (X ++ (Y ++ R)) = L ++ (X ++ (Y.take (j - i) ++ (Y.drop (j - i) ++ R))) := by rw [← List.append_assoc (Y.take _), List.take_append_drop]
  have e2 : L.length + i + (Y.take (j - i)).length = m + j - i := by rw [List.length_take]; omega
  rw [e2] at e
  refine ⟨L, Y.drop (j - i), Y.take (j - i), X ++ R, by rw [List.length_drop]; omega, by rw [List.length_take]; omega, hm, ?_, ?_⟩
  · rw [e1, show m - i = L.length by omega, e]
  · have : Y.take (j - i) ++ (Y.drop (j - i) ++ (X ++ R)) = Y ++ (X ++ R) := by rw [← List.append_assoc, List.take_append_drop]
    rw [this]
theorem RotSt.eq {m i : Nat} {F D : List Ent} (h : RotSt m i i F D) : swapN D (m - i) m i = F := by
  obtain ⟨L, X, Y, R, hx, hy, hm, rfl, rfl⟩ := h
  have e := swapN_blocks i L X [] Y R hx hy
  simp only [List.nil_append, List.length_nil, Nat.add_zero] at e
  rw [hm] at e
  rw [show m - i = L.length by omega, e]
theorem RotSt.len {m i j : Nat} {F D : List Ent} (h : RotSt m i j F D) : i ≤ m ∧ m + j ≤ D.length ∧ D.length = F.length := by
  obtain ⟨L, X, Y, R, hx, hy, hm, rfl, rfl⟩ := h
  simp only [List.length_append]
  omega

set_option maxHeartbeats 2000000 in
set_option maxRecDepth 100000 in
theorem rot_any (w : World) (g o : Nat) (L X Y R : List Ent) (N cap : Nat) (cv : Value) (h : EOwn w g o (L ++ (X ++ (Y ++ R)))) (hN : (L ++ (X ++ (Y ++ R))).length = N) (hx : X ≠ []) (hy : Y ≠ []) (hl : N ≤ 1000000) :
    Calls Tryz.prog 245 #[.slice (some ⟨g, o, none⟩) N cap, .int .i64 (L.length : Int), .int .i64 ((L.length + X.length : Nat) : Int), .int .i64 ((L.length + X.length + Y.length : Nat) : Int), cv] w fun e w' => e = .returned (.tuple #[]) ∧ At w g o (L ++ (Y ++ (X ++ R))) w' := by
  have H0 := hid (At.start h)
  have hx1 := List.length_pos_iff.2 hx
  have hy1 := List.length_pos_iff.2 hy
  obtain ⟨F, hF⟩ : ∃ F, L ++ (Y ++ (X ++ R)) = F := ⟨_, rfl⟩
  obtain ⟨D, hD⟩ : ∃ D, L ++ (X ++ (Y ++ R)) = D := ⟨_, rfl⟩
  have HR0 : Hid (RotSt (L.length + X.length) X.length Y.length F D) := ⟨L, X, Y, R, rfl, rfl, rfl, hD.symm, hF.symm⟩
  rw [hF]
  rw [hD] at H0 hN
  clear hF hD h hx hy
  obtain ⟨a, ha⟩ : ∃ a, L.length = a := ⟨_, rfl⟩
  obtain ⟨m, hm⟩ : ∃ m, L.length + X.length = m := ⟨_, rfl⟩
  obtain ⟨b, hb⟩ : ∃ b, L.length + X.length + Y.length = b := ⟨_, rfl⟩
  obtain ⟨i0, hi0⟩ : ∃ i0, X.length = i0 := ⟨_, rfl⟩
  obtain ⟨j0, hj0⟩ : ∃ j0, Y.length = j0 := ⟨_, rfl⟩
  rw [hm, hi0, hj0] at HR0
  have h1 : m - a = i0 ∧ b - m = j0 ∧ 0 < i0 ∧ 0 < j0 ∧ a < m ∧ m < b := by omega
  have hFl : F.length = N := by rw [← HR0.out.len.2.2, hN]
  have hbN : b ≤ N := by have := HR0.out.len.2.1; omega
  rw [hb, hm, ha]
  clear ha hm hb hi0 hj0 hx1 hy1 hN
  obtain ⟨h1, h2, h3, h4, h5, h6⟩ := h1
  have hwi : IntKind.i64.wrap ((m : Int) - (a : Int)) = (i0 : Int) := by rw [IntKind.wrap_i64]; omega
  have hwj : IntKind.i64.wrap ((b : Int) - (m : Int)) = (j0 : Int) := by rw [IntKind.wrap_i64]; omega
  have HFl := hid hFl
  have HSW := hid (fun V (D : List Ent) (a b n : Nat) (h : EOwn V g o D) (hD : D.length = N) (ha : a + n ≤ b) (hb : b + n ≤ N) => by have := swapR_any V g o D cap a b n cv h (by omega) (by omega) ha (by omega); rw [hD] at this; exact this)
  clear hFl
  go_enter Tryz.func245, Tryz.ntmps245
  go_wp2_with fail
  go_loopw [10, 11] (fun x y wr => ∃ (i j : Nat) (D : List Ent), x = .int .i64 (i : Int) ∧ y = .int .i64 (j : Int) ∧ 0 < i ∧ 0 < j ∧ Hid (RotSt m i j F D ∧ At w g o D wr)) (fun x y _ => (intOf x).toNat + (intOf y).toNat)
  case atStart => exact ⟨i0, j0, D, rfl, rfl, h3, h4, HR0.out, H0.out⟩
  case round =>
    obtain ⟨i, j, D, rfl, rfl, hi, hj, HS⟩ := hrel
    obtain ⟨hR, hA⟩ := HS.out
    have hlen := hR.len
    have hFl := HFl.out
    have hwm : IntKind.i64.wrap ((m : Int) - (i : Int)) = ((m - i : Nat) : Int) := by rw [IntKind.wrap_i64]; omega
    by_cases hij : i = j
    · subst hij
      have HC := hid (HSW.out wr D (m - i) m i hA.2 (by omega) (by omega) (by omega))
      rw [hR.eq] at HC
      have HAA := hid hA
      clear hR hA hlen hFl HS
      go_wp2_with fail
      refine HC.out.mono ?_
      rintro e w2 ⟨rfl, h2⟩
      have H2 := hid (HAA.out.next h2)
      clear h2
      go_wp2_with fail
      go_end0
      exact ⟨rfl, H2.out⟩
    · have hne : ¬ ((i : Int) = (j : Int)) := by omega
      by_cases hg : j < i
      · have hgI : (j : Int) < (i : Int) := by omega
        have HC := hid (HSW.out wr D (m - i) m j hA.2 (by omega) (by omega) (by omega))
        have HAA := hid hA
        have HRR := hid (hR.gt hg)
        have hwd : IntKind.i64.wrap ((i : Int) - (j : Int)) = ((i - j : Nat) : Int) := by rw [IntKind.wrap_i64]; omega
        clear hR hA hlen hFl HS
        go_wp2_with fail
        refine HC.out.mono ?_
        rintro e w2 ⟨rfl, h2⟩
        have H2 := hid (HAA.out.next h2)
        clear h2
        go_wp2_with fail
        go_round
        case rel => exact ⟨i - j, j, _, rfl, rfl, by omega, by omega, HRR.out, H2.out⟩
        case measure => simp [intOf]; omega
      · have hgI : ¬ (j : Int) < (i : Int) := by omega
        have HC := hid (HSW.out wr D (m - i) (m + j - i) i hA.2 (by omega) (by omega) (by omega))
        have HAA := hid hA
        have HRR := hid (hR.lt (by omega))
        have hwd : IntKind.i64.wrap ((j : Int) - (i : Int)) = ((j - i : Nat) : Int) := by rw [IntKind.wrap_i64]; omega
        obtain ⟨q, hq⟩ : ∃ q, m + j = q := ⟨_, rfl⟩
        obtain ⟨t, ht⟩ : ∃ t, m + j - i = t := ⟨_, rfl⟩
        have hws : IntKind.i64.wrap ((m : Int) + (j : Int)) = (q : Int) := by rw [IntKind.wrap_i64]; omega
        have hwt : IntKind.i64.wrap ((q : Int) - (i : Int)) = (t : Int) := by rw [IntKind.wrap_i64]; omega
        rw [ht] at HC HRR
        clear hq ht
        clear hR hA hlen hFl HS
        go_wp2_with fail
        refine HC.out.mono ?_
        rintro e w2 ⟨rfl, h2⟩
        have H2 := hid (HAA.out.next h2)
        clear h2
        go_wp2_with fail
        go_round
        case rel => exact ⟨i, j - i, _, rfl, rfl, by omega, by omega, HRR.out, H2.out⟩
        case measure => simp [intOf]; omega
end Go.Proofs.YthmimipoooemjaaGreatDoor.Sg
end

section
/-
  How the names of two entries stand: compare, walked.
-/
namespace Go.Proofs.YthmimipoooemjaaGreatDoor.Sg
open Go.RowKit
open Sim (hid Kp No)

/-- Bytes in their order. -/
def lexB : List Int → List Int → Bool
  | [], [] => false
  | [], _ :: _ => true
  | _ :: _, [] => false
  | x :: xs, y :: ys => if x < y then true else if y < x then false else lexB xs ys
theorem lexB_irr : ∀ x, lexB x x = false
  | [] => rfl
  | x :: xs => by simp [lexB, lexB_irr xs]
theorem lexB_tot : ∀ x y, x ≠ y → lexB x y = true ∨ lexB y x = true
  | [], [], h => absurd rfl h
  | [], _ :: _, _ => .inl rfl
  | _ :: _, [], _ => .inr rfl
  | x :: xs, y :: ys, h => by
    by_cases h1 : x < y
    · exact .inl (by simp [lexB, h1])
    · by_cases h2 : y < x
      · exact .inr (by simp [lexB, h2])
      · have e : x = y := by omega
        subst e
        rcases lexB_tot xs ys (fun e => h (by rw [e])) with h3 | h3
        · exact .inl (by simp [lexB, h3])
        · exact .inr (by simp [lexB, h3])
theorem lexB_trans : ∀ x y z, lexB x y = true → lexB y z = true → lexB x z = true
  | [], [], _, h, _ => by simp [lexB] at h
  | [], _ :: _, [], _, h => by simp [lexB] at h
  | [], _ :: _, _ :: _, _, _ => rfl
  | _ :: _, [], _, h, _ => by simp [lexB] at h
  | _ :: _, _ :: _, [], _, h => by simp [lexB] at h
  | x :: xs, y :: ys, z :: zs, h1, h2 => by
    simp only [lexB] at h1 h2 ⊢
    by_cases a1 : x < y
    · by_cases a2 : y < z
      · rw [if_pos (by omega)]
      · rw [if_neg a2] at h2
        by_cases a3 : z < y
        · rw [if_pos a3] at h2; cases h2
        · rw [if_pos (by omega)]
    · rw [if_neg a1] at h1
      by_cases a2 : y < x
      · rw [if_pos a2] at h1; cases h1
      · rw [if_neg a2] at h1
        have e : x = y := by omega
        subst e
        by_cases a3 : x < z
        · rw [if_pos a3]
        · rw [if_neg a3] at h2 ⊢
          by_cases a4 : z < x
          · rw [if_pos a4] at h2; cases h2
          · rw [if_neg a4] at h2 ⊢
            exact lexB_trans xs ys zs h1 h2
theorem lexOrd : Stb.Ord lexB := ⟨lexB_irr, lexB_trans, lexB_tot⟩

/-- How two stand. -/
def cmpE (a b : List Int) : Int := if lexB a b then -1 else if lexB b a then 1 else 0
theorem cmpE_neg (a b : List Int) : cmpE a b < 0 ↔ lexB a b = true := by
  unfold cmpE
  cases lexB a b <;> cases lexB b a <;> decide
theorem cmpE_zero (a b : List Int) : cmpE a b = 0 ↔ a = b := by
  unfold cmpE
  by_cases e : a = b
  · subst e
    simp [lexB_irr]
  · rcases lexB_tot a b e with h | h
    · simp [h, e]
    · have h2 := lexOrd.asym h
      simp [h, h2, e]
theorem cmp_bytes : ∀ (a b : List Int), (∀ x ∈ a, 0 ≤ x ∧ x ≤ 255) → (∀ x ∈ b, 0 ≤ x ∧ x ≤ 255) → Lib.compareBytes (Lib.bytesOf a) (Lib.bytesOf b) = cmpE a b
  | [], [], _, _ => rfl
  | [], _ :: _, _, _ => rfl
  | _ :: _, [], _, _ => rfl
  | x :: xs, y :: ys, hx, hy => by
    have h1 := hx x (by simp)
    have h2 := hy y (by simp)
    have ih := cmp_bytes xs ys (fun z hz => hx z (by simp [hz])) (fun z hz => hy z (by simp [hz]))
    have e : UInt8.ofNat x.toNat < UInt8.ofNat y.toNat ↔ x < y := by
      rw [UInt8.lt_iff_toNat_lt]
      simp
      omega
    have e' : UInt8.ofNat y.toNat < UInt8.ofNat x.toNat ↔ y < x := by
      rw [UInt8.lt_iff_toNat_lt]
      simp
      omega
    have e1 : Lib.bytesOf (x :: xs) = UInt8.ofNat x.toNat :: Lib.bytesOf xs := rfl
    have e2 : Lib.bytesOf (y :: ys) = UInt8.ofNat y.toNat :: Lib.bytesOf ys := rfl
    rw [e1, e2, Lib.compareBytes]
    simp only [e, e', ih, cmpE, lexB]
    by_cases hlt : x < y
    · simp [hlt]
    · by_cases hgt : y < x
      · simp [hlt, hgt]
      · simp [hlt, hgt]

theorem run_bytesOf {P : Program} (w : World) (g c : Nat) (a : List Int) (h : w.rangeAt g 0 (b8 a)) :
    (Extern.Bytes.bytesOf (.slice (some ⟨g, 0, none⟩) a.length c)).run P w = .ok ⟨(Lib.bytesOf a).toArray⟩ w := by
  have hl := Lib.run_loadBytesX (P := P) w a ⟨g, 0, none⟩ .empty (fun j x hj => by
    rw [Addr.add_mid]
    exact h j _ (by rw [b8, List.getElem?_map, hj]; rfl))
  have he : (⟨ByteArray.empty.data ++ (Lib.bytesOf a).toArray⟩ : ByteArray) = ⟨(Lib.bytesOf a).toArray⟩ := by
    apply ByteArray.ext
    show (#[] : Array UInt8) ++ (Lib.bytesOf a).toArray = (Lib.bytesOf a).toArray
    simp
  rw [he] at hl
  exact hl

theorem run_cmp {P : Program} (w : World) (g1 g2 k1 k2 : Nat) (a b : List Int) (h1 : w.rangeAt g1 0 (b8 a)) (h2 : w.rangeAt g2 0 (b8 b)) (ha : ∀ x ∈ a, 0 ≤ x ∧ x ≤ 255) (hb : ∀ x ∈ b, 0 ≤ x ∧ x ≤ 255) :
    (Extern.BytealgCompare.compare #[.slice (some ⟨g1, 0, none⟩) a.length k1, .slice (some ⟨g2, 0, none⟩) b.length k2]).run P w = .ok (.int .i64 (cmpE a b)) w := by
  change Sem.run P (do pure (goInt (Extern.BytealgCompare.cmp (← Extern.Bytes.bytesOf (.slice (some ⟨g1, 0, none⟩) a.length k1)) (← Extern.Bytes.bytesOf (.slice (some ⟨g2, 0, none⟩) b.length k2))))) w = _
  simp only [Sem.run_bind, Sem.run_pure, run_bytesOf w g1 k1 a h1, run_bytesOf w g2 k2 b h2, Result.andThen]
  rw [Lib.cmp_eq, cmp_bytes a b ha hb]
  rfl

theorem bcompare_any (g1 g2 : Nat) (a b : List Int) (w : World) (h1 : w.rangeAt g1 0 (b8 a)) (h2 : w.rangeAt g2 0 (b8 b)) (ha : a.length = 32) (hb : b.length = 32) (ha' : ∀ x ∈ a, 0 ≤ x ∧ x ≤ 255) (hb' : ∀ x ∈ b, 0 ≤ x ∧ x ≤ 255) :
    Calls Tryz.prog 212 #[.slice (some ⟨g1, 0, none⟩) 32 32, .slice (some ⟨g2, 0, none⟩) 32 32] w fun e w' => e = .returned (.int .i64 (cmpE a b)) ∧ w' = w := by
  have hr := run_cmp (P := Tryz.prog) w g1 g2 32 32 a b h1 h2 ha' hb'
  rw [ha, hb] at hr
  have hc : (callFunc 244 #[.slice (some ⟨g1, 0, none⟩) 32 32, .slice (some ⟨g2, 0, none⟩) 32 32]).run Tryz.prog w = .ok (.value (.int .i64 (cmpE a b))) w := by
    rw [run_callFunc_extern Tryz.func244 (by kernel_rfl) (by kernel_rfl) (by kernel_rfl) (e := Extern.BytealgCompare.compare) (by kernel_rfl), hr]
    rfl
  clear hr h1 h2 ha hb ha' hb'
  go_enter Tryz.func212, Tryz.ntmps212
  go_wp2_with fail
  go_ret
  exact ⟨rfl, rfl⟩

theorem rng_new (w : World) (C : List Value) (ty : TypeId) : (w.alloc (.cells C.toArray ty)).rangeAt w.heap.size 0 C := fun j v hv => by
  rw [Nat.zero_add, World.cell?_alloc_at _ _ _ _ rfl]
  simpa using hv

set_option maxHeartbeats 1000000 in
set_option maxRecDepth 100000 in
theorem shaCompare_any (a b : List Int) (w : World) (ha : a.length = 32) (hb : b.length = 32) (ha' : ∀ x ∈ a, 0 ≤ x ∧ x ≤ 255) (hb' : ∀ x ∈ b, 0 ≤ x ∧ x ≤ 255) :
    Calls Tryz.prog 173 #[.agg (b8 a).toArray, .agg (b8 b).toArray] w fun e w' => e = .returned (.int .i64 (cmpE a b)) ∧ Below w.heap.size w w' := by
  have HC : Hid (∀ W, W.rangeAt w.heap.size 0 (b8 a) → W.rangeAt (w.heap.size + 1) 0 (b8 b) → Calls Tryz.prog 212 #[.slice (some ⟨w.heap.size, 0, none⟩) 32 32, .slice (some ⟨w.heap.size + 1, 0, none⟩) 32 32] W fun e w' => e = .returned (.int .i64 (cmpE a b)) ∧ w' = W) := fun W h1 h2 => bcompare_any w.heap.size (w.heap.size + 1) a b W h1 h2 ha hb ha' hb'
  obtain ⟨ca, hca⟩ : ∃ c, b8 a = c := ⟨_, rfl⟩
  obtain ⟨cb, hcb⟩ : ∃ c, b8 b = c := ⟨_, rfl⟩
  have HCA := hid hca
  have HCB := hid hcb
  rw [hca, hcb]
  rw [hca, hcb] at HC
  clear hca hcb ha hb ha' hb'
  go_enter Tryz.func173, Tryz.ntmps173
  go_wp2_with fail
  obtain ⟨W1, hW1⟩ : ∃ W1, (w.alloc (.cells ca.toArray 53)).alloc (.cells cb.toArray 53) = W1 := ⟨_, rfl⟩
  have HW : Hid (W1.rangeAt w.heap.size 0 ca ∧ W1.rangeAt (w.heap.size + 1) 0 cb ∧ Below w.heap.size w W1) := by
    rw [Hid, ← hW1]
    refine ⟨World.rangeAt_alloc (rng_new _ _ _) _, ?_, ((Below.refl _ _).alloc (Nat.le_refl _) _).alloc (by simp) _⟩
    have h := rng_new (w.alloc (.cells ca.toArray 53)) cb 53
    simpa using h
  rw [hW1]
  clear hW1
  have HD : Hid (Calls Tryz.prog 212 #[.slice (some ⟨w.heap.size, 0, none⟩) 32 32, .slice (some ⟨w.heap.size + 1, 0, none⟩) 32 32] W1.drew fun e w' => e = .returned (.int .i64 (cmpE a b)) ∧ w' = W1.drew) := HC.out W1.drew HW.out.1 HW.out.2.1
  go_region_with (go_at_call 212; refine HD.out.mono ?_; rintro e w3 ⟨rfl, hw3⟩; subst hw3)
  go_wp2_with fail
  go_ret
  exact ⟨rfl, HW.out.2.2.drew⟩

theorem rng_name {w : World} {g o : Nat} {e : Ent} (h : w.rangeAt g o (entC e)) : w.rangeAt g o (b8 e.1) := fun j u hj => h j u (by
  have hlt := (List.getElem?_eq_some_iff.1 hj).1
  rw [entC, List.getElem?_append_left hlt]
  exact hj)
theorem infH : (Tryz.prog.info? 53).map (·.size) = some 32 := by kernel_rfl

set_option maxHeartbeats 1000000 in
set_option maxRecDepth 100000 in
theorem compare_any (x y : Ent) (w : World) (hx : EOk x) (hy : EOk y) :
    Calls Tryz.prog 133 #[.agg (entC x).toArray, .agg (entC y).toArray] w fun e w' => e = .returned (.int .i64 (cmpE x.1 y.1)) ∧ Below w.heap.size w w' := by
  have HC := hid (fun W => shaCompare_any x.1 y.1 W hx.1 hy.1 hx.2 hy.2)
  have HR : Hid (∀ V, Below (w.heap.size + 2) ((w.alloc (.cells (entC x).toArray 155)).alloc (.cells (entC y).toArray 155)) V → V.rangeAt w.heap.size 0 (b8 x.1) ∧ V.rangeAt (w.heap.size + 1) 0 (b8 y.1)) := fun V hV => by
    have h1 := rng_name (World.rangeAt_alloc (rng_new w (entC x) 155) (.cells (entC y).toArray 155))
    have h2 := rng_name (rng_new (w.alloc (.cells (entC x).toArray 155)) (entC y) 155)
    have e : (w.alloc (.cells (entC x).toArray 155)).heap.size = w.heap.size + 1 := by simp
    rw [e] at h2
    exact ⟨fun j v hv => (hV.cell (p := ⟨w.heap.size, _, none⟩) (by show w.heap.size < _; omega)).trans (h1 j v hv), fun j v hv => (hV.cell (p := ⟨w.heap.size + 1, _, none⟩) (by show w.heap.size + 1 < _; omega)).trans (h2 j v hv)⟩
  have HI1 : Hid ((Tryz.prog.info? 53).map (·.size) = some (b8 x.1).length) := by rw [Hid, b8_length, hx.1]; exact infH
  have HI2 : Hid ((Tryz.prog.info? 53).map (·.size) = some (b8 y.1).length) := by rw [Hid, b8_length, hy.1]; exact infH
  generalize entC x = X at *
  generalize entC y = Y at *
  generalize b8 x.1 = bx at *
  generalize b8 y.1 = bY at *
  obtain ⟨z, hz⟩ : ∃ z, cmpE x.1 y.1 = z := ⟨_, rfl⟩
  rw [hz] at HC ⊢
  clear hz hx hy
  have HBB : Hid (Below w.heap.size w ((w.alloc (.cells X.toArray 155)).alloc (.cells Y.toArray 155))) := ((Below.refl _ _).alloc (Nat.le_refl _) _).alloc (by simp) _
  go_enter Tryz.func133, Tryz.ntmps133
  generalize hW : (w.alloc (.cells X.toArray 155)).alloc (.cells Y.toArray 155) = W at *
  go_wp2_with (first
    | (refine wpList_load_mid (by rfl) 53 _ (by rfl) w.heap.size 0 (by rfl) bx _ (HR.out _ (Below.refl _ _)).1 Tryz.underlying53 rfl HI1.out ?_)
    | (refine wpList_load_mid (by rfl) 53 _ (by rfl) (w.heap.size + 1) 0 (by rfl) bY _ (HR.out _ (Below.refl _ _)).2 Tryz.underlying53 rfl HI2.out ?_)
    | (go_at_call 173; refine (HC.out _).mono ?_; rintro e w2 ⟨rfl, h2⟩; have H2 := hid h2; clear h2))
  go_ret
  exact ⟨rfl, HBB.out.trans (H2.out.mono HBB.out.size)⟩
end Go.Proofs.YthmimipoooemjaaGreatDoor.Sg
end
