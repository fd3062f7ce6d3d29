/- Of the proof: the texts NdCompact, NdSort, NdSortM, NdBin, NdBack, one behind the other. -/
import Derived.Test.YtenfahecnkdhaaaB5
import Derived.Stop.BytesEq
section
/-
  Of entries that follow one another with one name the first stays: slices.CompactFunc by namesake.
-/
namespace Go.Proofs.Ytenfahecnkdhaaa.Nd
open Go.RowKit
open Stb (Stab Srt Mrg)
open Sim (hid Kp No)

theorem str_eq8 (s p : ByteArray) : (s.toList == p.toList) = decide (s = p) := by
  rw [Bool.eq_iff_iff, beq_iff_eq, decide_eq_true_eq]
  constructor
  · intro h
    rw [ByteArray.toList_eq, ByteArray.toList_eq] at h
    exact ByteArray.ext (Array.toList_inj.1 h)
  · intro h
    rw [h]
theorem bytesOf_inj : ∀ (a b : List Int), (∀ x ∈ a, 0 ≤ x ∧ x ≤ 255) → (∀ x ∈ b, 0 ≤ x ∧ x ≤ 255) → Lib.bytesOf a = Lib.bytesOf b → a = b := fun a b ha hb e => by
  have h := cmp_bytes a b ha hb
  rw [e, cmp_bytes b b hb hb, (cmpE_zero b b).2 rfl] at h
  exact (cmpE_zero a b).1 h.symm
theorem txt_inj {a b : List Int} (ha : ∀ x ∈ a, 0 ≤ x ∧ x ≤ 255) (hb : ∀ x ∈ b, 0 ≤ x ∧ x ≤ 255) : txt a = txt b ↔ a = b := by
  constructor
  · intro e
    have e1 : (Lib.bytesOf a).toArray = (Lib.bytesOf b).toArray := congrArg ByteArray.data e
    exact bytesOf_inj a b ha hb (by simpa using e1)
  · intro e
    rw [e]

set_option maxHeartbeats 2000000 in
theorem namesake_any (x y : Ent) (w : World) (hx : EOk x) (hy : EOk y) :
    Calls Try.prog 58 #[.agg (entC x).toArray, .agg (entC y).toArray] w fun e w' => e = .returned (.bool (decide (x.1 = y.1))) ∧ Below w.heap.size w w' := by
  have heq : ((txt x.1).toList == (txt y.1).toList) = decide (x.1 = y.1) := by
    rw [str_eq8, decide_eq_decide]
    exact txt_inj hx.1 hy.1
  have hsz : (w.alloc (.cells (entC x).toArray 70)).heap.size = w.heap.size + 1 := by simp
  have b0 : ((w.alloc (.cells (entC x).toArray 70)).alloc (.cells (entC y).toArray 70)).cell? ⟨w.heap.size, 0, none⟩ = some (.string (txt x.1)) := World.rangeAt_alloc (rng_new w (entC x) 70) _ 0 _ rfl
  have c0 : ((w.alloc (.cells (entC x).toArray 70)).alloc (.cells (entC y).toArray 70)).cell? ⟨w.heap.size + 1, 0, none⟩ = some (.string (txt y.1)) := by
    have h := rng_new (w.alloc (.cells (entC x).toArray 70)) (entC y) 70 0 _ rfl
    rw [hsz] at h
    exact h
  have HBB : Hid (Below w.heap.size w ((w.alloc (.cells (entC x).toArray 70)).alloc (.cells (entC y).toArray 70))) := ((Below.refl _ _).alloc (Nat.le_refl _) _).alloc (by simp) _
  clear hsz
  generalize entC x = X at *
  generalize entC y = Y at *
  generalize decide (x.1 = y.1) = r at *
  clear hx hy
  go_enter Try.func58, Try.ntmps58
  generalize hW : (w.alloc (.cells X.toArray 70)).alloc (.cells Y.toArray 70) = W at *
  go_wp2
  go_ret
  exact ⟨by first | rfl | rw [heq], HBB.out⟩

def kept : Ent → List Ent → List Ent
  | _, [] => []
  | p, y :: r => if y.1 = p.1 then kept y r else y :: kept y r
def cmpct : List Ent → List Ent
  | [] => []
  | x :: r => x :: kept x r
theorem kept_snoc : ∀ (p : Ent) (r : List Ent) (y : Ent), kept p (r ++ [y]) = kept p r ++ (if y.1 = ((p :: r).getLast (by simp)).1 then [] else [y])
  | p, [], y => by
    rw [List.nil_append, kept, kept, kept, List.nil_append]
    by_cases h : y.1 = p.1
    · rw [if_pos h, if_pos (by simpa using h)]
    · rw [if_neg h, if_neg (by simpa using h)]
  | p, z :: r, y => by
    have ih := kept_snoc z r y
    have e : ((p :: z :: r).getLast (by simp)) = ((z :: r).getLast (by simp)) := by rw [List.getLast_cons (by simp)]
    rw [List.cons_append, kept, kept, ih, e]
    split <;> simp
/-- One more is looked at. -/
theorem cmpct_take {d : List Ent} {k : Nat} {x y : Ent} (hk : 0 < k) (hx : d[k - 1]? = some x) (hy : d[k]? = some y) : cmpct (d.take (k + 1)) = cmpct (d.take k) ++ (if y.1 = x.1 then [] else [y]) := by
  cases d with
  | nil => simp at hy
  | cons z d =>
    obtain ⟨j, rfl⟩ : ∃ j, k = j + 1 := ⟨k - 1, by omega⟩
    have hy' : d[j]? = some y := by simpa using hy
    have e : (z :: d).take (j + 1 + 1) = z :: (d.take j ++ [y]) := by
      rw [List.take_succ_cons, List.take_add_one, hy']
      rfl
    have e2 : (z :: d).take (j + 1) = z :: d.take j := by rw [List.take_succ_cons]
    have hl : ((z :: d.take j).getLast (by simp)) = x := by
      have h1 : (z :: d).take (j + 1) = z :: d.take j := e2
      have hjl : j + 1 ≤ (z :: d).length := by have := (List.getElem?_eq_some_iff.1 hy).1; omega
      have h2 : (z :: d.take j)[j]? = some x := by rw [← e2, List.getElem?_take_of_lt (by omega)]; simpa using hx
      have h3 : (z :: d.take j).length = j + 1 := by rw [← e2, List.length_take]; omega
      rw [List.getLast_eq_getElem]
      have h4 := (List.getElem?_eq_some_iff.1 h2).2
      simp only [h3, Nat.add_sub_cancel]
      exact h4
    rw [e, e2, cmpct, cmpct, kept_snoc, hl]
    simp
theorem kept_length : ∀ (p : Ent) (r : List Ent), (kept p r).length ≤ r.length
  | _, [] => Nat.le_refl _
  | p, y :: r => by
    have := kept_length y r
    rw [kept]
    split
    · simp; omega
    · simp; omega
theorem cmpct_length (d : List Ent) : (cmpct d).length ≤ d.length := by
  cases d with
  | nil => exact Nat.le_refl _
  | cons x r => have := kept_length x r; simp [cmpct]; omega
theorem EOwn.front {w : World} {g o : Nat} {d : List Ent} (h : EOwn w g o d) (k : Nat) : EOwn w g o (d.take k) := by
  refine ⟨⟨h.1.1, fun i e hi => ?_⟩, fun i hi => h.2 i (by rw [List.length_take] at hi; omega)⟩
  have hik : i < k := by have := (List.getElem?_eq_some_iff.1 hi).1; rw [List.length_take] at this; omega
  rw [List.getElem?_take_of_lt hik] at hi
  exact h.1.2 i e hi
/-- The ones behind the first k are written over, whatever with. -/
theorem EOwn.cleared {w : World} {g o : Nat} {d : List Ent} (h : EOwn w g o d) (k : Nat) (Z : List Value) : EOwn (w.setCells g (o + k * 34) Z) g o (d.take k) := by
  have hf := h.front k
  refine ⟨⟨Nat.lt_of_lt_of_le h.1.1 (setCells_kp w g _ _).size, fun i e hi => ?_⟩, fun i hi => World.there_setCells (hf.2 i hi) _ _ _⟩
  have hik : i < k := by have := (List.getElem?_eq_some_iff.1 hi).1; rw [List.length_take] at this; omega
  obtain ⟨h1, h2⟩ := hf.1.2 i e hi
  refine ⟨h1, World.rangeAt_setCells_apart h2 _ _ _ (.inr (.inl ?_))⟩
  rw [entC_length h1]
  omega
def zE : List Value := entC ([], false, List.replicate 32 0)
theorem zero48 (w : World) : (zeroValue 70).run Try.prog w = .ok (.agg zE.toArray) w := by kernel_rfl
theorem run_clear_ents (w : World) (g o n c : Nat) (ty : TypeId) (hn : n ≠ 0) (ht : ∀ i, i < n → w.there g (o + i * 34) 34) :
    ∃ Z : List Value, (Builtin.clear_ #[40] ty #[.slice (some ⟨g, o, none⟩) n c]).run Try.prog w = .ok (.tuple #[]) (w.setCells g o Z) := by
  obtain ⟨Z, hZ⟩ : ∃ Z, Builtin.zeroCells zE.toArray n = Z := ⟨_, rfl⟩
  have hzs : zE.toArray.size = 34 := rfl
  have hzl : Z.size = n * 34 := by rw [← hZ]; simp [Builtin.zeroCells, hzs]
  have hz1 : ∀ v ∈ Z.toList, v.oneCell' = true := by
    intro v hv
    rw [← hZ] at hv
    simp only [Builtin.zeroCells, Array.toList_map, List.mem_map] at hv
    obtain ⟨i, _, rfl⟩ := hv
    have hi : i % zE.toArray.size < zE.toArray.size := Nat.mod_lt _ (by rw [hzs]; omega)
    rw [getElem!_pos zE.toArray _ hi]
    have hzone : ∀ v ∈ zE, v.oneCell' = true := entC_one _
    exact hzone _ (by simp)
  have key : ∀ j, j < n * 34 → (w.cell? ⟨g, o + j, none⟩).isSome = true ∧ w.frozen? ⟨g, o + j, none⟩ = false := fun j hj => by
    have h1 := ht (j / 34) (by omega) (j % 34) (Nat.mod_lt _ (by omega))
    rwa [show o + j / 34 * 34 + j % 34 = o + j by omega] at h1
  refine ⟨Z.toList, ?_⟩
  have hst := run_storeCells_cells (P := Try.prog) g o Z.toList 0 w (fun j hj => by simpa using (key j (by simpa [hzl] using hj)).1) (fun j hj => by simpa using (key j (by simpa [hzl] using hj)).2) hz1
  simp only [Nat.add_zero] at hst
  obtain ⟨m, rfl⟩ : ∃ m, n = m + 1 := ⟨n - 1, by omega⟩
  have hc : (Value.agg zE.toArray).cells = zE.toArray := rfl
  simp only [Builtin.clear_, run_underlying Try.underlying40, Sem.run_bind, Result.andThen_ok, List.getElem?_toArray, List.getElem?_cons_zero, zero48, hc, hZ, hst, Sem.run_pure]

set_option maxHeartbeats 4000000 in
set_option maxRecDepth 100000 in
theorem compact_any (w : World) (g o : Nat) (d : List Ent) (N cap : Nat) (h : EOwn w g o d) (hN : d.length = N) (hl : N ≤ 1000000) (h0 : 0 < N) (hcap : N ≤ cap) (hcap2 : cap ≤ maxLen) :
    Calls Try.prog 57 #[.slice (some ⟨g, o, none⟩) N cap, .func (.func 58) #[] #[]] w fun e w' => e = .returned (.slice (some ⟨g, o, none⟩) (cmpct d).length cap) ∧ At w g o (cmpct d) w' := by
  have H0 := hid (At.start h)
  have HN := hid hN
  have HOK := hid h.1.ok
  unfold maxLen at hcap2
  clear h hN
  by_cases h1 : N < 2
  · have h1I : (N : Int) < 2 := by omega
    have HE : Hid (cmpct d = d) := by
      have hl := HN.out
      cases d with
      | nil => rfl
      | cons x r =>
        cases r with
        | nil => rfl
        | cons y r => simp at hl; omega
    go_enter Try.func57, Try.ntmps57
    go_wp2_with fail
    go_ret
    rw [HE.out, HN.out]
    exact ⟨rfl, H0.out⟩
  · have h1I : ¬ (N : Int) < 2 := by omega
    have HE1 : Hid (cmpct (d.take 1) = d.take 1) := by
      have hl := HN.out
      cases d with
      | nil => rfl
      | cons x r => rfl
    go_enter Try.func57, Try.ntmps57
    go_wp2_with fail
    go_loopw [5] (fun v5 wr => ∃ k : Nat, v5 = .int .i64 (k : Int) ∧ 0 < k ∧ k ≤ N ∧ Hid (cmpct (d.take k) = d.take k ∧ At w g o d wr)) (fun v5 _ => N - (intOf v5).toNat)
    case atStart => exact ⟨1, rfl, by omega, by omega, HE1.out, H0.out⟩
    case round =>
      obtain ⟨k, rfl, hk0, hkN, HS⟩ := hrel
      by_cases hlt : k < N
      · have hltI : (k : Int) < (N : Int) := by omega
        obtain ⟨hc, hA⟩ := HS.out
        have hdl := HN.out
        obtain ⟨x, hx⟩ : ∃ x, d[k]? = some x := ⟨_, List.getElem?_eq_getElem (by omega)⟩
        obtain ⟨y, hy⟩ : ∃ y, d[k - 1]? = some y := ⟨_, List.getElem?_eq_getElem (by omega)⟩
        have hct := cmpct_take hk0 hy hx
        obtain ⟨k1, hk1⟩ : ∃ k1, k - 1 = k1 := ⟨_, rfl⟩
        rw [hk1] at hy
        have hwk : IntKind.i64.wrap ((k : Int) - 1) = (k1 : Int) := by rw [IntKind.wrap_i64]; omega
        have hk1N : (k1 : Int) < (N : Int) := by omega
        have hxok := HOK.out x (List.mem_of_getElem? hx)
        have hyok := HOK.out y (List.mem_of_getElem? hy)
        have HCMP := hid (fun V => namesake_any x y V hxok hyok)
        have Hx : Hid (∀ V, Kp No wr V → V.rangeAt g (o + k * 34) (entC x)) := fun V hV => ((hA.kept hV).range hx).2
        have Hy : Hid (∀ V, Kp No wr V → V.rangeAt g (o + k1 * 34) (entC y)) := fun V hV => ((hA.kept hV).range hy).2
        have HIx := hid (inf hxok)
        have HIy := hid (inf hyok)
        have HAA := hid hA
        have HCT := hid (And.intro hc (And.intro hct hx))
        obtain ⟨cx, hcx⟩ : ∃ cx, entC x = cx := ⟨_, rfl⟩
        obtain ⟨cy, hcy⟩ : ∃ cy, entC y = cy := ⟨_, rfl⟩
        rw [hcx, hcy] at HCMP
        rw [hcx] at Hx HIx
        rw [hcy] at Hy HIy
        have hk0I : (1 : Int) ≤ (k : Int) := by omega
        clear hcx hcy hc hA hx hy hct hk1 hxok hyok hdl HS
        go_wp2_with fail
        by_cases hxy : x.1 = y.1
        · rw [decide_eq_true hxy] at HCMP
          have HC2 : Hid (d.take k = cmpct (d.take (k + 1))) := by
            obtain ⟨h1, h2, _⟩ := HCT.out
            rw [Hid, h2, if_pos hxy, List.append_nil, h1]
          clear hxy HCT
          refine wp_region_held_drew (S := fun V => Kp No wr V) (by kernel_rfl) ((Kp.refl _ _).drew) (fun hHeld => ?_)
          refine wpAnyH_take (i := 0) (oi := { dst := some 18, op := Op.move (Operand.tmp 1), type := 110, pos := "slices.go:401", after := #[], guard := none }) (v := .func (.func 58) #[] #[]) rfl (by kernel_rfl) (by kernel_rfl) (by kernel_rfl) (fun _ _ _ h => h) (Or.inl ⟨by rfl, fun w' hw' => by (clear hw'; go_simp)⟩) hHeld ?_
          simp only [Act.put, List.setIfInBounds_toArray, List.set_cons_zero, List.set_cons_succ]
          refine wpAnyH_take (i := 1) (oi := { dst := some 19, op := Op.move (Operand.tmp 0), type := 40, pos := "slices.go:401", after := #[], guard := none }) (v := .slice (some ⟨g, o, none⟩) N cap) rfl (by kernel_rfl) (by kernel_rfl) (by kernel_rfl) (fun _ _ _ h => h) (Or.inl ⟨by rfl, fun w' hw' => by (clear hw'; go_simp)⟩) hHeld ?_
          simp only [Act.put, List.setIfInBounds_toArray, List.set_cons_zero, List.set_cons_succ]
          refine wpAnyH_take (i := 2) (oi := { dst := some 20, op := Op.move (Operand.tmp 5), type := 3, pos := "slices.go:401", after := #[], guard := none }) (v := .int .i64 (k : Int)) rfl (by kernel_rfl) (by kernel_rfl) (by kernel_rfl) (fun _ _ _ h => h) (Or.inl ⟨by rfl, fun w' hw' => by (clear hw'; go_simp)⟩) hHeld ?_
          simp only [Act.put, List.setIfInBounds_toArray, List.set_cons_zero, List.set_cons_succ]
          refine wpAnyH_take (i := 3) (oi := { dst := some 21, op := Op.indexAddr 40 (Operand.tmp 19) (Operand.tmp 20), type := 0, pos := "slices.go:401", after := #[{ on := 1, ground := Ground.data }, { on := 2, ground := Ground.data }], guard := none }) (v := .pointer (some ⟨g, o + k * 34, none⟩)) rfl (by kernel_rfl) (by kernel_rfl) (by kernel_rfl) (fun _ _ _ h => h) (Or.inl ⟨by rfl, fun w' hw' => by (clear hw'; go_simp)⟩) hHeld ?_
          simp only [Act.put, List.setIfInBounds_toArray, List.set_cons_zero, List.set_cons_succ]
          refine wpAnyH_take (i := 4) (oi := { dst := some 22, op := Op.load 70 (Operand.tmp 21), type := 70, pos := "slices.go:401", after := #[{ on := 3, ground := Ground.data }], guard := none }) (v := .agg cx.toArray) rfl (by kernel_rfl) (by kernel_rfl) (by kernel_rfl) (fun _ _ _ h => h) (yieldsIf_load_mid (by rfl) _ _ rfl g (o + k * 34) rfl cx _ (Hx.out) Try.underlying70 rfl HIx.out) hHeld ?_
          simp only [Act.put, List.setIfInBounds_toArray, List.set_cons_zero, List.set_cons_succ]
          refine wpAnyH_take (i := 5) (oi := { dst := some 23, op := Op.move (Operand.tmp 0), type := 40, pos := "slices.go:401", after := #[], guard := none }) (v := .slice (some ⟨g, o, none⟩) N cap) rfl (by kernel_rfl) (by kernel_rfl) (by kernel_rfl) (fun _ _ _ h => h) (Or.inl ⟨by rfl, fun w' hw' => by (clear hw'; go_simp)⟩) hHeld ?_
          simp only [Act.put, List.setIfInBounds_toArray, List.set_cons_zero, List.set_cons_succ]
          refine wpAnyH_take (i := 6) (oi := { dst := some 24, op := Op.move (Operand.tmp 5), type := 3, pos := "slices.go:401", after := #[], guard := none }) (v := .int .i64 (k : Int)) rfl (by kernel_rfl) (by kernel_rfl) (by kernel_rfl) (fun _ _ _ h => h) (Or.inl ⟨by rfl, fun w' hw' => by (clear hw'; go_simp)⟩) hHeld ?_
          simp only [Act.put, List.setIfInBounds_toArray, List.set_cons_zero, List.set_cons_succ]
          refine wpAnyH_take (i := 7) (oi := { dst := some 25, op := Op.binOp BinOp.sub 3 (Operand.tmp 24) (Operand.const (Value.int IntKind.i64 1)) 3, type := 3, pos := "slices.go:401", after := #[{ on := 6, ground := Ground.data }], guard := none }) (v := .int .i64 (k1 : Int)) rfl (by kernel_rfl) (by kernel_rfl) (by kernel_rfl) (fun _ _ _ h => h) (Or.inl ⟨by rfl, fun w' hw' => by (clear hw'; go_simp)⟩) hHeld ?_
          simp only [Act.put, List.setIfInBounds_toArray, List.set_cons_zero, List.set_cons_succ]
          refine wpAnyH_take (i := 8) (oi := { dst := some 26, op := Op.indexAddr 40 (Operand.tmp 23) (Operand.tmp 25), type := 0, pos := "slices.go:401", after := #[{ on := 5, ground := Ground.data }, { on := 7, ground := Ground.data }], guard := none }) (v := .pointer (some ⟨g, o + k1 * 34, none⟩)) rfl (by kernel_rfl) (by kernel_rfl) (by kernel_rfl) (fun _ _ _ h => h) (Or.inl ⟨by rfl, fun w' hw' => by (clear hw'; go_simp)⟩) hHeld ?_
          simp only [Act.put, List.setIfInBounds_toArray, List.set_cons_zero, List.set_cons_succ]
          refine wpAnyH_take (i := 9) (oi := { dst := some 27, op := Op.load 70 (Operand.tmp 26), type := 70, pos := "slices.go:401", after := #[{ on := 8, ground := Ground.data }], guard := none }) (v := .agg cy.toArray) rfl (by kernel_rfl) (by kernel_rfl) (by kernel_rfl) (fun _ _ _ h => h) (yieldsIf_load_mid (by rfl) _ _ rfl g (o + k1 * 34) rfl cy _ (Hy.out) Try.underlying70 rfl HIy.out) hHeld ?_
          simp only [Act.put, List.setIfInBounds_toArray, List.set_cons_zero, List.set_cons_succ]
          refine wpAnyH_ready (rs := [10]) (by kernel_rfl) (by simp) ?_
          refine AllReadyH.cons (o := { dst := some 28, op := Op.call { callee := Callee.value (Operand.tmp 18), args := #[Operand.tmp 22, Operand.tmp 27], argTypes := #[70, 70] }, type := 4, pos := "slices.go:401", after := #[{ on := 0, ground := Ground.data }, { on := 4, ground := Ground.data }, { on := 9, ground := Ground.data }], guard := none }) rfl (fun K hK => ?_) AllReadyH.nil
          go_simp
          refine (HCMP.out _).mono ?_
          rintro e w3 ⟨rfl, h3⟩
          have HK3 : Hid (Kp No wr w3) := (Kp.refl No wr).drew.andNone (Kp.below h3)
          clear h3
          go_wp2_with fail
          refine hK.out _ _ (HK3.out) (fun hh => ?_)
          clear hK K hHeld
          have hHeld := hh
          clear hh
          try simp only [Act.put, List.setIfInBounds_toArray, List.set_cons_zero, List.set_cons_succ]
          refine wpAnyH_done (by kernel_rfl) ?_ _
          have HA3 := hid (HAA.out.kept HK3.out)
          clear hHeld HK3 HCMP Hx Hy HIx HIy HAA
          have HD0 : Hid (∃ D, D.length = N ∧ D.take k = cmpct (d.take (k + 1)) ∧ D.drop (k + 1 - 1) = d.drop (k + 1 - 1) ∧ At w g o D w3) := ⟨d, HN.out, HC2.out, rfl, HA3.out⟩
          go_wp2_with fail
          generalize hM : N - k = M
          generalize ho2 : o + k * 34 = o2
          have HMO := hid (And.intro hM ho2)
          have hM0 : 0 < M := by omega
          have hMle : M ≤ N := by omega
          have hMN : k + M = N := by omega
          have HKM := hid hMN
          clear hM ho2 hMN HC2 HA3
          go_loopw [5, 7] (fun v5 v7 wr => ∃ (q j : Nat), v5 = .int .i64 (q : Int) ∧ v7 = .int .i64 (j : Int) ∧ 0 < q ∧ 1 ≤ j ∧ j ≤ M ∧ q < N ∧ Hid (q < k + j ∧ ∃ D, D.length = N ∧ D.take q = cmpct (d.take (k + j)) ∧ D.drop (k + j - 1) = d.drop (k + j - 1) ∧ At w g o D wr)) (fun _ v7 _ => M - (intOf v7).toNat)
          case atStart => exact ⟨k, 1, rfl, rfl, hk0, Nat.le_refl _, hM0, hlt, by omega, HD0.out⟩
          case round =>
            obtain ⟨q, j, rfl, rfl, hq0, hj1', hjM, hqN, HT⟩ := hrel
            by_cases hjl : j < M
            · have hjlI : (j : Int) < (M : Int) := by omega
              obtain ⟨hqk, D, hDl, hDt, hDd, hA⟩ := HT.out
              have hkm := HKM.out
              have hmo := HMO.out
              have hdl := HN.out
              obtain ⟨x, hx⟩ : ∃ x, d[k + j]? = some x := ⟨_, List.getElem?_eq_getElem (by omega)⟩
              obtain ⟨y, hy⟩ : ∃ y, d[k + j - 1]? = some y := ⟨_, List.getElem?_eq_getElem (by omega)⟩
              have hDx : D[k + j]? = some x := by
                have e := congrArg (fun l => l[1]?) hDd
                simp only [List.getElem?_drop] at e
                rwa [show k + j - 1 + 1 = k + j by omega, hx] at e
              have hDy : D[k + j - 1]? = some y := by
                have e := congrArg (fun l => l[0]?) hDd
                simp only [List.getElem?_drop, Nat.add_zero] at e
                rwa [hy] at e
              have hct := cmpct_take (k := k + j) (by omega) hy hx
              obtain ⟨j1, hj1⟩ : ∃ j1, j - 1 = j1 := ⟨_, rfl⟩
              have hwj : IntKind.i64.wrap ((j : Int) - 1) = (j1 : Int) := by rw [IntKind.wrap_i64]; omega
              have hj1M : (j1 : Int) < (M : Int) := by omega
              have hxok := HOK.out x (List.mem_of_getElem? hx)
              have hyok := HOK.out y (List.mem_of_getElem? hy)
              have HCMP := hid (fun V => namesake_any x y V hxok hyok)
              have Hx : Hid (∀ V, Kp No wr V → V.rangeAt g (o2 + j * 34) (entC x)) := fun V hV => by
                have := ((hA.kept hV).range hDx).2
                rwa [show o + (k + j) * 34 = o2 + j * 34 by omega] at this
              have Hy : Hid (∀ V, Kp No wr V → V.rangeAt g (o2 + j1 * 34) (entC y)) := fun V hV => by
                have := ((hA.kept hV).range hDy).2
                rwa [show o + (k + j - 1) * 34 = o2 + j1 * 34 by omega] at this
              have HIx := hid (inf hxok)
              have HIy := hid (inf hyok)
              have HAx := hid (infA hxok)
              have HOx := hid (all_oneCell_toArray (entC_one x))
              have HAA := hid hA
              have HYES : Hid (x.1 = y.1 → ∀ V, Kp No wr V → q < k + (j + 1) ∧ ∃ D, D.length = N ∧ D.take q = cmpct (d.take (k + (j + 1))) ∧ D.drop (k + (j + 1) - 1) = d.drop (k + (j + 1) - 1) ∧ At w g o D V) := fun e V hV => by
                refine ⟨by omega, D, hDl, ?_, ?_, hA.kept hV⟩
                · rw [show k + (j + 1) = k + j + 1 by omega, hct, if_pos e, List.append_nil]; exact hDt
                · rw [show k + (j + 1) - 1 = (k + j - 1) + 1 by omega, ← List.drop_drop, ← List.drop_drop, hDd]
              have HNO : Hid (x.1 ≠ y.1 → ∀ V, Kp No wr V → V.there g (o + q * 34) (entC x).toArray.size ∧ (q + 1 < k + (j + 1) ∧ ∃ D, D.length = N ∧ D.take (q + 1) = cmpct (d.take (k + (j + 1))) ∧ D.drop (k + (j + 1) - 1) = d.drop (k + (j + 1) - 1) ∧ At w g o D (V.setCells g (o + q * 34) (entC x)))) := fun e V hV => by
                have hAV := hA.kept hV
                refine ⟨hAV.2.there (by omega) hxok, by omega, D.set q x, by rw [List.length_set]; exact hDl, ?_, ?_, hAV.set (by omega) hxok⟩
                · have hqD : q < D.length := by omega
                  rw [show k + (j + 1) = k + j + 1 by omega, hct, if_neg e, ← hDt, List.take_add_one, List.getElem?_set_self hqD, List.take_set_of_le (Nat.le_refl _)]
                  rfl
                · rw [show k + (j + 1) - 1 = (k + j - 1) + 1 by omega, List.drop_set_of_lt (by omega), ← List.drop_drop, ← List.drop_drop, hDd]
              obtain ⟨cx, hcx⟩ : ∃ cx, entC x = cx := ⟨_, rfl⟩
              obtain ⟨cy, hcy⟩ : ∃ cy, entC y = cy := ⟨_, rfl⟩
              rw [hcx, hcy] at HCMP
              rw [hcx] at Hx HIx HAx HOx HNO
              rw [hcy] at Hy HIy
              have hj0I : (1 : Int) ≤ (j : Int) := by omega
              have hqI : (q : Int) < (N : Int) := by omega
              have hwq : IntKind.i64.wrap ((q : Int) + 1) = ((q + 1 : Nat) : Int) := by rw [IntKind.wrap_i64]; omega
              have HQN : Hid (q + 1 < N) := by rw [Hid]; omega
              clear hcx hcy hqk hDl hDt hDd hA hkm hmo hdl hx hy hDx hDy hct hj1 hxok hyok HT
              go_wp2_with fail
              by_cases hxy : x.1 = y.1
              · rw [decide_eq_true hxy] at HCMP
                have HY2 := hid (HYES.out hxy)
                clear hxy HYES HNO
                refine wp_region_held_drew (S := fun V => Kp No wr V) (by kernel_rfl) ((Kp.refl _ _).drew) (fun hHeld => ?_)
                refine wpAnyH_take (i := 0) (oi := { dst := some 38, op := Op.move (Operand.tmp 1), type := 110, pos := "slices.go:404", after := #[], guard := none }) (v := .func (.func 58) #[] #[]) rfl (by kernel_rfl) (by kernel_rfl) (by kernel_rfl) (fun _ _ _ h => h) (Or.inl ⟨by rfl, fun w' hw' => by (clear hw'; go_simp)⟩) hHeld ?_
                simp only [Act.put, List.setIfInBounds_toArray, List.set_cons_zero, List.set_cons_succ]
                refine wpAnyH_take (i := 1) (oi := { dst := some 39, op := Op.move (Operand.tmp 6), type := 40, pos := "slices.go:404", after := #[], guard := none }) (v := .slice (some ⟨g, o2, none⟩) M (cap - k)) rfl (by kernel_rfl) (by kernel_rfl) (by kernel_rfl) (fun _ _ _ h => h) (Or.inl ⟨by rfl, fun w' hw' => by (clear hw'; go_simp)⟩) hHeld ?_
                simp only [Act.put, List.setIfInBounds_toArray, List.set_cons_zero, List.set_cons_succ]
                refine wpAnyH_take (i := 2) (oi := { dst := some 40, op := Op.move (Operand.tmp 7), type := 3, pos := "slices.go:404", after := #[], guard := none }) (v := .int .i64 (j : Int)) rfl (by kernel_rfl) (by kernel_rfl) (by kernel_rfl) (fun _ _ _ h => h) (Or.inl ⟨by rfl, fun w' hw' => by (clear hw'; go_simp)⟩) hHeld ?_
                simp only [Act.put, List.setIfInBounds_toArray, List.set_cons_zero, List.set_cons_succ]
                refine wpAnyH_take (i := 3) (oi := { dst := some 41, op := Op.indexAddr 40 (Operand.tmp 39) (Operand.tmp 40), type := 0, pos := "slices.go:404", after := #[{ on := 1, ground := Ground.data }, { on := 2, ground := Ground.data }], guard := none }) (v := .pointer (some ⟨g, o2 + j * 34, none⟩)) rfl (by kernel_rfl) (by kernel_rfl) (by kernel_rfl) (fun _ _ _ h => h) (Or.inl ⟨by rfl, fun w' hw' => by (clear hw'; go_simp)⟩) hHeld ?_
                simp only [Act.put, List.setIfInBounds_toArray, List.set_cons_zero, List.set_cons_succ]
                refine wpAnyH_take (i := 4) (oi := { dst := some 42, op := Op.load 70 (Operand.tmp 41), type := 70, pos := "slices.go:404", after := #[{ on := 3, ground := Ground.data }], guard := none }) (v := .agg cx.toArray) rfl (by kernel_rfl) (by kernel_rfl) (by kernel_rfl) (fun _ _ _ h => h) (yieldsIf_load_mid (by rfl) _ _ rfl g (o2 + j * 34) rfl cx _ (Hx.out) Try.underlying70 rfl HIx.out) hHeld ?_
                simp only [Act.put, List.setIfInBounds_toArray, List.set_cons_zero, List.set_cons_succ]
                refine wpAnyH_take (i := 5) (oi := { dst := some 43, op := Op.move (Operand.tmp 6), type := 40, pos := "slices.go:404", after := #[], guard := none }) (v := .slice (some ⟨g, o2, none⟩) M (cap - k)) rfl (by kernel_rfl) (by kernel_rfl) (by kernel_rfl) (fun _ _ _ h => h) (Or.inl ⟨by rfl, fun w' hw' => by (clear hw'; go_simp)⟩) hHeld ?_
                simp only [Act.put, List.setIfInBounds_toArray, List.set_cons_zero, List.set_cons_succ]
                refine wpAnyH_take (i := 6) (oi := { dst := some 44, op := Op.move (Operand.tmp 7), type := 3, pos := "slices.go:404", after := #[], guard := none }) (v := .int .i64 (j : Int)) rfl (by kernel_rfl) (by kernel_rfl) (by kernel_rfl) (fun _ _ _ h => h) (Or.inl ⟨by rfl, fun w' hw' => by (clear hw'; go_simp)⟩) hHeld ?_
                simp only [Act.put, List.setIfInBounds_toArray, List.set_cons_zero, List.set_cons_succ]
                refine wpAnyH_take (i := 7) (oi := { dst := some 45, op := Op.binOp BinOp.sub 3 (Operand.tmp 44) (Operand.const (Value.int IntKind.i64 1)) 3, type := 3, pos := "slices.go:404", after := #[{ on := 6, ground := Ground.data }], guard := none }) (v := .int .i64 (j1 : Int)) rfl (by kernel_rfl) (by kernel_rfl) (by kernel_rfl) (fun _ _ _ h => h) (Or.inl ⟨by rfl, fun w' hw' => by (clear hw'; go_simp)⟩) hHeld ?_
                simp only [Act.put, List.setIfInBounds_toArray, List.set_cons_zero, List.set_cons_succ]
                refine wpAnyH_take (i := 8) (oi := { dst := some 46, op := Op.indexAddr 40 (Operand.tmp 43) (Operand.tmp 45), type := 0, pos := "slices.go:404", after := #[{ on := 5, ground := Ground.data }, { on := 7, ground := Ground.data }], guard := none }) (v := .pointer (some ⟨g, o2 + j1 * 34, none⟩)) rfl (by kernel_rfl) (by kernel_rfl) (by kernel_rfl) (fun _ _ _ h => h) (Or.inl ⟨by rfl, fun w' hw' => by (clear hw'; go_simp)⟩) hHeld ?_
                simp only [Act.put, List.setIfInBounds_toArray, List.set_cons_zero, List.set_cons_succ]
                refine wpAnyH_take (i := 9) (oi := { dst := some 47, op := Op.load 70 (Operand.tmp 46), type := 70, pos := "slices.go:404", after := #[{ on := 8, ground := Ground.data }], guard := none }) (v := .agg cy.toArray) rfl (by kernel_rfl) (by kernel_rfl) (by kernel_rfl) (fun _ _ _ h => h) (yieldsIf_load_mid (by rfl) _ _ rfl g (o2 + j1 * 34) rfl cy _ (Hy.out) Try.underlying70 rfl HIy.out) hHeld ?_
                simp only [Act.put, List.setIfInBounds_toArray, List.set_cons_zero, List.set_cons_succ]
                refine wpAnyH_ready (rs := [10]) (by kernel_rfl) (by simp) ?_
                refine AllReadyH.cons (o := { dst := some 48, op := Op.call { callee := Callee.value (Operand.tmp 38), args := #[Operand.tmp 42, Operand.tmp 47], argTypes := #[70, 70] }, type := 4, pos := "slices.go:404", after := #[{ on := 0, ground := Ground.data }, { on := 4, ground := Ground.data }, { on := 9, ground := Ground.data }], guard := none }) rfl (fun K hK => ?_) AllReadyH.nil
                go_simp
                refine (HCMP.out _).mono ?_
                rintro e w3 ⟨rfl, h3⟩
                have HK3 : Hid (Kp No wr w3) := (Kp.refl No wr).drew.andNone (Kp.below h3)
                clear h3
                go_wp2_with fail
                refine hK.out _ _ (HK3.out) (fun hh => ?_)
                clear hK K hHeld
                have hHeld := hh
                clear hh
                try simp only [Act.put, List.setIfInBounds_toArray, List.set_cons_zero, List.set_cons_succ]
                refine wpAnyH_take (i := 11) (oi := { dst := some 49, op := Op.unOp UnOp.not 4 (Operand.tmp 48), type := 4, pos := "slices.go:404", after := #[{ on := 10, ground := Ground.data }], guard := none }) (v := .bool false) rfl (by kernel_rfl) (by kernel_rfl) (by kernel_rfl) (fun _ _ _ h => h) (Or.inl ⟨by rfl, fun w' hw' => by (clear hw'; go_simp)⟩) hHeld ?_
                simp only [Act.put, List.setIfInBounds_toArray, List.set_cons_zero, List.set_cons_succ]
                refine wpAnyH_done (by kernel_rfl) ?_ _
                have HH2 := hid (HY2.out w3 HK3.out)
                clear hHeld HK3 HCMP Hx Hy HIx HIy HAA HY2
                go_wp2_with fail
                go_round
                case rel => exact ⟨q, j + 1, rfl, by go_num, hq0, by omega, by omega, hqN, HH2.out⟩
                case measure => simp [intOf]; omega
              · rw [decide_eq_false hxy] at HCMP
                have HN2 := hid (HNO.out hxy)
                clear hxy HYES HNO
                refine wp_region_held_drew (S := fun V => Kp No wr V) (by kernel_rfl) ((Kp.refl _ _).drew) (fun hHeld => ?_)
                refine wpAnyH_take (i := 0) (oi := { dst := some 38, op := Op.move (Operand.tmp 1), type := 110, pos := "slices.go:404", after := #[], guard := none }) (v := .func (.func 58) #[] #[]) rfl (by kernel_rfl) (by kernel_rfl) (by kernel_rfl) (fun _ _ _ h => h) (Or.inl ⟨by rfl, fun w' hw' => by (clear hw'; go_simp)⟩) hHeld ?_
                simp only [Act.put, List.setIfInBounds_toArray, List.set_cons_zero, List.set_cons_succ]
                refine wpAnyH_take (i := 1) (oi := { dst := some 39, op := Op.move (Operand.tmp 6), type := 40, pos := "slices.go:404", after := #[], guard := none }) (v := .slice (some ⟨g, o2, none⟩) M (cap - k)) rfl (by kernel_rfl) (by kernel_rfl) (by kernel_rfl) (fun _ _ _ h => h) (Or.inl ⟨by rfl, fun w' hw' => by (clear hw'; go_simp)⟩) hHeld ?_
                simp only [Act.put, List.setIfInBounds_toArray, List.set_cons_zero, List.set_cons_succ]
                refine wpAnyH_take (i := 2) (oi := { dst := some 40, op := Op.move (Operand.tmp 7), type := 3, pos := "slices.go:404", after := #[], guard := none }) (v := .int .i64 (j : Int)) rfl (by kernel_rfl) (by kernel_rfl) (by kernel_rfl) (fun _ _ _ h => h) (Or.inl ⟨by rfl, fun w' hw' => by (clear hw'; go_simp)⟩) hHeld ?_
                simp only [Act.put, List.setIfInBounds_toArray, List.set_cons_zero, List.set_cons_succ]
                refine wpAnyH_take (i := 3) (oi := { dst := some 41, op := Op.indexAddr 40 (Operand.tmp 39) (Operand.tmp 40), type := 0, pos := "slices.go:404", after := #[{ on := 1, ground := Ground.data }, { on := 2, ground := Ground.data }], guard := none }) (v := .pointer (some ⟨g, o2 + j * 34, none⟩)) rfl (by kernel_rfl) (by kernel_rfl) (by kernel_rfl) (fun _ _ _ h => h) (Or.inl ⟨by rfl, fun w' hw' => by (clear hw'; go_simp)⟩) hHeld ?_
                simp only [Act.put, List.setIfInBounds_toArray, List.set_cons_zero, List.set_cons_succ]
                refine wpAnyH_take (i := 4) (oi := { dst := some 42, op := Op.load 70 (Operand.tmp 41), type := 70, pos := "slices.go:404", after := #[{ on := 3, ground := Ground.data }], guard := none }) (v := .agg cx.toArray) rfl (by kernel_rfl) (by kernel_rfl) (by kernel_rfl) (fun _ _ _ h => h) (yieldsIf_load_mid (by rfl) _ _ rfl g (o2 + j * 34) rfl cx _ (Hx.out) Try.underlying70 rfl HIx.out) hHeld ?_
                simp only [Act.put, List.setIfInBounds_toArray, List.set_cons_zero, List.set_cons_succ]
                refine wpAnyH_take (i := 5) (oi := { dst := some 43, op := Op.move (Operand.tmp 6), type := 40, pos := "slices.go:404", after := #[], guard := none }) (v := .slice (some ⟨g, o2, none⟩) M (cap - k)) rfl (by kernel_rfl) (by kernel_rfl) (by kernel_rfl) (fun _ _ _ h => h) (Or.inl ⟨by rfl, fun w' hw' => by (clear hw'; go_simp)⟩) hHeld ?_
                simp only [Act.put, List.setIfInBounds_toArray, List.set_cons_zero, List.set_cons_succ]
                refine wpAnyH_take (i := 6) (oi := { dst := some 44, op := Op.move (Operand.tmp 7), type := 3, pos := "slices.go:404", after := #[], guard := none }) (v := .int .i64 (j : Int)) rfl (by kernel_rfl) (by kernel_rfl) (by kernel_rfl) (fun _ _ _ h => h) (Or.inl ⟨by rfl, fun w' hw' => by (clear hw'; go_simp)⟩) hHeld ?_
                simp only [Act.put, List.setIfInBounds_toArray, List.set_cons_zero, List.set_cons_succ]
                refine wpAnyH_take (i := 7) (oi := { dst := some 45, op := Op.binOp BinOp.sub 3 (Operand.tmp 44) (Operand.const (Value.int IntKind.i64 1)) 3, type := 3, pos := "slices.go:404", after := #[{ on := 6, ground := Ground.data }], guard := none }) (v := .int .i64 (j1 : Int)) rfl (by kernel_rfl) (by kernel_rfl) (by kernel_rfl) (fun _ _ _ h => h) (Or.inl ⟨by rfl, fun w' hw' => by (clear hw'; go_simp)⟩) hHeld ?_
                simp only [Act.put, List.setIfInBounds_toArray, List.set_cons_zero, List.set_cons_succ]
                refine wpAnyH_take (i := 8) (oi := { dst := some 46, op := Op.indexAddr 40 (Operand.tmp 43) (Operand.tmp 45), type := 0, pos := "slices.go:404", after := #[{ on := 5, ground := Ground.data }, { on := 7, ground := Ground.data }], guard := none }) (v := .pointer (some ⟨g, o2 + j1 * 34, none⟩)) rfl (by kernel_rfl) (by kernel_rfl) (by kernel_rfl) (fun _ _ _ h => h) (Or.inl ⟨by rfl, fun w' hw' => by (clear hw'; go_simp)⟩) hHeld ?_
                simp only [Act.put, List.setIfInBounds_toArray, List.set_cons_zero, List.set_cons_succ]
                refine wpAnyH_take (i := 9) (oi := { dst := some 47, op := Op.load 70 (Operand.tmp 46), type := 70, pos := "slices.go:404", after := #[{ on := 8, ground := Ground.data }], guard := none }) (v := .agg cy.toArray) rfl (by kernel_rfl) (by kernel_rfl) (by kernel_rfl) (fun _ _ _ h => h) (yieldsIf_load_mid (by rfl) _ _ rfl g (o2 + j1 * 34) rfl cy _ (Hy.out) Try.underlying70 rfl HIy.out) hHeld ?_
                simp only [Act.put, List.setIfInBounds_toArray, List.set_cons_zero, List.set_cons_succ]
                refine wpAnyH_ready (rs := [10]) (by kernel_rfl) (by simp) ?_
                refine AllReadyH.cons (o := { dst := some 48, op := Op.call { callee := Callee.value (Operand.tmp 38), args := #[Operand.tmp 42, Operand.tmp 47], argTypes := #[70, 70] }, type := 4, pos := "slices.go:404", after := #[{ on := 0, ground := Ground.data }, { on := 4, ground := Ground.data }, { on := 9, ground := Ground.data }], guard := none }) rfl (fun K hK => ?_) AllReadyH.nil
                go_simp
                refine (HCMP.out _).mono ?_
                rintro e w3 ⟨rfl, h3⟩
                have HK3 : Hid (Kp No wr w3) := (Kp.refl No wr).drew.andNone (Kp.below h3)
                clear h3
                go_wp2_with fail
                refine hK.out _ _ (HK3.out) (fun hh => ?_)
                clear hK K hHeld
                have hHeld := hh
                clear hh
                try simp only [Act.put, List.setIfInBounds_toArray, List.set_cons_zero, List.set_cons_succ]
                refine wpAnyH_take (i := 11) (oi := { dst := some 49, op := Op.unOp UnOp.not 4 (Operand.tmp 48), type := 4, pos := "slices.go:404", after := #[{ on := 10, ground := Ground.data }], guard := none }) (v := .bool true) rfl (by kernel_rfl) (by kernel_rfl) (by kernel_rfl) (fun _ _ _ h => h) (Or.inl ⟨by rfl, fun w' hw' => by (clear hw'; go_simp)⟩) hHeld ?_
                simp only [Act.put, List.setIfInBounds_toArray, List.set_cons_zero, List.set_cons_succ]
                refine wpAnyH_done (by kernel_rfl) ?_ _
                obtain ⟨ht, hfin⟩ := HN2.out w3 HK3.out
                have HTS := hid ht
                have HH2 := hid hfin
                have HX3 := hid (Hx.out w3 HK3.out)
                clear ht hfin hHeld HK3 HCMP Hx Hy HIy HAA HN2
                go_wp2_with (first
                  | (refine wpList_load_mid (by rfl) 70 _ (by rfl) g (o2 + j * 34) (by rfl) cx _ HX3.out Try.underlying70 rfl HIx.out ?_)
                  | (refine wpList_store_mid (by rfl) 70 _ _ (by rfl) g (o + q * 34) cx.toArray (by rfl) (by rfl) HTS.out HAx.out HOx.out ?_))
                go_round
                case rel => exact ⟨q + 1, j + 1, by go_num, by go_num, by omega, by omega, by omega, HQN.out, HH2.out⟩
                case measure => simp [intOf]; omega
            · have hjlI : ¬ (j : Int) < (M : Int) := by omega
              have hjj : j = M := by omega
              obtain ⟨hqk, D, hDl, hDt, hDd, hA⟩ := HT.out
              have hdt : d.take N = d := List.take_of_length_le (by rw [HN.out]; exact Nat.le_refl _)
              rw [hjj, HKM.out, hdt] at hDt
              obtain ⟨Zc, hZc⟩ := run_clear_ents wr g (o + q * 34) (N - q) (cap - q) 0 (by omega) (fun i hi => by
                have := hA.2.2 (q + i) (by omega)
                rwa [show o + (q + i) * 34 = o + q * 34 + i * 34 by omega] at this)
              have hcl : ∀ ty, (Builtin.clear_ #[40] ty #[.slice (some ⟨g, o + q * 34, none⟩) (N - q) (cap - q)]).run Try.prog wr = .ok (.tuple #[]) (wr.setCells g (o + q * 34) Zc) := fun _ => hZc
              have HFIN : Hid ((cmpct d).length = q ∧ At w g o (cmpct d) (wr.setCells g (o + q * 34) Zc)) := by
                refine ⟨by rw [← hDt, List.length_take]; omega, ?_⟩
                rw [← hDt]
                exact ⟨hA.1.trans (setCells_kp wr g _ _) (fun _ hx => .inl hx), hA.2.cleared q Zc⟩
              have hqc : (q : Int) ≤ (cap : Int) := by omega
              have hqI : (q : Int) ≤ (N : Int) := by omega
              clear hZc hjj hqk hDl hDt hDd hA hdt HT
              go_wp2_with fail
              first | (refine bodyPost_ret (results_tmp rfl _ _ _) rfl ?_) | (simp only [Exit.inBlock, Exit.then]; refine bodyPost_ret (results_tmp rfl _ _ _) rfl ?_) | go_ret
              rw [HFIN.out.1]
              exact ⟨rfl, HFIN.out.2⟩
        · rw [decide_eq_false hxy] at HCMP
          have HC2 : Hid (cmpct (d.take (k + 1)) = d.take (k + 1)) := by
            obtain ⟨h1, h2, h3⟩ := HCT.out
            rw [Hid, h2, if_neg hxy, h1, List.take_add_one, h3]
            rfl
          clear hxy HCT
          refine wp_region_held_drew (S := fun V => Kp No wr V) (by kernel_rfl) ((Kp.refl _ _).drew) (fun hHeld => ?_)
          refine wpAnyH_take (i := 0) (oi := { dst := some 18, op := Op.move (Operand.tmp 1), type := 110, pos := "slices.go:401", after := #[], guard := none }) (v := .func (.func 58) #[] #[]) rfl (by kernel_rfl) (by kernel_rfl) (by kernel_rfl) (fun _ _ _ h => h) (Or.inl ⟨by rfl, fun w' hw' => by (clear hw'; go_simp)⟩) hHeld ?_
          simp only [Act.put, List.setIfInBounds_toArray, List.set_cons_zero, List.set_cons_succ]
          refine wpAnyH_take (i := 1) (oi := { dst := some 19, op := Op.move (Operand.tmp 0), type := 40, pos := "slices.go:401", after := #[], guard := none }) (v := .slice (some ⟨g, o, none⟩) N cap) rfl (by kernel_rfl) (by kernel_rfl) (by kernel_rfl) (fun _ _ _ h => h) (Or.inl ⟨by rfl, fun w' hw' => by (clear hw'; go_simp)⟩) hHeld ?_
          simp only [Act.put, List.setIfInBounds_toArray, List.set_cons_zero, List.set_cons_succ]
          refine wpAnyH_take (i := 2) (oi := { dst := some 20, op := Op.move (Operand.tmp 5), type := 3, pos := "slices.go:401", after := #[], guard := none }) (v := .int .i64 (k : Int)) rfl (by kernel_rfl) (by kernel_rfl) (by kernel_rfl) (fun _ _ _ h => h) (Or.inl ⟨by rfl, fun w' hw' => by (clear hw'; go_simp)⟩) hHeld ?_
          simp only [Act.put, List.setIfInBounds_toArray, List.set_cons_zero, List.set_cons_succ]
          refine wpAnyH_take (i := 3) (oi := { dst := some 21, op := Op.indexAddr 40 (Operand.tmp 19) (Operand.tmp 20), type := 0, pos := "slices.go:401", after := #[{ on := 1, ground := Ground.data }, { on := 2, ground := Ground.data }], guard := none }) (v := .pointer (some ⟨g, o + k * 34, none⟩)) rfl (by kernel_rfl) (by kernel_rfl) (by kernel_rfl) (fun _ _ _ h => h) (Or.inl ⟨by rfl, fun w' hw' => by (clear hw'; go_simp)⟩) hHeld ?_
          simp only [Act.put, List.setIfInBounds_toArray, List.set_cons_zero, List.set_cons_succ]
          refine wpAnyH_take (i := 4) (oi := { dst := some 22, op := Op.load 70 (Operand.tmp 21), type := 70, pos := "slices.go:401", after := #[{ on := 3, ground := Ground.data }], guard := none }) (v := .agg cx.toArray) rfl (by kernel_rfl) (by kernel_rfl) (by kernel_rfl) (fun _ _ _ h => h) (yieldsIf_load_mid (by rfl) _ _ rfl g (o + k * 34) rfl cx _ (Hx.out) Try.underlying70 rfl HIx.out) hHeld ?_
          simp only [Act.put, List.setIfInBounds_toArray, List.set_cons_zero, List.set_cons_succ]
          refine wpAnyH_take (i := 5) (oi := { dst := some 23, op := Op.move (Operand.tmp 0), type := 40, pos := "slices.go:401", after := #[], guard := none }) (v := .slice (some ⟨g, o, none⟩) N cap) rfl (by kernel_rfl) (by kernel_rfl) (by kernel_rfl) (fun _ _ _ h => h) (Or.inl ⟨by rfl, fun w' hw' => by (clear hw'; go_simp)⟩) hHeld ?_
          simp only [Act.put, List.setIfInBounds_toArray, List.set_cons_zero, List.set_cons_succ]
          refine wpAnyH_take (i := 6) (oi := { dst := some 24, op := Op.move (Operand.tmp 5), type := 3, pos := "slices.go:401", after := #[], guard := none }) (v := .int .i64 (k : Int)) rfl (by kernel_rfl) (by kernel_rfl) (by kernel_rfl) (fun _ _ _ h => h) (Or.inl ⟨by rfl, fun w' hw' => by (clear hw'; go_simp)⟩) hHeld ?_
          simp only [Act.put, List.setIfInBounds_toArray, List.set_cons_zero, List.set_cons_succ]
          refine wpAnyH_take (i := 7) (oi := { dst := some 25, op := Op.binOp BinOp.sub 3 (Operand.tmp 24) (Operand.const (Value.int IntKind.i64 1)) 3, type := 3, pos := "slices.go:401", after := #[{ on := 6, ground := Ground.data }], guard := none }) (v := .int .i64 (k1 : Int)) rfl (by kernel_rfl) (by kernel_rfl) (by kernel_rfl) (fun _ _ _ h => h) (Or.inl ⟨by rfl, fun w' hw' => by (clear hw'; go_simp)⟩) hHeld ?_
          simp only [Act.put, List.setIfInBounds_toArray, List.set_cons_zero, List.set_cons_succ]
          refine wpAnyH_take (i := 8) (oi := { dst := some 26, op := Op.indexAddr 40 (Operand.tmp 23) (Operand.tmp 25), type := 0, pos := "slices.go:401", after := #[{ on := 5, ground := Ground.data }, { on := 7, ground := Ground.data }], guard := none }) (v := .pointer (some ⟨g, o + k1 * 34, none⟩)) rfl (by kernel_rfl) (by kernel_rfl) (by kernel_rfl) (fun _ _ _ h => h) (Or.inl ⟨by rfl, fun w' hw' => by (clear hw'; go_simp)⟩) hHeld ?_
          simp only [Act.put, List.setIfInBounds_toArray, List.set_cons_zero, List.set_cons_succ]
          refine wpAnyH_take (i := 9) (oi := { dst := some 27, op := Op.load 70 (Operand.tmp 26), type := 70, pos := "slices.go:401", after := #[{ on := 8, ground := Ground.data }], guard := none }) (v := .agg cy.toArray) rfl (by kernel_rfl) (by kernel_rfl) (by kernel_rfl) (fun _ _ _ h => h) (yieldsIf_load_mid (by rfl) _ _ rfl g (o + k1 * 34) rfl cy _ (Hy.out) Try.underlying70 rfl HIy.out) hHeld ?_
          simp only [Act.put, List.setIfInBounds_toArray, List.set_cons_zero, List.set_cons_succ]
          refine wpAnyH_ready (rs := [10]) (by kernel_rfl) (by simp) ?_
          refine AllReadyH.cons (o := { dst := some 28, op := Op.call { callee := Callee.value (Operand.tmp 18), args := #[Operand.tmp 22, Operand.tmp 27], argTypes := #[70, 70] }, type := 4, pos := "slices.go:401", after := #[{ on := 0, ground := Ground.data }, { on := 4, ground := Ground.data }, { on := 9, ground := Ground.data }], guard := none }) rfl (fun K hK => ?_) AllReadyH.nil
          go_simp
          refine (HCMP.out _).mono ?_
          rintro e w3 ⟨rfl, h3⟩
          have HK3 : Hid (Kp No wr w3) := (Kp.refl No wr).drew.andNone (Kp.below h3)
          clear h3
          go_wp2_with fail
          refine hK.out _ _ (HK3.out) (fun hh => ?_)
          clear hK K hHeld
          have hHeld := hh
          clear hh
          try simp only [Act.put, List.setIfInBounds_toArray, List.set_cons_zero, List.set_cons_succ]
          refine wpAnyH_done (by kernel_rfl) ?_ _
          have HA3 := hid (HAA.out.kept HK3.out)
          clear hHeld HK3 HCMP Hx Hy HIx HIy HAA
          go_wp2_with fail
          go_round
          case rel => exact ⟨k + 1, by go_num, by omega, by omega, HC2.out, HA3.out⟩
          case measure => simp [intOf]; omega
      · have hltI : ¬ (k : Int) < (N : Int) := by omega
        have HE : Hid (cmpct d = d) := by
          have h := HS.out.1
          rw [List.take_of_length_le (by have := HN.out; omega)] at h
          exact h
        have HA := hid HS.out.2
        go_wp2_with fail
        go_ret
        rw [HE.out, HN.out]
        exact ⟨rfl, HA.out⟩
end Go.Proofs.Ytenfahecnkdhaaa.Nd
end

section
/-
  Entries as values that are read, rows of the call's own, and segment.Sort: of each name the first, in the names' order.
-/
namespace Go.Proofs.Ytenfahecnkdhaaa.Nd
open Go.RowKit
open Stb (Stab Srt Mrg)
open Sim (hid Kp No)

def ents (d : List Ent) : List Value := d.flatMap entC
theorem ents_cons (e : Ent) (d : List Ent) : ents (e :: d) = entC e ++ ents d := by simp [ents]
theorem ents_append (a b : List Ent) : ents (a ++ b) = ents a ++ ents b := by simp [ents]
theorem ents_length : ∀ (d : List Ent), (∀ e ∈ d, EOk e) → (ents d).length = d.length * 34
  | [], _ => rfl
  | e :: d, h => by
    rw [ents_cons, List.length_append, entC_length (h e (by simp)), ents_length d (fun x hx => h x (by simp [hx])), List.length_cons]
    omega
theorem ents_at : ∀ (d : List Ent), (∀ e ∈ d, EOk e) → ∀ (i j : Nat) (e : Ent), d[i]? = some e → j < 34 → (ents d)[i * 34 + j]? = (entC e)[j]?
  | [], _, i, j, e, hi, _ => by simp at hi
  | x :: d, h, 0, j, e, hi, hj => by
    simp only [List.getElem?_cons_zero, Option.some.injEq] at hi
    subst hi
    rw [ents_cons, Nat.zero_mul, Nat.zero_add, List.getElem?_append_left (by rw [entC_length (h x (by simp))]; exact hj)]
  | x :: d, h, i + 1, j, e, hi, hj => by
    rw [List.getElem?_cons_succ] at hi
    rw [ents_cons, List.getElem?_append_right (by rw [entC_length (h x (by simp))]; omega), entC_length (h x (by simp)), show (i + 1) * 34 + j - 34 = i * 34 + j by omega]
    exact ents_at d (fun y hy => h y (by simp [hy])) i j e hi hj
theorem ents_one (d : List Ent) : ∀ u ∈ ents d, u.oneCell' = true := by
  intro u hu
  obtain ⟨e, _, hue⟩ := List.mem_flatMap.1 hu
  exact entC_one e u hue

/-- Entries that are read: in blocks of P alone. -/
def EV (P : Nat → Prop) (w : World) (v : Value) (d : List Ent) : Prop :=
  ∃ a cap, v = .slice a d.length cap ∧ d.length ≤ cap ∧ cap ≤ maxLen ∧ (a = none → d = [] ∧ cap = 0) ∧ (∀ e ∈ d, EOk e) ∧ (d ≠ [] → ∃ g o, a = some ⟨g, o, none⟩ ∧ P g ∧ ERow w g o d)
theorem EV.nil (P : Nat → Prop) (w : World) : EV P w (.slice none 0 0) [] := ⟨none, 0, rfl, Nat.le_refl _, Nat.zero_le _, fun _ => ⟨rfl, rfl⟩, by simp, by simp⟩
theorem EV.kp {P L : Nat → Prop} {w w' : World} {v : Value} {d : List Ent} (h : EV P w v d) (k : Kp L w w') (hP : ∀ g, P g → ¬ L g) : EV P w' v d := by
  obtain ⟨a, cap, h1, h2, h3, h4, h5, h6⟩ := h
  refine ⟨a, cap, h1, h2, h3, h4, h5, fun hd => ?_⟩
  obtain ⟨g, o, e, hp, hr⟩ := h6 hd
  exact ⟨g, o, e, hp, hr.kp k (hP g hp)⟩
theorem EV.kept {P : Nat → Prop} {w w' : World} {v : Value} {d : List Ent} (h : EV P w v d) (k : Kp No w w') : EV P w' v d := h.kp k (fun _ _ x => x)
theorem EV.mono {P P' : Nat → Prop} {w : World} {v : Value} {d : List Ent} (h : EV P w v d) (hP : ∀ g, P g → P' g) : EV P' w v d := by
  obtain ⟨a, cap, h1, h2, h3, h4, h5, h6⟩ := h
  refine ⟨a, cap, h1, h2, h3, h4, h5, fun hd => ?_⟩
  obtain ⟨g, o, e, hp, hr⟩ := h6 hd
  exact ⟨g, o, e, hP g hp, hr⟩
theorem EV.ok {P : Nat → Prop} {w : World} {v : Value} {d : List Ent} (h : EV P w v d) : ∀ e ∈ d, EOk e := by
  obtain ⟨a, cap, h1, h2, h3, h4, h5, h6⟩ := h
  exact h5
theorem EV.src {P : Nat → Prop} {w : World} {v : Value} {d : List Ent} (h : EV P w v d) : Sim.Src w v d.length 34 (ents d) := by
  obtain ⟨a, cap, rfl, h2, h3, h4, h5, h6⟩ := h
  cases a with
  | none =>
    obtain ⟨rfl, rfl⟩ := h4 rfl
    exact .inl ⟨rfl, rfl, rfl⟩
  | some ad =>
    refine .inr ⟨ad, cap, rfl, ents_length d h5, fun j u hj => ?_, ents_one d⟩
    have hjl := (List.getElem?_eq_some_iff.1 hj).1
    rw [ents_length d h5] at hjl
    have hd : d ≠ [] := by intro e; subst e; simp at hjl
    obtain ⟨g, o, e, _, hr⟩ := h6 hd
    simp only [Option.some.injEq] at e
    subst e
    have hi : j / 34 < d.length := by omega
    obtain ⟨x, hx⟩ : ∃ x, d[j / 34]? = some x := ⟨_, List.getElem?_eq_getElem hi⟩
    have hm : j % 34 < 34 := Nat.mod_lt _ (by omega)
    have hje : j / 34 * 34 + j % 34 = j := by omega
    have hat := ents_at d h5 (j / 34) (j % 34) x hx hm
    rw [hje, hj] at hat
    have := (hr.2 (j / 34) x hx).2 (j % 34) u hat.symm
    rw [Sim.addr_add]
    rw [Nat.add_assoc, hje] at this
    exact this
/-- A row of the call's own is one to be read and to be written. -/
theorem own_row {w : World} {g n cap : Nat} {d : List Ent} (h : Sim.Row w 70 34 (.slice (some ⟨g, 0, none⟩) n cap) n (ents d)) (hn : d.length = n) (hd : ∀ e ∈ d, EOk e) : EOwn w g 0 d := by
  have hg : g < w.heap.size := h.lt g rfl
  refine ⟨⟨hg, fun i e hi => ⟨hd e (List.mem_of_getElem? hi), fun j u hj => ?_⟩⟩, fun i hi j hj => ?_⟩
  · have hil := (List.getElem?_eq_some_iff.1 hi).1
    have hjl := (List.getElem?_eq_some_iff.1 hj).1
    rw [entC_length (hd e (List.mem_of_getElem? hi))] at hjl
    rw [Nat.zero_add, h.cellAt (i * 34 + j) (by omega), ents_at d hd i j e hi hjl]
    exact hj
  · have hx : ∃ u, (ents d)[i * 34 + j]? = some u := ⟨_, List.getElem?_eq_getElem (by rw [ents_length d hd]; omega)⟩
    obtain ⟨u, hu⟩ := hx
    rw [Nat.zero_add, h.cellAt (i * 34 + j) (by omega), hu]
    exact ⟨rfl, World.ownsRow.frozenAt h _⟩

theorem infoE : (Try.prog.info? 70).map (fun i => (i.zero, i.size, i.bytes)) = some (some (.agg zE.toArray), 34, 56) := by kernel_rfl

/-! ### Nothing to be sorted -/
theorem ins_none (w : World) : Calls Try.prog 85 #[.slice none 0 0, .int .i64 0, .int .i64 0, cmpV] w fun e w' => e = .returned (.tuple #[]) ∧ w' = w := by
  unfold cmpV
  go_enter Try.func85, Try.ntmps85
  go_wp2_with fail
  go_loopw [8] (fun x wr => x = .int .i64 1 ∧ wr = w) (fun _ _ => 0)
  case atStart => exact ⟨rfl, rfl⟩
  case round =>
    obtain ⟨rfl, rfl⟩ := hrel
    go_wp2_with fail
    go_end0
    exact ⟨rfl, rfl⟩
set_option maxHeartbeats 4000000 in
set_option maxRecDepth 100000 in
theorem stable_none (w : World) : Calls Try.prog 76 #[.slice none 0 0, .int .i64 0, cmpV] w fun e w' => e = .returned (.tuple #[]) ∧ w' = w := by
  have HI := hid (ins_none w)
  unfold cmpV at HI ⊢
  go_enter Try.func76, Try.ntmps76
  go_wp2_with fail
  go_loopw [7, 8] (fun v7 v8 wr => v7 = .int .i64 0 ∧ v8 = .int .i64 20 ∧ wr = w) (fun _ _ _ => 0)
  case atStart => exact ⟨rfl, rfl, rfl⟩
  case round =>
    obtain ⟨rfl, rfl, rfl⟩ := hrel
    go_wp2_with fail
    refine HI.out.mono ?_
    rintro e w2 ⟨rfl, rfl⟩
    go_wp2_with fail
    go_loopw [6, 7, 8] (fun v6 v7 v8 wr => v6 = .int .i64 20 ∧ v7 = .int .i64 0 ∧ v8 = .int .i64 20 ∧ wr = w2) (fun _ _ _ _ => 0)
    case atStart => exact ⟨rfl, rfl, rfl, rfl⟩
    case round =>
      obtain ⟨rfl, rfl, rfl, rfl⟩ := hrel
      go_wp2_with fail
      go_end0
      exact ⟨rfl, rfl⟩
theorem sortStable_none (w : World) : Calls Try.prog 55 #[.slice none 0 0, cmpV] w fun e w' => e = .returned (.tuple #[]) ∧ w' = w := by
  have HS := hid (stable_none w)
  unfold cmpV at HS ⊢
  go_enter Try.func55, Try.ntmps55
  go_wp2_with fail
  refine HS.out.mono ?_
  rintro e w2 ⟨rfl, rfl⟩
  go_wp2_with fail
  go_end0
  exact ⟨rfl, rfl⟩
theorem compact_zero (w : World) (a : Option Addr) (cap : Nat) : Calls Try.prog 57 #[.slice a 0 cap, .func (.func 58) #[] #[]] w fun e w' => e = .returned (.slice a 0 cap) ∧ w' = w := by
  go_enter Try.func57, Try.ntmps57
  go_wp2_with fail
  go_ret
  exact ⟨rfl, rfl⟩

/-- Any row of the call's own is sorted. -/
theorem sortStable_row (w : World) (ad : Option Addr) (d : List Ent) (cap : Nat) (h : Sim.Row w 70 34 (.slice ad d.length cap) d.length (ents d)) (hd : ∀ e ∈ d, EOk e) (hl : d.length ≤ 1000000) :
    Calls Try.prog 55 #[.slice ad d.length cap, cmpV] w fun e w' => e = .returned (.tuple #[]) ∧ ∃ X, Stab ky d X ∧ Srt ky lexB X ∧ ((d = [] ∧ w' = w) ∨ ∃ g, ad = some ⟨g, 0, none⟩ ∧ At w g 0 X w') := by
  obtain ⟨a, c, e, h2, h3, h4, h5⟩ := h.shape
  cases e
  cases ad with
  | none =>
    obtain ⟨h0, rfl⟩ := h4 rfl
    have : d = [] := List.length_eq_zero_iff.1 h0
    subst this
    refine (sortStable_none w).mono ?_
    rintro e w2 ⟨rfl, rfl⟩
    exact ⟨rfl, [], Stab.refl _, List.Pairwise.nil, .inl ⟨rfl, rfl⟩⟩
  | some x =>
    obtain ⟨g, o, sp⟩ := x
    obtain ⟨e1, e2⟩ := h5 _ rfl
    cases e1
    cases e2
    refine (sortStable_any w g 0 d d.length cap (own_row h rfl hd) rfl hl).mono ?_
    rintro e w2 ⟨rfl, X, h6, h7, h8⟩
    exact ⟨rfl, X, h6, h7, .inr ⟨g, rfl, h8⟩⟩

theorem sort_any (w : World) (v : Value) (d : List Ent) (P : Nat → Prop) (hv : EV P w v d) (hl : d.length ≤ 1000000) :
    Calls Try.prog 30 #[v] w fun e w' => ∃ r X, e = .returned r ∧ Stab ky d X ∧ Srt ky lexB X ∧ Kp No w w' ∧ EV (fun g => w.heap.size ≤ g) w' r (cmpct X) := by
  have HSRC := hid hv.src
  have HOK := hid hv.ok
  obtain ⟨a, c, rfl, _⟩ := hv
  obtain ⟨n, hn⟩ : ∃ n, d.length = n := ⟨_, rfl⟩
  have HN := hid hn
  rw [hn] at HSRC hl ⊢
  clear hn
  have HR0 := hid (Sim.Row.nil w 70 34)
  go_enter Try.func30, Try.ntmps30
  go_wp2_with (first
    | (refine Sim.app_row _ (by rfl) _ _ 40 70 (.agg zE.toArray) 34 56 (by rfl) Try.underlying40 infoE rfl (by omega) (.slice none 0 0) (.slice a n c) 0 n [] (ents d) (by rfl) (by rfl) HR0.out HSRC.out (by omega) (by omega) ?_; intro ad2 cap2 w2 hrow2 hgr2 hown2))
  rw [Nat.zero_add, List.nil_append] at hrow2
  rw [Nat.zero_add] at hown2
  have hK2 : Kp No w w2 := (Kp.refl No w).grown hgr2 (by intro x hx; simp [Value.ownBlock] at hx)
  have hso := sortStable_row w2 ad2 d cap2 (by rw [HN.out]; exact hrow2) HOK.out (by rw [HN.out]; exact hl)
  rw [HN.out] at hso
  have HSO := hid hso
  have HH := hid (And.intro hrow2 (And.intro hK2 hown2))
  clear hso hrow2 hgr2 hown2 hK2
  unfold cmpV at HSO
  refine HSO.out.mono ?_
  rintro e w3 ⟨rfl, X, hst, hsr, hat⟩
  have HC : Hid (Calls Try.prog 57 #[.slice ad2 n cap2, .func (.func 58) #[] #[]] w3 fun e w' => e = .returned (.slice ad2 (cmpct X).length cap2) ∧ Kp No w w' ∧ EV (fun g => w.heap.size ≤ g) w' (.slice ad2 (cmpct X).length cap2) (cmpct X)) := by
    obtain ⟨hrow, hK, hown⟩ := HH.out
    obtain ⟨a', c', e, s2, s3, s4, s5⟩ := hrow.shape
    cases e
    have hXl : X.length = n := by rw [hst.length, HN.out]
    have hXok : ∀ e ∈ X, EOk e := fun e he => HOK.out e ((hst.mem e).1 he)
    have hK3 : Kp No w w3 := by
      rcases hat with ⟨_, rfl⟩ | ⟨g, rfl, hA⟩
      · exact hK
      · have hg : g = w.heap.size := by
          rcases hown with h | h
          · simp [Value.ownBlock] at h
          · simpa [Value.ownBlock] using h
        exact hK.trans hA.1 (fun x hx => .inr (by omega))
    by_cases hn : n = 0
    · subst hn
      have : X = [] := List.length_eq_zero_iff.1 hXl
      subst this
      refine (compact_zero w3 ad2 cap2).mono ?_
      rintro e w4 ⟨rfl, rfl⟩
      exact ⟨rfl, hK3, ad2, cap2, rfl, Nat.zero_le _, s3, fun h => ⟨rfl, (s4 h).2⟩, by simp [cmpct], by simp [cmpct]⟩
    · rcases hat with ⟨h0, _⟩ | ⟨g, rfl, hA⟩
      · rw [h0] at hst
        have := hst.length
        simp at this
        rw [this] at hXl
        simp at hXl
        omega
      · have hg : g = w.heap.size := by
          rcases hown with h | h
          · simp [Value.ownBlock] at h
          · simpa [Value.ownBlock] using h
        refine (compact_any w3 g 0 X n cap2 hA.2 hXl hl (by omega) s2 s3).mono ?_
        rintro e w4 ⟨rfl, hB⟩
        have hcl := cmpct_length X
        exact ⟨rfl, hK3.trans hB.1 (fun x hx => .inr (by omega)), _, cap2, rfl, by omega, s3, by simp, hB.2.1.ok, fun _ => ⟨g, 0, rfl, by omega, hB.2.1⟩⟩
  have HX := hid (And.intro hst hsr)
  clear hst hsr hat HSO HH
  go_wp2_with fail
  refine HC.out.mono ?_
  rintro e w4 ⟨rfl, hk, hev⟩
  have HF := hid (And.intro hk hev)
  clear hk hev HC
  go_wp2_with fail
  go_ret
  exact ⟨_, X, rfl, HX.out.1, HX.out.2, HF.out.1, HF.out.2⟩
end Go.Proofs.Ytenfahecnkdhaaa.Nd
end

section
/-
  Of a stable sort the first of each name: strictly rising names, and of each name the first of what was sorted.
-/
namespace Go.Proofs.Ytenfahecnkdhaaa.Nd
open Go.RowKit
open Stb (Stab Srt Mrg)
open Sim (hid Kp No)

/-- Names that rise strictly. -/
def Rise (d : List Ent) : Prop := d.Pairwise (fun a b => lexB a.1 b.1 = true)

theorem kept_rise : ∀ (r : List Ent) (p : Ent), Srt ky lexB (p :: r) → Rise (p :: kept p r)
  | [], p, _ => by simp [kept, Rise]
  | y :: r, p, h => by
    have hyr : Srt ky lexB (y :: r) := (List.pairwise_cons.1 h).2
    have ih := kept_rise r y hyr
    have hpy : lexB y.1 p.1 = false := (List.pairwise_cons.1 h).1 y (by simp)
    rw [kept]
    by_cases e : y.1 = p.1
    · rw [if_pos e]
      refine List.pairwise_cons.2 ⟨fun z hz => ?_, (List.pairwise_cons.1 ih).2⟩
      rw [← e]
      exact (List.pairwise_cons.1 ih).1 z hz
    · rw [if_neg e]
      have hlt : lexB p.1 y.1 = true := by
        rcases lexB_tot y.1 p.1 e with h | h
        · rw [h] at hpy
          cases hpy
        · exact h
      refine List.pairwise_cons.2 ⟨fun z hz => ?_, ih⟩
      rcases List.mem_cons.1 hz with rfl | hz
      · exact hlt
      · exact lexB_trans _ _ _ hlt ((List.pairwise_cons.1 ih).1 z hz)
theorem cmpct_rise {X : List Ent} (h : Srt ky lexB X) : Rise (cmpct X) := by
  cases X with
  | nil => exact List.Pairwise.nil
  | cons x r => exact kept_rise r x h

theorem kept_find (k : List Int) : ∀ (r : List Ent) (p : Ent), p.1 ≠ k → (kept p r).find? (fun x => decide (x.1 = k)) = r.find? (fun x => decide (x.1 = k))
  | [], p, _ => rfl
  | y :: r, p, h => by
    rw [kept]
    by_cases e : y.1 = p.1
    · have hy : y.1 ≠ k := by rw [e]; exact h
      rw [if_pos e, kept_find k r y hy, List.find?_cons_of_neg (by simpa using hy)]
    · rw [if_neg e]
      by_cases hy : y.1 = k
      · rw [List.find?_cons_of_pos (by simpa using hy), List.find?_cons_of_pos (by simpa using hy)]
      · rw [List.find?_cons_of_neg (by simpa using hy), List.find?_cons_of_neg (by simpa using hy), kept_find k r y hy]
theorem cmpct_find (k : List Int) (X : List Ent) : (cmpct X).find? (fun x => decide (x.1 = k)) = X.find? (fun x => decide (x.1 = k)) := by
  cases X with
  | nil => rfl
  | cons x r =>
    rw [cmpct]
    by_cases hx : x.1 = k
    · rw [List.find?_cons_of_pos (by simpa using hx), List.find?_cons_of_pos (by simpa using hx)]
    · rw [List.find?_cons_of_neg (by simpa using hx), List.find?_cons_of_neg (by simpa using hx), kept_find k r x hx]
/-- Of each name the first of what was sorted. -/
theorem sort_find {l X : List Ent} (h : Stab ky l X) (k : List Int) : (cmpct X).find? (fun x => decide (x.1 = k)) = l.find? (fun x => decide (x.1 = k)) := by
  rw [cmpct_find, ← List.head?_filter, ← List.head?_filter]
  exact congrArg List.head? (h k)

theorem Rise.get {d : List Ent} (h : Rise d) {y : Ent} (hy : y ∈ d) : d.find? (fun x => decide (x.1 = y.1)) = some y := by
  induction d with
  | nil => cases hy
  | cons x r ih =>
    obtain ⟨h1, h2⟩ := List.pairwise_cons.1 h
    rcases List.mem_cons.1 hy with rfl | hy
    · rw [List.find?_cons_of_pos (by simp)]
    · have hx : x.1 ≠ y.1 := fun e => by
        have := h1 y hy
        rw [e, lexB_irr] at this
        cases this
      rw [List.find?_cons_of_neg (by simpa using hx)]
      exact ih h2 hy
theorem Rise.mem {d : List Ent} (h : Rise d) {y : Ent} {k : List Int} : d.find? (fun x => decide (x.1 = k)) = some y ↔ y ∈ d ∧ y.1 = k := by
  refine ⟨fun e => ⟨List.mem_of_find?_eq_some e, by simpa using List.find?_some e⟩, fun ⟨hy, e⟩ => ?_⟩
  rw [← e]
  exact h.get hy
theorem Rise.srt {d : List Ent} (h : Rise d) : Srt ky lexB d := h.imp (fun {_ _} h => lexOrd.asym h)
theorem Rise.filter {d : List Ent} (h : Rise d) (k : List Int) : d.filter (fun x => decide (ky x = k)) = (d.find? (fun x => decide (x.1 = k))).toList := by
  induction d with
  | nil => rfl
  | cons a d ih =>
    obtain ⟨h1, h2⟩ := List.pairwise_cons.1 h
    by_cases e : a.1 = k
    · rw [List.filter_cons_of_pos (by simpa [ky] using e), List.find?_cons_of_pos (by simpa using e)]
      have : d.filter (fun x => decide (ky x = k)) = [] := by
        rw [List.filter_eq_nil_iff]
        intro x hx hk
        have hx1 := h1 x hx
        have hk' : x.1 = k := by simpa [ky] using hk
        rw [e, hk', lexB_irr] at hx1
        cases hx1
      rw [this]
      rfl
    · rw [List.filter_cons_of_neg (by simpa [ky] using e), List.find?_cons_of_neg (by simpa using e), ih h2]
theorem Rise.ext {a b : List Ent} (ha : Rise a) (hb : Rise b) (h : ∀ k, a.find? (fun x => decide (x.1 = k)) = b.find? (fun x => decide (x.1 = k))) : a = b :=
  Stb.srt_unique lexOrd (Stab.refl a) (fun k => by rw [hb.filter, ha.filter, h]) ha.srt hb.srt

/-- The entries of l as the document sorts them. -/
def Sorted (l out : List Ent) : Prop := Rise out ∧ ∀ k, out.find? (fun x => decide (x.1 = k)) = l.find? (fun x => decide (x.1 = k))
theorem Sorted.nil : Sorted [] [] := ⟨List.Pairwise.nil, fun _ => rfl⟩
theorem Sorted.eq {l X out : List Ent} (h : Sorted l out) (hs : Stab ky l X) (hr : Srt ky lexB X) : cmpct X = out :=
  (cmpct_rise hr).ext h.1 (fun k => by rw [sort_find hs, h.2])
/-- Those ahead of k are less than e, the one at k is not. -/
def Place (out : List Ent) (e : Ent) (k : Nat) : Prop := (∀ x ∈ out.take k, lexB x.1 e.1 = true) ∧ ∀ y, out[k]? = some y → lexB y.1 e.1 = false
theorem Sorted.has {l out : List Ent} {e y : Ent} {k : Nat} (h : Sorted l out) (hy : out[k]? = some y) (he : y.1 = e.1) : Sorted (l ++ [e]) out := by
  refine ⟨h.1, fun q => ?_⟩
  rw [List.find?_append, ← h.2 q]
  cases hf : out.find? (fun x => decide (x.1 = q)) with
  | some z => rfl
  | none =>
    have hne : ¬ e.1 = q := fun e1 => by
      have := List.find?_eq_none.1 hf y (List.mem_of_getElem? hy)
      rw [he, e1] at this
      simp at this
    rw [List.find?_cons_of_neg (by simpa using hne)]
    rfl
theorem place_after {out : List Ent} {e : Ent} {k : Nat} (hr : Rise out) (hp : Place out e k) (hn : ∀ y, out[k]? = some y → y.1 ≠ e.1) : ∀ x ∈ out.drop k, lexB e.1 x.1 = true := by
  intro x hx
  obtain ⟨i, hi⟩ := List.mem_iff_getElem?.1 hx
  rw [List.getElem?_drop] at hi
  have hkl : k < out.length := by have := (List.getElem?_eq_some_iff.1 hi).1; omega
  obtain ⟨y, hy⟩ : ∃ y, out[k]? = some y := ⟨_, List.getElem?_eq_getElem hkl⟩
  have h1 : lexB e.1 y.1 = true := by
    rcases lexB_tot e.1 y.1 (fun h => hn y hy h.symm) with h | h
    · exact h
    · rw [hp.2 y hy] at h; cases h
  cases i with
  | zero =>
    rw [Nat.add_zero, hy] at hi
    cases hi
    exact h1
  | succ i =>
    have hlt := (List.getElem?_eq_some_iff.1 hi).1
    have h2 := List.pairwise_iff_getElem.1 hr k (k + (i + 1)) hkl hlt (by omega)
    rw [(List.getElem?_eq_some_iff.1 hy).2, (List.getElem?_eq_some_iff.1 hi).2] at h2
    exact lexB_trans _ _ _ h1 h2
theorem Sorted.ins {l out : List Ent} {e : Ent} {k : Nat} (h : Sorted l out) (hp : Place out e k) (hn : ∀ y, out[k]? = some y → y.1 ≠ e.1) : Sorted (l ++ [e]) (out.take k ++ e :: out.drop k) := by
  have ha := place_after h.1 hp hn
  have hno : ∀ x ∈ out, x.1 ≠ e.1 := fun x hx he => by
    rw [← List.take_append_drop k out] at hx
    rcases List.mem_append.1 hx with h1 | h1
    · have := hp.1 x h1
      rw [he, lexB_irr] at this
      cases this
    · have := ha x h1
      rw [he, lexB_irr] at this
      cases this
  refine ⟨?_, fun q => ?_⟩
  · have hR : Rise (out.take k ++ out.drop k) := by rw [List.take_append_drop]; exact h.1
    obtain ⟨r1, r2, r3⟩ := List.pairwise_append.1 hR
    refine List.pairwise_append.2 ⟨r1, List.pairwise_cons.2 ⟨ha, r2⟩, fun x hx y hy => ?_⟩
    rcases List.mem_cons.1 hy with rfl | hy
    · exact hp.1 x hx
    · exact r3 x hx y hy
  · have e1 : out.find? (fun x => decide (x.1 = q)) = ((out.take k).find? (fun x => decide (x.1 = q))).or ((out.drop k).find? (fun x => decide (x.1 = q))) := by rw [← List.find?_append, List.take_append_drop]
    rw [List.find?_append, List.find?_append, ← h.2 q]
    by_cases hq : e.1 = q
    · rw [List.find?_cons_of_pos (by simpa using hq), List.find?_cons_of_pos (by simpa using hq)]
      have n0 : out.find? (fun x => decide (x.1 = q)) = none := List.find?_eq_none.2 (fun x hx hk => hno x hx (by rw [hq]; simpa using hk))
      have n1 : (out.take k).find? (fun x => decide (x.1 = q)) = none := List.find?_eq_none.2 (fun x hx hk => hno x (List.mem_of_mem_take hx) (by rw [hq]; simpa using hk))
      rw [n0, n1]
    · rw [List.find?_cons_of_neg (by simpa using hq), List.find?_cons_of_neg (by simpa using hq), e1]
      simp
end Go.Proofs.Ytenfahecnkdhaaa.Nd
end

section
/-
  slices.BinarySearchFunc by against: where a name stands in names that rise, or would stand.
-/
namespace Go.Proofs.Ytenfahecnkdhaaa.Nd
open Go.RowKit
open Stb (Stab Srt Mrg)
open Sim (hid Kp No)

theorem wpList_bare {P : Program} {ops : Array Oper} {Q : Exit → Act → World → Prop} {a : Act} {w : World} {rest : List Oper} {dst : Option Tmp} {op : Op} {type : TypeId} {pos : String} {after : Array Edge} {g : Option (Nat × Bool)}
    (hw : Region.wanted ⟨dst, op, type, pos, after, g⟩ (yielded ops a.tmps) = true) (h : wpList P ops Q (⟨dst, op, type, pos, after, none⟩ :: rest) a w) : wpList P ops Q (⟨dst, op, type, pos, after, g⟩ :: rest) a w := by
  unfold wpList at h ⊢
  rw [if_pos hw]
  rw [if_pos (by rfl)] at h
  exact h

def BS (d : List Ent) (h : List Int) (i : Nat) (b : Bool) : Prop :=
  i ≤ d.length ∧ (∀ z ∈ d.take i, lexB z.1 h = true) ∧ (∀ z ∈ d.drop i, lexB z.1 h = false) ∧ (b = true ↔ ∃ y, d[i]? = some y ∧ y.1 = h)
def BAns (d : List Ent) (h : List Int) (e : Ending) : Prop := ∃ (i : Nat) (b : Bool), e = .returned (.tuple #[.int .i64 (i : Int), .bool b]) ∧ BS d h i b

set_option maxHeartbeats 4000000 in
set_option maxRecDepth 100000 in
theorem bsearch_any (w : World) (v : Value) (d : List Ent) (P : Nat → Prop) (s : List Int) (hv : EV P w v d) (hl : d.length ≤ 1000000) (hx : ∀ y ∈ s, 0 ≤ y ∧ y ≤ 255)
    (hm : ∀ (t u : Nat) (p q : Ent), t ≤ u → d[t]? = some p → d[u]? = some q → lexB q.1 s = true → lexB p.1 s = true) :
    Calls Try.prog 60 #[v, .string (txt s), .func (.func 61) #[] #[]] w fun e w' => BAns d s e ∧ Kp No w w' := by
  obtain ⟨a, c, rfl, h2, h3, h4, h5, h6⟩ := hv
  obtain ⟨n, hn⟩ : ∃ n, d.length = n := ⟨_, rfl⟩
  have HN := hid hn
  rw [hn] at hl ⊢
  have H6 := hid h6
  have HX := hid hx
  have HMO := hid hm
  have HH0 : Hid (Half (fun z => lexB z.1 s) d 0 n) := by rw [Hid, ← hn]; exact Half.begin _ _
  clear hn h2 h3 h4 h5 h6 hx hm
  go_enter Try.func60, Try.ntmps60
  go_wp2_with fail
  go_loopw [9, 10] (fun v9 v10 wr => ∃ (i j : Nat), v9 = .int .i64 (i : Int) ∧ v10 = .int .i64 (j : Int) ∧ i ≤ j ∧ j ≤ n ∧ Hid (Half (fun z => lexB z.1 s) d i j ∧ Kp No w wr)) (fun v9 v10 _ => (intOf v10).toNat - (intOf v9).toNat)
  case atStart => exact ⟨0, n, rfl, rfl, Nat.zero_le _, Nat.le_refl _, HH0.out, Kp.refl _ _⟩
  case round =>
    obtain ⟨i, j, rfl, rfl, hij, hjn, HS⟩ := hrel
    by_cases hlt : i < j
    · have hltI : (i : Int) < (j : Int) := by omega
      obtain ⟨h, hh⟩ : ∃ h, (i + j) / 2 = h := ⟨_, rfl⟩
      have hhI : ((i : Int) + (j : Int)) / 2 = (h : Int) := by omega
      have hih : i ≤ h ∧ h < j := by omega
      obtain ⟨hHf, hK⟩ := HS.out
      obtain ⟨g, o, rfl, _, hr⟩ := H6.out (by intro e; have := HN.out; rw [e] at this; simp at this; omega)
      obtain ⟨y, hy⟩ : ∃ y, d[h]? = some y := ⟨_, List.getElem?_eq_getElem (by have := HN.out; omega)⟩
      have hyok := (hr.2 h y hy).1
      have HCMP := hid (fun V => against_any y s V hyok HX.out)
      have HCV : Hid (cmpE y.1 s < 0 ↔ lexB y.1 s = true) := cmpE_neg y.1 s
      have Hx : Hid (∀ V, Kp No wr V → V.rangeAt g (o + h * 34) (entC y)) := fun V hV => ((hr.kp (hK.andNone hV) (fun x => x)).2 h y hy).2
      have HIx := hid (inf hyok)
      have HYES : Hid (lexB y.1 s = true → Half (fun z => lexB z.1 s) d (h + 1) j) := fun e => hHf.yes (h := h) (by omega) (by omega) hy e HMO.out
      have HNO : Hid (lexB y.1 s = false → Half (fun z => lexB z.1 s) d i h) := fun e => hHf.no (h := h) (by omega) (by omega) hy e HMO.out
      have HKK := hid hK
      have hhN : (h : Int) < (n : Int) := by omega
      have hwh : IntKind.i64.wrap ((h : Int) + 1) = ((h + 1 : Nat) : Int) := by rw [IntKind.wrap_i64]; omega
      obtain ⟨cx, hcx⟩ : ∃ cx, entC y = cx := ⟨_, rfl⟩
      rw [hcx] at HCMP
      rw [hcx] at Hx HIx
      obtain ⟨z, hzz⟩ : ∃ z, cmpE y.1 s = z := ⟨_, rfl⟩
      rw [hzz] at HCMP HCV
      clear hcx hzz hHf hK hr hy hyok hh HS
      by_cases hz : z < 0
      · have HH2 := hid (HYES.out (HCV.out.1 hz))
        clear HYES HNO HCV
        go_wp2_with (first | (refine wpList_load_mid (by rfl) 70 _ (by rfl) g (o + h * 34) (by rfl) cx _ (Hx.out _ (Kp.refl _ _)) Try.underlying70 rfl HIx.out ?_) | (go_at_call 61; refine (HCMP.out _).mono ?_; rintro e w3 ⟨rfl, h3⟩; have HK3 : Hid (Kp No wr w3) := hid h3; clear h3))
        have HA3 := hid (HKK.out.andNone HK3.out)
        clear HK3 HCMP Hx HIx HKK
        go_round
        case rel => exact ⟨h + 1, j, by go_num, rfl, by omega, by omega, HH2.out, HA3.out⟩
        case measure => simp [intOf]; omega
      · have hls : lexB y.1 s = false := by
          cases hb : lexB y.1 s with
          | false => rfl
          | true => exact absurd (HCV.out.2 hb) hz
        have HH2 := hid (HNO.out hls)
        clear HYES HNO HCV hls
        go_wp2_with (first | (refine wpList_load_mid (by rfl) 70 _ (by rfl) g (o + h * 34) (by rfl) cx _ (Hx.out _ (Kp.refl _ _)) Try.underlying70 rfl HIx.out ?_) | (go_at_call 61; refine (HCMP.out _).mono ?_; rintro e w3 ⟨rfl, h3⟩; have HK3 : Hid (Kp No wr w3) := hid h3; clear h3))
        have HA3 := hid (HKK.out.andNone HK3.out)
        clear HK3 HCMP Hx HIx HKK
        go_round
        case rel => exact ⟨i, h, rfl, rfl, by omega, by omega, HH2.out, HA3.out⟩
        case measure => simp [intOf]; omega
    · have hltI : ¬ (i : Int) < (j : Int) := by omega
      obtain ⟨hHf, hK⟩ := HS.out
      have hji : j = i := by omega
      rw [hji] at hHf
      have HE := hid hHf.end
      have HKK := hid hK
      clear hHf hK HS
      by_cases hin : i < n
      · have hinI : (i : Int) < (n : Int) := by omega
        obtain ⟨g, o, rfl, _, hr⟩ := H6.out (by intro e; have := HN.out; rw [e] at this; simp at this; omega)
        obtain ⟨y, hy⟩ : ∃ y, d[i]? = some y := ⟨_, List.getElem?_eq_getElem (by have := HN.out; omega)⟩
        have hyok := (hr.2 i y hy).1
        have HCMP := hid (fun V => against_any y s V hyok HX.out)
        have HCV : Hid (cmpE y.1 s = 0 ↔ y.1 = s) := cmpE_zero y.1 s
        have Hx : Hid (∀ V, Kp No wr V → V.rangeAt g (o + i * 34) (entC y)) := fun V hV => ((hr.kp (HKK.out.andNone hV) (fun x => x)).2 i y hy).2
        have HIx := hid (inf hyok)
        have HYE := hid hy
        obtain ⟨cx, hcx⟩ : ∃ cx, entC y = cx := ⟨_, rfl⟩
        rw [hcx] at HCMP
        rw [hcx] at Hx HIx
        obtain ⟨z, hzz⟩ : ∃ z, cmpE y.1 s = z := ⟨_, rfl⟩
        rw [hzz] at HCMP HCV
        clear hcx hzz hr hy hyok
        by_cases hz : z = 0
        · have HB : Hid (BS d s i true) := ⟨by rw [HN.out]; omega, HE.out.1, HE.out.2, ⟨fun _ => ⟨y, HYE.out, HCV.out.1 hz⟩, fun _ => rfl⟩⟩
          clear HCV
          go_wp2_with (first | (refine wpList_bare (by rfl) ?_; refine wpList_load_mid (by rfl) 70 _ (by rfl) g (o + i * 34) (by rfl) cx _ (Hx.out _ (Kp.refl _ _)) Try.underlying70 rfl HIx.out ?_) | (go_at_call 61; refine (HCMP.out _).mono ?_; rintro e w3 ⟨rfl, h3⟩; have HK3 : Hid (Kp No wr w3) := hid h3; clear h3))
          have HA3 := hid (HKK.out.andNone HK3.out)
          clear HK3 HCMP Hx HIx HKK
          go_ret2
          exact ⟨⟨i, true, rfl, HB.out⟩, HA3.out⟩
        · have HB : Hid (BS d s i false) := ⟨by rw [HN.out]; omega, HE.out.1, HE.out.2, ⟨fun h => (by cases h), fun ⟨q, hq, hqe⟩ => (by
            rw [HYE.out] at hq
            cases hq
            exact absurd (HCV.out.2 hqe) hz)⟩⟩
          have hzb : (z == 0) = false := by simpa using hz
          clear HCV
          go_wp2_with (first | (refine wpList_bare (by rfl) ?_; refine wpList_load_mid (by rfl) 70 _ (by rfl) g (o + i * 34) (by rfl) cx _ (Hx.out _ (Kp.refl _ _)) Try.underlying70 rfl HIx.out ?_) | (go_at_call 61; refine (HCMP.out _).mono ?_; rintro e w3 ⟨rfl, h3⟩; have HK3 : Hid (Kp No wr w3) := hid h3; clear h3))
          have HA3 := hid (HKK.out.andNone HK3.out)
          clear HK3 HCMP Hx HIx HKK
          go_ret2
          exact ⟨⟨i, false, rfl, HB.out⟩, HA3.out⟩
      · have hinI : ¬ (i : Int) < (n : Int) := by omega
        have HB : Hid (BS d s i false) := ⟨by rw [HN.out]; omega, HE.out.1, HE.out.2, ⟨fun h => (by cases h), fun ⟨y, hy, _⟩ => (by have := (List.getElem?_eq_some_iff.1 hy).1; have := HN.out; omega)⟩⟩
        go_wp2_with fail
        have HA3 := hid HKK.out
        clear HKK
        go_ret2
        exact ⟨⟨i, false, rfl, HB.out⟩, HA3.out⟩
end Go.Proofs.Ytenfahecnkdhaaa.Nd
end

section
/-
  Back of the tenth law: entries of the program's type as the document's.
-/
namespace Go.Proofs.Ytenfahecnkdhaaa.Nd
open Go.RowKit
open Stb (Stab Srt Mrg)
open Sim (hid Kp No)

theorem infoR : (Try.prog.info? 79).map (fun i => (i.zero, i.size, i.bytes)) = some (some (.agg zE.toArray), 34, 56) := by kernel_rfl
theorem x32 {nm : List Int} (h : nm.length = 32) : ∃ x0 x1 x2 x3 x4 x5 x6 x7 x8 x9 x10 x11 x12 x13 x14 x15 x16 x17 x18 x19 x20 x21 x22 x23 x24 x25 x26 x27 x28 x29 x30 x31,
    nm = [x0, x1, x2, x3, x4, x5, x6, x7, x8, x9, x10, x11, x12, x13, x14, x15, x16, x17, x18, x19, x20, x21, x22, x23, x24, x25, x26, x27, x28, x29, x30, x31] := by
  match nm, h with
  | [x0, x1, x2, x3, x4, x5, x6, x7, x8, x9, x10, x11, x12, x13, x14, x15, x16, x17, x18, x19, x20, x21, x22, x23, x24, x25, x26, x27, x28, x29, x30, x31], _ => exact ⟨_, _, _, _, _, _, _, _, _, _, _, _, _, _, _, _, _, _, _, _, _, _, _, _, _, _, _, _, _, _, _, _, rfl⟩
theorem run_oneR (nm : List Int) (p : Bool) (hs : List Int) (h : hs.length = 32) (w : World) : (Instr.buildSlice 25 1 #[(0, .agg (entC (nm, p, hs)).toArray)]).run Try.prog w = .ok (.slice (some ⟨w.heap.size, 0, none⟩) 1 1) (w.alloc (.cells (entC (nm, p, hs)).toArray 79)) := by
  obtain ⟨x0, x1, x2, x3, x4, x5, x6, x7, x8, x9, x10, x11, x12, x13, x14, x15, x16, x17, x18, x19, x20, x21, x22, x23, x24, x25, x26, x27, x28, x29, x30, x31, rfl⟩ := x32 h
  generalize hT : txt nm = T
  unfold entC
  rw [hT]
  kernel_rfl
theorem own_rowT {ty : TypeId} {w : World} {g n cap : Nat} {d : List Ent} (h : Sim.Row w ty 34 (.slice (some ⟨g, 0, none⟩) n cap) n (ents d)) (hn : d.length = n) (hd : ∀ e ∈ d, EOk e) : EOwn w g 0 d := by
  have hg : g < w.heap.size := h.lt g rfl
  refine ⟨⟨hg, fun i e hi => ⟨hd e (List.mem_of_getElem? hi), fun j u hj => ?_⟩⟩, fun i hi j hj => ?_⟩
  · have hil := (List.getElem?_eq_some_iff.1 hi).1
    have hjl := (List.getElem?_eq_some_iff.1 hj).1
    rw [entC_length (hd e (List.mem_of_getElem? hi))] at hjl
    rw [Nat.zero_add, h.cellAt (i * 34 + j) (by omega), ents_at d hd i j e hi hjl]
    exact hj
  · have hx : ∃ u, (ents d)[i * 34 + j]? = some u := ⟨_, List.getElem?_eq_getElem (by rw [ents_length d hd]; omega)⟩
    obtain ⟨u, hu⟩ := hx
    rw [Nat.zero_add, h.cellAt (i * 34 + j) (by omega), hu]
    exact ⟨rfl, World.ownsRow.frozenAt h _⟩
theorem ev_of_rowT {ty : TypeId} {w : World} {v : Value} {d : List Ent} {P : Nat → Prop} (h : Sim.Row w ty 34 v d.length (ents d)) (hd : ∀ e ∈ d, EOk e) (hP : ∀ x, v.ownBlock = some x → P x) : EV P w v d := by
  obtain ⟨a, cap, rfl, h2, h3, h4, h5⟩ := h.shape
  refine ⟨a, cap, rfl, h2, h3, fun e => ⟨List.length_eq_zero_iff.1 (h4 e).1, (h4 e).2⟩, hd, fun hne => ?_⟩
  cases a with
  | none => exact absurd (List.length_eq_zero_iff.1 (h4 rfl).1) hne
  | some x =>
    obtain ⟨g, o, sp⟩ := x
    obtain ⟨e1, e2⟩ := h5 _ rfl
    cases e1
    cases e2
    exact ⟨g, 0, rfl, hP g rfl, (own_rowT h rfl hd).1⟩

/-- A row of the document's entries, of the call's own, that began at u. -/
def MineR (u w : World) (v : Value) (d : List Ent) : Prop := Sim.Row w 79 34 v d.length (ents d) ∧ (∀ x, v.ownBlock = some x → u.heap.size ≤ x) ∧ Kp No u w
theorem MineR.nil (w : World) : MineR w w (.slice none 0 0) [] := ⟨Sim.Row.nil _ _ _, by intro x hx; simp [Value.ownBlock] at hx, Kp.refl _ _⟩
theorem app_runR (w : World) (ty : TypeId) (v vx : Value) (n m : Nat) (xs ys : List Value) (hown : Sim.Row w 79 34 v n xs) (hy : Sim.Src w vx m 34 ys) (hm : 0 < m) (hlen : n + m ≤ 2000000) :
    ∃ ad cap w', (Builtin.append_ #[25, 25] ty #[v, vx]).run Try.prog w = .ok (.slice ad (n + m) cap) w' ∧ Sim.Row w' 79 34 (.slice ad (n + m) cap) (n + m) (xs ++ ys) ∧ w.grownBy w' v.ownBlock ∧ ((Value.slice ad (n + m) cap).ownBlock = v.ownBlock ∨ (Value.slice ad (n + m) cap).ownBlock = some w.heap.size) := by
  obtain ⟨i0, hi, hz0, hz1', hz2⟩ := info_parts infoR
  rcases hy with ⟨rfl, rfl, rfl⟩ | ⟨ad, c, rfl, hl, hc, h1⟩
  · omega
  · obtain ⟨v', w', hr, h8, h9, _, h10⟩ := run_append_own_at (P := Try.prog) w 0 25 ty 79 i0 (.agg zE.toArray) 34 56 Try.underlying25 hi hz0 hz1' hz2 rfl (by omega) v n xs hown ad m c ys hl hc h1 (by unfold maxLen; omega) (by omega) (Nat.zero_le _)
    have h8' : Sim.Row w' 79 34 v' (n + m) (xs ++ ys) := h8
    obtain ⟨ad', cap', rfl, _⟩ := h8'.shape
    exact ⟨ad', cap', w', hr, h8, h9, h10⟩

theorem ev_row {P : Nat → Prop} {w : World} {a : Option Addr} {n c : Nat} {d : List Ent} (h : EV P w (.slice a n c) d) (hd : d ≠ []) : ∃ g o, a = some ⟨g, o, none⟩ ∧ P g ∧ ERow w g o d := by
  obtain ⟨a', c', e, _, _, _, _, h6⟩ := h
  simp only [Value.slice.injEq] at e
  rw [e.1]
  exact h6 hd

theorem txt_size (a : List Int) : (txt a).size = a.length := by simp [txt, ByteArray.size, Lib.bytesOf]
theorem txt_bb {a b : List Int} (ha : ∀ x ∈ a, 0 ≤ x ∧ x ≤ 255) (hb : ∀ x ∈ b, 0 ≤ x ∧ x ≤ 255) : bytesBefore (txt a).data.toList (txt b).data.toList = lexB a b := by
  rw [Bool.eq_iff_iff, ← Tr.cmp_neg, ← cmpE_neg, txt_cmp ha hb]
theorem kp_of {w w' : World} (k : Tr.Kp Tr.No w w') : Kp No w w' := ⟨k.os, k.tape, k.output, k.size, fun x h _ => k.block x h (fun h => h)⟩
theorem less_any (a b : List Int) (w : World) (ha : ∀ x ∈ a, 0 ≤ x ∧ x ≤ 255) (hb : ∀ x ∈ b, 0 ≤ x ∧ x ≤ 255) (la : a.length ≤ 1000000) (lb : b.length ≤ 1000000) :
    Calls Try.prog 59 #[.string (txt a), .string (txt b)] w fun e w' => e = .returned (.bool (lexB a b)) ∧ Kp No w w' := by
  have h := Tr.rLess_any (txt a) (txt b) (by rw [txt_size]; omega) (by rw [txt_size]; omega) w
  rw [txt_bb ha hb] at h
  exact h.mono fun e w' h => ⟨h.1, kp_of h.2⟩
theorem exec_sliceE {P : Program} {o : Oper} {a : Act} {w w' : World} (t : TypeId) (x : Operand) (ho : o.op = .buildSlice t 1 #[(0, x)]) (v u : Value) (hx : a.eval x = v) (hr : (Instr.buildSlice t 1 #[(0, v)]).run P w = .ok u w') : (execOp a.eval o).run P w = .ok (.value u) w' := by
  unfold execOp
  simp [ho, hx, hr, Result.andThen]
theorem exec_appE {P : Program} {o : Oper} {a : Act} {w w' : World} (s x : Operand) (t : TypeId) (ho : o.op = .call { callee := .builtin .append, args := #[s, x], argTypes := #[t, t] }) (vs vx v : Value) (hs : a.eval s = vs) (hx : a.eval x = vx)
    (hr : (Builtin.append_ #[t, t] o.type #[vs, vx]).run P w = .ok v w') : (execOp a.eval o).run P w = .ok (.value v) w' := by
  unfold execOp
  simp [ho, resolve, invoke, builtin, hs, hx, hr, Result.andThen]
theorem wp_valE {P : Program} {o : Oper} {a : Act} {K : Act → World → Prop} {Q : Exit → Act → World → Prop} {w w' : World} {v : Value} (hr : (execOp a.eval o).run P w = .ok (.value v) w') (h : K (a.put o.dst v) w') : Oper.wp P o a w K Q := by
  unfold Oper.wp
  rw [hr]
  exact h
end Go.Proofs.Ytenfahecnkdhaaa.Nd
end
