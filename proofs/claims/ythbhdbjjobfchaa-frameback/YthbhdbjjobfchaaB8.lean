/- Of the proof: the texts FrScan, FrBackM, FrAt, TlvRefTake, TlvRForm, one behind the other. -/
import Derived.Test.YthbhdbjjobfchaaB7
import Derived.Test.YthbhdbjjobfchaaB4
import Derived.Test.YthbhdbjjobfchaaB2
import Derived.Test.YthbhdbjjobfchaaB3
section
/-
  What Scan answers.
-/
namespace Go.Proofs.Ythbhdbjjobfchaa
open Go.RowKit Go.Shelf
open Tlv (Tr BySlS AgreeS Agree)
open Crc (hid Kept Tab)
attribute [local go_sem] Oper.semAt_some

/-- A placed record of nothing. -/
def zPl : List Value := placedA 0 0 zRec
theorem zero62 (w : World) : (zeroValue 62).run Try.prog w = .ok (.agg zPl.toArray) w := by kernel_rfl
theorem Try.info62 : (Try.prog.info? 62).map (·.size) = some 36 := by kernel_rfl

/-- The cells of a value. -/
def aggL (vs : Array Value) : List Value := match (vs[0]? : Option Value) with
  | some (Value.agg A) => A.toList
  | _ => []

/-- The loop's variable, as it is made anew for each round. -/
def asgP (vs : Array Value) (U : World) : World := (U.alloc (.cells zPl.toArray 62)).setCells U.heap.size 0 (aggL vs)
theorem asgP_below (vs : Array Value) (U : World) : Below U.heap.size U (asgP vs U) := ((Below.refl _ _).alloc (Nat.le_refl _) _).trans (setCells_below (Nat.le_refl _) _ _ _)
theorem asgP_size (vs : Array Value) (U : World) : (asgP vs U).heap.size = U.heap.size + 1 := by rw [asgP, setCells_size]; simp

theorem info62' : (Try.prog.info? 62).map (fun i => (i.zero, i.size, i.bytes)) = some (some (.agg zPl.toArray), 36, 80) := by kernel_rfl

/-- One placed record, laid in a row. -/
theorem run_onepl (p n : Nat) (k : Int) (nm : List Int) (a : Option Addr) (l c : Nat) (hn : nm.length = 32) (w : World) :
    (Instr.buildSlice 48 1 #[(0, .agg (placedA p n (recA k nm (.slice a l c))).toArray)]).run Try.prog w =
      .ok (.slice (some ⟨w.heap.size, 0, none⟩) 1 1) (w.alloc (.cells (placedA p n (recA k nm (.slice a l c))).toArray 62)) := by
  obtain ⟨x0, x1, x2, x3, x4, x5, x6, x7, x8, x9, x10, x11, x12, x13, x14, x15, x16, x17, x18, x19, x20, x21, x22, x23, x24, x25, x26, x27, x28, x29, x30, x31, rfl⟩ := ex32 hn
  kernel_rfl

theorem exec_slice1 {P : Program} {o : Oper} {a : Act} {w w' : World} (ty : TypeId) (x : Operand) (ho : o.op = .buildSlice ty 1 #[(0, x)]) (vx v : Value) (hx : a.eval x = vx) (hr : (Instr.buildSlice ty 1 #[(0, vx)]).run P w = .ok v w') :
    (execOp a.eval o).run P w = .ok (.value v) w' := by
  have e : ((#[(0, x)] : Array (Nat × Operand)).map fun (i, x) => (i, a.eval x)) = #[(0, vx)] := by simp [hx]
  unfold execOp
  simp only [ho, Sem.run_bind, e, hr, Result.andThen_ok]
  rfl

theorem exec_append {P : Program} {o : Oper} {a : Act} {w w' : World} (s x : Operand) (t : TypeId) (ho : o.op = .call { callee := .builtin .append, args := #[s, x], argTypes := #[t, t] }) (vs vx v : Value) (hs : a.eval s = vs) (hx : a.eval x = vx)
    (hr : (Builtin.append_ #[t, t] o.type #[vs, vx]).run P w = .ok v w') : (execOp a.eval o).run P w = .ok (.value v) w' := by
  unfold execOp
  simp [ho, resolve, invoke, builtin, hs, hx, hr, Result.andThen]

/-- What Scan leaves. -/
def Scanned (w w' : World) (b : Nat) (e : Ending) (S : List Item × Nat × Int) : Prop :=
  ∃ a c, e = .returned (.tuple #[.slice a S.1.length c, .int .i64 (S.2.1 : Nat), .int .i64 S.2.2]) ∧ PRow 62 w.heap.size b w' (.slice a S.1.length c) S.1 ∧ Kept b w w' ∧ TabX w' b

/-- What stands behind k rounds: the three variables at s, what was found, where it goes on. -/
def SI (w : World) (base s b : Nat) (xs : List Int) (k m : Nat) (W : World) : Prop :=
  ∃ (v : Value) (pos : Nat), Boxed W s 48 v ∧ Boxed W (s + 1) 3 (.int .i64 (pos : Int)) ∧ Boxed W (s + 2) 32 (.int .i64 0) ∧ PRow 62 base b W v ((tl xs 0).take k) ∧
    scanF xs = ((tl xs 0).take k ++ (scanR ((tl xs 0).drop k) pos).1, (scanR ((tl xs 0).drop k) pos).2) ∧ Kept b w W ∧ (∀ r, v.ownBlock = some r → r < m) ∧ pos ≤ xs.length ∧ base ≤ m

def SX (w : World) (base s b : Nat) (xs : List Int) (W : World) : Prop :=
  ∃ (v : Value), Boxed W s 48 v ∧ Boxed W (s + 1) 3 (.int .i64 ((scanF xs).2.1 : Nat)) ∧ Boxed W (s + 2) 32 (.int .i64 (scanF xs).2.2) ∧ PRow 62 base b W v (scanF xs).1 ∧ Kept b w W ∧ TabX W b

theorem SI.step {w W W' : World} {base s b k m : Nat} {xs : List Int} (h : SI w base s b xs k m W) (hs : s + 3 ≤ base) (hb : b < s) (hw : s = w.heap.size) (hk : CellsKept base b W W') (hbx : ∀ g t u, s ≤ g → g < s + 3 → Boxed W g t u → Boxed W' g t u) (hkk : Kept b w W') : SI w base s b xs k m W' := by
  obtain ⟨v, pos, h0, h1, h2, h3, h4, h5, h6, h7⟩ := h
  exact ⟨v, pos, hbx _ _ _ (by omega) (by omega) h0, hbx _ _ _ (by omega) (by omega) h1, hbx _ _ _ (by omega) (by omega) h2, h3.cells hk (by omega), h4, hkk, h6, h7⟩


theorem tl_mem (xs : List Int) : ∀ (d p : Nat), xs.length - p ≤ d → ∀ x ∈ tl xs p, x.1 < xs.length ∧ x.2 = takeF (xs.drop x.1)
  | 0, p, h, x, hx => by rw [tl_end (by omega)] at hx; cases hx
  | d + 1, p, h, x, hx => by
    by_cases hp : xs.length ≤ p
    · rw [tl_end hp] at hx; cases hx
    · obtain ⟨L, hL, hc⟩ := tl_head (xs := xs) (p := p) (by omega)
      rw [hL] at hx
      rcases List.mem_cons.1 hx with rfl | hx
      · exact ⟨by simp; omega, rfl⟩
      · rcases hc with ⟨hf, rfl⟩ | ⟨_, rfl⟩
        · have := takeF_pos hf
          exact tl_mem xs d _ (by omega) x hx
        · cases hx

/-- The next one told, and what is then left of the scan. -/
theorem scan_next {xs : List Int} {k pos : Nat} {x : Item} (hx : (tl xs 0)[k]? = some x) (h : scanF xs = ((tl xs 0).take k ++ (scanR ((tl xs 0).drop k) pos).1, (scanR ((tl xs 0).drop k) pos).2)) :
    (tl xs 0).take (k + 1) = (tl xs 0).take k ++ [x] ∧ (x.2.1 ≠ 0 → scanF xs = ((tl xs 0).take k, x.1, x.2.1)) ∧
    (x.2.1 = 0 → x.1 + x.2.2.2 ≤ xs.length ∧ scanF xs = ((tl xs 0).take (k + 1) ++ (scanR ((tl xs 0).drop (k + 1)) (x.1 + x.2.2.2)).1, (scanR ((tl xs 0).drop (k + 1)) (x.1 + x.2.2.2)).2)) := by
  obtain ⟨hk, hxe⟩ := List.getElem?_eq_some_iff.1 hx
  have e1 : (tl xs 0).drop k = x :: (tl xs 0).drop (k + 1) := by rw [List.drop_eq_getElem_cons hk, hxe]
  have e2 : (tl xs 0).take (k + 1) = (tl xs 0).take k ++ [x] := by rw [List.take_add_one, hx]; rfl
  rw [e1] at h
  refine ⟨e2, fun hf => ?_, fun hf => ⟨?_, ?_⟩⟩
  · rw [h, scanR, if_neg hf, List.append_nil]
  · obtain ⟨h1, h2⟩ := tl_mem xs _ 0 (Nat.le_refl _) x (List.mem_of_getElem? hx)
    rw [h2] at hf ⊢
    have := takeF_pos hf
    rw [List.length_drop] at this
    omega
  · rw [h, scanR, if_pos hf, e2, List.append_assoc]
    rfl

/-- The three results, stored on the way out. -/
theorem scan_set3 {W F : World} {s : Nat} {t0 t1 t2 : TypeId} {u0 u1 u2 v0 v1 v2 : Value} (h0 : Boxed W s t0 u0) (h1 : Boxed W (s + 1) t1 u1) (h2 : Boxed W (s + 2) t2 u2)
    (hF : (((W.setCell ⟨s, 0, none⟩ v0).setCell ⟨s + 1, 0, none⟩ v1).setCell ⟨s + 1 + 1, 0, none⟩ v2).drew = F) :
    Boxed F s t0 v0 ∧ Boxed F (s + 1) t1 v1 ∧ Boxed F (s + 2) t2 v2 ∧ Below s W F ∧ F.heap.size = W.heap.size ∧ ∀ i, s + 3 ≤ i → F.heap[i]? = W.heap[i]? := by
  have o : ∀ (U : World) (g k : Nat) (u : Value), k ≠ g → (U.setCell ⟨g, 0, none⟩ u).heap[k]? = U.heap[k]? := fun U g k u h => Below.heap_setCell _ _ _ _ (by simp; omega)
  subst hF
  refine ⟨?_, ?_, ?_, ?_, ?_, fun i hi => ?_⟩
  · show (((W.setCell ⟨s, 0, none⟩ v0).setCell ⟨s + 1, 0, none⟩ v1).setCell ⟨s + 1 + 1, 0, none⟩ v2).heap[s]? = _
    rw [o _ _ _ _ (by omega), o _ _ _ _ (by omega)]
    exact h0.set v0
  · show (((W.setCell ⟨s, 0, none⟩ v0).setCell ⟨s + 1, 0, none⟩ v1).setCell ⟨s + 1 + 1, 0, none⟩ v2).heap[s + 1]? = _
    rw [o _ _ _ _ (by omega)]
    have h : Boxed (W.setCell ⟨s, 0, none⟩ v0) (s + 1) t1 u1 := (o _ _ _ _ (by omega)).trans h1
    exact h.set v1
  · have h : Boxed ((W.setCell ⟨s, 0, none⟩ v0).setCell ⟨s + 1, 0, none⟩ v1) (s + 1 + 1) t2 u2 := ((o _ _ _ _ (by omega)).trans (o _ _ _ _ (by omega))).trans h2
    exact h.set v2
  · exact ((((Below.refl s W).setCell (p := ⟨s, 0, none⟩) (Nat.le_refl _) _).setCell (p := ⟨s + 1, 0, none⟩) (by simp) _).setCell (p := ⟨s + 1 + 1, 0, none⟩) (by simp; omega) _).drew
  · simp
  · show (((W.setCell ⟨s, 0, none⟩ v0).setCell ⟨s + 1, 0, none⟩ v1).setCell ⟨s + 1 + 1, 0, none⟩ v2).heap[i]? = _
    rw [o _ _ _ _ (by omega), o _ _ _ _ (by omega), o _ _ _ _ (by omega)]

theorem ownsRow_kept {ty : TypeId} {base b n : Nat} {w w' : World} {v : Value} {cs : List Value} (h : w.ownsRow base ty 36 v n cs) (k : CellsKept base b w w') (hb : b < base) : w'.ownsRow base ty 36 v n cs := by
  refine ⟨h.1, ?_⟩
  rcases h.2 with h2 | ⟨g, cap, cur, hv, hg, hh, r⟩
  · exact Or.inl h2
  · exact Or.inr ⟨g, cap, cur, hv, hg, k.block g _ _ _ hg (by omega) hh, r⟩

theorem PRow.mono {ty : TypeId} {base base' b : Nat} {w : World} {v : Value} {L : List Item} (h : PRow ty base b w v L) (hb : base' ≤ base) : PRow ty base' b w v L := by
  obtain ⟨us, hl, hown, hn, hk⟩ := h
  refine ⟨us, hl, ⟨hown.1, ?_⟩, hn, fun j x u hj hu => BySlS.mono (hk j x u hj hu) (fun g hg => ⟨by omega, hg.2⟩)⟩
  rcases hown.2 with h2 | ⟨g, cap, cur, hv, hg, r⟩
  · exact Or.inl h2
  · exact Or.inr ⟨g, cap, cur, hv, by omega, r⟩

theorem put_kept {base b D : Nat} {F : World} (hd : F.heap[D]? = some (.deferred (some []))) : CellsKept base b F (F.putObj D (.deferred none)) := by
  have hD := (Array.getElem?_eq_some_iff.1 hd).1
  refine ⟨by simp [World.putObj], fun i cs t fr _ _ h => ?_, fun i o u _ _ h => ?_⟩
  · rw [World.putObj_heap_other (fun e => by rw [e, hd] at h; cases h)]
    exact h
  · rw [World.cell?_of_block (w := F) (a := ⟨i, o, none⟩) (World.putObj_heap_other (fun e => by simp [World.cell?, show i = D from e, hd] at h))]
    exact h

/-- One record more: what stands behind the append and the two stores. -/
theorem push_facts {W W2 : World} {base s b m g cap : Nat} {L : List Item} {x : Item} {v u y : Value} {us C : List Value} {t0 t1 t2 : TypeId} {q1 q2 : Value} (hs : s + 3 ≤ base) (hbW : base ≤ W.heap.size) (hb : b < s) (hm : base ≤ m) (h0 : Boxed W s t0 v) (h1 : Boxed W (s + 1) t1 q1) (h2 : Boxed W (s + 2) t2 q2)
    (hl : us.length = L.length) (hown : W.ownsRow base 62 36 v L.length (cellsP L us)) (hn : ∀ y ∈ L, nmOk y) (hx : nmOk x)
    (hk : ∀ (j : Nat) (x : Item) (u : Value), L[j]? = some x → us[j]? = some u → BySlS (fun g => base ≤ g ∧ g ≠ b ∧ g < W.heap.size ∧ v.ownBlock ≠ some g) W u x.2.2.1.2.2)
    (hu : BySlS (fun g => m ≤ g ∧ g ≠ b ∧ g < W.heap.size) W u x.2.2.1.2.2) (hr : ∀ r, v.ownBlock = some r → r < m)
    (hown2 : W2.ownsRow base 62 36 (.slice (some ⟨g, 0, none⟩) (L.length + 1) cap) (L.length + 1) (cellsP L us ++ plI x u)) (hgrow : (W.alloc (.cells C.toArray 62)).grownBy W2 v.ownBlock) (hat : v.ownBlock = some g ∨ g = W.heap.size + 1) (hg : g < W2.heap.size) {V : World}
    (hV : (W2.setCell ⟨s, 0, none⟩ (.slice (some ⟨g, 0, none⟩) (L.length + 1) cap)).setCell ⟨s + 1, 0, none⟩ y = V) :
    KeepsFrom base W V ∧ Boxed V s t0 (.slice (some ⟨g, 0, none⟩) (L.length + 1) cap) ∧ Boxed V (s + 1) t1 y ∧ Boxed V (s + 2) t2 q2 ∧ PRow 62 base b V (.slice (some ⟨g, 0, none⟩) (L.length + 1) cap) (L ++ [x]) ∧ Below s W V ∧ g < V.heap.size ∧
      (∀ i, i < base → i ≠ s → i ≠ s + 1 → V.heap[i]? = W.heap[i]?) := by
  have o : ∀ (U : World) (g k : Nat) (u : Value), k ≠ g → (U.setCell ⟨g, 0, none⟩ u).heap[k]? = U.heap[k]? := fun U g k u h => Below.heap_setCell _ _ _ _ (by simp; omega)
  have hlt := hown.lt
  have s0 := h0.lt
  have s1 := h1.lt
  have s2 := h2.lt
  have hbase := hown.1
  have low2 : ∀ i, i < W.heap.size → (base ≤ i → v.ownBlock ≠ some i) → W2.heap[i]? = W.heap[i]? := fun i hi hne => by
    rw [hgrow.block i (by simp; omega) (fun e => by have := (hlt i e.symm).1; exact hne this e.symm)]
    exact Below.heap_alloc _ _ _ hi
  have hsz2 : W.heap.size + 1 ≤ W2.heap.size := by have := hgrow.size; simpa using this
  have hVs : V.heap.size = W2.heap.size := by rw [← hV]; simp
  have bB0 : Boxed W2 s t0 v := (low2 s (by omega) (by omega)).trans h0
  have bB1 : Boxed W2 (s + 1) t1 q1 := (low2 (s + 1) (by omega) (by omega)).trans h1
  have bB2 : Boxed W2 (s + 2) t2 q2 := (low2 (s + 2) (by omega) (by omega)).trans h2
  have hbl : Below s W (W.alloc (.cells C.toArray 62)) := (Below.refl _ _).alloc (by omega) _
  have hal : Below W.heap.size W (W.alloc (.cells C.toArray 62)) := (Below.refl _ _).alloc (Nat.le_refl _) _
  have up : ∀ {u : Value} {xs : List Int}, BySlS (fun g => base ≤ g ∧ g ≠ b ∧ g < W.heap.size ∧ v.ownBlock ≠ some g) W u xs → BySlS (fun g => base ≤ g ∧ g ≠ b ∧ g < (W.alloc (.cells C.toArray 62)).heap.size ∧ v.ownBlock ≠ some g) (W.alloc (.cells C.toArray 62)) u xs := fun h =>
    BySlS.mono (BySlS.below h hal (fun g hg => hg.2.2.1)) (fun g hg => ⟨hg.1, hg.2.1, by simp; omega, hg.2.2.2⟩)
  have hp2 : PRow 62 base b W2 (.slice (some ⟨g, 0, none⟩) (L.length + 1) cap) (L ++ [x]) :=
    PRow.push hl hn hx (fun j x u h1 h2 => up (hk j x u h1 h2)) (up (BySlS.mono hu (fun g hg => ⟨by omega, hg.2.1, hg.2.2, fun e => by have := hr g e; omega⟩))) hown2 hgrow (by simpa using hat)
  refine ⟨⟨by omega, fun i ob hi hio hc => ?_⟩, ?_, ?_, ?_, ?_, ?_, by omega, fun i hi h3 h4 => ?_⟩
  · rw [← hV, o _ _ _ _ (by omega), o _ _ _ _ (by omega), low2 i (Array.getElem?_eq_some_iff.1 hio).1 (fun _ e => ?_)]
    · exact hio
    · rcases hown.2 with ⟨h, _⟩ | ⟨g', cap', cur, h, _, hh, _⟩
      · rw [h] at e; simp [Value.ownBlock] at e
      · rw [h] at e
        simp only [Value.ownBlock, Option.some.injEq] at e
        rw [e, hio] at hh
        cases hh
        cases hc
  · rw [← hV]
    exact (o _ _ _ _ (by omega)).trans (bB0.set _)
  · rw [← hV]
    have h : Boxed (W2.setCell ⟨s, 0, none⟩ (.slice (some ⟨g, 0, none⟩) (L.length + 1) cap)) (s + 1) t1 q1 := (o _ _ _ _ (by omega)).trans bB1
    exact h.set _
  · rw [← hV]
    exact (o _ _ _ _ (by omega)).trans ((o _ _ _ _ (by omega)).trans bB2)
  · rw [← hV]
    exact hp2.cells ((CellsKept.of_set _ _ (by omega)).trans (CellsKept.of_set _ _ (by omega))) (by omega)
  · rw [← hV]
    exact (((hbl.grown hgrow (by simp; omega) (fun k e => by have := (hlt k e).1; omega)).setCell (p := ⟨s, 0, none⟩) (Nat.le_refl _) _).setCell (p := ⟨s + 1, 0, none⟩) (by simp) _)
  · rw [← hV, o _ _ _ _ (by omega), o _ _ _ _ (by omega)]
    exact low2 i (by omega) (by omega)

set_option maxHeartbeats 4000000 in
set_option maxRecDepth 100000 in
theorem scan_any (b : Nat) (v : Value) (xs : List Int) (w : World) (hT : TabX w b) (hv : BySlS (fun g => g ≠ b ∧ g < w.heap.size) w v xs) (hxs : xs.length ≤ 1000000000000) :
    Calls Try.prog 21 #[.pointer (some ⟨b, 0, none⟩), v] w fun e w' => Scanned w w' b e (scanF xs) := by
  obtain ⟨av, cv, rfl, _, _, _, h47, _, _⟩ := id hv
  have HT := hid hT
  have HV := hid hv
  have hb := hT.lt
  clear hT hv
  refine (callsIn_wide (n := 3)).1 ?_
  refine callsIn_of_wp_marks Try.func21 rfl trivial ?_ rfl
  simp only [Try.ntmps21, List.size_toArray, List.length_cons, List.length_nil, Nat.reduceAdd, Nat.reduceSub, Array.replicate_succ, Array.replicate_zero, List.push_toArray, List.append_toArray, List.nil_append, List.cons_append]
  gi_wp2_with fail
  refine ⟨trivial, (callsIn_wide.2 (frames_any _ _ _ _ _)).mono ?_⟩
  rintro e w' ⟨rfl, rfl⟩
  gi_wp2_with fail
  obtain ⟨W0, hW0⟩ : ∃ W0, ((((w.alloc (.cells #[.slice none 0 0] 48)).alloc (.cells #[.int .i64 0] 3)).alloc (.cells #[.int .i64 0] 32)).alloc (.cells #[.pointer (some ⟨b, 0, none⟩)] 30)).alloc (.cells #[.slice av xs.length cv] 24) = W0 := ⟨_, rfl⟩
  have bel : Below w.heap.size w W0 := by rw [← hW0]; exact (((((Below.refl _ w).alloc (Nat.le_refl _) _).alloc (by simp) _).alloc (by simp; omega) _).alloc (by simp; omega) _).alloc (by simp; omega) _
  have hsz : W0.heap.size = w.heap.size + 5 := by rw [← hW0]; simp
  have b0 : Boxed W0 w.heap.size 48 (.slice none 0 0) := by rw [← hW0]; exact ((((Boxed.new w 48 (.slice none 0 0)).alloc _).alloc _).alloc _).alloc _
  have b1 : Boxed W0 (w.heap.size + 1) 3 (.int .i64 0) := by
    rw [← hW0]
    have h := (((Boxed.new (w.alloc (.cells #[.slice none 0 0] 48)) 3 (.int .i64 0)).alloc (.cells #[.int .i64 0] 32)).alloc (.cells #[.pointer (some ⟨b, 0, none⟩)] 30)).alloc (.cells #[.slice av xs.length cv] 24)
    simpa only [World.size_alloc] using h
  have b2 : Boxed W0 (w.heap.size + 2) 32 (.int .i64 0) := by
    rw [← hW0]
    have h := ((Boxed.new ((w.alloc (.cells #[.slice none 0 0] 48)).alloc (.cells #[.int .i64 0] 3)) 32 (.int .i64 0)).alloc (.cells #[.pointer (some ⟨b, 0, none⟩)] 30)).alloc (.cells #[.slice av xs.length cv] 24)
    simpa only [World.size_alloc] using h
  have bq : Boxed W0 (w.heap.size + 3) 30 (.pointer (some ⟨b, 0, none⟩)) := by
    rw [← hW0]
    have h := (Boxed.new (((w.alloc (.cells #[.slice none 0 0] 48)).alloc (.cells #[.int .i64 0] 3)).alloc (.cells #[.int .i64 0] 32)) 30 (.pointer (some ⟨b, 0, none⟩))).alloc (.cells #[.slice av xs.length cv] 24)
    simpa only [World.size_alloc] using h
  have bp : Boxed W0 (w.heap.size + 4) 24 (.slice av xs.length cv) := by
    rw [← hW0]
    have h := Boxed.new ((((w.alloc (.cells #[.slice none 0 0] 48)).alloc (.cells #[.int .i64 0] 3)).alloc (.cells #[.int .i64 0] 32)).alloc (.cells #[.pointer (some ⟨b, 0, none⟩)] 30)) 24 (.slice av xs.length cv)
    simpa only [World.size_alloc] using h
  rw [hW0]
  clear hW0
  have hT0 : Ts W0.heap.size b (w.heap.size + 4) (w.heap.size + 3) (.slice av xs.length cv) xs W0 := ⟨⟨Nat.le_refl _, by omega, by omega, by omega, by omega, by omega⟩, HT.out.below bel, BySlS.mono (BySlS.below HV.out bel (fun g hg => hg.2)) (fun g hg => ⟨hg.1, by omega⟩), bp.cell, bq.cell⟩
  refine over_func (gf := 55) (lb := #[.pointer (some ⟨w.heap.size + 4, 0, none⟩), .pointer (some ⟨w.heap.size + 3, 0, none⟩)]) rfl (enters_of Try.func55 (by kernel_rfl) rfl)
    (tells_frames 2 W0.heap.size b (w.heap.size + 4) (w.heap.size + 3) (.slice av xs.length cv) xs) (fun k m vs U h => by obtain ⟨x, a, c, _, rfl, _⟩ := h; rfl) (by omega) (fun U W h k => h.below k) hT0
    (SI w W0.heap.size w.heap.size b xs) (fun c _ W => c = .ret ∧ SX w W0.heap.size w.heap.size b xs W)
    ?ik ?ii ?ix ?i0 asgP asgP_below ?va ?ia
    (fun k vs U => { tmps := #[.pointer (some ⟨b, 0, none⟩), .slice av xs.length cv, undef, undef, .pointer (some ⟨w.heap.size, 0, none⟩), .pointer (some ⟨w.heap.size + 1, 0, none⟩), .pointer (some ⟨w.heap.size + 1 + 1, 0, none⟩), .pointer (some ⟨U.heap.size, 0, none⟩), vs.getD 1 undef, .pointer (some ⟨b, 0, none⟩), .bool false, .pointer (some ⟨b, 0, none⟩), .slice av xs.length cv, .func (.func 55) #[] #[.pointer (some ⟨w.heap.size + 1 + 1 + 1 + 1, 0, none⟩), .pointer (some ⟨w.heap.size + 1 + 1 + 1, 0, none⟩)], vs.getD 0 undef, vs.getD 1 undef, undef, undef, undef, undef, undef, undef, undef, undef, undef, undef, undef, undef, undef, undef, undef, undef, undef], defers := [] })
    ?vv ?assign ?body ?done ?stop
  case ik =>
    intro k m U W h _ hk
    obtain ⟨_, _, _, _, _, _, _, hKU, _⟩ := id h
    exact h.step (by omega) hb rfl (CellsKept.of_kept hk) (fun g t u h1 h2 hbx => (hk.block g hbx.lt (by omega)).trans hbx) (hKU.trans hk)
  case ii =>
    intro k m U W h hp
    obtain ⟨_, _, _, _, _, _, _, hKU, _⟩ := id h
    exact h.step (by omega) hb rfl (CellsKept.of_putl hp) (fun g t u h1 h2 hbx => hp.block hbx) (Kept.then hKU (hp.below.mono (by omega)))
  case ix =>
    rintro c k U W ⟨rfl, v, h0, h1, h2, h3, h4, h5⟩ hp
    exact ⟨rfl, v, hp.block h0, hp.block h1, hp.block h2, h3.cells (CellsKept.of_putl hp) (by omega), Kept.then h4 (hp.below.mono (by omega)), tabX_below h5 hp.below (by omega)⟩
  case i0 =>
    intro W hB _
    exact ⟨.slice none 0 0, 0, (hB.block _ (by omega)).trans b0, (hB.block _ (by omega)).trans b1, (hB.block _ (by omega)).trans b2, by rw [List.take_zero]; exact PRow.nil _ _ _ _, by rw [List.take_zero, List.drop_zero, List.nil_append]; rfl, Kept.then (Kept.below bel) (hB.mono (by omega)), by simp [Value.ownBlock], Nat.zero_le _, hB.size⟩
  case va =>
    rintro k m vs U ⟨x, a, c, h1, h2, h3, h4⟩
    have hbl := asgP_below vs U
    exact ⟨x, a, c, h1, h2, BySlS.mono (BySlS.below h3 hbl (fun g hg => hg.2.2)) (fun g hg => ⟨hg.1, hg.2.1, Nat.lt_of_lt_of_le hg.2.2 hbl.size⟩), h4⟩
  case ia =>
    intro k m vs U _ h
    obtain ⟨_, _, _, _, _, _, _, hKU, _⟩ := id h
    have hbl := asgP_below vs U
    exact h.step (by omega) hb rfl (CellsKept.of_kept (Kept.below hbl)) (fun g t u h1 h2 hbx => (hbl.block g hbx.lt).trans hbx) (hKU.trans (Kept.below hbl))
  case vv =>
    rintro k m vs U W ⟨x, a, c, h1, h2, h3, h4⟩ hp
    exact ⟨x, a, c, h1, h2, BySlS.mono (BySlS.putl h3 hp) (fun g hg => ⟨hg.1, hg.2.1, by rw [hp.size]; exact hg.2.2⟩), h4⟩
  case assign =>
    rintro l k m vs W K _ ⟨x, a, c, h1, rfl, h3, h4⟩ hK
    have hz := zero62
    have hAS : aggL #[.agg (placedA x.1 x.2.2.2 (recA x.2.2.1.1 x.2.2.1.2.1 (.slice a x.2.2.1.2.2.length c))).toArray, .int .i64 x.2.1] = placedA x.1 x.2.2.2 (recA x.2.2.1.1 x.2.2.1.2.1 (.slice a x.2.2.1.2.2.length c)) := rfl
    have HK := hid hK
    unfold asgP at HK
    rw [hAS] at HK
    have HPL := hid (plI_length (x := x) h4 (.slice a x.2.2.1.2.2.length c))
    have HPO := hid (plI_one x a x.2.2.1.2.2.length c)
    unfold plI recI at HPL HPO
    obtain ⟨PA, hPA⟩ : ∃ PA, placedA x.1 x.2.2.2 (recA x.2.2.1.1 x.2.2.1.2.1 (.slice a x.2.2.1.2.2.length c)) = PA := ⟨_, rfl⟩
    rw [hPA] at HK HPL HPO
    rw [hPA]
    obtain ⟨ZP, hZP⟩ : ∃ ZP, zPl = ZP := ⟨_, rfl⟩
    have HZL : Hid (ZP.length = 36) := by rw [← hZP]; rfl
    rw [hZP] at hz HK
    have HTH : Hid (World.there (W.alloc (.cells ZP.toArray 62)) W.heap.size 0 PA.toArray.size) := by
      have h := there_new W ZP 62
      rw [HZL.out] at h
      have e : PA.toArray.size = 36 := HPL.out
      rw [Hid, e]
      exact h
    have HI : Hid ((Try.prog.info? 62).map (·.size) = some PA.toArray.size) := by rw [Hid, show PA.toArray.size = 36 from HPL.out]; exact Try.info62
    have HO : Hid (PA.toArray.all (·.oneCell') = true) := all_oneCell_toArray HPO.out
    clear hPA hZP hAS h1 h3 h4 hK
    generalize x.2.1 = f at *
    gi_wp2_with (refine wpListIn_skip (by rfl) (fun _ h => by cases h) (fun _ => trivial) (exec_store 62 _ _ (by rfl) W.heap.size 0 PA.toArray (by rfl) (by rfl) HTH.out HI.out HO.out) ?_)
    exact HK.out
  case body =>
    rintro l k m vs U W hkN hmU ⟨x, a, c, hx, rfl, hby, hnm⟩ hI hT hWz hWU hU5
    obtain ⟨v, pos, h0, h1, h2, h3, h4, h5, h6, h7, h8⟩ := hI
    obtain ⟨e1, e2, e3⟩ := scan_next hx h4
    obtain ⟨ra, rc, rfl⟩ := h3.form
    obtain ⟨rn, hrn⟩ : ∃ rn, ((tl xs 0).take k).length = rn := ⟨_, rfl⟩
    rw [hrn] at h0 h3 h6
    have hUW : U.heap.size < W.heap.size := by rw [hWz, asgP_size]; omega
    have HRG : Hid (W.rangeAt U.heap.size 0 (plI x (.slice a x.2.2.1.2.2.length c))) := by
      intro j q hq
      rw [World.cell?_of_block (w := asgP _ U) (a := ⟨U.heap.size, 0 + j, none⟩) (hWU U.heap.size (Nat.le_refl _))]
      have ht := there_new U zPl 62
      have hlen := plI_length (x := x) hnm (.slice a x.2.2.1.2.2.length c)
      have h := World.rangeAt_setCells_same (U.alloc (.cells zPl.toArray 62)) U.heap.size 0 (plI x (.slice a x.2.2.1.2.2.length c)) (by rw [hlen]; exact ht)
      exact h j q hq
    have c70 : W.cell? ⟨U.heap.size, 0, none⟩ = some (.int .i64 (x.1 : Int)) := HRG.out 0 _ rfl
    have c71 : W.cell? ⟨U.heap.size, 1, none⟩ = some (.int .i64 (x.2.2.2 : Int)) := HRG.out 1 _ rfl
    have c0 := h0.cell
    have c1 := h1.cell
    have c2 := h2.cell
    have f0 := h0.frozen
    have f1 := h1.frozen
    have f2 := h2.frozen
    change W.cell? ⟨w.heap.size + 1 + 1, 0, none⟩ = _ at c2
    change W.frozen? ⟨w.heap.size + 1 + 1, 0, none⟩ = _ at f2
    have hfl : ∃ f, x.2.1 = f := ⟨_, rfl⟩
    obtain ⟨f, hf⟩ := hfl
    obtain ⟨p, hp⟩ : ∃ p, x.1 = p := ⟨_, rfl⟩
    obtain ⟨N, hN⟩ : ∃ N, x.2.2.2 = N := ⟨_, rfl⟩
    have HF := hid (And.intro hf (And.intro hp hN))
    have hne : U.heap.size ≠ w.heap.size := by omega
    have hne1 : U.heap.size ≠ w.heap.size + 1 := by omega
    by_cases hf0 : f = 0
    · have hfb : (f != 0) = false := by simp [hf0]
      obtain ⟨hPN, hSC⟩ := e3 (by rw [hf]; exact hf0)
      have HSC := hid hSC
      obtain ⟨us, hl, hown, hn, hk⟩ := h3
      have HPL := hid (plI_length (x := x) hnm (.slice a x.2.2.1.2.2.length c))
      have HPO := hid (plI_one x a x.2.2.1.2.2.length c)
      have HBS := hid (run_onepl x.1 x.2.2.2 x.2.2.1.1 x.2.2.1.2.1 a x.2.2.1.2.2.length c hnm.1 W)
      have hPA' : placedA x.1 x.2.2.2 (recA x.2.2.1.1 x.2.2.1.2.1 (.slice a x.2.2.1.2.2.length c)) = plI x (.slice a x.2.2.1.2.2.length c) := rfl
      rw [hPA'] at HBS
      obtain ⟨PA, hPA⟩ : ∃ PA, plI x (.slice a x.2.2.1.2.2.length c) = PA := ⟨_, rfl⟩
      have HPA := hid hPA
      rw [hPA] at HBS HPL HPO HRG
      rw [hrn] at hown
      have hrk : rn ≤ 1000000000000 := by
        have := tl_length_le xs _ 0 (Nat.le_refl _)
        rw [List.length_take] at hrn
        omega
      have hbW : W0.heap.size ≤ W.heap.size := by omega
      have hal : Below W.heap.size W (W.alloc (.cells PA.toArray 62)) := (Below.refl _ _).alloc (Nat.le_refl _) _
      obtain ⟨i, hi, hiz⟩ : ∃ i, Try.prog.info? 62 = some i ∧ (i.zero, i.size, i.bytes) = (some (.agg zPl.toArray), 36, 80) := Option.map_eq_some_iff.1 info62'
      simp only [Prod.mk.injEq] at hiz
      obtain ⟨z1, z2, z3⟩ := hiz
      obtain ⟨g, cap, W2, hap, hown2, hgrow, hat, hg⟩ := run_append_lies (P := Try.prog) (W.alloc (.cells PA.toArray 62)) 48 48 W0.heap.size 62 i (.agg zPl.toArray) 36 80 Try.underlying48 hi z1 z2 z3 rfl (by omega)
        (.slice ra rn rc) rn _ (ownsRow_kept hown (CellsKept.of_kept (b := b) (Kept.below hal)) (by omega)) ⟨W.heap.size, 0, none⟩ 1 1 PA (by rw [HPL.out]) (fun j u h => by rw [Addr.add_lit]; exact range_new W PA 62 j u h) HPO.out (by omega) (by unfold maxLen; omega) (by omega) (by simp; omega) _ rfl
      have HAP := hid hap
      have low2 : ∀ i, i < W.heap.size → (Value.slice ra rn rc).ownBlock ≠ some i → W2.heap[i]? = W.heap[i]? := fun i hi hne => by
        rw [hgrow.block i (by simp; omega) (fun e => hne e.symm)]
        exact Below.heap_alloc _ _ _ hi
      have hlt := hown.lt
      have s2 := h2.lt
      have nlow : ∀ i, i < W0.heap.size → (Value.slice ra rn rc).ownBlock ≠ some i := fun i hi e => by have := (hlt i e).1; omega
      have q0 := low2 w.heap.size (by omega) (nlow _ (by omega))
      have q1 := low2 (w.heap.size + 1) (by omega) (nlow _ (by omega))
      have q7 := low2 U.heap.size hUW (fun e => by have := h6 _ e; omega)
      have c0' := (World.cell?_of_block (a := ⟨w.heap.size, 0, none⟩) q0).trans c0
      have c1' := (World.cell?_of_block (a := ⟨w.heap.size + 1, 0, none⟩) q1).trans c1
      have f0' := (World.frozen?_of_block (a := ⟨w.heap.size, 0, none⟩) q0).trans f0
      have f1' := (World.frozen?_of_block (a := ⟨w.heap.size + 1, 0, none⟩) q1).trans f1
      have c70' := (World.cell?_of_block (a := ⟨U.heap.size, 0, none⟩) q7).trans c70
      have c71' := (World.cell?_of_block (a := ⟨U.heap.size, 1, none⟩) q7).trans c71
      have HI : Hid ((Try.prog.info? 62).map (·.size) = some PA.length) := by rw [Hid, HPL.out]; exact Try.info62
      have HALL := hid (And.intro hown2 (And.intro hgrow (And.intro hat hg)))
      have HROW := hid (And.intro hl (And.intro hown (And.intro hn hk)))
      have HB := hid (And.intro hby (And.intro hnm (And.intro h0 (And.intro h1 h2))))
      have HT2 := hid hT
      rw [hp] at c70' hPN
      rw [hN] at c71' hPN
      clear e2 e3 hN hp hWU hWz hSC hown2 hgrow hat hg hown hn hk hl hby hnm h0 h1 h2 hT low2 nlow hlt q0 q1 q7 hap hal hPA' hPA c70 c71 hi z1 z2 z3
      simp only [hf]
      clear hf
      gi_wp2_with (first
        | (refine wpListIn_val (by rfl) (fun _ h => by cases h) (fun _ => trivial) (exec_load 62 _ (by rfl) U.heap.size 0 (by rfl) PA _ HRG.out Try.underlying62 rfl HI.out) ?_)
        | (refine wpListIn_val (by rfl) (fun _ h => by cases h) (fun _ => trivial) (exec_slice1 48 _ (by rfl) (.agg PA.toArray) _ (by rfl) HBS.out) ?_)
        | (refine wpListIn_val (by rfl) (fun _ h => by cases h) (fun _ => trivial) (exec_append _ _ 48 (by rfl) (.slice ra rn rc) (.slice (some ⟨W.heap.size, 0, none⟩) 1 1) _ (by rfl) (by rfl) HAP.out) ?_))
      obtain ⟨y1, y2, y3⟩ := HF.out
      obtain ⟨hown2, hgrow, hat, hg⟩ := HALL.out
      obtain ⟨hl, hown, hn, hk⟩ := HROW.out
      obtain ⟨hby, hnm, h0, h1, h2⟩ := HB.out
      have hSC := HSC.out
      have hPA := HPA.out
      have hT := HT2.out
      rw [y2, y3] at hSC
      subst hPA
      subst hrn
      obtain ⟨V, hV⟩ : ∃ V, (W2.setCell ⟨w.heap.size, 0, none⟩ (.slice (some ⟨g, 0, none⟩) (((tl xs 0).take k).length + 1) cap)).setCell ⟨w.heap.size + 1, 0, none⟩ (.int .i64 ((p : Int) + (N : Int))) = V := ⟨_, rfl⟩
      rw [hV]
      obtain ⟨k1, k2, k3, k4, k5, k6, k7, k8⟩ := push_facts (base := W0.heap.size) (b := b) (by omega) hbW hb h8 h0 h1 h2 hl hown hn hnm hk hby h6 hown2 hgrow (by simpa using hat) hg hV
      have hKV := Kept.then h5 k6
      obtain ⟨⟨t1, t2, t3, t4, t5, t6⟩, ht, _, hp, hq⟩ := hT
      refine ⟨k1, ⟨.slice (some ⟨g, 0, none⟩) (((tl xs 0).take k).length + 1) cap, p + N, k2, ?_, k4, ?_, hSC, hKV, ?_, hPN, ?_⟩, ⟨⟨?_, t2, t3, t4, t5, t6⟩, tabX_below ht k6 hb, ?_, ?_, ?_⟩⟩
      · rw [Int.natCast_add]; exact k3
      · rw [e1]; exact k5
      · intro r hr
        simp only [Value.ownBlock, Option.some.injEq] at hr
        omega
      · exact Nat.le_trans hbW k1.size
      · exact Nat.le_trans t1 k1.size
      · exact BySlS.mono (BySlS.kept HV.out hKV (fun g hg => hg)) (fun g hg => ⟨hg.1, by omega⟩)
      · exact (World.cell?_of_block (w := W) (a := ⟨w.heap.size + 4, 0, none⟩) (k8 (w.heap.size + 4) (by omega) (by omega) (by omega))).trans hp
      · exact (World.cell?_of_block (w := W) (a := ⟨w.heap.size + 3, 0, none⟩) (k8 (w.heap.size + 3) (by omega) (by omega) (by omega))).trans hq
    · have hfb : (f != 0) = true := by simp [hf0]
      rw [hp] at c70
      rw [hN] at c71
      have HE := hid (e2 (by rw [hf]; exact hf0))
      have hEq := HF.out
      clear e2 e3 HRG hN hp hWU hWz hEq
      simp only [hf]
      clear hf
      gi_wp2_with fail
      refine wpIn_mono (Q := fun e _ W' => e = .normal ∧ W' = (((W.setCell ⟨w.heap.size, 0, none⟩ (.slice ra rn rc)).setCell ⟨w.heap.size + 1, 0, none⟩ (.int .i64 (p : Int))).setCell ⟨w.heap.size + 1 + 1, 0, none⟩ (.int .i64 f)).drew) ?_ ?_
      · gi_region
        all_goals exact ⟨rfl, rfl⟩
      · rintro e a' W' ⟨rfl, rfl⟩
        gi_wp2_with fail
        obtain ⟨F, hF⟩ : ∃ F, (((W.setCell ⟨w.heap.size, 0, none⟩ (.slice ra rn rc)).setCell ⟨w.heap.size + 1, 0, none⟩ (.int .i64 (p : Int))).setCell ⟨w.heap.size + 1 + 1, 0, none⟩ (.int .i64 f)).drew = F := ⟨_, rfl⟩
        rw [hF]
        obtain ⟨g0, g1, g2, gk, gs, gi⟩ := scan_set3 h0 h1 h2 hF
        obtain ⟨y1, y2, _⟩ := HF.out
        have hEE := HE.out
        rw [y1, y2] at hEE
        refine ⟨⟨by omega, fun i o hi hio _ => (gi i (by omega)).trans hio⟩, rfl, .slice ra rn rc, g0, ?_, ?_, ?_, Kept.then h5 gk, tabX_below hT.2.1 gk hb⟩
        · rw [hEE]; exact g1
        · rw [hEE]; exact g2
        · rw [hEE]
          exact h3.cells ⟨by omega, fun i cs t fr hi _ hio => (gi i (by omega)).trans hio, fun i o u hi _ hio => (World.cell?_of_block (a := ⟨i, o, none⟩) (gi i (by omega))).trans hio⟩ (by omega)
  case done =>
    rintro D m W hD ⟨v, pos, h0, h1, h2, h3, h4, h5, h6, h7, h8⟩ hT hd
    rw [List.take_length, List.drop_length, scanR, List.append_nil] at h4
    rw [List.take_length] at h3
    obtain ⟨ra, rc, rfl⟩ := h3.form
    obtain ⟨L, hL⟩ : ∃ L, tl xs 0 = L := ⟨_, rfl⟩
    rw [hL] at h4 h3 h0 h6
    obtain ⟨rn, hrn⟩ : ∃ rn, L.length = rn := ⟨_, rfl⟩
    rw [hrn] at h0 h3 h6
    have c0 := h0.cell
    have c1 := h1.cell
    have c2 := h2.cell
    have f0 := h0.frozen
    have f1 := h1.frozen
    have f2 := h2.frozen
    change W.cell? ⟨w.heap.size + 1 + 1, 0, none⟩ = _ at c2
    change W.frozen? ⟨w.heap.size + 1 + 1, 0, none⟩ = _ at f2
    gi_wp2_with fail
    refine wpIn_wide.2 ?_
    go_region
    gi_wp2_with fail
    obtain ⟨F, hF⟩ : ∃ F, (((W.setCell ⟨w.heap.size, 0, none⟩ (.slice ra rn rc)).setCell ⟨w.heap.size + 1, 0, none⟩ (.int .i64 (pos : Int))).setCell ⟨w.heap.size + 1 + 1, 0, none⟩ (.int .i64 0)).drew = F := ⟨_, rfl⟩
    rw [hF]
    obtain ⟨g0, g1, g2, gk, gs, gi⟩ := scan_set3 h0 h1 h2 hF
    have gd : F.heap[D]? = some (.deferred (some [])) := (gi D (by omega)).trans hd
    have h3' : PRow 62 W0.heap.size b F (.slice ra rn rc) L := h3.cells ⟨by omega, fun i cs t fr hi _ hio => (gi i (by omega)).trans hio, fun i o u hi _ hio => (World.cell?_of_block (a := ⟨i, o, none⟩) (gi i (by omega))).trans hio⟩ (by omega)
    refine ⟨by simp, .inl ⟨_, _, rfl, run_takeDeferred gd, ?_⟩⟩
    have hpb := put_below (B := w.heap.size + 3) F (.deferred none) (l := D) (by omega) (Array.getElem?_eq_some_iff.1 gd).1
    have z0 := (hpb.cell (p := ⟨w.heap.size, 0, none⟩) (by simp)).trans g0.cell
    have z1 := (hpb.cell (p := ⟨w.heap.size + 1, 0, none⟩) (by simp)).trans g1.cell
    have z2 := (hpb.cell (p := ⟨w.heap.size + 1 + 1, 0, none⟩) (by simp)).trans g2.cell
    rw [h4]
    refine ⟨.tuple #[.slice ra rn rc, .int .i64 (pos : Int), .int .i64 0], by simp [results, Try.results21, go_sem, z0, z1, z2], ra, rc, by rw [hrn], ?_, Kept.then h5 (gk.trans (hpb.mono (by omega))), tabX_below hT.2.1 (gk.trans (hpb.mono (by omega))) hb⟩
    rw [hrn]
    exact (h3'.cells (put_kept gd) (by omega)).mono (by omega)
  case stop =>
    rintro D c k W hD hk ⟨rfl, v, h0, h1, h2, h3, h4, h5⟩ hd
    obtain ⟨ra, rc, rfl⟩ := h3.form
    obtain ⟨S, hS⟩ : ∃ S, scanF xs = S := ⟨_, rfl⟩
    rw [hS] at h0 h1 h2 h3
    gi_wp2_with fail
    rw [hS]
    refine ⟨by simp, .inl ⟨_, _, rfl, run_takeDeferred hd, ?_⟩⟩
    have hpb := put_below (B := w.heap.size + 3) W (.deferred none) (l := D) (by omega) (Array.getElem?_eq_some_iff.1 hd).1
    have z0 := (hpb.cell (p := ⟨w.heap.size, 0, none⟩) (by simp)).trans h0.cell
    have z1 := (hpb.cell (p := ⟨w.heap.size + 1, 0, none⟩) (by simp)).trans h1.cell
    have z2 := (hpb.cell (p := ⟨w.heap.size + 1 + 1, 0, none⟩) (by simp)).trans h2.cell
    refine ⟨.tuple #[.slice ra S.1.length rc, .int .i64 (S.2.1 : Int), .int .i64 S.2.2], by simp [results, Try.results21, go_sem, z0, z1, z2], ra, rc, rfl, (h3.cells (put_kept hd) (by omega)).mono (by omega), Kept.then h4 (hpb.mono (by omega)), tabX_below h5 hpb (by omega)⟩
end Go.Proofs.Ythbhdbjjobfchaa
end

section
/-
  Plain mathematics: frames laid one behind the other, and cut off anywhere, are scanned to those that are whole.
-/
namespace Go.Proofs.Ythbhdbjjobfchaa

abbrev Rec : Type := Int × List Int × List Int
def frOf (r : Rec) : List Int := frameR r.1 r.2.1 r.2.2
def Rt (r : Rec) : Prop := RightR r.1 r.2.1 r.2.2
theorem frOf_length {r : Rec} (h : Rt r) : (frOf r).length = 49 + r.2.2.length := frameR_length h

/-- Frames, one behind the other. -/
def cat : List Rec → List Int
  | [] => []
  | r :: rs => frOf r ++ cat rs
theorem cat_snoc (r : Rec) : ∀ rs : List Rec, cat (rs ++ [r]) = cat rs ++ frOf r
  | [] => by simp [cat]
  | x :: rs => by rw [List.cons_append, cat, cat, cat_snoc r rs, List.append_assoc]
theorem cat_length : ∀ {rs : List Rec}, (∀ r ∈ rs, Rt r) → (cat rs).length ≤ rs.length * 5049
  | [], _ => by simp [cat]
  | r :: rs, h => by
    have h1 := cat_length (fun x hx => h x (List.mem_cons_of_mem _ hx))
    have h2 := frOf_length (h r List.mem_cons_self)
    have h3 := (h r List.mem_cons_self).2.2.1
    rw [cat, List.length_append, List.length_cons]
    omega
theorem cat_bd : ∀ {rs : List Rec}, (∀ r ∈ rs, Rt r) → ∀ x ∈ cat rs, 0 ≤ x ∧ x ≤ 255
  | [], _, x, hx => by simp [cat] at hx
  | r :: rs, h, x, hx => by
    rw [cat] at hx
    rcases List.mem_append.1 hx with hx | hx
    · exact frameR_bd (h r List.mem_cons_self) x hx
    · exact cat_bd (fun y hy => h y (List.mem_cons_of_mem _ hy)) x hx

/-- What is found of them, from a place on. -/
def itemsOf : Nat → List Rec → List Item
  | _, [] => []
  | p, r :: rs => (p, (0, r, (frOf r).length)) :: itemsOf (p + (frOf r).length) rs
theorem itemsOf_length : ∀ (p : Nat) (rs : List Rec), (itemsOf p rs).length = rs.length
  | _, [] => rfl
  | p, r :: rs => by rw [itemsOf, List.length_cons, List.length_cons, itemsOf_length]
theorem itemsOf_get : ∀ (p : Nat) (rs : List Rec) (j : Nat) (r : Rec), rs[j]? = some r → (itemsOf p rs)[j]? = some (p + (cat (rs.take j)).length, (0, r, (frOf r).length))
  | _, [], j, r, h => by simp at h
  | p, x :: rs, 0, r, h => by
    simp only [List.getElem?_cons_zero, Option.some.injEq] at h
    subst h
    simp [itemsOf, cat]
  | p, x :: rs, j + 1, r, h => by
    have h1 : rs[j]? = some r := by simpa using h
    have := itemsOf_get (p + (frOf x).length) rs j r h1
    simp only [itemsOf, List.getElem?_cons_succ, List.take_succ_cons, cat, List.length_append]
    rw [this]
    simp only [Option.some.injEq, Prod.mk.injEq, and_true]
    omega

/-- How many are whole in the first c bytes. -/
def cnt : List Rec → Nat → Nat
  | [], _ => 0
  | r :: rs, c => if (frOf r).length ≤ c then cnt rs (c - (frOf r).length) + 1 else 0
theorem cnt_le : ∀ (rs : List Rec) (c : Nat), cnt rs c ≤ rs.length
  | [], _ => Nat.le_refl _
  | r :: rs, c => by
    rw [cnt]
    split
    · have := cnt_le rs (c - (frOf r).length)
      rw [List.length_cons]
      omega
    · omega
theorem cnt_all : ∀ (rs : List Rec) (c : Nat), (cat rs).length ≤ c → cnt rs c = rs.length
  | [], _, _ => rfl
  | r :: rs, c, h => by
    rw [cat, List.length_append] at h
    rw [cnt, if_pos (by omega), cnt_all rs _ (by omega), List.length_cons]
/-- The frames that end at or ahead of c are the first ones. -/
theorem cnt_iff : ∀ (rs : List Rec) (c j : Nat), j < rs.length → ((cat (rs.take (j + 1))).length ≤ c ↔ j < cnt rs c)
  | [], _, j, h => by simp at h
  | r :: rs, c, 0, h => by
    rw [cnt, List.take_succ_cons, List.take_zero, cat, cat, List.append_nil]
    split <;> omega
  | r :: rs, c, j + 1, h => by
    rw [cnt, List.take_succ_cons, cat, List.length_append]
    have := cnt_iff rs (c - (frOf r).length) j (by simpa using h)
    split
    · omega
    · omega
theorem cnt_end : ∀ (rs : List Rec) (c : Nat), (cat (rs.take (cnt rs c))).length ≤ c
  | [], _ => by simp [cnt, cat]
  | r :: rs, c => by
    rw [cnt]
    split
    · have := cnt_end rs (c - (frOf r).length)
      rw [List.take_succ_cons, cat, List.length_append]
      omega
    · simp [cat]

theorem scan_cat : ∀ (rs : List Rec) (pre : List Int) (c : Nat), (∀ r ∈ rs, Rt r) → c ≤ (cat rs).length →
    scanR (tl (pre ++ (cat rs).take c) pre.length) pre.length = (itemsOf pre.length (rs.take (cnt rs c)), pre.length + (cat (rs.take (cnt rs c))).length, if (cat (rs.take (cnt rs c))).length = c then 0 else 16)
  | [], pre, c, _, hc => by
    have h0 : c = 0 := by simpa [cat] using hc
    subst h0
    rw [tl_end (by simp [cat])]
    simp [scanR, cnt, itemsOf, cat]
  | r :: rs, pre, c, hr, hc => by
    have hR := hr r List.mem_cons_self
    have hl := frOf_length hR
    have hrs : ∀ x ∈ rs, Rt x := fun x hx => hr x (List.mem_cons_of_mem _ hx)
    rw [cat, List.length_append] at hc
    by_cases h1 : (frOf r).length ≤ c
    · have e : (cat (r :: rs)).take c = frOf r ++ (cat rs).take (c - (frOf r).length) := by rw [cat, List.take_append, List.take_of_length_le h1]
      have hd : (pre ++ (cat (r :: rs)).take c).drop pre.length = frOf r ++ (cat rs).take (c - (frOf r).length) := by rw [e, List.drop_left' rfl]
      have ht : takeF ((pre ++ (cat (r :: rs)).take c).drop pre.length) = (0, r, (frOf r).length) := by rw [hd, hl]; exact take_frame hR _
      have hlt : pre.length < (pre ++ (cat (r :: rs)).take c).length := by rw [e, List.length_append, List.length_append]; omega
      rw [tl_good hlt (by rw [ht]), ht]
      have ih := scan_cat rs (pre ++ frOf r) (c - (frOf r).length) hrs (by omega)
      have e2 : (pre ++ (cat (r :: rs)).take c) = (pre ++ frOf r) ++ (cat rs).take (c - (frOf r).length) := by rw [e, List.append_assoc]
      have e3 : pre.length + (frOf r).length = (pre ++ frOf r).length := by rw [List.length_append]
      rw [scanR, if_pos rfl, e2, show (pre.length, ((0 : Int), r, (frOf r).length)).fst + (pre.length, ((0 : Int), r, (frOf r).length)).snd.snd.snd = (pre ++ frOf r).length from e3,
        ih, cnt, if_pos h1, List.take_succ_cons, itemsOf, cat, List.length_append, List.length_append]
      simp only [Prod.mk.injEq, true_and]
      refine ⟨by omega, ?_⟩
      by_cases h2 : (cat (rs.take (cnt rs (c - (frOf r).length)))).length = c - (frOf r).length
      · rw [if_pos h2, if_pos (by omega)]
      · rw [if_neg h2, if_neg (by omega)]
    · have e : (cat (r :: rs)).take c = (frOf r).take c := by rw [cat, List.take_append_of_le_length (by omega)]
      have hc0 : cnt (r :: rs) c = 0 := by rw [cnt, if_neg h1]
      rw [hc0, e]
      by_cases h0 : c = 0
      · subst h0
        rw [tl_end (by simp)]
        simp [scanR, itemsOf, cat]
      · have hd : (pre ++ (frOf r).take c).drop pre.length = (frOf r).take c := by rw [List.drop_left' rfl]
        have ht : takeF ((pre ++ (frOf r).take c).drop pre.length) = noRec 16 := by rw [hd]; exact take_cut hR (by omega)
        have hlt : pre.length < (pre ++ (frOf r).take c).length := by rw [List.length_append, List.length_take]; omega
        rw [tl_bad hlt (by rw [ht]; simp [noRec]), ht, scanR, if_neg (by simp [noRec])]
        simp only [List.take_zero, itemsOf, cat, List.length_nil, Nat.add_zero]
        rw [if_neg (by omega)]
        rfl

/-- What Scan finds in the first c bytes. -/
theorem scanF_cat {rs : List Rec} {c : Nat} (hr : ∀ r ∈ rs, Rt r) (hc : c ≤ (cat rs).length) :
    scanF ((cat rs).take c) = (itemsOf 0 (rs.take (cnt rs c)), (cat (rs.take (cnt rs c))).length, if (cat (rs.take (cnt rs c))).length = c then 0 else 16) := by
  have h := scan_cat rs [] c hr hc
  simpa [scanF] using h

theorem scanR_mem : ∀ (L : List Item) (p : Nat), ∀ x ∈ (scanR L p).1, x ∈ L
  | [], p, x, h => by simp [scanR] at h
  | y :: L, p, x, h => by
    rw [scanR] at h
    split at h
    · rcases List.mem_cons.1 h with rfl | h
      · exact List.mem_cons_self
      · exact List.mem_cons_of_mem _ (scanR_mem L _ x h)
    · simp at h
/-- What stands at the place of the record j. -/
theorem at_cat {rs : List Rec} {c j : Nat} {r : Rec} (hr : ∀ r ∈ rs, Rt r) (hc : c ≤ (cat rs).length) (hj : j < cnt rs c) (hg : rs[j]? = some r) :
    (cat (rs.take j)).length < ((cat rs).take c).length ∧ takeF (((cat rs).take c).drop (cat (rs.take j)).length) = (0, r, (frOf r).length) := by
  have h1 : (rs.take (cnt rs c))[j]? = some r := by rw [List.getElem?_take_of_lt hj]; exact hg
  have h2 := itemsOf_get 0 _ j r h1
  have h3 : (0 + (cat ((rs.take (cnt rs c)).take j)).length, ((0 : Int), r, (frOf r).length)) ∈ (scanF ((cat rs).take c)).1 := by
    rw [scanF_cat hr hc]
    exact List.mem_of_getElem? h2
  obtain ⟨m1, m2⟩ := tl_mem _ _ 0 (Nat.le_refl _) _ (scanR_mem _ _ _ h3)
  rw [List.take_take, Nat.min_eq_left (by omega)] at m1 m2
  simp only [Nat.zero_add] at m1 m2
  exact ⟨m1, m2.symm⟩

end Go.Proofs.Ythbhdbjjobfchaa
end

section
/-
  What At answers.
-/
namespace Go.Proofs.Ythbhdbjjobfchaa
open Go.RowKit Go.Shelf
open Tlv (Tr BySlS AgreeS Agree)
open Crc (hid Kept Tab)

set_option maxHeartbeats 1000000 in
set_option maxRecDepth 100000 in
theorem at_bad (b : Nat) (a : Option Addr) (l c : Nat) (z : Int) (w : World) (hz : z < 0 ∨ (l : Int) ≤ z) :
    Calls Try.prog 26 #[.pointer (some ⟨b, 0, none⟩), .slice a l c, .int .i64 z] w fun e w' => e = .returned (.tuple #[.agg zRec.toArray, .int .i64 1]) ∧ Below w.heap.size w w' := by
  have hz0 := zero35
  obtain ⟨Z, hZ⟩ : ∃ Z, zRec = Z := ⟨_, rfl⟩
  have HZ := hid hZ
  rw [hZ] at hz0
  rw [hZ]
  clear hZ
  have HI2 : Hid ((Try.prog.info? 35).map (·.size) = some Z.toArray.size) := by rw [← HZ.out]; exact Try.info35
  have H1 : Hid (Z.toArray.all (·.oneCell') = true) := by rw [← HZ.out]; exact all_oneCell_toArray zRec_one
  have HT : Hid (World.there (w.alloc (.cells Z.toArray 35)) w.heap.size 0 Z.toArray.size) := there_new w Z 35
  have hr : World.rangeAt ((w.alloc (.cells Z.toArray 35)).setCells w.heap.size 0 Z) w.heap.size 0 Z := World.rangeAt_setCells_same _ _ _ _ HT.out
  by_cases hz1 : z < 0
  · clear hz
    go_enter Try.func26, Try.ntmps26
    go_wp2_with (refine wpList_store_mid (by rfl) 35 _ _ (by rfl) w.heap.size 0 Z.toArray (by rfl) (by rfl) HT.out HI2.out H1.out ?_)
    exact bodyPost_ret (v := .tuple #[.agg Z.toArray, .int .i64 1]) (results_cell_mid2 Try.results26 _ _ w.heap.size 0 _ _ rfl hr Try.underlying35 rfl HI2.out) rfl ⟨rfl, ((Below.refl _ _).alloc (Nat.le_refl _) _).trans (setCells_below (Nat.le_refl _) _ _ _)⟩
  · have hz2 : (l : Int) ≤ z := by omega
    clear hz
    go_enter Try.func26, Try.ntmps26
    go_wp2_with (refine wpList_store_mid (by rfl) 35 _ _ (by rfl) w.heap.size 0 Z.toArray (by rfl) (by rfl) HT.out HI2.out H1.out ?_)
    exact bodyPost_ret (v := .tuple #[.agg Z.toArray, .int .i64 1]) (results_cell_mid2 Try.results26 _ _ w.heap.size 0 _ _ rfl hr Try.underlying35 rfl HI2.out) rfl ⟨rfl, ((Below.refl _ _).alloc (Nat.le_refl _) _).trans (setCells_below (Nat.le_refl _) _ _ _)⟩

/-- What At leaves: as Take does, its length left out. -/
def Atd (w w' : World) (b : Nat) (e : Ending) (x : Int × (Int × List Int × List Int) × Nat) : Prop :=
  ∃ a c, e = .returned (.tuple #[.agg (recA x.2.1.1 x.2.1.2.1 (.slice a x.2.1.2.2.length c)).toArray, .int .i64 x.1]) ∧
    BySlS (fun g => w.heap.size ≤ g ∧ g < w'.heap.size) w' (.slice a x.2.1.2.2.length c) x.2.1.2.2 ∧ (x.2.1.2.1.length = 32 ∧ ∀ y ∈ x.2.1.2.1, 0 ≤ y ∧ y ≤ 255) ∧ Kept b w w' ∧ TabX w' b

set_option maxHeartbeats 1000000 in
set_option maxRecDepth 100000 in
theorem at_any (b k : Nat) (v : Value) (xs : List Int) (w : World) (hT : TabX w b) (hv : BySlS (fun g => g ≠ b ∧ g < w.heap.size) w v xs) (hk : k < xs.length) :
    Calls Try.prog 26 #[.pointer (some ⟨b, 0, none⟩), v, .int .i64 (k : Int)] w fun e w' => Atd w w' b e (takeF (xs.drop k)) := by
  obtain ⟨a', cap, rfl, hc, hmax, _, h47, _, h7⟩ := id hv
  obtain ⟨g, o, rfl, hgb, _⟩ := h7 (by intro e; subst e; simp at hk)
  have HVV : Hid (BySlS (fun x => x ≠ b ∧ x < w.heap.size) w (.slice (some ⟨g, o + k, none⟩) (xs.length - k) (cap - k)) (xs.drop k)) := bySlS_drop hv hk
  have HT := hid hT
  clear hv h7 hT
  unfold maxLen at hmax
  have hz0 := zero35
  obtain ⟨Z, hZ⟩ : ∃ Z, zRec = Z := ⟨_, rfl⟩
  have HZ := hid hZ
  rw [hZ] at hz0
  clear hZ
  go_enter Try.func26, Try.ntmps26
  go_wp2_with fail
  have hB1 : Below w.heap.size w (w.alloc (.cells Z.toArray 35)) := (Below.refl _ _).alloc (Nat.le_refl _) _
  have hHT := there_new w Z 35
  have hs1 : (w.alloc (.cells Z.toArray 35)).heap.size = w.heap.size + 1 := by simp
  generalize hW1 : w.alloc (.cells Z.toArray 35) = W1 at *
  refine (take_any b _ (xs.drop k) W1 (HT.out.below hB1) ?_).mono ?_
  · have h : BySlS (fun x => x ≠ b ∧ x < W1.heap.size) W1 _ _ := BySlS.mono (BySlS.below HVV.out hB1 (fun g hg => hg.2)) (fun g hg => ⟨hg.1, by omega⟩)
    simpa only [List.length_drop] using h
  rintro e w1 ⟨ar, cr, rfl, hby, hnm, hkk, htt⟩
  have hbw := HT.out.lt
  have hz1 := hkk.size
  generalize hX : takeF (xs.drop k) = X at *
  have HPL := hid (recA_length X.2.1.1 X.2.1.2.1 (.slice ar X.2.1.2.2.length cr) hnm.1)
  have HPO := hid (recA_one X.2.1.1 X.2.1.2.1 ar X.2.1.2.2.length cr)
  obtain ⟨C, hC⟩ : ∃ C, recA X.2.1.1 X.2.1.2.1 (.slice ar X.2.1.2.2.length cr) = C := ⟨_, rfl⟩
  rw [hC] at HPL HPO
  rw [hC]
  have HCs : Hid (C.toArray.size = 34) := HPL.out
  have HI : Hid ((Try.prog.info? 35).map (·.size) = some C.toArray.size) := by rw [Hid, HCs.out]; exact Try.info35
  have HO : Hid (C.toArray.all (·.oneCell') = true) := all_oneCell_toArray HPO.out
  have hZl : Z.length = 34 := by rw [← HZ.out]; exact zRec_length
  rw [hZl] at hHT
  have ha1 : Below w1.heap.size w1 (w1.alloc (.cells Z.toArray 35)) := (Below.refl _ _).alloc (Nat.le_refl _) _
  have hb2 := setCells_below (B := w1.heap.size) (Nat.le_refl _) (w1.alloc (.cells Z.toArray 35)) 0 C
  have ht2 : (w1.alloc (.cells Z.toArray 35)).there w1.heap.size 0 34 := by have h := there_new w1 Z 35; rwa [hZl] at h
  have HT2 : Hid (World.there (w1.alloc (.cells Z.toArray 35)) w1.heap.size 0 C.toArray.size) := by rw [Hid, HCs.out]; exact ht2
  have HR2 : Hid (World.rangeAt ((w1.alloc (.cells Z.toArray 35)).setCells w1.heap.size 0 C) w1.heap.size 0 C) := World.rangeAt_setCells_same _ _ _ _ HT2.out
  have h3 : Below w1.heap.size w1 ((w1.alloc (.cells Z.toArray 35)).setCells w1.heap.size 0 C) := ha1.trans hb2
  have HT3 : Hid (World.there ((w1.alloc (.cells Z.toArray 35)).setCells w1.heap.size 0 C) w.heap.size 0 C.toArray.size) := by
    rw [Hid, HCs.out]
    exact there_below (there_kept hHT hkk (by omega) (by omega)) h3 (by omega)
  have HR3 : Hid (World.rangeAt (((w1.alloc (.cells Z.toArray 35)).setCells w1.heap.size 0 C).setCells w.heap.size 0 C) w.heap.size 0 C) := World.rangeAt_setCells_same _ _ _ _ HT3.out
  have H3 := hid h3
  have HBY := hid (And.intro hby (And.intro hnm (And.intro hkk htt)))
  clear h3 ha1 hb2 ht2 hHT hby hnm hkk htt
  go_wp2_with (first
    | (refine wpList_store_mid (by rfl) 35 _ _ (by rfl) w1.heap.size 0 C.toArray (by rfl) (by rfl) HT2.out HI.out HO.out ?_)
    | (refine wpList_load_mid (by rfl) 35 _ (by rfl) w1.heap.size 0 (by rfl) C _ HR2.out Try.underlying35 rfl HI.out ?_)
    | (refine wpList_store_mid (by rfl) 35 _ _ (by rfl) w.heap.size 0 C.toArray (by rfl) (by rfl) HT3.out HI.out HO.out ?_))
  obtain ⟨hby, hnm, hkk, htt⟩ := HBY.out
  have hV : Below w.heap.size w1 (((w1.alloc (.cells Z.toArray 35)).setCells w1.heap.size 0 C).setCells w.heap.size 0 C) := (H3.out.mono (by omega)).trans (setCells_below (Nat.le_refl _) _ _ _)
  refine bodyPost_ret (v := .tuple #[.agg C.toArray, .int .i64 X.1]) (results_cell_mid2 Try.results26 _ _ w.heap.size 0 _ _ rfl HR3.out Try.underlying35 rfl HI.out) rfl ?_
  rw [hX]
  refine ⟨ar, cr, by rw [hC], hby.agree (fun g hg => (setCells_block _ _ _ _ _ (by omega)).trans (H3.out.block g hg.2)) (fun g hg => ⟨by omega, Nat.lt_of_lt_of_le hg.2 hV.size⟩), hnm, Kept.then ((Kept.below hB1).trans hkk) hV, tabX_below htt hV hbw⟩
end Go.Proofs.Ythbhdbjjobfchaa
end

section
/-
  What the reference's Take and Get answer.
-/
namespace Go.Proofs.Ythbhdbjjobfchaa.Tlv
open Go.RowKit
attribute [local go_sem ↓] Go.wp_at_zero Go.wp_at_succ

theorem AgreeS.of {S : Nat → Prop} {L B : Nat} {w w' : World} (h : Agree L B w w') (hS : ∀ b, S b → L ≤ b ∧ b < B) : AgreeS S w w' := fun b hb => h b (hS b hb).1 (hS b hb).2

set_option maxHeartbeats 1000000 in
set_option maxRecDepth 100000 in
theorem refTake_any (v : Value) (bs : List Int) (w : World) (h : BySl 0 w.heap.size w v bs) :
    Calls Try.prog 37 #[v] w fun e w' => ((rd 8 bs = none ∧ e = .returned (.tuple #[.agg #[.int .i64 0, .int .u64 0, .slice none 0 0, .slice none 0 0], .slice none 0 0, .int .i64 3])) ∨
      (∃ (t : Tr 9) (m : Nat) (sb sk vr : Value), rd 8 bs = some (t, m) ∧ e = .returned (.tuple #[.agg #[.int .i64 t.hd.1, .int .u64 t.hd.2.1, sb, sk], vr, .int .i64 0]) ∧ RepS (fun b => w.heap.size ≤ b ∧ b < w'.heap.size) w' 9 t sb sk ∧ BySl 0 w'.heap.size w' vr (bs.drop m))) ∧ Below w.heap.size w w' := by
  obtain ⟨a, cap, rfl, hr⟩ := id h
  clear hr
  have H := hid h
  have hcapM : cap ≤ 9223372036854775807 := by obtain ⟨_, _, e, _, h3, _⟩ := h; simp only [Value.slice.injEq, true_and] at e; obtain ⟨_, rfl⟩ := e; exact h3
  have hlc : bs.length ≤ cap := by obtain ⟨_, _, e, h2, _⟩ := h; simp only [Value.slice.injEq, true_and] at e; obtain ⟨_, rfl⟩ := e; exact h2
  clear h
  obtain ⟨R, hR⟩ : ∃ R, rd 8 bs = R := ⟨_, rfl⟩
  rw [hR]
  have HR := hid hR
  clear hR
  have hS : w.heap.size ≤ (w.alloc (Obj.cells #[Value.int IntKind.i64 0, Value.int IntKind.u64 0, Value.slice none 0 0, Value.slice none 0 0] 93)).heap.size := by simp
  have hbs : Hid (BySl 0 (w.alloc (Obj.cells #[Value.int IntKind.i64 0, Value.int IntKind.u64 0, Value.slice none 0 0, Value.slice none 0 0] 93)).heap.size (w.alloc (Obj.cells #[Value.int IntKind.i64 0, Value.int IntKind.u64 0, Value.slice none 0 0, Value.slice none 0 0] 93)) (.slice a bs.length cap) bs) := H.out.agree ((Agree.refl _ _ _).alloc (Nat.le_refl _) _) (Nat.le_refl _) hS
  have hrd := hid (rreadOk 8 (Nat.le_refl _))
  clear hS
  obtain ⟨L, hL⟩ : ∃ L, bs.length = L := ⟨_, rfl⟩
  have HL := hid hL
  rw [hL] at hbs hlc ⊢
  clear hL
  go_enter Try.func37, Try.ntmps37
  go_wp2_with fail
  refine (hrd.out _ bs _ hbs.out).mono ?_
  rintro e w1 ⟨hres, hb1⟩
  obtain ⟨hz, g0, g1, g2, g3, gf, hbel⟩ := res_facts32 (w := w) (w1 := w1) (by simpa using hb1)
  have HB := hid hbel
  clear hb1 hbel
  rcases hres with ⟨hn, rfl⟩ | ⟨t, m, sb, sk, hs, rfl, hr1⟩
  · have HN := hid hn
    clear hn
    go_wp2_with fail
    obtain ⟨q0, q1, q2, q3⟩ := set4_read (w := w1) (u0 := .int .i64 0) (u1 := .int .u64 0) (u2 := .slice none 0 0) (u3 := .slice none 0 0) g0 g1 g2 g3
    refine bodyPost_ret (v := .tuple #[.agg #[.int .i64 0, .int .u64 0, .slice none 0 0, .slice none 0 0], .slice none 0 0, .int .i64 3]) (by simp [results, Try.results37, go_sem, q0, q1, q2, q3, hz]) rfl ⟨.inl ⟨?_, rfl⟩, (HB.out.trans (bset4 (Nat.le_refl _) _ _ _ _)).alloc (by simp; omega) _⟩
    rw [← HR.out, HN.out]
  · obtain ⟨a1, l1, p1, a2, l2, p2, rfl, rfl⟩ := hr1.sl
    have HS := hid hs
    have Hr1 := hid hr1
    have hm := rd_pos hs
    rw [HL.out] at hm
    clear hs hr1
    obtain ⟨b, o, ha⟩ : ∃ b o, a = some ⟨b, o, none⟩ := by
      obtain ⟨_, _, e, _, _, _, _, _, h7⟩ := hbs.out
      simp only [Value.slice.injEq] at e
      obtain ⟨rfl, _, rfl⟩ := e
      obtain ⟨b, o, e, _⟩ := h7 (by intro e; have := HL.out; subst e; simp at this; omega)
      exact ⟨b, o, e⟩
    subst ha
    have hmz : ((m : Int) == 0) = false := by simp; omega
    obtain ⟨A, hA⟩ : ∃ A, (if cap = m then some (⟨b, o, none⟩ : Addr) else some ⟨b, o + m, none⟩) = A := ⟨_, rfl⟩
    go_upto_region 4 with fail
    go_region
    all_goals go_wp2_with fail
    obtain ⟨q0, q1, q2, q3⟩ := set4_read (w := w1) (u0 := .int .i64 t.hd.1) (u1 := .int .u64 t.hd.2.1) (u2 := .slice a1 l1 p1) (u3 := .slice a2 l2 p2) g0 g1 g2 g3
    have hA1 : Agree (w.heap.size + 1) w1.heap.size w1 (((((w1.setCell ⟨w.heap.size, 0, none⟩ (.int .i64 t.hd.1)).setCell ⟨w.heap.size, 1, none⟩ (.int .u64 t.hd.2.1)).setCell ⟨w.heap.size, 2, none⟩ (.slice a1 l1 p1)).setCell ⟨w.heap.size, 3, none⟩ (.slice a2 l2 p2)).alloc (Obj.cells #[.int .i64 t.hd.1, .int .u64 t.hd.2.1, .slice a1 l1 p1, .slice a2 l2 p2] 93)).drew := ((Agree.set4 _ (.inl (by omega)) _ _ _ _).alloc (by simp) _).drew
    have hB1 : Below w.heap.size w (((((w1.setCell ⟨w.heap.size, 0, none⟩ (.int .i64 t.hd.1)).setCell ⟨w.heap.size, 1, none⟩ (.int .u64 t.hd.2.1)).setCell ⟨w.heap.size, 2, none⟩ (.slice a1 l1 p1)).setCell ⟨w.heap.size, 3, none⟩ (.slice a2 l2 p2)).alloc (Obj.cells #[.int .i64 t.hd.1, .int .u64 t.hd.2.1, .slice a1 l1 p1, .slice a2 l2 p2] 93)).drew := ((HB.out.trans (bset4 (Nat.le_refl _) _ _ _ _)).alloc (by simp; omega) _).drew
    refine bodyPost_ret (v := .tuple #[.agg #[.int .i64 t.hd.1, .int .u64 t.hd.2.1, .slice a1 l1 p1, .slice a2 l2 p2], .slice A (L - m) (cap - m), .int .i64 0]) (by simp [results, Try.results37, go_sem, q0, q1, q2, q3, hz]) rfl ⟨.inr ⟨t, m, .slice a1 l1 p1, .slice a2 l2 p2, .slice A (L - m) (cap - m), ?_, rfl, ?_, ?_⟩, hB1⟩
    · rw [← HR.out, HS.out]
    · refine RepS.agree (AgreeS.of hA1 ?_) ?_ Hr1.out
      · intro b hb; simp at hb; omega
      · intro b hb; simp at hb; simp; omega
    · have hq : BySl 0 w.heap.size _ (.slice (some ⟨b, o, none⟩) bs.length cap) bs := H.out.agree (Agree.below hB1) (Nat.le_refl _) (Nat.le_refl _)
      have := bySl_rest hq m (by rw [HL.out]; omega) rfl
      rw [hA, HL.out] at this
      exact this.agree (Agree.refl _ _ _) (Nat.le_refl _) (by simp; omega)

set_option maxHeartbeats 1000000 in
set_option maxRecDepth 100000 in
theorem refGet_any (v : Value) (bs : List Int) (w : World) (h : BySl 0 w.heap.size w v bs) :
    Calls Try.prog 39 #[v] w fun e w' => ((getT bs = none ∧ e = .returned (.tuple #[.agg #[.int .i64 0, .int .u64 0, .slice none 0 0, .slice none 0 0], .int .i64 3])) ∨
      (∃ (t : Tr 9) (sb sk : Value), getT bs = some t ∧ e = .returned (.tuple #[.agg #[.int .i64 t.hd.1, .int .u64 t.hd.2.1, sb, sk], .int .i64 0]) ∧ RepS (fun b => w.heap.size ≤ b ∧ b < w'.heap.size) w' 9 t sb sk)) ∧ Below w.heap.size w w' := by
  obtain ⟨a, cap, rfl, hr⟩ := id h
  clear hr
  have H := hid h
  clear h
  obtain ⟨R, hR⟩ : ∃ R, getT bs = R := ⟨_, rfl⟩
  rw [hR]
  have HR := hid hR
  clear hR
  have hS : w.heap.size ≤ (w.alloc (Obj.cells #[Value.int IntKind.i64 0, Value.int IntKind.u64 0, Value.slice none 0 0, Value.slice none 0 0] 93)).heap.size := by simp
  have hbs : Hid (BySl 0 (w.alloc (Obj.cells #[Value.int IntKind.i64 0, Value.int IntKind.u64 0, Value.slice none 0 0, Value.slice none 0 0] 93)).heap.size (w.alloc (Obj.cells #[Value.int IntKind.i64 0, Value.int IntKind.u64 0, Value.slice none 0 0, Value.slice none 0 0] 93)) (.slice a bs.length cap) bs) := H.out.agree ((Agree.refl _ _ _).alloc (Nat.le_refl _) _) (Nat.le_refl _) hS
  clear hS
  obtain ⟨L, hL⟩ : ∃ L, bs.length = L := ⟨_, rfl⟩
  have HL := hid hL
  rw [hL] at hbs ⊢
  clear hL
  go_enter Try.func39, Try.ntmps39
  go_wp2_with fail
  refine (refTake_any _ bs _ hbs.out).mono ?_
  rintro e w1 ⟨hres, hb1⟩
  obtain ⟨hz, g0, g1, g2, g3, gf, hbel⟩ := res_facts32 (w := w) (w1 := w1) (by simpa using hb1)
  have HB := hid hbel
  clear hb1 hbel
  rcases hres with ⟨hn, rfl⟩ | ⟨t, m, sb, sk, vr, hs, rfl, hr1, hvr⟩
  · have HN := hid hn
    clear hn
    go_wp2_with fail
    obtain ⟨q0, q1, q2, q3⟩ := set4_read (w := w1) (u0 := .int .i64 0) (u1 := .int .u64 0) (u2 := .slice none 0 0) (u3 := .slice none 0 0) g0 g1 g2 g3
    refine bodyPost_ret (v := .tuple #[.agg #[.int .i64 0, .int .u64 0, .slice none 0 0, .slice none 0 0], .int .i64 3]) (by simp [results, Try.results39, go_sem, q0, q1, q2, q3, hz]) rfl ⟨.inl ⟨?_, rfl⟩, (HB.out.trans (bset4 (Nat.le_refl _) _ _ _ _)).alloc (by simp; omega) _⟩
    rw [← HR.out, getT, HN.out]
  · obtain ⟨a1, l1, p1, a2, l2, p2, rfl, rfl⟩ := hr1.sl
    obtain ⟨a3, c3, rfl, hr3⟩ := id hvr
    clear hr3 hvr
    have HS := hid hs
    have Hr1 := hid hr1
    have hm := rd_pos hs
    rw [HL.out] at hm
    clear hs hr1
    have hdl : (bs.drop m).length = L - m := by rw [List.length_drop, HL.out]
    obtain ⟨M, hM⟩ : ∃ M, L - m = M := ⟨_, rfl⟩
    rw [hdl, hM]
    have HdM := hid hM
    clear hdl hM
    cases M with
    | zero =>
      have HM : Hid (m = L) := by have := HdM.out; unfold Hid; omega
      go_wp2_with fail
      obtain ⟨q0, q1, q2, q3⟩ := set4_read (w := w1) (u0 := .int .i64 t.hd.1) (u1 := .int .u64 t.hd.2.1) (u2 := .slice a1 l1 p1) (u3 := .slice a2 l2 p2) g0 g1 g2 g3
      refine bodyPost_ret (v := .tuple #[.agg #[.int .i64 t.hd.1, .int .u64 t.hd.2.1, .slice a1 l1 p1, .slice a2 l2 p2], .int .i64 0]) (by simp [results, Try.results39, go_sem, q0, q1, q2, q3, hz]) rfl ⟨.inr ⟨t, .slice a1 l1 p1, .slice a2 l2 p2, ?_, rfl, ?_⟩, (HB.out.trans (bset4 (Nat.le_refl _) _ _ _ _)).alloc (by simp; omega) _⟩
      · rw [← HR.out, getT, HS.out]
        simp only
        rw [if_pos (by rw [HL.out]; exact HM.out)]
      · refine RepS.agree (AgreeS.of ((Agree.set4 (L := w.heap.size + 1) (B := w1.heap.size) w1 (.inl (by simp)) _ _ _ _).alloc (by simp) _) ?_) ?_ Hr1.out
        · intro b hb; simp at hb; omega
        · intro b hb; simp at hb; simp; omega
    | succ M =>
      have HM : Hid (¬ m = L) := by have := HdM.out; unfold Hid; omega
      go_wp2_with fail
      obtain ⟨q0, q1, q2, q3⟩ := set4_read (w := w1) (u0 := .int .i64 0) (u1 := .int .u64 0) (u2 := .slice none 0 0) (u3 := .slice none 0 0) g0 g1 g2 g3
      refine bodyPost_ret (v := .tuple #[.agg #[.int .i64 0, .int .u64 0, .slice none 0 0, .slice none 0 0], .int .i64 3]) (by simp [results, Try.results39, go_sem, q0, q1, q2, q3, hz]) rfl ⟨.inl ⟨?_, rfl⟩, (HB.out.trans (bset4 (Nat.le_refl _) _ _ _ _)).alloc (by simp; omega) _⟩
      rw [← HR.out, getT, HS.out]
      simp only
      rw [if_neg (by rw [HL.out]; exact HM.out)]

end Go.Proofs.Ythbhdbjjobfchaa.Tlv
end

section
/-
  Plain mathematics: the form as the reference makes it is the form.
-/
namespace Go.Proofs.Ythbhdbjjobfchaa.Tlv

/-- A list's forms behind one another, as the reference puts them together. -/
def rformL {α : Type} (f : α → Option (List Int)) : List Int → List α → Option (List Int)
  | acc, [] => some acc
  | acc, k :: ks => match f k with
    | none => none
    | some x => if 65535 < acc.length then none else rformL f (acc ++ x) ks

/-- What is behind the first three bytes, as the reference makes it. -/
def rbody {n : Nat} (f : Tr n → Option (List Int)) (t : Tr (n + 1)) (deep : Nat) : Option (List Int) :=
  if t.hd.1 = 1 then (if t.hd.2.2 ≠ [] ∨ t.kd ≠ [] then none else some (numB (nsz t.hd.2.1).toNat t.hd.2.1))
  else if t.hd.1 = 2 then (if t.hd.2.1 ≠ 0 ∨ t.kd ≠ [] then none else some t.hd.2.2)
  else if t.hd.1 = 3 then (if t.hd.2.1 ≠ 0 ∨ t.hd.2.2 ≠ [] ∨ deep = 0 then none else rformL f [] t.kd)
  else none

/-- The form, as the reference makes it. -/
def rform : (n : Nat) → Tr n → Nat → Option (List Int)
  | 0, t, _ => by cases t
  | n + 1, t, deep => match rbody (fun k => rform n k (deep - 1)) t deep with
    | none => none
    | some b => if 65535 < b.length then none else some (t.hd.1 :: ((b.length : Int) / 256) :: ((b.length : Int) % 256) :: b)

theorem form_len (n : Nat) (t : Tr n) : (formOf n t).length = 3 + (bodyOf n t).length := by simp [formOf]; omega

theorem rformL_le {α : Type} {f : α → Option (List Int)} : ∀ (ks : List α) (acc r : List Int), rformL f acc ks = some r → acc.length ≤ r.length
  | [], acc, r, h => by simp only [rformL, Option.some.injEq] at h; subst h; exact Nat.le_refl _
  | k :: ks, acc, r, h => by
    simp only [rformL] at h
    split at h
    · simp at h
    · rename_i x hx
      split at h
      · simp at h
      · have := rformL_le ks _ _ h
        simp at this
        omega

theorem rformL_yes {n d : Nat} {f : Tr n → Option (List Int)} (hf : ∀ k, f k = if (bsz n k 65535 d).2 then some (formOf n k) else none) : ∀ (ks : List (Tr n)) (acc : List Int),
    (lszGo (bsz n) 65535 ((d : Int) + 1) acc.length ks).2 = true → rformL f acc ks = some (acc ++ (ks.map (formOf n)).flatten)
  | [], acc, _ => by simp [rformL]
  | k :: ks, acc, h => by
    simp only [lszGo] at h
    split at h
    · rename_i hk
      rw [show (d : Int) + 1 - 1 = d by omega] at hk h
      have hfit := bsz_fits _ _ _ _ hk
      have hlen := bsz_len _ _ _ _ hk
      have hk2 := bsz_mono n k _ 65535 d hk (by omega) (by omega)
      have hl := form_len n k
      simp only [rformL]
      rw [hf k, if_pos hk2]
      simp only
      have e : (((acc.length + (3 + (bodyOf n k).length) : Nat)) : Int) = (acc.length : Int) + (3 + (bsz n k (65535 - (acc.length : Int) - 3) d).1) := by omega
      rw [if_neg (by omega), rformL_yes hf ks (acc ++ formOf n k) (by rw [List.length_append, hl, e]; exact h)]
      simp
    · simp at h

theorem rformL_no {n d : Nat} {f : Tr n → Option (List Int)} (hf : ∀ k, f k = if (bsz n k 65535 d).2 then some (formOf n k) else none) : ∀ (ks : List (Tr n)) (acc r : List Int),
    rformL f acc ks = some r → r.length ≤ 65535 → (lszGo (bsz n) 65535 ((d : Int) + 1) acc.length ks).2 = true
  | [], _, _, _, _ => rfl
  | k :: ks, acc, r, h, hr => by
    simp only [rformL] at h
    rw [hf k] at h
    by_cases hk : (bsz n k 65535 d).2 = true
    · rw [if_pos hk] at h
      simp only at h
      split at h
      · simp at h
      · have hle := rformL_le ks _ _ h
        have ih := rformL_no hf ks _ _ h hr
        have hl := form_len n k
        rw [List.length_append, hl] at hle ih
        have hk2 := bsz_mono n k _ (65535 - (acc.length : Int) - 3) d hk (by omega) (by omega)
        have hlen := bsz_len _ _ _ _ hk2
        simp only [lszGo]
        rw [show (d : Int) + 1 - 1 = d by omega, if_pos hk2]
        have e : (((acc.length + (3 + (bodyOf n k).length) : Nat)) : Int) = (acc.length : Int) + (3 + (bsz n k (65535 - (acc.length : Int) - 3) d).1) := by omega
        rw [← e]
        exact ih
    · rw [if_neg hk] at h
      simp at h

theorem rform_eq : ∀ (n : Nat) (t : Tr n) (d : Nat), rform n t d = if (bsz n t 65535 d).2 then some (formOf n t) else none
  | 0, t, _ => by cases t
  | n + 1, t, d => by
    have fin : ∀ b, bodyOf (n + 1) t = b → (t.hd.1 :: ((b.length : Int) / 256) :: ((b.length : Int) % 256) :: b) = formOf (n + 1) t := by
      intro b e
      simp only [formOf]
      rw [e]
    by_cases ho : oeB t.hd.1 t.hd.2.1 t.hd.2.2.length t.kd.length = true
    · obtain ⟨o1, o2, o3⟩ := oeB_iff.1 ho
      have hbs : t.hd.1 ≠ 2 → t.hd.2.2 = [] := fun h => List.eq_nil_of_length_eq_zero (by omega)
      have hkd : t.hd.1 ≠ 3 → t.kd = [] := fun h => List.eq_nil_of_length_eq_zero (by omega)
      rw [bsz_yes (by omega) ho]
      simp only [rform, rbody]
      by_cases h1 : t.hd.1 = 1
      · rw [if_pos h1, if_pos h1, if_neg (by simp [hbs (by omega), hkd (by omega)])]
        have hb := bodyOf_1 h1
        have := nsz_bd t.hd.2.1
        simp only
        rw [if_neg (by rw [numB_length]; omega), fin _ hb, if_pos (by simp; omega)]
      · rw [if_neg h1, if_neg h1]
        by_cases h2 : t.hd.1 = 2
        · rw [if_pos h2, if_pos h2, if_neg (by simp [hkd (by omega)]; omega)]
          have hb := bodyOf_2 h2
          simp only
          rw [fin _ hb]
          by_cases hl : 65535 < t.hd.2.2.length
          · rw [if_pos hl, if_neg (by simp; omega)]
          · rw [if_neg hl, if_pos (by simp; omega)]
        · rw [if_neg h2, if_neg h2]
          by_cases h3 : t.hd.1 = 3
          · rw [if_pos h3, if_pos h3]
            unfold lsz
            by_cases hd : d = 0
            · subst hd
              simp
            · rw [if_neg (by simp [hbs (by omega), hd]; omega), if_neg (show ¬ ((d : Int) = 0) by omega)]
              obtain ⟨d', rfl⟩ : ∃ d', d = d' + 1 := ⟨d - 1, by omega⟩
              have hb := bodyOf_kids h3
              have hf : ∀ k, (fun k => rform n k (d' + 1 - 1)) k = if (bsz n k 65535 d').2 then some (formOf n k) else none := fun k => rform_eq n k d'
              have hcast : (((d' + 1 : Nat)) : Int) = (d' : Int) + 1 := by omega
              rw [hcast]
              by_cases hg : (lszGo (bsz n) 65535 ((d' : Int) + 1) 0 t.kd).2 = true
              · rw [if_pos hg, rformL_yes hf t.kd [] hg]
                have hbd := lszGo_bd (bsz_fits n) 65535 ((d' : Int) + 1) t.kd 0 (by omega) (by omega) hg
                have hln := (lszGo_len (bsz_len n) 65535 ((d' : Int) + 1) t.kd 0 hg).1
                simp only [List.nil_append]
                rw [if_neg (by omega), fin _ hb]
              · rw [if_neg hg]
                split
                · rfl
                · rename_i r hr
                  by_cases hl : 65535 < r.length
                  · rw [if_pos hl]
                  · exact absurd (rformL_no hf t.kd [] r hr (by omega)) hg
          · rw [if_neg h3, if_neg h3]
            rfl
    · have ho' : oeB t.hd.1 t.hd.2.1 t.hd.2.2.length t.kd.length = false := by simpa using ho
      rw [bsz_no (.inr ho'), if_neg (by simp)]
      have hno : ¬ ((t.hd.1 = 1 ∨ t.hd.2.1 = 0) ∧ (t.hd.1 = 2 ∨ t.hd.2.2.length = 0) ∧ (t.hd.1 = 3 ∨ t.kd.length = 0)) := fun h => ho (oeB_iff.2 h)
      have hb0 : t.hd.2.2 = [] ↔ t.hd.2.2.length = 0 := List.length_eq_zero_iff.symm
      have hk0 : t.kd = [] ↔ t.kd.length = 0 := List.length_eq_zero_iff.symm
      have : rbody (fun k => rform n k (d - 1)) t d = none := by
        unfold rbody
        split
        · rw [if_pos (by rw [ne_eq, ne_eq, hb0, hk0]; omega)]
        · split
          · rw [if_pos (by rw [ne_eq, ne_eq, hk0]; omega)]
          · split
            · rw [if_pos (by rw [ne_eq, ne_eq, hb0]; omega)]
            · rfl
      simp only [rform]
      rw [this]

end Go.Proofs.Ythbhdbjjobfchaa.Tlv
end
