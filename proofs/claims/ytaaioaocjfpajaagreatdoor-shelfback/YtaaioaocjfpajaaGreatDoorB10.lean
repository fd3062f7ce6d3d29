/- Of the proof: the texts FrScan, FrAt, PkAdd, PkLoad, PkSeal, one behind the other. -/
import Derived.Test.YtaaioaocjfpajaaGreatDoorB9
import Derived.Test.YtaaioaocjfpajaaGreatDoorB7
import Derived.Test.YtaaioaocjfpajaaGreatDoorB3
section
/-
  What Scan answers.
-/
namespace Go.Proofs.YtaaioaocjfpajaaGreatDoor
open Go.RowKit Go.Shelf
open Tlv (Tr BySlS AgreeS Agree)
open Crc (hid Kept Tab)
attribute [local go_sem] Oper.semAt_some

/-- A placed record of nothing. -/
def zPl : List Value := placedA 0 0 zRec
theorem zero62 (w : World) : (zeroValue 60).run Tryz.prog w = .ok (.agg zPl.toArray) w := by kernel_rfl
theorem Tryz.info62 : (Tryz.prog.info? 60).map (·.size) = some 36 := by kernel_rfl

/-- The cells of a value. -/
def aggL (vs : Array Value) : List Value := match (vs[0]? : Option Value) with
  | some (Value.agg A) => A.toList
  | _ => []

/-- The loop's variable, as it is made anew for each round. -/
def asgP (vs : Array Value) (U : World) : World := (U.alloc (.cells zPl.toArray 60)).setCells U.heap.size 0 (aggL vs)
theorem asgP_below (vs : Array Value) (U : World) : Below U.heap.size U (asgP vs U) := ((Below.refl _ _).alloc (Nat.le_refl _) _).trans (setCells_below (Nat.le_refl _) _ _ _)
theorem asgP_size (vs : Array Value) (U : World) : (asgP vs U).heap.size = U.heap.size + 1 := by rw [asgP, setCells_size]; simp

theorem info62' : (Tryz.prog.info? 60).map (fun i => (i.zero, i.size, i.bytes)) = some (some (.agg zPl.toArray), 36, 80) := by kernel_rfl

/-- One placed record, laid in a row. -/
theorem run_onepl (p n : Nat) (k : Int) (nm : List Int) (a : Option Addr) (l c : Nat) (hn : nm.length = 32) (w : World) :
    (Instr.buildSlice 47 1 #[(0, .agg (placedA p n (recA k nm (.slice a l c))).toArray)]).run Tryz.prog w =
      .ok (.slice (some ⟨w.heap.size, 0, none⟩) 1 1) (w.alloc (.cells (placedA p n (recA k nm (.slice a l c))).toArray 60)) := by
  obtain ⟨x0, x1, x2, x3, x4, x5, x6, x7, x8, x9, x10, x11, x12, x13, x14, x15, x16, x17, x18, x19, x20, x21, x22, x23, x24, x25, x26, x27, x28, x29, x30, x31, rfl⟩ := ex32 hn
  kernel_rfl

theorem exec_slice1 {P : Program} {o : Oper} {a : Act} {w w' : World} (ty : TypeId) (x : Operand) (ho : o.op = .buildSlice ty 1 #[(0, x)]) (vx v : Value) (hx : a.eval x = vx) (hr : (Instr.buildSlice ty 1 #[(0, vx)]).run P w = .ok v w') :
    (execOp a.eval o).run P w = .ok (.value v) w' := by
  have e : ((#[(0, x)] : Array (Nat × Operand)).map fun (i, x) => (i, a.eval x)) = #[(0, vx)] := by simp [hx]
  unfold execOp
  simp only [ho, Sem.run_bind, e, hr, Result.andThen_ok]
  rfl

theorem exec_append {P : Program} {o : Oper} {a : Act} {w w' : World} (s x : Operand) (t : TypeId) (ho : o.op = .call { callee := .builtin .append, args := #[s, x], argTypes := #[t, t] }) (vs vx v : Value) (hs : a.eval s = vs) (hx : a.eval x = vx)
    (hr : (Builtin.append_ #[t, t] o.type #[vs, vx]).run P w = .ok v w') : (execOp a.eval o).run P w = .ok (.value v) w' := by
  unfold execOp
  simp [ho, resolve, invoke, builtin, hs, hx, hr, Result.andThen]

/-- What Scan leaves. -/
def Scanned (w w' : World) (b : Nat) (e : Ending) (S : List Item × Nat × Int) : Prop :=
  ∃ a c, e = .returned (.tuple #[.slice a S.1.length c, .int .i64 (S.2.1 : Nat), .int .i64 S.2.2]) ∧ PRow 60 w.heap.size b w' (.slice a S.1.length c) S.1 ∧ Kept b w w' ∧ TabX w' b

/-- What stands behind k rounds: the three variables at s, what was found, where it goes on. -/
def SI (w : World) (base s b : Nat) (xs : List Int) (k m : Nat) (W : World) : Prop :=
  ∃ (v : Value) (pos : Nat), Boxed W s 47 v ∧ Boxed W (s + 1) 3 (.int .i64 (pos : Int)) ∧ Boxed W (s + 2) 26 (.int .i64 0) ∧ PRow 60 base b W v ((tl xs 0).take k) ∧
    scanF xs = ((tl xs 0).take k ++ (scanR ((tl xs 0).drop k) pos).1, (scanR ((tl xs 0).drop k) pos).2) ∧ Kept b w W ∧ (∀ r, v.ownBlock = some r → r < m) ∧ pos ≤ xs.length ∧ base ≤ m

def SX (w : World) (base s b : Nat) (xs : List Int) (W : World) : Prop :=
  ∃ (v : Value), Boxed W s 47 v ∧ Boxed W (s + 1) 3 (.int .i64 ((scanF xs).2.1 : Nat)) ∧ Boxed W (s + 2) 26 (.int .i64 (scanF xs).2.2) ∧ PRow 60 base b W v (scanF xs).1 ∧ Kept b w W ∧ TabX W b

theorem SI.step {w W W' : World} {base s b k m : Nat} {xs : List Int} (h : SI w base s b xs k m W) (hs : s + 3 ≤ base) (hb : b < s) (hw : s = w.heap.size) (hk : CellsKept base b W W') (hbx : ∀ g t u, s ≤ g → g < s + 3 → Boxed W g t u → Boxed W' g t u) (hkk : Kept b w W') : SI w base s b xs k m W' := by
  obtain ⟨v, pos, h0, h1, h2, h3, h4, h5, h6, h7⟩ := h
  exact ⟨v, pos, hbx _ _ _ (by omega) (by omega) h0, hbx _ _ _ (by omega) (by omega) h1, hbx _ _ _ (by omega) (by omega) h2, h3.cells hk (by omega), h4, hkk, h6, h7⟩

theorem tl_mem (xs : List Int) : ∀ (d p : Nat), xs.length - p ≤ d → ∀ x ∈ tl xs p, x.1 < xs.length ∧ x.2 = takeF (xs.drop x.1)
  | 0, p, h, x, hx => by rw [tl_end (by omega)] at hx; cases hx
  | d + 1, p, h, x, hx => by
    by_cases hp : xs.length ≤ p
    · rw [tl_end hp] at hx; cases hx
    · obtain ⟨L, hL, hc⟩ := tl_head (xs := xs) (p := p) (by omega)
      rw [hL] at hx
      rcases List.mem_cons.1 hx with rfl | hx
      · exact ⟨by simp; omega, rfl⟩
      · rcases hc with ⟨hf, rfl⟩ | ⟨_, rfl⟩
        · have := takeF_pos hf
          exact tl_mem xs d _ (by omega) x hx
        · cases hx

/-- The next one told, and what is then left of the scan. -/
theorem scan_next {xs : List Int} {k pos : Nat} {x : Item} (hx : (tl xs 0)[k]? = some x) (h : scanF xs = ((tl xs 0).take k ++ (scanR ((tl xs 0).drop k) pos).1, (scanR ((tl xs 0).drop k) pos).2)) :
    (tl xs 0).take (k + 1) = (tl xs 0).take k ++ [x] ∧ (x.2.1 ≠ 0 → scanF xs = ((tl xs 0).take k, x.1, x.2.1)) ∧
    (x.2.1 = 0 → x.1 + x.2.2.2 ≤ xs.length ∧ scanF xs = ((tl xs 0).take (k + 1) ++ (scanR ((tl xs 0).drop (k + 1)) (x.1 + x.2.2.2)).1, (scanR ((tl xs 0).drop (k + 1)) (x.1 + x.2.2.2)).2)) := by
  obtain ⟨hk, hxe⟩ := List.getElem?_eq_some_iff.1 hx
  have e1 : (tl xs 0).drop k = x :: (tl xs 0).drop (k + 1) := by rw [List.drop_eq_getElem_cons hk, hxe]
  have e2 : (tl xs 0).take (k + 1) = (tl xs 0).take k ++ [x] := by rw [List.take_add_one, hx]; rfl
  rw [e1] at h
  refine ⟨e2, fun hf => ?_, fun hf => ⟨?_, ?_⟩⟩
  · rw [h, scanR, if_neg hf, List.append_nil]
  · obtain ⟨h1, h2⟩ := tl_mem xs _ 0 (Nat.le_refl _) x (List.mem_of_getElem? hx)
    rw [h2] at hf ⊢
    have := takeF_pos hf
    rw [List.length_drop] at this
    omega
  · rw [h, scanR, if_pos hf, e2, List.append_assoc]
    rfl

/-- The three results, stored on the way out. -/
theorem scan_set3 {W F : World} {s : Nat} {t0 t1 t2 : TypeId} {u0 u1 u2 v0 v1 v2 : Value} (h0 : Boxed W s t0 u0) (h1 : Boxed W (s + 1) t1 u1) (h2 : Boxed W (s + 2) t2 u2)
    (hF : (((W.setCell ⟨s, 0, none⟩ v0).setCell ⟨s + 1, 0, none⟩ v1).setCell ⟨s + 1 + 1, 0, none⟩ v2).drew = F) :
    Boxed F s t0 v0 ∧ Boxed F (s + 1) t1 v1 ∧ Boxed F (s + 2) t2 v2 ∧ Below s W F ∧ F.heap.size = W.heap.size ∧ ∀ i, s + 3 ≤ i → F.heap[i]? = W.heap[i]? := by
  have o : ∀ (U : World) (g k : Nat) (u : Value), k ≠ g → (U.setCell ⟨g, 0, none⟩ u).heap[k]? = U.heap[k]? := fun U g k u h => Below.heap_setCell _ _ _ _ (by simp; omega)
  subst hF
  refine ⟨?_, ?_, ?_, ?_, ?_, fun i hi => ?_⟩
  · show (((W.setCell ⟨s, 0, none⟩ v0).setCell ⟨s + 1, 0, none⟩ v1).setCell ⟨s + 1 + 1, 0, none⟩ v2).heap[s]? = _
    rw [o _ _ _ _ (by omega), o _ _ _ _ (by omega)]
    exact h0.set v0
  · show (((W.setCell ⟨s, 0, none⟩ v0).setCell ⟨s + 1, 0, none⟩ v1).setCell ⟨s + 1 + 1, 0, none⟩ v2).heap[s + 1]? = _
    rw [o _ _ _ _ (by omega)]
    have h : Boxed (W.setCell ⟨s, 0, none⟩ v0) (s + 1) t1 u1 := (o _ _ _ _ (by omega)).trans h1
    exact h.set v1
  · have h : Boxed ((W.setCell ⟨s, 0, none⟩ v0).setCell ⟨s + 1, 0, none⟩ v1) (s + 1 + 1) t2 u2 := ((o _ _ _ _ (by omega)).trans (o _ _ _ _ (by omega))).trans h2
    exact h.set v2
  · exact ((((Below.refl s W).setCell (p := ⟨s, 0, none⟩) (Nat.le_refl _) _).setCell (p := ⟨s + 1, 0, none⟩) (by simp) _).setCell (p := ⟨s + 1 + 1, 0, none⟩) (by simp; omega) _).drew
  · simp
  · show (((W.setCell ⟨s, 0, none⟩ v0).setCell ⟨s + 1, 0, none⟩ v1).setCell ⟨s + 1 + 1, 0, none⟩ v2).heap[i]? = _
    rw [o _ _ _ _ (by omega), o _ _ _ _ (by omega), o _ _ _ _ (by omega)]

theorem ownsRow_kept {ty : TypeId} {base b n : Nat} {w w' : World} {v : Value} {cs : List Value} (h : w.ownsRow base ty 36 v n cs) (k : CellsKept base b w w') (hb : b < base) : w'.ownsRow base ty 36 v n cs := by
  refine ⟨h.1, ?_⟩
  rcases h.2 with h2 | ⟨g, cap, cur, hv, hg, hh, r⟩
  · exact Or.inl h2
  · exact Or.inr ⟨g, cap, cur, hv, hg, k.block g _ _ _ hg (by omega) hh, r⟩

theorem PRow.mono {ty : TypeId} {base base' b : Nat} {w : World} {v : Value} {L : List Item} (h : PRow ty base b w v L) (hb : base' ≤ base) : PRow ty base' b w v L := by
  obtain ⟨us, hl, hown, hn, hk⟩ := h
  refine ⟨us, hl, ⟨hown.1, ?_⟩, hn, fun j x u hj hu => BySlS.mono (hk j x u hj hu) (fun g hg => ⟨by omega, hg.2⟩)⟩
  rcases hown.2 with h2 | ⟨g, cap, cur, hv, hg, r⟩
  · exact Or.inl h2
  · exact Or.inr ⟨g, cap, cur, hv, by omega, r⟩

theorem put_kept {base b D : Nat} {F : World} (hd : F.heap[D]? = some (.deferred (some []))) : CellsKept base b F (F.putObj D (.deferred none)) := by
  have hD := (Array.getElem?_eq_some_iff.1 hd).1
  refine ⟨by simp [World.putObj], fun i cs t fr _ _ h => ?_, fun i o u _ _ h => ?_⟩
  · rw [World.putObj_heap_other (fun e => by rw [e, hd] at h; cases h)]
    exact h
  · rw [World.cell?_of_block (w := F) (a := ⟨i, o, none⟩) (World.putObj_heap_other (fun e => by simp [World.cell?, show i = D from e, hd] at h))]
    exact h

/-- One record more: what stands behind the append and the two stores. -/
theorem push_facts {W W2 : World} {base s b m g cap : Nat} {L : List Item} {x : Item} {v u y : Value} {us C : List Value} {t0 t1 t2 : TypeId} {q1 q2 : Value} (hs : s + 3 ≤ base) (hbW : base ≤ W.heap.size) (hb : b < s) (hm : base ≤ m) (h0 : Boxed W s t0 v) (h1 : Boxed W (s + 1) t1 q1) (h2 : Boxed W (s + 2) t2 q2)
    (hl : us.length = L.length) (hown : W.ownsRow base 60 36 v L.length (cellsP L us)) (hn : ∀ y ∈ L, nmOk y) (hx : nmOk x)
    (hk : ∀ (j : Nat) (x : Item) (u : Value), L[j]? = some x → us[j]? = some u → BySlS (fun g => base ≤ g ∧ g ≠ b ∧ g < W.heap.size ∧ v.ownBlock ≠ some g) W u x.2.2.1.2.2)
    (hu : BySlS (fun g => m ≤ g ∧ g ≠ b ∧ g < W.heap.size) W u x.2.2.1.2.2) (hr : ∀ r, v.ownBlock = some r → r < m)
    (hown2 : W2.ownsRow base 60 36 (.slice (some ⟨g, 0, none⟩) (L.length + 1) cap) (L.length + 1) (cellsP L us ++ plI x u)) (hgrow : (W.alloc (.cells C.toArray 60)).grownBy W2 v.ownBlock) (hat : v.ownBlock = some g ∨ g = W.heap.size + 1) (hg : g < W2.heap.size) {V : World}
    (hV : (W2.setCell ⟨s, 0, none⟩ (.slice (some ⟨g, 0, none⟩) (L.length + 1) cap)).setCell ⟨s + 1, 0, none⟩ y = V) :
    KeepsFrom base W V ∧ Boxed V s t0 (.slice (some ⟨g, 0, none⟩) (L.length + 1) cap) ∧ Boxed V (s + 1) t1 y ∧ Boxed V (s + 2) t2 q2 ∧ PRow 60 base b V (.slice (some ⟨g, 0, none⟩) (L.length + 1) cap) (L ++ [x]) ∧ Below s W V ∧ g < V.heap.size ∧
      (∀ i, i < base → i ≠ s → i ≠ s + 1 → V.heap[i]? = W.heap[i]?) := by
  have o : ∀ (U : World) (g k : Nat) (u : Value), k ≠ g → (U.setCell ⟨g, 0, none⟩ u).heap[k]? = U.heap[k]? := fun U g k u h => Below.heap_setCell _ _ _ _ (by simp; omega)
  have hlt := hown.lt
  have s0 := h0.lt
  have s1 := h1.lt
  have s2 := h2.lt
  have hbase := hown.1
  have low2 : ∀ i, i < W.heap.size → (base ≤ i → v.ownBlock ≠ some i) → W2.heap[i]? = W.heap[i]? := fun i hi hne => by
    rw [hgrow.block i (by simp; omega) (fun e => by have := (hlt i e.symm).1; exact hne this e.symm)]
    exact Below.heap_alloc _ _ _ hi
  have hsz2 : W.heap.size + 1 ≤ W2.heap.size := by have := hgrow.size; simpa using this
  have hVs : V.heap.size = W2.heap.size := by rw [← hV]; simp
  have bB0 : Boxed W2 s t0 v := (low2 s (by omega) (by omega)).trans h0
  have bB1 : Boxed W2 (s + 1) t1 q1 := (low2 (s + 1) (by omega) (by omega)).trans h1
  have bB2 : Boxed W2 (s + 2) t2 q2 := (low2 (s + 2) (by omega) (by omega)).trans h2
  have hbl : Below s W (W.alloc (.cells C.toArray 60)) := (Below.refl _ _).alloc (by omega) _
  have hal : Below W.heap.size W (W.alloc (.cells C.toArray 60)) := (Below.refl _ _).alloc (Nat.le_refl _) _
  have up : ∀ {u : Value} {xs : List Int}, BySlS (fun g => base ≤ g ∧ g ≠ b ∧ g < W.heap.size ∧ v.ownBlock ≠ some g) W u xs → BySlS (fun g => base ≤ g ∧ g ≠ b ∧ g < (W.alloc (.cells C.toArray 60)).heap.size ∧ v.ownBlock ≠ some g) (W.alloc (.cells C.toArray 60)) u xs := fun h =>
    BySlS.mono (BySlS.below h hal (fun g hg => hg.2.2.1)) (fun g hg => ⟨hg.1, hg.2.1, by simp; omega, hg.2.2.2⟩)
  have hp2 : PRow 60 base b W2 (.slice (some ⟨g, 0, none⟩) (L.length + 1) cap) (L ++ [x]) :=
    PRow.push hl hn hx (fun j x u h1 h2 => up (hk j x u h1 h2)) (up (BySlS.mono hu (fun g hg => ⟨by omega, hg.2.1, hg.2.2, fun e => by have := hr g e; omega⟩))) hown2 hgrow (by simpa using hat)
  refine ⟨⟨by omega, fun i ob hi hio hc => ?_⟩, ?_, ?_, ?_, ?_, ?_, by omega, fun i hi h3 h4 => ?_⟩
  · rw [← hV, o _ _ _ _ (by omega), o _ _ _ _ (by omega), low2 i (Array.getElem?_eq_some_iff.1 hio).1 (fun _ e => ?_)]
    · exact hio
    · rcases hown.2 with ⟨h, _⟩ | ⟨g', cap', cur, h, _, hh, _⟩
      · rw [h] at e; simp [Value.ownBlock] at e
      · rw [h] at e
        simp only [Value.ownBlock, Option.some.injEq] at e
        rw [e, hio] at hh
        cases hh
        cases hc
  · rw [← hV]
    exact (o _ _ _ _ (by omega)).trans (bB0.set _)
  · rw [← hV]
    have h : Boxed (W2.setCell ⟨s, 0, none⟩ (.slice (some ⟨g, 0, none⟩) (L.length + 1) cap)) (s + 1) t1 q1 := (o _ _ _ _ (by omega)).trans bB1
    exact h.set _
  · rw [← hV]
    exact (o _ _ _ _ (by omega)).trans ((o _ _ _ _ (by omega)).trans bB2)
  · rw [← hV]
    exact hp2.cells ((CellsKept.of_set _ _ (by omega)).trans (CellsKept.of_set _ _ (by omega))) (by omega)
  · rw [← hV]
    exact (((hbl.grown hgrow (by simp; omega) (fun k e => by have := (hlt k e).1; omega)).setCell (p := ⟨s, 0, none⟩) (Nat.le_refl _) _).setCell (p := ⟨s + 1, 0, none⟩) (by simp) _)
  · rw [← hV, o _ _ _ _ (by omega), o _ _ _ _ (by omega)]
    exact low2 i (by omega) (by omega)

set_option maxHeartbeats 4000000 in
set_option maxRecDepth 100000 in
theorem scan_any (b : Nat) (v : Value) (xs : List Int) (w : World) (hT : TabX w b) (hv : BySlS (fun g => g ≠ b ∧ g < w.heap.size) w v xs) (hxs : xs.length ≤ 1000000000000) :
    Calls Tryz.prog 64 #[.pointer (some ⟨b, 0, none⟩), v] w fun e w' => Scanned w w' b e (scanF xs) := by
  obtain ⟨av, cv, rfl, _, _, _, h47, _, _⟩ := id hv
  have HT := hid hT
  have HV := hid hv
  have hb := hT.lt
  clear hT hv
  refine (callsIn_wide (n := 3)).1 ?_
  refine callsIn_of_wp_marks Tryz.func64 rfl trivial ?_ rfl
  simp only [Tryz.ntmps64, List.size_toArray, List.length_cons, List.length_nil, Nat.reduceAdd, Nat.reduceSub, Array.replicate_succ, Array.replicate_zero, List.push_toArray, List.append_toArray, List.nil_append, List.cons_append]
  gi_wp2_with fail
  refine ⟨trivial, (callsIn_wide.2 (frames_any _ _ _ _ _)).mono ?_⟩
  rintro e w' ⟨rfl, rfl⟩
  gi_wp2_with fail
  obtain ⟨W0, hW0⟩ : ∃ W0, ((((w.alloc (.cells #[.slice none 0 0] 47)).alloc (.cells #[.int .i64 0] 3)).alloc (.cells #[.int .i64 0] 26)).alloc (.cells #[.pointer (some ⟨b, 0, none⟩)] 32)).alloc (.cells #[.slice av xs.length cv] 54) = W0 := ⟨_, rfl⟩
  have bel : Below w.heap.size w W0 := by rw [← hW0]; exact (((((Below.refl _ w).alloc (Nat.le_refl _) _).alloc (by simp) _).alloc (by simp; omega) _).alloc (by simp; omega) _).alloc (by simp; omega) _
  have hsz : W0.heap.size = w.heap.size + 5 := by rw [← hW0]; simp
  have b0 : Boxed W0 w.heap.size 47 (.slice none 0 0) := by rw [← hW0]; exact ((((Boxed.new w 47 (.slice none 0 0)).alloc _).alloc _).alloc _).alloc _
  have b1 : Boxed W0 (w.heap.size + 1) 3 (.int .i64 0) := by
    rw [← hW0]
    have h := (((Boxed.new (w.alloc (.cells #[.slice none 0 0] 47)) 3 (.int .i64 0)).alloc (.cells #[.int .i64 0] 26)).alloc (.cells #[.pointer (some ⟨b, 0, none⟩)] 32)).alloc (.cells #[.slice av xs.length cv] 54)
    simpa only [World.size_alloc] using h
  have b2 : Boxed W0 (w.heap.size + 2) 26 (.int .i64 0) := by
    rw [← hW0]
    have h := ((Boxed.new ((w.alloc (.cells #[.slice none 0 0] 47)).alloc (.cells #[.int .i64 0] 3)) 26 (.int .i64 0)).alloc (.cells #[.pointer (some ⟨b, 0, none⟩)] 32)).alloc (.cells #[.slice av xs.length cv] 54)
    simpa only [World.size_alloc] using h
  have bq : Boxed W0 (w.heap.size + 3) 32 (.pointer (some ⟨b, 0, none⟩)) := by
    rw [← hW0]
    have h := (Boxed.new (((w.alloc (.cells #[.slice none 0 0] 47)).alloc (.cells #[.int .i64 0] 3)).alloc (.cells #[.int .i64 0] 26)) 32 (.pointer (some ⟨b, 0, none⟩))).alloc (.cells #[.slice av xs.length cv] 54)
    simpa only [World.size_alloc] using h
  have bp : Boxed W0 (w.heap.size + 4) 54 (.slice av xs.length cv) := by
    rw [← hW0]
    have h := Boxed.new ((((w.alloc (.cells #[.slice none 0 0] 47)).alloc (.cells #[.int .i64 0] 3)).alloc (.cells #[.int .i64 0] 26)).alloc (.cells #[.pointer (some ⟨b, 0, none⟩)] 32)) 54 (.slice av xs.length cv)
    simpa only [World.size_alloc] using h
  rw [hW0]
  clear hW0
  have hT0 : Ts W0.heap.size b (w.heap.size + 4) (w.heap.size + 3) (.slice av xs.length cv) xs W0 := ⟨⟨Nat.le_refl _, by omega, by omega, by omega, by omega, by omega⟩, HT.out.below bel, BySlS.mono (BySlS.below HV.out bel (fun g hg => hg.2)) (fun g hg => ⟨hg.1, by omega⟩), bp.cell, bq.cell⟩
  refine over_func (gf := 127) (lb := #[.pointer (some ⟨w.heap.size + 4, 0, none⟩), .pointer (some ⟨w.heap.size + 3, 0, none⟩)]) rfl (enters_of Tryz.func127 (by kernel_rfl) rfl)
    (tells_frames 2 W0.heap.size b (w.heap.size + 4) (w.heap.size + 3) (.slice av xs.length cv) xs) (fun k m vs U h => by obtain ⟨x, a, c, _, rfl, _⟩ := h; rfl) (by omega) (fun U W h k => h.below k) hT0
    (SI w W0.heap.size w.heap.size b xs) (fun c _ W => c = .ret ∧ SX w W0.heap.size w.heap.size b xs W)
    ?ik ?ii ?ix ?i0 asgP asgP_below ?va ?ia
    (fun k vs U => { tmps := #[.pointer (some ⟨b, 0, none⟩), .slice av xs.length cv, undef, undef, .pointer (some ⟨w.heap.size, 0, none⟩), .pointer (some ⟨w.heap.size + 1, 0, none⟩), .pointer (some ⟨w.heap.size + 1 + 1, 0, none⟩), .pointer (some ⟨U.heap.size, 0, none⟩), vs.getD 1 undef, .pointer (some ⟨b, 0, none⟩), .bool false, .pointer (some ⟨b, 0, none⟩), .slice av xs.length cv, .func (.func 127) #[] #[.pointer (some ⟨w.heap.size + 1 + 1 + 1 + 1, 0, none⟩), .pointer (some ⟨w.heap.size + 1 + 1 + 1, 0, none⟩)], vs.getD 0 undef, vs.getD 1 undef, undef, undef, undef, undef, undef, undef, undef, undef, undef, undef, undef, undef, undef, undef, undef, undef, undef], defers := [] })
    ?vv ?assign ?body ?done ?stop
  case ik =>
    intro k m U W h _ hk
    obtain ⟨_, _, _, _, _, _, _, hKU, _⟩ := id h
    exact h.step (by omega) hb rfl (CellsKept.of_kept hk) (fun g t u h1 h2 hbx => (hk.block g hbx.lt (by omega)).trans hbx) (hKU.trans hk)
  case ii =>
    intro k m U W h hp
    obtain ⟨_, _, _, _, _, _, _, hKU, _⟩ := id h
    exact h.step (by omega) hb rfl (CellsKept.of_putl hp) (fun g t u h1 h2 hbx => hp.block hbx) (Kept.then hKU (hp.below.mono (by omega)))
  case ix =>
    rintro c k U W ⟨rfl, v, h0, h1, h2, h3, h4, h5⟩ hp
    exact ⟨rfl, v, hp.block h0, hp.block h1, hp.block h2, h3.cells (CellsKept.of_putl hp) (by omega), Kept.then h4 (hp.below.mono (by omega)), tabX_below h5 hp.below (by omega)⟩
  case i0 =>
    intro W hB _
    exact ⟨.slice none 0 0, 0, (hB.block _ (by omega)).trans b0, (hB.block _ (by omega)).trans b1, (hB.block _ (by omega)).trans b2, by rw [List.take_zero]; exact PRow.nil _ _ _ _, by rw [List.take_zero, List.drop_zero, List.nil_append]; rfl, Kept.then (Kept.below bel) (hB.mono (by omega)), by simp [Value.ownBlock], Nat.zero_le _, hB.size⟩
  case va =>
    rintro k m vs U ⟨x, a, c, h1, h2, h3, h4⟩
    have hbl := asgP_below vs U
    exact ⟨x, a, c, h1, h2, BySlS.mono (BySlS.below h3 hbl (fun g hg => hg.2.2)) (fun g hg => ⟨hg.1, hg.2.1, Nat.lt_of_lt_of_le hg.2.2 hbl.size⟩), h4⟩
  case ia =>
    intro k m vs U _ h
    obtain ⟨_, _, _, _, _, _, _, hKU, _⟩ := id h
    have hbl := asgP_below vs U
    exact h.step (by omega) hb rfl (CellsKept.of_kept (Kept.below hbl)) (fun g t u h1 h2 hbx => (hbl.block g hbx.lt).trans hbx) (hKU.trans (Kept.below hbl))
  case vv =>
    rintro k m vs U W ⟨x, a, c, h1, h2, h3, h4⟩ hp
    exact ⟨x, a, c, h1, h2, BySlS.mono (BySlS.putl h3 hp) (fun g hg => ⟨hg.1, hg.2.1, by rw [hp.size]; exact hg.2.2⟩), h4⟩
  case assign =>
    rintro l k m vs W K _ ⟨x, a, c, h1, rfl, h3, h4⟩ hK
    have hz := zero62
    have hAS : aggL #[.agg (placedA x.1 x.2.2.2 (recA x.2.2.1.1 x.2.2.1.2.1 (.slice a x.2.2.1.2.2.length c))).toArray, .int .i64 x.2.1] = placedA x.1 x.2.2.2 (recA x.2.2.1.1 x.2.2.1.2.1 (.slice a x.2.2.1.2.2.length c)) := rfl
    have HK := hid hK
    unfold asgP at HK
    rw [hAS] at HK
    have HPL := hid (plI_length (x := x) h4 (.slice a x.2.2.1.2.2.length c))
    have HPO := hid (plI_one x a x.2.2.1.2.2.length c)
    unfold plI recI at HPL HPO
    obtain ⟨PA, hPA⟩ : ∃ PA, placedA x.1 x.2.2.2 (recA x.2.2.1.1 x.2.2.1.2.1 (.slice a x.2.2.1.2.2.length c)) = PA := ⟨_, rfl⟩
    rw [hPA] at HK HPL HPO
    rw [hPA]
    obtain ⟨ZP, hZP⟩ : ∃ ZP, zPl = ZP := ⟨_, rfl⟩
    have HZL : Hid (ZP.length = 36) := by rw [← hZP]; rfl
    rw [hZP] at hz HK
    have HTH : Hid (World.there (W.alloc (.cells ZP.toArray 60)) W.heap.size 0 PA.toArray.size) := by
      have h := there_new W ZP 60
      rw [HZL.out] at h
      have e : PA.toArray.size = 36 := HPL.out
      rw [Hid, e]
      exact h
    have HI : Hid ((Tryz.prog.info? 60).map (·.size) = some PA.toArray.size) := by rw [Hid, show PA.toArray.size = 36 from HPL.out]; exact Tryz.info62
    have HO : Hid (PA.toArray.all (·.oneCell') = true) := all_oneCell_toArray HPO.out
    clear hPA hZP hAS h1 h3 h4 hK
    generalize x.2.1 = f at *
    gi_wp2_with (refine wpListIn_skip (by rfl) (fun _ h => by cases h) (fun _ => trivial) (exec_store 60 _ _ (by rfl) W.heap.size 0 PA.toArray (by rfl) (by rfl) HTH.out HI.out HO.out) ?_)
    exact HK.out
  case body =>
    rintro l k m vs U W hkN hmU ⟨x, a, c, hx, rfl, hby, hnm⟩ hI hT hWz hWU hU5
    obtain ⟨v, pos, h0, h1, h2, h3, h4, h5, h6, h7, h8⟩ := hI
    obtain ⟨e1, e2, e3⟩ := scan_next hx h4
    obtain ⟨ra, rc, rfl⟩ := h3.form
    obtain ⟨rn, hrn⟩ : ∃ rn, ((tl xs 0).take k).length = rn := ⟨_, rfl⟩
    rw [hrn] at h0 h3 h6
    have hUW : U.heap.size < W.heap.size := by rw [hWz, asgP_size]; omega
    have HRG : Hid (W.rangeAt U.heap.size 0 (plI x (.slice a x.2.2.1.2.2.length c))) := by
      intro j q hq
      rw [World.cell?_of_block (w := asgP _ U) (a := ⟨U.heap.size, 0 + j, none⟩) (hWU U.heap.size (Nat.le_refl _))]
      have ht := there_new U zPl 60
      have hlen := plI_length (x := x) hnm (.slice a x.2.2.1.2.2.length c)
      have h := World.rangeAt_setCells_same (U.alloc (.cells zPl.toArray 60)) U.heap.size 0 (plI x (.slice a x.2.2.1.2.2.length c)) (by rw [hlen]; exact ht)
      exact h j q hq
    have c70 : W.cell? ⟨U.heap.size, 0, none⟩ = some (.int .i64 (x.1 : Int)) := HRG.out 0 _ rfl
    have c71 : W.cell? ⟨U.heap.size, 1, none⟩ = some (.int .i64 (x.2.2.2 : Int)) := HRG.out 1 _ rfl
    have c0 := h0.cell
    have c1 := h1.cell
    have c2 := h2.cell
    have f0 := h0.frozen
    have f1 := h1.frozen
    have f2 := h2.frozen
    change W.cell? ⟨w.heap.size + 1 + 1, 0, none⟩ = _ at c2
    change W.frozen? ⟨w.heap.size + 1 + 1, 0, none⟩ = _ at f2
    have hfl : ∃ f, x.2.1 = f := ⟨_, rfl⟩
    obtain ⟨f, hf⟩ := hfl
    obtain ⟨p, hp⟩ : ∃ p, x.1 = p := ⟨_, rfl⟩
    obtain ⟨N, hN⟩ : ∃ N, x.2.2.2 = N := ⟨_, rfl⟩
    have HF := hid (And.intro hf (And.intro hp hN))
    have hne : U.heap.size ≠ w.heap.size := by omega
    have hne1 : U.heap.size ≠ w.heap.size + 1 := by omega
    by_cases hf0 : f = 0
    · have hfb : (f != 0) = false := by simp [hf0]
      obtain ⟨hPN, hSC⟩ := e3 (by rw [hf]; exact hf0)
      have HSC := hid hSC
      obtain ⟨us, hl, hown, hn, hk⟩ := h3
      have HPL := hid (plI_length (x := x) hnm (.slice a x.2.2.1.2.2.length c))
      have HPO := hid (plI_one x a x.2.2.1.2.2.length c)
      have HBS := hid (run_onepl x.1 x.2.2.2 x.2.2.1.1 x.2.2.1.2.1 a x.2.2.1.2.2.length c hnm.1 W)
      have hPA' : placedA x.1 x.2.2.2 (recA x.2.2.1.1 x.2.2.1.2.1 (.slice a x.2.2.1.2.2.length c)) = plI x (.slice a x.2.2.1.2.2.length c) := rfl
      rw [hPA'] at HBS
      obtain ⟨PA, hPA⟩ : ∃ PA, plI x (.slice a x.2.2.1.2.2.length c) = PA := ⟨_, rfl⟩
      have HPA := hid hPA
      rw [hPA] at HBS HPL HPO HRG
      rw [hrn] at hown
      have hrk : rn ≤ 1000000000000 := by
        have := tl_length_le xs _ 0 (Nat.le_refl _)
        rw [List.length_take] at hrn
        omega
      have hbW : W0.heap.size ≤ W.heap.size := by omega
      have hal : Below W.heap.size W (W.alloc (.cells PA.toArray 60)) := (Below.refl _ _).alloc (Nat.le_refl _) _
      obtain ⟨i, hi, hiz⟩ : ∃ i, Tryz.prog.info? 60 = some i ∧ (i.zero, i.size, i.bytes) = (some (.agg zPl.toArray), 36, 80) := Option.map_eq_some_iff.1 info62'
      simp only [Prod.mk.injEq] at hiz
      obtain ⟨z1, z2, z3⟩ := hiz
      obtain ⟨g, cap, W2, hap, hown2, hgrow, hat, hg⟩ := run_append_lies (P := Tryz.prog) (W.alloc (.cells PA.toArray 60)) 47 47 W0.heap.size 60 i (.agg zPl.toArray) 36 80 Tryz.underlying47 hi z1 z2 z3 rfl (by omega)
        (.slice ra rn rc) rn _ (ownsRow_kept hown (CellsKept.of_kept (b := b) (Kept.below hal)) (by omega)) ⟨W.heap.size, 0, none⟩ 1 1 PA (by rw [HPL.out]) (fun j u h => by rw [Addr.add_lit]; exact range_new W PA 60 j u h) HPO.out (by omega) (by unfold maxLen; omega) (by omega) (by simp; omega) _ rfl
      have HAP := hid hap
      have low2 : ∀ i, i < W.heap.size → (Value.slice ra rn rc).ownBlock ≠ some i → W2.heap[i]? = W.heap[i]? := fun i hi hne => by
        rw [hgrow.block i (by simp; omega) (fun e => hne e.symm)]
        exact Below.heap_alloc _ _ _ hi
      have hlt := hown.lt
      have s2 := h2.lt
      have nlow : ∀ i, i < W0.heap.size → (Value.slice ra rn rc).ownBlock ≠ some i := fun i hi e => by have := (hlt i e).1; omega
      have q0 := low2 w.heap.size (by omega) (nlow _ (by omega))
      have q1 := low2 (w.heap.size + 1) (by omega) (nlow _ (by omega))
      have q7 := low2 U.heap.size hUW (fun e => by have := h6 _ e; omega)
      have c0' := (World.cell?_of_block (a := ⟨w.heap.size, 0, none⟩) q0).trans c0
      have c1' := (World.cell?_of_block (a := ⟨w.heap.size + 1, 0, none⟩) q1).trans c1
      have f0' := (World.frozen?_of_block (a := ⟨w.heap.size, 0, none⟩) q0).trans f0
      have f1' := (World.frozen?_of_block (a := ⟨w.heap.size + 1, 0, none⟩) q1).trans f1
      have c70' := (World.cell?_of_block (a := ⟨U.heap.size, 0, none⟩) q7).trans c70
      have c71' := (World.cell?_of_block (a := ⟨U.heap.size, 1, none⟩) q7).trans c71
      have HI : Hid ((Tryz.prog.info? 60).map (·.size) = some PA.length) := by rw [Hid, HPL.out]; exact Tryz.info62
      have HALL := hid (And.intro hown2 (And.intro hgrow (And.intro hat hg)))
      have HROW := hid (And.intro hl (And.intro hown (And.intro hn hk)))
      have HB := hid (And.intro hby (And.intro hnm (And.intro h0 (And.intro h1 h2))))
      have HT2 := hid hT
      rw [hp] at c70' hPN
      rw [hN] at c71' hPN
      clear e2 e3 hN hp hWU hWz hSC hown2 hgrow hat hg hown hn hk hl hby hnm h0 h1 h2 hT low2 nlow hlt q0 q1 q7 hap hal hPA' hPA c70 c71 hi z1 z2 z3
      simp only [hf]
      clear hf
      gi_wp2_with (first
        | (refine wpListIn_val (by rfl) (fun _ h => by cases h) (fun _ => trivial) (exec_load 60 _ (by rfl) U.heap.size 0 (by rfl) PA _ HRG.out Tryz.underlying60 rfl HI.out) ?_)
        | (refine wpListIn_val (by rfl) (fun _ h => by cases h) (fun _ => trivial) (exec_slice1 47 _ (by rfl) (.agg PA.toArray) _ (by rfl) HBS.out) ?_)
        | (refine wpListIn_val (by rfl) (fun _ h => by cases h) (fun _ => trivial) (exec_append _ _ 47 (by rfl) (.slice ra rn rc) (.slice (some ⟨W.heap.size, 0, none⟩) 1 1) _ (by rfl) (by rfl) HAP.out) ?_))
      obtain ⟨y1, y2, y3⟩ := HF.out
      obtain ⟨hown2, hgrow, hat, hg⟩ := HALL.out
      obtain ⟨hl, hown, hn, hk⟩ := HROW.out
      obtain ⟨hby, hnm, h0, h1, h2⟩ := HB.out
      have hSC := HSC.out
      have hPA := HPA.out
      have hT := HT2.out
      rw [y2, y3] at hSC
      subst hPA
      subst hrn
      obtain ⟨V, hV⟩ : ∃ V, (W2.setCell ⟨w.heap.size, 0, none⟩ (.slice (some ⟨g, 0, none⟩) (((tl xs 0).take k).length + 1) cap)).setCell ⟨w.heap.size + 1, 0, none⟩ (.int .i64 ((p : Int) + (N : Int))) = V := ⟨_, rfl⟩
      rw [hV]
      obtain ⟨k1, k2, k3, k4, k5, k6, k7, k8⟩ := push_facts (base := W0.heap.size) (b := b) (by omega) hbW hb h8 h0 h1 h2 hl hown hn hnm hk hby h6 hown2 hgrow (by simpa using hat) hg hV
      have hKV := Kept.then h5 k6
      obtain ⟨⟨t1, t2, t3, t4, t5, t6⟩, ht, _, hp, hq⟩ := hT
      refine ⟨k1, ⟨.slice (some ⟨g, 0, none⟩) (((tl xs 0).take k).length + 1) cap, p + N, k2, ?_, k4, ?_, hSC, hKV, ?_, hPN, ?_⟩, ⟨⟨?_, t2, t3, t4, t5, t6⟩, tabX_below ht k6 hb, ?_, ?_, ?_⟩⟩
      · rw [Int.natCast_add]; exact k3
      · rw [e1]; exact k5
      · intro r hr
        simp only [Value.ownBlock, Option.some.injEq] at hr
        omega
      · exact Nat.le_trans hbW k1.size
      · exact Nat.le_trans t1 k1.size
      · exact BySlS.mono (BySlS.kept HV.out hKV (fun g hg => hg)) (fun g hg => ⟨hg.1, by omega⟩)
      · exact (World.cell?_of_block (w := W) (a := ⟨w.heap.size + 4, 0, none⟩) (k8 (w.heap.size + 4) (by omega) (by omega) (by omega))).trans hp
      · exact (World.cell?_of_block (w := W) (a := ⟨w.heap.size + 3, 0, none⟩) (k8 (w.heap.size + 3) (by omega) (by omega) (by omega))).trans hq
    · have hfb : (f != 0) = true := by simp [hf0]
      rw [hp] at c70
      rw [hN] at c71
      have HE := hid (e2 (by rw [hf]; exact hf0))
      have hEq := HF.out
      clear e2 e3 HRG hN hp hWU hWz hEq
      simp only [hf]
      clear hf
      gi_wp2_with fail
      refine wpIn_mono (Q := fun e _ W' => e = .normal ∧ W' = (((W.setCell ⟨w.heap.size, 0, none⟩ (.slice ra rn rc)).setCell ⟨w.heap.size + 1, 0, none⟩ (.int .i64 (p : Int))).setCell ⟨w.heap.size + 1 + 1, 0, none⟩ (.int .i64 f)).drew) ?_ ?_
      · gi_region
        all_goals exact ⟨rfl, rfl⟩
      · rintro e a' W' ⟨rfl, rfl⟩
        gi_wp2_with fail
        obtain ⟨F, hF⟩ : ∃ F, (((W.setCell ⟨w.heap.size, 0, none⟩ (.slice ra rn rc)).setCell ⟨w.heap.size + 1, 0, none⟩ (.int .i64 (p : Int))).setCell ⟨w.heap.size + 1 + 1, 0, none⟩ (.int .i64 f)).drew = F := ⟨_, rfl⟩
        rw [hF]
        obtain ⟨g0, g1, g2, gk, gs, gi⟩ := scan_set3 h0 h1 h2 hF
        obtain ⟨y1, y2, _⟩ := HF.out
        have hEE := HE.out
        rw [y1, y2] at hEE
        refine ⟨⟨by omega, fun i o hi hio _ => (gi i (by omega)).trans hio⟩, rfl, .slice ra rn rc, g0, ?_, ?_, ?_, Kept.then h5 gk, tabX_below hT.2.1 gk hb⟩
        · rw [hEE]; exact g1
        · rw [hEE]; exact g2
        · rw [hEE]
          exact h3.cells ⟨by omega, fun i cs t fr hi _ hio => (gi i (by omega)).trans hio, fun i o u hi _ hio => (World.cell?_of_block (a := ⟨i, o, none⟩) (gi i (by omega))).trans hio⟩ (by omega)
  case done =>
    rintro D m W hD ⟨v, pos, h0, h1, h2, h3, h4, h5, h6, h7, h8⟩ hT hd
    rw [List.take_length, List.drop_length, scanR, List.append_nil] at h4
    rw [List.take_length] at h3
    obtain ⟨ra, rc, rfl⟩ := h3.form
    obtain ⟨L, hL⟩ : ∃ L, tl xs 0 = L := ⟨_, rfl⟩
    rw [hL] at h4 h3 h0 h6
    obtain ⟨rn, hrn⟩ : ∃ rn, L.length = rn := ⟨_, rfl⟩
    rw [hrn] at h0 h3 h6
    have c0 := h0.cell
    have c1 := h1.cell
    have c2 := h2.cell
    have f0 := h0.frozen
    have f1 := h1.frozen
    have f2 := h2.frozen
    change W.cell? ⟨w.heap.size + 1 + 1, 0, none⟩ = _ at c2
    change W.frozen? ⟨w.heap.size + 1 + 1, 0, none⟩ = _ at f2
    gi_wp2_with fail
    refine wpIn_wide.2 ?_
    go_region
    gi_wp2_with fail
    obtain ⟨F, hF⟩ : ∃ F, (((W.setCell ⟨w.heap.size, 0, none⟩ (.slice ra rn rc)).setCell ⟨w.heap.size + 1, 0, none⟩ (.int .i64 (pos : Int))).setCell ⟨w.heap.size + 1 + 1, 0, none⟩ (.int .i64 0)).drew = F := ⟨_, rfl⟩
    rw [hF]
    obtain ⟨g0, g1, g2, gk, gs, gi⟩ := scan_set3 h0 h1 h2 hF
    have gd : F.heap[D]? = some (.deferred (some [])) := (gi D (by omega)).trans hd
    have h3' : PRow 60 W0.heap.size b F (.slice ra rn rc) L := h3.cells ⟨by omega, fun i cs t fr hi _ hio => (gi i (by omega)).trans hio, fun i o u hi _ hio => (World.cell?_of_block (a := ⟨i, o, none⟩) (gi i (by omega))).trans hio⟩ (by omega)
    refine ⟨by simp, .inl ⟨_, _, rfl, run_takeDeferred gd, ?_⟩⟩
    have hpb := put_below (B := w.heap.size + 3) F (.deferred none) (l := D) (by omega) (Array.getElem?_eq_some_iff.1 gd).1
    have z0 := (hpb.cell (p := ⟨w.heap.size, 0, none⟩) (by simp)).trans g0.cell
    have z1 := (hpb.cell (p := ⟨w.heap.size + 1, 0, none⟩) (by simp)).trans g1.cell
    have z2 := (hpb.cell (p := ⟨w.heap.size + 1 + 1, 0, none⟩) (by simp)).trans g2.cell
    rw [h4]
    refine ⟨.tuple #[.slice ra rn rc, .int .i64 (pos : Int), .int .i64 0], by simp [results, Tryz.results64, go_sem, z0, z1, z2], ra, rc, by rw [hrn], ?_, Kept.then h5 (gk.trans (hpb.mono (by omega))), tabX_below hT.2.1 (gk.trans (hpb.mono (by omega))) hb⟩
    rw [hrn]
    exact (h3'.cells (put_kept gd) (by omega)).mono (by omega)
  case stop =>
    rintro D c k W hD hk ⟨rfl, v, h0, h1, h2, h3, h4, h5⟩ hd
    obtain ⟨ra, rc, rfl⟩ := h3.form
    obtain ⟨S, hS⟩ : ∃ S, scanF xs = S := ⟨_, rfl⟩
    rw [hS] at h0 h1 h2 h3
    gi_wp2_with fail
    rw [hS]
    refine ⟨by simp, .inl ⟨_, _, rfl, run_takeDeferred hd, ?_⟩⟩
    have hpb := put_below (B := w.heap.size + 3) W (.deferred none) (l := D) (by omega) (Array.getElem?_eq_some_iff.1 hd).1
    have z0 := (hpb.cell (p := ⟨w.heap.size, 0, none⟩) (by simp)).trans h0.cell
    have z1 := (hpb.cell (p := ⟨w.heap.size + 1, 0, none⟩) (by simp)).trans h1.cell
    have z2 := (hpb.cell (p := ⟨w.heap.size + 1 + 1, 0, none⟩) (by simp)).trans h2.cell
    refine ⟨.tuple #[.slice ra S.1.length rc, .int .i64 (S.2.1 : Int), .int .i64 S.2.2], by simp [results, Tryz.results64, go_sem, z0, z1, z2], ra, rc, rfl, (h3.cells (put_kept hd) (by omega)).mono (by omega), Kept.then h4 (hpb.mono (by omega)), tabX_below h5 hpb (by omega)⟩
end Go.Proofs.YtaaioaocjfpajaaGreatDoor
end

section
/-
  What At answers.
-/
namespace Go.Proofs.YtaaioaocjfpajaaGreatDoor
open Go.RowKit Go.Shelf
open Tlv (Tr BySlS AgreeS Agree)
open Crc (hid Kept Tab)

set_option maxHeartbeats 1000000 in
set_option maxRecDepth 100000 in
theorem at_bad (b : Nat) (a : Option Addr) (l c : Nat) (z : Int) (w : World) (hz : z < 0 ∨ (l : Int) ≤ z) :
    Calls Tryz.prog 70 #[.pointer (some ⟨b, 0, none⟩), .slice a l c, .int .i64 z] w fun e w' => e = .returned (.tuple #[.agg zRec.toArray, .int .i64 1]) ∧ Below w.heap.size w w' := by
  have hz0 := zero35
  obtain ⟨Z, hZ⟩ : ∃ Z, zRec = Z := ⟨_, rfl⟩
  have HZ := hid hZ
  rw [hZ] at hz0
  rw [hZ]
  clear hZ
  have HI2 : Hid ((Tryz.prog.info? 56).map (·.size) = some Z.toArray.size) := by rw [← HZ.out]; exact Tryz.info35
  have H1 : Hid (Z.toArray.all (·.oneCell') = true) := by rw [← HZ.out]; exact all_oneCell_toArray zRec_one
  have HT : Hid (World.there (w.alloc (.cells Z.toArray 56)) w.heap.size 0 Z.toArray.size) := there_new w Z 56
  have hr : World.rangeAt ((w.alloc (.cells Z.toArray 56)).setCells w.heap.size 0 Z) w.heap.size 0 Z := World.rangeAt_setCells_same _ _ _ _ HT.out
  by_cases hz1 : z < 0
  · clear hz
    go_enter Tryz.func70, Tryz.ntmps70
    go_wp2_with (refine wpList_store_mid (by rfl) 56 _ _ (by rfl) w.heap.size 0 Z.toArray (by rfl) (by rfl) HT.out HI2.out H1.out ?_)
    exact bodyPost_ret (v := .tuple #[.agg Z.toArray, .int .i64 1]) (results_cell_mid2 Tryz.results70 _ _ w.heap.size 0 _ _ rfl hr Tryz.underlying56 rfl HI2.out) rfl ⟨rfl, ((Below.refl _ _).alloc (Nat.le_refl _) _).trans (setCells_below (Nat.le_refl _) _ _ _)⟩
  · have hz2 : (l : Int) ≤ z := by omega
    clear hz
    go_enter Tryz.func70, Tryz.ntmps70
    go_wp2_with (refine wpList_store_mid (by rfl) 56 _ _ (by rfl) w.heap.size 0 Z.toArray (by rfl) (by rfl) HT.out HI2.out H1.out ?_)
    exact bodyPost_ret (v := .tuple #[.agg Z.toArray, .int .i64 1]) (results_cell_mid2 Tryz.results70 _ _ w.heap.size 0 _ _ rfl hr Tryz.underlying56 rfl HI2.out) rfl ⟨rfl, ((Below.refl _ _).alloc (Nat.le_refl _) _).trans (setCells_below (Nat.le_refl _) _ _ _)⟩

/-- What At leaves: as Take does, its length left out. -/
def Atd (w w' : World) (b : Nat) (e : Ending) (x : Int × (Int × List Int × List Int) × Nat) : Prop :=
  ∃ a c, e = .returned (.tuple #[.agg (recA x.2.1.1 x.2.1.2.1 (.slice a x.2.1.2.2.length c)).toArray, .int .i64 x.1]) ∧
    BySlS (fun g => w.heap.size ≤ g ∧ g < w'.heap.size) w' (.slice a x.2.1.2.2.length c) x.2.1.2.2 ∧ (x.2.1.2.1.length = 32 ∧ ∀ y ∈ x.2.1.2.1, 0 ≤ y ∧ y ≤ 255) ∧ Kept b w w' ∧ TabX w' b

set_option maxHeartbeats 1000000 in
set_option maxRecDepth 100000 in
theorem at_any (b k : Nat) (v : Value) (xs : List Int) (w : World) (hT : TabX w b) (hv : BySlS (fun g => g ≠ b ∧ g < w.heap.size) w v xs) (hk : k < xs.length) :
    Calls Tryz.prog 70 #[.pointer (some ⟨b, 0, none⟩), v, .int .i64 (k : Int)] w fun e w' => Atd w w' b e (takeF (xs.drop k)) := by
  obtain ⟨a', cap, rfl, hc, hmax, _, h47, _, h7⟩ := id hv
  obtain ⟨g, o, rfl, hgb, _⟩ := h7 (by intro e; subst e; simp at hk)
  have HVV : Hid (BySlS (fun x => x ≠ b ∧ x < w.heap.size) w (.slice (some ⟨g, o + k, none⟩) (xs.length - k) (cap - k)) (xs.drop k)) := bySlS_drop hv hk
  have HT := hid hT
  clear hv h7 hT
  unfold maxLen at hmax
  have hz0 := zero35
  obtain ⟨Z, hZ⟩ : ∃ Z, zRec = Z := ⟨_, rfl⟩
  have HZ := hid hZ
  rw [hZ] at hz0
  clear hZ
  go_enter Tryz.func70, Tryz.ntmps70
  go_wp2_with fail
  have hB1 : Below w.heap.size w (w.alloc (.cells Z.toArray 56)) := (Below.refl _ _).alloc (Nat.le_refl _) _
  have hHT := there_new w Z 56
  have hs1 : (w.alloc (.cells Z.toArray 56)).heap.size = w.heap.size + 1 := by simp
  generalize hW1 : w.alloc (.cells Z.toArray 56) = W1 at *
  refine (take_any b _ (xs.drop k) W1 (HT.out.below hB1) ?_).mono ?_
  · have h : BySlS (fun x => x ≠ b ∧ x < W1.heap.size) W1 _ _ := BySlS.mono (BySlS.below HVV.out hB1 (fun g hg => hg.2)) (fun g hg => ⟨hg.1, by omega⟩)
    simpa only [List.length_drop] using h
  rintro e w1 ⟨ar, cr, rfl, hby, hnm, hkk, htt⟩
  have hbw := HT.out.lt
  have hz1 := hkk.size
  generalize hX : takeF (xs.drop k) = X at *
  have HPL := hid (recA_length X.2.1.1 X.2.1.2.1 (.slice ar X.2.1.2.2.length cr) hnm.1)
  have HPO := hid (recA_one X.2.1.1 X.2.1.2.1 ar X.2.1.2.2.length cr)
  obtain ⟨C, hC⟩ : ∃ C, recA X.2.1.1 X.2.1.2.1 (.slice ar X.2.1.2.2.length cr) = C := ⟨_, rfl⟩
  rw [hC] at HPL HPO
  rw [hC]
  have HCs : Hid (C.toArray.size = 34) := HPL.out
  have HI : Hid ((Tryz.prog.info? 56).map (·.size) = some C.toArray.size) := by rw [Hid, HCs.out]; exact Tryz.info35
  have HO : Hid (C.toArray.all (·.oneCell') = true) := all_oneCell_toArray HPO.out
  have hZl : Z.length = 34 := by rw [← HZ.out]; exact zRec_length
  rw [hZl] at hHT
  have ha1 : Below w1.heap.size w1 (w1.alloc (.cells Z.toArray 56)) := (Below.refl _ _).alloc (Nat.le_refl _) _
  have hb2 := setCells_below (B := w1.heap.size) (Nat.le_refl _) (w1.alloc (.cells Z.toArray 56)) 0 C
  have ht2 : (w1.alloc (.cells Z.toArray 56)).there w1.heap.size 0 34 := by have h := there_new w1 Z 56; rwa [hZl] at h
  have HT2 : Hid (World.there (w1.alloc (.cells Z.toArray 56)) w1.heap.size 0 C.toArray.size) := by rw [Hid, HCs.out]; exact ht2
  have HR2 : Hid (World.rangeAt ((w1.alloc (.cells Z.toArray 56)).setCells w1.heap.size 0 C) w1.heap.size 0 C) := World.rangeAt_setCells_same _ _ _ _ HT2.out
  have h3 : Below w1.heap.size w1 ((w1.alloc (.cells Z.toArray 56)).setCells w1.heap.size 0 C) := ha1.trans hb2
  have HT3 : Hid (World.there ((w1.alloc (.cells Z.toArray 56)).setCells w1.heap.size 0 C) w.heap.size 0 C.toArray.size) := by
    rw [Hid, HCs.out]
    exact there_below (there_kept hHT hkk (by omega) (by omega)) h3 (by omega)
  have HR3 : Hid (World.rangeAt (((w1.alloc (.cells Z.toArray 56)).setCells w1.heap.size 0 C).setCells w.heap.size 0 C) w.heap.size 0 C) := World.rangeAt_setCells_same _ _ _ _ HT3.out
  have H3 := hid h3
  have HBY := hid (And.intro hby (And.intro hnm (And.intro hkk htt)))
  clear h3 ha1 hb2 ht2 hHT hby hnm hkk htt
  go_wp2_with (first
    | (refine wpList_store_mid (by rfl) 56 _ _ (by rfl) w1.heap.size 0 C.toArray (by rfl) (by rfl) HT2.out HI.out HO.out ?_)
    | (refine wpList_load_mid (by rfl) 56 _ (by rfl) w1.heap.size 0 (by rfl) C _ HR2.out Tryz.underlying56 rfl HI.out ?_)
    | (refine wpList_store_mid (by rfl) 56 _ _ (by rfl) w.heap.size 0 C.toArray (by rfl) (by rfl) HT3.out HI.out HO.out ?_))
  obtain ⟨hby, hnm, hkk, htt⟩ := HBY.out
  have hV : Below w.heap.size w1 (((w1.alloc (.cells Z.toArray 56)).setCells w1.heap.size 0 C).setCells w.heap.size 0 C) := (H3.out.mono (by omega)).trans (setCells_below (Nat.le_refl _) _ _ _)
  refine bodyPost_ret (v := .tuple #[.agg C.toArray, .int .i64 X.1]) (results_cell_mid2 Tryz.results70 _ _ w.heap.size 0 _ _ rfl HR3.out Tryz.underlying56 rfl HI.out) rfl ?_
  rw [hX]
  refine ⟨ar, cr, by rw [hC], hby.agree (fun g hg => (setCells_block _ _ _ _ _ (by omega)).trans (H3.out.block g hg.2)) (fun g hg => ⟨by omega, Nat.lt_of_lt_of_le hg.2 hV.size⟩), hnm, Kept.then ((Kept.below hB1).trans hkk) hV, tabX_below htt hV hbw⟩
end Go.Proofs.YtaaioaocjfpajaaGreatDoor
end

section
/-
  A record is added to a pack.
-/
namespace Go.Proofs.YtaaioaocjfpajaaGreatDoor
open Go.RowKit Go.Shelf
open Tlv (BySlS)
open Sim (hid Kp No PS Done Blk nm pCreate finds pBytes pAppend)
theorem build35z : Tryz.prog.built 56 [] = some zRec.toArray := by kernel_rfl

theorem byP_of {S : Nat → Prop} {w : World} {v : Value} {xs : List Int} (h : BySlS S w v xs) (hS : ∀ g, S g → g < w.heap.size) : Sim.ByP S w v (nats xs) := by
  obtain ⟨a, cap, rfl, h2, h3, h4, h5, h6, h7⟩ := h
  refine ⟨a, cap, by rw [nats_length], by rw [nats_length]; exact h2, h3, fun e => ⟨by rw [(h4 e).1]; rfl, (h4 e).2⟩, by rw [nats_length]; exact h5, nats_lt _ h6, fun hne => ?_⟩
  obtain ⟨g, o, e, hg, hc⟩ := h7 (fun e => hne (by rw [e]; rfl))
  refine ⟨g, o, e, hg, hS g hg, fun i hi => ?_⟩
  rw [nats_length] at hi
  rw [hc i hi]
  have h := h6 (xs[i]) (List.getElem_mem hi)
  have e1 : xs.getD i 0 = xs[i] := by rw [List.getD_eq_getElem?_getD, List.getElem?_eq_getElem hi]; rfl
  have e2 : (nats xs).getD i 0 = xs[i].toNat := by rw [List.getD_eq_getElem?_getD, nats, List.getElem?_map, List.getElem?_eq_getElem hi]; rfl
  rw [e1, e2, Int.toNat_of_nonneg h.1]

/-- What Add answers, and what it leaves: where, the fault, the files, the writer's size and count. -/
def addF (i sz ct : Nat) (X : List Int) (r : Bool) (p : PS) : Int × Int × PS × Nat × Nat :=
  if r = false then (0, 1, p, sz, ct) else if 12000 < sz + X.length then (0, 2, p, sz, ct)
  else if (pAppend (nm (nameT i)) (nats X) p).1 = 0 then (sz, 0, (pAppend (nm (nameT i)) (nats X) p).2, sz + X.length, ct + 1) else (0, ((pAppend (nm (nameT i)) (nats X) p).1 : Nat), (pAppend (nm (nameT i)) (nats X) p).2, sz, ct)

def Added (P : Nat → Prop) (N : Nat) (w w' : World) (g s b i : Nat) (e : Ending) (r : Int × Int × PS × Nat × Nat) : Prop :=
  e = .returned (.tuple #[.int .i64 r.1, .int .i64 r.2.1]) ∧ WrAt w' g s b i r.2.2.2.1 r.2.2.2.2 false ∧ TabX w' b ∧
    ∃ P', Sim.Sys P' (N + 1) w' s r.2.2.1 ∧ Kp (fun x => P x ∨ x = b ∨ x = g) w w' ∧ (∀ x, P' x → P x ∨ w.heap.size ≤ x)

set_option maxHeartbeats 2000000 in
set_option maxRecDepth 100000 in
theorem addW_any {P : Nat → Prop} {N : Nat} (w : World) (g s b i sz ct : Nat) (p : PS) (k : Int) (nmr bs : List Int) (v : Value) (hi1 : 1 ≤ i) (hi2 : i < 100) (hW : WrAt w g s b i sz ct false) (h : Sim.Sys P N w s p) (hN : N + 1 ≤ 1000) (hT : TabX w b)
    (hb : ¬ P b) (hg : ¬ P g) (hgb : g ≠ b) (hbs : Tlv.BySl 0 w.heap.size w v bs) (hn : nmr.length = 32) (hx : ∀ x ∈ nmr, 0 ≤ x ∧ x ≤ 255) (h200 : (putX k nmr bs).length ≤ 12000) (hsz : sz ≤ 12000) (hct : ct ≤ 20000000) :
    Calls Tryz.prog 81 #[.pointer (some ⟨g, 0, none⟩), .agg (recA k nmr v).toArray] w fun e w' => Added P N w w' g s b i e (addF i sz ct (putX k nmr bs) (rightB k bs.length) p) := by
  obtain ⟨av, cv, rfl, _⟩ := id hbs
  have hcl := recA_length k nmr (.slice av bs.length cv) hn
  have HPUT := hid (fun V hV hb => put_one b k nmr bs (.slice av bs.length cv) V hV hb hn hx)
  obtain ⟨C, hC⟩ : ∃ C, recA k nmr (.slice av bs.length cv) = C := ⟨_, rfl⟩
  rw [hC] at hcl HPUT
  rw [hC]
  clear hC
  have HI : Hid ((Tryz.prog.info? 56).map (·.size) = some C.length) := by rw [Hid, hcl]; exact Tryz.info35
  have hal : Below w.heap.size w (w.alloc (.cells C.toArray 56)) := (Below.refl _ _).alloc (Nat.le_refl _) _
  have HRN := hid (range_new w C 56)
  have HAL := hid hal
  have HSY := hid h
  have HTT := hid (hT.below hal)
  have hWa : WrAt (w.alloc (.cells C.toArray 56)) g s b i sz ct false := hW.kp (Kp.below (L := No) hal) (fun h => h)
  have HWA := hid hWa
  have HBA := hid (hbs.agree (Tlv.Agree.below hal) (Nat.le_refl _) hal.size)
  have hsw : (w.alloc (.cells C.toArray 56)).heap.size = w.heap.size + 1 := by simp
  have HGW : Hid (g < w.heap.size ∧ b < w.heap.size) := ⟨hW.lt, hT.lt⟩
  obtain ⟨X, hX⟩ : ∃ X, putX k nmr bs = X := ⟨_, rfl⟩
  obtain ⟨F, hF⟩ : ∃ F, putF k bs.length = F := ⟨_, rfl⟩
  have hF' : F = if rightB k bs.length then 0 else 1 := by rw [← hF]; rfl
  rw [hX, hF] at HPUT
  rw [hX] at h200
  rw [hX]
  have HX := hid hX
  have HF := hid hF'
  obtain ⟨R, hR⟩ : ∃ R, rightB k bs.length = R := ⟨_, rfl⟩
  rw [hR] at HF ⊢
  have HXF : Hid (R = false → X = []) := fun e => by rw [← hX, putX, hR, e]; rfl
  clear hX hF hF' hR
  go_enter Tryz.func81, Tryz.ntmps81
  generalize hWW : w.alloc (.cells C.toArray 56) = W at *
  clear h hT hW hbs hal hWa
  go_wp2_with (go_at_call 83; refine (wrongW_any _ _ _ _ _ _ _ _ HWA.out).mono ?_; rintro e w1 ⟨rfl, h⟩; subst w1)
  have hgW : g < W.heap.size := by have := HGW.out; omega
  have hbW : b < W.heap.size := by have := HGW.out; omega
  have cw1 : W.cell? ⟨g, 1, none⟩ = some (.pointer (some ⟨b, 0, none⟩)) := HWA.out.cell 1
  refine wp_region_held_drew (S := fun V => Crc.Kept b W V) (by kernel_rfl) (Crc.Kept.below (Below.refl _ _).drew) (fun hHeld => ?_)
  refine wpAnyH_take (i := 0) (oi := { dst := some 17, op := Op.move (Operand.tmp 0), type := 130, pos := "writer.go:42", after := #[], guard := none }) (v := .pointer (some ⟨g, 0, none⟩)) rfl (by kernel_rfl) (by kernel_rfl) (by kernel_rfl) (fun _ _ _ h => h) (Or.inl ⟨by rfl, fun w' hw' => by (clear hw'; go_simp)⟩) hHeld ?_
  simp only [Act.put, List.setIfInBounds_toArray, List.set_cons_zero, List.set_cons_succ]
  refine wpAnyH_take (i := 1) (oi := { dst := some 18, op := Op.nilCheck (Operand.tmp 17), type := 0, pos := "writer.go:42", after := #[{ on := 0, ground := Ground.data }], guard := none }) (v := .pointer (some ⟨g, 0, none⟩)) rfl (by kernel_rfl) (by kernel_rfl) (by kernel_rfl) (fun _ _ _ h => h) (Or.inl ⟨by rfl, fun w' hw' => by (clear hw'; go_simp)⟩) hHeld ?_
  simp only [Act.put, List.setIfInBounds_toArray, List.set_cons_zero, List.set_cons_succ]
  refine wpAnyH_take (i := 2) (oi := { dst := some 19, op := Op.fieldAddr 166 (Operand.tmp 18) 1, type := 0, pos := "writer.go:42", after := #[{ on := 1, ground := Ground.data }], guard := none }) (v := .pointer (some ⟨g, 1, none⟩)) rfl (by kernel_rfl) (by kernel_rfl) (by kernel_rfl) (fun _ _ _ h => h) (Or.inl ⟨by rfl, fun w' hw' => by (clear hw'; go_simp)⟩) hHeld ?_
  simp only [Act.put, List.setIfInBounds_toArray, List.set_cons_zero, List.set_cons_succ]
  refine wpAnyH_take (i := 3) (oi := { dst := some 20, op := Op.load 32 (Operand.tmp 19), type := 32, pos := "writer.go:42", after := #[{ on := 2, ground := Ground.data }], guard := none }) (v := .pointer (some ⟨b, 0, none⟩)) rfl (by kernel_rfl) (by kernel_rfl) (by kernel_rfl) (fun _ _ _ h => h) (Or.inl ⟨by rfl, fun w' hw' => by (have q := (hw'.cell (p := ⟨g, 1, none⟩) hgW hgb).trans cw1; clear hw'; go_simp)⟩) hHeld ?_
  simp only [Act.put, List.setIfInBounds_toArray, List.set_cons_zero, List.set_cons_succ]
  refine wpAnyH_take (i := 4) (oi := { dst := some 21, op := Op.load 56 (Operand.tmp 3), type := 56, pos := "writer.go:42", after := #[], guard := none }) (v := .agg C.toArray) rfl (by kernel_rfl) (by kernel_rfl) (by kernel_rfl) (fun _ _ _ h => h) (yieldsIf_load_mid (by rfl) _ _ rfl w.heap.size 0 rfl C _ (fun V hV => rangeAt_kept HRN.out hV (by omega) (by have := HGW.out; omega)) Tryz.underlying56 rfl HI.out) hHeld ?_
  simp only [Act.put, List.setIfInBounds_toArray, List.set_cons_zero, List.set_cons_succ]
  refine wpAnyH_ready (rs := [5]) (by kernel_rfl) (by simp) ?_
  refine AllReadyH.cons (o := { dst := some 22, op := Op.call { callee := Callee.value (Operand.func 105), args := #[Operand.tmp 20, Operand.tmp 21], argTypes := #[32, 56] }, type := 139, pos := "writer.go:42", after := #[{ on := 3, ground := Ground.data }, { on := 4, ground := Ground.data }], guard := none }) rfl (fun K hK => ?_) AllReadyH.nil
  go_simp
  refine (HPUT.out _ (HTT.out.below (Below.refl _ _).drew) (HBA.out.agree (Tlv.Agree.below (Below.refl _ _).drew) (Nat.le_refl _) (Nat.le_refl _))).mono ?_
  rintro e w3 ⟨ap, cp, rfl, hp3, hk3, ht3⟩
  have HP3 := hid hp3
  have HK3 : Hid (Crc.Kept b W w3) := (Crc.Kept.below (Below.refl _ _).drew).trans hk3
  have HT3 := hid ht3
  clear hp3 hk3 ht3
  go_wp2_with fail
  refine hK.out _ _ (HK3.out) (fun hh => ?_)
  clear hK K hHeld
  have hHeld := hh
  clear hh
  try simp only [Act.put, List.setIfInBounds_toArray, List.set_cons_zero, List.set_cons_succ]
  refine wpAnyH_take (i := 6) (oi := { dst := some 16, op := Op.move (Operand.tmp 22), type := 139, pos := "writer.go:42", after := #[{ on := 5, ground := Ground.data }], guard := none }) (v := .tuple #[.slice ap X.length cp, .int .i64 F]) rfl (by kernel_rfl) (by kernel_rfl) (by kernel_rfl) (fun _ _ _ h => h) (Or.inl ⟨by rfl, fun w' hw' => by (clear hw'; go_simp)⟩) hHeld ?_
  simp only [Act.put, List.setIfInBounds_toArray, List.set_cons_zero, List.set_cons_succ]
  refine wpAnyH_take (i := 7) (oi := { dst := some 23, op := Op.extract (Operand.tmp 16) 0, type := 54, pos := "writer.go:42", after := #[{ on := 6, ground := Ground.data }], guard := none }) (v := .slice ap X.length cp) rfl (by kernel_rfl) (by kernel_rfl) (by kernel_rfl) (fun _ _ _ h => h) (Or.inl ⟨by rfl, fun w' hw' => by (clear hw'; go_simp)⟩) hHeld ?_
  simp only [Act.put, List.setIfInBounds_toArray, List.set_cons_zero, List.set_cons_succ]
  refine wpAnyH_take (i := 8) (oi := { dst := some 24, op := Op.extract (Operand.tmp 16) 1, type := 26, pos := "writer.go:42", after := #[{ on := 6, ground := Ground.data }, { on := 9, ground := Ground.gcOnly Departure.lateStores }], guard := none }) (v := .int .i64 F) rfl (by kernel_rfl) (by kernel_rfl) (by kernel_rfl) (fun _ _ _ h => h) (Or.inl ⟨by rfl, fun w' hw' => by (clear hw'; go_simp)⟩) hHeld ?_
  simp only [Act.put, List.setIfInBounds_toArray, List.set_cons_zero, List.set_cons_succ]
  refine wpAnyH_take (i := 9) (oi := { dst := some 7, op := Op.assign (Operand.tmp 23), type := 54, pos := "writer.go:42", after := #[{ on := 7, ground := Ground.data }, { on := 5, ground := Ground.chain }, { on := 0, ground := Ground.phase }, { on := 1, ground := Ground.phase }, { on := 2, ground := Ground.phase }, { on := 3, ground := Ground.phase }, { on := 4, ground := Ground.phase }, { on := 5, ground := Ground.phase }, { on := 6, ground := Ground.phase }, { on := 7, ground := Ground.phase }, { on := 8, ground := Ground.textOnly Departure.lateStores }], guard := none }) (v := .slice ap X.length cp) rfl (by kernel_rfl) (by kernel_rfl) (by kernel_rfl) (fun _ _ _ h => h) (Or.inl ⟨by rfl, fun w' hw' => by (clear hw'; go_simp)⟩) hHeld ?_
  simp only [Act.put, List.setIfInBounds_toArray, List.set_cons_zero, List.set_cons_succ]
  refine wpAnyH_take (i := 10) (oi := { dst := some 8, op := Op.assign (Operand.tmp 24), type := 26, pos := "writer.go:42", after := #[{ on := 8, ground := Ground.data }, { on := 9, ground := Ground.chain }, { on := 0, ground := Ground.phase }, { on := 1, ground := Ground.phase }, { on := 2, ground := Ground.phase }, { on := 3, ground := Ground.phase }, { on := 4, ground := Ground.phase }, { on := 5, ground := Ground.phase }, { on := 6, ground := Ground.phase }, { on := 7, ground := Ground.phase }, { on := 8, ground := Ground.phase }, { on := 9, ground := Ground.phase }], guard := none }) (v := .int .i64 F) rfl (by kernel_rfl) (by kernel_rfl) (by kernel_rfl) (fun _ _ _ h => h) (Or.inl ⟨by rfl, fun w' hw' => by (clear hw'; go_simp)⟩) hHeld ?_
  simp only [Act.put, List.setIfInBounds_toArray, List.set_cons_zero, List.set_cons_succ]
  refine wpAnyH_done (by kernel_rfl) ?_ _
  have hK3s := HK3.out.size
  have HSY3 : Hid (Sim.Sys P N w3 s p) := sys_kept (HSY.out.kept (Kp.below HAL.out)) HK3.out hb
  have HW3 : Hid (WrAt w3 g s b i sz ct false) := HWA.out.kp (kp_kept HK3.out) hgb
  have HKW3 : Hid (Kp (fun x => P x ∨ x = b ∨ x = g) w w3) := (Kp.below HAL.out).trans (kp_kept HK3.out) (fun x hx => .inl (.inr (.inl hx)))
  clear hHeld
  cases R with
  | false =>
    have hF1 : F = 1 := HF.out
    subst hF1
    go_wp2_with fail
    go_ret2
    refine ⟨rfl, HW3.out, HT3.out, P, HSY3.out.more (by omega) (by omega), HKW3.out, fun x hx => .inl hx⟩
  | true =>
    have hF1 : F = 0 := HF.out
    subst hF1
    have c3 : w3.cell? ⟨g, 3, none⟩ = some (.int .i64 (sz : Int)) := HW3.out.cell 3
    have hw12 : IntKind.i64.wrap ((sz : Int) + (X.length : Int)) = (sz : Int) + (X.length : Int) := by rw [IntKind.wrap_i64]; omega
    by_cases h12 : 12000 < sz + X.length
    · have h12' : (12000 : Int) < (sz : Int) + (X.length : Int) := by omega
      go_wp2_with fail
      go_ret2
      have e : addF i sz ct X true p = (0, 2, p, sz, ct) := by rw [addF, if_neg (by simp), if_pos h12]
      rw [e]
      exact ⟨rfl, HW3.out, HT3.out, P, HSY3.out.more (by omega) (by omega), HKW3.out, fun x hx => .inl hx⟩
    · have h12' : ¬ (12000 : Int) < (sz : Int) + (X.length : Int) := by omega
      have c0 : w3.cell? ⟨g, 0, none⟩ = some (.pointer (some ⟨s, 0, none⟩)) := HW3.out.cell 0
      have c2 : w3.cell? ⟨g, 2, none⟩ = some (.int .i64 (i : Int)) := HW3.out.cell 2
      have hg3 : g < w3.heap.size := by omega
      have HTM := hid (fun V => ptemp_small i hi1 hi2 V)
      have HBP : Hid (Sim.ByP (fun x => W.heap.size ≤ x ∧ x < w3.heap.size) w3 (.slice ap X.length cp) (nats X)) := byP_of HP3.out (fun x hx => hx.2)
      have HAPP := hid (Sim.append_any w3.drew s p (nameT i) (.slice ap X.length cp) (nats X) (name_le _ (by decide) i hi2) (HSY3.out.kept ((Kp.refl _ _).drew)) hN (HBP.out.kept ((Kp.refl _ _).drew)) (fun x hx hp => by have h1 := HSY.out.lt x hp; have h2 := hx.1; omega) (by rw [nats_length]; exact h200))
      obtain ⟨FA, hFA⟩ : ∃ FA, (pAppend (nm (nameT i)) (nats X) p).1 = FA := ⟨_, rfl⟩
      obtain ⟨q, hq⟩ : ∃ q, (pAppend (nm (nameT i)) (nats X) p).2 = q := ⟨_, rfl⟩
      have HAF : Hid (addF i sz ct X true p = if FA = 0 then ((sz : Int), 0, q, sz + X.length, ct + 1) else (0, (FA : Int), q, sz, ct)) := by rw [Hid, addF, if_neg (by simp), if_neg h12, hFA, hq]
      rw [hFA, hq] at HAPP
      clear hFA hq
      go_wp2_with fail
      refine wp_region_held_drew (S := fun V => ∀ o, V.cell? ⟨g, o, none⟩ = w3.cell? ⟨g, o, none⟩) (by kernel_rfl) (fun _ => rfl) (fun hHeld => ?_)
      refine wpAnyH_take (i := 0) (oi := { dst := some 36, op := Op.move (Operand.tmp 0), type := 130, pos := "writer.go:49", after := #[], guard := none }) (v := .pointer (some ⟨g, 0, none⟩)) rfl (by kernel_rfl) (by kernel_rfl) (by kernel_rfl) (fun _ _ _ h => h) (Or.inl ⟨by rfl, fun w' hw' => by (clear hw'; go_simp)⟩) hHeld ?_
      simp only [Act.put, List.setIfInBounds_toArray, List.set_cons_zero, List.set_cons_succ]
      refine wpAnyH_take (i := 1) (oi := { dst := some 37, op := Op.nilCheck (Operand.tmp 36), type := 0, pos := "writer.go:49", after := #[{ on := 0, ground := Ground.data }], guard := none }) (v := .pointer (some ⟨g, 0, none⟩)) rfl (by kernel_rfl) (by kernel_rfl) (by kernel_rfl) (fun _ _ _ h => h) (Or.inl ⟨by rfl, fun w' hw' => by (clear hw'; go_simp)⟩) hHeld ?_
      simp only [Act.put, List.setIfInBounds_toArray, List.set_cons_zero, List.set_cons_succ]
      refine wpAnyH_take (i := 2) (oi := { dst := some 38, op := Op.fieldAddr 166 (Operand.tmp 37) 0, type := 0, pos := "writer.go:49", after := #[{ on := 1, ground := Ground.data }], guard := none }) (v := .pointer (some ⟨g, 0, none⟩)) rfl (by kernel_rfl) (by kernel_rfl) (by kernel_rfl) (fun _ _ _ h => h) (Or.inl ⟨by rfl, fun w' hw' => by (clear hw'; go_simp)⟩) hHeld ?_
      simp only [Act.put, List.setIfInBounds_toArray, List.set_cons_zero, List.set_cons_succ]
      refine wpAnyH_take (i := 3) (oi := { dst := some 39, op := Op.load 25 (Operand.tmp 38), type := 25, pos := "writer.go:49", after := #[{ on := 2, ground := Ground.data }], guard := none }) (v := .pointer (some ⟨s, 0, none⟩)) rfl (by kernel_rfl) (by kernel_rfl) (by kernel_rfl) (fun _ _ _ h => h) (Or.inl ⟨by rfl, fun w' hw' => by (have q := (hw' 0).trans c0; clear hw'; go_simp)⟩) hHeld ?_
      simp only [Act.put, List.setIfInBounds_toArray, List.set_cons_zero, List.set_cons_succ]
      refine wpAnyH_take (i := 4) (oi := { dst := some 40, op := Op.move (Operand.tmp 0), type := 130, pos := "writer.go:49", after := #[], guard := none }) (v := .pointer (some ⟨g, 0, none⟩)) rfl (by kernel_rfl) (by kernel_rfl) (by kernel_rfl) (fun _ _ _ h => h) (Or.inl ⟨by rfl, fun w' hw' => by (clear hw'; go_simp)⟩) hHeld ?_
      simp only [Act.put, List.setIfInBounds_toArray, List.set_cons_zero, List.set_cons_succ]
      refine wpAnyH_take (i := 5) (oi := { dst := some 41, op := Op.nilCheck (Operand.tmp 40), type := 0, pos := "writer.go:49", after := #[{ on := 4, ground := Ground.data }], guard := none }) (v := .pointer (some ⟨g, 0, none⟩)) rfl (by kernel_rfl) (by kernel_rfl) (by kernel_rfl) (fun _ _ _ h => h) (Or.inl ⟨by rfl, fun w' hw' => by (clear hw'; go_simp)⟩) hHeld ?_
      simp only [Act.put, List.setIfInBounds_toArray, List.set_cons_zero, List.set_cons_succ]
      refine wpAnyH_take (i := 6) (oi := { dst := some 42, op := Op.fieldAddr 166 (Operand.tmp 41) 2, type := 0, pos := "writer.go:49", after := #[{ on := 5, ground := Ground.data }], guard := none }) (v := .pointer (some ⟨g, 2, none⟩)) rfl (by kernel_rfl) (by kernel_rfl) (by kernel_rfl) (fun _ _ _ h => h) (Or.inl ⟨by rfl, fun w' hw' => by (clear hw'; go_simp)⟩) hHeld ?_
      simp only [Act.put, List.setIfInBounds_toArray, List.set_cons_zero, List.set_cons_succ]
      refine wpAnyH_take (i := 7) (oi := { dst := some 43, op := Op.load 3 (Operand.tmp 42), type := 3, pos := "writer.go:49", after := #[{ on := 6, ground := Ground.data }], guard := none }) (v := .int .i64 (i : Int)) rfl (by kernel_rfl) (by kernel_rfl) (by kernel_rfl) (fun _ _ _ h => h) (Or.inl ⟨by rfl, fun w' hw' => by (have q := (hw' 2).trans c2; clear hw'; go_simp)⟩) hHeld ?_
      simp only [Act.put, List.setIfInBounds_toArray, List.set_cons_zero, List.set_cons_succ]
      refine wpAnyH_take (i := 9) (oi := { dst := some 45, op := Op.move (Operand.tmp 7), type := 54, pos := "writer.go:49", after := #[], guard := none }) (v := .slice ap X.length cp) rfl (by kernel_rfl) (by kernel_rfl) (by kernel_rfl) (fun _ _ _ h => h) (Or.inl ⟨by rfl, fun w' hw' => by (clear hw'; go_simp)⟩) hHeld ?_
      simp only [Act.put, List.setIfInBounds_toArray, List.set_cons_zero, List.set_cons_succ]
      refine wpAnyH_ready (rs := [8]) (by kernel_rfl) (by simp) ?_
      refine AllReadyH.cons (o := { dst := some 44, op := Op.call { callee := Callee.value (Operand.func 56), args := #[Operand.tmp 43], argTypes := #[3] }, type := 9, pos := "writer.go:49", after := #[{ on := 7, ground := Ground.data }], guard := none }) rfl (fun K hK => ?_) AllReadyH.nil
      go_simp
      refine (HTM.out _).mono ?_
      rintro e u1 ⟨rfl, hu1⟩
      subst u1
      go_wp2_with fail
      refine hK.out _ _ (fun _ => rfl) (fun hh => ?_)
      clear hK K hHeld
      have hHeld := hh
      clear hh
      try simp only [Act.put, List.setIfInBounds_toArray, List.set_cons_zero, List.set_cons_succ]
      refine wpAnyH_ready (rs := [10]) (by kernel_rfl) (by simp) ?_
      refine AllReadyH.cons (o := { dst := some 46, op := Op.call { callee := Callee.value (Operand.func 106), args := #[Operand.tmp 39, Operand.tmp 44, Operand.tmp 45], argTypes := #[25, 9, 54] }, type := 26, pos := "writer.go:49", after := #[{ on := 3, ground := Ground.data }, { on := 8, ground := Ground.data }, { on := 9, ground := Ground.data }, { on := 8, ground := Ground.chain }], guard := none }) rfl (fun K hK => ?_) AllReadyH.nil
      go_simp
      refine HAPP.out.mono ?_
      rintro e w4 ⟨rfl, P', hS4, hK4, hP4⟩
      have HS4 := hid (And.intro hS4 (And.intro hK4 hP4))
      have HC4 : Hid (∀ o, w4.cell? ⟨g, o, none⟩ = w3.cell? ⟨g, o, none⟩) := fun o => hK4.cell (p := ⟨g, o, none⟩) hg3 hg
      clear hS4 hK4 hP4
      go_wp2_with fail
      refine hK.out _ _ (HC4.out) (fun hh => ?_)
      clear hK K hHeld
      have hHeld := hh
      clear hh
      try simp only [Act.put, List.setIfInBounds_toArray, List.set_cons_zero, List.set_cons_succ]
      refine wpAnyH_take (i := 11) (oi := { dst := some 9, op := Op.assign (Operand.tmp 46), type := 26, pos := "writer.go:49", after := #[{ on := 10, ground := Ground.data }, { on := 10, ground := Ground.chain }, { on := 0, ground := Ground.phase }, { on := 1, ground := Ground.phase }, { on := 2, ground := Ground.phase }, { on := 3, ground := Ground.phase }, { on := 4, ground := Ground.phase }, { on := 5, ground := Ground.phase }, { on := 6, ground := Ground.phase }, { on := 7, ground := Ground.phase }, { on := 8, ground := Ground.phase }, { on := 9, ground := Ground.phase }, { on := 10, ground := Ground.phase }], guard := none }) (v := .int .i64 (FA : Int)) rfl (by kernel_rfl) (by kernel_rfl) (by kernel_rfl) (fun _ _ _ h => h) (Or.inl ⟨by rfl, fun w' hw' => by (clear hw'; go_simp)⟩) hHeld ?_
      simp only [Act.put, List.setIfInBounds_toArray, List.set_cons_zero, List.set_cons_succ]
      refine wpAnyH_done (by kernel_rfl) ?_ _
      have hg4 : g < w4.heap.size := by have := HS4.out.2.1.size; have e : w3.drew.heap.size = w3.heap.size := rfl; omega
      have HW4 : Hid (WrAt w4 g s b i sz ct false) := HW3.out.kp (((Kp.refl (fun x => P x) w3).drew).trans HS4.out.2.1 (fun x hx => .inl hx)) hg
      have HT4 : Hid (TabX w4 b) := HT3.out.kp (((Kp.refl (fun x => P x) w3).drew).trans HS4.out.2.1 (fun x hx => .inl hx)) hb
      have HKW4 : Hid (Kp (fun x => P x ∨ x = b ∨ x = g) w w4) := HKW3.out.trans (((Kp.refl (fun x => P x) w3).drew).trans HS4.out.2.1 (fun x hx => .inl hx)) (fun x hx => .inl (.inl hx))
      have HNP : Hid (¬ P' g) := fun hp => by
        rcases HS4.out.2.2 g hp with h | h
        · exact hg h
        · have e : w3.drew.heap.size = w3.heap.size := rfl
          omega
      have HP5 : Hid (∀ x, P' x → P x ∨ w.heap.size ≤ x) := fun x hx => by
        rcases HS4.out.2.2 x hx with h | h
        · exact .inl h
        · have e : w3.drew.heap.size = w3.heap.size := rfl
          right
          omega
      clear hHeld c0 c2 c3
      by_cases hfa : FA = 0
      · subst hfa
        have d3 : w4.cell? ⟨g, 3, none⟩ = some (.int .i64 (sz : Int)) := HW4.out.cell 3
        have d4 : w4.cell? ⟨g, 4, none⟩ = some (.int .i64 (ct : Int)) := HW4.out.cell 4
        have f3 : w4.frozen? ⟨g, 3, none⟩ = false := HW4.out.frozen 3
        have f4 : w4.frozen? ⟨g, 4, none⟩ = false := HW4.out.frozen 4
        have hwc : IntKind.i64.wrap ((ct : Int) + 1) = (ct : Int) + 1 := by rw [IntKind.wrap_i64]; omega
        go_wp2_with fail
        go_ret2
        rw [HAF.out, if_pos trivial]
        have hB := (Blk.setCell HW4.out 3 (.int .i64 ((sz : Int) + (X.length : Int)))).setCell 4 (.int .i64 ((ct : Int) + 1))
        have hK : Kp (fun x => x = g) w4 ((w4.setCell ⟨g, 3, none⟩ (.int .i64 ((sz : Int) + (X.length : Int)))).setCell ⟨g, 4, none⟩ (.int .i64 ((ct : Int) + 1))) :=
          Kp.setCell (p := ⟨g, 4, none⟩) (Kp.setCell (p := ⟨g, 3, none⟩) (Kp.refl (fun x => x = g) w4) (.inl rfl) _) (.inl rfl) _
        refine ⟨rfl, ?_, HT4.out.kp hK (fun e => hgb e.symm), P', HS4.out.1.kp hK (fun x hx => by rw [hx]; exact HNP.out), HKW4.out.trans hK (fun x hx => .inl (.inr (.inr hx))), HP5.out⟩
        have e1 : ((sz + X.length : Nat) : Int) = (sz : Int) + (X.length : Int) := by simp
        have e2 : ((ct + 1 : Nat) : Int) = (ct : Int) + 1 := by simp
        show WrAt _ g s b i ((sz + X.length : Nat) : Int) ((ct + 1 : Nat) : Int) false
        rw [e1, e2]
        exact hB
      · have hfa' : ¬ ((FA : Int) = 0) := by omega
        go_wp2_with fail
        go_ret2
        rw [HAF.out, if_neg hfa]
        exact ⟨rfl, HW4.out, HT4.out, P', HS4.out.1, HKW4.out, HP5.out⟩
end Go.Proofs.YtaaioaocjfpajaaGreatDoor
end

section
/-
  A pack is loaded.
-/
namespace Go.Proofs.YtaaioaocjfpajaaGreatDoor
open Go.RowKit Go.Shelf
open Tlv (BySlS)
open Sim (hid Kp No PS Done Blk nm finds pBytes OwnB)

theorem own_of {w : World} {v : Value} {xs : List Nat} (h : OwnB w v xs) (hx : ∀ x ∈ xs, x < 256) (hl : xs.length ≤ 140737488355328) (B : Nat) (hB : ∀ x, v.ownBlock = some x → B ≤ x) : BySlS (fun g => B ≤ g ∧ g < w.heap.size) w v (ints xs) := by
  have h1 : w.ownsRow B 5 1 v (ints xs).length ((ints xs).map (Value.int .u8)) := by
    have e1 : (ints xs).map (Value.int .u8) = Sim.cl xs := by simp [ints, Sim.cl, Function.comp_def]
    rw [e1, ints_length]
    refine ⟨h.1, ?_⟩
    rcases h.2 with h2 | ⟨g, cap, cur, hv, _, r⟩
    · exact .inl h2
    · exact .inr ⟨g, cap, cur, hv, hB g (by rw [hv]; rfl), r⟩
  exact Tlv.BySl.toS (Tlv.BySl.own h1 (by rw [ints_length]; exact hl) (ints_bd _ hx))

set_option maxHeartbeats 1000000 in
theorem pread_any {P : Nat → Prop} {N : Nat} (w : World) (s b : Nat) (p : PS) (i : Nat) (h1 : 1 ≤ i) (h2 : i < 100) (h : Sim.Sys P N w s p) :
    Calls Tryz.prog 63 #[.pointer (some ⟨s, 0, none⟩), .pointer (some ⟨b, 0, none⟩), .int .i64 (i : Int)] w fun e w' => ∃ ad cap, e = .returned (.tuple #[.slice ad (pBytes (nm (nameP i)) p).length cap, .int .i64 (finds p (nm (nameP i)) : Nat)]) ∧
      OwnB w' (.slice ad (pBytes (nm (nameP i)) p).length cap) (pBytes (nm (nameP i)) p) ∧ (∀ x, (Value.slice ad (pBytes (nm (nameP i)) p).length cap).ownBlock = some x → w.heap.size ≤ x) ∧ Kp No w w' := by
  have HID : Hid (∀ V, Calls Tryz.prog 57 #[.int .i64 (i : Int)] V fun e w' => e = .returned (.bool true) ∧ w' = V) := fun V => by
    have h := isID_any (i : Int) V
    rwa [show idB (i : Int) = true from by simp [idB]; omega] at h
  have HNM := hid (fun V => pname_small i h1 h2 V)
  have HRD := hid (Sim.read_any w s p (nameP i) (name_le _ (by decide) i h2) h)
  obtain ⟨F, hF⟩ : ∃ F, finds p (nm (nameP i)) = F := ⟨_, rfl⟩
  obtain ⟨Y, hY⟩ : ∃ Y, pBytes (nm (nameP i)) p = Y := ⟨_, rfl⟩
  rw [hF, hY] at HRD ⊢
  clear hF hY
  go_enter Tryz.func63, Tryz.ntmps63
  go_wp2_with (first
    | (go_at_call 57; refine (HID.out _).mono ?_; rintro e w1 ⟨rfl, h⟩; subst w1)
    | (go_at_call 13; refine (HNM.out _).mono ?_; rintro e w1 ⟨rfl, h⟩; subst w1)
    | (go_at_call 90; refine HRD.out.mono ?_; rintro e w2 ⟨ad, cap, rfl, ho, hlt, hk⟩; have HK := hid (And.intro ho (And.intro hlt hk)); clear ho hlt hk))
  go_ret2
  exact ⟨ad, cap, rfl, HK.out⟩

/-- What Load answers. -/
def Loaded (w w' : World) (b : Nat) (e : Ending) (f : Nat) (S : List Item × Nat × Int) : Prop :=
  ((f ≠ 0 ∧ e = .returned (.tuple #[.slice none 0 0, .int .i64 (f : Int)])) ∨ (f = 0 ∧ (S.2.2 ≠ 0 ∨ S.1 = []) ∧ e = .returned (.tuple #[.slice none 0 0, .int .i64 4])) ∨
    (f = 0 ∧ S.2.2 = 0 ∧ S.1 ≠ [] ∧ ∃ a c, e = .returned (.tuple #[.slice a S.1.length c, .int .i64 0]) ∧ PRow 60 w.heap.size b w' (.slice a S.1.length c) S.1)) ∧ Crc.Kept b w w' ∧ TabX w' b

set_option maxHeartbeats 1000000 in
theorem load_any {P : Nat → Prop} {N : Nat} (w : World) (s b : Nat) (p : PS) (i : Nat) (h1 : 1 ≤ i) (h2 : i < 100) (h : Sim.Sys P N w s p) (hT : TabX w b) (hb : ∀ x ∈ pBytes (nm (nameP i)) p, x < 256) (hl : (pBytes (nm (nameP i)) p).length ≤ 20000000) :
    Calls Tryz.prog 36 #[.pointer (some ⟨s, 0, none⟩), .pointer (some ⟨b, 0, none⟩), .int .i64 (i : Int)] w fun e w' => Loaded w w' b e (finds p (nm (nameP i))) (scanF (ints (pBytes (nm (nameP i)) p))) := by
  have HRD := hid (pread_any w s b p i h1 h2 h)
  have HT := hid hT
  have hbw := hT.lt
  obtain ⟨F, hF⟩ : ∃ F, finds p (nm (nameP i)) = F := ⟨_, rfl⟩
  obtain ⟨Y, hY⟩ : ∃ Y, pBytes (nm (nameP i)) p = Y := ⟨_, rfl⟩
  rw [hY] at hb hl
  rw [hF, hY] at HRD ⊢
  have HY := hid (And.intro hb hl)
  clear hF hY hb hT
  by_cases hF0 : F = 0
  · subst hF0
    go_enter Tryz.func36, Tryz.ntmps36
    go_wp2_with (go_at_call 63; refine HRD.out.mono ?_; rintro e w2 ⟨ad, cap, rfl, ho, hlt, hk⟩; have HK := hid (And.intro ho (And.intro hlt hk)); clear ho hlt hk)
    have hk := HK.out.2.2
    have hbl : Below w.heap.size w w2 := hk.toBelow'
    have HB2 := hid hbl
    have HT2 := hid (HT.out.below hbl)
    have HBY := hid (own_of HK.out.1 HY.out.1 (by have := HY.out.2; omega) w.heap.size HK.out.2.1)
    clear hk hbl
    refine (scan_any b _ (ints Y) w2 HT2.out (BySlS.mono HBY.out (fun g hg => ⟨by omega, hg.2⟩)) (by rw [ints_length]; omega)).mono ?_
    rintro e w3 ⟨al, cl, rfl, hp3, hk3, ht3⟩
    have HP3 := hid (And.intro hp3 (And.intro hk3 ht3))
    obtain ⟨⟨L, sp, sf⟩, hS⟩ : ∃ S, scanF (ints Y) = S := ⟨_, rfl⟩
    rw [hS] at HP3 ⊢
    dsimp only at HP3 ⊢
    have HS := hid hS
    clear hp3 hk3 ht3 hS
    have HFIN : Hid (Crc.Kept b w w3 ∧ TabX w3 b) := ⟨(Crc.Kept.below HB2.out).trans HP3.out.2.1, HP3.out.2.2⟩
    by_cases hsf : sf = 0
    · subst hsf
      cases L with
      | nil =>
        go_wp2_with fail
        go_ret2
        rw [HS.out]
        exact ⟨.inr (.inl ⟨rfl, .inr rfl, rfl⟩), HFIN.out⟩
      | cons x L =>
        have hll : ¬ (((x :: L).length : Int) = 0) := by simp; omega
        obtain ⟨n, hn⟩ : ∃ n, (x :: L).length = n := ⟨_, rfl⟩
        rw [hn] at hll HP3 ⊢
        have HN := hid hn
        clear hn
        go_wp2_with fail
        go_ret2
        rw [HS.out]
        refine ⟨.inr (.inr ⟨rfl, rfl, by simp, al, cl, by rw [HN.out]; rfl, ?_⟩), HFIN.out⟩
        rw [HN.out]
        exact HP3.out.1.mono HB2.out.size
    · have hsf' : ¬ sf = 0 := hsf
      have hsfb : (sf != 0) = true := by simp [hsf]
      go_wp2_with fail
      go_ret2
      rw [HS.out]
      exact ⟨.inr (.inl ⟨rfl, .inl hsf, rfl⟩), HFIN.out⟩
  · have hF' : ¬ ((F : Int) = 0) := by omega
    go_enter Tryz.func36, Tryz.ntmps36
    go_wp2_with (go_at_call 63; refine HRD.out.mono ?_; rintro e w2 ⟨ad, cap, rfl, ho, hlt, hk⟩; have HK := hid (And.intro ho (And.intro hlt hk)); clear ho hlt hk)
    go_ret2
    exact ⟨.inl ⟨hF0, rfl⟩, Crc.Kept.below HK.out.2.2.toBelow', HT.out.below HK.out.2.2.toBelow'⟩
end Go.Proofs.YtaaioaocjfpajaaGreatDoor
end

section
/-
  What a seal takes: the two closures.
-/
namespace Go.Proofs.YtaaioaocjfpajaaGreatDoor
open Go.RowKit Go.Shelf
open Sim (hid Kp No PS Done Blk nm finds pFsync pRename pSyncDir)

set_option maxHeartbeats 1000000 in
theorem seal1_any {P : Nat → Prop} {N : Nat} (w : World) (s g c1 c3 : Nat) (t : ByteArray) (p : PS) (h : Sim.Sys P N w s p) (hN : N + 1 ≤ 1000) (ht : t.size ≤ 20000000) (k1 : w.cell? ⟨c1, 0, none⟩ = some (.pointer (some ⟨g, 0, none⟩))) (k2 : w.cell? ⟨g, 0, none⟩ = some (.pointer (some ⟨s, 0, none⟩)))
    (k3 : w.cell? ⟨c3, 0, none⟩ = some (.string t)) (n1 : ¬ P c1) (n2 : ¬ P g) (n3 : ¬ P c3) :
    Calls Tryz.prog 107 #[.pointer (some ⟨c1, 0, none⟩), .pointer (some ⟨c3, 0, none⟩)] w fun e w' => e = .returned (.int .i64 ((pFsync (nm t) p).1 : Nat)) ∧ Done P (N + 1) w w' s (pFsync (nm t) p).2 := by
  have l1 := World.block_lt_of_cell? w _ k1
  have l2 := World.block_lt_of_cell? w _ k2
  have l3 := World.block_lt_of_cell? w _ k3
  have HC := hid (Sim.fsync_any w.drew s p t ht (h.kept ((Kp.refl _ _).drew)) hN)
  obtain ⟨F, hF⟩ : ∃ F, (pFsync (nm t) p).1 = F := ⟨_, rfl⟩
  obtain ⟨q, hq⟩ : ∃ q, (pFsync (nm t) p).2 = q := ⟨_, rfl⟩
  rw [hF, hq] at HC ⊢
  clear hF hq h
  go_enter Tryz.func107, Tryz.ntmps107
  go_wp2_with fail
  refine wp_region_held_drew (S := fun V => V.cell? ⟨c1, 0, none⟩ = some (.pointer (some ⟨g, 0, none⟩)) ∧ V.cell? ⟨g, 0, none⟩ = some (.pointer (some ⟨s, 0, none⟩)) ∧ V.cell? ⟨c3, 0, none⟩ = some (.string t)) (by kernel_rfl) ⟨k1, k2, k3⟩ (fun hHeld => ?_)
  refine wpAnyH_take (i := 0) (oi := { dst := some 3, op := Op.load 130 (Operand.tmp 0), type := 130, pos := "writer.go:105", after := #[], guard := none }) (v := .pointer (some ⟨g, 0, none⟩)) rfl (by kernel_rfl) (by kernel_rfl) (by kernel_rfl) (fun _ _ _ h => h) (Or.inl ⟨by rfl, fun w' hw' => by (have q0 := hw'.1; clear hw'; go_simp)⟩) hHeld ?_
  simp only [Act.put, List.setIfInBounds_toArray, List.set_cons_zero, List.set_cons_succ]
  refine wpAnyH_take (i := 1) (oi := { dst := some 4, op := Op.nilCheck (Operand.tmp 3), type := 0, pos := "writer.go:105", after := #[{ on := 0, ground := Ground.data }], guard := none }) (v := .pointer (some ⟨g, 0, none⟩)) rfl (by kernel_rfl) (by kernel_rfl) (by kernel_rfl) (fun _ _ _ h => h) (Or.inl ⟨by rfl, fun w' hw' => by (clear hw'; go_simp)⟩) hHeld ?_
  simp only [Act.put, List.setIfInBounds_toArray, List.set_cons_zero, List.set_cons_succ]
  refine wpAnyH_take (i := 2) (oi := { dst := some 5, op := Op.fieldAddr 166 (Operand.tmp 4) 0, type := 0, pos := "writer.go:105", after := #[{ on := 1, ground := Ground.data }], guard := none }) (v := .pointer (some ⟨g, 0, none⟩)) rfl (by kernel_rfl) (by kernel_rfl) (by kernel_rfl) (fun _ _ _ h => h) (Or.inl ⟨by rfl, fun w' hw' => by (clear hw'; go_simp)⟩) hHeld ?_
  simp only [Act.put, List.setIfInBounds_toArray, List.set_cons_zero, List.set_cons_succ]
  refine wpAnyH_take (i := 3) (oi := { dst := some 6, op := Op.load 25 (Operand.tmp 5), type := 25, pos := "writer.go:105", after := #[{ on := 2, ground := Ground.data }], guard := none }) (v := .pointer (some ⟨s, 0, none⟩)) rfl (by kernel_rfl) (by kernel_rfl) (by kernel_rfl) (fun _ _ _ h => h) (Or.inl ⟨by rfl, fun w' hw' => by (have q0 := hw'.2.1; clear hw'; go_simp)⟩) hHeld ?_
  simp only [Act.put, List.setIfInBounds_toArray, List.set_cons_zero, List.set_cons_succ]
  refine wpAnyH_take (i := 4) (oi := { dst := some 7, op := Op.load 9 (Operand.tmp 1), type := 9, pos := "writer.go:105", after := #[], guard := none }) (v := .string t) rfl (by kernel_rfl) (by kernel_rfl) (by kernel_rfl) (fun _ _ _ h => h) (Or.inl ⟨by rfl, fun w' hw' => by (have q0 := hw'.2.2; clear hw'; go_simp)⟩) hHeld ?_
  simp only [Act.put, List.setIfInBounds_toArray, List.set_cons_zero, List.set_cons_succ]
  refine wpAnyH_ready (rs := [5]) (by kernel_rfl) (by simp) ?_
  refine AllReadyH.cons (o := { dst := some 8, op := Op.call { callee := Callee.value (Operand.func 108), args := #[Operand.tmp 6, Operand.tmp 7], argTypes := #[25, 9] }, type := 26, pos := "writer.go:105", after := #[{ on := 3, ground := Ground.data }, { on := 4, ground := Ground.data }], guard := none }) rfl (fun K hK => ?_) AllReadyH.nil
  go_simp
  refine HC.out.mono ?_
  rintro e w2 ⟨rfl, P', hS, hK, hP⟩
  have HD := hid (And.intro hS (And.intro hK hP))
  clear hS hK hP
  go_wp2_with fail
  refine hK.out _ _ (⟨(HD.out.2.1.cell (p := ⟨c1, 0, none⟩) l1 n1).trans k1, (HD.out.2.1.cell (p := ⟨g, 0, none⟩) l2 n2).trans k2, (HD.out.2.1.cell (p := ⟨c3, 0, none⟩) l3 n3).trans k3⟩) (fun hh => ?_)
  clear hK K hHeld
  have hHeld := hh
  clear hh
  try simp only [Act.put, List.setIfInBounds_toArray, List.set_cons_zero, List.set_cons_succ]
  refine wpAnyH_take (i := 6) (oi := { dst := some 2, op := Op.assign (Operand.tmp 8), type := 26, pos := "writer.go:105", after := #[{ on := 5, ground := Ground.data }, { on := 5, ground := Ground.chain }, { on := 0, ground := Ground.phase }, { on := 1, ground := Ground.phase }, { on := 2, ground := Ground.phase }, { on := 3, ground := Ground.phase }, { on := 4, ground := Ground.phase }, { on := 5, ground := Ground.phase }], guard := none }) (v := .int .i64 (F : Int)) rfl (by kernel_rfl) (by kernel_rfl) (by kernel_rfl) (fun _ _ _ h => h) (Or.inl ⟨by rfl, fun w' hw' => by (clear hw'; go_simp)⟩) hHeld ?_
  simp only [Act.put, List.setIfInBounds_toArray, List.set_cons_zero, List.set_cons_succ]
  refine wpAnyH_done (by kernel_rfl) ?_ _
  go_wp2_with fail
  go_ret
  exact ⟨rfl, P', HD.out.1, ((Kp.refl (fun x => P x) w).drew).trans HD.out.2.1 (fun x hx => .inl hx), HD.out.2.2⟩

set_option maxHeartbeats 1000000 in
theorem seal2_any {P : Nat → Prop} {N : Nat} (w : World) (s g c1 c3 c4 : Nat) (t t' : ByteArray) (p : PS) (h : Sim.Sys P N w s p) (hN : N + 1 ≤ 1000) (ht : t.size ≤ 20000000) (ht' : t'.size ≤ 20000000) (k1 : w.cell? ⟨c1, 0, none⟩ = some (.pointer (some ⟨g, 0, none⟩))) (k2 : w.cell? ⟨g, 0, none⟩ = some (.pointer (some ⟨s, 0, none⟩)))
    (k3 : w.cell? ⟨c3, 0, none⟩ = some (.string t)) (k4 : w.cell? ⟨c4, 0, none⟩ = some (.string t')) (n1 : ¬ P c1) (n2 : ¬ P g) (n3 : ¬ P c3) (n4 : ¬ P c4) :
    Calls Tryz.prog 109 #[.pointer (some ⟨c1, 0, none⟩), .pointer (some ⟨c3, 0, none⟩), .pointer (some ⟨c4, 0, none⟩)] w fun e w' => e = .returned (.int .i64 ((pRename (nm t) (nm t') p).1 : Nat)) ∧ Done P (N + 1) w w' s (pRename (nm t) (nm t') p).2 := by
  have l1 := World.block_lt_of_cell? w _ k1
  have l2 := World.block_lt_of_cell? w _ k2
  have l3 := World.block_lt_of_cell? w _ k3
  have l4 := World.block_lt_of_cell? w _ k4
  have HC := hid (Sim.rename_any w.drew s p t t' ht ht' (h.kept ((Kp.refl _ _).drew)) hN)
  obtain ⟨F, hF⟩ : ∃ F, (pRename (nm t) (nm t') p).1 = F := ⟨_, rfl⟩
  obtain ⟨q, hq⟩ : ∃ q, (pRename (nm t) (nm t') p).2 = q := ⟨_, rfl⟩
  rw [hF, hq] at HC ⊢
  clear hF hq h
  go_enter Tryz.func109, Tryz.ntmps109
  go_wp2_with fail
  refine wp_region_held_drew (S := fun V => V.cell? ⟨c1, 0, none⟩ = some (.pointer (some ⟨g, 0, none⟩)) ∧ V.cell? ⟨g, 0, none⟩ = some (.pointer (some ⟨s, 0, none⟩)) ∧ V.cell? ⟨c3, 0, none⟩ = some (.string t) ∧ V.cell? ⟨c4, 0, none⟩ = some (.string t')) (by kernel_rfl) ⟨k1, k2, k3, k4⟩ (fun hHeld => ?_)
  refine wpAnyH_take (i := 0) (oi := { dst := some 4, op := Op.load 130 (Operand.tmp 0), type := 130, pos := "writer.go:106", after := #[], guard := none }) (v := .pointer (some ⟨g, 0, none⟩)) rfl (by kernel_rfl) (by kernel_rfl) (by kernel_rfl) (fun _ _ _ h => h) (Or.inl ⟨by rfl, fun w' hw' => by (have q0 := hw'.1; clear hw'; go_simp)⟩) hHeld ?_
  simp only [Act.put, List.setIfInBounds_toArray, List.set_cons_zero, List.set_cons_succ]
  refine wpAnyH_take (i := 1) (oi := { dst := some 5, op := Op.nilCheck (Operand.tmp 4), type := 0, pos := "writer.go:106", after := #[{ on := 0, ground := Ground.data }], guard := none }) (v := .pointer (some ⟨g, 0, none⟩)) rfl (by kernel_rfl) (by kernel_rfl) (by kernel_rfl) (fun _ _ _ h => h) (Or.inl ⟨by rfl, fun w' hw' => by (clear hw'; go_simp)⟩) hHeld ?_
  simp only [Act.put, List.setIfInBounds_toArray, List.set_cons_zero, List.set_cons_succ]
  refine wpAnyH_take (i := 2) (oi := { dst := some 6, op := Op.fieldAddr 166 (Operand.tmp 5) 0, type := 0, pos := "writer.go:106", after := #[{ on := 1, ground := Ground.data }], guard := none }) (v := .pointer (some ⟨g, 0, none⟩)) rfl (by kernel_rfl) (by kernel_rfl) (by kernel_rfl) (fun _ _ _ h => h) (Or.inl ⟨by rfl, fun w' hw' => by (clear hw'; go_simp)⟩) hHeld ?_
  simp only [Act.put, List.setIfInBounds_toArray, List.set_cons_zero, List.set_cons_succ]
  refine wpAnyH_take (i := 3) (oi := { dst := some 7, op := Op.load 25 (Operand.tmp 6), type := 25, pos := "writer.go:106", after := #[{ on := 2, ground := Ground.data }], guard := none }) (v := .pointer (some ⟨s, 0, none⟩)) rfl (by kernel_rfl) (by kernel_rfl) (by kernel_rfl) (fun _ _ _ h => h) (Or.inl ⟨by rfl, fun w' hw' => by (have q0 := hw'.2.1; clear hw'; go_simp)⟩) hHeld ?_
  simp only [Act.put, List.setIfInBounds_toArray, List.set_cons_zero, List.set_cons_succ]
  refine wpAnyH_take (i := 4) (oi := { dst := some 8, op := Op.load 9 (Operand.tmp 1), type := 9, pos := "writer.go:106", after := #[], guard := none }) (v := .string t) rfl (by kernel_rfl) (by kernel_rfl) (by kernel_rfl) (fun _ _ _ h => h) (Or.inl ⟨by rfl, fun w' hw' => by (have q0 := hw'.2.2.1; clear hw'; go_simp)⟩) hHeld ?_
  simp only [Act.put, List.setIfInBounds_toArray, List.set_cons_zero, List.set_cons_succ]
  refine wpAnyH_take (i := 5) (oi := { dst := some 9, op := Op.load 9 (Operand.tmp 2), type := 9, pos := "writer.go:106", after := #[], guard := none }) (v := .string t') rfl (by kernel_rfl) (by kernel_rfl) (by kernel_rfl) (fun _ _ _ h => h) (Or.inl ⟨by rfl, fun w' hw' => by (have q0 := hw'.2.2.2; clear hw'; go_simp)⟩) hHeld ?_
  simp only [Act.put, List.setIfInBounds_toArray, List.set_cons_zero, List.set_cons_succ]
  refine wpAnyH_ready (rs := [6]) (by kernel_rfl) (by simp) ?_
  refine AllReadyH.cons (o := { dst := some 10, op := Op.call { callee := Callee.value (Operand.func 110), args := #[Operand.tmp 7, Operand.tmp 8, Operand.tmp 9], argTypes := #[25, 9, 9] }, type := 26, pos := "writer.go:106", after := #[{ on := 3, ground := Ground.data }, { on := 4, ground := Ground.data }, { on := 5, ground := Ground.data }], guard := none }) rfl (fun K hK => ?_) AllReadyH.nil
  go_simp
  refine HC.out.mono ?_
  rintro e w2 ⟨rfl, P', hS, hK, hP⟩
  have HD := hid (And.intro hS (And.intro hK hP))
  clear hS hK hP
  go_wp2_with fail
  refine hK.out _ _ (⟨(HD.out.2.1.cell (p := ⟨c1, 0, none⟩) l1 n1).trans k1, (HD.out.2.1.cell (p := ⟨g, 0, none⟩) l2 n2).trans k2, (HD.out.2.1.cell (p := ⟨c3, 0, none⟩) l3 n3).trans k3, (HD.out.2.1.cell (p := ⟨c4, 0, none⟩) l4 n4).trans k4⟩) (fun hh => ?_)
  clear hK K hHeld
  have hHeld := hh
  clear hh
  try simp only [Act.put, List.setIfInBounds_toArray, List.set_cons_zero, List.set_cons_succ]
  refine wpAnyH_take (i := 7) (oi := { dst := some 3, op := Op.assign (Operand.tmp 10), type := 26, pos := "writer.go:106", after := #[{ on := 6, ground := Ground.data }, { on := 6, ground := Ground.chain }, { on := 0, ground := Ground.phase }, { on := 1, ground := Ground.phase }, { on := 2, ground := Ground.phase }, { on := 3, ground := Ground.phase }, { on := 4, ground := Ground.phase }, { on := 5, ground := Ground.phase }, { on := 6, ground := Ground.phase }], guard := none }) (v := .int .i64 (F : Int)) rfl (by kernel_rfl) (by kernel_rfl) (by kernel_rfl) (fun _ _ _ h => h) (Or.inl ⟨by rfl, fun w' hw' => by (clear hw'; go_simp)⟩) hHeld ?_
  simp only [Act.put, List.setIfInBounds_toArray, List.set_cons_zero, List.set_cons_succ]
  refine wpAnyH_done (by kernel_rfl) ?_ _
  go_wp2_with fail
  go_ret
  exact ⟨rfl, P', HD.out.1, ((Kp.refl (fun x => P x) w).drew).trans HD.out.2.1 (fun x hx => .inl hx), HD.out.2.2⟩
end Go.Proofs.YtaaioaocjfpajaaGreatDoor
end
