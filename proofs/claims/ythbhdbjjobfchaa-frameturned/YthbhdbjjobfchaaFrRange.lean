/-
  A range over a function that itself writes one block and hands out memory that it has made: the caller's law.
-/
import Derived.Test.YthbhdbjjobfchaaFrTake
import Derived.RangeFuncNested
import Derived.RangeFuncBound
import Derived.RangeFuncCalls
import Derived.RangeFuncLeaves
import Derived.Shelf.Abstract
import Derived.Shelf.RegionOpen
import Derived.OwnWalkIn
import Derived.TacticsInMore
import Derived.LoopNIn
import Derived.LoopIn
namespace Go.Proofs.Ythbhdbjjobfchaa
open Go.RowKit
open Tlv (Tr BySlS AgreeS Agree)
open Crc (hid Kept Tab)

/-- The blocks below B, b left out, hold what they held. -/
structure KeptTo (B b : Nat) (U V : World) : Prop where
  os : V.os = U.os
  tape : V.tape = U.tape
  output : V.output = U.output
  size : U.heap.size ≤ V.heap.size
  block : ∀ k, k < B → k ≠ b → V.heap[k]? = U.heap[k]?

theorem KeptTo.of_below {B b : Nat} {U V : World} (h : Below B U V) : KeptTo B b U V := ⟨h.os, h.tape, h.output, h.size, fun k hk _ => h.block k hk⟩
theorem KeptTo.of_kept {B b : Nat} {U V : World} (h : Kept b U V) (hB : B ≤ U.heap.size) : KeptTo B b U V := ⟨h.os, h.tape, h.output, h.size, fun k hk hb => h.block k (by omega) hb⟩

theorem put_below {B l : Nat} (W : World) (o : Obj) (h : B ≤ l) (hl : l < W.heap.size) : Below B W (W.putObj l o) :=
  (Below.refl B W).grown (grownBy_putObj' W l o) (by omega) (fun k e => by cases e; omega)

/-- The record of a loop, in a block from B on, is put anew; all else stands. -/
structure Putl (B : Nat) (U W : World) : Prop where
  os : W.os = U.os
  tape : W.tape = U.tape
  output : W.output = U.output
  size : W.heap.size = U.heap.size
  at' : ∃ l lp, B ≤ l ∧ U.heap[l]? = some (.loop lp) ∧ ∀ i, i ≠ l → W.heap[i]? = U.heap[i]?

theorem Putl.below {B : Nat} {U W : World} (h : Putl B U W) : Below B U W := by
  obtain ⟨l, lp, h1, h2, h3⟩ := h.at'
  exact ⟨h.os, h.tape, h.output, by have := h.size; omega, fun k hk => h3 k (by omega)⟩
/-- Cells stand. -/
theorem Putl.block {B : Nat} {U W : World} (h : Putl B U W) {g : Nat} {cs : Array Value} {t : TypeId} {fr : Nat × Nat} (hg : U.heap[g]? = some (.cells cs t fr)) : W.heap[g]? = some (.cells cs t fr) := by
  obtain ⟨l, lp, h1, h2, h3⟩ := h.at'
  rw [h3 g (fun e => by rw [e, h2] at hg; cases hg)]
  exact hg
theorem Putl.cell {B : Nat} {U W : World} (h : Putl B U W) {g o : Nat} {v : Value} (hc : U.cell? ⟨g, o, none⟩ = some v) : W.cell? ⟨g, o, none⟩ = some v := by
  obtain ⟨l, lp, h1, h2, h3⟩ := h.at'
  rw [World.cell?_of_block (w := U) (a := ⟨g, o, none⟩) (h3 g (fun e => by
    rw [e] at hc
    simp [World.cell?, h2] at hc))]
  exact hc

/-- What an iterator that may write block b, and no other that was there, tells: in round k values as V says; N rounds. T: what it asks of the world, and leaves. -/
def Tells (n gf : Nat) (lb : Array Value) (b : Nat) (T : World → Prop) (V : Nat → Array Value → World → Prop) (N : Nat) : Prop :=
  ∀ (l : Nat) (J Jx : Nat → World → Prop) (W : World), T W → (∀ k U W', J k U → T W' → Kept b U W' → J k W') →
    (∀ k U vs, k < N → J k U → T U → V k vs U → YieldAt Fence.wide (n - 1) Try.prog l vs U fun e W' => (e = .returned (.bool true) ∧ J (k + 1) W' ∧ T W') ∨ (e = .returned (.bool false) ∧ Jx (k + 1) W')) →
    J 0 W →
    CallsIn Fence.wide n Try.prog gf (#[.func (.yield l) #[] #[]] ++ lb) W fun e W' => (∃ v, e = .returned v) ∧ ((J N W' ∧ T W') ∨ ∃ k, k ≤ N ∧ Jx k W')

/-- How the body of a round may be left: k rounds have come, this one with them. -/
def roundEnds (B : Nat) (T : World → Prop) (I : Nat → World → Prop) (Ix : Code → Nat → World → Prop) (k : Nat) (W : World) : Exit → Act → World → Prop
  | .normal, _, V => KeepsFrom B W V ∧ I k V ∧ T V
  | .ret, _, V => KeepsFrom B W V ∧ Ix .ret k V
  | .exit id, _, V => KeepsFrom B W V ∧ Ix (.exit id) k V
  | _, _, _ => False

theorem over_func {g : Operand} {ps : Array Tmp} {assign body : Code} {Q : Exit → Act → World → Prop} {a : Act} {w : World} {n gf : Nat} {lb : Array Value}
    (hg : a.eval g = .func (.func gf) #[] lb) (eg : ∀ args w, (callFunc gf args).run Try.prog w = .ok (.enter gf args) w)
    {b : Nat} {T : World → Prop} {V : Nat → Array Value → World → Prop} {N : Nat} (hseq : Tells (n - 1) gf lb b T V N) (hps : ∀ k vs U, V k vs U → vs.size = ps.size)
    (hb : b < w.heap.size) (hT : ∀ U W, T U → Below w.heap.size U W → T W) (hT0 : T w)
    (I : Nat → World → Prop) (Ix : Code → Nat → World → Prop) (hIk : ∀ k U W, I k U → T W → Kept b U W → I k W) (hI : ∀ k U W, I k U → Putl w.heap.size U W → I k W)
    (hIx : ∀ c k U W, Ix c k U → Putl w.heap.size U W → Ix c k W)
    (h0 : ∀ W, Below w.heap.size w W → W.heap.size = w.heap.size + 2 → I 0 W)
    (asg : Array Value → World → World) (hasg : ∀ vs W, Below W.heap.size W (asg vs W)) (hVa : ∀ k vs U, V k vs U → V k vs (asg vs U)) (hIa : ∀ k vs U, V k vs U → I k U → I k (asg vs U)) (a₁ : Nat → Array Value → World → Act)
    (hV : ∀ k vs U W, V k vs U → Putl w.heap.size U W → V k vs W)
    (hassign : ∀ (l k : Nat) (vs : Array Value) (W : World) (K : Act → World → Prop), k < N → V k vs W → K (a₁ k vs W) (asg vs W) →
      assign.wpIn (Fence.wide.inRound l) (n - 1 - 1) Try.prog (Exit.then K (fun _ _ _ => False)) { tmps := (ps.zip vs).foldl (fun t (p, v) => t.setIfInBounds p v) a.tmps, defers := [] } W)
    (hbody : ∀ (l k : Nat) (vs : Array Value) (U W : World), k < N → V k vs W → I k W → T W → W.heap.size = (asg vs U).heap.size → (∀ i, U.heap.size ≤ i → W.heap[i]? = (asg vs U).heap[i]?) → w.heap.size ≤ U.heap.size → body.wpIn (Fence.wide.inRound l) (n - 1 - 1) Try.prog (roundEnds w.heap.size T I Ix (k + 1) W) (a₁ k vs U) W)
    (hdone : ∀ (D : Nat) (W : World), w.heap.size ≤ D → I N W → T W → W.heap[D]? = some (.deferred (some [])) → Q .normal { a with defers := { target := .collected D, args := #[] } :: a.defers } W)
    (hstop : ∀ (D : Nat) (c : Code) (k : Nat) (W : World), w.heap.size ≤ D → k ≤ N → Ix c k W → W.heap[D]? = some (.deferred (some [])) → c.wpIn Fence.wide n Try.prog Q { a with defers := { target := .collected D, args := #[] } :: a.defers } W) :
    (Code.rangeFunc g ps assign body).wpIn Fence.wide n Try.prog Q a w := by
  refine wpIn_rangeFunc fun fn hfn => ?_
  -- the record of the loop, by its state and the jump that is pending; it lies in the second of two new blocks
  let rec0 : LoopState → Option Code → Loop := fun st pe => { state := st, pending := pe, fn, tmps := a.tmps, params := ps, assign, body, defers := w.heap.size }
  have hB : ∀ (W : World) (o : Obj) (l : Nat), w.heap.size ≤ l → l < W.heap.size → Below w.heap.size W (W.putObj l o) := fun W o l h1 h2 => put_below W o h1 h2
  let Rec : LoopState → Option Code → World → Prop := fun st pe W => W.heap[w.heap.size + 1]? = some (.loop (rec0 st pe)) ∧ W.heap[w.heap.size]? = some (.deferred (some []))
  have start : Below w.heap.size w ((w.alloc (.deferred (some []))).alloc (.loop (rec0 .ready none))) := ((Below.refl _ w).alloc (Nat.le_refl _) _).alloc (by simp) _
  have r0 : Rec .ready none ((w.alloc (.deferred (some []))).alloc (.loop (rec0 .ready none))) := by
    refine ⟨?_, (Below.heap_alloc _ _ _ (by simp)).trans (World.alloc_heap_new w _)⟩
    have h := World.alloc_heap_new (w.alloc (.deferred (some []))) (.loop (rec0 .ready none))
    rwa [World.size_alloc] at h
  have hlt : ∀ {st pe W}, Rec st pe W → w.heap.size + 1 < W.heap.size := fun h => (Array.getElem?_eq_some_iff.1 h.1).1
  -- the record is put anew
  have put : ∀ {st pe W} (st' : LoopState) (pe' : Option Code), Rec st pe W → Rec st' pe' (W.putObj (w.heap.size + 1) (.loop (rec0 st' pe'))) := fun st' pe' h =>
    ⟨World.putObj_heap_same (hlt h), (World.putObj_heap_other (by omega)).trans h.2⟩
  have keep : ∀ {st pe W V}, Rec st pe W → KeepsFrom w.heap.size W V → Rec st pe V := fun h k => ⟨k.same _ _ (by omega) h.1 rfl, k.same _ _ (Nat.le_refl _) h.2 rfl⟩
  have psz : ∀ (W : World) (o : Obj) (l : Nat), (W.putObj l o).heap.size = W.heap.size := fun W o l => by simp [World.putObj]
  have poth : ∀ (W : World) (o : Obj), ∀ i, i ≠ w.heap.size + 1 → (W.putObj (w.heap.size + 1) o).heap[i]? = W.heap[i]? := fun W o i hi => World.putObj_heap_other (by omega)
  have putI : ∀ {k st pe W} (st' : LoopState) (pe' : Option Code), Rec st pe W → I k W → I k (W.putObj (w.heap.size + 1) (.loop (rec0 st' pe'))) := fun {k st pe W} st' pe' h hi =>
    hI k W _ hi ⟨rfl, rfl, rfl, psz _ _ _, w.heap.size + 1, _, by omega, h.1, poth W _⟩
  have putIx : ∀ {c k st pe W} (st' : LoopState) (pe' : Option Code), Rec st pe W → Ix c k W → Ix c k (W.putObj (w.heap.size + 1) (.loop (rec0 st' pe'))) := fun {c k st pe W} st' pe' h hi =>
    hIx c k W _ hi ⟨rfl, rfl, rfl, psz _ _ _, w.heap.size + 1, _, by omega, h.1, poth W _⟩
  refine ⟨w.heap.size + 1, [{ target := .collected w.heap.size, args := #[] }], (w.alloc (.deferred (some []))).alloc (.loop (rec0 .ready none)), { target := .fn (.func gf) lb, args := #[.func (.yield (w.heap.size + 1)) #[] #[]] },
    (w.alloc (.deferred (some []))).alloc (.loop (rec0 .ready none)), gf, #[.func (.yield (w.heap.size + 1)) #[] #[]] ++ lb, (w.alloc (.deferred (some []))).alloc (.loop (rec0 .ready none)), ?_, ?_, fun _ _ => trivial, ?_, fun h => by simp [Fence.wide] at h, ?_⟩
  · exact run_enterLoop_outer _ _ _ _ _
  · simp only [resolve, hg]
    simp [go_sem]
  · simp [invoke, go_sem, eg]
  · refine (hseq (w.heap.size + 1) (fun k W => I k W ∧ Rec .ready none W) (fun k W => ∃ c, Ix c k W ∧ Rec .done (some c) W) _ (hT _ _ hT0 start) ?_ ?_ ⟨h0 _ start (by simp), r0⟩).mono ?_
    · -- the iterator writes block b
      rintro k U W' ⟨hi, hr⟩ hTW hk
      have hs := hlt hr
      exact ⟨hIk k U W' hi hTW hk, (hk.block _ hs (by omega)).trans hr.1, (hk.block _ (by omega) (by omega)).trans hr.2⟩
    · -- one round
      rintro k U vs hkN ⟨hi, hr⟩ hTU hVU
      have hs := hlt hr
      have ba := hasg vs U
      have hra : Rec .ready none (asg vs U) := ⟨(ba.block _ hs).trans hr.1, (ba.block _ (by omega)).trans hr.2⟩
      have hsa := hlt hra
      refine ⟨fn, _, assign, body, run_yield (P := Try.prog) (args := vs) hr.1 (hps k vs U hVU), roundIn_of_wpIn hfn (hassign _ k vs U _ hkN hVU ⟨_, run_beginRound hra.1 rfl, ?_⟩)⟩
      have b1 := hB (asg vs U) (.loop { rec0 .ready none with state := .busy }) _ (by omega) hsa
      have hTa : T (asg vs U) := hT _ _ hTU (ba.mono (by omega))
      have hIa' : I k (asg vs U) := hIa k vs U hVU hi
      have hVa' : V k vs (asg vs U) := hVa k vs U hVU
      refine wpIn_mono (hbody _ k vs U _ hkN ?_ (putI .busy none hra hIa') (hT _ _ hTa b1) ?_ ?_ (by omega)) ?_
      · exact hV k vs _ _ hVa' ⟨rfl, rfl, rfl, psz _ _ _, w.heap.size + 1, _, by omega, hra.1, poth _ _⟩
      · exact psz _ _ _
      · intro i hi
        exact poth _ _ i (by omega)
      have hr1 : Rec .busy none ((asg vs U).putObj (w.heap.size + 1) (.loop { rec0 .ready none with state := .busy })) := put .busy none hra
      have ends : ∀ (jump : Option Code) (V : World), KeepsFrom w.heap.size ((asg vs U).putObj (w.heap.size + 1) (.loop { rec0 .ready none with state := .busy })) V →
          (Instr.endRound (w.heap.size + 1) jump).run Try.prog V = .ok (.bool jump.isNone) (V.putObj (w.heap.size + 1) (.loop (rec0 (if jump.isNone then .ready else .done) jump))) ∧
          Rec (if jump.isNone then .ready else .done) jump (V.putObj (w.heap.size + 1) (.loop (rec0 (if jump.isNone then .ready else .done) jump))) ∧ Below w.heap.size V (V.putObj (w.heap.size + 1) (.loop (rec0 (if jump.isNone then .ready else .done) jump))) ∧ Rec .busy none V := fun jump V hk => by
        have hr2 := keep hr1 hk
        exact ⟨run_endRound (P := Try.prog) jump hr2.1, put _ _ hr2, hB V _ _ (by omega) (hlt hr2), hr2⟩
      rintro e a3 V hp
      cases e with
      | normal =>
        obtain ⟨hk, hi2, ht2⟩ := hp
        obtain ⟨h1, h2, h3, h4⟩ := ends none V hk
        exact ⟨_, _, h1, .inl ⟨rfl, ⟨putI _ _ h4 hi2, h2⟩, hT _ _ ht2 h3⟩⟩
      | ret =>
        obtain ⟨hk, hi2⟩ := hp
        obtain ⟨h1, h2, h3, h4⟩ := ends (some .ret) V hk
        exact ⟨_, _, h1, .inr ⟨rfl, .ret, putIx _ _ h4 hi2, h2⟩⟩
      | exit id =>
        obtain ⟨hk, hi2⟩ := hp
        obtain ⟨h1, h2, h3, h4⟩ := ends (some (.exit id)) V hk
        exact ⟨_, _, h1, .inr ⟨rfl, .exit id, putIx _ _ h4 hi2, h2⟩⟩
      | goto t => exact hp.elim
      | panic ch => exact hp.elim
      | outgrown => exact hp.elim
    · -- behind the iterator
      rintro e V ⟨⟨v, rfl⟩, (⟨⟨hi, hr⟩, ht⟩ | ⟨k, hk, c, hi, hr⟩)⟩
      · exact ⟨none, _, run_endLoop (P := Try.prog) hr.1 (by simp [rec0]), hdone _ _ (Nat.le_refl _) (putI .exhausted none hr hi) (hT _ _ ht (hB V _ _ (Nat.le_succ _) (hlt hr))) ((World.putObj_heap_other (by omega)).trans hr.2)⟩
      · exact ⟨some c, _, run_endLoop (P := Try.prog) hr.1 (by simp [rec0]), hstop _ c k _ (Nat.le_refl _) hk (putIx .exhausted (some c) hr hi) ((World.putObj_heap_other (by omega)).trans hr.2)⟩

end Go.Proofs.Ythbhdbjjobfchaa
