/-
  A range over a function that itself writes one block: the caller's law, where what the caller holds leaves that block out.
-/
import Derived.Test.YtbilecmclmlnpaaDoorSmall
import Derived.RangeFuncNested
import Derived.RangeFuncBound
import Derived.RangeFuncCalls
import Derived.RangeFuncLeaves
import Derived.Shelf.Abstract
import Derived.Shelf.RegionOpen
import Derived.OwnWalkIn
import Derived.TacticsInMore
import Derived.LoopNIn
import Derived.LoopIn
namespace Go.Proofs.YtbilecmclmlnpaaDoor
open Go.RowKit

/-- The blocks below B, b left out, hold what they held. -/
structure KeptTo (B b : Nat) (U V : World) : Prop where
  os : V.os = U.os
  tape : V.tape = U.tape
  output : V.output = U.output
  size : U.heap.size ≤ V.heap.size
  block : ∀ k, k < B → k ≠ b → V.heap[k]? = U.heap[k]?

theorem KeptTo.of_below {B b : Nat} {U V : World} (h : Below B U V) : KeptTo B b U V := ⟨h.os, h.tape, h.output, h.size, fun k hk _ => h.block k hk⟩
theorem KeptTo.of_kept {B b : Nat} {U V : World} (h : Kept b U V) (hB : B ≤ U.heap.size) : KeptTo B b U V := ⟨h.os, h.tape, h.output, h.size, fun k hk hb => h.block k (by omega) hb⟩
theorem KeptTo.cell {B b : Nat} {U V : World} (h : KeptTo B b U V) {p : Addr} (h1 : p.block < B) (h2 : p.block ≠ b) : V.cell? p = U.cell? p := World.cell?_of_block (w := U) (h.block p.block h1 h2)
theorem KeptTo.frozen {B b : Nat} {U V : World} (h : KeptTo B b U V) {p : Addr} (h1 : p.block < B) (h2 : p.block ≠ b) : V.frozen? p = U.frozen? p := World.frozen?_of_block (w := U) (h.block p.block h1 h2)
/-- What is kept from an elder world on. -/
theorem KeptTo.since {B b : Nat} {W U V : World} (k : Kept b W U) (h : KeptTo B b U V) (hB : W.heap.size ≤ B) : Kept b W V :=
  ⟨h.os.trans k.os, h.tape.trans k.tape, h.output.trans k.output, Nat.le_trans k.size h.size, fun i hi hb => (h.block i (by omega) hb).trans (k.block i hi hb)⟩

theorem put_below {B l : Nat} (W : World) (o : Obj) (h : B ≤ l) (hl : l < W.heap.size) : Below B W (W.putObj l o) :=
  (Below.refl B W).grown (grownBy_putObj' W l o) (by omega) (fun k e => by cases e; omega)

/-- What an iterator that may write block b, and no other that was there, tells: in round k the values vs k; N rounds. T: what it asks of the world, and leaves. -/
def Tells (n gf : Nat) (lb : Array Value) (b : Nat) (T : World → Prop) (vs : Nat → Array Value) (N : Nat) : Prop :=
  ∀ (l : Nat) (J Jx : Nat → World → Prop) (W : World), T W → (∀ k U V, J k U → T V → Kept b U V → J k V) →
    (∀ k U, k < N → J k U → T U → YieldAt Fence.wide (n - 1) Tryd.prog l (vs k) U fun e V => (e = .returned (.bool true) ∧ J (k + 1) V ∧ T V) ∨ (e = .returned (.bool false) ∧ Jx (k + 1) V)) →
    J 0 W →
    CallsIn Fence.wide n Tryd.prog gf (#[.func (.yield l) #[] #[]] ++ lb) W fun e V => (∃ v, e = .returned v) ∧ ((J N V ∧ T V) ∨ ∃ k, k ≤ N ∧ Jx k V)

/-- How the body of a round may be left: k rounds have come, this one with them. -/
def roundEnds (B : Nat) (T : World → Prop) (I : Nat → World → Prop) (Ix : Code → Nat → World → Prop) (k : Nat) (W : World) : Exit → Act → World → Prop
  | .normal, _, V => KeepsFrom B W V ∧ I k V ∧ T V
  | .ret, _, V => KeepsFrom B W V ∧ Ix .ret k V
  | .exit id, _, V => KeepsFrom B W V ∧ Ix (.exit id) k V
  | _, _, _ => False

theorem over_func {g : Operand} {ps : Array Tmp} {assign body : Code} {Q : Exit → Act → World → Prop} {a : Act} {w : World} {n gf : Nat} {lb : Array Value}
    (hg : a.eval g = .func (.func gf) #[] lb) (eg : ∀ args w, (callFunc gf args).run Tryd.prog w = .ok (.enter gf args) w)
    {b : Nat} {T : World → Prop} {vs : Nat → Array Value} {N : Nat} (hseq : Tells (n - 1) gf lb b T vs N) (hps : ∀ k, (vs k).size = ps.size)
    (hb : b < w.heap.size) (hT : ∀ U V, T U → Below w.heap.size U V → T V) (hT0 : T w)
    (I : Nat → World → Prop) (Ix : Code → Nat → World → Prop) (hI : ∀ k U V, I k U → KeptTo w.heap.size b U V → I k V) (hIx : ∀ c k U V, Ix c k U → Below w.heap.size U V → Ix c k V) (h0 : I 0 w)
    (a₁ : Nat → Act)
    (hassign : ∀ (l k : Nat) (W : World) (K : Act → World → Prop), k < N → K (a₁ k) W →
      assign.wpIn (Fence.wide.inRound l) (n - 1 - 1) Tryd.prog (Exit.then K (fun _ _ _ => False)) { tmps := (ps.zip (vs k)).foldl (fun t (p, v) => t.setIfInBounds p v) a.tmps, defers := [] } W)
    (hbody : ∀ (l k : Nat) (W : World), k < N → I k W → T W → body.wpIn (Fence.wide.inRound l) (n - 1 - 1) Tryd.prog (roundEnds w.heap.size T I Ix (k + 1) W) (a₁ k) W)
    (hdone : ∀ (D : Nat) (W : World), w.heap.size ≤ D → I N W → T W → W.heap[D]? = some (.deferred (some [])) → Q .normal { a with defers := { target := .collected D, args := #[] } :: a.defers } W)
    (hstop : ∀ (D : Nat) (c : Code) (k : Nat) (W : World), w.heap.size ≤ D → k ≤ N → Ix c k W → W.heap[D]? = some (.deferred (some [])) → c.wpIn Fence.wide n Tryd.prog Q { a with defers := { target := .collected D, args := #[] } :: a.defers } W) :
    (Code.rangeFunc g ps assign body).wpIn Fence.wide n Tryd.prog Q a w := by
  refine wpIn_rangeFunc fun fn hfn => ?_
  -- the record of the loop, by its state and the jump that is pending; it lies in the second of two new blocks
  let rec0 : LoopState → Option Code → Loop := fun st pe => { state := st, pending := pe, fn, tmps := a.tmps, params := ps, assign, body, defers := w.heap.size }
  have hB : ∀ (W : World) (o : Obj) (l : Nat), w.heap.size ≤ l → l < W.heap.size → Below w.heap.size W (W.putObj l o) := fun W o l h1 h2 => put_below W o h1 h2
  let Rec : LoopState → Option Code → World → Prop := fun st pe W => W.heap[w.heap.size + 1]? = some (.loop (rec0 st pe)) ∧ W.heap[w.heap.size]? = some (.deferred (some []))
  have start : Below w.heap.size w ((w.alloc (.deferred (some []))).alloc (.loop (rec0 .ready none))) := ((Below.refl _ w).alloc (Nat.le_refl _) _).alloc (by simp) _
  have r0 : Rec .ready none ((w.alloc (.deferred (some []))).alloc (.loop (rec0 .ready none))) := by
    refine ⟨?_, (Below.heap_alloc _ _ _ (by simp)).trans (World.alloc_heap_new w _)⟩
    have h := World.alloc_heap_new (w.alloc (.deferred (some []))) (.loop (rec0 .ready none))
    rwa [World.size_alloc] at h
  have hlt : ∀ {st pe W}, Rec st pe W → w.heap.size + 1 < W.heap.size := fun h => (Array.getElem?_eq_some_iff.1 h.1).1
  -- the record is put anew
  have put : ∀ {st pe W} (st' : LoopState) (pe' : Option Code), Rec st pe W → Rec st' pe' (W.putObj (w.heap.size + 1) (.loop (rec0 st' pe'))) := fun st' pe' h =>
    ⟨World.putObj_heap_same (hlt h), (World.putObj_heap_other (by omega)).trans h.2⟩
  have keep : ∀ {st pe W V}, Rec st pe W → KeepsFrom w.heap.size W V → Rec st pe V := fun h k => ⟨k.same _ _ (by omega) h.1 rfl, k.same _ _ (Nat.le_refl _) h.2 rfl⟩
  refine ⟨w.heap.size + 1, [{ target := .collected w.heap.size, args := #[] }], (w.alloc (.deferred (some []))).alloc (.loop (rec0 .ready none)), { target := .fn (.func gf) lb, args := #[.func (.yield (w.heap.size + 1)) #[] #[]] },
    (w.alloc (.deferred (some []))).alloc (.loop (rec0 .ready none)), gf, #[.func (.yield (w.heap.size + 1)) #[] #[]] ++ lb, (w.alloc (.deferred (some []))).alloc (.loop (rec0 .ready none)), ?_, ?_, fun _ _ => trivial, ?_, fun h => by simp [Fence.wide] at h, ?_⟩
  · exact run_enterLoop_outer _ _ _ _ _
  · simp only [resolve, hg]
    simp [go_sem]
  · simp [invoke, go_sem, eg]
  · refine (hseq (w.heap.size + 1) (fun k W => I k W ∧ Rec .ready none W) (fun k W => ∃ c, Ix c k W ∧ Rec .done (some c) W) _ (hT _ _ hT0 start) ?_ ?_ ⟨hI _ _ _ h0 (.of_below start), r0⟩).mono ?_
    · -- the iterator writes block b
      rintro k U V ⟨hi, hr⟩ _ hk
      have hs := hlt hr
      exact ⟨hI k U V hi (.of_kept hk (by omega)), (hk.block _ hs (by omega)).trans hr.1, (hk.block _ (by omega) (by omega)).trans hr.2⟩
    · -- one round
      rintro k U hkN ⟨hi, hr⟩ hTU
      have hs := hlt hr
      refine ⟨fn, _, assign, body, run_yield (P := Tryd.prog) (args := vs k) hr.1 (hps k), roundIn_of_wpIn hfn (hassign _ k U _ hkN ⟨_, run_beginRound hr.1 rfl, ?_⟩)⟩
      have b1 := hB U (.loop { rec0 .ready none with state := .busy }) _ (by omega) hs
      refine wpIn_mono (hbody _ k _ hkN (hI k _ _ hi (.of_below b1)) (hT _ _ hTU b1)) ?_
      have hr1 : Rec .busy none (U.putObj (w.heap.size + 1) (.loop { rec0 .ready none with state := .busy })) := put .busy none hr
      have ends : ∀ (jump : Option Code) (V : World), KeepsFrom w.heap.size (U.putObj (w.heap.size + 1) (.loop { rec0 .ready none with state := .busy })) V →
          (Instr.endRound (w.heap.size + 1) jump).run Tryd.prog V = .ok (.bool jump.isNone) (V.putObj (w.heap.size + 1) (.loop (rec0 (if jump.isNone then .ready else .done) jump))) ∧
          Rec (if jump.isNone then .ready else .done) jump (V.putObj (w.heap.size + 1) (.loop (rec0 (if jump.isNone then .ready else .done) jump))) ∧ Below w.heap.size V (V.putObj (w.heap.size + 1) (.loop (rec0 (if jump.isNone then .ready else .done) jump))) := fun jump V hk => by
        have hr2 := keep hr1 hk
        exact ⟨run_endRound (P := Tryd.prog) jump hr2.1, put _ _ hr2, hB V _ _ (by omega) (hlt hr2)⟩
      rintro e a3 V hp
      cases e with
      | normal =>
        obtain ⟨hk, hi2, ht2⟩ := hp
        obtain ⟨h1, h2, h3⟩ := ends none V hk
        exact ⟨_, _, h1, .inl ⟨rfl, ⟨hI _ _ _ hi2 (.of_below h3), h2⟩, hT _ _ ht2 h3⟩⟩
      | ret =>
        obtain ⟨hk, hi2⟩ := hp
        obtain ⟨h1, h2, h3⟩ := ends (some .ret) V hk
        exact ⟨_, _, h1, .inr ⟨rfl, .ret, hIx _ _ _ _ hi2 h3, h2⟩⟩
      | exit id =>
        obtain ⟨hk, hi2⟩ := hp
        obtain ⟨h1, h2, h3⟩ := ends (some (.exit id)) V hk
        exact ⟨_, _, h1, .inr ⟨rfl, .exit id, hIx _ _ _ _ hi2 h3, h2⟩⟩
      | goto t => exact hp.elim
      | panic ch => exact hp.elim
      | outgrown => exact hp.elim
    · -- behind the iterator
      rintro e V ⟨⟨v, rfl⟩, (⟨⟨hi, hr⟩, ht⟩ | ⟨k, hk, c, hi, hr⟩)⟩
      · have h3 := hB V (.loop (rec0 .done none)) _ (Nat.le_succ _) (hlt hr)
        exact ⟨none, _, run_endLoop (P := Tryd.prog) hr.1 (by simp [rec0]), hdone _ _ (Nat.le_refl _) (hI _ _ _ hi (.of_below (hB V _ _ (Nat.le_succ _) (hlt hr)))) (hT _ _ ht (hB V _ _ (Nat.le_succ _) (hlt hr))) ((World.putObj_heap_other (by omega)).trans hr.2)⟩
      · exact ⟨some c, _, run_endLoop (P := Tryd.prog) hr.1 (by simp [rec0]), hstop _ c k _ (Nat.le_refl _) hk (hIx _ _ _ _ hi (hB V _ _ (Nat.le_succ _) (hlt hr))) ((World.putObj_heap_other (by omega)).trans hr.2)⟩

end Go.Proofs.YtbilecmclmlnpaaDoor
