/- Of the proof: the texts FrRow, FrScan, FrAt, PkAdd, IxSave, SgStabM, SgRow, SgSwap, SgRot, SgCmp, one behind the other. -/
import Derived.Test.YthmimipoooemjaaGreatDoorAbb
import Derived.Test.YthmimipoooemjaaGreatDoorB6
import Derived.Deep.AppendLies
import Derived.Test.YthmimipoooemjaaGreatDoorB3
import Derived.Test.YthmimipoooemjaaGreatDoorB1
import Derived.Sort.KeysCollected
import Derived.Deep.MidRow
import Derived.Deep.RegionHeld3
import Derived.Lib.BytesEntry
import Derived.Deep.RegionWith
section
/-
  A slice of placed records that a call builds by append: how it lies in memory.
-/
namespace Go.Proofs.YthmimipoooemjaaGreatDoor
open Go.RowKit
open Tlv (Tr BySlS AgreeS Agree)
open Crc (hid Kept Tab)
end Go.Proofs.YthmimipoooemjaaGreatDoor
end

section
/-
  What Scan answers.
-/
namespace Go.Proofs.YthmimipoooemjaaGreatDoor
open Go.RowKit Go.Shelf
open Tlv (Tr BySlS AgreeS Agree)
open Crc (hid Kept Tab)
attribute [local go_sem] Oper.semAt_some

theorem exec_slice1 {P : Program} {o : Oper} {a : Act} {w w' : World} (ty : TypeId) (x : Operand) (ho : o.op = .buildSlice ty 1 #[(0, x)]) (vx v : Value) (hx : a.eval x = vx) (hr : (Instr.buildSlice ty 1 #[(0, vx)]).run P w = .ok v w') :
    (execOp a.eval o).run P w = .ok (.value v) w' := by
  have e : ((#[(0, x)] : Array (Nat × Operand)).map fun (i, x) => (i, a.eval x)) = #[(0, vx)] := by simp [hx]
  unfold execOp
  simp only [ho, Sem.run_bind, e, hr, Result.andThen_ok]
  rfl

end Go.Proofs.YthmimipoooemjaaGreatDoor
end

section
/-
  What At answers.
-/
namespace Go.Proofs.YthmimipoooemjaaGreatDoor
open Go.RowKit Go.Shelf
open Tlv (Tr BySlS AgreeS Agree)
open Crc (hid Kept Tab)
end Go.Proofs.YthmimipoooemjaaGreatDoor
end

section
/-
  A record is added to a pack.
-/
namespace Go.Proofs.YthmimipoooemjaaGreatDoor
open Go.RowKit Go.Shelf
open Tlv (BySlS)
open Sim (hid Kp No PS Done Blk nm pCreate finds pBytes pAppend)
end Go.Proofs.YthmimipoooemjaaGreatDoor
end

section
/-
  Save: what it takes, step by step.
-/
namespace Go.Proofs.YthmimipoooemjaaGreatDoor.Ix
open Go.RowKit Go.Shelf
open Sim (hid Kp No PS Done Blk nm ByP)

theorem nm_sT : nm sT = nT := rfl
theorem nm_sI : nm sI = nI := rfl

theorem removeTemp_any {P : Nat → Prop} {N : Nat} (w : World) (s : Nat) (p : PS) (h : Sim.Sys P N w s p) (hN : N + 1 ≤ 1000) :
    Calls Tryz.prog 117 #[.pointer (some ⟨s, 0, none⟩)] w fun e w' => e = .returned (.int .i64 ((pRm p).1 : Nat)) ∧ Done P (N + 1) w w' s (pRm p).2 := by
  have HC := hid (Sim.remove_any w s p sT (by decide) h hN)
  rw [nm_sT] at HC
  unfold sT at HC
  rw [pRm]
  obtain ⟨R, hR⟩ : ∃ R, Sim.pRemove nT p = R := ⟨_, rfl⟩
  rw [hR] at HC ⊢
  obtain ⟨F, hF⟩ : ∃ F, (if R.1 = 5 then 0 else R.1) = F := ⟨_, rfl⟩
  rw [hF]
  have HF := hid hF
  clear hR h hF
  go_enter Tryz.func117, Tryz.ntmps117
  go_wp2_with fail
  refine HC.out.mono ?_
  rintro e w1 ⟨rfl, hD⟩
  have HD := hid hD
  clear hD
  by_cases hz : R.1 = 5
  · have HZ := hid hz
    rw [hz]
    clear hz
    go_wp2_with fail
    go_ret
    exact ⟨by rw [← HF.out, HZ.out]; rfl, HD.out⟩
  · have HZ := hid hz
    have hz' : ¬ ((R.1 : Int) = 5) := by omega
    clear hz
    go_wp2_with fail
    go_ret
    exact ⟨by rw [← HF.out, if_neg HZ.out]; rfl, HD.out⟩

/-- What a step of a save answers, and leaves. -/
def StpP (bs : List Nat) (j : Nat) (P : Nat → Prop) (N : Nat) (w : World) (s : Nat) (q : PS) (e : Ending) (w' : World) : Prop :=
  ∃ r, Stp bs j q r ∧ e = .returned (.int .i64 (r.1 : Nat)) ∧ Done P (N + 1) w w' s r.2

theorem save1_any {P : Nat → Prop} {N : Nat} (bs : List Nat) (w : World) (s c1 : Nat) (q : PS) (h : Sim.Sys P N w s q) (hN : N + 1 ≤ 1000) (k1 : w.cell? ⟨c1, 0, none⟩ = some (.pointer (some ⟨s, 0, none⟩))) :
    Calls Tryz.prog 116 #[.pointer (some ⟨c1, 0, none⟩)] w fun e w' => StpP bs 0 P N w s q e w' := by
  have HC := hid (removeTemp_any w s q h hN)
  clear h
  go_enter Tryz.func116, Tryz.ntmps116
  go_wp2_with fail
  refine HC.out.mono ?_
  rintro e w1 ⟨rfl, hD⟩
  have HD : Hid (StpP bs 0 P N w s q (.returned (.int .i64 ((pRm q).1 : Nat))) w1) := ⟨_, rfl, rfl, hD⟩
  clear hD HC
  generalize (pRm q).1 = F at *
  go_wp2_with fail
  go_ret
  exact HD.out

theorem save2_any {P : Nat → Prop} {N : Nat} (bs : List Nat) (w : World) (s c1 : Nat) (q : PS) (h : Sim.Sys P N w s q) (hN : N + 1 ≤ 1000) (k1 : w.cell? ⟨c1, 0, none⟩ = some (.pointer (some ⟨s, 0, none⟩))) :
    Calls Tryz.prog 118 #[.pointer (some ⟨c1, 0, none⟩)] w fun e w' => StpP bs 1 P N w s q e w' := by
  have HC := hid (Sim.create_any w s q sT (by decide) h hN)
  rw [nm_sT] at HC
  unfold sT at HC
  clear h
  go_enter Tryz.func118, Tryz.ntmps118
  go_wp2_with fail
  refine HC.out.mono ?_
  rintro e w1 ⟨b, hb, rfl, hD⟩
  have HD : Hid (StpP bs 1 P N w s q (.returned (.int .i64 ((Sim.pCreate nT b q).1 : Nat))) w1) := ⟨_, ⟨b, hb, rfl⟩, rfl, hD⟩
  clear hD HC hb
  generalize (Sim.pCreate nT b q).1 = F at *
  go_wp2_with fail
  go_ret
  exact HD.out

theorem save4_any {P : Nat → Prop} {N : Nat} (bs : List Nat) (w : World) (s c1 : Nat) (q : PS) (h : Sim.Sys P N w s q) (hN : N + 1 ≤ 1000) (k1 : w.cell? ⟨c1, 0, none⟩ = some (.pointer (some ⟨s, 0, none⟩))) :
    Calls Tryz.prog 122 #[.pointer (some ⟨c1, 0, none⟩)] w fun e w' => StpP bs 3 P N w s q e w' := by
  have HC := hid (Sim.fsync_any w s q sT (by decide) h hN)
  rw [nm_sT] at HC
  unfold sT at HC
  clear h
  go_enter Tryz.func122, Tryz.ntmps122
  go_wp2_with fail
  refine HC.out.mono ?_
  rintro e w1 ⟨rfl, hD⟩
  have HD : Hid (StpP bs 3 P N w s q (.returned (.int .i64 ((Sim.pFsync nT q).1 : Nat))) w1) := ⟨_, rfl, rfl, hD⟩
  clear hD HC
  generalize (Sim.pFsync nT q).1 = F at *
  go_wp2_with fail
  go_ret
  exact HD.out

theorem save5_any {P : Nat → Prop} {N : Nat} (bs : List Nat) (w : World) (s c1 : Nat) (q : PS) (h : Sim.Sys P N w s q) (hN : N + 1 ≤ 1000) (k1 : w.cell? ⟨c1, 0, none⟩ = some (.pointer (some ⟨s, 0, none⟩))) :
    Calls Tryz.prog 124 #[.pointer (some ⟨c1, 0, none⟩)] w fun e w' => StpP bs 4 P N w s q e w' := by
  have HC := hid (Sim.rename_any w s q sT sI (by decide) (by decide) h hN)
  rw [nm_sT, nm_sI] at HC
  unfold sT sI at HC
  clear h
  go_enter Tryz.func124, Tryz.ntmps124
  go_wp2_with fail
  refine HC.out.mono ?_
  rintro e w1 ⟨rfl, hD⟩
  have HD : Hid (StpP bs 4 P N w s q (.returned (.int .i64 ((Sim.pRename nT nI q).1 : Nat))) w1) := ⟨_, rfl, rfl, hD⟩
  clear hD HC
  generalize (Sim.pRename nT nI q).1 = F at *
  go_wp2_with fail
  go_ret
  exact HD.out

theorem save6_any {P : Nat → Prop} {N : Nat} (bs : List Nat) (w : World) (s : Nat) (q : PS) (h : Sim.Sys P N w s q) (hN : N + 1 ≤ 1000) :
    Calls Tryz.prog 86 #[.pointer (some ⟨s, 0, none⟩)] w fun e w' => StpP bs 5 P N w s q e w' :=
  (Sim.syncdir_any w s q h hN).mono (by rintro e w1 ⟨rfl, hD⟩; exact ⟨_, rfl, rfl, hD⟩)

theorem save3_any {P Q : Nat → Prop} {N : Nat} (bs : List Nat) (w : World) (s c1 c2 : Nat) (q : PS) (vb : Value) (h : Sim.Sys P N w s q) (hN : N + 1 ≤ 1000) (k1 : w.cell? ⟨c1, 0, none⟩ = some (.pointer (some ⟨s, 0, none⟩)))
    (k2 : w.cell? ⟨c2, 0, none⟩ = some vb) (hy : ByP Q w vb bs) (hQ : ∀ x, Q x → ¬ P x) (hl : bs.length ≤ 12000) :
    Calls Tryz.prog 120 #[.pointer (some ⟨c1, 0, none⟩), .pointer (some ⟨c2, 0, none⟩)] w fun e w' => StpP bs 2 P N w s q e w' := by
  obtain ⟨av, cv, rfl, _⟩ := id hy
  have HC := hid (Sim.append_any w s q sT _ bs (by decide) h hN hy hQ hl)
  rw [nm_sT] at HC
  unfold sT at HC
  clear h hy
  go_enter Tryz.func120, Tryz.ntmps120
  go_wp2_with fail
  refine HC.out.mono ?_
  rintro e w1 ⟨rfl, hD⟩
  have HD : Hid (StpP bs 2 P N w s q (.returned (.int .i64 ((Sim.pAppend nT bs q).1 : Nat))) w1) := ⟨_, rfl, rfl, hD⟩
  clear hD HC
  generalize (Sim.pAppend nT bs q).1 = F at *
  go_wp2_with fail
  go_ret
  exact HD.out

def fnA (c1 c2 s : Nat) : Array Value := #[.func (.func 116) #[] #[.pointer (some ⟨c1, 0, none⟩)], .func (.func 118) #[] #[.pointer (some ⟨c1, 0, none⟩)], .func (.func 120) #[] #[.pointer (some ⟨c1, 0, none⟩), .pointer (some ⟨c2, 0, none⟩)],
  .func (.func 122) #[] #[.pointer (some ⟨c1, 0, none⟩)], .func (.func 124) #[] #[.pointer (some ⟨c1, 0, none⟩)], .func (.func 86) #[.pointer (some ⟨s, 0, none⟩)] #[]]

set_option maxHeartbeats 1000000 in
set_option maxRecDepth 100000 in
theorem saving_any (w : World) (s n c : Nat) (a : Option Addr) :
    Calls Tryz.prog 75 #[.pointer (some ⟨s, 0, none⟩), .slice a n c] w fun e w' => ∃ c1 c2, e = .returned (.agg (fnA c1 c2 s)) ∧ w'.cell? ⟨c1, 0, none⟩ = some (.pointer (some ⟨s, 0, none⟩)) ∧ w'.cell? ⟨c2, 0, none⟩ = some (.slice a n c) ∧ w.heap.size ≤ c1 ∧ w.heap.size ≤ c2 ∧ Below w.heap.size w w' := by
  have hmf : ∀ (fn : Fn) (first cap : Array Value) (w : World), (Instr.makeFunc fn first cap).run Tryz.prog w = .ok (.func fn first cap) w := fun _ _ _ _ => rfl
  obtain ⟨W, hW⟩ : ∃ W, (w.alloc (.cells #[.pointer (some ⟨s, 0, none⟩)] 25)).alloc (.cells #[.slice a n c] 54) = W := ⟨_, rfl⟩
  have hsz : W.heap.size = w.heap.size + 1 + 1 := by rw [← hW]; simp
  have HB : Hid (Below w.heap.size w W) := by rw [← hW]; exact ((Below.refl _ _).alloc (Nat.le_refl _) _).alloc (by simp) _
  have HC1 : Hid (W.cell? ⟨w.heap.size, 0, none⟩ = some (.pointer (some ⟨s, 0, none⟩))) := by
    rw [← hW, Hid, Below.cell ((Below.refl (w.heap.size + 1) _).alloc (by simp) _) (p := ⟨w.heap.size, 0, none⟩) (by simp), World.cell?_alloc_at _ _ _ _ rfl]
    rfl
  have HC2 : Hid (W.cell? ⟨w.heap.size + 1, 0, none⟩ = some (.slice a n c)) := by
    rw [← hW, Hid]
    have e : (w.alloc (.cells #[.pointer (some ⟨s, 0, none⟩)] 25)).heap.size = w.heap.size + 1 := by simp
    rw [← e, World.cell?_alloc_at _ _ _ _ rfl]
    rfl
  have hT : World.there (W.alloc (.cells (List.replicate 6 Value.nilFunc).toArray 163)) W.heap.size 0 6 := there_new W (List.replicate 6 Value.nilFunc) 163
  have HT : Hid (World.there (W.alloc (.cells #[Value.nilFunc, Value.nilFunc, Value.nilFunc, Value.nilFunc, Value.nilFunc, Value.nilFunc] 163)) W.heap.size 0 (fnA w.heap.size (w.heap.size + 1) s).size) := hT
  have HI := hid (show (Tryz.prog.info? 163).map (·.size) = some (fnA w.heap.size (w.heap.size + 1) s).size by kernel_rfl)
  have H1 := hid (show (fnA w.heap.size (w.heap.size + 1) s).all (·.oneCell') = true by simp [fnA, Value.oneCell'])
  rw [hsz] at HT
  clear hT
  have hc1 := HC1.out
  have hlt1 : w.heap.size < W.heap.size := by omega
  go_enter Tryz.func75, Tryz.ntmps75
  go_wp2_with (refine wpList_store_mid (by rfl) 163 _ _ (by rfl) (w.heap.size + 1 + 1) 0 (fnA w.heap.size (w.heap.size + 1) s) (by rfl) (by rfl) ?hT HI.out H1.out ?_)
  case hT => exact HT.out
  obtain ⟨F, hF⟩ : ∃ F, (W.alloc (.cells #[Value.nilFunc, Value.nilFunc, Value.nilFunc, Value.nilFunc, Value.nilFunc, Value.nilFunc] 163)).setCells (w.heap.size + 1 + 1) 0 (fnA w.heap.size (w.heap.size + 1) s).toList = F := ⟨_, rfl⟩
  have hr : F.rangeAt (w.heap.size + 1 + 1) 0 (fnA w.heap.size (w.heap.size + 1) s).toList := by rw [← hF]; exact World.rangeAt_setCells_same _ _ _ _ HT.out
  have hBF : Below (w.heap.size + 1 + 1) W F := by rw [← hF]; exact ((Below.refl _ _).alloc (by omega) _).trans (setCells_below (Nat.le_refl _) _ _ _)
  rw [hF]
  refine bodyPost_ret (v := .agg (fnA w.heap.size (w.heap.size + 1) s)) (results_cell_mid Tryz.results75 _ _ (w.heap.size + 1 + 1) 0 _ _ rfl hr Tryz.underlying163 rfl HI.out) rfl ?_
  exact ⟨w.heap.size, w.heap.size + 1, rfl, (hBF.cell (p := ⟨w.heap.size, 0, none⟩) (by simp; omega)).trans HC1.out, (hBF.cell (p := ⟨w.heap.size + 1, 0, none⟩) (by simp)).trans HC2.out, Nat.le_refl _, by omega, HB.out.trans (hBF.mono (by omega))⟩

end Go.Proofs.YthmimipoooemjaaGreatDoor.Ix
end

section
/-
  Plain mathematics of a stable sort: rows of things with keys; inserting, rotating and merging in place keep, of each key, the order.
-/
namespace Go.Proofs.YthmimipoooemjaaGreatDoor.Stb

/-- Keys: bytes. -/
abbrev κ : Type := List Int
section
variable {α : Type} (key : α → κ) (lt : κ → κ → Bool)

/-- A strict order of all keys. -/
structure Ord : Prop where
  irr : ∀ x, lt x x = false
  trans : ∀ x y z, lt x y = true → lt y z = true → lt x z = true
  tot : ∀ x y, x ≠ y → lt x y = true ∨ lt y x = true

/-- Of each key the same, in the same order. -/
def Stab (l m : List α) : Prop := ∀ k, m.filter (fun x => decide (key x = k)) = l.filter (fun x => decide (key x = k))
/-- None stands behind a greater one. -/
def Srt (l : List α) : Prop := l.Pairwise (fun x y => lt (key y) (key x) = false)
/-- All of the first stand ahead of all of the second. -/
def Lts (l m : List α) : Prop := ∀ x ∈ l, ∀ y ∈ m, lt (key x) (key y) = true
/-- None of the second stands ahead of one of the first. -/
def Les (l m : List α) : Prop := ∀ x ∈ l, ∀ y ∈ m, lt (key y) (key x) = false
end

section
variable {α : Type} {key : α → κ} {lt : κ → κ → Bool}

theorem Ord.asym (h : Ord lt) {x y : κ} (hx : lt x y = true) : lt y x = false := by
  cases hy : lt y x with
  | false => rfl
  | true => have := h.trans _ _ _ hx hy; rw [h.irr] at this; cases this
/-- x ≤ y < z. -/
theorem Ord.le_lt (h : Ord lt) {x y z : κ} (h1 : lt y x = false) (h2 : lt y z = true) : lt x z = true := by
  by_cases e : x = y
  · rw [e]; exact h2
  · rcases h.tot x y e with h3 | h3
    · exact h.trans _ _ _ h3 h2
    · rw [h1] at h3; cases h3
theorem Ord.lt_le (h : Ord lt) {x y z : κ} (h1 : lt x y = true) (h2 : lt z y = false) : lt x z = true := by
  by_cases e : y = z
  · rw [← e]; exact h1
  · rcases h.tot y z e with h3 | h3
    · exact h.trans _ _ _ h1 h3
    · rw [h2] at h3; cases h3
theorem Ord.le_le (h : Ord lt) {x y z : κ} (h1 : lt y x = false) (h2 : lt z y = false) : lt z x = false := by
  cases hz : lt z x with
  | false => rfl
  | true => have := h.lt_le hz h1; rw [h2] at this; cases this

theorem Stab.refl (l : List α) : Stab key l l := fun _ => rfl
theorem Stab.trans {a b c : List α} (h : Stab key a b) (h2 : Stab key b c) : Stab key a c := fun k => (h2 k).trans (h k)
theorem Stab.append {a b c d : List α} (h : Stab key a b) (h2 : Stab key c d) : Stab key (a ++ c) (b ++ d) := fun k => by rw [List.filter_append, List.filter_append, h k, h2 k]
theorem Stab.mem {a b : List α} (h : Stab key a b) (x : α) : x ∈ b ↔ x ∈ a := by
  have h1 := h (key x)
  have e : ∀ l : List α, x ∈ l ↔ x ∈ l.filter (fun y => decide (key y = key x)) := fun l => by rw [List.mem_filter]; simp
  rw [e b, e a, h1]
theorem Stab.length {a b : List α} (h : Stab key a b) : b.length = a.length := by
  induction a generalizing b with
  | nil =>
    cases b with
    | nil => rfl
    | cons x b =>
      have := (h.mem x).1 List.mem_cons_self
      simp at this
  | cons x a ih =>
    have hx : x ∈ b := (h.mem x).2 List.mem_cons_self
    obtain ⟨s, t, e, hns⟩ : ∃ s t, b = s ++ x :: t ∧ ∀ y ∈ s, key y ≠ key x := by
      have hk := h (key x)
      rw [List.filter_cons, if_pos (by simp)] at hk
      have : ∀ (b : List α) (r : List α), b.filter (fun y => decide (key y = key x)) = x :: r → ∃ s t, b = s ++ x :: t ∧ ∀ y ∈ s, key y ≠ key x := by
        intro b
        induction b with
        | nil => intro r hr; simp at hr
        | cons y b ihb =>
          intro r hr
          rw [List.filter_cons] at hr
          by_cases hy : key y = key x
          · rw [if_pos (by simp [hy])] at hr
            simp only [List.cons.injEq] at hr
            exact ⟨[], b, by rw [hr.1]; rfl, fun _ h => by cases h⟩
          · rw [if_neg (by simp [hy])] at hr
            obtain ⟨s, t, e1, e2⟩ := ihb r hr
            refine ⟨y :: s, t, by rw [e1]; rfl, fun z hz => ?_⟩
            rcases List.mem_cons.1 hz with rfl | hz
            · exact hy
            · exact e2 z hz
      exact this b _ hk
    subst e
    have h2 : Stab key a (s ++ t) := fun k => by
      have hk := h k
      rw [List.filter_append, List.filter_cons, List.filter_cons] at hk
      rw [List.filter_append]
      by_cases hxk : key x = k
      · have hs : s.filter (fun y => decide (key y = k)) = [] := List.filter_eq_nil_iff.2 (fun y hy => by simp; rw [← hxk]; exact hns y hy)
        rw [if_pos (by simp [hxk]), if_pos (by simp [hxk]), hs, List.nil_append] at hk
        rw [hs, List.nil_append]
        exact (List.cons.inj hk).2
      · rw [if_neg (by simp [hxk]), if_neg (by simp [hxk])] at hk
        exact hk
    have := ih h2
    simp only [List.length_append, List.length_cons] at this ⊢
    omega
/-- Two that stand side by side, each thing of the second ahead of each of the first, are turned about. -/
theorem Stab.swap {a b : List α} (h : Ord lt) (hl : Lts key lt b a) : Stab key (a ++ b) (b ++ a) := fun k => by
  rw [List.filter_append, List.filter_append]
  by_cases ha : a.filter (fun y => decide (key y = k)) = []
  · rw [ha]; simp
  · have hb : b.filter (fun y => decide (key y = k)) = [] := by
      rw [List.filter_eq_nil_iff]
      intro y hy
      obtain ⟨x, hx1⟩ := List.exists_mem_of_ne_nil _ ha
      obtain ⟨hx, hxk⟩ := List.mem_filter.1 hx1
      simp only [decide_eq_true_eq] at hxk
      intro hyk
      have h1 := hl y hy x hx
      simp only [decide_eq_true_eq] at hyk
      rw [hyk, hxk, h.irr] at h1
      cases h1
    rw [hb]; simp

theorem Srt.append {a b : List α} : Srt key lt (a ++ b) ↔ Srt key lt a ∧ Srt key lt b ∧ Les key lt a b := by
  unfold Srt Les
  rw [List.pairwise_append]
theorem Les.of_stab {a a' b b' : List α} (h : Les key lt a b) (ha : Stab key a a') (hb : Stab key b b') : Les key lt a' b' := fun x hx y hy => h x ((ha.mem x).1 hx) y ((hb.mem y).1 hy)
/-! ### A merge in place -/
/-- What a merge of two sorted rows makes. -/
def Mrg (key : α → κ) (lt : κ → κ → Bool) (a b m : List α) : Prop := Stab key (a ++ b) m ∧ Srt key lt m
/-- Cut both so that the first parts stand ahead of the second ones, turn the middle about, and merge each half. -/
theorem Mrg.halves (h : Ord lt) {a1 a2 b1 b2 m1 m2 : List α} (hl : Lts key lt b1 a2) (hg : Les key lt a1 b2) (sa : Srt key lt (a1 ++ a2)) (sb : Srt key lt (b1 ++ b2)) (h1 : Mrg key lt a1 b1 m1) (h2 : Mrg key lt a2 b2 m2) : Mrg key lt (a1 ++ a2) (b1 ++ b2) (m1 ++ m2) := by
  obtain ⟨t1, s1⟩ := h1
  obtain ⟨t2, s2⟩ := h2
  refine ⟨?_, Srt.append.2 ⟨s1, s2, ?_⟩⟩
  · have e1 : Stab key ((a1 ++ a2) ++ (b1 ++ b2)) ((a1 ++ b1) ++ (a2 ++ b2)) := by
      have := ((Stab.refl (key := key) a1).append (Stab.swap h hl)).append (Stab.refl (key := key) b2)
      simpa [List.append_assoc] using this
    exact e1.trans (t1.append t2)
  · have k1 := (Srt.append.1 sa).2.2
    have k2 := (Srt.append.1 sb).2.2
    refine Les.of_stab (a := a1 ++ b1) (b := a2 ++ b2) ?_ t1 t2
    intro x hx y hy
    rcases List.mem_append.1 hx with hx | hx <;> rcases List.mem_append.1 hy with hy | hy
    · exact k1 x hx y hy
    · exact hg x hx y hy
    · exact h.asym (hl x hx y hy)
    · exact k2 x hx y hy
/-- One, put into the others: behind all that stand ahead of it. -/
theorem Mrg.one_first (h : Ord lt) {x : α} {b1 b2 : List α} (hl : ∀ y ∈ b1, lt (key y) (key x) = true) (hg : ∀ y ∈ b2, lt (key y) (key x) = false) (sb : Srt key lt (b1 ++ b2)) : Mrg key lt [x] (b1 ++ b2) (b1 ++ x :: b2) := by
  obtain ⟨s1, s2, s3⟩ := Srt.append.1 sb
  refine ⟨?_, Srt.append.2 ⟨s1, List.pairwise_cons.2 ⟨hg, s2⟩, ?_⟩⟩
  · have := (Stab.swap (key := key) (a := [x]) (b := b1) h (fun y hy z hz => by rw [List.mem_singleton.1 hz]; exact hl y hy)).append (Stab.refl (key := key) b2)
    simpa using this
  · intro y hy z hz
    rcases List.mem_cons.1 hz with rfl | hz
    · exact h.asym (hl y hy)
    · exact s3 y hy z hz
theorem Mrg.one_last (h : Ord lt) {x : α} {a1 a2 : List α} (hl : ∀ y ∈ a1, lt (key x) (key y) = false) (hg : ∀ y ∈ a2, lt (key x) (key y) = true) (sa : Srt key lt (a1 ++ a2)) : Mrg key lt (a1 ++ a2) [x] (a1 ++ x :: a2) := by
  obtain ⟨s1, s2, s3⟩ := Srt.append.1 sa
  refine ⟨?_, Srt.append.2 ⟨s1, List.pairwise_cons.2 ⟨fun y hy => h.asym (hg y hy), s2⟩, ?_⟩⟩
  · have := (Stab.refl (key := key) a1).append (Stab.swap (key := key) (a := a2) (b := [x]) h (fun y hy z hz => by rw [List.mem_singleton.1 hy]; exact hg z hz))
    simpa [List.append_assoc] using this
  · intro y hy z hz
    rcases List.mem_cons.1 hz with rfl | hz
    · exact hl y hy
    · exact s3 y hy z hz
end
end Go.Proofs.YthmimipoooemjaaGreatDoor.Stb
end

section
/-
  Entries in memory: 35 cells each, one behind the other in a block.
-/
namespace Go.Proofs.YthmimipoooemjaaGreatDoor.Sg
open Go.RowKit
open Sim (hid Kp No)

/-- An entry: the name's bytes, and the place. -/
abbrev Ent : Type := List Int × Int × Int × Int
def b8 (xs : List Int) : List Value := xs.map (Value.int .u8)
theorem b8_length (xs : List Int) : (b8 xs).length = xs.length := by simp [b8]
theorem b8_one (xs : List Int) : ∀ v ∈ b8 xs, v.oneCell' = true := by intro v hv; obtain ⟨x, _, rfl⟩ := List.mem_map.1 hv; rfl
def entC (e : Ent) : List Value := b8 e.1 ++ [.int .i64 e.2.1, .int .i64 e.2.2.1, .int .i64 e.2.2.2]
def EOk (e : Ent) : Prop := e.1.length = 32 ∧ ∀ x ∈ e.1, 0 ≤ x ∧ x ≤ 255
theorem entC_length {e : Ent} (h : EOk e) : (entC e).length = 35 := by simp [entC, b8_length, h.1]
theorem entC_one (e : Ent) : ∀ v ∈ entC e, v.oneCell' = true := by
  intro v hv
  rcases List.mem_append.1 hv with hv | hv
  · exact b8_one _ _ hv
  · simp at hv
    rcases hv with rfl | rfl | rfl <;> rfl
theorem info48 : (Tryz.prog.info? 155).map (·.size) = some 35 := by kernel_rfl
theorem inf {e : Ent} (h : EOk e) : (Tryz.prog.info? 155).map (·.size) = some (entC e).length := by rw [entC_length h]; exact info48
theorem infA {e : Ent} (h : EOk e) : (Tryz.prog.info? 155).map (·.size) = some (entC e).toArray.size := inf h

/-- Block g holds the entries d from o on, to be read. -/
def ERow (w : World) (g o : Nat) (d : List Ent) : Prop := g < w.heap.size ∧ ∀ i e, d[i]? = some e → EOk e ∧ w.rangeAt g (o + i * 35) (entC e)
/-- .. and to be written. -/
def EOwn (w : World) (g o : Nat) (d : List Ent) : Prop := ERow w g o d ∧ ∀ i, i < d.length → w.there g (o + i * 35) 35

theorem ERow.ok {w : World} {g o : Nat} {d : List Ent} (h : ERow w g o d) : ∀ e ∈ d, EOk e := fun e he => by
  obtain ⟨i, hi⟩ := List.mem_iff_getElem?.1 he
  exact (h.2 i e hi).1
theorem ERow.kp {L : Nat → Prop} {w w' : World} {g o : Nat} {d : List Ent} (h : ERow w g o d) (k : Kp L w w') (hg : ¬ L g) : ERow w' g o d :=
  ⟨Nat.lt_of_lt_of_le h.1 k.size, fun i e hi => ⟨(h.2 i e hi).1, fun j v hv => (k.cell (p := ⟨g, _, none⟩) h.1 hg).trans ((h.2 i e hi).2 j v hv)⟩⟩
theorem EOwn.kp {L : Nat → Prop} {w w' : World} {g o : Nat} {d : List Ent} (h : EOwn w g o d) (k : Kp L w w') (hg : ¬ L g) : EOwn w' g o d :=
  ⟨h.1.kp k hg, fun i hi j hj => by
    rw [k.cell (p := ⟨g, _, none⟩) h.1.1 hg, k.frozen (p := ⟨g, _, none⟩) h.1.1 hg]
    exact h.2 i hi j hj⟩
theorem EOwn.kept {w w' : World} {g o : Nat} {d : List Ent} (h : EOwn w g o d) (k : Kp No w w') : EOwn w' g o d := h.kp k (fun x => x)
theorem EOwn.there {w : World} {g o : Nat} {d : List Ent} (h : EOwn w g o d) {i : Nat} (hi : i < d.length) {e : Ent} (he : EOk e) : w.there g (o + i * 35) (entC e).toArray.size := by
  rw [List.size_toArray, entC_length he]
  exact h.2 i hi

theorem setCells_kp (w : World) (g o : Nat) (cs : List Value) : Kp (· = g) w (w.setCells g o cs) := by
  induction cs generalizing w o with
  | nil => exact Kp.refl _ _
  | cons c cs ih =>
    rw [World.setCells]
    exact (Kp.setCell (p := ⟨g, o, none⟩) (Kp.refl (· = g) w) (.inl rfl) c).trans (ih _ _) (fun x hx => .inl hx)
/-- One is written over. -/
theorem EOwn.set {w : World} {g o : Nat} {d : List Ent} (h : EOwn w g o d) {i : Nat} (hi : i < d.length) {e : Ent} (he : EOk e) : EOwn (w.setCells g (o + i * 35) (entC e)) g o (d.set i e) := by
  have hl := entC_length he
  refine ⟨⟨Nat.lt_of_lt_of_le h.1.1 (setCells_kp w g _ _).size, fun j x hx => ?_⟩, fun j hj => World.there_setCells (h.2 j (by simpa using hj)) _ _ _⟩
  by_cases hji : j = i
  · subst hji
    rw [List.getElem?_set_self hi] at hx
    simp only [Option.some.injEq] at hx
    subst hx
    exact ⟨he, World.rangeAt_setCells_same _ _ _ _ (by rw [hl]; exact h.2 j hi)⟩
  · rw [List.getElem?_set_ne (by omega)] at hx
    obtain ⟨h1, h2⟩ := h.1.2 j x hx
    refine ⟨h1, World.rangeAt_setCells_apart h2 _ _ _ (.inr ?_)⟩
    rw [entC_length h1, hl]
    omega
/-- In the midst of a call that writes block g alone: d is what stands there now. -/
def At (w : World) (g o : Nat) (d : List Ent) (wr : World) : Prop := Kp (· = g) w wr ∧ EOwn wr g o d
theorem At.start {w : World} {g o : Nat} {d : List Ent} (h : EOwn w g o d) : At w g o d w := ⟨Kp.refl _ _, h⟩
theorem At.kept {w wr w' : World} {g o : Nat} {d : List Ent} (h : At w g o d wr) (k : Kp No wr w') : At w g o d w' := ⟨h.1.andNone k, h.2.kept k⟩
theorem At.drew {w wr : World} {g o : Nat} {d : List Ent} (h : At w g o d wr) : At w g o d wr.drew := h.kept ((Kp.refl _ _).drew)
theorem At.next {w wr w' : World} {g o : Nat} {d d' : List Ent} (h : At w g o d wr) (k : At wr g o d' w') : At w g o d' w' := ⟨h.1.trans k.1 (fun _ hx => .inl hx), k.2⟩
theorem At.set {w wr : World} {g o : Nat} {d : List Ent} (h : At w g o d wr) {i : Nat} (hi : i < d.length) {e : Ent} (he : EOk e) : At w g o (d.set i e) (wr.setCells g (o + i * 35) (entC e)) :=
  ⟨h.1.trans (setCells_kp wr g _ _) (fun _ hx => .inl hx), h.2.set hi he⟩
theorem At.range {w wr : World} {g o : Nat} {d : List Ent} (h : At w g o d wr) {i : Nat} {e : Ent} (hi : d[i]? = some e) : EOk e ∧ wr.rangeAt g (o + i * 35) (entC e) := h.2.1.2 i e hi
end Go.Proofs.YthmimipoooemjaaGreatDoor.Sg
end

section
/-
  Ranges of entries that are swapped, and turned about.
-/
namespace Go.Proofs.YthmimipoooemjaaGreatDoor.Sg
open Go.RowKit
open Sim (hid Kp No)

def zEnt : Ent := ([], 0, 0, 0)
def swap2 (d : List Ent) (i j : Nat) : List Ent := (d.set i (d.getD j zEnt)).set j (d.getD i zEnt)
def swapN (d : List Ent) (a b : Nat) : Nat → List Ent
  | 0 => d
  | n + 1 => swap2 (swapN d a b n) (a + n) (b + n)
theorem swap2_length (d : List Ent) (i j : Nat) : (swap2 d i j).length = d.length := by simp [swap2]
theorem swapN_length (d : List Ent) (a b : Nat) : ∀ n, (swapN d a b n).length = d.length
  | 0 => rfl
  | n + 1 => by rw [swapN, swap2_length, swapN_length d a b n]
/-- Two are swapped: what is read, what is written, what stands there then. -/
theorem swap2_at {w wr : World} {g o : Nat} {d : List Ent} {i j : Nat} {x y : Ent} (h : At w g o d wr) (hx : d[i]? = some x) (hy : d[j]? = some y) :
    EOk x ∧ EOk y ∧ (∀ V, Kp No wr V → V.rangeAt g (o + i * 35) (entC x)) ∧ (∀ V, Kp No wr V → V.rangeAt g (o + j * 35) (entC y)) ∧ wr.drew.there g (o + i * 35) (entC y).toArray.size ∧
      (wr.drew.setCells g (o + i * 35) (entC y)).there g (o + j * 35) (entC x).toArray.size ∧ At w g o (swap2 d i j) ((wr.drew.setCells g (o + i * 35) (entC y)).setCells g (o + j * 35) (entC x)) := by
  have hi : i < d.length := (List.getElem?_eq_some_iff.1 hx).1
  have hj : j < d.length := (List.getElem?_eq_some_iff.1 hy).1
  obtain ⟨ox, _⟩ := h.range hx
  obtain ⟨oy, _⟩ := h.range hy
  have hd := h.drew
  have h1 := hd.set hi oy
  have h2 := h1.set (i := j) (by simpa using hj) ox
  refine ⟨ox, oy, fun V hV => ((h.kept hV).range hx).2, fun V hV => ((h.kept hV).range hy).2, hd.2.there hi oy, h1.2.there (by simpa using hj) ox, ?_⟩
  have e : swap2 d i j = (d.set i y).set j x := by rw [swap2, List.getD_eq_getElem?_getD, hy, List.getD_eq_getElem?_getD, hx]; rfl
  rw [e]
  exact h2

set_option maxHeartbeats 2000000 in
set_option maxRecDepth 100000 in
theorem swapR_any (w : World) (g o : Nat) (d : List Ent) (cap a b n : Nat) (cv : Value) (h : EOwn w g o d) (ha : a + n ≤ d.length) (hb : b + n ≤ d.length) (hab : a + n ≤ b) (hl : d.length ≤ 1000000) :
    Calls Tryz.prog 261 #[.slice (some ⟨g, o, none⟩) d.length cap, .int .i64 (a : Int), .int .i64 (b : Int), .int .i64 (n : Int), cv] w fun e w' => e = .returned (.tuple #[]) ∧ At w g o (swapN d a b n) w' := by
  have H0 := hid (At.start h)
  have HOK := hid h.1.ok
  have HG := hid h.1.1
  clear h
  obtain ⟨N, hN⟩ : ∃ N, d.length = N := ⟨_, rfl⟩
  have HN := hid hN
  rw [hN] at ha hb hl ⊢
  clear hN
  go_enter Tryz.func261, Tryz.ntmps261
  go_wp2_with fail
  go_loopw [10] (fun i wr => ∃ k : Nat, i = .int .i64 (k : Int) ∧ k ≤ n ∧ Hid (At w g o (swapN d a b k) wr)) (fun i _ => n - (intOf i).toNat)
  case atStart => exact ⟨0, rfl, Nat.zero_le _, H0.out⟩
  case round =>
    obtain ⟨k, rfl, hk, HA⟩ := hrel
    by_cases hlt : k < n
    · have hltI : (k : Int) < (n : Int) := by omega
      obtain ⟨i, hi⟩ : ∃ i, a + k = i := ⟨_, rfl⟩
      obtain ⟨j, hj⟩ : ∃ j, b + k = j := ⟨_, rfl⟩
      have hwi : IntKind.i64.wrap ((a : Int) + (k : Int)) = (i : Int) := by rw [IntKind.wrap_i64]; omega
      have hwj : IntKind.i64.wrap ((b : Int) + (k : Int)) = (j : Int) := by rw [IntKind.wrap_i64]; omega
      have hiN : i < N := by omega
      have hjN : j < N := by omega
      have hij : i < j := by omega
      have hiI : (i : Int) < (N : Int) := by omega
      have hjI : (j : Int) < (N : Int) := by omega
      obtain ⟨D, hD⟩ : ∃ D, swapN d a b k = D := ⟨_, rfl⟩
      have hDl : D.length = N := by rw [← hD, swapN_length, HN.out]
      have HS : Hid (swapN d a b (k + 1) = swap2 D i j) := by rw [Hid, swapN, hD, hi, hj]
      rw [hD] at HA
      obtain ⟨ex, hx⟩ : ∃ ex, D[i]? = some ex := ⟨_, List.getElem?_eq_getElem (by omega)⟩
      obtain ⟨ey, hy⟩ : ∃ ey, D[j]? = some ey := ⟨_, List.getElem?_eq_getElem (by omega)⟩
      have HRW := hid (swap2_at HA.out hx hy)
      obtain ⟨hox, hoy, hrx, hry, ht1, ht2, hfin⟩ := HRW.out
      rw [← HS.out] at hfin
      have HFIN := hid hfin
      have HT1 := hid ht1
      have HT2 := hid ht2
      have HIx := hid (inf hox)
      have HIy := hid (inf hoy)
      have HAx := hid (infA hox)
      have HAy := hid (infA hoy)
      have HOx := hid (all_oneCell_toArray (entC_one ex))
      have HOy := hid (all_oneCell_toArray (entC_one ey))
      have Hx := hid hrx
      have Hy := hid hry
      generalize entC ex = x at *
      generalize entC ey = y at *
      clear hi hj hiN hjN hij hD hDl hx hy hox hoy hrx hry ht1 ht2 hfin HRW HS HA
      go_wp2_with fail
      refine wp_region_held_drew (S := fun _ => True) (by kernel_rfl) trivial (fun hHeld => ?_)
      refine wpAnyH_take (i := 0) (oi := ⟨some 16, .move (.tmp 0), 81, "zsortanyfunc.go:331", #[], none⟩) (v := .slice (some ⟨g, o, none⟩) N cap) rfl (by kernel_rfl) (by kernel_rfl) (by kernel_rfl) (fun _ _ _ h => h) (Or.inl ⟨by rfl, fun w' hw' => by (clear hw'; go_simp)⟩) hHeld ?_
      simp only [Act.put, sjA, sjB, sjC]
      refine wpAnyH_take (i := 1) (oi := ⟨some 17, .move (.tmp 1), 3, "zsortanyfunc.go:331", #[], none⟩) (v := .int .i64 (a : Int)) rfl (by kernel_rfl) (by kernel_rfl) (by kernel_rfl) (fun _ _ _ h => h) (Or.inl ⟨by rfl, fun w' hw' => by (clear hw'; go_simp)⟩) hHeld ?_
      simp only [Act.put, sjA, sjB, sjC]
      refine wpAnyH_take (i := 2) (oi := ⟨some 18, .move (.tmp 10), 3, "zsortanyfunc.go:331", #[], none⟩) (v := .int .i64 (k : Int)) rfl (by kernel_rfl) (by kernel_rfl) (by kernel_rfl) (fun _ _ _ h => h) (Or.inl ⟨by rfl, fun w' hw' => by (clear hw'; go_simp)⟩) hHeld ?_
      simp only [Act.put, sjA, sjB, sjC]
      refine wpAnyH_take (i := 3) (oi := ⟨some 19, .binOp BinOp.add 3 (.tmp 17) (.tmp 18) 3, 3, "zsortanyfunc.go:331", #[⟨1, .data⟩, ⟨2, .data⟩], none⟩) (v := .int .i64 (i : Int)) rfl (by kernel_rfl) (by kernel_rfl) (by kernel_rfl) (fun _ _ _ h => h) (Or.inl ⟨by rfl, fun w' hw' => by (clear hw'; go_simp)⟩) hHeld ?_
      simp only [Act.put, sjA, sjB, sjC]
      refine wpAnyH_take (i := 4) (oi := ⟨some 20, .move (.tmp 0), 81, "zsortanyfunc.go:331", #[⟨21, .gcOnly .lateStores⟩], none⟩) (v := .slice (some ⟨g, o, none⟩) N cap) rfl (by kernel_rfl) (by kernel_rfl) (by kernel_rfl) (fun _ _ _ h => h) (Or.inl ⟨by rfl, fun w' hw' => by (clear hw'; go_simp)⟩) hHeld ?_
      simp only [Act.put, sjA, sjB, sjC]
      refine wpAnyH_take (i := 5) (oi := ⟨some 21, .move (.tmp 2), 3, "zsortanyfunc.go:331", #[⟨21, .gcOnly .lateStores⟩], none⟩) (v := .int .i64 (b : Int)) rfl (by kernel_rfl) (by kernel_rfl) (by kernel_rfl) (fun _ _ _ h => h) (Or.inl ⟨by rfl, fun w' hw' => by (clear hw'; go_simp)⟩) hHeld ?_
      simp only [Act.put, sjA, sjB, sjC]
      refine wpAnyH_take (i := 6) (oi := ⟨some 22, .move (.tmp 10), 3, "zsortanyfunc.go:331", #[⟨21, .gcOnly .lateStores⟩], none⟩) (v := .int .i64 (k : Int)) rfl (by kernel_rfl) (by kernel_rfl) (by kernel_rfl) (fun _ _ _ h => h) (Or.inl ⟨by rfl, fun w' hw' => by (clear hw'; go_simp)⟩) hHeld ?_
      simp only [Act.put, sjA, sjB, sjC]
      refine wpAnyH_take (i := 7) (oi := ⟨some 23, .binOp BinOp.add 3 (.tmp 21) (.tmp 22) 3, 3, "zsortanyfunc.go:331", #[⟨5, .data⟩, ⟨6, .data⟩, ⟨21, .gcOnly .lateStores⟩], none⟩) (v := .int .i64 (j : Int)) rfl (by kernel_rfl) (by kernel_rfl) (by kernel_rfl) (fun _ _ _ h => h) (Or.inl ⟨by rfl, fun w' hw' => by (clear hw'; go_simp)⟩) hHeld ?_
      simp only [Act.put, sjA, sjB, sjC]
      refine wpAnyH_take (i := 8) (oi := ⟨some 24, .move (.tmp 0), 81, "zsortanyfunc.go:331", #[], none⟩) (v := .slice (some ⟨g, o, none⟩) N cap) rfl (by kernel_rfl) (by kernel_rfl) (by kernel_rfl) (fun _ _ _ h => h) (Or.inl ⟨by rfl, fun w' hw' => by (clear hw'; go_simp)⟩) hHeld ?_
      simp only [Act.put, sjA, sjB, sjC]
      refine wpAnyH_take (i := 9) (oi := ⟨some 25, .move (.tmp 2), 3, "zsortanyfunc.go:331", #[], none⟩) (v := .int .i64 (b : Int)) rfl (by kernel_rfl) (by kernel_rfl) (by kernel_rfl) (fun _ _ _ h => h) (Or.inl ⟨by rfl, fun w' hw' => by (clear hw'; go_simp)⟩) hHeld ?_
      simp only [Act.put, sjA, sjB, sjC]
      refine wpAnyH_take (i := 10) (oi := ⟨some 26, .move (.tmp 10), 3, "zsortanyfunc.go:331", #[], none⟩) (v := .int .i64 (k : Int)) rfl (by kernel_rfl) (by kernel_rfl) (by kernel_rfl) (fun _ _ _ h => h) (Or.inl ⟨by rfl, fun w' hw' => by (clear hw'; go_simp)⟩) hHeld ?_
      simp only [Act.put, sjA, sjB, sjC]
      refine wpAnyH_take (i := 11) (oi := ⟨some 27, .binOp BinOp.add 3 (.tmp 25) (.tmp 26) 3, 3, "zsortanyfunc.go:331", #[⟨9, .data⟩, ⟨10, .data⟩], none⟩) (v := .int .i64 (j : Int)) rfl (by kernel_rfl) (by kernel_rfl) (by kernel_rfl) (fun _ _ _ h => h) (Or.inl ⟨by rfl, fun w' hw' => by (clear hw'; go_simp)⟩) hHeld ?_
      simp only [Act.put, sjA, sjB, sjC]
      refine wpAnyH_take (i := 12) (oi := ⟨some 28, .indexAddr 81 (.tmp 24) (.tmp 27), 0, "zsortanyfunc.go:331", #[⟨8, .data⟩, ⟨11, .data⟩], none⟩) (v := .pointer (some ⟨g, o + j * 35, none⟩)) rfl (by kernel_rfl) (by kernel_rfl) (by kernel_rfl) (fun _ _ _ h => h) (Or.inl ⟨by rfl, fun w' hw' => by (clear hw'; go_simp)⟩) hHeld ?_
      simp only [Act.put, sjA, sjB, sjC]
      refine wpAnyH_take (i := 14) (oi := ⟨some 30, .move (.tmp 0), 81, "zsortanyfunc.go:331", #[], none⟩) (v := .slice (some ⟨g, o, none⟩) N cap) rfl (by kernel_rfl) (by kernel_rfl) (by kernel_rfl) (fun _ _ _ h => h) (Or.inl ⟨by rfl, fun w' hw' => by (clear hw'; go_simp)⟩) hHeld ?_
      simp only [Act.put, sjA, sjB, sjC]
      refine wpAnyH_take (i := 15) (oi := ⟨some 31, .move (.tmp 1), 3, "zsortanyfunc.go:331", #[], none⟩) (v := .int .i64 (a : Int)) rfl (by kernel_rfl) (by kernel_rfl) (by kernel_rfl) (fun _ _ _ h => h) (Or.inl ⟨by rfl, fun w' hw' => by (clear hw'; go_simp)⟩) hHeld ?_
      simp only [Act.put, sjA, sjB, sjC]
      refine wpAnyH_take (i := 16) (oi := ⟨some 32, .move (.tmp 10), 3, "zsortanyfunc.go:331", #[], none⟩) (v := .int .i64 (k : Int)) rfl (by kernel_rfl) (by kernel_rfl) (by kernel_rfl) (fun _ _ _ h => h) (Or.inl ⟨by rfl, fun w' hw' => by (clear hw'; go_simp)⟩) hHeld ?_
      simp only [Act.put, sjA, sjB, sjC]
      refine wpAnyH_take (i := 17) (oi := ⟨some 33, .binOp BinOp.add 3 (.tmp 31) (.tmp 32) 3, 3, "zsortanyfunc.go:331", #[⟨15, .data⟩, ⟨16, .data⟩], none⟩) (v := .int .i64 (i : Int)) rfl (by kernel_rfl) (by kernel_rfl) (by kernel_rfl) (fun _ _ _ h => h) (Or.inl ⟨by rfl, fun w' hw' => by (clear hw'; go_simp)⟩) hHeld ?_
      simp only [Act.put, sjA, sjB, sjC]
      refine wpAnyH_take (i := 18) (oi := ⟨some 34, .indexAddr 81 (.tmp 30) (.tmp 33), 0, "zsortanyfunc.go:331", #[⟨14, .data⟩, ⟨17, .data⟩], none⟩) (v := .pointer (some ⟨g, o + i * 35, none⟩)) rfl (by kernel_rfl) (by kernel_rfl) (by kernel_rfl) (fun _ _ _ h => h) (Or.inl ⟨by rfl, fun w' hw' => by (clear hw'; go_simp)⟩) hHeld ?_
      simp only [Act.put, sjA, sjB, sjC]
      refine wpAnyH_ready (rs := [13, 19]) (by kernel_rfl) (by simp) ?_
      refine AllReadyH.cons (o := ⟨some 29, .load 155 (.tmp 28), 155, "zsortanyfunc.go:331", #[⟨12, .data⟩], none⟩) rfl (fun K hK => ?_) (AllReadyH.cons (o := ⟨some 35, .load 155 (.tmp 34), 155, "zsortanyfunc.go:331", #[⟨18, .data⟩], none⟩) rfl (fun K hK => ?_) AllReadyH.nil)
      · rw [if_pos (by rfl)]
        refine wp_load_mid 155 _ (by rfl) g (o + j * 35) (by rfl) y _ (Hy.out _ ((Kp.refl No _).drew)) Tryz.underlying155 rfl HIy.out ?_
        refine hK.out _ _ trivial (fun hh => ?_)
        clear hK K hHeld
        have hHeld := hh
        clear hh
        try simp only [Act.put, sjA, sjB, sjC]
        refine wpAnyH_ready (rs := [19]) (by kernel_rfl) (by simp) ?_
        refine AllReadyH.cons (o := ⟨some 35, .load 155 (.tmp 34), 155, "zsortanyfunc.go:331", #[⟨18, .data⟩], none⟩) rfl (fun K hK => ?_) AllReadyH.nil
        rw [if_pos (by rfl)]
        refine wp_load_mid 155 _ (by rfl) g (o + i * 35) (by rfl) x _ (Hx.out _ ((Kp.refl No _).drew)) Tryz.underlying155 rfl HIx.out ?_
        refine hK.out _ _ trivial (fun hh => ?_)
        clear hK K hHeld
        have hHeld := hh
        clear hh
        try simp only [Act.put, sjA, sjB, sjC]
        refine wpAnyH_take (i := 20) (oi := ⟨some 36, .indexAddr 81 (.tmp 16) (.tmp 19), 0, "zsortanyfunc.go:331", #[⟨0, .data⟩, ⟨3, .data⟩, ⟨0, .phase⟩, ⟨1, .phase⟩, ⟨2, .phase⟩, ⟨3, .phase⟩, ⟨4, .textOnly .lateStores⟩, ⟨5, .textOnly .lateStores⟩, ⟨6, .textOnly .lateStores⟩, ⟨7, .textOnly .lateStores⟩, ⟨8, .phase⟩, ⟨9, .phase⟩, ⟨10, .phase⟩, ⟨11, .phase⟩, ⟨12, .phase⟩, ⟨13, .phase⟩, ⟨14, .textOnly .lateStores⟩, ⟨15, .textOnly .lateStores⟩, ⟨16, .textOnly .lateStores⟩, ⟨17, .textOnly .lateStores⟩, ⟨18, .textOnly .lateStoresUnsure⟩, ⟨19, .phase⟩], none⟩) (v := .pointer (some ⟨g, o + i * 35, none⟩)) rfl (by kernel_rfl) (by kernel_rfl) (by kernel_rfl) (fun _ _ _ h => h) (Or.inl ⟨by rfl, fun w' hw' => by (clear hw'; go_simp)⟩) hHeld ?_
        simp only [Act.put, sjA, sjB, sjC]
        refine wpAnyH_ready (rs := [21]) (by kernel_rfl) (by simp) ?_
        refine AllReadyH.cons (o := ⟨none, .store 155 (.tmp 36) (.tmp 29), 0, "zsortanyfunc.go:331", #[⟨20, .data⟩, ⟨13, .data⟩, ⟨0, .phase⟩, ⟨1, .phase⟩, ⟨2, .phase⟩, ⟨3, .phase⟩, ⟨4, .textOnly .lateStores⟩, ⟨5, .textOnly .lateStores⟩, ⟨6, .textOnly .lateStores⟩, ⟨7, .textOnly .lateStores⟩, ⟨8, .phase⟩, ⟨9, .phase⟩, ⟨10, .phase⟩, ⟨11, .phase⟩, ⟨12, .phase⟩, ⟨13, .phase⟩, ⟨14, .textOnly .lateStores⟩, ⟨15, .textOnly .lateStores⟩, ⟨16, .textOnly .lateStores⟩, ⟨17, .textOnly .lateStores⟩, ⟨18, .textOnly .lateStoresUnsure⟩, ⟨19, .phase⟩], none⟩) rfl (fun K hK => ?_) AllReadyH.nil
        rw [if_pos (by rfl)]
        refine wp_store_mid 155 _ _ (by rfl) g (o + i * 35) y.toArray (by rfl) (by rfl) HT1.out HAy.out HOy.out ?_
        refine hK.out _ _ trivial (fun hh => ?_)
        clear hK K hHeld
        have hHeld := hh
        clear hh
        simp only [Act.put]
        refine wpAnyH_take (i := 22) (oi := ⟨some 37, .indexAddr 81 (.tmp 20) (.tmp 23), 0, "zsortanyfunc.go:331", #[⟨4, .data⟩, ⟨7, .data⟩, ⟨0, .phase⟩, ⟨1, .phase⟩, ⟨2, .phase⟩, ⟨3, .phase⟩, ⟨4, .phase⟩, ⟨5, .phase⟩, ⟨6, .phase⟩, ⟨7, .phase⟩, ⟨8, .phase⟩, ⟨9, .phase⟩, ⟨10, .phase⟩, ⟨11, .phase⟩, ⟨12, .phase⟩, ⟨13, .phase⟩, ⟨14, .phase⟩, ⟨15, .phase⟩, ⟨16, .phase⟩, ⟨17, .phase⟩, ⟨18, .phase⟩, ⟨19, .phase⟩, ⟨20, .phase⟩, ⟨21, .phase⟩], none⟩) (v := .pointer (some ⟨g, o + j * 35, none⟩)) rfl (by kernel_rfl) (by kernel_rfl) (by kernel_rfl) (fun _ _ _ h => h) (Or.inl ⟨by rfl, fun w' hw' => by (clear hw'; go_simp)⟩) hHeld ?_
        simp only [Act.put, sjA, sjB, sjC]
        refine wpAnyH_ready (rs := [23]) (by kernel_rfl) (by simp) ?_
        refine AllReadyH.cons (o := ⟨none, .store 155 (.tmp 37) (.tmp 35), 0, "zsortanyfunc.go:331", #[⟨22, .data⟩, ⟨19, .data⟩, ⟨21, .chain⟩, ⟨0, .phase⟩, ⟨1, .phase⟩, ⟨2, .phase⟩, ⟨3, .phase⟩, ⟨4, .phase⟩, ⟨5, .phase⟩, ⟨6, .phase⟩, ⟨7, .phase⟩, ⟨8, .phase⟩, ⟨9, .phase⟩, ⟨10, .phase⟩, ⟨11, .phase⟩, ⟨12, .phase⟩, ⟨13, .phase⟩, ⟨14, .phase⟩, ⟨15, .phase⟩, ⟨16, .phase⟩, ⟨17, .phase⟩, ⟨18, .phase⟩, ⟨19, .phase⟩, ⟨20, .phase⟩, ⟨21, .phase⟩], none⟩) rfl (fun K hK => ?_) AllReadyH.nil
        rw [if_pos (by rfl)]
        refine wp_store_mid 155 _ _ (by rfl) g (o + j * 35) x.toArray (by rfl) (by rfl) HT2.out HAx.out HOx.out ?_
        refine hK.out _ _ trivial (fun hh => ?_)
        clear hK K hHeld
        have hHeld := hh
        clear hh
        simp only [Act.put]
        refine wpAnyH_done (by kernel_rfl) ?_ _
        go_wp2_with fail
        go_round
        case rel => exact ⟨k + 1, by go_num, by omega, HFIN.out⟩
        case measure => simp [intOf]; omega
      · rw [if_pos (by rfl)]
        refine wp_load_mid 155 _ (by rfl) g (o + i * 35) (by rfl) x _ (Hx.out _ ((Kp.refl No _).drew)) Tryz.underlying155 rfl HIx.out ?_
        refine hK.out _ _ trivial (fun hh => ?_)
        clear hK K hHeld
        have hHeld := hh
        clear hh
        try simp only [Act.put, sjA, sjB, sjC]
        refine wpAnyH_ready (rs := [13]) (by kernel_rfl) (by simp) ?_
        refine AllReadyH.cons (o := ⟨some 29, .load 155 (.tmp 28), 155, "zsortanyfunc.go:331", #[⟨12, .data⟩], none⟩) rfl (fun K hK => ?_) AllReadyH.nil
        rw [if_pos (by rfl)]
        refine wp_load_mid 155 _ (by rfl) g (o + j * 35) (by rfl) y _ (Hy.out _ ((Kp.refl No _).drew)) Tryz.underlying155 rfl HIy.out ?_
        refine hK.out _ _ trivial (fun hh => ?_)
        clear hK K hHeld
        have hHeld := hh
        clear hh
        try simp only [Act.put, sjA, sjB, sjC]
        refine wpAnyH_take (i := 20) (oi := ⟨some 36, .indexAddr 81 (.tmp 16) (.tmp 19), 0, "zsortanyfunc.go:331", #[⟨0, .data⟩, ⟨3, .data⟩, ⟨0, .phase⟩, ⟨1, .phase⟩, ⟨2, .phase⟩, ⟨3, .phase⟩, ⟨4, .textOnly .lateStores⟩, ⟨5, .textOnly .lateStores⟩, ⟨6, .textOnly .lateStores⟩, ⟨7, .textOnly .lateStores⟩, ⟨8, .phase⟩, ⟨9, .phase⟩, ⟨10, .phase⟩, ⟨11, .phase⟩, ⟨12, .phase⟩, ⟨13, .phase⟩, ⟨14, .textOnly .lateStores⟩, ⟨15, .textOnly .lateStores⟩, ⟨16, .textOnly .lateStores⟩, ⟨17, .textOnly .lateStores⟩, ⟨18, .textOnly .lateStoresUnsure⟩, ⟨19, .phase⟩], none⟩) (v := .pointer (some ⟨g, o + i * 35, none⟩)) rfl (by kernel_rfl) (by kernel_rfl) (by kernel_rfl) (fun _ _ _ h => h) (Or.inl ⟨by rfl, fun w' hw' => by (clear hw'; go_simp)⟩) hHeld ?_
        simp only [Act.put, sjA, sjB, sjC]
        refine wpAnyH_ready (rs := [21]) (by kernel_rfl) (by simp) ?_
        refine AllReadyH.cons (o := ⟨none, .store 155 (.tmp 36) (.tmp 29), 0, "zsortanyfunc.go:331", #[⟨20, .data⟩, ⟨13, .data⟩, ⟨0, .phase⟩, ⟨1, .phase⟩, ⟨2, .phase⟩, ⟨3, .phase⟩, ⟨4, .textOnly .lateStores⟩, ⟨5, .textOnly .lateStores⟩, ⟨6, .textOnly .lateStores⟩, ⟨7, .textOnly .lateStores⟩, ⟨8, .phase⟩, ⟨9, .phase⟩, ⟨10, .phase⟩, ⟨11, .phase⟩, ⟨12, .phase⟩, ⟨13, .phase⟩, ⟨14, .textOnly .lateStores⟩, ⟨15, .textOnly .lateStores⟩, ⟨16, .textOnly .lateStores⟩, ⟨17, .textOnly .lateStores⟩, ⟨18, .textOnly .lateStoresUnsure⟩, ⟨19, .phase⟩], none⟩) rfl (fun K hK => ?_) AllReadyH.nil
        rw [if_pos (by rfl)]
        refine wp_store_mid 155 _ _ (by rfl) g (o + i * 35) y.toArray (by rfl) (by rfl) HT1.out HAy.out HOy.out ?_
        refine hK.out _ _ trivial (fun hh => ?_)
        clear hK K hHeld
        have hHeld := hh
        clear hh
        simp only [Act.put]
        refine wpAnyH_take (i := 22) (oi := ⟨some 37, .indexAddr 81 (.tmp 20) (.tmp 23), 0, "zsortanyfunc.go:331", #[⟨4, .data⟩, ⟨7, .data⟩, ⟨0, .phase⟩, ⟨1, .phase⟩, ⟨2, .phase⟩, ⟨3, .phase⟩, ⟨4, .phase⟩, ⟨5, .phase⟩, ⟨6, .phase⟩, ⟨7, .phase⟩, ⟨8, .phase⟩, ⟨9, .phase⟩, ⟨10, .phase⟩, ⟨11, .phase⟩, ⟨12, .phase⟩, ⟨13, .phase⟩, ⟨14, .phase⟩, ⟨15, .phase⟩, ⟨16, .phase⟩, ⟨17, .phase⟩, ⟨18, .phase⟩, ⟨19, .phase⟩, ⟨20, .phase⟩, ⟨21, .phase⟩], none⟩) (v := .pointer (some ⟨g, o + j * 35, none⟩)) rfl (by kernel_rfl) (by kernel_rfl) (by kernel_rfl) (fun _ _ _ h => h) (Or.inl ⟨by rfl, fun w' hw' => by (clear hw'; go_simp)⟩) hHeld ?_
        simp only [Act.put, sjA, sjB, sjC]
        refine wpAnyH_ready (rs := [23]) (by kernel_rfl) (by simp) ?_
        refine AllReadyH.cons (o := ⟨none, .store 155 (.tmp 37) (.tmp 35), 0, "zsortanyfunc.go:331", #[⟨22, .data⟩, ⟨19, .data⟩, ⟨21, .chain⟩, ⟨0, .phase⟩, ⟨1, .phase⟩, ⟨2, .phase⟩, ⟨3, .phase⟩, ⟨4, .phase⟩, ⟨5, .phase⟩, ⟨6, .phase⟩, ⟨7, .phase⟩, ⟨8, .phase⟩, ⟨9, .phase⟩, ⟨10, .phase⟩, ⟨11, .phase⟩, ⟨12, .phase⟩, ⟨13, .phase⟩, ⟨14, .phase⟩, ⟨15, .phase⟩, ⟨16, .phase⟩, ⟨17, .phase⟩, ⟨18, .phase⟩, ⟨19, .phase⟩, ⟨20, .phase⟩, ⟨21, .phase⟩], none⟩) rfl (fun K hK => ?_) AllReadyH.nil
        rw [if_pos (by rfl)]
        refine wp_store_mid 155 _ _ (by rfl) g (o + j * 35) x.toArray (by rfl) (by rfl) HT2.out HAx.out HOx.out ?_
        refine hK.out _ _ trivial (fun hh => ?_)
        clear hK K hHeld
        have hHeld := hh
        clear hh
        simp only [Act.put]
        refine wpAnyH_done (by kernel_rfl) ?_ _
        go_wp2_with fail
        go_round
        case rel => exact ⟨k + 1, by go_num, by omega, HFIN.out⟩
        case measure => simp [intOf]; omega
    · have hltI : ¬ (k : Int) < (n : Int) := by omega
      have hkn : k = n := by omega
      subst hkn
      go_wp2_with fail
      go_end0
      exact ⟨rfl, HA.out⟩
end Go.Proofs.YthmimipoooemjaaGreatDoor.Sg
end

section
/-
  Two ranges that stand side by side are turned about.
-/
namespace Go.Proofs.YthmimipoooemjaaGreatDoor.Sg
open Go.RowKit
open Sim (hid Kp No)

theorem swap2_blocks (A B C : List Ent) (x y : Ent) : swap2 (A ++ x :: (B ++ y :: C)) A.length (A.length + 1 + B.length) = A ++ y :: (B ++ x :: C) := by
  have e1 : (A ++ x :: (B ++ y :: C)).getD A.length zEnt = x := by simp [List.getD_eq_getElem?_getD]
  have e2 : (A ++ x :: (B ++ y :: C)).getD (A.length + 1 + B.length) zEnt = y := by
    rw [List.getD_eq_getElem?_getD, List.getElem?_append_right (by omega), show A.length + 1 + B.length - A.length = B.length + 1 by omega]
    simp
  have e3 : (A ++ x :: (B ++ y :: C)).set A.length y = A ++ y :: (B ++ y :: C) := by simp [List.set_append_right]
  rw [swap2, e1, e2, e3, List.set_append_right _ _ (by omega), show A.length + 1 + B.length - A.length = B.length + 1 by omega, List.set_cons_succ, List.set_append_right _ _ (by omega), Nat.sub_self, List.set_cons_zero]
theorem swapN_blocks : ∀ (n : Nat) (L X M Y R : List Ent), X.length = n → Y.length = n → swapN (L ++ (X ++ (M ++ (Y ++ R)))) L.length (L.length + n + M.length) n = L ++ (Y ++ (M ++ (X ++ R)))
  | 0, L, X, M, Y, R, hx, hy => by
    rw [List.length_eq_zero_iff.1 hx, List.length_eq_zero_iff.1 hy]
    rfl
  | n + 1, L, X, M, Y, R, hx, hy => by
    have nx : X ≠ [] := by intro e; rw [e] at hx; simp at hx
    have ny : Y ≠ [] := by intro e; rw [e] at hy; simp at hy
    obtain ⟨X', x, rfl⟩ : ∃ X' x, X = X' ++ [x] := ⟨X.dropLast, X.getLast nx, (List.dropLast_concat_getLast nx).symm⟩
    obtain ⟨Y', y, rfl⟩ : ∃ Y' y, Y = Y' ++ [y] := ⟨Y.dropLast, Y.getLast ny, (List.dropLast_concat_getLast ny).symm⟩
    have hx' : X'.length = n := by simpa using hx
    have hy' : Y'.length = n := by simpa using hy
    have ih := swapN_blocks n L X' (x :: M) Y' (y :: R) hx' hy'
    have e1 : L ++ (X' ++ [x] ++ (M ++ (Y' ++ [y] ++ R))) = L ++ (X' ++ ((x :: M) ++ (Y' ++ y :: R))) := by simp
    have e2 : L.length + (n + 1) + M.length = L.length + n + (x :: M).length := by simp; omega
    rw [swapN, e1, e2, ih]
    have h2 := swap2_blocks (L ++ Y') (M ++ X') R x y
    have e3 : L ++ (Y' ++ ((x :: M) ++ (X' ++ y :: R))) = (L ++ Y') ++ x :: ((M ++ X') ++ y :: R) := by simp
    have e4 : L.length + n = (L ++ Y').length := by simp [hy']
    have e5 : L.length + n + (x :: M).length + n = (L ++ Y').length + 1 + (M ++ X').length := by simp [hx', hy']; omega
    rw [e5, e4, e3, h2]
    simp

/-- How far a turning has come: X and Y are left, and F is what comes out. -/
def RotSt (m i j : Nat) (F D : List Ent) : Prop := ∃ L X Y R : List Ent, X.length = i ∧ Y.length = j ∧ L.length + i = m ∧ D = L ++ (X ++ (Y ++ R)) ∧ F = L ++ (Y ++ (X ++ R))
theorem RotSt.gt {m i j : Nat} {F D : List Ent} (h : RotSt m i j F D) (hj : j < i) : RotSt m (i - j) j F (swapN D (m - i) m j) := by
  obtain ⟨L, X, Y, R, hx, hy, hm, rfl, rfl⟩ := h
  have e := swapN_blocks j L (X.take j) (X.drop j) Y R (by rw [List.length_take]; omega) hy
  have e1 : L ++ (X ++ (Y ++ R)) = L ++ (X.take j ++ (X.drop j ++ (Y ++ R))) := by rw [← List.append_assoc (X.take j), List.take_append_drop]
  have e2 : L.length + j + (X.drop j).length = m := by rw [List.length_drop]; omega
  rw [e2] at e
  refine ⟨L ++ Y, X.drop j, X.take j, R, by rw [List.length_drop]; omega, by rw [List.length_take]; omega, by rw [List.length_append]; omega, ?_, ?_⟩
  · rw [e1, show m - i = L.length by omega, e]; simp
  · have : X.take j ++ (X.drop j ++ R) = X ++ R := by rw [← List.append_assoc, List.take_append_drop]
    rw [this]; simp
theorem RotSt.lt {m i j : Nat} {F D : List Ent} (h : RotSt m i j F D) (hj : i < j) : RotSt m i (j - i) F (swapN D (m - i) (m + j - i) i) := by
  obtain ⟨L, X, Y, R, hx, hy, hm, rfl, rfl⟩ := h
  have e := swapN_blocks i L X (Y.take (j - i)) (Y.drop (j - i)) R hx (by rw [List.length_drop]; omega)
  have e1 : L ++ (X ++ (Y ++ R)) = L ++ (X ++ (Y.take (j - i) ++ (Y.drop (j - i) ++ R))) := by rw [← List.append_assoc (Y.take _), List.take_append_drop]
  have e2 : L.length + i + (Y.take (j - i)).length = m + j - i := by rw [List.length_take]; omega
  rw [e2] at e
  refine ⟨L, Y.drop (j - i), Y.take (j - i), X ++ R, by rw [List.length_drop]; omega, by rw [List.length_take]; omega, hm, ?_, ?_⟩
  · rw [e1, show m - i = L.length by omega, e]
  · have : Y.take (j - i) ++ (Y.drop (j - i) ++ (X ++ R)) = Y ++ (X ++ R) := by rw [← List.append_assoc, List.take_append_drop]
    rw [this]
theorem RotSt.eq {m i : Nat} {F D : List Ent} (h : RotSt m i i F D) : swapN D (m - i) m i = F := by
  obtain ⟨L, X, Y, R, hx, hy, hm, rfl, rfl⟩ := h
  have e := swapN_blocks i L X [] Y R hx hy
  simp only [List.nil_append, List.length_nil, Nat.add_zero] at e
  rw [hm] at e
  rw [show m - i = L.length by omega, e]
theorem RotSt.len {m i j : Nat} {F D : List Ent} (h : RotSt m i j F D) : i ≤ m ∧ m + j ≤ D.length ∧ D.length = F.length := by
  obtain ⟨L, X, Y, R, hx, hy, hm, rfl, rfl⟩ := h
  simp only [List.length_append]
  omega

set_option maxHeartbeats 2000000 in
set_option maxRecDepth 100000 in
theorem rot_any (w : World) (g o : Nat) (L X Y R : List Ent) (N cap : Nat) (cv : Value) (h : EOwn w g o (L ++ (X ++ (Y ++ R)))) (hN : (L ++ (X ++ (Y ++ R))).length = N) (hx : X ≠ []) (hy : Y ≠ []) (hl : N ≤ 1000000) :
    Calls Tryz.prog 245 #[.slice (some ⟨g, o, none⟩) N cap, .int .i64 (L.length : Int), .int .i64 ((L.length + X.length : Nat) : Int), .int .i64 ((L.length + X.length + Y.length : Nat) : Int), cv] w fun e w' => e = .returned (.tuple #[]) ∧ At w g o (L ++ (Y ++ (X ++ R))) w' := by
  have H0 := hid (At.start h)
  have hx1 := List.length_pos_iff.2 hx
  have hy1 := List.length_pos_iff.2 hy
  obtain ⟨F, hF⟩ : ∃ F, L ++ (Y ++ (X ++ R)) = F := ⟨_, rfl⟩
  obtain ⟨D, hD⟩ : ∃ D, L ++ (X ++ (Y ++ R)) = D := ⟨_, rfl⟩
  have HR0 : Hid (RotSt (L.length + X.length) X.length Y.length F D) := ⟨L, X, Y, R, rfl, rfl, rfl, hD.symm, hF.symm⟩
  rw [hF]
  rw [hD] at H0 hN
  clear hF hD h hx hy
  obtain ⟨a, ha⟩ : ∃ a, L.length = a := ⟨_, rfl⟩
  obtain ⟨m, hm⟩ : ∃ m, L.length + X.length = m := ⟨_, rfl⟩
  obtain ⟨b, hb⟩ : ∃ b, L.length + X.length + Y.length = b := ⟨_, rfl⟩
  obtain ⟨i0, hi0⟩ : ∃ i0, X.length = i0 := ⟨_, rfl⟩
  obtain ⟨j0, hj0⟩ : ∃ j0, Y.length = j0 := ⟨_, rfl⟩
  rw [hm, hi0, hj0] at HR0
  have h1 : m - a = i0 ∧ b - m = j0 ∧ 0 < i0 ∧ 0 < j0 ∧ a < m ∧ m < b := by omega
  have hFl : F.length = N := by rw [← HR0.out.len.2.2, hN]
  have hbN : b ≤ N := by have := HR0.out.len.2.1; omega
  rw [hb, hm, ha]
  clear ha hm hb hi0 hj0 hx1 hy1 hN
  obtain ⟨h1, h2, h3, h4, h5, h6⟩ := h1
  have hwi : IntKind.i64.wrap ((m : Int) - (a : Int)) = (i0 : Int) := by rw [IntKind.wrap_i64]; omega
  have hwj : IntKind.i64.wrap ((b : Int) - (m : Int)) = (j0 : Int) := by rw [IntKind.wrap_i64]; omega
  have HFl := hid hFl
  have HSW := hid (fun V (D : List Ent) (a b n : Nat) (h : EOwn V g o D) (hD : D.length = N) (ha : a + n ≤ b) (hb : b + n ≤ N) => by have := swapR_any V g o D cap a b n cv h (by omega) (by omega) ha (by omega); rw [hD] at this; exact this)
  clear hFl
  go_enter Tryz.func245, Tryz.ntmps245
  go_wp2_with fail
  go_loopw [10, 11] (fun x y wr => ∃ (i j : Nat) (D : List Ent), x = .int .i64 (i : Int) ∧ y = .int .i64 (j : Int) ∧ 0 < i ∧ 0 < j ∧ Hid (RotSt m i j F D ∧ At w g o D wr)) (fun x y _ => (intOf x).toNat + (intOf y).toNat)
  case atStart => exact ⟨i0, j0, D, rfl, rfl, h3, h4, HR0.out, H0.out⟩
  case round =>
    obtain ⟨i, j, D, rfl, rfl, hi, hj, HS⟩ := hrel
    obtain ⟨hR, hA⟩ := HS.out
    have hlen := hR.len
    have hFl := HFl.out
    have hwm : IntKind.i64.wrap ((m : Int) - (i : Int)) = ((m - i : Nat) : Int) := by rw [IntKind.wrap_i64]; omega
    by_cases hij : i = j
    · subst hij
      have HC := hid (HSW.out wr D (m - i) m i hA.2 (by omega) (by omega) (by omega))
      rw [hR.eq] at HC
      have HAA := hid hA
      clear hR hA hlen hFl HS
      go_wp2_with fail
      refine HC.out.mono ?_
      rintro e w2 ⟨rfl, h2⟩
      have H2 := hid (HAA.out.next h2)
      clear h2
      go_wp2_with fail
      go_end0
      exact ⟨rfl, H2.out⟩
    · have hne : ¬ ((i : Int) = (j : Int)) := by omega
      by_cases hg : j < i
      · have hgI : (j : Int) < (i : Int) := by omega
        have HC := hid (HSW.out wr D (m - i) m j hA.2 (by omega) (by omega) (by omega))
        have HAA := hid hA
        have HRR := hid (hR.gt hg)
        have hwd : IntKind.i64.wrap ((i : Int) - (j : Int)) = ((i - j : Nat) : Int) := by rw [IntKind.wrap_i64]; omega
        clear hR hA hlen hFl HS
        go_wp2_with fail
        refine HC.out.mono ?_
        rintro e w2 ⟨rfl, h2⟩
        have H2 := hid (HAA.out.next h2)
        clear h2
        go_wp2_with fail
        go_round
        case rel => exact ⟨i - j, j, _, rfl, rfl, by omega, by omega, HRR.out, H2.out⟩
        case measure => simp [intOf]; omega
      · have hgI : ¬ (j : Int) < (i : Int) := by omega
        have HC := hid (HSW.out wr D (m - i) (m + j - i) i hA.2 (by omega) (by omega) (by omega))
        have HAA := hid hA
        have HRR := hid (hR.lt (by omega))
        have hwd : IntKind.i64.wrap ((j : Int) - (i : Int)) = ((j - i : Nat) : Int) := by rw [IntKind.wrap_i64]; omega
        obtain ⟨q, hq⟩ : ∃ q, m + j = q := ⟨_, rfl⟩
        obtain ⟨t, ht⟩ : ∃ t, m + j - i = t := ⟨_, rfl⟩
        have hws : IntKind.i64.wrap ((m : Int) + (j : Int)) = (q : Int) := by rw [IntKind.wrap_i64]; omega
        have hwt : IntKind.i64.wrap ((q : Int) - (i : Int)) = (t : Int) := by rw [IntKind.wrap_i64]; omega
        rw [ht] at HC HRR
        clear hq ht
        clear hR hA hlen hFl HS
        go_wp2_with fail
        refine HC.out.mono ?_
        rintro e w2 ⟨rfl, h2⟩
        have H2 := hid (HAA.out.next h2)
        clear h2
        go_wp2_with fail
        go_round
        case rel => exact ⟨i, j - i, _, rfl, rfl, by omega, by omega, HRR.out, H2.out⟩
        case measure => simp [intOf]; omega
end Go.Proofs.YthmimipoooemjaaGreatDoor.Sg
end

section
/-
  How the names of two entries stand: compare, walked.
-/
namespace Go.Proofs.YthmimipoooemjaaGreatDoor.Sg
open Go.RowKit
open Sim (hid Kp No)

/-- Bytes in their order. -/
def lexB : List Int → List Int → Bool
  | [], [] => false
  | [], _ :: _ => true
  | _ :: _, [] => false
  | x :: xs, y :: ys => if x < y then true else if y < x then false else lexB xs ys
theorem lexB_irr : ∀ x, lexB x x = false
  | [] => rfl
  | x :: xs => by simp [lexB, lexB_irr xs]
theorem lexB_tot : ∀ x y, x ≠ y → lexB x y = true ∨ lexB y x = true
  | [], [], h => absurd rfl h
  | [], _ :: _, _ => .inl rfl
  | _ :: _, [], _ => .inr rfl
  | x :: xs, y :: ys, h => by
    by_cases h1 : x < y
    · exact .inl (by simp [lexB, h1])
    · by_cases h2 : y < x
      · exact .inr (by simp [lexB, h2])
      · have e : x = y := by omega
        subst e
        rcases lexB_tot xs ys (fun e => h (by rw [e])) with h3 | h3
        · exact .inl (by simp [lexB, h3])
        · exact .inr (by simp [lexB, h3])
theorem lexB_trans : ∀ x y z, lexB x y = true → lexB y z = true → lexB x z = true
  | [], [], _, h, _ => by simp [lexB] at h
  | [], _ :: _, [], _, h => by simp [lexB] at h
  | [], _ :: _, _ :: _, _, _ => rfl
  | _ :: _, [], _, h, _ => by simp [lexB] at h
  | _ :: _, _ :: _, [], _, h => by simp [lexB] at h
  | x :: xs, y :: ys, z :: zs, h1, h2 => by
    simp only [lexB] at h1 h2 ⊢
    by_cases a1 : x < y
    · by_cases a2 : y < z
      · rw [if_pos (by omega)]
      · rw [if_neg a2] at h2
        by_cases a3 : z < y
        · rw [if_pos a3] at h2; cases h2
        · rw [if_pos (by omega)]
    · rw [if_neg a1] at h1
      by_cases a2 : y < x
      · rw [if_pos a2] at h1; cases h1
      · rw [if_neg a2] at h1
        have e : x = y := by omega
        subst e
        by_cases a3 : x < z
        · rw [if_pos a3]
        · rw [if_neg a3] at h2 ⊢
          by_cases a4 : z < x
          · rw [if_pos a4] at h2; cases h2
          · rw [if_neg a4] at h2 ⊢
            exact lexB_trans xs ys zs h1 h2
theorem lexOrd : Stb.Ord lexB := ⟨lexB_irr, lexB_trans, lexB_tot⟩

/-- How two stand. -/
def cmpE (a b : List Int) : Int := if lexB a b then -1 else if lexB b a then 1 else 0
theorem cmpE_neg (a b : List Int) : cmpE a b < 0 ↔ lexB a b = true := by
  unfold cmpE
  cases lexB a b <;> cases lexB b a <;> decide
theorem cmpE_zero (a b : List Int) : cmpE a b = 0 ↔ a = b := by
  unfold cmpE
  by_cases e : a = b
  · subst e
    simp [lexB_irr]
  · rcases lexB_tot a b e with h | h
    · simp [h, e]
    · have h2 := lexOrd.asym h
      simp [h, h2, e]
theorem cmp_bytes : ∀ (a b : List Int), (∀ x ∈ a, 0 ≤ x ∧ x ≤ 255) → (∀ x ∈ b, 0 ≤ x ∧ x ≤ 255) → Lib.compareBytes (Lib.bytesOf a) (Lib.bytesOf b) = cmpE a b
  | [], [], _, _ => rfl
  | [], _ :: _, _, _ => rfl
  | _ :: _, [], _, _ => rfl
  | x :: xs, y :: ys, hx, hy => by
    have h1 := hx x (by simp)
    have h2 := hy y (by simp)
    have ih := cmp_bytes xs ys (fun z hz => hx z (by simp [hz])) (fun z hz => hy z (by simp [hz]))
    have e : UInt8.ofNat x.toNat < UInt8.ofNat y.toNat ↔ x < y := by
      rw [UInt8.lt_iff_toNat_lt]
      simp
      omega
    have e' : UInt8.ofNat y.toNat < UInt8.ofNat x.toNat ↔ y < x := by
      rw [UInt8.lt_iff_toNat_lt]
      simp
      omega
    have e1 : Lib.bytesOf (x :: xs) = UInt8.ofNat x.toNat :: Lib.bytesOf xs := rfl
    have e2 : Lib.bytesOf (y :: ys) = UInt8.ofNat y.toNat :: Lib.bytesOf ys := rfl
    rw [e1, e2, Lib.compareBytes]
    simp only [e, e', ih, cmpE, lexB]
    by_cases hlt : x < y
    · simp [hlt]
    · by_cases hgt : y < x
      · simp [hlt, hgt]
      · simp [hlt, hgt]

theorem run_bytesOf {P : Program} (w : World) (g c : Nat) (a : List Int) (h : w.rangeAt g 0 (b8 a)) :
    (Extern.Bytes.bytesOf (.slice (some ⟨g, 0, none⟩) a.length c)).run P w = .ok ⟨(Lib.bytesOf a).toArray⟩ w := by
  have hl := Lib.run_loadBytesX (P := P) w a ⟨g, 0, none⟩ .empty (fun j x hj => by
    rw [Addr.add_mid]
    exact h j _ (by rw [b8, List.getElem?_map, hj]; rfl))
  have he : (⟨ByteArray.empty.data ++ (Lib.bytesOf a).toArray⟩ : ByteArray) = ⟨(Lib.bytesOf a).toArray⟩ := by
    apply ByteArray.ext
    show (#[] : Array UInt8) ++ (Lib.bytesOf a).toArray = (Lib.bytesOf a).toArray
    simp
  rw [he] at hl
  exact hl

theorem run_cmp {P : Program} (w : World) (g1 g2 k1 k2 : Nat) (a b : List Int) (h1 : w.rangeAt g1 0 (b8 a)) (h2 : w.rangeAt g2 0 (b8 b)) (ha : ∀ x ∈ a, 0 ≤ x ∧ x ≤ 255) (hb : ∀ x ∈ b, 0 ≤ x ∧ x ≤ 255) :
    (Extern.BytealgCompare.compare #[.slice (some ⟨g1, 0, none⟩) a.length k1, .slice (some ⟨g2, 0, none⟩) b.length k2]).run P w = .ok (.int .i64 (cmpE a b)) w := by
  change Sem.run P (do pure (goInt (Extern.BytealgCompare.cmp (← Extern.Bytes.bytesOf (.slice (some ⟨g1, 0, none⟩) a.length k1)) (← Extern.Bytes.bytesOf (.slice (some ⟨g2, 0, none⟩) b.length k2))))) w = _
  simp only [Sem.run_bind, Sem.run_pure, run_bytesOf w g1 k1 a h1, run_bytesOf w g2 k2 b h2, Result.andThen]
  rw [Lib.cmp_eq, cmp_bytes a b ha hb]
  rfl

theorem bcompare_any (g1 g2 : Nat) (a b : List Int) (w : World) (h1 : w.rangeAt g1 0 (b8 a)) (h2 : w.rangeAt g2 0 (b8 b)) (ha : a.length = 32) (hb : b.length = 32) (ha' : ∀ x ∈ a, 0 ≤ x ∧ x ≤ 255) (hb' : ∀ x ∈ b, 0 ≤ x ∧ x ≤ 255) :
    Calls Tryz.prog 212 #[.slice (some ⟨g1, 0, none⟩) 32 32, .slice (some ⟨g2, 0, none⟩) 32 32] w fun e w' => e = .returned (.int .i64 (cmpE a b)) ∧ w' = w := by
  have hr := run_cmp (P := Tryz.prog) w g1 g2 32 32 a b h1 h2 ha' hb'
  rw [ha, hb] at hr
  have hc : (callFunc 244 #[.slice (some ⟨g1, 0, none⟩) 32 32, .slice (some ⟨g2, 0, none⟩) 32 32]).run Tryz.prog w = .ok (.value (.int .i64 (cmpE a b))) w := by
    rw [run_callFunc_extern Tryz.func244 (by kernel_rfl) (by kernel_rfl) (by kernel_rfl) (e := Extern.BytealgCompare.compare) (by kernel_rfl), hr]
    rfl
  clear hr h1 h2 ha hb ha' hb'
  go_enter Tryz.func212, Tryz.ntmps212
  go_wp2_with fail
  go_ret
  exact ⟨rfl, rfl⟩

theorem rng_new (w : World) (C : List Value) (ty : TypeId) : (w.alloc (.cells C.toArray ty)).rangeAt w.heap.size 0 C := fun j v hv => by
  rw [Nat.zero_add, World.cell?_alloc_at _ _ _ _ rfl]
  simpa using hv

set_option maxHeartbeats 1000000 in
set_option maxRecDepth 100000 in
theorem shaCompare_any (a b : List Int) (w : World) (ha : a.length = 32) (hb : b.length = 32) (ha' : ∀ x ∈ a, 0 ≤ x ∧ x ≤ 255) (hb' : ∀ x ∈ b, 0 ≤ x ∧ x ≤ 255) :
    Calls Tryz.prog 173 #[.agg (b8 a).toArray, .agg (b8 b).toArray] w fun e w' => e = .returned (.int .i64 (cmpE a b)) ∧ Below w.heap.size w w' := by
  have HC : Hid (∀ W, W.rangeAt w.heap.size 0 (b8 a) → W.rangeAt (w.heap.size + 1) 0 (b8 b) → Calls Tryz.prog 212 #[.slice (some ⟨w.heap.size, 0, none⟩) 32 32, .slice (some ⟨w.heap.size + 1, 0, none⟩) 32 32] W fun e w' => e = .returned (.int .i64 (cmpE a b)) ∧ w' = W) := fun W h1 h2 => bcompare_any w.heap.size (w.heap.size + 1) a b W h1 h2 ha hb ha' hb'
  obtain ⟨ca, hca⟩ : ∃ c, b8 a = c := ⟨_, rfl⟩
  obtain ⟨cb, hcb⟩ : ∃ c, b8 b = c := ⟨_, rfl⟩
  have HCA := hid hca
  have HCB := hid hcb
  rw [hca, hcb]
  rw [hca, hcb] at HC
  clear hca hcb ha hb ha' hb'
  go_enter Tryz.func173, Tryz.ntmps173
  go_wp2_with fail
  obtain ⟨W1, hW1⟩ : ∃ W1, (w.alloc (.cells ca.toArray 53)).alloc (.cells cb.toArray 53) = W1 := ⟨_, rfl⟩
  have HW : Hid (W1.rangeAt w.heap.size 0 ca ∧ W1.rangeAt (w.heap.size + 1) 0 cb ∧ Below w.heap.size w W1) := by
    rw [Hid, ← hW1]
    refine ⟨World.rangeAt_alloc (rng_new _ _ _) _, ?_, ((Below.refl _ _).alloc (Nat.le_refl _) _).alloc (by simp) _⟩
    have h := rng_new (w.alloc (.cells ca.toArray 53)) cb 53
    simpa using h
  rw [hW1]
  clear hW1
  have HD : Hid (Calls Tryz.prog 212 #[.slice (some ⟨w.heap.size, 0, none⟩) 32 32, .slice (some ⟨w.heap.size + 1, 0, none⟩) 32 32] W1.drew fun e w' => e = .returned (.int .i64 (cmpE a b)) ∧ w' = W1.drew) := HC.out W1.drew HW.out.1 HW.out.2.1
  go_region_with (go_at_call 212; refine HD.out.mono ?_; rintro e w3 ⟨rfl, hw3⟩; subst hw3)
  go_wp2_with fail
  go_ret
  exact ⟨rfl, HW.out.2.2.drew⟩

theorem rng_name {w : World} {g o : Nat} {e : Ent} (h : w.rangeAt g o (entC e)) : w.rangeAt g o (b8 e.1) := fun j u hj => h j u (by
  have hlt := (List.getElem?_eq_some_iff.1 hj).1
  rw [entC, List.getElem?_append_left hlt]
  exact hj)
theorem infH : (Tryz.prog.info? 53).map (·.size) = some 32 := by kernel_rfl

set_option maxHeartbeats 1000000 in
set_option maxRecDepth 100000 in
theorem compare_any (x y : Ent) (w : World) (hx : EOk x) (hy : EOk y) :
    Calls Tryz.prog 133 #[.agg (entC x).toArray, .agg (entC y).toArray] w fun e w' => e = .returned (.int .i64 (cmpE x.1 y.1)) ∧ Below w.heap.size w w' := by
  have HC := hid (fun W => shaCompare_any x.1 y.1 W hx.1 hy.1 hx.2 hy.2)
  have HR : Hid (∀ V, Below (w.heap.size + 2) ((w.alloc (.cells (entC x).toArray 155)).alloc (.cells (entC y).toArray 155)) V → V.rangeAt w.heap.size 0 (b8 x.1) ∧ V.rangeAt (w.heap.size + 1) 0 (b8 y.1)) := fun V hV => by
    have h1 := rng_name (World.rangeAt_alloc (rng_new w (entC x) 155) (.cells (entC y).toArray 155))
    have h2 := rng_name (rng_new (w.alloc (.cells (entC x).toArray 155)) (entC y) 155)
    have e : (w.alloc (.cells (entC x).toArray 155)).heap.size = w.heap.size + 1 := by simp
    rw [e] at h2
    exact ⟨fun j v hv => (hV.cell (p := ⟨w.heap.size, _, none⟩) (by show w.heap.size < _; omega)).trans (h1 j v hv), fun j v hv => (hV.cell (p := ⟨w.heap.size + 1, _, none⟩) (by show w.heap.size + 1 < _; omega)).trans (h2 j v hv)⟩
  have HI1 : Hid ((Tryz.prog.info? 53).map (·.size) = some (b8 x.1).length) := by rw [Hid, b8_length, hx.1]; exact infH
  have HI2 : Hid ((Tryz.prog.info? 53).map (·.size) = some (b8 y.1).length) := by rw [Hid, b8_length, hy.1]; exact infH
  generalize entC x = X at *
  generalize entC y = Y at *
  generalize b8 x.1 = bx at *
  generalize b8 y.1 = bY at *
  obtain ⟨z, hz⟩ : ∃ z, cmpE x.1 y.1 = z := ⟨_, rfl⟩
  rw [hz] at HC ⊢
  clear hz hx hy
  have HBB : Hid (Below w.heap.size w ((w.alloc (.cells X.toArray 155)).alloc (.cells Y.toArray 155))) := ((Below.refl _ _).alloc (Nat.le_refl _) _).alloc (by simp) _
  go_enter Tryz.func133, Tryz.ntmps133
  generalize hW : (w.alloc (.cells X.toArray 155)).alloc (.cells Y.toArray 155) = W at *
  go_wp2_with (first
    | (refine wpList_load_mid (by rfl) 53 _ (by rfl) w.heap.size 0 (by rfl) bx _ (HR.out _ (Below.refl _ _)).1 Tryz.underlying53 rfl HI1.out ?_)
    | (refine wpList_load_mid (by rfl) 53 _ (by rfl) (w.heap.size + 1) 0 (by rfl) bY _ (HR.out _ (Below.refl _ _)).2 Tryz.underlying53 rfl HI2.out ?_)
    | (go_at_call 173; refine (HC.out _).mono ?_; rintro e w2 ⟨rfl, h2⟩; have H2 := hid h2; clear h2))
  go_ret
  exact ⟨rfl, HBB.out.trans (H2.out.mono HBB.out.size)⟩
end Go.Proofs.YthmimipoooemjaaGreatDoor.Sg
end
