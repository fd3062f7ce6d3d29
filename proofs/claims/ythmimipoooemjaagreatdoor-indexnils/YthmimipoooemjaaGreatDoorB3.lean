/- Of the proof: the texts SgStabM, SgRow, SgSwap, SgRot, SgCmp, SgIns, SgSymA, SgSymB, SgSymC, one behind the other. -/
import Derived.Sort.KeysCollected
import Derived.Test.YthmimipoooemjaaGreatDoorB1
import Derived.Deep.MidRow
import Derived.Deep.RegionHeld3
import Derived.Lib.BytesEntry
import Derived.Deep.RegionWith
import Derived.BigRegion
import Derived.Deep.DeepCutAuto
section
/-
  Plain mathematics of a stable sort: rows of things with keys; inserting, rotating and merging in place keep, of each key, the order.
-/
namespace Go.Proofs.YthmimipoooemjaaGreatDoor.Stb

/-- Keys: bytes. -/
abbrev κ : Type := List Int
section
variable {α : Type} (key : α → κ) (lt : κ → κ → Bool)

/-- A strict order of all keys. -/
structure Ord : Prop where
  irr : ∀ x, lt x x = false
  trans : ∀ x y z, lt x y = true → lt y z = true → lt x z = true
  tot : ∀ x y, x ≠ y → lt x y = true ∨ lt y x = true

/-- Of each key the same, in the same order. -/
def Stab (l m : List α) : Prop := ∀ k, m.filter (fun x => decide (key x = k)) = l.filter (fun x => decide (key x = k))
/-- None stands behind a greater one. -/
def Srt (l : List α) : Prop := l.Pairwise (fun x y => lt (key y) (key x) = false)
/-- All of the first stand ahead of all of the second. -/
def Lts (l m : List α) : Prop := ∀ x ∈ l, ∀ y ∈ m, lt (key x) (key y) = true
/-- None of the second stands ahead of one of the first. -/
def Les (l m : List α) : Prop := ∀ x ∈ l, ∀ y ∈ m, lt (key y) (key x) = false
end

section
variable {α : Type} {key : α → κ} {lt : κ → κ → Bool}

theorem Ord.asym (h : Ord lt) {x y : κ} (hx : lt x y = true) : lt y x = false := by
  cases hy : lt y x with
  | false => rfl
  | true => have := h.trans _ _ _ hx hy; rw [h.irr] at this; cases this
/-- x ≤ y < z. -/
theorem Ord.le_lt (h : Ord lt) {x y z : κ} (h1 : lt y x = false) (h2 : lt y z = true) : lt x z = true := by
  by_cases e : x = y
  · rw [e]; exact h2
  · rcases h.tot x y e with h3 | h3
    · exact h.trans _ _ _ h3 h2
    · rw [h1] at h3; cases h3
theorem Ord.lt_le (h : Ord lt) {x y z : κ} (h1 : lt x y = true) (h2 : lt z y = false) : lt x z = true := by
  by_cases e : y = z
  · rw [← e]; exact h1
  · rcases h.tot y z e with h3 | h3
    · exact h.trans _ _ _ h1 h3
    · rw [h2] at h3; cases h3
theorem Ord.le_le (h : Ord lt) {x y z : κ} (h1 : lt y x = false) (h2 : lt z y = false) : lt z x = false := by
  cases hz : lt z x with
  | false => rfl
  | true => have := h.lt_le hz h1; rw [h2] at this; cases this

theorem Stab.refl (l : List α) : Stab key l l := fun _ => rfl
theorem Stab.trans {a b c : List α} (h : Stab key a b) (h2 : Stab key b c) : Stab key a c := fun k => (h2 k).trans (h k)
theorem Stab.append {a b c d : List α} (h : Stab key a b) (h2 : Stab key c d) : Stab key (a ++ c) (b ++ d) := fun k => by rw [List.filter_append, List.filter_append, h k, h2 k]
theorem Stab.mem {a b : List α} (h : Stab key a b) (x : α) : x ∈ b ↔ x ∈ a := by
  have h1 := h (key x)
  have e : ∀ l : List α, x ∈ l ↔ x ∈ l.filter (fun y => decide (key y = key x)) := fun l => by rw [List.mem_filter]; simp
  rw [e b, e a, h1]
theorem Stab.length {a b : List α} (h : Stab key a b) : b.length = a.length := by
  induction a generalizing b with
  | nil =>
    cases b with
    | nil => rfl
    | cons x b =>
      have := (h.mem x).1 List.mem_cons_self
      simp at this
  | cons x a ih =>
    have hx : x ∈ b := (h.mem x).2 List.mem_cons_self
    obtain ⟨s, t, e, hns⟩ : ∃ s t, b = s ++ x :: t ∧ ∀ y ∈ s, key y ≠ key x := by
      have hk := h (key x)
      rw [List.filter_cons, if_pos (by simp)] at hk
      have : ∀ (b : List α) (r : List α), b.filter (fun y => decide (key y = key x)) = x :: r → ∃ s t, b = s ++ x :: t ∧ ∀ y ∈ s, key y ≠ key x := by
        intro b
        induction b with
        | nil => intro r hr; simp at hr
        | cons y b ihb =>
          intro r hr
          rw [List.filter_cons] at hr
          by_cases hy : key y = key x
          · rw [if_pos (by simp [hy])] at hr
            simp only [List.cons.injEq] at hr
            exact ⟨[], b, by rw [hr.1]; rfl, fun _ h => by cases h⟩
          · rw [if_neg (by simp [hy])] at hr
            obtain ⟨s, t, e1, e2⟩ := ihb r hr
            refine ⟨y :: s, t, by rw [e1]; rfl, fun z hz => ?_⟩
            rcases List.mem_cons.1 hz with rfl | hz
            · exact hy
            · exact e2 z hz
      exact this b _ hk
    subst e
    have h2 : Stab key a (s ++ t) := fun k => by
      have hk := h k
      rw [List.filter_append, List.filter_cons, List.filter_cons] at hk
      rw [List.filter_append]
      by_cases hxk : key x = k
      · have hs : s.filter (fun y => decide (key y = k)) = [] := List.filter_eq_nil_iff.2 (fun y hy => by simp; rw [← hxk]; exact hns y hy)
        rw [if_pos (by simp [hxk]), if_pos (by simp [hxk]), hs, List.nil_append] at hk
        rw [hs, List.nil_append]
        exact (List.cons.inj hk).2
      · rw [if_neg (by simp [hxk]), if_neg (by simp [hxk])] at hk
        exact hk
    have := ih h2
    simp only [List.length_append, List.length_cons] at this ⊢
    omega
/-- Two that stand side by side, each thing of the second ahead of each of the first, are turned about. -/
theorem Stab.swap {a b : List α} (h : Ord lt) (hl : Lts key lt b a) : Stab key (a ++ b) (b ++ a) := fun k => by
  rw [List.filter_append, List.filter_append]
  by_cases ha : a.filter (fun y => decide (key y = k)) = []
  · rw [ha]; simp
  · have hb : b.filter (fun y => decide (key y = k)) = [] := by
      rw [List.filter_eq_nil_iff]
      intro y hy
      obtain ⟨x, hx1⟩ := List.exists_mem_of_ne_nil _ ha
      obtain ⟨hx, hxk⟩ := List.mem_filter.1 hx1
      simp only [decide_eq_true_eq] at hxk
      intro hyk
      have h1 := hl y hy x hx
      simp only [decide_eq_true_eq] at hyk
      rw [hyk, hxk, h.irr] at h1
      cases h1
    rw [hb]; simp

theorem Srt.append {a b : List α} : Srt key lt (a ++ b) ↔ Srt key lt a ∧ Srt key lt b ∧ Les key lt a b := by
  unfold Srt Les
  rw [List.pairwise_append]
theorem Les.of_stab {a a' b b' : List α} (h : Les key lt a b) (ha : Stab key a a') (hb : Stab key b b') : Les key lt a' b' := fun x hx y hy => h x ((ha.mem x).1 hx) y ((hb.mem y).1 hy)
/-! ### A merge in place -/
/-- What a merge of two sorted rows makes. -/
def Mrg (key : α → κ) (lt : κ → κ → Bool) (a b m : List α) : Prop := Stab key (a ++ b) m ∧ Srt key lt m
/-- Cut both so that the first parts stand ahead of the second ones, turn the middle about, and merge each half. -/
theorem Mrg.halves (h : Ord lt) {a1 a2 b1 b2 m1 m2 : List α} (hl : Lts key lt b1 a2) (hg : Les key lt a1 b2) (sa : Srt key lt (a1 ++ a2)) (sb : Srt key lt (b1 ++ b2)) (h1 : Mrg key lt a1 b1 m1) (h2 : Mrg key lt a2 b2 m2) : Mrg key lt (a1 ++ a2) (b1 ++ b2) (m1 ++ m2) := by
  obtain ⟨t1, s1⟩ := h1
  obtain ⟨t2, s2⟩ := h2
  refine ⟨?_, Srt.append.2 ⟨s1, s2, ?_⟩⟩
  · have e1 : Stab key ((a1 ++ a2) ++ (b1 ++ b2)) ((a1 ++ b1) ++ (a2 ++ b2)) := by
      have := ((Stab.refl (key := key) a1).append (Stab.swap h hl)).append (Stab.refl (key := key) b2)
      simpa [List.append_assoc] using this
    exact e1.trans (t1.append t2)
  · have k1 := (Srt.append.1 sa).2.2
    have k2 := (Srt.append.1 sb).2.2
    refine Les.of_stab (a := a1 ++ b1) (b := a2 ++ b2) ?_ t1 t2
    intro x hx y hy
    rcases List.mem_append.1 hx with hx | hx <;> rcases List.mem_append.1 hy with hy | hy
    · exact k1 x hx y hy
    · exact hg x hx y hy
    · exact h.asym (hl x hx y hy)
    · exact k2 x hx y hy
/-- One, put into the others: behind all that stand ahead of it. -/
theorem Mrg.one_first (h : Ord lt) {x : α} {b1 b2 : List α} (hl : ∀ y ∈ b1, lt (key y) (key x) = true) (hg : ∀ y ∈ b2, lt (key y) (key x) = false) (sb : Srt key lt (b1 ++ b2)) : Mrg key lt [x] (b1 ++ b2) (b1 ++ x :: b2) := by
  obtain ⟨s1, s2, s3⟩ := Srt.append.1 sb
  refine ⟨?_, Srt.append.2 ⟨s1, List.pairwise_cons.2 ⟨hg, s2⟩, ?_⟩⟩
  · have := (Stab.swap (key := key) (a := [x]) (b := b1) h (fun y hy z hz => by rw [List.mem_singleton.1 hz]; exact hl y hy)).append (Stab.refl (key := key) b2)
    simpa using this
  · intro y hy z hz
    rcases List.mem_cons.1 hz with rfl | hz
    · exact h.asym (hl y hy)
    · exact s3 y hy z hz
theorem Mrg.one_last (h : Ord lt) {x : α} {a1 a2 : List α} (hl : ∀ y ∈ a1, lt (key x) (key y) = false) (hg : ∀ y ∈ a2, lt (key x) (key y) = true) (sa : Srt key lt (a1 ++ a2)) : Mrg key lt (a1 ++ a2) [x] (a1 ++ x :: a2) := by
  obtain ⟨s1, s2, s3⟩ := Srt.append.1 sa
  refine ⟨?_, Srt.append.2 ⟨s1, List.pairwise_cons.2 ⟨fun y hy => h.asym (hg y hy), s2⟩, ?_⟩⟩
  · have := (Stab.refl (key := key) a1).append (Stab.swap (key := key) (a := a2) (b := [x]) h (fun y hy z hz => by rw [List.mem_singleton.1 hy]; exact hg z hz))
    simpa [List.append_assoc] using this
  · intro y hy z hz
    rcases List.mem_cons.1 hz with rfl | hz
    · exact hl y hy
    · exact s3 y hy z hz
end
end Go.Proofs.YthmimipoooemjaaGreatDoor.Stb
end

section
/-
  Entries in memory: 35 cells each, one behind the other in a block.
-/
namespace Go.Proofs.YthmimipoooemjaaGreatDoor.Sg
open Go.RowKit
open Sim (hid Kp No)

/-- An entry: the name's bytes, and the place. -/
abbrev Ent : Type := List Int × Int × Int × Int
def b8 (xs : List Int) : List Value := xs.map (Value.int .u8)
theorem b8_length (xs : List Int) : (b8 xs).length = xs.length := by simp [b8]
theorem b8_one (xs : List Int) : ∀ v ∈ b8 xs, v.oneCell' = true := by intro v hv; obtain ⟨x, _, rfl⟩ := List.mem_map.1 hv; rfl
def entC (e : Ent) : List Value := b8 e.1 ++ [.int .i64 e.2.1, .int .i64 e.2.2.1, .int .i64 e.2.2.2]
def EOk (e : Ent) : Prop := e.1.length = 32 ∧ ∀ x ∈ e.1, 0 ≤ x ∧ x ≤ 255
theorem entC_length {e : Ent} (h : EOk e) : (entC e).length = 35 := by simp [entC, b8_length, h.1]
theorem entC_one (e : Ent) : ∀ v ∈ entC e, v.oneCell' = true := by
  intro v hv
  rcases List.mem_append.1 hv with hv | hv
  · exact b8_one _ _ hv
  · simp at hv
    rcases hv with rfl | rfl | rfl <;> rfl
theorem info48 : (Tryz.prog.info? 155).map (·.size) = some 35 := by kernel_rfl
theorem inf {e : Ent} (h : EOk e) : (Tryz.prog.info? 155).map (·.size) = some (entC e).length := by rw [entC_length h]; exact info48
theorem infA {e : Ent} (h : EOk e) : (Tryz.prog.info? 155).map (·.size) = some (entC e).toArray.size := inf h

/-- Block g holds the entries d from o on, to be read. -/
def ERow (w : World) (g o : Nat) (d : List Ent) : Prop := g < w.heap.size ∧ ∀ i e, d[i]? = some e → EOk e ∧ w.rangeAt g (o + i * 35) (entC e)
/-- .. and to be written. -/
def EOwn (w : World) (g o : Nat) (d : List Ent) : Prop := ERow w g o d ∧ ∀ i, i < d.length → w.there g (o + i * 35) 35

theorem ERow.ok {w : World} {g o : Nat} {d : List Ent} (h : ERow w g o d) : ∀ e ∈ d, EOk e := fun e he => by
  obtain ⟨i, hi⟩ := List.mem_iff_getElem?.1 he
  exact (h.2 i e hi).1
theorem ERow.kp {L : Nat → Prop} {w w' : World} {g o : Nat} {d : List Ent} (h : ERow w g o d) (k : Kp L w w') (hg : ¬ L g) : ERow w' g o d :=
  ⟨Nat.lt_of_lt_of_le h.1 k.size, fun i e hi => ⟨(h.2 i e hi).1, fun j v hv => (k.cell (p := ⟨g, _, none⟩) h.1 hg).trans ((h.2 i e hi).2 j v hv)⟩⟩
theorem EOwn.kp {L : Nat → Prop} {w w' : World} {g o : Nat} {d : List Ent} (h : EOwn w g o d) (k : Kp L w w') (hg : ¬ L g) : EOwn w' g o d :=
  ⟨h.1.kp k hg, fun i hi j hj => by
    rw [k.cell (p := ⟨g, _, none⟩) h.1.1 hg, k.frozen (p := ⟨g, _, none⟩) h.1.1 hg]
    exact h.2 i hi j hj⟩
theorem EOwn.kept {w w' : World} {g o : Nat} {d : List Ent} (h : EOwn w g o d) (k : Kp No w w') : EOwn w' g o d := h.kp k (fun x => x)
theorem EOwn.there {w : World} {g o : Nat} {d : List Ent} (h : EOwn w g o d) {i : Nat} (hi : i < d.length) {e : Ent} (he : EOk e) : w.there g (o + i * 35) (entC e).toArray.size := by
  rw [List.size_toArray, entC_length he]
  exact h.2 i hi

theorem setCells_kp (w : World) (g o : Nat) (cs : List Value) : Kp (· = g) w (w.setCells g o cs) := by
  induction cs generalizing w o with
  | nil => exact Kp.refl _ _
  | cons c cs ih =>
    rw [World.setCells]
    exact (Kp.setCell (p := ⟨g, o, none⟩) (Kp.refl (· = g) w) (.inl rfl) c).trans (ih _ _) (fun x hx => .inl hx)
/-- One is written over. -/
theorem EOwn.set {w : World} {g o : Nat} {d : List Ent} (h : EOwn w g o d) {i : Nat} (hi : i < d.length) {e : Ent} (he : EOk e) : EOwn (w.setCells g (o + i * 35) (entC e)) g o (d.set i e) := by
  have hl := entC_length he
  refine ⟨⟨Nat.lt_of_lt_of_le h.1.1 (setCells_kp w g _ _).size, fun j x hx => ?_⟩, fun j hj => World.there_setCells (h.2 j (by simpa using hj)) _ _ _⟩
  by_cases hji : j = i
  · subst hji
    rw [List.getElem?_set_self hi] at hx
    simp only [Option.some.injEq] at hx
    subst hx
    exact ⟨he, World.rangeAt_setCells_same _ _ _ _ (by rw [hl]; exact h.2 j hi)⟩
  · rw [List.getElem?_set_ne (by omega)] at hx
    obtain ⟨h1, h2⟩ := h.1.2 j x hx
    refine ⟨h1, World.rangeAt_setCells_apart h2 _ _ _ (.inr ?_)⟩
    rw [entC_length h1, hl]
    omega
/-- In the midst of a call that writes block g alone: d is what stands there now. -/
def At (w : World) (g o : Nat) (d : List Ent) (wr : World) : Prop := Kp (· = g) w wr ∧ EOwn wr g o d
theorem At.start {w : World} {g o : Nat} {d : List Ent} (h : EOwn w g o d) : At w g o d w := ⟨Kp.refl _ _, h⟩
theorem At.kept {w wr w' : World} {g o : Nat} {d : List Ent} (h : At w g o d wr) (k : Kp No wr w') : At w g o d w' := ⟨h.1.andNone k, h.2.kept k⟩
theorem At.drew {w wr : World} {g o : Nat} {d : List Ent} (h : At w g o d wr) : At w g o d wr.drew := h.kept ((Kp.refl _ _).drew)
theorem At.next {w wr w' : World} {g o : Nat} {d d' : List Ent} (h : At w g o d wr) (k : At wr g o d' w') : At w g o d' w' := ⟨h.1.trans k.1 (fun _ hx => .inl hx), k.2⟩
theorem At.set {w wr : World} {g o : Nat} {d : List Ent} (h : At w g o d wr) {i : Nat} (hi : i < d.length) {e : Ent} (he : EOk e) : At w g o (d.set i e) (wr.setCells g (o + i * 35) (entC e)) :=
  ⟨h.1.trans (setCells_kp wr g _ _) (fun _ hx => .inl hx), h.2.set hi he⟩
theorem At.range {w wr : World} {g o : Nat} {d : List Ent} (h : At w g o d wr) {i : Nat} {e : Ent} (hi : d[i]? = some e) : EOk e ∧ wr.rangeAt g (o + i * 35) (entC e) := h.2.1.2 i e hi
end Go.Proofs.YthmimipoooemjaaGreatDoor.Sg
end

section
/-
  Ranges of entries that are swapped, and turned about.
-/
namespace Go.Proofs.YthmimipoooemjaaGreatDoor.Sg
open Go.RowKit
open Sim (hid Kp No)

def zEnt : Ent := ([], 0, 0, 0)
def swap2 (d : List Ent) (i j : Nat) : List Ent := (d.set i (d.getD j zEnt)).set j (d.getD i zEnt)
def swapN (d : List Ent) (a b : Nat) : Nat → List Ent
  | 0 => d
  | n + 1 => swap2 (swapN d a b n) (a + n) (b + n)
theorem swap2_length (d : List Ent) (i j : Nat) : (swap2 d i j).length = d.length := by simp [swap2]
theorem swapN_length (d : List Ent) (a b : Nat) : ∀ n, (swapN d a b n).length = d.length
  | 0 => rfl
  | n + 1 => by rw [swapN, swap2_length, swapN_length d a b n]
/-- Two are swapped: what is read, what is written, what stands there then. -/
theorem swap2_at {w wr : World} {g o : Nat} {d : List Ent} {i j : Nat} {x y : Ent} (h : At w g o d wr) (hx : d[i]? = some x) (hy : d[j]? = some y) :
    EOk x ∧ EOk y ∧ (∀ V, Kp No wr V → V.rangeAt g (o + i * 35) (entC x)) ∧ (∀ V, Kp No wr V → V.rangeAt g (o + j * 35) (entC y)) ∧ wr.drew.there g (o + i * 35) (entC y).toArray.size ∧
      (wr.drew.setCells g (o + i * 35) (entC y)).there g (o + j * 35) (entC x).toArray.size ∧ At w g o (swap2 d i j) ((wr.drew.setCells g (o + i * 35) (entC y)).setCells g (o + j * 35) (entC x)) := by
  have hi : i < d.length := (List.getElem?_eq_some_iff.1 hx).1
  have hj : j < d.length := (List.getElem?_eq_some_iff.1 hy).1
  obtain ⟨ox, _⟩ := h.range hx
  obtain ⟨oy, _⟩ := h.range hy
  have hd := h.drew
  have h1 := hd.set hi oy
  have h2 := h1.set (i := j) (by simpa using hj) ox
  refine ⟨ox, oy, fun V hV => ((h.kept hV).range hx).2, fun V hV => ((h.kept hV).range hy).2, hd.2.there hi oy, h1.2.there (by simpa using hj) ox, ?_⟩
  have e : swap2 d i j = (d.set i y).set j x := by rw [swap2, List.getD_eq_getElem?_getD, hy, List.getD_eq_getElem?_getD, hx]; rfl
  rw [e]
  exact h2

set_option maxHeartbeats 2000000 in
set_option maxRecDepth 100000 in
theorem swapR_any (w : World) (g o : Nat) (d : List Ent) (cap a b n : Nat) (cv : Value) (h : EOwn w g o d) (ha : a + n ≤ d.length) (hb : b + n ≤ d.length) (hab : a + n ≤ b) (hl : d.length ≤ 1000000) :
    Calls Tryz.prog 261 #[.slice (some ⟨g, o, none⟩) d.length cap, .int .i64 (a : Int), .int .i64 (b : Int), .int .i64 (n : Int), cv] w fun e w' => e = .returned (.tuple #[]) ∧ At w g o (swapN d a b n) w' := by
  have H0 := hid (At.start h)
  have HOK := hid h.1.ok
  have HG := hid h.1.1
  clear h
  obtain ⟨N, hN⟩ : ∃ N, d.length = N := ⟨_, rfl⟩
  have HN := hid hN
  rw [hN] at ha hb hl ⊢
  clear hN
  go_enter Tryz.func261, Tryz.ntmps261
  go_wp2_with fail
  go_loopw [10] (fun i wr => ∃ k : Nat, i = .int .i64 (k : Int) ∧ k ≤ n ∧ Hid (At w g o (swapN d a b k) wr)) (fun i _ => n - (intOf i).toNat)
  case atStart => exact ⟨0, rfl, Nat.zero_le _, H0.out⟩
  case round =>
    obtain ⟨k, rfl, hk, HA⟩ := hrel
    by_cases hlt : k < n
    · have hltI : (k : Int) < (n : Int) := by omega
      obtain ⟨i, hi⟩ : ∃ i, a + k = i := ⟨_, rfl⟩
      obtain ⟨j, hj⟩ : ∃ j, b + k = j := ⟨_, rfl⟩
      have hwi : IntKind.i64.wrap ((a : Int) + (k : Int)) = (i : Int) := by rw [IntKind.wrap_i64]; omega
      have hwj : IntKind.i64.wrap ((b : Int) + (k : Int)) = (j : Int) := by rw [IntKind.wrap_i64]; omega
      have hiN : i < N := by omega
      have hjN : j < N := by omega
      have hij : i < j := by omega
      have hiI : (i : Int) < (N : Int) := by omega
      have hjI : (j : Int) < (N : Int) := by omega
      obtain ⟨D, hD⟩ : ∃ D, swapN d a b k = D := ⟨_, rfl⟩
      have hDl : D.length = N := by rw [← hD, swapN_length, HN.out]
      have HS : Hid (swapN d a b (k + 1) = swap2 D i j) := by rw [Hid, swapN, hD, hi, hj]
      rw [hD] at HA
      obtain ⟨ex, hx⟩ : ∃ ex, D[i]? = some ex := ⟨_, List.getElem?_eq_getElem (by omega)⟩
      obtain ⟨ey, hy⟩ : ∃ ey, D[j]? = some ey := ⟨_, List.getElem?_eq_getElem (by omega)⟩
      have HRW := hid (swap2_at HA.out hx hy)
      obtain ⟨hox, hoy, hrx, hry, ht1, ht2, hfin⟩ := HRW.out
      rw [← HS.out] at hfin
      have HFIN := hid hfin
      have HT1 := hid ht1
      have HT2 := hid ht2
      have HIx := hid (inf hox)
      have HIy := hid (inf hoy)
      have HAx := hid (infA hox)
      have HAy := hid (infA hoy)
      have HOx := hid (all_oneCell_toArray (entC_one ex))
      have HOy := hid (all_oneCell_toArray (entC_one ey))
      have Hx := hid hrx
      have Hy := hid hry
      generalize entC ex = x at *
      generalize entC ey = y at *
      clear hi hj hiN hjN hij hD hDl hx hy hox hoy hrx hry ht1 ht2 hfin HRW HS HA
      go_wp2_with fail
      refine wp_region_held_drew (S := fun _ => True) (by kernel_rfl) trivial (fun hHeld => ?_)
      refine wpAnyH_take (i := 0) (oi := { dst := some 16, op := Op.move (Operand.tmp 0), type := 81, pos := "zsortanyfunc.go:331", after := #[], guard := none }) (v := .slice (some ⟨g, o, none⟩) N cap) rfl (by kernel_rfl) (by kernel_rfl) (by kernel_rfl) (fun _ _ _ h => h) (Or.inl ⟨by rfl, fun w' hw' => by (clear hw'; go_simp)⟩) hHeld ?_
      simp only [Act.put, List.setIfInBounds_toArray, List.set_cons_zero, List.set_cons_succ]
      refine wpAnyH_take (i := 1) (oi := { dst := some 17, op := Op.move (Operand.tmp 1), type := 3, pos := "zsortanyfunc.go:331", after := #[], guard := none }) (v := .int .i64 (a : Int)) rfl (by kernel_rfl) (by kernel_rfl) (by kernel_rfl) (fun _ _ _ h => h) (Or.inl ⟨by rfl, fun w' hw' => by (clear hw'; go_simp)⟩) hHeld ?_
      simp only [Act.put, List.setIfInBounds_toArray, List.set_cons_zero, List.set_cons_succ]
      refine wpAnyH_take (i := 2) (oi := { dst := some 18, op := Op.move (Operand.tmp 10), type := 3, pos := "zsortanyfunc.go:331", after := #[], guard := none }) (v := .int .i64 (k : Int)) rfl (by kernel_rfl) (by kernel_rfl) (by kernel_rfl) (fun _ _ _ h => h) (Or.inl ⟨by rfl, fun w' hw' => by (clear hw'; go_simp)⟩) hHeld ?_
      simp only [Act.put, List.setIfInBounds_toArray, List.set_cons_zero, List.set_cons_succ]
      refine wpAnyH_take (i := 3) (oi := { dst := some 19, op := Op.binOp BinOp.add 3 (Operand.tmp 17) (Operand.tmp 18) 3, type := 3, pos := "zsortanyfunc.go:331", after := #[{ on := 1, ground := Ground.data }, { on := 2, ground := Ground.data }], guard := none }) (v := .int .i64 (i : Int)) rfl (by kernel_rfl) (by kernel_rfl) (by kernel_rfl) (fun _ _ _ h => h) (Or.inl ⟨by rfl, fun w' hw' => by (clear hw'; go_simp)⟩) hHeld ?_
      simp only [Act.put, List.setIfInBounds_toArray, List.set_cons_zero, List.set_cons_succ]
      refine wpAnyH_take (i := 4) (oi := { dst := some 20, op := Op.move (Operand.tmp 0), type := 81, pos := "zsortanyfunc.go:331", after := #[{ on := 21, ground := Ground.gcOnly Departure.lateStores }], guard := none }) (v := .slice (some ⟨g, o, none⟩) N cap) rfl (by kernel_rfl) (by kernel_rfl) (by kernel_rfl) (fun _ _ _ h => h) (Or.inl ⟨by rfl, fun w' hw' => by (clear hw'; go_simp)⟩) hHeld ?_
      simp only [Act.put, List.setIfInBounds_toArray, List.set_cons_zero, List.set_cons_succ]
      refine wpAnyH_take (i := 5) (oi := { dst := some 21, op := Op.move (Operand.tmp 2), type := 3, pos := "zsortanyfunc.go:331", after := #[{ on := 21, ground := Ground.gcOnly Departure.lateStores }], guard := none }) (v := .int .i64 (b : Int)) rfl (by kernel_rfl) (by kernel_rfl) (by kernel_rfl) (fun _ _ _ h => h) (Or.inl ⟨by rfl, fun w' hw' => by (clear hw'; go_simp)⟩) hHeld ?_
      simp only [Act.put, List.setIfInBounds_toArray, List.set_cons_zero, List.set_cons_succ]
      refine wpAnyH_take (i := 6) (oi := { dst := some 22, op := Op.move (Operand.tmp 10), type := 3, pos := "zsortanyfunc.go:331", after := #[{ on := 21, ground := Ground.gcOnly Departure.lateStores }], guard := none }) (v := .int .i64 (k : Int)) rfl (by kernel_rfl) (by kernel_rfl) (by kernel_rfl) (fun _ _ _ h => h) (Or.inl ⟨by rfl, fun w' hw' => by (clear hw'; go_simp)⟩) hHeld ?_
      simp only [Act.put, List.setIfInBounds_toArray, List.set_cons_zero, List.set_cons_succ]
      refine wpAnyH_take (i := 7) (oi := { dst := some 23, op := Op.binOp BinOp.add 3 (Operand.tmp 21) (Operand.tmp 22) 3, type := 3, pos := "zsortanyfunc.go:331", after := #[{ on := 5, ground := Ground.data }, { on := 6, ground := Ground.data }, { on := 21, ground := Ground.gcOnly Departure.lateStores }], guard := none }) (v := .int .i64 (j : Int)) rfl (by kernel_rfl) (by kernel_rfl) (by kernel_rfl) (fun _ _ _ h => h) (Or.inl ⟨by rfl, fun w' hw' => by (clear hw'; go_simp)⟩) hHeld ?_
      simp only [Act.put, List.setIfInBounds_toArray, List.set_cons_zero, List.set_cons_succ]
      refine wpAnyH_take (i := 8) (oi := { dst := some 24, op := Op.move (Operand.tmp 0), type := 81, pos := "zsortanyfunc.go:331", after := #[], guard := none }) (v := .slice (some ⟨g, o, none⟩) N cap) rfl (by kernel_rfl) (by kernel_rfl) (by kernel_rfl) (fun _ _ _ h => h) (Or.inl ⟨by rfl, fun w' hw' => by (clear hw'; go_simp)⟩) hHeld ?_
      simp only [Act.put, List.setIfInBounds_toArray, List.set_cons_zero, List.set_cons_succ]
      refine wpAnyH_take (i := 9) (oi := { dst := some 25, op := Op.move (Operand.tmp 2), type := 3, pos := "zsortanyfunc.go:331", after := #[], guard := none }) (v := .int .i64 (b : Int)) rfl (by kernel_rfl) (by kernel_rfl) (by kernel_rfl) (fun _ _ _ h => h) (Or.inl ⟨by rfl, fun w' hw' => by (clear hw'; go_simp)⟩) hHeld ?_
      simp only [Act.put, List.setIfInBounds_toArray, List.set_cons_zero, List.set_cons_succ]
      refine wpAnyH_take (i := 10) (oi := { dst := some 26, op := Op.move (Operand.tmp 10), type := 3, pos := "zsortanyfunc.go:331", after := #[], guard := none }) (v := .int .i64 (k : Int)) rfl (by kernel_rfl) (by kernel_rfl) (by kernel_rfl) (fun _ _ _ h => h) (Or.inl ⟨by rfl, fun w' hw' => by (clear hw'; go_simp)⟩) hHeld ?_
      simp only [Act.put, List.setIfInBounds_toArray, List.set_cons_zero, List.set_cons_succ]
      refine wpAnyH_take (i := 11) (oi := { dst := some 27, op := Op.binOp BinOp.add 3 (Operand.tmp 25) (Operand.tmp 26) 3, type := 3, pos := "zsortanyfunc.go:331", after := #[{ on := 9, ground := Ground.data }, { on := 10, ground := Ground.data }], guard := none }) (v := .int .i64 (j : Int)) rfl (by kernel_rfl) (by kernel_rfl) (by kernel_rfl) (fun _ _ _ h => h) (Or.inl ⟨by rfl, fun w' hw' => by (clear hw'; go_simp)⟩) hHeld ?_
      simp only [Act.put, List.setIfInBounds_toArray, List.set_cons_zero, List.set_cons_succ]
      refine wpAnyH_take (i := 12) (oi := { dst := some 28, op := Op.indexAddr 81 (Operand.tmp 24) (Operand.tmp 27), type := 0, pos := "zsortanyfunc.go:331", after := #[{ on := 8, ground := Ground.data }, { on := 11, ground := Ground.data }], guard := none }) (v := .pointer (some ⟨g, o + j * 35, none⟩)) rfl (by kernel_rfl) (by kernel_rfl) (by kernel_rfl) (fun _ _ _ h => h) (Or.inl ⟨by rfl, fun w' hw' => by (clear hw'; go_simp)⟩) hHeld ?_
      simp only [Act.put, List.setIfInBounds_toArray, List.set_cons_zero, List.set_cons_succ]
      refine wpAnyH_take (i := 14) (oi := { dst := some 30, op := Op.move (Operand.tmp 0), type := 81, pos := "zsortanyfunc.go:331", after := #[], guard := none }) (v := .slice (some ⟨g, o, none⟩) N cap) rfl (by kernel_rfl) (by kernel_rfl) (by kernel_rfl) (fun _ _ _ h => h) (Or.inl ⟨by rfl, fun w' hw' => by (clear hw'; go_simp)⟩) hHeld ?_
      simp only [Act.put, List.setIfInBounds_toArray, List.set_cons_zero, List.set_cons_succ]
      refine wpAnyH_take (i := 15) (oi := { dst := some 31, op := Op.move (Operand.tmp 1), type := 3, pos := "zsortanyfunc.go:331", after := #[], guard := none }) (v := .int .i64 (a : Int)) rfl (by kernel_rfl) (by kernel_rfl) (by kernel_rfl) (fun _ _ _ h => h) (Or.inl ⟨by rfl, fun w' hw' => by (clear hw'; go_simp)⟩) hHeld ?_
      simp only [Act.put, List.setIfInBounds_toArray, List.set_cons_zero, List.set_cons_succ]
      refine wpAnyH_take (i := 16) (oi := { dst := some 32, op := Op.move (Operand.tmp 10), type := 3, pos := "zsortanyfunc.go:331", after := #[], guard := none }) (v := .int .i64 (k : Int)) rfl (by kernel_rfl) (by kernel_rfl) (by kernel_rfl) (fun _ _ _ h => h) (Or.inl ⟨by rfl, fun w' hw' => by (clear hw'; go_simp)⟩) hHeld ?_
      simp only [Act.put, List.setIfInBounds_toArray, List.set_cons_zero, List.set_cons_succ]
      refine wpAnyH_take (i := 17) (oi := { dst := some 33, op := Op.binOp BinOp.add 3 (Operand.tmp 31) (Operand.tmp 32) 3, type := 3, pos := "zsortanyfunc.go:331", after := #[{ on := 15, ground := Ground.data }, { on := 16, ground := Ground.data }], guard := none }) (v := .int .i64 (i : Int)) rfl (by kernel_rfl) (by kernel_rfl) (by kernel_rfl) (fun _ _ _ h => h) (Or.inl ⟨by rfl, fun w' hw' => by (clear hw'; go_simp)⟩) hHeld ?_
      simp only [Act.put, List.setIfInBounds_toArray, List.set_cons_zero, List.set_cons_succ]
      refine wpAnyH_take (i := 18) (oi := { dst := some 34, op := Op.indexAddr 81 (Operand.tmp 30) (Operand.tmp 33), type := 0, pos := "zsortanyfunc.go:331", after := #[{ on := 14, ground := Ground.data }, { on := 17, ground := Ground.data }], guard := none }) (v := .pointer (some ⟨g, o + i * 35, none⟩)) rfl (by kernel_rfl) (by kernel_rfl) (by kernel_rfl) (fun _ _ _ h => h) (Or.inl ⟨by rfl, fun w' hw' => by (clear hw'; go_simp)⟩) hHeld ?_
      simp only [Act.put, List.setIfInBounds_toArray, List.set_cons_zero, List.set_cons_succ]
      refine wpAnyH_ready (rs := [13, 19]) (by kernel_rfl) (by simp) ?_
      refine AllReadyH.cons (o := { dst := some 29, op := Op.load 155 (Operand.tmp 28), type := 155, pos := "zsortanyfunc.go:331", after := #[{ on := 12, ground := Ground.data }], guard := none }) rfl (fun K hK => ?_) (AllReadyH.cons (o := { dst := some 35, op := Op.load 155 (Operand.tmp 34), type := 155, pos := "zsortanyfunc.go:331", after := #[{ on := 18, ground := Ground.data }], guard := none }) rfl (fun K hK => ?_) AllReadyH.nil)
      · rw [if_pos (by rfl)]
        refine wp_load_mid 155 _ (by rfl) g (o + j * 35) (by rfl) y _ (Hy.out _ ((Kp.refl No _).drew)) Tryz.underlying155 rfl HIy.out ?_
        refine hK.out _ _ trivial (fun hh => ?_)
        clear hK K hHeld
        have hHeld := hh
        clear hh
        try simp only [Act.put, List.setIfInBounds_toArray, List.set_cons_zero, List.set_cons_succ]
        refine wpAnyH_ready (rs := [19]) (by kernel_rfl) (by simp) ?_
        refine AllReadyH.cons (o := { dst := some 35, op := Op.load 155 (Operand.tmp 34), type := 155, pos := "zsortanyfunc.go:331", after := #[{ on := 18, ground := Ground.data }], guard := none }) rfl (fun K hK => ?_) AllReadyH.nil
        rw [if_pos (by rfl)]
        refine wp_load_mid 155 _ (by rfl) g (o + i * 35) (by rfl) x _ (Hx.out _ ((Kp.refl No _).drew)) Tryz.underlying155 rfl HIx.out ?_
        refine hK.out _ _ trivial (fun hh => ?_)
        clear hK K hHeld
        have hHeld := hh
        clear hh
        try simp only [Act.put, List.setIfInBounds_toArray, List.set_cons_zero, List.set_cons_succ]
        refine wpAnyH_take (i := 20) (oi := { dst := some 36, op := Op.indexAddr 81 (Operand.tmp 16) (Operand.tmp 19), type := 0, pos := "zsortanyfunc.go:331", after := #[{ on := 0, ground := Ground.data }, { on := 3, ground := Ground.data }, { on := 0, ground := Ground.phase }, { on := 1, ground := Ground.phase }, { on := 2, ground := Ground.phase }, { on := 3, ground := Ground.phase }, { on := 4, ground := Ground.textOnly Departure.lateStores }, { on := 5, ground := Ground.textOnly Departure.lateStores }, { on := 6, ground := Ground.textOnly Departure.lateStores }, { on := 7, ground := Ground.textOnly Departure.lateStores }, { on := 8, ground := Ground.phase }, { on := 9, ground := Ground.phase }, { on := 10, ground := Ground.phase }, { on := 11, ground := Ground.phase }, { on := 12, ground := Ground.phase }, { on := 13, ground := Ground.phase }, { on := 14, ground := Ground.textOnly Departure.lateStores }, { on := 15, ground := Ground.textOnly Departure.lateStores }, { on := 16, ground := Ground.textOnly Departure.lateStores }, { on := 17, ground := Ground.textOnly Departure.lateStores }, { on := 18, ground := Ground.textOnly Departure.lateStoresUnsure }, { on := 19, ground := Ground.phase }], guard := none }) (v := .pointer (some ⟨g, o + i * 35, none⟩)) rfl (by kernel_rfl) (by kernel_rfl) (by kernel_rfl) (fun _ _ _ h => h) (Or.inl ⟨by rfl, fun w' hw' => by (clear hw'; go_simp)⟩) hHeld ?_
        simp only [Act.put, List.setIfInBounds_toArray, List.set_cons_zero, List.set_cons_succ]
        refine wpAnyH_ready (rs := [21]) (by kernel_rfl) (by simp) ?_
        refine AllReadyH.cons (o := { dst := none, op := Op.store 155 (Operand.tmp 36) (Operand.tmp 29), type := 0, pos := "zsortanyfunc.go:331", after := #[{ on := 20, ground := Ground.data }, { on := 13, ground := Ground.data }, { on := 0, ground := Ground.phase }, { on := 1, ground := Ground.phase }, { on := 2, ground := Ground.phase }, { on := 3, ground := Ground.phase }, { on := 4, ground := Ground.textOnly Departure.lateStores }, { on := 5, ground := Ground.textOnly Departure.lateStores }, { on := 6, ground := Ground.textOnly Departure.lateStores }, { on := 7, ground := Ground.textOnly Departure.lateStores }, { on := 8, ground := Ground.phase }, { on := 9, ground := Ground.phase }, { on := 10, ground := Ground.phase }, { on := 11, ground := Ground.phase }, { on := 12, ground := Ground.phase }, { on := 13, ground := Ground.phase }, { on := 14, ground := Ground.textOnly Departure.lateStores }, { on := 15, ground := Ground.textOnly Departure.lateStores }, { on := 16, ground := Ground.textOnly Departure.lateStores }, { on := 17, ground := Ground.textOnly Departure.lateStores }, { on := 18, ground := Ground.textOnly Departure.lateStoresUnsure }, { on := 19, ground := Ground.phase }], guard := none }) rfl (fun K hK => ?_) AllReadyH.nil
        rw [if_pos (by rfl)]
        refine wp_store_mid 155 _ _ (by rfl) g (o + i * 35) y.toArray (by rfl) (by rfl) HT1.out HAy.out HOy.out ?_
        refine hK.out _ _ trivial (fun hh => ?_)
        clear hK K hHeld
        have hHeld := hh
        clear hh
        simp only [Act.put]
        refine wpAnyH_take (i := 22) (oi := { dst := some 37, op := Op.indexAddr 81 (Operand.tmp 20) (Operand.tmp 23), type := 0, pos := "zsortanyfunc.go:331", after := #[{ on := 4, ground := Ground.data }, { on := 7, ground := Ground.data }, { on := 0, ground := Ground.phase }, { on := 1, ground := Ground.phase }, { on := 2, ground := Ground.phase }, { on := 3, ground := Ground.phase }, { on := 4, ground := Ground.phase }, { on := 5, ground := Ground.phase }, { on := 6, ground := Ground.phase }, { on := 7, ground := Ground.phase }, { on := 8, ground := Ground.phase }, { on := 9, ground := Ground.phase }, { on := 10, ground := Ground.phase }, { on := 11, ground := Ground.phase }, { on := 12, ground := Ground.phase }, { on := 13, ground := Ground.phase }, { on := 14, ground := Ground.phase }, { on := 15, ground := Ground.phase }, { on := 16, ground := Ground.phase }, { on := 17, ground := Ground.phase }, { on := 18, ground := Ground.phase }, { on := 19, ground := Ground.phase }, { on := 20, ground := Ground.phase }, { on := 21, ground := Ground.phase }], guard := none }) (v := .pointer (some ⟨g, o + j * 35, none⟩)) rfl (by kernel_rfl) (by kernel_rfl) (by kernel_rfl) (fun _ _ _ h => h) (Or.inl ⟨by rfl, fun w' hw' => by (clear hw'; go_simp)⟩) hHeld ?_
        simp only [Act.put, List.setIfInBounds_toArray, List.set_cons_zero, List.set_cons_succ]
        refine wpAnyH_ready (rs := [23]) (by kernel_rfl) (by simp) ?_
        refine AllReadyH.cons (o := { dst := none, op := Op.store 155 (Operand.tmp 37) (Operand.tmp 35), type := 0, pos := "zsortanyfunc.go:331", after := #[{ on := 22, ground := Ground.data }, { on := 19, ground := Ground.data }, { on := 21, ground := Ground.chain }, { on := 0, ground := Ground.phase }, { on := 1, ground := Ground.phase }, { on := 2, ground := Ground.phase }, { on := 3, ground := Ground.phase }, { on := 4, ground := Ground.phase }, { on := 5, ground := Ground.phase }, { on := 6, ground := Ground.phase }, { on := 7, ground := Ground.phase }, { on := 8, ground := Ground.phase }, { on := 9, ground := Ground.phase }, { on := 10, ground := Ground.phase }, { on := 11, ground := Ground.phase }, { on := 12, ground := Ground.phase }, { on := 13, ground := Ground.phase }, { on := 14, ground := Ground.phase }, { on := 15, ground := Ground.phase }, { on := 16, ground := Ground.phase }, { on := 17, ground := Ground.phase }, { on := 18, ground := Ground.phase }, { on := 19, ground := Ground.phase }, { on := 20, ground := Ground.phase }, { on := 21, ground := Ground.phase }], guard := none }) rfl (fun K hK => ?_) AllReadyH.nil
        rw [if_pos (by rfl)]
        refine wp_store_mid 155 _ _ (by rfl) g (o + j * 35) x.toArray (by rfl) (by rfl) HT2.out HAx.out HOx.out ?_
        refine hK.out _ _ trivial (fun hh => ?_)
        clear hK K hHeld
        have hHeld := hh
        clear hh
        simp only [Act.put]
        refine wpAnyH_done (by kernel_rfl) ?_ _
        go_wp2_with fail
        go_round
        case rel => exact ⟨k + 1, by go_num, by omega, HFIN.out⟩
        case measure => simp [intOf]; omega
      · rw [if_pos (by rfl)]
        refine wp_load_mid 155 _ (by rfl) g (o + i * 35) (by rfl) x _ (Hx.out _ ((Kp.refl No _).drew)) Tryz.underlying155 rfl HIx.out ?_
        refine hK.out _ _ trivial (fun hh => ?_)
        clear hK K hHeld
        have hHeld := hh
        clear hh
        try simp only [Act.put, List.setIfInBounds_toArray, List.set_cons_zero, List.set_cons_succ]
        refine wpAnyH_ready (rs := [13]) (by kernel_rfl) (by simp) ?_
        refine AllReadyH.cons (o := { dst := some 29, op := Op.load 155 (Operand.tmp 28), type := 155, pos := "zsortanyfunc.go:331", after := #[{ on := 12, ground := Ground.data }], guard := none }) rfl (fun K hK => ?_) AllReadyH.nil
        rw [if_pos (by rfl)]
        refine wp_load_mid 155 _ (by rfl) g (o + j * 35) (by rfl) y _ (Hy.out _ ((Kp.refl No _).drew)) Tryz.underlying155 rfl HIy.out ?_
        refine hK.out _ _ trivial (fun hh => ?_)
        clear hK K hHeld
        have hHeld := hh
        clear hh
        try simp only [Act.put, List.setIfInBounds_toArray, List.set_cons_zero, List.set_cons_succ]
        refine wpAnyH_take (i := 20) (oi := { dst := some 36, op := Op.indexAddr 81 (Operand.tmp 16) (Operand.tmp 19), type := 0, pos := "zsortanyfunc.go:331", after := #[{ on := 0, ground := Ground.data }, { on := 3, ground := Ground.data }, { on := 0, ground := Ground.phase }, { on := 1, ground := Ground.phase }, { on := 2, ground := Ground.phase }, { on := 3, ground := Ground.phase }, { on := 4, ground := Ground.textOnly Departure.lateStores }, { on := 5, ground := Ground.textOnly Departure.lateStores }, { on := 6, ground := Ground.textOnly Departure.lateStores }, { on := 7, ground := Ground.textOnly Departure.lateStores }, { on := 8, ground := Ground.phase }, { on := 9, ground := Ground.phase }, { on := 10, ground := Ground.phase }, { on := 11, ground := Ground.phase }, { on := 12, ground := Ground.phase }, { on := 13, ground := Ground.phase }, { on := 14, ground := Ground.textOnly Departure.lateStores }, { on := 15, ground := Ground.textOnly Departure.lateStores }, { on := 16, ground := Ground.textOnly Departure.lateStores }, { on := 17, ground := Ground.textOnly Departure.lateStores }, { on := 18, ground := Ground.textOnly Departure.lateStoresUnsure }, { on := 19, ground := Ground.phase }], guard := none }) (v := .pointer (some ⟨g, o + i * 35, none⟩)) rfl (by kernel_rfl) (by kernel_rfl) (by kernel_rfl) (fun _ _ _ h => h) (Or.inl ⟨by rfl, fun w' hw' => by (clear hw'; go_simp)⟩) hHeld ?_
        simp only [Act.put, List.setIfInBounds_toArray, List.set_cons_zero, List.set_cons_succ]
        refine wpAnyH_ready (rs := [21]) (by kernel_rfl) (by simp) ?_
        refine AllReadyH.cons (o := { dst := none, op := Op.store 155 (Operand.tmp 36) (Operand.tmp 29), type := 0, pos := "zsortanyfunc.go:331", after := #[{ on := 20, ground := Ground.data }, { on := 13, ground := Ground.data }, { on := 0, ground := Ground.phase }, { on := 1, ground := Ground.phase }, { on := 2, ground := Ground.phase }, { on := 3, ground := Ground.phase }, { on := 4, ground := Ground.textOnly Departure.lateStores }, { on := 5, ground := Ground.textOnly Departure.lateStores }, { on := 6, ground := Ground.textOnly Departure.lateStores }, { on := 7, ground := Ground.textOnly Departure.lateStores }, { on := 8, ground := Ground.phase }, { on := 9, ground := Ground.phase }, { on := 10, ground := Ground.phase }, { on := 11, ground := Ground.phase }, { on := 12, ground := Ground.phase }, { on := 13, ground := Ground.phase }, { on := 14, ground := Ground.textOnly Departure.lateStores }, { on := 15, ground := Ground.textOnly Departure.lateStores }, { on := 16, ground := Ground.textOnly Departure.lateStores }, { on := 17, ground := Ground.textOnly Departure.lateStores }, { on := 18, ground := Ground.textOnly Departure.lateStoresUnsure }, { on := 19, ground := Ground.phase }], guard := none }) rfl (fun K hK => ?_) AllReadyH.nil
        rw [if_pos (by rfl)]
        refine wp_store_mid 155 _ _ (by rfl) g (o + i * 35) y.toArray (by rfl) (by rfl) HT1.out HAy.out HOy.out ?_
        refine hK.out _ _ trivial (fun hh => ?_)
        clear hK K hHeld
        have hHeld := hh
        clear hh
        simp only [Act.put]
        refine wpAnyH_take (i := 22) (oi := { dst := some 37, op := Op.indexAddr 81 (Operand.tmp 20) (Operand.tmp 23), type := 0, pos := "zsortanyfunc.go:331", after := #[{ on := 4, ground := Ground.data }, { on := 7, ground := Ground.data }, { on := 0, ground := Ground.phase }, { on := 1, ground := Ground.phase }, { on := 2, ground := Ground.phase }, { on := 3, ground := Ground.phase }, { on := 4, ground := Ground.phase }, { on := 5, ground := Ground.phase }, { on := 6, ground := Ground.phase }, { on := 7, ground := Ground.phase }, { on := 8, ground := Ground.phase }, { on := 9, ground := Ground.phase }, { on := 10, ground := Ground.phase }, { on := 11, ground := Ground.phase }, { on := 12, ground := Ground.phase }, { on := 13, ground := Ground.phase }, { on := 14, ground := Ground.phase }, { on := 15, ground := Ground.phase }, { on := 16, ground := Ground.phase }, { on := 17, ground := Ground.phase }, { on := 18, ground := Ground.phase }, { on := 19, ground := Ground.phase }, { on := 20, ground := Ground.phase }, { on := 21, ground := Ground.phase }], guard := none }) (v := .pointer (some ⟨g, o + j * 35, none⟩)) rfl (by kernel_rfl) (by kernel_rfl) (by kernel_rfl) (fun _ _ _ h => h) (Or.inl ⟨by rfl, fun w' hw' => by (clear hw'; go_simp)⟩) hHeld ?_
        simp only [Act.put, List.setIfInBounds_toArray, List.set_cons_zero, List.set_cons_succ]
        refine wpAnyH_ready (rs := [23]) (by kernel_rfl) (by simp) ?_
        refine AllReadyH.cons (o := { dst := none, op := Op.store 155 (Operand.tmp 37) (Operand.tmp 35), type := 0, pos := "zsortanyfunc.go:331", after := #[{ on := 22, ground := Ground.data }, { on := 19, ground := Ground.data }, { on := 21, ground := Ground.chain }, { on := 0, ground := Ground.phase }, { on := 1, ground := Ground.phase }, { on := 2, ground := Ground.phase }, { on := 3, ground := Ground.phase }, { on := 4, ground := Ground.phase }, { on := 5, ground := Ground.phase }, { on := 6, ground := Ground.phase }, { on := 7, ground := Ground.phase }, { on := 8, ground := Ground.phase }, { on := 9, ground := Ground.phase }, { on := 10, ground := Ground.phase }, { on := 11, ground := Ground.phase }, { on := 12, ground := Ground.phase }, { on := 13, ground := Ground.phase }, { on := 14, ground := Ground.phase }, { on := 15, ground := Ground.phase }, { on := 16, ground := Ground.phase }, { on := 17, ground := Ground.phase }, { on := 18, ground := Ground.phase }, { on := 19, ground := Ground.phase }, { on := 20, ground := Ground.phase }, { on := 21, ground := Ground.phase }], guard := none }) rfl (fun K hK => ?_) AllReadyH.nil
        rw [if_pos (by rfl)]
        refine wp_store_mid 155 _ _ (by rfl) g (o + j * 35) x.toArray (by rfl) (by rfl) HT2.out HAx.out HOx.out ?_
        refine hK.out _ _ trivial (fun hh => ?_)
        clear hK K hHeld
        have hHeld := hh
        clear hh
        simp only [Act.put]
        refine wpAnyH_done (by kernel_rfl) ?_ _
        go_wp2_with fail
        go_round
        case rel => exact ⟨k + 1, by go_num, by omega, HFIN.out⟩
        case measure => simp [intOf]; omega
    · have hltI : ¬ (k : Int) < (n : Int) := by omega
      have hkn : k = n := by omega
      subst hkn
      go_wp2_with fail
      go_end0
      exact ⟨rfl, HA.out⟩
end Go.Proofs.YthmimipoooemjaaGreatDoor.Sg
end

section
/-
  Two ranges that stand side by side are turned about.
-/
namespace Go.Proofs.YthmimipoooemjaaGreatDoor.Sg
open Go.RowKit
open Sim (hid Kp No)

theorem swap2_blocks (A B C : List Ent) (x y : Ent) : swap2 (A ++ x :: (B ++ y :: C)) A.length (A.length + 1 + B.length) = A ++ y :: (B ++ x :: C) := by
  have e1 : (A ++ x :: (B ++ y :: C)).getD A.length zEnt = x := by simp [List.getD_eq_getElem?_getD]
  have e2 : (A ++ x :: (B ++ y :: C)).getD (A.length + 1 + B.length) zEnt = y := by
    rw [List.getD_eq_getElem?_getD, List.getElem?_append_right (by omega), show A.length + 1 + B.length - A.length = B.length + 1 by omega]
    simp
  have e3 : (A ++ x :: (B ++ y :: C)).set A.length y = A ++ y :: (B ++ y :: C) := by simp [List.set_append_right]
  rw [swap2, e1, e2, e3, List.set_append_right _ _ (by omega), show A.length + 1 + B.length - A.length = B.length + 1 by omega, List.set_cons_succ, List.set_append_right _ _ (by omega), Nat.sub_self, List.set_cons_zero]
theorem swapN_blocks : ∀ (n : Nat) (L X M Y R : List Ent), X.length = n → Y.length = n → swapN (L ++ (X ++ (M ++ (Y ++ R)))) L.length (L.length + n + M.length) n = L ++ (Y ++ (M ++ (X ++ R)))
  | 0, L, X, M, Y, R, hx, hy => by
    rw [List.length_eq_zero_iff.1 hx, List.length_eq_zero_iff.1 hy]
    rfl
  | n + 1, L, X, M, Y, R, hx, hy => by
    have nx : X ≠ [] := by intro e; rw [e] at hx; simp at hx
    have ny : Y ≠ [] := by intro e; rw [e] at hy; simp at hy
    obtain ⟨X', x, rfl⟩ : ∃ X' x, X = X' ++ [x] := ⟨X.dropLast, X.getLast nx, (List.dropLast_concat_getLast nx).symm⟩
    obtain ⟨Y', y, rfl⟩ : ∃ Y' y, Y = Y' ++ [y] := ⟨Y.dropLast, Y.getLast ny, (List.dropLast_concat_getLast ny).symm⟩
    have hx' : X'.length = n := by simpa using hx
    have hy' : Y'.length = n := by simpa using hy
    have ih := swapN_blocks n L X' (x :: M) Y' (y :: R) hx' hy'
    have e1 : L ++ (X' ++ [x] ++ (M ++ (Y' ++ [y] ++ R))) = L ++ (X' ++ ((x :: M) ++ (Y' ++ y :: R))) := by simp
    have e2 : L.length + (n + 1) + M.length = L.length + n + (x :: M).length := by simp; omega
    rw [swapN, e1, e2, ih]
    have h2 := swap2_blocks (L ++ Y') (M ++ X') R x y
    have e3 : L ++ (Y' ++ ((x :: M) ++ (X' ++ y :: R))) = (L ++ Y') ++ x :: ((M ++ X') ++ y :: R) := by simp
    have e4 : L.length + n = (L ++ Y').length := by simp [hy']
    have e5 : L.length + n + (x :: M).length + n = (L ++ Y').length + 1 + (M ++ X').length := by simp [hx', hy']; omega
    rw [e5, e4, e3, h2]
    simp

/-- How far a turning has come: X and Y are left, and F is what comes out. -/
def RotSt (m i j : Nat) (F D : List Ent) : Prop := ∃ L X Y R : List Ent, X.length = i ∧ Y.length = j ∧ L.length + i = m ∧ D = L ++ (X ++ (Y ++ R)) ∧ F = L ++ (Y ++ (X ++ R))
theorem RotSt.gt {m i j : Nat} {F D : List Ent} (h : RotSt m i j F D) (hj : j < i) : RotSt m (i - j) j F (swapN D (m - i) m j) := by
  obtain ⟨L, X, Y, R, hx, hy, hm, rfl, rfl⟩ := h
  have e := swapN_blocks j L (X.take j) (X.drop j) Y R (by rw [List.length_take]; omega) hy
  have e1 : L ++ (X ++ (Y ++ R)) = L ++ (X.take j ++ (X.drop j ++ (Y ++ R))) := by rw [← List.append_assoc (X.take j), List.take_append_drop]
  have e2 : L.length + j + (X.drop j).length = m := by rw [List.length_drop]; omega
  rw [e2] at e
  refine ⟨L ++ Y, X.drop j, X.take j, R, by rw [List.length_drop]; omega, by rw [List.length_take]; omega, by rw [List.length_append]; omega, ?_, ?_⟩
  · rw [e1, show m - i = L.length by omega, e]; simp
  · have : X.take j ++ (X.drop j ++ R) = X ++ R := by rw [← List.append_assoc, List.take_append_drop]
    rw [this]; simp
theorem RotSt.lt {m i j : Nat} {F D : List Ent} (h : RotSt m i j F D) (hj : i < j) : RotSt m i (j - i) F (swapN D (m - i) (m + j - i) i) := by
  obtain ⟨L, X, Y, R, hx, hy, hm, rfl, rfl⟩ := h
  have e := swapN_blocks i L X (Y.take (j - i)) (Y.drop (j - i)) R hx (by rw [List.length_drop]; omega)
  have e1 : L ++ (X ++ (Y ++ R)) = L ++ (X ++ (Y.take (j - i) ++ (Y.drop (j - i) ++ R))) := by rw [← List.append_assoc (Y.take _), List.take_append_drop]
  have e2 : L.length + i + (Y.take (j - i)).length = m + j - i := by rw [List.length_take]; omega
  rw [e2] at e
  refine ⟨L, Y.drop (j - i), Y.take (j - i), X ++ R, by rw [List.length_drop]; omega, by rw [List.length_take]; omega, hm, ?_, ?_⟩
  · rw [e1, show m - i = L.length by omega, e]
  · have : Y.take (j - i) ++ (Y.drop (j - i) ++ (X ++ R)) = Y ++ (X ++ R) := by rw [← List.append_assoc, List.take_append_drop]
    rw [this]
theorem RotSt.eq {m i : Nat} {F D : List Ent} (h : RotSt m i i F D) : swapN D (m - i) m i = F := by
  obtain ⟨L, X, Y, R, hx, hy, hm, rfl, rfl⟩ := h
  have e := swapN_blocks i L X [] Y R hx hy
  simp only [List.nil_append, List.length_nil, Nat.add_zero] at e
  rw [hm] at e
  rw [show m - i = L.length by omega, e]
theorem RotSt.len {m i j : Nat} {F D : List Ent} (h : RotSt m i j F D) : i ≤ m ∧ m + j ≤ D.length ∧ D.length = F.length := by
  obtain ⟨L, X, Y, R, hx, hy, hm, rfl, rfl⟩ := h
  simp only [List.length_append]
  omega

set_option maxHeartbeats 2000000 in
set_option maxRecDepth 100000 in
theorem rot_any (w : World) (g o : Nat) (L X Y R : List Ent) (N cap : Nat) (cv : Value) (h : EOwn w g o (L ++ (X ++ (Y ++ R)))) (hN : (L ++ (X ++ (Y ++ R))).length = N) (hx : X ≠ []) (hy : Y ≠ []) (hl : N ≤ 1000000) :
    Calls Tryz.prog 245 #[.slice (some ⟨g, o, none⟩) N cap, .int .i64 (L.length : Int), .int .i64 ((L.length + X.length : Nat) : Int), .int .i64 ((L.length + X.length + Y.length : Nat) : Int), cv] w fun e w' => e = .returned (.tuple #[]) ∧ At w g o (L ++ (Y ++ (X ++ R))) w' := by
  have H0 := hid (At.start h)
  have hx1 := List.length_pos_iff.2 hx
  have hy1 := List.length_pos_iff.2 hy
  obtain ⟨F, hF⟩ : ∃ F, L ++ (Y ++ (X ++ R)) = F := ⟨_, rfl⟩
  obtain ⟨D, hD⟩ : ∃ D, L ++ (X ++ (Y ++ R)) = D := ⟨_, rfl⟩
  have HR0 : Hid (RotSt (L.length + X.length) X.length Y.length F D) := ⟨L, X, Y, R, rfl, rfl, rfl, hD.symm, hF.symm⟩
  rw [hF]
  rw [hD] at H0 hN
  clear hF hD h hx hy
  obtain ⟨a, ha⟩ : ∃ a, L.length = a := ⟨_, rfl⟩
  obtain ⟨m, hm⟩ : ∃ m, L.length + X.length = m := ⟨_, rfl⟩
  obtain ⟨b, hb⟩ : ∃ b, L.length + X.length + Y.length = b := ⟨_, rfl⟩
  obtain ⟨i0, hi0⟩ : ∃ i0, X.length = i0 := ⟨_, rfl⟩
  obtain ⟨j0, hj0⟩ : ∃ j0, Y.length = j0 := ⟨_, rfl⟩
  rw [hm, hi0, hj0] at HR0
  have h1 : m - a = i0 ∧ b - m = j0 ∧ 0 < i0 ∧ 0 < j0 ∧ a < m ∧ m < b := by omega
  have hFl : F.length = N := by rw [← HR0.out.len.2.2, hN]
  have hbN : b ≤ N := by have := HR0.out.len.2.1; omega
  rw [hb, hm, ha]
  clear ha hm hb hi0 hj0 hx1 hy1 hN
  obtain ⟨h1, h2, h3, h4, h5, h6⟩ := h1
  have hwi : IntKind.i64.wrap ((m : Int) - (a : Int)) = (i0 : Int) := by rw [IntKind.wrap_i64]; omega
  have hwj : IntKind.i64.wrap ((b : Int) - (m : Int)) = (j0 : Int) := by rw [IntKind.wrap_i64]; omega
  have HFl := hid hFl
  have HSW := hid (fun V (D : List Ent) (a b n : Nat) (h : EOwn V g o D) (hD : D.length = N) (ha : a + n ≤ b) (hb : b + n ≤ N) => by have := swapR_any V g o D cap a b n cv h (by omega) (by omega) ha (by omega); rw [hD] at this; exact this)
  clear hFl
  go_enter Tryz.func245, Tryz.ntmps245
  go_wp2_with fail
  go_loopw [10, 11] (fun x y wr => ∃ (i j : Nat) (D : List Ent), x = .int .i64 (i : Int) ∧ y = .int .i64 (j : Int) ∧ 0 < i ∧ 0 < j ∧ Hid (RotSt m i j F D ∧ At w g o D wr)) (fun x y _ => (intOf x).toNat + (intOf y).toNat)
  case atStart => exact ⟨i0, j0, D, rfl, rfl, h3, h4, HR0.out, H0.out⟩
  case round =>
    obtain ⟨i, j, D, rfl, rfl, hi, hj, HS⟩ := hrel
    obtain ⟨hR, hA⟩ := HS.out
    have hlen := hR.len
    have hFl := HFl.out
    have hwm : IntKind.i64.wrap ((m : Int) - (i : Int)) = ((m - i : Nat) : Int) := by rw [IntKind.wrap_i64]; omega
    by_cases hij : i = j
    · subst hij
      have HC := hid (HSW.out wr D (m - i) m i hA.2 (by omega) (by omega) (by omega))
      rw [hR.eq] at HC
      have HAA := hid hA
      clear hR hA hlen hFl HS
      go_wp2_with fail
      refine HC.out.mono ?_
      rintro e w2 ⟨rfl, h2⟩
      have H2 := hid (HAA.out.next h2)
      clear h2
      go_wp2_with fail
      go_end0
      exact ⟨rfl, H2.out⟩
    · have hne : ¬ ((i : Int) = (j : Int)) := by omega
      by_cases hg : j < i
      · have hgI : (j : Int) < (i : Int) := by omega
        have HC := hid (HSW.out wr D (m - i) m j hA.2 (by omega) (by omega) (by omega))
        have HAA := hid hA
        have HRR := hid (hR.gt hg)
        have hwd : IntKind.i64.wrap ((i : Int) - (j : Int)) = ((i - j : Nat) : Int) := by rw [IntKind.wrap_i64]; omega
        clear hR hA hlen hFl HS
        go_wp2_with fail
        refine HC.out.mono ?_
        rintro e w2 ⟨rfl, h2⟩
        have H2 := hid (HAA.out.next h2)
        clear h2
        go_wp2_with fail
        go_round
        case rel => exact ⟨i - j, j, _, rfl, rfl, by omega, by omega, HRR.out, H2.out⟩
        case measure => simp [intOf]; omega
      · have hgI : ¬ (j : Int) < (i : Int) := by omega
        have HC := hid (HSW.out wr D (m - i) (m + j - i) i hA.2 (by omega) (by omega) (by omega))
        have HAA := hid hA
        have HRR := hid (hR.lt (by omega))
        have hwd : IntKind.i64.wrap ((j : Int) - (i : Int)) = ((j - i : Nat) : Int) := by rw [IntKind.wrap_i64]; omega
        obtain ⟨q, hq⟩ : ∃ q, m + j = q := ⟨_, rfl⟩
        obtain ⟨t, ht⟩ : ∃ t, m + j - i = t := ⟨_, rfl⟩
        have hws : IntKind.i64.wrap ((m : Int) + (j : Int)) = (q : Int) := by rw [IntKind.wrap_i64]; omega
        have hwt : IntKind.i64.wrap ((q : Int) - (i : Int)) = (t : Int) := by rw [IntKind.wrap_i64]; omega
        rw [ht] at HC HRR
        clear hq ht
        clear hR hA hlen hFl HS
        go_wp2_with fail
        refine HC.out.mono ?_
        rintro e w2 ⟨rfl, h2⟩
        have H2 := hid (HAA.out.next h2)
        clear h2
        go_wp2_with fail
        go_round
        case rel => exact ⟨i, j - i, _, rfl, rfl, by omega, by omega, HRR.out, H2.out⟩
        case measure => simp [intOf]; omega
end Go.Proofs.YthmimipoooemjaaGreatDoor.Sg
end

section
/-
  How the names of two entries stand: compare, walked.
-/
namespace Go.Proofs.YthmimipoooemjaaGreatDoor.Sg
open Go.RowKit
open Sim (hid Kp No)

/-- Bytes in their order. -/
def lexB : List Int → List Int → Bool
  | [], [] => false
  | [], _ :: _ => true
  | _ :: _, [] => false
  | x :: xs, y :: ys => if x < y then true else if y < x then false else lexB xs ys
theorem lexB_irr : ∀ x, lexB x x = false
  | [] => rfl
  | x :: xs => by simp [lexB, lexB_irr xs]
theorem lexB_tot : ∀ x y, x ≠ y → lexB x y = true ∨ lexB y x = true
  | [], [], h => absurd rfl h
  | [], _ :: _, _ => .inl rfl
  | _ :: _, [], _ => .inr rfl
  | x :: xs, y :: ys, h => by
    by_cases h1 : x < y
    · exact .inl (by simp [lexB, h1])
    · by_cases h2 : y < x
      · exact .inr (by simp [lexB, h2])
      · have e : x = y := by omega
        subst e
        rcases lexB_tot xs ys (fun e => h (by rw [e])) with h3 | h3
        · exact .inl (by simp [lexB, h3])
        · exact .inr (by simp [lexB, h3])
theorem lexB_trans : ∀ x y z, lexB x y = true → lexB y z = true → lexB x z = true
  | [], [], _, h, _ => by simp [lexB] at h
  | [], _ :: _, [], _, h => by simp [lexB] at h
  | [], _ :: _, _ :: _, _, _ => rfl
  | _ :: _, [], _, h, _ => by simp [lexB] at h
  | _ :: _, _ :: _, [], _, h => by simp [lexB] at h
  | x :: xs, y :: ys, z :: zs, h1, h2 => by
    simp only [lexB] at h1 h2 ⊢
    by_cases a1 : x < y
    · by_cases a2 : y < z
      · rw [if_pos (by omega)]
      · rw [if_neg a2] at h2
        by_cases a3 : z < y
        · rw [if_pos a3] at h2; cases h2
        · rw [if_pos (by omega)]
    · rw [if_neg a1] at h1
      by_cases a2 : y < x
      · rw [if_pos a2] at h1; cases h1
      · rw [if_neg a2] at h1
        have e : x = y := by omega
        subst e
        by_cases a3 : x < z
        · rw [if_pos a3]
        · rw [if_neg a3] at h2 ⊢
          by_cases a4 : z < x
          · rw [if_pos a4] at h2; cases h2
          · rw [if_neg a4] at h2 ⊢
            exact lexB_trans xs ys zs h1 h2
theorem lexOrd : Stb.Ord lexB := ⟨lexB_irr, lexB_trans, lexB_tot⟩

/-- How two stand. -/
def cmpE (a b : List Int) : Int := if lexB a b then -1 else if lexB b a then 1 else 0
theorem cmpE_neg (a b : List Int) : cmpE a b < 0 ↔ lexB a b = true := by
  unfold cmpE
  cases lexB a b <;> cases lexB b a <;> decide
theorem cmpE_zero (a b : List Int) : cmpE a b = 0 ↔ a = b := by
  unfold cmpE
  by_cases e : a = b
  · subst e
    simp [lexB_irr]
  · rcases lexB_tot a b e with h | h
    · simp [h, e]
    · have h2 := lexOrd.asym h
      simp [h, h2, e]
theorem cmp_bytes : ∀ (a b : List Int), (∀ x ∈ a, 0 ≤ x ∧ x ≤ 255) → (∀ x ∈ b, 0 ≤ x ∧ x ≤ 255) → Lib.compareBytes (Lib.bytesOf a) (Lib.bytesOf b) = cmpE a b
  | [], [], _, _ => rfl
  | [], _ :: _, _, _ => rfl
  | _ :: _, [], _, _ => rfl
  | x :: xs, y :: ys, hx, hy => by
    have h1 := hx x (by simp)
    have h2 := hy y (by simp)
    have ih := cmp_bytes xs ys (fun z hz => hx z (by simp [hz])) (fun z hz => hy z (by simp [hz]))
    have e : UInt8.ofNat x.toNat < UInt8.ofNat y.toNat ↔ x < y := by
      rw [UInt8.lt_iff_toNat_lt]
      simp
      omega
    have e' : UInt8.ofNat y.toNat < UInt8.ofNat x.toNat ↔ y < x := by
      rw [UInt8.lt_iff_toNat_lt]
      simp
      omega
    have e1 : Lib.bytesOf (x :: xs) = UInt8.ofNat x.toNat :: Lib.bytesOf xs := rfl
    have e2 : Lib.bytesOf (y :: ys) = UInt8.ofNat y.toNat :: Lib.bytesOf ys := rfl
    rw [e1, e2, Lib.compareBytes]
    simp only [e, e', ih, cmpE, lexB]
    by_cases hlt : x < y
    · simp [hlt]
    · by_cases hgt : y < x
      · simp [hlt, hgt]
      · simp [hlt, hgt]

theorem run_bytesOf {P : Program} (w : World) (g c : Nat) (a : List Int) (h : w.rangeAt g 0 (b8 a)) :
    (Extern.Bytes.bytesOf (.slice (some ⟨g, 0, none⟩) a.length c)).run P w = .ok ⟨(Lib.bytesOf a).toArray⟩ w := by
  have hl := Lib.run_loadBytesX (P := P) w a ⟨g, 0, none⟩ .empty (fun j x hj => by
    rw [Addr.add_mid]
    exact h j _ (by rw [b8, List.getElem?_map, hj]; rfl))
  have he : (⟨ByteArray.empty.data ++ (Lib.bytesOf a).toArray⟩ : ByteArray) = ⟨(Lib.bytesOf a).toArray⟩ := by
    apply ByteArray.ext
    show (#[] : Array UInt8) ++ (Lib.bytesOf a).toArray = (Lib.bytesOf a).toArray
    simp
  rw [he] at hl
  exact hl

theorem run_cmp {P : Program} (w : World) (g1 g2 k1 k2 : Nat) (a b : List Int) (h1 : w.rangeAt g1 0 (b8 a)) (h2 : w.rangeAt g2 0 (b8 b)) (ha : ∀ x ∈ a, 0 ≤ x ∧ x ≤ 255) (hb : ∀ x ∈ b, 0 ≤ x ∧ x ≤ 255) :
    (Extern.BytealgCompare.compare #[.slice (some ⟨g1, 0, none⟩) a.length k1, .slice (some ⟨g2, 0, none⟩) b.length k2]).run P w = .ok (.int .i64 (cmpE a b)) w := by
  change Sem.run P (do pure (goInt (Extern.BytealgCompare.cmp (← Extern.Bytes.bytesOf (.slice (some ⟨g1, 0, none⟩) a.length k1)) (← Extern.Bytes.bytesOf (.slice (some ⟨g2, 0, none⟩) b.length k2))))) w = _
  simp only [Sem.run_bind, Sem.run_pure, run_bytesOf w g1 k1 a h1, run_bytesOf w g2 k2 b h2, Result.andThen]
  rw [Lib.cmp_eq, cmp_bytes a b ha hb]
  rfl

theorem bcompare_any (g1 g2 : Nat) (a b : List Int) (w : World) (h1 : w.rangeAt g1 0 (b8 a)) (h2 : w.rangeAt g2 0 (b8 b)) (ha : a.length = 32) (hb : b.length = 32) (ha' : ∀ x ∈ a, 0 ≤ x ∧ x ≤ 255) (hb' : ∀ x ∈ b, 0 ≤ x ∧ x ≤ 255) :
    Calls Tryz.prog 212 #[.slice (some ⟨g1, 0, none⟩) 32 32, .slice (some ⟨g2, 0, none⟩) 32 32] w fun e w' => e = .returned (.int .i64 (cmpE a b)) ∧ w' = w := by
  have hr := run_cmp (P := Tryz.prog) w g1 g2 32 32 a b h1 h2 ha' hb'
  rw [ha, hb] at hr
  have hc : (callFunc 244 #[.slice (some ⟨g1, 0, none⟩) 32 32, .slice (some ⟨g2, 0, none⟩) 32 32]).run Tryz.prog w = .ok (.value (.int .i64 (cmpE a b))) w := by
    rw [run_callFunc_extern Tryz.func244 (by kernel_rfl) (by kernel_rfl) (by kernel_rfl) (e := Extern.BytealgCompare.compare) (by kernel_rfl), hr]
    rfl
  clear hr h1 h2 ha hb ha' hb'
  go_enter Tryz.func212, Tryz.ntmps212
  go_wp2_with fail
  go_ret
  exact ⟨rfl, rfl⟩

theorem rng_new (w : World) (C : List Value) (ty : TypeId) : (w.alloc (.cells C.toArray ty)).rangeAt w.heap.size 0 C := fun j v hv => by
  rw [Nat.zero_add, World.cell?_alloc_at _ _ _ _ rfl]
  simpa using hv

set_option maxHeartbeats 1000000 in
set_option maxRecDepth 100000 in
theorem shaCompare_any (a b : List Int) (w : World) (ha : a.length = 32) (hb : b.length = 32) (ha' : ∀ x ∈ a, 0 ≤ x ∧ x ≤ 255) (hb' : ∀ x ∈ b, 0 ≤ x ∧ x ≤ 255) :
    Calls Tryz.prog 173 #[.agg (b8 a).toArray, .agg (b8 b).toArray] w fun e w' => e = .returned (.int .i64 (cmpE a b)) ∧ Below w.heap.size w w' := by
  have HC : Hid (∀ W, W.rangeAt w.heap.size 0 (b8 a) → W.rangeAt (w.heap.size + 1) 0 (b8 b) → Calls Tryz.prog 212 #[.slice (some ⟨w.heap.size, 0, none⟩) 32 32, .slice (some ⟨w.heap.size + 1, 0, none⟩) 32 32] W fun e w' => e = .returned (.int .i64 (cmpE a b)) ∧ w' = W) := fun W h1 h2 => bcompare_any w.heap.size (w.heap.size + 1) a b W h1 h2 ha hb ha' hb'
  obtain ⟨ca, hca⟩ : ∃ c, b8 a = c := ⟨_, rfl⟩
  obtain ⟨cb, hcb⟩ : ∃ c, b8 b = c := ⟨_, rfl⟩
  have HCA := hid hca
  have HCB := hid hcb
  rw [hca, hcb]
  rw [hca, hcb] at HC
  clear hca hcb ha hb ha' hb'
  go_enter Tryz.func173, Tryz.ntmps173
  go_wp2_with fail
  obtain ⟨W1, hW1⟩ : ∃ W1, (w.alloc (.cells ca.toArray 53)).alloc (.cells cb.toArray 53) = W1 := ⟨_, rfl⟩
  have HW : Hid (W1.rangeAt w.heap.size 0 ca ∧ W1.rangeAt (w.heap.size + 1) 0 cb ∧ Below w.heap.size w W1) := by
    rw [Hid, ← hW1]
    refine ⟨World.rangeAt_alloc (rng_new _ _ _) _, ?_, ((Below.refl _ _).alloc (Nat.le_refl _) _).alloc (by simp) _⟩
    have h := rng_new (w.alloc (.cells ca.toArray 53)) cb 53
    simpa using h
  rw [hW1]
  clear hW1
  have HD : Hid (Calls Tryz.prog 212 #[.slice (some ⟨w.heap.size, 0, none⟩) 32 32, .slice (some ⟨w.heap.size + 1, 0, none⟩) 32 32] W1.drew fun e w' => e = .returned (.int .i64 (cmpE a b)) ∧ w' = W1.drew) := HC.out W1.drew HW.out.1 HW.out.2.1
  go_region_with (go_at_call 212; refine HD.out.mono ?_; rintro e w3 ⟨rfl, hw3⟩; subst hw3)
  go_wp2_with fail
  go_ret
  exact ⟨rfl, HW.out.2.2.drew⟩

theorem rng_name {w : World} {g o : Nat} {e : Ent} (h : w.rangeAt g o (entC e)) : w.rangeAt g o (b8 e.1) := fun j u hj => h j u (by
  have hlt := (List.getElem?_eq_some_iff.1 hj).1
  rw [entC, List.getElem?_append_left hlt]
  exact hj)
theorem infH : (Tryz.prog.info? 53).map (·.size) = some 32 := by kernel_rfl

set_option maxHeartbeats 1000000 in
set_option maxRecDepth 100000 in
theorem compare_any (x y : Ent) (w : World) (hx : EOk x) (hy : EOk y) :
    Calls Tryz.prog 133 #[.agg (entC x).toArray, .agg (entC y).toArray] w fun e w' => e = .returned (.int .i64 (cmpE x.1 y.1)) ∧ Below w.heap.size w w' := by
  have HC := hid (fun W => shaCompare_any x.1 y.1 W hx.1 hy.1 hx.2 hy.2)
  have HR : Hid (∀ V, Below (w.heap.size + 2) ((w.alloc (.cells (entC x).toArray 155)).alloc (.cells (entC y).toArray 155)) V → V.rangeAt w.heap.size 0 (b8 x.1) ∧ V.rangeAt (w.heap.size + 1) 0 (b8 y.1)) := fun V hV => by
    have h1 := rng_name (World.rangeAt_alloc (rng_new w (entC x) 155) (.cells (entC y).toArray 155))
    have h2 := rng_name (rng_new (w.alloc (.cells (entC x).toArray 155)) (entC y) 155)
    have e : (w.alloc (.cells (entC x).toArray 155)).heap.size = w.heap.size + 1 := by simp
    rw [e] at h2
    exact ⟨fun j v hv => (hV.cell (p := ⟨w.heap.size, _, none⟩) (by show w.heap.size < _; omega)).trans (h1 j v hv), fun j v hv => (hV.cell (p := ⟨w.heap.size + 1, _, none⟩) (by show w.heap.size + 1 < _; omega)).trans (h2 j v hv)⟩
  have HI1 : Hid ((Tryz.prog.info? 53).map (·.size) = some (b8 x.1).length) := by rw [Hid, b8_length, hx.1]; exact infH
  have HI2 : Hid ((Tryz.prog.info? 53).map (·.size) = some (b8 y.1).length) := by rw [Hid, b8_length, hy.1]; exact infH
  generalize entC x = X at *
  generalize entC y = Y at *
  generalize b8 x.1 = bx at *
  generalize b8 y.1 = bY at *
  obtain ⟨z, hz⟩ : ∃ z, cmpE x.1 y.1 = z := ⟨_, rfl⟩
  rw [hz] at HC ⊢
  clear hz hx hy
  have HBB : Hid (Below w.heap.size w ((w.alloc (.cells X.toArray 155)).alloc (.cells Y.toArray 155))) := ((Below.refl _ _).alloc (Nat.le_refl _) _).alloc (by simp) _
  go_enter Tryz.func133, Tryz.ntmps133
  generalize hW : (w.alloc (.cells X.toArray 155)).alloc (.cells Y.toArray 155) = W at *
  go_wp2_with (first
    | (refine wpList_load_mid (by rfl) 53 _ (by rfl) w.heap.size 0 (by rfl) bx _ (HR.out _ (Below.refl _ _)).1 Tryz.underlying53 rfl HI1.out ?_)
    | (refine wpList_load_mid (by rfl) 53 _ (by rfl) (w.heap.size + 1) 0 (by rfl) bY _ (HR.out _ (Below.refl _ _)).2 Tryz.underlying53 rfl HI2.out ?_)
    | (go_at_call 173; refine (HC.out _).mono ?_; rintro e w2 ⟨rfl, h2⟩; have H2 := hid h2; clear h2))
  go_ret
  exact ⟨rfl, HBB.out.trans (H2.out.mono HBB.out.size)⟩
end Go.Proofs.YthmimipoooemjaaGreatDoor.Sg
end

section
/-
  A range of entries is sorted by inserting.
-/
namespace Go.Proofs.YthmimipoooemjaaGreatDoor.Sg
open Go.RowKit
open Stb (Stab Srt Mrg)
open Sim (hid Kp No)

abbrev ky (e : Ent) : List Int := e.1
theorem swap2_comm (d : List Ent) {i j : Nat} (h : i ≠ j) : swap2 d i j = swap2 d j i := by rw [swap2, swap2, List.set_comm _ _ h]
theorem swap2_back (A C : List Ent) (x y : Ent) : swap2 (A ++ x :: y :: C) (A.length + 1) A.length = A ++ y :: x :: C := by
  rw [swap2_comm _ (by omega)]
  exact swap2_blocks A [] C x y
/-- The value of the comparing, as it is handed on. -/
def cmpV : Value := .func (.func 133) #[] #[]

/-- In the midst of an inserting: y is on its way down. -/
structure InsSt (L R X : List Ent) (a i j b : Nat) (D : List Ent) (S1 S2 Y : List Ent) (y : Ent) : Prop where
  la : L.length = a
  lj : L.length + S1.length = j
  li : L.length + S1.length + S2.length = i
  lb : L.length + S1.length + S2.length + 1 + Y.length = b
  d : D = L ++ (S1 ++ (y :: (S2 ++ (Y ++ R))))
  srt : Srt ky lexB (S1 ++ S2)
  low : ∀ z ∈ S2, lexB y.1 z.1 = true
  st : Stab ky X (S1 ++ S2 ++ y :: Y)
/-- Between two: the first are sorted. -/
structure OutSt (L R X : List Ent) (a i b : Nat) (D : List Ent) (S Y : List Ent) : Prop where
  la : L.length = a
  li : L.length + S.length = i
  lb : L.length + S.length + Y.length = b
  d : D = L ++ (S ++ (Y ++ R))
  srt : Srt ky lexB S
  st : Stab ky X (S ++ Y)
section
variable {L R X D S1 S2 S Y : List Ent} {a i j b : Nat} {y : Ent}
theorem OutSt.begin (h : OutSt L R X a i b D S (y :: Y)) : InsSt L R X a i i b D S [] Y y where
  la := h.la
  lj := h.li
  li := h.li
  lb := by have := h.lb; simp at this ⊢; omega
  d := by rw [h.d]; simp
  srt := by simpa using h.srt
  low := fun z hz => by cases hz
  st := by simpa using h.st
theorem InsSt.done (h : InsSt L R X a i j b D S1 S2 Y y) (hs : ∀ z ∈ S1, lexB y.1 z.1 = false) : OutSt L R X a (i + 1) b D (S1 ++ y :: S2) Y := by
  have m := Mrg.one_last (key := ky) lexOrd hs h.low h.srt
  refine ⟨h.la, by have := h.li; simp; omega, by have := h.lb; simp; omega, by rw [h.d]; simp, m.2, ?_⟩
  refine h.st.trans ?_
  have := m.1.append (Stab.refl (key := ky) Y)
  simpa [List.append_assoc] using this
theorem InsSt.step {s : Ent} (h : InsSt L R X a i j b D (S1 ++ [s]) S2 Y y) (hl : lexB y.1 s.1 = true) : InsSt L R X a i (j - 1) b (swap2 D j (j - 1)) S1 (s :: S2) Y y := by
  have hj := h.lj
  have hi := h.li
  have hb := h.lb
  simp only [List.length_append, List.length_singleton] at hj hi hb
  refine ⟨h.la, by omega, by simp; omega, by simp; omega, ?_, by simpa using h.srt, fun z hz => ?_, by simpa using h.st⟩
  · rw [h.d]
    have e := swap2_back (L ++ S1) (S2 ++ (Y ++ R)) s y
    rw [show (L ++ S1).length = j - 1 by simp; omega, show j - 1 + 1 = j by omega] at e
    have e2 : L ++ ((S1 ++ [s]) ++ y :: (S2 ++ (Y ++ R))) = (L ++ S1) ++ s :: y :: (S2 ++ (Y ++ R)) := by simp
    rw [e2, e]
    simp
  · rcases List.mem_cons.1 hz with rfl | hz
    · exact hl
    · exact h.low z hz
theorem InsSt.get (h : InsSt L R X a i j b D S1 S2 Y y) : D[j]? = some y := by
  rw [h.d, ← h.lj, List.getElem?_append_right (by omega), List.getElem?_append_right (by omega)]
  simp
theorem InsSt.getp {s : Ent} (h : InsSt L R X a i j b D (S1 ++ [s]) S2 Y y) : D[j - 1]? = some s := by
  have hj := h.lj
  simp only [List.length_append, List.length_singleton] at hj
  rw [h.d, show j - 1 = L.length + S1.length by omega, List.getElem?_append_right (by omega), show L.length + S1.length - L.length = S1.length by omega, List.getElem?_append_left (by simp), List.getElem?_append_right (by omega)]
  simp
theorem InsSt.len (h : InsSt L R X a i j b D S1 S2 Y y) : D.length = b + R.length := by
  have hb := h.lb
  rw [h.d]
  simp
  omega
end

set_option maxHeartbeats 4000000 in
set_option maxRecDepth 100000 in
theorem ins_any (w : World) (g o : Nat) (L X R : List Ent) (N cap : Nat) (h : EOwn w g o (L ++ (X ++ R))) (hN : (L ++ (X ++ R)).length = N) (hl : N ≤ 1000000) :
    Calls Tryz.prog 213 #[.slice (some ⟨g, o, none⟩) N cap, .int .i64 (L.length : Int), .int .i64 ((L.length + X.length : Nat) : Int), cmpV] w fun e w' => e = .returned (.tuple #[]) ∧ ∃ X', Stab ky X X' ∧ Srt ky lexB X' ∧ At w g o (L ++ (X' ++ R)) w' := by
  have H0 := hid (At.start h)
  have hlen : L.length + X.length + R.length = N := by rw [← hN]; simp; omega
  obtain ⟨a, ha⟩ : ∃ a, L.length = a := ⟨_, rfl⟩
  obtain ⟨b, hb⟩ : ∃ b, L.length + X.length = b := ⟨_, rfl⟩
  have HLB := hid (And.intro ha hb)
  rw [hb, ha]
  have hab : a ≤ b ∧ b ≤ N := by omega
  clear ha hb h hN
  unfold cmpV
  have hlr : b + R.length = N := by have := HLB.out.2; omega
  have HLR := hid hlr
  clear hlr
  cases X with
  | nil =>
    have hba : a = b := by have := HLB.out; simp at this; omega
    subst hba
    have h1 : ¬ (a : Int) + 1 < (a : Int) := by omega
    have hw1 : IntKind.i64.wrap ((a : Int) + 1) = ((a : Int) + 1) := by rw [IntKind.wrap_i64]; omega
    go_enter Tryz.func213, Tryz.ntmps213
    go_wp2_with fail
    go_loopw [8] (fun x wr => x = .int .i64 ((a : Int) + 1) ∧ wr = w) (fun _ _ => 0)
    case atStart => exact ⟨rfl, rfl⟩
    case round =>
      obtain ⟨rfl, rfl⟩ := hrel
      go_wp2_with fail
      go_end0
      exact ⟨rfl, [], Stab.refl _, List.Pairwise.nil, H0.out⟩
  | cons x0 X =>
    have hlt0 : a < b := by have := HLB.out; simp at this; omega
    clear hlen
    obtain ⟨i0, hi0⟩ : ∃ i0, a + 1 = i0 := ⟨_, rfl⟩
    have hw1 : IntKind.i64.wrap ((a : Int) + 1) = (i0 : Int) := by rw [IntKind.wrap_i64]; omega
    have HO0 : Hid (OutSt L R (x0 :: X) a i0 b (L ++ ((x0 :: X) ++ R)) [x0] X) := ⟨HLB.out.1, by have := HLB.out; simp at this ⊢; omega, by have := HLB.out; simp at this ⊢; omega, by simp, List.pairwise_singleton _ _, Stab.refl _⟩
    have hi1 : i0 ≤ b := by omega
    have hi2 : a < i0 := by omega
    clear hi0
    go_enter Tryz.func213, Tryz.ntmps213
    go_wp2_with fail
    go_loopw [8] (fun x wr => ∃ (i : Nat), x = .int .i64 (i : Int) ∧ i ≤ b ∧ a < i ∧ Hid (∃ D S Y, OutSt L R (x0 :: X) a i b D S Y ∧ At w g o D wr)) (fun x _ => b - (intOf x).toNat)
    case atStart => exact ⟨i0, rfl, hi1, hi2, _, _, _, HO0.out, H0.out⟩
    case round =>
      obtain ⟨i, rfl, hib, hia, HS⟩ := hrel
      by_cases hlt : i < b
      · have hltI : (i : Int) < (b : Int) := by omega
        have hwi : IntKind.i64.wrap ((i : Int) + 1) = ((i + 1 : Nat) : Int) := by rw [IntKind.wrap_i64]; omega
        have HJ0 : Hid (∃ D S1 S2 Y y, InsSt L R (x0 :: X) a i i b D S1 S2 Y y ∧ At w g o D wr) := by
          obtain ⟨D, S, Y, hO, hA⟩ := HS.out
          cases Y with
          | nil => have := hO.li; have := hO.lb; simp at this; omega
          | cons y Y => exact ⟨D, S, [], Y, y, hO.begin, hA⟩
        go_wp2_with fail
        go_loopw [9] (fun x wq => ∃ (j : Nat), x = .int .i64 (j : Int) ∧ a ≤ j ∧ j ≤ i ∧ Hid (∃ D S1 S2 Y y, InsSt L R (x0 :: X) a i j b D S1 S2 Y y ∧ At w g o D wq)) (fun x _ => (intOf x).toNat)
        case atStart => exact ⟨i, rfl, by omega, Nat.le_refl _, HJ0.out⟩
        case round =>
          obtain ⟨j, rfl, hja, hji, HJ⟩ := hrel
          by_cases hgt : a < j
          · have hgtI : (a : Int) < (j : Int) := by omega
            obtain ⟨D, S1, S2, Y, y, hI, hA⟩ := HJ.out
            obtain ⟨T, s, rfl⟩ : ∃ T s, S1 = T ++ [s] := by
              have hne : S1 ≠ [] := by intro e; have h1 := hI.lj; have h2 := hI.la; rw [e] at h1; simp at h1; omega
              exact ⟨S1.dropLast, S1.getLast hne, (List.dropLast_concat_getLast hne).symm⟩
            have hgy := hI.get
            have hgs := hI.getp
            obtain ⟨oy, ry⟩ := hA.range hgy
            obtain ⟨os, rs⟩ := hA.range hgs
            have hDl := hI.len
            have hlr := HLR.out
            have hjN : (j : Int) < (N : Int) := by omega
            obtain ⟨j1, hj1⟩ : ∃ j1, j - 1 = j1 := ⟨_, rfl⟩
            have hwj : IntKind.i64.wrap ((j : Int) - 1) = (j1 : Int) := by rw [IntKind.wrap_i64]; omega
            have hj1N : (j1 : Int) < (N : Int) := by omega
            have HCMP := hid (fun V => compare_any y s V oy os)
            have HCV : Hid (cmpE y.1 s.1 < 0 ↔ lexB y.1 s.1 = true) := cmpE_neg y.1 s.1
            have HST : Hid (lexB y.1 s.1 = true → InsSt L R (x0 :: X) a i j1 b (swap2 D j j1) T (s :: S2) Y y) := fun hl => by rw [← hj1]; exact hI.step hl
            have HDN : Hid (lexB y.1 s.1 = false → OutSt L R (x0 :: X) a (i + 1) b D ((T ++ [s]) ++ y :: S2) Y) := fun hl => hI.done (fun z hz => by
              have hsr := hI.srt
              rcases List.mem_append.1 hz with hz | hz
              · have h1 := (Stb.Srt.append.1 (Stb.Srt.append.1 hsr).1).2.2 z hz s (by simp)
                exact lexOrd.le_le h1 hl
              · rw [List.mem_singleton.1 hz]; exact hl)
            have HAA := hid hA
            rw [hj1] at hgs rs
            have HSW := hid (fun (V : World) (h : At w g o D V) => swap2_at h hgy hgs)
            have Hx : Hid (∀ V, Kp No wr V → V.rangeAt g (o + j * 35) (entC y)) := fun V hV => ((hA.kept hV).range hgy).2
            have Hy : Hid (∀ V, Kp No wr V → V.rangeAt g (o + j1 * 35) (entC s)) := fun V hV => ((hA.kept hV).range hgs).2
            have HIx := hid (inf oy)
            have HIy := hid (inf os)
            have HAx := hid (infA oy)
            have HAy := hid (infA os)
            have HOx := hid (all_oneCell_toArray (entC_one y))
            have HOy := hid (all_oneCell_toArray (entC_one s))
            have hj0 : (1 : Int) ≤ (j : Int) := by omega
            have HJM : Hid (j1 < j ∧ a ≤ j1 ∧ j1 ≤ i) := by rw [Hid]; omega
            obtain ⟨cx, hcx⟩ : ∃ cx, entC y = cx := ⟨_, rfl⟩
            obtain ⟨cy, hcy⟩ : ∃ cy, entC s = cy := ⟨_, rfl⟩
            rw [hcx, hcy] at HCMP
            rw [hcx] at Hx HIx HAx HOx
            rw [hcy] at Hy HIy HAy HOy
            have HCX := hid hcx
            have HCY := hid hcy
            clear hcx hcy
            clear hI hA hgy hgs oy os ry rs hDl hlr hj1
            obtain ⟨z, hzz⟩ : ∃ z, cmpE y.1 s.1 = z := ⟨_, rfl⟩
            rw [hzz] at HCMP HCV
            clear hzz
            go_wp2_with fail
            by_cases hz : z < 0
            · have hls := HCV.out.1 hz
              refine wp_region_held_drew (S := fun V => Kp No wr V) (by kernel_rfl) ((Kp.refl _ _).drew) (fun hHeld => ?_)
              refine wpAnyH_take (i := 0) (oi := { dst := some 18, op := Op.move (Operand.tmp 9), type := 3, pos := "zsortanyfunc.go:12", after := #[], guard := none }) (v := .int .i64 (j : Int)) rfl (by kernel_rfl) (by kernel_rfl) (by kernel_rfl) (fun _ _ _ h => h) (Or.inl ⟨by rfl, fun w' hw' => by (clear hw'; go_simp)⟩) hHeld ?_
              simp only [Act.put, List.setIfInBounds_toArray, List.set_cons_zero, List.set_cons_succ]
              refine wpAnyH_take (i := 1) (oi := { dst := some 19, op := Op.move (Operand.tmp 1), type := 3, pos := "zsortanyfunc.go:12", after := #[], guard := none }) (v := .int .i64 (a : Int)) rfl (by kernel_rfl) (by kernel_rfl) (by kernel_rfl) (fun _ _ _ h => h) (Or.inl ⟨by rfl, fun w' hw' => by (clear hw'; go_simp)⟩) hHeld ?_
              simp only [Act.put, List.setIfInBounds_toArray, List.set_cons_zero, List.set_cons_succ]
              refine wpAnyH_take (i := 2) (oi := { dst := some 20, op := Op.binOp BinOp.gtr 3 (Operand.tmp 18) (Operand.tmp 19) 3, type := 4, pos := "zsortanyfunc.go:12", after := #[{ on := 0, ground := Ground.data }, { on := 1, ground := Ground.data }], guard := none }) (v := .bool true) rfl (by kernel_rfl) (by kernel_rfl) (by kernel_rfl) (fun _ _ _ h => h) (Or.inl ⟨by rfl, fun w' hw' => by (clear hw'; go_simp)⟩) hHeld ?_
              simp only [Act.put, List.setIfInBounds_toArray, List.set_cons_zero, List.set_cons_succ]
              refine wpAnyH_take (i := 3) (oi := { dst := some 21, op := Op.move (Operand.tmp 20), type := 4, pos := "zsortanyfunc.go:12", after := #[{ on := 2, ground := Ground.data }], guard := none }) (v := .bool true) rfl (by kernel_rfl) (by kernel_rfl) (by kernel_rfl) (fun _ _ _ h => h) (Or.inl ⟨by rfl, fun w' hw' => by (clear hw'; go_simp)⟩) hHeld ?_
              simp only [Act.put, List.setIfInBounds_toArray, List.set_cons_zero, List.set_cons_succ]
              refine wpAnyH_take (i := 4) (oi := { dst := some 22, op := Op.move (Operand.tmp 3), type := 222, pos := "zsortanyfunc.go:12", after := #[{ on := 3, ground := Ground.guard }], guard := some (3, true) }) (v := .func (.func 133) #[] #[]) rfl (by kernel_rfl) (by kernel_rfl) (by kernel_rfl) (fun _ _ _ h => h) (Or.inl ⟨by rfl, fun w' hw' => by (clear hw'; go_simp)⟩) hHeld ?_
              simp only [Act.put, List.setIfInBounds_toArray, List.set_cons_zero, List.set_cons_succ]
              refine wpAnyH_take (i := 5) (oi := { dst := some 23, op := Op.move (Operand.tmp 0), type := 81, pos := "zsortanyfunc.go:12", after := #[{ on := 3, ground := Ground.guard }], guard := some (3, true) }) (v := .slice (some ⟨g, o, none⟩) N cap) rfl (by kernel_rfl) (by kernel_rfl) (by kernel_rfl) (fun _ _ _ h => h) (Or.inl ⟨by rfl, fun w' hw' => by (clear hw'; go_simp)⟩) hHeld ?_
              simp only [Act.put, List.setIfInBounds_toArray, List.set_cons_zero, List.set_cons_succ]
              refine wpAnyH_take (i := 6) (oi := { dst := some 24, op := Op.move (Operand.tmp 9), type := 3, pos := "zsortanyfunc.go:12", after := #[{ on := 3, ground := Ground.guard }], guard := some (3, true) }) (v := .int .i64 (j : Int)) rfl (by kernel_rfl) (by kernel_rfl) (by kernel_rfl) (fun _ _ _ h => h) (Or.inl ⟨by rfl, fun w' hw' => by (clear hw'; go_simp)⟩) hHeld ?_
              simp only [Act.put, List.setIfInBounds_toArray, List.set_cons_zero, List.set_cons_succ]
              refine wpAnyH_take (i := 7) (oi := { dst := some 25, op := Op.indexAddr 81 (Operand.tmp 23) (Operand.tmp 24), type := 0, pos := "zsortanyfunc.go:12", after := #[{ on := 5, ground := Ground.data }, { on := 6, ground := Ground.data }, { on := 3, ground := Ground.guard }], guard := some (3, true) }) (v := .pointer (some ⟨g, o + j * 35, none⟩)) rfl (by kernel_rfl) (by kernel_rfl) (by kernel_rfl) (fun _ _ _ h => h) (Or.inl ⟨by rfl, fun w' hw' => by (clear hw'; go_simp)⟩) hHeld ?_
              simp only [Act.put, List.setIfInBounds_toArray, List.set_cons_zero, List.set_cons_succ]
              refine wpAnyH_take (i := 8) (oi := { dst := some 26, op := Op.load 155 (Operand.tmp 25), type := 155, pos := "zsortanyfunc.go:12", after := #[{ on := 7, ground := Ground.data }, { on := 3, ground := Ground.guard }], guard := some (3, true) }) (v := .agg cx.toArray) rfl (by kernel_rfl) (by kernel_rfl) (by kernel_rfl) (fun _ _ _ h => h) (yieldsIf_load_mid (by rfl) _ _ rfl g (o + j * 35) rfl cx _ (Hx.out) Tryz.underlying155 rfl HIx.out) hHeld ?_
              simp only [Act.put, List.setIfInBounds_toArray, List.set_cons_zero, List.set_cons_succ]
              refine wpAnyH_take (i := 9) (oi := { dst := some 27, op := Op.move (Operand.tmp 0), type := 81, pos := "zsortanyfunc.go:12", after := #[{ on := 3, ground := Ground.guard }], guard := some (3, true) }) (v := .slice (some ⟨g, o, none⟩) N cap) rfl (by kernel_rfl) (by kernel_rfl) (by kernel_rfl) (fun _ _ _ h => h) (Or.inl ⟨by rfl, fun w' hw' => by (clear hw'; go_simp)⟩) hHeld ?_
              simp only [Act.put, List.setIfInBounds_toArray, List.set_cons_zero, List.set_cons_succ]
              refine wpAnyH_take (i := 10) (oi := { dst := some 28, op := Op.move (Operand.tmp 9), type := 3, pos := "zsortanyfunc.go:12", after := #[{ on := 3, ground := Ground.guard }], guard := some (3, true) }) (v := .int .i64 (j : Int)) rfl (by kernel_rfl) (by kernel_rfl) (by kernel_rfl) (fun _ _ _ h => h) (Or.inl ⟨by rfl, fun w' hw' => by (clear hw'; go_simp)⟩) hHeld ?_
              simp only [Act.put, List.setIfInBounds_toArray, List.set_cons_zero, List.set_cons_succ]
              refine wpAnyH_take (i := 11) (oi := { dst := some 29, op := Op.binOp BinOp.sub 3 (Operand.tmp 28) (Operand.const (Value.int IntKind.i64 1)) 3, type := 3, pos := "zsortanyfunc.go:12", after := #[{ on := 10, ground := Ground.data }, { on := 3, ground := Ground.guard }], guard := some (3, true) }) (v := .int .i64 (j1 : Int)) rfl (by kernel_rfl) (by kernel_rfl) (by kernel_rfl) (fun _ _ _ h => h) (Or.inl ⟨by rfl, fun w' hw' => by (clear hw'; go_simp)⟩) hHeld ?_
              simp only [Act.put, List.setIfInBounds_toArray, List.set_cons_zero, List.set_cons_succ]
              refine wpAnyH_take (i := 12) (oi := { dst := some 30, op := Op.indexAddr 81 (Operand.tmp 27) (Operand.tmp 29), type := 0, pos := "zsortanyfunc.go:12", after := #[{ on := 9, ground := Ground.data }, { on := 11, ground := Ground.data }, { on := 3, ground := Ground.guard }], guard := some (3, true) }) (v := .pointer (some ⟨g, o + j1 * 35, none⟩)) rfl (by kernel_rfl) (by kernel_rfl) (by kernel_rfl) (fun _ _ _ h => h) (Or.inl ⟨by rfl, fun w' hw' => by (clear hw'; go_simp)⟩) hHeld ?_
              simp only [Act.put, List.setIfInBounds_toArray, List.set_cons_zero, List.set_cons_succ]
              refine wpAnyH_take (i := 13) (oi := { dst := some 31, op := Op.load 155 (Operand.tmp 30), type := 155, pos := "zsortanyfunc.go:12", after := #[{ on := 12, ground := Ground.data }, { on := 3, ground := Ground.guard }], guard := some (3, true) }) (v := .agg cy.toArray) rfl (by kernel_rfl) (by kernel_rfl) (by kernel_rfl) (fun _ _ _ h => h) (yieldsIf_load_mid (by rfl) _ _ rfl g (o + j1 * 35) rfl cy _ (Hy.out) Tryz.underlying155 rfl HIy.out) hHeld ?_
              simp only [Act.put, List.setIfInBounds_toArray, List.set_cons_zero, List.set_cons_succ]
              refine wpAnyH_ready (rs := [14]) (by kernel_rfl) (by simp) ?_
              refine AllReadyH.cons (o := { dst := some 32, op := Op.call { callee := Callee.value (Operand.tmp 22), args := #[Operand.tmp 26, Operand.tmp 31], argTypes := #[155, 155] }, type := 3, pos := "zsortanyfunc.go:12", after := #[{ on := 4, ground := Ground.data }, { on := 8, ground := Ground.data }, { on := 13, ground := Ground.data }, { on := 3, ground := Ground.chain }, { on := 3, ground := Ground.guard }], guard := some (3, true) }) rfl (fun K hK => ?_) AllReadyH.nil
              go_simp
              refine (HCMP.out _).mono ?_
              rintro e w3 ⟨rfl, h3⟩
              have HK3 : Hid (Kp No wr w3) := (Kp.refl No wr).drew.andNone (Kp.below h3)
              clear h3
              go_wp2_with fail
              refine hK.out _ _ (HK3.out) (fun hh => ?_)
              clear hK K hHeld
              have hHeld := hh
              clear hh
              try simp only [Act.put, List.setIfInBounds_toArray, List.set_cons_zero, List.set_cons_succ]
              refine wpAnyH_take (i := 15) (oi := { dst := some 33, op := Op.binOp BinOp.lss 3 (Operand.tmp 32) (Operand.const (Value.int IntKind.i64 0)) 3, type := 4, pos := "zsortanyfunc.go:12", after := #[{ on := 14, ground := Ground.data }, { on := 3, ground := Ground.guard }], guard := some (3, true) }) (v := .bool true) rfl (by kernel_rfl) (by kernel_rfl) (by kernel_rfl) (fun _ _ _ h => h) (Or.inl ⟨by rfl, fun w' hw' => by (clear hw'; go_simp)⟩) hHeld ?_
              simp only [Act.put, List.setIfInBounds_toArray, List.set_cons_zero, List.set_cons_succ]
              refine wpAnyH_take (i := 16) (oi := { dst := some 34, op := Op.pick (Operand.tmp 21) (Operand.tmp 33) (Operand.const (Value.bool false)), type := 4, pos := "zsortanyfunc.go:12", after := #[{ on := 3, ground := Ground.data }, { on := 15, ground := Ground.data }], guard := none }) (v := .bool true) rfl (by kernel_rfl) (by kernel_rfl) (by kernel_rfl) (fun _ _ _ h => h) (Or.inl ⟨by rfl, fun w' hw' => by (clear hw'; go_simp)⟩) hHeld ?_
              simp only [Act.put, List.setIfInBounds_toArray, List.set_cons_zero, List.set_cons_succ]
              refine wpAnyH_done (by kernel_rfl) ?_ _
              obtain ⟨_, _, hrx, hry, ht1, ht2, hfin⟩ := HSW.out w3 (HAA.out.kept HK3.out)
              rw [HCX.out] at hrx ht2 hfin
              rw [HCY.out] at hry ht1 ht2 hfin
              have Hx6 := hid hrx
              have Hy6 := hid hry
              have HT1 := hid ht1
              have HT2 := hid ht2
              have HFIN := hid hfin
              have HST2 := hid (HST.out hls)
              clear hHeld hrx hry ht1 ht2 hfin HSW HST HDN HCV HCMP HAA HK3 Hx Hy hls hz
              go_wp2_with fail
              refine wp_region_held_drew (S := fun _ => True) (by kernel_rfl) trivial (fun hHeld => ?_)
              refine wpAnyH_take (i := 0) (oi := { dst := some 37, op := Op.move (Operand.tmp 0), type := 81, pos := "zsortanyfunc.go:13", after := #[], guard := none }) (v := .slice (some ⟨g, o, none⟩) N cap) rfl (by kernel_rfl) (by kernel_rfl) (by kernel_rfl) (fun _ _ _ h => h) (Or.inl ⟨by rfl, fun w' hw' => by (clear hw'; go_simp)⟩) hHeld ?_
              simp only [Act.put, List.setIfInBounds_toArray, List.set_cons_zero, List.set_cons_succ]
              refine wpAnyH_take (i := 1) (oi := { dst := some 38, op := Op.move (Operand.tmp 9), type := 3, pos := "zsortanyfunc.go:13", after := #[], guard := none }) (v := .int .i64 (j : Int)) rfl (by kernel_rfl) (by kernel_rfl) (by kernel_rfl) (fun _ _ _ h => h) (Or.inl ⟨by rfl, fun w' hw' => by (clear hw'; go_simp)⟩) hHeld ?_
              simp only [Act.put, List.setIfInBounds_toArray, List.set_cons_zero, List.set_cons_succ]
              refine wpAnyH_take (i := 2) (oi := { dst := some 39, op := Op.move (Operand.tmp 0), type := 81, pos := "zsortanyfunc.go:13", after := #[{ on := 15, ground := Ground.gcOnly Departure.lateStores }], guard := none }) (v := .slice (some ⟨g, o, none⟩) N cap) rfl (by kernel_rfl) (by kernel_rfl) (by kernel_rfl) (fun _ _ _ h => h) (Or.inl ⟨by rfl, fun w' hw' => by (clear hw'; go_simp)⟩) hHeld ?_
              simp only [Act.put, List.setIfInBounds_toArray, List.set_cons_zero, List.set_cons_succ]
              refine wpAnyH_take (i := 3) (oi := { dst := some 40, op := Op.move (Operand.tmp 9), type := 3, pos := "zsortanyfunc.go:13", after := #[{ on := 15, ground := Ground.gcOnly Departure.lateStores }], guard := none }) (v := .int .i64 (j : Int)) rfl (by kernel_rfl) (by kernel_rfl) (by kernel_rfl) (fun _ _ _ h => h) (Or.inl ⟨by rfl, fun w' hw' => by (clear hw'; go_simp)⟩) hHeld ?_
              simp only [Act.put, List.setIfInBounds_toArray, List.set_cons_zero, List.set_cons_succ]
              refine wpAnyH_take (i := 4) (oi := { dst := some 41, op := Op.binOp BinOp.sub 3 (Operand.tmp 40) (Operand.const (Value.int IntKind.i64 1)) 3, type := 3, pos := "zsortanyfunc.go:13", after := #[{ on := 3, ground := Ground.data }, { on := 15, ground := Ground.gcOnly Departure.lateStores }], guard := none }) (v := .int .i64 (j1 : Int)) rfl (by kernel_rfl) (by kernel_rfl) (by kernel_rfl) (fun _ _ _ h => h) (Or.inl ⟨by rfl, fun w' hw' => by (clear hw'; go_simp)⟩) hHeld ?_
              simp only [Act.put, List.setIfInBounds_toArray, List.set_cons_zero, List.set_cons_succ]
              refine wpAnyH_take (i := 5) (oi := { dst := some 42, op := Op.move (Operand.tmp 0), type := 81, pos := "zsortanyfunc.go:13", after := #[], guard := none }) (v := .slice (some ⟨g, o, none⟩) N cap) rfl (by kernel_rfl) (by kernel_rfl) (by kernel_rfl) (fun _ _ _ h => h) (Or.inl ⟨by rfl, fun w' hw' => by (clear hw'; go_simp)⟩) hHeld ?_
              simp only [Act.put, List.setIfInBounds_toArray, List.set_cons_zero, List.set_cons_succ]
              refine wpAnyH_take (i := 6) (oi := { dst := some 43, op := Op.move (Operand.tmp 9), type := 3, pos := "zsortanyfunc.go:13", after := #[], guard := none }) (v := .int .i64 (j : Int)) rfl (by kernel_rfl) (by kernel_rfl) (by kernel_rfl) (fun _ _ _ h => h) (Or.inl ⟨by rfl, fun w' hw' => by (clear hw'; go_simp)⟩) hHeld ?_
              simp only [Act.put, List.setIfInBounds_toArray, List.set_cons_zero, List.set_cons_succ]
              refine wpAnyH_take (i := 7) (oi := { dst := some 44, op := Op.binOp BinOp.sub 3 (Operand.tmp 43) (Operand.const (Value.int IntKind.i64 1)) 3, type := 3, pos := "zsortanyfunc.go:13", after := #[{ on := 6, ground := Ground.data }], guard := none }) (v := .int .i64 (j1 : Int)) rfl (by kernel_rfl) (by kernel_rfl) (by kernel_rfl) (fun _ _ _ h => h) (Or.inl ⟨by rfl, fun w' hw' => by (clear hw'; go_simp)⟩) hHeld ?_
              simp only [Act.put, List.setIfInBounds_toArray, List.set_cons_zero, List.set_cons_succ]
              refine wpAnyH_take (i := 8) (oi := { dst := some 45, op := Op.indexAddr 81 (Operand.tmp 42) (Operand.tmp 44), type := 0, pos := "zsortanyfunc.go:13", after := #[{ on := 5, ground := Ground.data }, { on := 7, ground := Ground.data }], guard := none }) (v := .pointer (some ⟨g, o + j1 * 35, none⟩)) rfl (by kernel_rfl) (by kernel_rfl) (by kernel_rfl) (fun _ _ _ h => h) (Or.inl ⟨by rfl, fun w' hw' => by (clear hw'; go_simp)⟩) hHeld ?_
              simp only [Act.put, List.setIfInBounds_toArray, List.set_cons_zero, List.set_cons_succ]
              refine wpAnyH_take (i := 10) (oi := { dst := some 47, op := Op.move (Operand.tmp 0), type := 81, pos := "zsortanyfunc.go:13", after := #[], guard := none }) (v := .slice (some ⟨g, o, none⟩) N cap) rfl (by kernel_rfl) (by kernel_rfl) (by kernel_rfl) (fun _ _ _ h => h) (Or.inl ⟨by rfl, fun w' hw' => by (clear hw'; go_simp)⟩) hHeld ?_
              simp only [Act.put, List.setIfInBounds_toArray, List.set_cons_zero, List.set_cons_succ]
              refine wpAnyH_take (i := 11) (oi := { dst := some 48, op := Op.move (Operand.tmp 9), type := 3, pos := "zsortanyfunc.go:13", after := #[], guard := none }) (v := .int .i64 (j : Int)) rfl (by kernel_rfl) (by kernel_rfl) (by kernel_rfl) (fun _ _ _ h => h) (Or.inl ⟨by rfl, fun w' hw' => by (clear hw'; go_simp)⟩) hHeld ?_
              simp only [Act.put, List.setIfInBounds_toArray, List.set_cons_zero, List.set_cons_succ]
              refine wpAnyH_take (i := 12) (oi := { dst := some 49, op := Op.indexAddr 81 (Operand.tmp 47) (Operand.tmp 48), type := 0, pos := "zsortanyfunc.go:13", after := #[{ on := 10, ground := Ground.data }, { on := 11, ground := Ground.data }], guard := none }) (v := .pointer (some ⟨g, o + j * 35, none⟩)) rfl (by kernel_rfl) (by kernel_rfl) (by kernel_rfl) (fun _ _ _ h => h) (Or.inl ⟨by rfl, fun w' hw' => by (clear hw'; go_simp)⟩) hHeld ?_
              simp only [Act.put, List.setIfInBounds_toArray, List.set_cons_zero, List.set_cons_succ]
              refine wpAnyH_ready (rs := [9, 13]) (by kernel_rfl) (by simp) ?_
              refine AllReadyH.cons (o := { dst := some 46, op := Op.load 155 (Operand.tmp 45), type := 155, pos := "zsortanyfunc.go:13", after := #[{ on := 8, ground := Ground.data }], guard := none }) rfl (fun K hK => ?_) (AllReadyH.cons (o := { dst := some 50, op := Op.load 155 (Operand.tmp 49), type := 155, pos := "zsortanyfunc.go:13", after := #[{ on := 12, ground := Ground.data }], guard := none }) rfl (fun K hK => ?_) AllReadyH.nil)
              · rw [if_pos (by rfl)]
                refine wp_load_mid 155 _ (by rfl) g (o + j1 * 35) (by rfl) cy _ (Hy6.out _ ((Kp.refl No _).drew)) Tryz.underlying155 rfl HIy.out ?_
                refine hK.out _ _ trivial (fun hh => ?_)
                clear hK K hHeld
                have hHeld := hh
                clear hh
                try simp only [Act.put, List.setIfInBounds_toArray, List.set_cons_zero, List.set_cons_succ]
                refine wpAnyH_ready (rs := [13]) (by kernel_rfl) (by simp) ?_
                refine AllReadyH.cons (o := { dst := some 50, op := Op.load 155 (Operand.tmp 49), type := 155, pos := "zsortanyfunc.go:13", after := #[{ on := 12, ground := Ground.data }], guard := none }) rfl (fun K hK => ?_) AllReadyH.nil
                rw [if_pos (by rfl)]
                refine wp_load_mid 155 _ (by rfl) g (o + j * 35) (by rfl) cx _ (Hx6.out _ ((Kp.refl No _).drew)) Tryz.underlying155 rfl HIx.out ?_
                refine hK.out _ _ trivial (fun hh => ?_)
                clear hK K hHeld
                have hHeld := hh
                clear hh
                try simp only [Act.put, List.setIfInBounds_toArray, List.set_cons_zero, List.set_cons_succ]
                refine wpAnyH_take (i := 14) (oi := { dst := some 51, op := Op.indexAddr 81 (Operand.tmp 37) (Operand.tmp 38), type := 0, pos := "zsortanyfunc.go:13", after := #[{ on := 0, ground := Ground.data }, { on := 1, ground := Ground.data }, { on := 0, ground := Ground.phase }, { on := 1, ground := Ground.phase }, { on := 2, ground := Ground.textOnly Departure.lateStores }, { on := 3, ground := Ground.textOnly Departure.lateStores }, { on := 4, ground := Ground.textOnly Departure.lateStores }, { on := 5, ground := Ground.phase }, { on := 6, ground := Ground.phase }, { on := 7, ground := Ground.phase }, { on := 8, ground := Ground.phase }, { on := 9, ground := Ground.phase }, { on := 10, ground := Ground.textOnly Departure.lateStores }, { on := 11, ground := Ground.textOnly Departure.lateStores }, { on := 12, ground := Ground.textOnly Departure.lateStoresUnsure }, { on := 13, ground := Ground.phase }], guard := none }) (v := .pointer (some ⟨g, o + j * 35, none⟩)) rfl (by kernel_rfl) (by kernel_rfl) (by kernel_rfl) (fun _ _ _ h => h) (Or.inl ⟨by rfl, fun w' hw' => by (clear hw'; go_simp)⟩) hHeld ?_
                simp only [Act.put, List.setIfInBounds_toArray, List.set_cons_zero, List.set_cons_succ]
                refine wpAnyH_ready (rs := [15]) (by kernel_rfl) (by simp) ?_
                refine AllReadyH.cons (o := { dst := none, op := Op.store 155 (Operand.tmp 51) (Operand.tmp 46), type := 0, pos := "zsortanyfunc.go:13", after := #[{ on := 14, ground := Ground.data }, { on := 9, ground := Ground.data }, { on := 0, ground := Ground.phase }, { on := 1, ground := Ground.phase }, { on := 2, ground := Ground.textOnly Departure.lateStores }, { on := 3, ground := Ground.textOnly Departure.lateStores }, { on := 4, ground := Ground.textOnly Departure.lateStores }, { on := 5, ground := Ground.phase }, { on := 6, ground := Ground.phase }, { on := 7, ground := Ground.phase }, { on := 8, ground := Ground.phase }, { on := 9, ground := Ground.phase }, { on := 10, ground := Ground.textOnly Departure.lateStores }, { on := 11, ground := Ground.textOnly Departure.lateStores }, { on := 12, ground := Ground.textOnly Departure.lateStoresUnsure }, { on := 13, ground := Ground.phase }], guard := none }) rfl (fun K hK => ?_) AllReadyH.nil
                rw [if_pos (by rfl)]
                refine wp_store_mid 155 _ _ (by rfl) g (o + j * 35) cy.toArray (by rfl) (by rfl) HT1.out HAy.out HOy.out ?_
                refine hK.out _ _ trivial (fun hh => ?_)
                clear hK K hHeld
                have hHeld := hh
                clear hh
                simp only [Act.put]
                refine wpAnyH_take (i := 16) (oi := { dst := some 52, op := Op.indexAddr 81 (Operand.tmp 39) (Operand.tmp 41), type := 0, pos := "zsortanyfunc.go:13", after := #[{ on := 2, ground := Ground.data }, { on := 4, ground := Ground.data }, { on := 0, ground := Ground.phase }, { on := 1, ground := Ground.phase }, { on := 2, ground := Ground.phase }, { on := 3, ground := Ground.phase }, { on := 4, ground := Ground.phase }, { on := 5, ground := Ground.phase }, { on := 6, ground := Ground.phase }, { on := 7, ground := Ground.phase }, { on := 8, ground := Ground.phase }, { on := 9, ground := Ground.phase }, { on := 10, ground := Ground.phase }, { on := 11, ground := Ground.phase }, { on := 12, ground := Ground.phase }, { on := 13, ground := Ground.phase }, { on := 14, ground := Ground.phase }, { on := 15, ground := Ground.phase }], guard := none }) (v := .pointer (some ⟨g, o + j1 * 35, none⟩)) rfl (by kernel_rfl) (by kernel_rfl) (by kernel_rfl) (fun _ _ _ h => h) (Or.inl ⟨by rfl, fun w' hw' => by (clear hw'; go_simp)⟩) hHeld ?_
                simp only [Act.put, List.setIfInBounds_toArray, List.set_cons_zero, List.set_cons_succ]
                refine wpAnyH_ready (rs := [17]) (by kernel_rfl) (by simp) ?_
                refine AllReadyH.cons (o := { dst := none, op := Op.store 155 (Operand.tmp 52) (Operand.tmp 50), type := 0, pos := "zsortanyfunc.go:13", after := #[{ on := 16, ground := Ground.data }, { on := 13, ground := Ground.data }, { on := 15, ground := Ground.chain }, { on := 0, ground := Ground.phase }, { on := 1, ground := Ground.phase }, { on := 2, ground := Ground.phase }, { on := 3, ground := Ground.phase }, { on := 4, ground := Ground.phase }, { on := 5, ground := Ground.phase }, { on := 6, ground := Ground.phase }, { on := 7, ground := Ground.phase }, { on := 8, ground := Ground.phase }, { on := 9, ground := Ground.phase }, { on := 10, ground := Ground.phase }, { on := 11, ground := Ground.phase }, { on := 12, ground := Ground.phase }, { on := 13, ground := Ground.phase }, { on := 14, ground := Ground.phase }, { on := 15, ground := Ground.phase }], guard := none }) rfl (fun K hK => ?_) AllReadyH.nil
                rw [if_pos (by rfl)]
                refine wp_store_mid 155 _ _ (by rfl) g (o + j1 * 35) cx.toArray (by rfl) (by rfl) HT2.out HAx.out HOx.out ?_
                refine hK.out _ _ trivial (fun hh => ?_)
                clear hK K hHeld
                have hHeld := hh
                clear hh
                simp only [Act.put]
                refine wpAnyH_done (by kernel_rfl) ?_ _
                go_wp2_with fail
                go_round
                case rel => exact ⟨j1, rfl, HJM.out.2.1, HJM.out.2.2, _, _, _, _, _, HST2.out, HFIN.out⟩
                case measure => simp [intOf]; have := HJM.out; omega
              · rw [if_pos (by rfl)]
                refine wp_load_mid 155 _ (by rfl) g (o + j * 35) (by rfl) cx _ (Hx6.out _ ((Kp.refl No _).drew)) Tryz.underlying155 rfl HIx.out ?_
                refine hK.out _ _ trivial (fun hh => ?_)
                clear hK K hHeld
                have hHeld := hh
                clear hh
                try simp only [Act.put, List.setIfInBounds_toArray, List.set_cons_zero, List.set_cons_succ]
                refine wpAnyH_ready (rs := [9]) (by kernel_rfl) (by simp) ?_
                refine AllReadyH.cons (o := { dst := some 46, op := Op.load 155 (Operand.tmp 45), type := 155, pos := "zsortanyfunc.go:13", after := #[{ on := 8, ground := Ground.data }], guard := none }) rfl (fun K hK => ?_) AllReadyH.nil
                rw [if_pos (by rfl)]
                refine wp_load_mid 155 _ (by rfl) g (o + j1 * 35) (by rfl) cy _ (Hy6.out _ ((Kp.refl No _).drew)) Tryz.underlying155 rfl HIy.out ?_
                refine hK.out _ _ trivial (fun hh => ?_)
                clear hK K hHeld
                have hHeld := hh
                clear hh
                try simp only [Act.put, List.setIfInBounds_toArray, List.set_cons_zero, List.set_cons_succ]
                refine wpAnyH_take (i := 14) (oi := { dst := some 51, op := Op.indexAddr 81 (Operand.tmp 37) (Operand.tmp 38), type := 0, pos := "zsortanyfunc.go:13", after := #[{ on := 0, ground := Ground.data }, { on := 1, ground := Ground.data }, { on := 0, ground := Ground.phase }, { on := 1, ground := Ground.phase }, { on := 2, ground := Ground.textOnly Departure.lateStores }, { on := 3, ground := Ground.textOnly Departure.lateStores }, { on := 4, ground := Ground.textOnly Departure.lateStores }, { on := 5, ground := Ground.phase }, { on := 6, ground := Ground.phase }, { on := 7, ground := Ground.phase }, { on := 8, ground := Ground.phase }, { on := 9, ground := Ground.phase }, { on := 10, ground := Ground.textOnly Departure.lateStores }, { on := 11, ground := Ground.textOnly Departure.lateStores }, { on := 12, ground := Ground.textOnly Departure.lateStoresUnsure }, { on := 13, ground := Ground.phase }], guard := none }) (v := .pointer (some ⟨g, o + j * 35, none⟩)) rfl (by kernel_rfl) (by kernel_rfl) (by kernel_rfl) (fun _ _ _ h => h) (Or.inl ⟨by rfl, fun w' hw' => by (clear hw'; go_simp)⟩) hHeld ?_
                simp only [Act.put, List.setIfInBounds_toArray, List.set_cons_zero, List.set_cons_succ]
                refine wpAnyH_ready (rs := [15]) (by kernel_rfl) (by simp) ?_
                refine AllReadyH.cons (o := { dst := none, op := Op.store 155 (Operand.tmp 51) (Operand.tmp 46), type := 0, pos := "zsortanyfunc.go:13", after := #[{ on := 14, ground := Ground.data }, { on := 9, ground := Ground.data }, { on := 0, ground := Ground.phase }, { on := 1, ground := Ground.phase }, { on := 2, ground := Ground.textOnly Departure.lateStores }, { on := 3, ground := Ground.textOnly Departure.lateStores }, { on := 4, ground := Ground.textOnly Departure.lateStores }, { on := 5, ground := Ground.phase }, { on := 6, ground := Ground.phase }, { on := 7, ground := Ground.phase }, { on := 8, ground := Ground.phase }, { on := 9, ground := Ground.phase }, { on := 10, ground := Ground.textOnly Departure.lateStores }, { on := 11, ground := Ground.textOnly Departure.lateStores }, { on := 12, ground := Ground.textOnly Departure.lateStoresUnsure }, { on := 13, ground := Ground.phase }], guard := none }) rfl (fun K hK => ?_) AllReadyH.nil
                rw [if_pos (by rfl)]
                refine wp_store_mid 155 _ _ (by rfl) g (o + j * 35) cy.toArray (by rfl) (by rfl) HT1.out HAy.out HOy.out ?_
                refine hK.out _ _ trivial (fun hh => ?_)
                clear hK K hHeld
                have hHeld := hh
                clear hh
                simp only [Act.put]
                refine wpAnyH_take (i := 16) (oi := { dst := some 52, op := Op.indexAddr 81 (Operand.tmp 39) (Operand.tmp 41), type := 0, pos := "zsortanyfunc.go:13", after := #[{ on := 2, ground := Ground.data }, { on := 4, ground := Ground.data }, { on := 0, ground := Ground.phase }, { on := 1, ground := Ground.phase }, { on := 2, ground := Ground.phase }, { on := 3, ground := Ground.phase }, { on := 4, ground := Ground.phase }, { on := 5, ground := Ground.phase }, { on := 6, ground := Ground.phase }, { on := 7, ground := Ground.phase }, { on := 8, ground := Ground.phase }, { on := 9, ground := Ground.phase }, { on := 10, ground := Ground.phase }, { on := 11, ground := Ground.phase }, { on := 12, ground := Ground.phase }, { on := 13, ground := Ground.phase }, { on := 14, ground := Ground.phase }, { on := 15, ground := Ground.phase }], guard := none }) (v := .pointer (some ⟨g, o + j1 * 35, none⟩)) rfl (by kernel_rfl) (by kernel_rfl) (by kernel_rfl) (fun _ _ _ h => h) (Or.inl ⟨by rfl, fun w' hw' => by (clear hw'; go_simp)⟩) hHeld ?_
                simp only [Act.put, List.setIfInBounds_toArray, List.set_cons_zero, List.set_cons_succ]
                refine wpAnyH_ready (rs := [17]) (by kernel_rfl) (by simp) ?_
                refine AllReadyH.cons (o := { dst := none, op := Op.store 155 (Operand.tmp 52) (Operand.tmp 50), type := 0, pos := "zsortanyfunc.go:13", after := #[{ on := 16, ground := Ground.data }, { on := 13, ground := Ground.data }, { on := 15, ground := Ground.chain }, { on := 0, ground := Ground.phase }, { on := 1, ground := Ground.phase }, { on := 2, ground := Ground.phase }, { on := 3, ground := Ground.phase }, { on := 4, ground := Ground.phase }, { on := 5, ground := Ground.phase }, { on := 6, ground := Ground.phase }, { on := 7, ground := Ground.phase }, { on := 8, ground := Ground.phase }, { on := 9, ground := Ground.phase }, { on := 10, ground := Ground.phase }, { on := 11, ground := Ground.phase }, { on := 12, ground := Ground.phase }, { on := 13, ground := Ground.phase }, { on := 14, ground := Ground.phase }, { on := 15, ground := Ground.phase }], guard := none }) rfl (fun K hK => ?_) AllReadyH.nil
                rw [if_pos (by rfl)]
                refine wp_store_mid 155 _ _ (by rfl) g (o + j1 * 35) cx.toArray (by rfl) (by rfl) HT2.out HAx.out HOx.out ?_
                refine hK.out _ _ trivial (fun hh => ?_)
                clear hK K hHeld
                have hHeld := hh
                clear hh
                simp only [Act.put]
                refine wpAnyH_done (by kernel_rfl) ?_ _
                go_wp2_with fail
                go_round
                case rel => exact ⟨j1, rfl, HJM.out.2.1, HJM.out.2.2, _, _, _, _, _, HST2.out, HFIN.out⟩
                case measure => simp [intOf]; have := HJM.out; omega
            · have hls : lexB y.1 s.1 = false := by
                cases hb : lexB y.1 s.1 with
                | false => rfl
                | true => exact absurd (HCV.out.2 hb) hz
              have HO1 := hid (HDN.out hls)
              clear hls HCV HST HDN HSW
              refine wp_region_held_drew (S := fun V => Kp No wr V) (by kernel_rfl) ((Kp.refl _ _).drew) (fun hHeld => ?_)
              refine wpAnyH_take (i := 0) (oi := { dst := some 18, op := Op.move (Operand.tmp 9), type := 3, pos := "zsortanyfunc.go:12", after := #[], guard := none }) (v := .int .i64 (j : Int)) rfl (by kernel_rfl) (by kernel_rfl) (by kernel_rfl) (fun _ _ _ h => h) (Or.inl ⟨by rfl, fun w' hw' => by (clear hw'; go_simp)⟩) hHeld ?_
              simp only [Act.put, List.setIfInBounds_toArray, List.set_cons_zero, List.set_cons_succ]
              refine wpAnyH_take (i := 1) (oi := { dst := some 19, op := Op.move (Operand.tmp 1), type := 3, pos := "zsortanyfunc.go:12", after := #[], guard := none }) (v := .int .i64 (a : Int)) rfl (by kernel_rfl) (by kernel_rfl) (by kernel_rfl) (fun _ _ _ h => h) (Or.inl ⟨by rfl, fun w' hw' => by (clear hw'; go_simp)⟩) hHeld ?_
              simp only [Act.put, List.setIfInBounds_toArray, List.set_cons_zero, List.set_cons_succ]
              refine wpAnyH_take (i := 2) (oi := { dst := some 20, op := Op.binOp BinOp.gtr 3 (Operand.tmp 18) (Operand.tmp 19) 3, type := 4, pos := "zsortanyfunc.go:12", after := #[{ on := 0, ground := Ground.data }, { on := 1, ground := Ground.data }], guard := none }) (v := .bool true) rfl (by kernel_rfl) (by kernel_rfl) (by kernel_rfl) (fun _ _ _ h => h) (Or.inl ⟨by rfl, fun w' hw' => by (clear hw'; go_simp)⟩) hHeld ?_
              simp only [Act.put, List.setIfInBounds_toArray, List.set_cons_zero, List.set_cons_succ]
              refine wpAnyH_take (i := 3) (oi := { dst := some 21, op := Op.move (Operand.tmp 20), type := 4, pos := "zsortanyfunc.go:12", after := #[{ on := 2, ground := Ground.data }], guard := none }) (v := .bool true) rfl (by kernel_rfl) (by kernel_rfl) (by kernel_rfl) (fun _ _ _ h => h) (Or.inl ⟨by rfl, fun w' hw' => by (clear hw'; go_simp)⟩) hHeld ?_
              simp only [Act.put, List.setIfInBounds_toArray, List.set_cons_zero, List.set_cons_succ]
              refine wpAnyH_take (i := 4) (oi := { dst := some 22, op := Op.move (Operand.tmp 3), type := 222, pos := "zsortanyfunc.go:12", after := #[{ on := 3, ground := Ground.guard }], guard := some (3, true) }) (v := .func (.func 133) #[] #[]) rfl (by kernel_rfl) (by kernel_rfl) (by kernel_rfl) (fun _ _ _ h => h) (Or.inl ⟨by rfl, fun w' hw' => by (clear hw'; go_simp)⟩) hHeld ?_
              simp only [Act.put, List.setIfInBounds_toArray, List.set_cons_zero, List.set_cons_succ]
              refine wpAnyH_take (i := 5) (oi := { dst := some 23, op := Op.move (Operand.tmp 0), type := 81, pos := "zsortanyfunc.go:12", after := #[{ on := 3, ground := Ground.guard }], guard := some (3, true) }) (v := .slice (some ⟨g, o, none⟩) N cap) rfl (by kernel_rfl) (by kernel_rfl) (by kernel_rfl) (fun _ _ _ h => h) (Or.inl ⟨by rfl, fun w' hw' => by (clear hw'; go_simp)⟩) hHeld ?_
              simp only [Act.put, List.setIfInBounds_toArray, List.set_cons_zero, List.set_cons_succ]
              refine wpAnyH_take (i := 6) (oi := { dst := some 24, op := Op.move (Operand.tmp 9), type := 3, pos := "zsortanyfunc.go:12", after := #[{ on := 3, ground := Ground.guard }], guard := some (3, true) }) (v := .int .i64 (j : Int)) rfl (by kernel_rfl) (by kernel_rfl) (by kernel_rfl) (fun _ _ _ h => h) (Or.inl ⟨by rfl, fun w' hw' => by (clear hw'; go_simp)⟩) hHeld ?_
              simp only [Act.put, List.setIfInBounds_toArray, List.set_cons_zero, List.set_cons_succ]
              refine wpAnyH_take (i := 7) (oi := { dst := some 25, op := Op.indexAddr 81 (Operand.tmp 23) (Operand.tmp 24), type := 0, pos := "zsortanyfunc.go:12", after := #[{ on := 5, ground := Ground.data }, { on := 6, ground := Ground.data }, { on := 3, ground := Ground.guard }], guard := some (3, true) }) (v := .pointer (some ⟨g, o + j * 35, none⟩)) rfl (by kernel_rfl) (by kernel_rfl) (by kernel_rfl) (fun _ _ _ h => h) (Or.inl ⟨by rfl, fun w' hw' => by (clear hw'; go_simp)⟩) hHeld ?_
              simp only [Act.put, List.setIfInBounds_toArray, List.set_cons_zero, List.set_cons_succ]
              refine wpAnyH_take (i := 8) (oi := { dst := some 26, op := Op.load 155 (Operand.tmp 25), type := 155, pos := "zsortanyfunc.go:12", after := #[{ on := 7, ground := Ground.data }, { on := 3, ground := Ground.guard }], guard := some (3, true) }) (v := .agg cx.toArray) rfl (by kernel_rfl) (by kernel_rfl) (by kernel_rfl) (fun _ _ _ h => h) (yieldsIf_load_mid (by rfl) _ _ rfl g (o + j * 35) rfl cx _ (Hx.out) Tryz.underlying155 rfl HIx.out) hHeld ?_
              simp only [Act.put, List.setIfInBounds_toArray, List.set_cons_zero, List.set_cons_succ]
              refine wpAnyH_take (i := 9) (oi := { dst := some 27, op := Op.move (Operand.tmp 0), type := 81, pos := "zsortanyfunc.go:12", after := #[{ on := 3, ground := Ground.guard }], guard := some (3, true) }) (v := .slice (some ⟨g, o, none⟩) N cap) rfl (by kernel_rfl) (by kernel_rfl) (by kernel_rfl) (fun _ _ _ h => h) (Or.inl ⟨by rfl, fun w' hw' => by (clear hw'; go_simp)⟩) hHeld ?_
              simp only [Act.put, List.setIfInBounds_toArray, List.set_cons_zero, List.set_cons_succ]
              refine wpAnyH_take (i := 10) (oi := { dst := some 28, op := Op.move (Operand.tmp 9), type := 3, pos := "zsortanyfunc.go:12", after := #[{ on := 3, ground := Ground.guard }], guard := some (3, true) }) (v := .int .i64 (j : Int)) rfl (by kernel_rfl) (by kernel_rfl) (by kernel_rfl) (fun _ _ _ h => h) (Or.inl ⟨by rfl, fun w' hw' => by (clear hw'; go_simp)⟩) hHeld ?_
              simp only [Act.put, List.setIfInBounds_toArray, List.set_cons_zero, List.set_cons_succ]
              refine wpAnyH_take (i := 11) (oi := { dst := some 29, op := Op.binOp BinOp.sub 3 (Operand.tmp 28) (Operand.const (Value.int IntKind.i64 1)) 3, type := 3, pos := "zsortanyfunc.go:12", after := #[{ on := 10, ground := Ground.data }, { on := 3, ground := Ground.guard }], guard := some (3, true) }) (v := .int .i64 (j1 : Int)) rfl (by kernel_rfl) (by kernel_rfl) (by kernel_rfl) (fun _ _ _ h => h) (Or.inl ⟨by rfl, fun w' hw' => by (clear hw'; go_simp)⟩) hHeld ?_
              simp only [Act.put, List.setIfInBounds_toArray, List.set_cons_zero, List.set_cons_succ]
              refine wpAnyH_take (i := 12) (oi := { dst := some 30, op := Op.indexAddr 81 (Operand.tmp 27) (Operand.tmp 29), type := 0, pos := "zsortanyfunc.go:12", after := #[{ on := 9, ground := Ground.data }, { on := 11, ground := Ground.data }, { on := 3, ground := Ground.guard }], guard := some (3, true) }) (v := .pointer (some ⟨g, o + j1 * 35, none⟩)) rfl (by kernel_rfl) (by kernel_rfl) (by kernel_rfl) (fun _ _ _ h => h) (Or.inl ⟨by rfl, fun w' hw' => by (clear hw'; go_simp)⟩) hHeld ?_
              simp only [Act.put, List.setIfInBounds_toArray, List.set_cons_zero, List.set_cons_succ]
              refine wpAnyH_take (i := 13) (oi := { dst := some 31, op := Op.load 155 (Operand.tmp 30), type := 155, pos := "zsortanyfunc.go:12", after := #[{ on := 12, ground := Ground.data }, { on := 3, ground := Ground.guard }], guard := some (3, true) }) (v := .agg cy.toArray) rfl (by kernel_rfl) (by kernel_rfl) (by kernel_rfl) (fun _ _ _ h => h) (yieldsIf_load_mid (by rfl) _ _ rfl g (o + j1 * 35) rfl cy _ (Hy.out) Tryz.underlying155 rfl HIy.out) hHeld ?_
              simp only [Act.put, List.setIfInBounds_toArray, List.set_cons_zero, List.set_cons_succ]
              refine wpAnyH_ready (rs := [14]) (by kernel_rfl) (by simp) ?_
              refine AllReadyH.cons (o := { dst := some 32, op := Op.call { callee := Callee.value (Operand.tmp 22), args := #[Operand.tmp 26, Operand.tmp 31], argTypes := #[155, 155] }, type := 3, pos := "zsortanyfunc.go:12", after := #[{ on := 4, ground := Ground.data }, { on := 8, ground := Ground.data }, { on := 13, ground := Ground.data }, { on := 3, ground := Ground.chain }, { on := 3, ground := Ground.guard }], guard := some (3, true) }) rfl (fun K hK => ?_) AllReadyH.nil
              go_simp
              refine (HCMP.out _).mono ?_
              rintro e w3 ⟨rfl, h3⟩
              have HK3 : Hid (Kp No wr w3) := (Kp.refl No wr).drew.andNone (Kp.below h3)
              clear h3
              go_wp2_with fail
              refine hK.out _ _ (HK3.out) (fun hh => ?_)
              clear hK K hHeld
              have hHeld := hh
              clear hh
              try simp only [Act.put, List.setIfInBounds_toArray, List.set_cons_zero, List.set_cons_succ]
              refine wpAnyH_take (i := 15) (oi := { dst := some 33, op := Op.binOp BinOp.lss 3 (Operand.tmp 32) (Operand.const (Value.int IntKind.i64 0)) 3, type := 4, pos := "zsortanyfunc.go:12", after := #[{ on := 14, ground := Ground.data }, { on := 3, ground := Ground.guard }], guard := some (3, true) }) (v := .bool false) rfl (by kernel_rfl) (by kernel_rfl) (by kernel_rfl) (fun _ _ _ h => h) (Or.inl ⟨by rfl, fun w' hw' => by (clear hw'; go_simp)⟩) hHeld ?_
              simp only [Act.put, List.setIfInBounds_toArray, List.set_cons_zero, List.set_cons_succ]
              refine wpAnyH_take (i := 16) (oi := { dst := some 34, op := Op.pick (Operand.tmp 21) (Operand.tmp 33) (Operand.const (Value.bool false)), type := 4, pos := "zsortanyfunc.go:12", after := #[{ on := 3, ground := Ground.data }, { on := 15, ground := Ground.data }], guard := none }) (v := .bool false) rfl (by kernel_rfl) (by kernel_rfl) (by kernel_rfl) (fun _ _ _ h => h) (Or.inl ⟨by rfl, fun w' hw' => by (clear hw'; go_simp)⟩) hHeld ?_
              simp only [Act.put, List.setIfInBounds_toArray, List.set_cons_zero, List.set_cons_succ]
              refine wpAnyH_done (by kernel_rfl) ?_ _
              have HA3 := hid (HAA.out.kept HK3.out)
              clear hHeld HK3 HCMP Hx Hy HIx HIy HAx HAy HOx HOy HAA
              go_wp2_with fail
              go_round
              case rel => exact ⟨i + 1, by go_num, by omega, by omega, _, _, _, HO1.out, HA3.out⟩
              case measure => simp [intOf]; omega
          · have hgtI : ¬ (a : Int) < (j : Int) := by omega
            have HD : Hid (∃ D S Y, OutSt L R (x0 :: X) a (i + 1) b D S Y ∧ ∀ V, Kp No wr V → At w g o D V) := by
              obtain ⟨D, S1, S2, Y, y, hI, hA⟩ := HJ.out
              have hS1 : S1 = [] := by
                have h1 := hI.lj
                have h2 := hI.la
                exact List.length_eq_zero_iff.1 (by omega)
              exact ⟨D, _, _, hI.done (fun z hz => by rw [hS1] at hz; cases hz), fun V hV => hA.kept hV⟩
            go_wp2_with fail
            go_region
            all_goals
              go_wp2_with fail
              go_round
              case rel =>
                obtain ⟨D, S, Y, h1, h2⟩ := HD.out
                exact ⟨i + 1, by go_num, by omega, by omega, D, S, Y, h1, h2 _ ((Kp.refl _ _).drew)⟩
              case measure => simp [intOf]; omega
      · have hltI : ¬ (i : Int) < (b : Int) := by omega
        go_wp2_with fail
        go_end0
        obtain ⟨D, S, Y, hO, hA⟩ := HS.out
        have hY : Y = [] := by
          have h1 := hO.li
          have h2 := hO.lb
          exact List.length_eq_zero_iff.1 (by omega)
        subst hY
        have hd := hO.d
        rw [List.nil_append] at hd
        rw [hd] at hA
        exact ⟨rfl, S, by simpa using hO.st, hO.srt, hA⟩
end Go.Proofs.YthmimipoooemjaaGreatDoor.Sg
end

section
/-
  One entry is merged into the sorted ones behind it.
-/
namespace Go.Proofs.YthmimipoooemjaaGreatDoor.Sg
open Go.RowKit
open Stb (Stab Srt Mrg)
open Sim (hid Kp No)

/-- What a search by halves has found so far. -/
structure Half (p : Ent → Bool) (B : List Ent) (i j : Nat) : Prop where
  le : i ≤ j
  len : j ≤ B.length
  lo : ∀ (t : Nat) (z : Ent), t < i → B[t]? = some z → p z = true
  hi : ∀ (t : Nat) (z : Ent), j ≤ t → B[t]? = some z → p z = false
theorem Half.begin (p : Ent → Bool) (B : List Ent) : Half p B 0 B.length := ⟨Nat.zero_le _, Nat.le_refl _, fun t z h => by omega, fun t z h1 h2 => by have := (List.getElem?_eq_some_iff.1 h2).1; omega⟩
theorem Half.yes {p : Ent → Bool} {B : List Ent} {i j h : Nat} {z : Ent} (H : Half p B i j) (hij : h < j) (_hih : i ≤ h) (hz : B[h]? = some z) (hp : p z = true) (mono : ∀ (t u : Nat) (x y : Ent), t ≤ u → B[t]? = some x → B[u]? = some y → p y = true → p x = true) : Half p B (h + 1) j :=
  ⟨by omega, H.len, fun t x ht hx => mono t h x z (by omega) hx hz hp, H.hi⟩
theorem Half.no {p : Ent → Bool} {B : List Ent} {i j h : Nat} {z : Ent} (H : Half p B i j) (hij : h < j) (hih : i ≤ h) (hz : B[h]? = some z) (hp : p z = false) (mono : ∀ (t u : Nat) (x y : Ent), t ≤ u → B[t]? = some x → B[u]? = some y → p y = true → p x = true) : Half p B i h :=
  ⟨hih, by have := H.len; omega, H.lo, fun t x ht hx => by
    cases hpx : p x with
    | false => rfl
    | true => rw [mono h t z x ht hz hx hpx] at hp; cases hp⟩
theorem Half.end {p : Ent → Bool} {B : List Ent} {i : Nat} (H : Half p B i i) : (∀ z ∈ B.take i, p z = true) ∧ ∀ z ∈ B.drop i, p z = false := by
  refine ⟨fun z hz => ?_, fun z hz => ?_⟩
  · obtain ⟨t, ht⟩ := List.mem_iff_getElem?.1 hz
    have hlt : t < i := by have := (List.getElem?_eq_some_iff.1 ht).1; rw [List.length_take] at this; omega
    rw [List.getElem?_take_of_lt hlt] at ht
    exact H.lo t z hlt ht
  · obtain ⟨t, ht⟩ := List.mem_iff_getElem?.1 hz
    rw [List.getElem?_drop] at ht
    exact H.hi _ z (by omega) ht
theorem srt_mono {B : List Ent} (hs : Srt ky lexB B) (x : Ent) : ∀ (t u : Nat) (y z : Ent), t ≤ u → B[t]? = some y → B[u]? = some z → lexB z.1 x.1 = true → lexB y.1 x.1 = true := fun t u y z htu hy hz hl => by
  by_cases e : t = u
  · subst e; rw [hy] at hz; cases hz; exact hl
  · have hu := (List.getElem?_eq_some_iff.1 hz)
    have ht := (List.getElem?_eq_some_iff.1 hy)
    obtain ⟨hu1, hu2⟩ := hu
    obtain ⟨ht1, ht2⟩ := ht
    have := List.pairwise_iff_getElem.1 hs t u ht1 hu1 (by omega)
    rw [ht2, hu2] at this
    exact lexOrd.le_lt this hl
theorem get_mid {L A R : List Ent} {t : Nat} {z : Ent} (h : A[t]? = some z) : (L ++ (A ++ R))[L.length + t]? = some z := by
  have hl := (List.getElem?_eq_some_iff.1 h).1
  rw [List.getElem?_append_right (by omega), show L.length + t - L.length = t by omega, List.getElem?_append_left hl]
  exact h

/-- x moves up through those that stand ahead of it. -/
def UpSt (L B1 B2 R : List Ent) (x : Ent) (k : Nat) (D : List Ent) : Prop := ∃ S T, B1 = S ++ T ∧ L.length + S.length = k ∧ D = L ++ (S ++ (x :: (T ++ (B2 ++ R))))
theorem UpSt.step {L B1 B2 R D : List Ent} {x : Ent} {k : Nat} (h : UpSt L B1 B2 R x k D) (hk : k < L.length + B1.length) : UpSt L B1 B2 R x (k + 1) (swap2 D k (k + 1)) ∧ (∃ y, D[k + 1]? = some y) ∧ D[k]? = some x := by
  obtain ⟨S, T, rfl, hl, rfl⟩ := h
  cases T with
  | nil => simp at hk; omega
  | cons y T =>
    have e1 : L ++ (S ++ (x :: ((y :: T) ++ (B2 ++ R)))) = (L ++ S) ++ x :: y :: (T ++ (B2 ++ R)) := by simp
    have hlen : (L ++ S).length = k := by simp [hl]
    refine ⟨⟨S ++ [y], T, by simp, by simp; omega, ?_⟩, ⟨y, ?_⟩, ?_⟩
    · have e := swap2_back (L ++ S) (T ++ (B2 ++ R)) x y
      rw [swap2_comm _ (by omega), hlen] at e
      rw [e1, e]
      simp
    · rw [e1, List.getElem?_append_right (by omega), hlen, show k + 1 - k = 1 by omega]
      rfl
    · rw [e1, List.getElem?_append_right (by omega), hlen, Nat.sub_self]
      rfl
theorem UpSt.len {L B1 B2 R D : List Ent} {x : Ent} {k : Nat} (h : UpSt L B1 B2 R x k D) : D.length = L.length + B1.length + 1 + B2.length + R.length := by
  obtain ⟨S, T, rfl, hl, rfl⟩ := h
  simp
  omega

set_option maxHeartbeats 4000000 in
set_option maxRecDepth 100000 in
theorem symA_any (w : World) (g o : Nat) (L B R : List Ent) (x : Ent) (N cap : Nat) (h : EOwn w g o (L ++ ([x] ++ (B ++ R)))) (hN : (L ++ ([x] ++ (B ++ R))).length = N) (hl : N ≤ 1000000) (hs : Srt ky lexB B) :
    Calls Tryz.prog 214 #[.slice (some ⟨g, o, none⟩) N cap, .int .i64 (L.length : Int), .int .i64 ((L.length + 1 : Nat) : Int), .int .i64 ((L.length + 1 + B.length : Nat) : Int), cmpV] w fun e w' => e = .returned (.tuple #[]) ∧ ∃ M, Mrg ky lexB [x] B M ∧ At w g o (L ++ (M ++ R)) w' := by
  have H0 := hid (At.start h)
  have hlen : L.length + 1 + B.length + R.length = N := by rw [← hN]; simp; omega
  have hxok : EOk x := h.1.ok x (by simp)
  have hBok : ∀ z ∈ B, EOk z := fun z hz => h.1.ok z (by simp [hz])
  have HX := hid hxok
  have HBOK := hid hBok
  have HMONO := hid (srt_mono hs x)
  have HSRT := hid hs
  have HDX : Hid ((L ++ ([x] ++ (B ++ R)))[L.length]? = some x) := by rw [Hid]; simp
  have HDB : Hid (∀ (t : Nat) (z : Ent), B[t]? = some z → (L ++ ([x] ++ (B ++ R)))[L.length + 1 + t]? = some z) := fun t z hz => by
    have := get_mid (L := L ++ [x]) (R := R) hz
    simpa [List.append_assoc] using this
  obtain ⟨D, hD⟩ : ∃ D, L ++ ([x] ++ (B ++ R)) = D := ⟨_, rfl⟩
  rw [hD] at H0 HDX HDB
  have HD := hid hD
  obtain ⟨a, ha⟩ : ∃ a, L.length = a := ⟨_, rfl⟩
  obtain ⟨m, hm⟩ : ∃ m, a + 1 = m := ⟨_, rfl⟩
  obtain ⟨b, hb⟩ : ∃ b, m + B.length = b := ⟨_, rfl⟩
  rw [ha, hm, hb]
  rw [ha] at HDX HDB
  rw [hm] at HDB
  have HLB := hid (And.intro ha (And.intro hm hb))
  have hbN : b + R.length = N := by omega
  have hab : a < m ∧ m ≤ b ∧ b ≤ N := by omega
  have hw1 : IntKind.i64.wrap ((m : Int) - (a : Int)) = 1 := by rw [IntKind.wrap_i64]; omega
  obtain ⟨hab1, hab2, hab3⟩ := hab
  clear ha hm hb h hN hD hxok hBok hs hlen hbN
  unfold cmpV
  go_enter Tryz.func214, Tryz.ntmps214
  go_wp2_with fail
  go_loopw [10, 11] (fun v10 v11 wr => ∃ (i j : Nat), v10 = .int .i64 (i : Int) ∧ v11 = .int .i64 (j : Int) ∧ m ≤ i ∧ i ≤ j ∧ j ≤ b ∧ Hid (Half (fun z => lexB z.1 x.1) B (i - m) (j - m) ∧ At w g o D wr)) (fun v10 v11 _ => (intOf v11).toNat - (intOf v10).toNat)
  case atStart =>
    have e : b - m = B.length := by have := HLB.out; omega
    refine ⟨m, b, rfl, rfl, Nat.le_refl _, hab2, Nat.le_refl _, ?_, H0.out⟩
    rw [Nat.sub_self, e]
    exact Half.begin _ _
  case round =>
    obtain ⟨i, j, rfl, rfl, hmi, hij, hjb, HS⟩ := hrel
    by_cases hlt : i < j
    · have hltI : (i : Int) < (j : Int) := by omega
      obtain ⟨h, hh⟩ : ∃ h, (i + j) / 2 = h := ⟨_, rfl⟩
      have hhI : ((i : Int) + (j : Int)) / 2 = (h : Int) := by omega
      have hih : i ≤ h ∧ h < j := by omega
      obtain ⟨hHf, hA⟩ := HS.out
      obtain ⟨y, hy⟩ : ∃ y, B[h - m]? = some y := ⟨_, List.getElem?_eq_getElem (by have := HLB.out; omega)⟩
      have hDy : D[h]? = some y := by have := HDB.out _ _ hy; rwa [show m + (h - m) = h by omega] at this
      have hyok := HBOK.out y (List.mem_of_getElem? hy)
      have HCMP := hid (fun V => compare_any y x V hyok HX.out)
      have HCV : Hid (cmpE y.1 x.1 < 0 ↔ lexB y.1 x.1 = true) := cmpE_neg y.1 x.1
      have Hx : Hid (∀ V, Kp No wr V → V.rangeAt g (o + h * 35) (entC y)) := fun V hV => ((hA.kept hV).range hDy).2
      have Hy : Hid (∀ V, Kp No wr V → V.rangeAt g (o + a * 35) (entC x)) := fun V hV => ((hA.kept hV).range HDX.out).2
      have HIx := hid (inf hyok)
      have HIy := hid (inf HX.out)
      have HYES : Hid (lexB y.1 x.1 = true → Half (fun z => lexB z.1 x.1) B (h + 1 - m) (j - m)) := fun e => by
        have := hHf.yes (h := h - m) (by omega) (by omega) hy e HMONO.out
        rwa [show h - m + 1 = h + 1 - m by omega] at this
      have HNO : Hid (lexB y.1 x.1 = false → Half (fun z => lexB z.1 x.1) B (i - m) (h - m)) := fun e => hHf.no (h := h - m) (by omega) (by omega) hy e HMONO.out
      have HAA := hid hA
      have hhN : (h : Int) < (N : Int) := by omega
      have haN : (a : Int) < (N : Int) := by omega
      have hwh : IntKind.i64.wrap ((h : Int) + 1) = ((h + 1 : Nat) : Int) := by rw [IntKind.wrap_i64]; omega
      obtain ⟨cx, hcx⟩ : ∃ cx, entC y = cx := ⟨_, rfl⟩
      obtain ⟨cy, hcy⟩ : ∃ cy, entC x = cy := ⟨_, rfl⟩
      rw [hcx, hcy] at HCMP
      rw [hcx] at Hx HIx
      rw [hcy] at Hy HIy
      obtain ⟨z, hzz⟩ : ∃ z, cmpE y.1 x.1 = z := ⟨_, rfl⟩
      rw [hzz] at HCMP HCV
      clear hcx hcy hzz hHf hA hy hDy hyok hh HS
      go_wp2_with fail
      by_cases hz : z < 0
      · have HH2 := hid (HYES.out (HCV.out.1 hz))
        clear HYES HNO HCV
        refine wp_region_held_drew (S := fun V => Kp No wr V) (by kernel_rfl) ((Kp.refl _ _).drew) (fun hHeld => ?_)
        refine wpAnyH_take (i := 0) (oi := { dst := some 40, op := Op.move (Operand.tmp 4), type := 222, pos := "zsortanyfunc.go:390", after := #[], guard := none }) (v := .func (.func 133) #[] #[]) rfl (by kernel_rfl) (by kernel_rfl) (by kernel_rfl) (fun _ _ _ h => h) (Or.inl ⟨by rfl, fun w' hw' => by (clear hw'; go_simp)⟩) hHeld ?_
        simp only [Act.put, List.setIfInBounds_toArray, List.set_cons_zero, List.set_cons_succ]
        refine wpAnyH_take (i := 1) (oi := { dst := some 41, op := Op.move (Operand.tmp 0), type := 81, pos := "zsortanyfunc.go:390", after := #[], guard := none }) (v := .slice (some ⟨g, o, none⟩) N cap) rfl (by kernel_rfl) (by kernel_rfl) (by kernel_rfl) (fun _ _ _ h => h) (Or.inl ⟨by rfl, fun w' hw' => by (clear hw'; go_simp)⟩) hHeld ?_
        simp only [Act.put, List.setIfInBounds_toArray, List.set_cons_zero, List.set_cons_succ]
        refine wpAnyH_take (i := 2) (oi := { dst := some 42, op := Op.move (Operand.tmp 12), type := 3, pos := "zsortanyfunc.go:390", after := #[], guard := none }) (v := .int .i64 (h : Int)) rfl (by kernel_rfl) (by kernel_rfl) (by kernel_rfl) (fun _ _ _ h => h) (Or.inl ⟨by rfl, fun w' hw' => by (clear hw'; go_simp)⟩) hHeld ?_
        simp only [Act.put, List.setIfInBounds_toArray, List.set_cons_zero, List.set_cons_succ]
        refine wpAnyH_take (i := 3) (oi := { dst := some 43, op := Op.indexAddr 81 (Operand.tmp 41) (Operand.tmp 42), type := 0, pos := "zsortanyfunc.go:390", after := #[{ on := 1, ground := Ground.data }, { on := 2, ground := Ground.data }], guard := none }) (v := .pointer (some ⟨g, o + h * 35, none⟩)) rfl (by kernel_rfl) (by kernel_rfl) (by kernel_rfl) (fun _ _ _ h => h) (Or.inl ⟨by rfl, fun w' hw' => by (clear hw'; go_simp)⟩) hHeld ?_
        simp only [Act.put, List.setIfInBounds_toArray, List.set_cons_zero, List.set_cons_succ]
        refine wpAnyH_take (i := 4) (oi := { dst := some 44, op := Op.load 155 (Operand.tmp 43), type := 155, pos := "zsortanyfunc.go:390", after := #[{ on := 3, ground := Ground.data }], guard := none }) (v := .agg cx.toArray) rfl (by kernel_rfl) (by kernel_rfl) (by kernel_rfl) (fun _ _ _ h => h) (yieldsIf_load_mid (by rfl) _ _ rfl g (o + h * 35) rfl cx _ (Hx.out) Tryz.underlying155 rfl HIx.out) hHeld ?_
        simp only [Act.put, List.setIfInBounds_toArray, List.set_cons_zero, List.set_cons_succ]
        refine wpAnyH_take (i := 5) (oi := { dst := some 45, op := Op.move (Operand.tmp 0), type := 81, pos := "zsortanyfunc.go:390", after := #[], guard := none }) (v := .slice (some ⟨g, o, none⟩) N cap) rfl (by kernel_rfl) (by kernel_rfl) (by kernel_rfl) (fun _ _ _ h => h) (Or.inl ⟨by rfl, fun w' hw' => by (clear hw'; go_simp)⟩) hHeld ?_
        simp only [Act.put, List.setIfInBounds_toArray, List.set_cons_zero, List.set_cons_succ]
        refine wpAnyH_take (i := 6) (oi := { dst := some 46, op := Op.move (Operand.tmp 1), type := 3, pos := "zsortanyfunc.go:390", after := #[], guard := none }) (v := .int .i64 (a : Int)) rfl (by kernel_rfl) (by kernel_rfl) (by kernel_rfl) (fun _ _ _ h => h) (Or.inl ⟨by rfl, fun w' hw' => by (clear hw'; go_simp)⟩) hHeld ?_
        simp only [Act.put, List.setIfInBounds_toArray, List.set_cons_zero, List.set_cons_succ]
        refine wpAnyH_take (i := 7) (oi := { dst := some 47, op := Op.indexAddr 81 (Operand.tmp 45) (Operand.tmp 46), type := 0, pos := "zsortanyfunc.go:390", after := #[{ on := 5, ground := Ground.data }, { on := 6, ground := Ground.data }], guard := none }) (v := .pointer (some ⟨g, o + a * 35, none⟩)) rfl (by kernel_rfl) (by kernel_rfl) (by kernel_rfl) (fun _ _ _ h => h) (Or.inl ⟨by rfl, fun w' hw' => by (clear hw'; go_simp)⟩) hHeld ?_
        simp only [Act.put, List.setIfInBounds_toArray, List.set_cons_zero, List.set_cons_succ]
        refine wpAnyH_take (i := 8) (oi := { dst := some 48, op := Op.load 155 (Operand.tmp 47), type := 155, pos := "zsortanyfunc.go:390", after := #[{ on := 7, ground := Ground.data }], guard := none }) (v := .agg cy.toArray) rfl (by kernel_rfl) (by kernel_rfl) (by kernel_rfl) (fun _ _ _ h => h) (yieldsIf_load_mid (by rfl) _ _ rfl g (o + a * 35) rfl cy _ (Hy.out) Tryz.underlying155 rfl HIy.out) hHeld ?_
        simp only [Act.put, List.setIfInBounds_toArray, List.set_cons_zero, List.set_cons_succ]
        refine wpAnyH_ready (rs := [9]) (by kernel_rfl) (by simp) ?_
        refine AllReadyH.cons (o := { dst := some 49, op := Op.call { callee := Callee.value (Operand.tmp 40), args := #[Operand.tmp 44, Operand.tmp 48], argTypes := #[155, 155] }, type := 3, pos := "zsortanyfunc.go:390", after := #[{ on := 0, ground := Ground.data }, { on := 4, ground := Ground.data }, { on := 8, ground := Ground.data }], guard := none }) rfl (fun K hK => ?_) AllReadyH.nil
        go_simp
        refine (HCMP.out _).mono ?_
        rintro e w3 ⟨rfl, h3⟩
        have HK3 : Hid (Kp No wr w3) := (Kp.refl No wr).drew.andNone (Kp.below h3)
        clear h3
        go_wp2_with fail
        refine hK.out _ _ (HK3.out) (fun hh => ?_)
        clear hK K hHeld
        have hHeld := hh
        clear hh
        try simp only [Act.put, List.setIfInBounds_toArray, List.set_cons_zero, List.set_cons_succ]
        refine wpAnyH_take (i := 10) (oi := { dst := some 50, op := Op.binOp BinOp.lss 3 (Operand.tmp 49) (Operand.const (Value.int IntKind.i64 0)) 3, type := 4, pos := "zsortanyfunc.go:390", after := #[{ on := 9, ground := Ground.data }], guard := none }) (v := .bool true) rfl (by kernel_rfl) (by kernel_rfl) (by kernel_rfl) (fun _ _ _ h => h) (Or.inl ⟨by rfl, fun w' hw' => by (clear hw'; go_simp)⟩) hHeld ?_
        simp only [Act.put, List.setIfInBounds_toArray, List.set_cons_zero, List.set_cons_succ]
        refine wpAnyH_done (by kernel_rfl) ?_ _
        have HA3 := hid (HAA.out.kept HK3.out)
        clear hHeld HK3 HCMP Hx Hy HIx HIy HAA
        go_wp2_with fail
        go_round
        case rel => exact ⟨h + 1, j, by go_num, rfl, by omega, by omega, hjb, HH2.out, HA3.out⟩
        case measure => simp [intOf]; omega
      · have hls : lexB y.1 x.1 = false := by
          cases hb : lexB y.1 x.1 with
          | false => rfl
          | true => exact absurd (HCV.out.2 hb) hz
        have HH2 := hid (HNO.out hls)
        clear HYES HNO HCV hls
        refine wp_region_held_drew (S := fun V => Kp No wr V) (by kernel_rfl) ((Kp.refl _ _).drew) (fun hHeld => ?_)
        refine wpAnyH_take (i := 0) (oi := { dst := some 40, op := Op.move (Operand.tmp 4), type := 222, pos := "zsortanyfunc.go:390", after := #[], guard := none }) (v := .func (.func 133) #[] #[]) rfl (by kernel_rfl) (by kernel_rfl) (by kernel_rfl) (fun _ _ _ h => h) (Or.inl ⟨by rfl, fun w' hw' => by (clear hw'; go_simp)⟩) hHeld ?_
        simp only [Act.put, List.setIfInBounds_toArray, List.set_cons_zero, List.set_cons_succ]
        refine wpAnyH_take (i := 1) (oi := { dst := some 41, op := Op.move (Operand.tmp 0), type := 81, pos := "zsortanyfunc.go:390", after := #[], guard := none }) (v := .slice (some ⟨g, o, none⟩) N cap) rfl (by kernel_rfl) (by kernel_rfl) (by kernel_rfl) (fun _ _ _ h => h) (Or.inl ⟨by rfl, fun w' hw' => by (clear hw'; go_simp)⟩) hHeld ?_
        simp only [Act.put, List.setIfInBounds_toArray, List.set_cons_zero, List.set_cons_succ]
        refine wpAnyH_take (i := 2) (oi := { dst := some 42, op := Op.move (Operand.tmp 12), type := 3, pos := "zsortanyfunc.go:390", after := #[], guard := none }) (v := .int .i64 (h : Int)) rfl (by kernel_rfl) (by kernel_rfl) (by kernel_rfl) (fun _ _ _ h => h) (Or.inl ⟨by rfl, fun w' hw' => by (clear hw'; go_simp)⟩) hHeld ?_
        simp only [Act.put, List.setIfInBounds_toArray, List.set_cons_zero, List.set_cons_succ]
        refine wpAnyH_take (i := 3) (oi := { dst := some 43, op := Op.indexAddr 81 (Operand.tmp 41) (Operand.tmp 42), type := 0, pos := "zsortanyfunc.go:390", after := #[{ on := 1, ground := Ground.data }, { on := 2, ground := Ground.data }], guard := none }) (v := .pointer (some ⟨g, o + h * 35, none⟩)) rfl (by kernel_rfl) (by kernel_rfl) (by kernel_rfl) (fun _ _ _ h => h) (Or.inl ⟨by rfl, fun w' hw' => by (clear hw'; go_simp)⟩) hHeld ?_
        simp only [Act.put, List.setIfInBounds_toArray, List.set_cons_zero, List.set_cons_succ]
        refine wpAnyH_take (i := 4) (oi := { dst := some 44, op := Op.load 155 (Operand.tmp 43), type := 155, pos := "zsortanyfunc.go:390", after := #[{ on := 3, ground := Ground.data }], guard := none }) (v := .agg cx.toArray) rfl (by kernel_rfl) (by kernel_rfl) (by kernel_rfl) (fun _ _ _ h => h) (yieldsIf_load_mid (by rfl) _ _ rfl g (o + h * 35) rfl cx _ (Hx.out) Tryz.underlying155 rfl HIx.out) hHeld ?_
        simp only [Act.put, List.setIfInBounds_toArray, List.set_cons_zero, List.set_cons_succ]
        refine wpAnyH_take (i := 5) (oi := { dst := some 45, op := Op.move (Operand.tmp 0), type := 81, pos := "zsortanyfunc.go:390", after := #[], guard := none }) (v := .slice (some ⟨g, o, none⟩) N cap) rfl (by kernel_rfl) (by kernel_rfl) (by kernel_rfl) (fun _ _ _ h => h) (Or.inl ⟨by rfl, fun w' hw' => by (clear hw'; go_simp)⟩) hHeld ?_
        simp only [Act.put, List.setIfInBounds_toArray, List.set_cons_zero, List.set_cons_succ]
        refine wpAnyH_take (i := 6) (oi := { dst := some 46, op := Op.move (Operand.tmp 1), type := 3, pos := "zsortanyfunc.go:390", after := #[], guard := none }) (v := .int .i64 (a : Int)) rfl (by kernel_rfl) (by kernel_rfl) (by kernel_rfl) (fun _ _ _ h => h) (Or.inl ⟨by rfl, fun w' hw' => by (clear hw'; go_simp)⟩) hHeld ?_
        simp only [Act.put, List.setIfInBounds_toArray, List.set_cons_zero, List.set_cons_succ]
        refine wpAnyH_take (i := 7) (oi := { dst := some 47, op := Op.indexAddr 81 (Operand.tmp 45) (Operand.tmp 46), type := 0, pos := "zsortanyfunc.go:390", after := #[{ on := 5, ground := Ground.data }, { on := 6, ground := Ground.data }], guard := none }) (v := .pointer (some ⟨g, o + a * 35, none⟩)) rfl (by kernel_rfl) (by kernel_rfl) (by kernel_rfl) (fun _ _ _ h => h) (Or.inl ⟨by rfl, fun w' hw' => by (clear hw'; go_simp)⟩) hHeld ?_
        simp only [Act.put, List.setIfInBounds_toArray, List.set_cons_zero, List.set_cons_succ]
        refine wpAnyH_take (i := 8) (oi := { dst := some 48, op := Op.load 155 (Operand.tmp 47), type := 155, pos := "zsortanyfunc.go:390", after := #[{ on := 7, ground := Ground.data }], guard := none }) (v := .agg cy.toArray) rfl (by kernel_rfl) (by kernel_rfl) (by kernel_rfl) (fun _ _ _ h => h) (yieldsIf_load_mid (by rfl) _ _ rfl g (o + a * 35) rfl cy _ (Hy.out) Tryz.underlying155 rfl HIy.out) hHeld ?_
        simp only [Act.put, List.setIfInBounds_toArray, List.set_cons_zero, List.set_cons_succ]
        refine wpAnyH_ready (rs := [9]) (by kernel_rfl) (by simp) ?_
        refine AllReadyH.cons (o := { dst := some 49, op := Op.call { callee := Callee.value (Operand.tmp 40), args := #[Operand.tmp 44, Operand.tmp 48], argTypes := #[155, 155] }, type := 3, pos := "zsortanyfunc.go:390", after := #[{ on := 0, ground := Ground.data }, { on := 4, ground := Ground.data }, { on := 8, ground := Ground.data }], guard := none }) rfl (fun K hK => ?_) AllReadyH.nil
        go_simp
        refine (HCMP.out _).mono ?_
        rintro e w3 ⟨rfl, h3⟩
        have HK3 : Hid (Kp No wr w3) := (Kp.refl No wr).drew.andNone (Kp.below h3)
        clear h3
        go_wp2_with fail
        refine hK.out _ _ (HK3.out) (fun hh => ?_)
        clear hK K hHeld
        have hHeld := hh
        clear hh
        try simp only [Act.put, List.setIfInBounds_toArray, List.set_cons_zero, List.set_cons_succ]
        refine wpAnyH_take (i := 10) (oi := { dst := some 50, op := Op.binOp BinOp.lss 3 (Operand.tmp 49) (Operand.const (Value.int IntKind.i64 0)) 3, type := 4, pos := "zsortanyfunc.go:390", after := #[{ on := 9, ground := Ground.data }], guard := none }) (v := .bool false) rfl (by kernel_rfl) (by kernel_rfl) (by kernel_rfl) (fun _ _ _ h => h) (Or.inl ⟨by rfl, fun w' hw' => by (clear hw'; go_simp)⟩) hHeld ?_
        simp only [Act.put, List.setIfInBounds_toArray, List.set_cons_zero, List.set_cons_succ]
        refine wpAnyH_done (by kernel_rfl) ?_ _
        have HA3 := hid (HAA.out.kept HK3.out)
        clear hHeld HK3 HCMP Hx Hy HIx HIy HAA
        go_wp2_with fail
        go_round
        case rel => exact ⟨i, h, rfl, rfl, hmi, by omega, by omega, HH2.out, HA3.out⟩
        case measure => simp [intOf]; omega
    · have hltI : ¬ (i : Int) < (j : Int) := by omega
      obtain ⟨hHf, hA⟩ := HS.out
      have hji : j = i := by omega
      rw [hji] at hHf
      obtain ⟨hlo, hhi⟩ := hHf.end
      have hMrg := Mrg.one_first (key := ky) lexOrd (x := x) hlo hhi (by rw [List.take_append_drop]; exact HSRT.out)
      rw [List.take_append_drop] at hMrg
      obtain ⟨i1, hi1⟩ : ∃ i1, i - 1 = i1 := ⟨_, rfl⟩
      have hwi : IntKind.i64.wrap ((i : Int) - 1) = (i1 : Int) := by rw [IntKind.wrap_i64]; omega
      have HU0 : Hid (UpSt L (B.take (i - m)) (B.drop (i - m)) R x a D) := ⟨[], B.take (i - m), rfl, by have := HLB.out; simp; omega, by rw [← HD.out, ← List.append_assoc (B.take (i - m)), List.take_append_drop]; simp⟩
      have HLE : Hid (L.length + (B.take (i - m)).length = i1) := by have := HLB.out; rw [Hid, List.length_take]; omega
      have HMG := hid hMrg
      have HAA := hid hA
      have hai : a ≤ i1 ∧ i1 < N := by omega
      obtain ⟨hai1, hai2⟩ := hai
      clear hHf hA hlo hhi hMrg hji hi1 HS
      go_wp2_with fail
      go_loopw [13] (fun v13 wr => ∃ k : Nat, v13 = .int .i64 (k : Int) ∧ a ≤ k ∧ k ≤ i1 ∧ Hid (∃ D, UpSt L (B.take (i - m)) (B.drop (i - m)) R x k D ∧ At w g o D wr)) (fun v13 _ => i1 - (intOf v13).toNat)
      case atStart => exact ⟨a, rfl, Nat.le_refl _, hai1, D, HU0.out, HAA.out⟩
      case round =>
        obtain ⟨k, rfl, hka, hki, HK⟩ := hrel
        by_cases hlk : k < i1
        · have hlkI : (k : Int) < (i1 : Int) := by omega
          obtain ⟨E, hU, hA⟩ := HK.out
          have hlE := HLE.out
          obtain ⟨hst, ⟨y, hy⟩, hx⟩ := hU.step (by omega)
          obtain ⟨k1, hk1⟩ : ∃ k1, k + 1 = k1 := ⟨_, rfl⟩
          rw [hk1] at hst hy
          have hwk : IntKind.i64.wrap ((k : Int) + 1) = (k1 : Int) := by rw [IntKind.wrap_i64]; omega
          have hkN : (k : Int) < (N : Int) := by omega
          have hk1N : (k1 : Int) < (N : Int) := by omega
          have HJM : Hid (a ≤ k1 ∧ k1 ≤ i1 ∧ k < k1) := by rw [Hid]; omega
          obtain ⟨hox, hoy, hrx, hry, ht1, ht2, hfin⟩ := swap2_at hA hx hy
          have HFIN := hid hfin
          have HST2 := hid hst
          have HT1 := hid ht1
          have HT2 := hid ht2
          have HIx := hid (inf hox)
          have HIy := hid (inf hoy)
          have HAx := hid (infA hox)
          have HAy := hid (infA hoy)
          have HOx := hid (all_oneCell_toArray (entC_one x))
          have HOy := hid (all_oneCell_toArray (entC_one y))
          have Hx := hid hrx
          have Hy := hid hry
          generalize entC x = cx at *
          generalize entC y = cy at *
          clear hst hy hx hk1 hox hoy hrx hry ht1 ht2 hfin hU hA hlE
          go_wp2_with fail
          refine wp_region_held_drew (S := fun _ => True) (by kernel_rfl) trivial (fun hHeld => ?_)
          refine wpAnyH_take (i := 0) (oi := { dst := some 61, op := Op.move (Operand.tmp 0), type := 81, pos := "zsortanyfunc.go:398", after := #[], guard := none }) (v := .slice (some ⟨g, o, none⟩) N cap) rfl (by kernel_rfl) (by kernel_rfl) (by kernel_rfl) (fun _ _ _ h => h) (Or.inl ⟨by rfl, fun w' hw' => by (clear hw'; go_simp)⟩) hHeld ?_
          simp only [Act.put, List.setIfInBounds_toArray, List.set_cons_zero, List.set_cons_succ]
          refine wpAnyH_take (i := 1) (oi := { dst := some 62, op := Op.move (Operand.tmp 13), type := 3, pos := "zsortanyfunc.go:398", after := #[], guard := none }) (v := .int .i64 (k : Int)) rfl (by kernel_rfl) (by kernel_rfl) (by kernel_rfl) (fun _ _ _ h => h) (Or.inl ⟨by rfl, fun w' hw' => by (clear hw'; go_simp)⟩) hHeld ?_
          simp only [Act.put, List.setIfInBounds_toArray, List.set_cons_zero, List.set_cons_succ]
          refine wpAnyH_take (i := 2) (oi := { dst := some 63, op := Op.move (Operand.tmp 0), type := 81, pos := "zsortanyfunc.go:398", after := #[{ on := 15, ground := Ground.gcOnly Departure.lateStores }], guard := none }) (v := .slice (some ⟨g, o, none⟩) N cap) rfl (by kernel_rfl) (by kernel_rfl) (by kernel_rfl) (fun _ _ _ h => h) (Or.inl ⟨by rfl, fun w' hw' => by (clear hw'; go_simp)⟩) hHeld ?_
          simp only [Act.put, List.setIfInBounds_toArray, List.set_cons_zero, List.set_cons_succ]
          refine wpAnyH_take (i := 3) (oi := { dst := some 64, op := Op.move (Operand.tmp 13), type := 3, pos := "zsortanyfunc.go:398", after := #[{ on := 15, ground := Ground.gcOnly Departure.lateStores }], guard := none }) (v := .int .i64 (k : Int)) rfl (by kernel_rfl) (by kernel_rfl) (by kernel_rfl) (fun _ _ _ h => h) (Or.inl ⟨by rfl, fun w' hw' => by (clear hw'; go_simp)⟩) hHeld ?_
          simp only [Act.put, List.setIfInBounds_toArray, List.set_cons_zero, List.set_cons_succ]
          refine wpAnyH_take (i := 4) (oi := { dst := some 65, op := Op.binOp BinOp.add 3 (Operand.tmp 64) (Operand.const (Value.int IntKind.i64 1)) 3, type := 3, pos := "zsortanyfunc.go:398", after := #[{ on := 3, ground := Ground.data }, { on := 15, ground := Ground.gcOnly Departure.lateStores }], guard := none }) (v := .int .i64 (k1 : Int)) rfl (by kernel_rfl) (by kernel_rfl) (by kernel_rfl) (fun _ _ _ h => h) (Or.inl ⟨by rfl, fun w' hw' => by (clear hw'; go_simp)⟩) hHeld ?_
          simp only [Act.put, List.setIfInBounds_toArray, List.set_cons_zero, List.set_cons_succ]
          refine wpAnyH_take (i := 5) (oi := { dst := some 66, op := Op.move (Operand.tmp 0), type := 81, pos := "zsortanyfunc.go:398", after := #[], guard := none }) (v := .slice (some ⟨g, o, none⟩) N cap) rfl (by kernel_rfl) (by kernel_rfl) (by kernel_rfl) (fun _ _ _ h => h) (Or.inl ⟨by rfl, fun w' hw' => by (clear hw'; go_simp)⟩) hHeld ?_
          simp only [Act.put, List.setIfInBounds_toArray, List.set_cons_zero, List.set_cons_succ]
          refine wpAnyH_take (i := 6) (oi := { dst := some 67, op := Op.move (Operand.tmp 13), type := 3, pos := "zsortanyfunc.go:398", after := #[], guard := none }) (v := .int .i64 (k : Int)) rfl (by kernel_rfl) (by kernel_rfl) (by kernel_rfl) (fun _ _ _ h => h) (Or.inl ⟨by rfl, fun w' hw' => by (clear hw'; go_simp)⟩) hHeld ?_
          simp only [Act.put, List.setIfInBounds_toArray, List.set_cons_zero, List.set_cons_succ]
          refine wpAnyH_take (i := 7) (oi := { dst := some 68, op := Op.binOp BinOp.add 3 (Operand.tmp 67) (Operand.const (Value.int IntKind.i64 1)) 3, type := 3, pos := "zsortanyfunc.go:398", after := #[{ on := 6, ground := Ground.data }], guard := none }) (v := .int .i64 (k1 : Int)) rfl (by kernel_rfl) (by kernel_rfl) (by kernel_rfl) (fun _ _ _ h => h) (Or.inl ⟨by rfl, fun w' hw' => by (clear hw'; go_simp)⟩) hHeld ?_
          simp only [Act.put, List.setIfInBounds_toArray, List.set_cons_zero, List.set_cons_succ]
          refine wpAnyH_take (i := 8) (oi := { dst := some 69, op := Op.indexAddr 81 (Operand.tmp 66) (Operand.tmp 68), type := 0, pos := "zsortanyfunc.go:398", after := #[{ on := 5, ground := Ground.data }, { on := 7, ground := Ground.data }], guard := none }) (v := .pointer (some ⟨g, o + k1 * 35, none⟩)) rfl (by kernel_rfl) (by kernel_rfl) (by kernel_rfl) (fun _ _ _ h => h) (Or.inl ⟨by rfl, fun w' hw' => by (clear hw'; go_simp)⟩) hHeld ?_
          simp only [Act.put, List.setIfInBounds_toArray, List.set_cons_zero, List.set_cons_succ]
          refine wpAnyH_take (i := 10) (oi := { dst := some 71, op := Op.move (Operand.tmp 0), type := 81, pos := "zsortanyfunc.go:398", after := #[], guard := none }) (v := .slice (some ⟨g, o, none⟩) N cap) rfl (by kernel_rfl) (by kernel_rfl) (by kernel_rfl) (fun _ _ _ h => h) (Or.inl ⟨by rfl, fun w' hw' => by (clear hw'; go_simp)⟩) hHeld ?_
          simp only [Act.put, List.setIfInBounds_toArray, List.set_cons_zero, List.set_cons_succ]
          refine wpAnyH_take (i := 11) (oi := { dst := some 72, op := Op.move (Operand.tmp 13), type := 3, pos := "zsortanyfunc.go:398", after := #[], guard := none }) (v := .int .i64 (k : Int)) rfl (by kernel_rfl) (by kernel_rfl) (by kernel_rfl) (fun _ _ _ h => h) (Or.inl ⟨by rfl, fun w' hw' => by (clear hw'; go_simp)⟩) hHeld ?_
          simp only [Act.put, List.setIfInBounds_toArray, List.set_cons_zero, List.set_cons_succ]
          refine wpAnyH_take (i := 12) (oi := { dst := some 73, op := Op.indexAddr 81 (Operand.tmp 71) (Operand.tmp 72), type := 0, pos := "zsortanyfunc.go:398", after := #[{ on := 10, ground := Ground.data }, { on := 11, ground := Ground.data }], guard := none }) (v := .pointer (some ⟨g, o + k * 35, none⟩)) rfl (by kernel_rfl) (by kernel_rfl) (by kernel_rfl) (fun _ _ _ h => h) (Or.inl ⟨by rfl, fun w' hw' => by (clear hw'; go_simp)⟩) hHeld ?_
          simp only [Act.put, List.setIfInBounds_toArray, List.set_cons_zero, List.set_cons_succ]
          refine wpAnyH_ready (rs := [9, 13]) (by kernel_rfl) (by simp) ?_
          refine AllReadyH.cons (o := { dst := some 70, op := Op.load 155 (Operand.tmp 69), type := 155, pos := "zsortanyfunc.go:398", after := #[{ on := 8, ground := Ground.data }], guard := none }) rfl (fun K hK => ?_) (AllReadyH.cons (o := { dst := some 74, op := Op.load 155 (Operand.tmp 73), type := 155, pos := "zsortanyfunc.go:398", after := #[{ on := 12, ground := Ground.data }], guard := none }) rfl (fun K hK => ?_) AllReadyH.nil)
          · rw [if_pos (by rfl)]
            refine wp_load_mid 155 _ (by rfl) g (o + k1 * 35) (by rfl) cy _ (Hy.out _ ((Kp.refl No _).drew)) Tryz.underlying155 rfl HIy.out ?_
            refine hK.out _ _ trivial (fun hh => ?_)
            clear hK K hHeld
            have hHeld := hh
            clear hh
            try simp only [Act.put, List.setIfInBounds_toArray, List.set_cons_zero, List.set_cons_succ]
            refine wpAnyH_ready (rs := [13]) (by kernel_rfl) (by simp) ?_
            refine AllReadyH.cons (o := { dst := some 74, op := Op.load 155 (Operand.tmp 73), type := 155, pos := "zsortanyfunc.go:398", after := #[{ on := 12, ground := Ground.data }], guard := none }) rfl (fun K hK => ?_) AllReadyH.nil
            rw [if_pos (by rfl)]
            refine wp_load_mid 155 _ (by rfl) g (o + k * 35) (by rfl) cx _ (Hx.out _ ((Kp.refl No _).drew)) Tryz.underlying155 rfl HIx.out ?_
            refine hK.out _ _ trivial (fun hh => ?_)
            clear hK K hHeld
            have hHeld := hh
            clear hh
            try simp only [Act.put, List.setIfInBounds_toArray, List.set_cons_zero, List.set_cons_succ]
            refine wpAnyH_take (i := 14) (oi := { dst := some 75, op := Op.indexAddr 81 (Operand.tmp 61) (Operand.tmp 62), type := 0, pos := "zsortanyfunc.go:398", after := #[{ on := 0, ground := Ground.data }, { on := 1, ground := Ground.data }, { on := 0, ground := Ground.phase }, { on := 1, ground := Ground.phase }, { on := 2, ground := Ground.textOnly Departure.lateStores }, { on := 3, ground := Ground.textOnly Departure.lateStores }, { on := 4, ground := Ground.textOnly Departure.lateStores }, { on := 5, ground := Ground.phase }, { on := 6, ground := Ground.phase }, { on := 7, ground := Ground.phase }, { on := 8, ground := Ground.phase }, { on := 9, ground := Ground.phase }, { on := 10, ground := Ground.textOnly Departure.lateStores }, { on := 11, ground := Ground.textOnly Departure.lateStores }, { on := 12, ground := Ground.textOnly Departure.lateStoresUnsure }, { on := 13, ground := Ground.phase }], guard := none }) (v := .pointer (some ⟨g, o + k * 35, none⟩)) rfl (by kernel_rfl) (by kernel_rfl) (by kernel_rfl) (fun _ _ _ h => h) (Or.inl ⟨by rfl, fun w' hw' => by (clear hw'; go_simp)⟩) hHeld ?_
            simp only [Act.put, List.setIfInBounds_toArray, List.set_cons_zero, List.set_cons_succ]
            refine wpAnyH_ready (rs := [15]) (by kernel_rfl) (by simp) ?_
            refine AllReadyH.cons (o := { dst := none, op := Op.store 155 (Operand.tmp 75) (Operand.tmp 70), type := 0, pos := "zsortanyfunc.go:398", after := #[{ on := 14, ground := Ground.data }, { on := 9, ground := Ground.data }, { on := 0, ground := Ground.phase }, { on := 1, ground := Ground.phase }, { on := 2, ground := Ground.textOnly Departure.lateStores }, { on := 3, ground := Ground.textOnly Departure.lateStores }, { on := 4, ground := Ground.textOnly Departure.lateStores }, { on := 5, ground := Ground.phase }, { on := 6, ground := Ground.phase }, { on := 7, ground := Ground.phase }, { on := 8, ground := Ground.phase }, { on := 9, ground := Ground.phase }, { on := 10, ground := Ground.textOnly Departure.lateStores }, { on := 11, ground := Ground.textOnly Departure.lateStores }, { on := 12, ground := Ground.textOnly Departure.lateStoresUnsure }, { on := 13, ground := Ground.phase }], guard := none }) rfl (fun K hK => ?_) AllReadyH.nil
            rw [if_pos (by rfl)]
            refine wp_store_mid 155 _ _ (by rfl) g (o + k * 35) cy.toArray (by rfl) (by rfl) HT1.out HAy.out HOy.out ?_
            refine hK.out _ _ trivial (fun hh => ?_)
            clear hK K hHeld
            have hHeld := hh
            clear hh
            simp only [Act.put]
            refine wpAnyH_take (i := 16) (oi := { dst := some 76, op := Op.indexAddr 81 (Operand.tmp 63) (Operand.tmp 65), type := 0, pos := "zsortanyfunc.go:398", after := #[{ on := 2, ground := Ground.data }, { on := 4, ground := Ground.data }, { on := 0, ground := Ground.phase }, { on := 1, ground := Ground.phase }, { on := 2, ground := Ground.phase }, { on := 3, ground := Ground.phase }, { on := 4, ground := Ground.phase }, { on := 5, ground := Ground.phase }, { on := 6, ground := Ground.phase }, { on := 7, ground := Ground.phase }, { on := 8, ground := Ground.phase }, { on := 9, ground := Ground.phase }, { on := 10, ground := Ground.phase }, { on := 11, ground := Ground.phase }, { on := 12, ground := Ground.phase }, { on := 13, ground := Ground.phase }, { on := 14, ground := Ground.phase }, { on := 15, ground := Ground.phase }], guard := none }) (v := .pointer (some ⟨g, o + k1 * 35, none⟩)) rfl (by kernel_rfl) (by kernel_rfl) (by kernel_rfl) (fun _ _ _ h => h) (Or.inl ⟨by rfl, fun w' hw' => by (clear hw'; go_simp)⟩) hHeld ?_
            simp only [Act.put, List.setIfInBounds_toArray, List.set_cons_zero, List.set_cons_succ]
            refine wpAnyH_ready (rs := [17]) (by kernel_rfl) (by simp) ?_
            refine AllReadyH.cons (o := { dst := none, op := Op.store 155 (Operand.tmp 76) (Operand.tmp 74), type := 0, pos := "zsortanyfunc.go:398", after := #[{ on := 16, ground := Ground.data }, { on := 13, ground := Ground.data }, { on := 15, ground := Ground.chain }, { on := 0, ground := Ground.phase }, { on := 1, ground := Ground.phase }, { on := 2, ground := Ground.phase }, { on := 3, ground := Ground.phase }, { on := 4, ground := Ground.phase }, { on := 5, ground := Ground.phase }, { on := 6, ground := Ground.phase }, { on := 7, ground := Ground.phase }, { on := 8, ground := Ground.phase }, { on := 9, ground := Ground.phase }, { on := 10, ground := Ground.phase }, { on := 11, ground := Ground.phase }, { on := 12, ground := Ground.phase }, { on := 13, ground := Ground.phase }, { on := 14, ground := Ground.phase }, { on := 15, ground := Ground.phase }], guard := none }) rfl (fun K hK => ?_) AllReadyH.nil
            rw [if_pos (by rfl)]
            refine wp_store_mid 155 _ _ (by rfl) g (o + k1 * 35) cx.toArray (by rfl) (by rfl) HT2.out HAx.out HOx.out ?_
            refine hK.out _ _ trivial (fun hh => ?_)
            clear hK K hHeld
            have hHeld := hh
            clear hh
            simp only [Act.put]
            refine wpAnyH_done (by kernel_rfl) ?_ _
            go_wp2_with fail
            go_round
            case rel => exact ⟨k1, rfl, HJM.out.1, HJM.out.2.1, _, HST2.out, HFIN.out⟩
            case measure => simp [intOf]; have := HJM.out; omega
          · rw [if_pos (by rfl)]
            refine wp_load_mid 155 _ (by rfl) g (o + k * 35) (by rfl) cx _ (Hx.out _ ((Kp.refl No _).drew)) Tryz.underlying155 rfl HIx.out ?_
            refine hK.out _ _ trivial (fun hh => ?_)
            clear hK K hHeld
            have hHeld := hh
            clear hh
            try simp only [Act.put, List.setIfInBounds_toArray, List.set_cons_zero, List.set_cons_succ]
            refine wpAnyH_ready (rs := [9]) (by kernel_rfl) (by simp) ?_
            refine AllReadyH.cons (o := { dst := some 70, op := Op.load 155 (Operand.tmp 69), type := 155, pos := "zsortanyfunc.go:398", after := #[{ on := 8, ground := Ground.data }], guard := none }) rfl (fun K hK => ?_) AllReadyH.nil
            rw [if_pos (by rfl)]
            refine wp_load_mid 155 _ (by rfl) g (o + k1 * 35) (by rfl) cy _ (Hy.out _ ((Kp.refl No _).drew)) Tryz.underlying155 rfl HIy.out ?_
            refine hK.out _ _ trivial (fun hh => ?_)
            clear hK K hHeld
            have hHeld := hh
            clear hh
            try simp only [Act.put, List.setIfInBounds_toArray, List.set_cons_zero, List.set_cons_succ]
            refine wpAnyH_take (i := 14) (oi := { dst := some 75, op := Op.indexAddr 81 (Operand.tmp 61) (Operand.tmp 62), type := 0, pos := "zsortanyfunc.go:398", after := #[{ on := 0, ground := Ground.data }, { on := 1, ground := Ground.data }, { on := 0, ground := Ground.phase }, { on := 1, ground := Ground.phase }, { on := 2, ground := Ground.textOnly Departure.lateStores }, { on := 3, ground := Ground.textOnly Departure.lateStores }, { on := 4, ground := Ground.textOnly Departure.lateStores }, { on := 5, ground := Ground.phase }, { on := 6, ground := Ground.phase }, { on := 7, ground := Ground.phase }, { on := 8, ground := Ground.phase }, { on := 9, ground := Ground.phase }, { on := 10, ground := Ground.textOnly Departure.lateStores }, { on := 11, ground := Ground.textOnly Departure.lateStores }, { on := 12, ground := Ground.textOnly Departure.lateStoresUnsure }, { on := 13, ground := Ground.phase }], guard := none }) (v := .pointer (some ⟨g, o + k * 35, none⟩)) rfl (by kernel_rfl) (by kernel_rfl) (by kernel_rfl) (fun _ _ _ h => h) (Or.inl ⟨by rfl, fun w' hw' => by (clear hw'; go_simp)⟩) hHeld ?_
            simp only [Act.put, List.setIfInBounds_toArray, List.set_cons_zero, List.set_cons_succ]
            refine wpAnyH_ready (rs := [15]) (by kernel_rfl) (by simp) ?_
            refine AllReadyH.cons (o := { dst := none, op := Op.store 155 (Operand.tmp 75) (Operand.tmp 70), type := 0, pos := "zsortanyfunc.go:398", after := #[{ on := 14, ground := Ground.data }, { on := 9, ground := Ground.data }, { on := 0, ground := Ground.phase }, { on := 1, ground := Ground.phase }, { on := 2, ground := Ground.textOnly Departure.lateStores }, { on := 3, ground := Ground.textOnly Departure.lateStores }, { on := 4, ground := Ground.textOnly Departure.lateStores }, { on := 5, ground := Ground.phase }, { on := 6, ground := Ground.phase }, { on := 7, ground := Ground.phase }, { on := 8, ground := Ground.phase }, { on := 9, ground := Ground.phase }, { on := 10, ground := Ground.textOnly Departure.lateStores }, { on := 11, ground := Ground.textOnly Departure.lateStores }, { on := 12, ground := Ground.textOnly Departure.lateStoresUnsure }, { on := 13, ground := Ground.phase }], guard := none }) rfl (fun K hK => ?_) AllReadyH.nil
            rw [if_pos (by rfl)]
            refine wp_store_mid 155 _ _ (by rfl) g (o + k * 35) cy.toArray (by rfl) (by rfl) HT1.out HAy.out HOy.out ?_
            refine hK.out _ _ trivial (fun hh => ?_)
            clear hK K hHeld
            have hHeld := hh
            clear hh
            simp only [Act.put]
            refine wpAnyH_take (i := 16) (oi := { dst := some 76, op := Op.indexAddr 81 (Operand.tmp 63) (Operand.tmp 65), type := 0, pos := "zsortanyfunc.go:398", after := #[{ on := 2, ground := Ground.data }, { on := 4, ground := Ground.data }, { on := 0, ground := Ground.phase }, { on := 1, ground := Ground.phase }, { on := 2, ground := Ground.phase }, { on := 3, ground := Ground.phase }, { on := 4, ground := Ground.phase }, { on := 5, ground := Ground.phase }, { on := 6, ground := Ground.phase }, { on := 7, ground := Ground.phase }, { on := 8, ground := Ground.phase }, { on := 9, ground := Ground.phase }, { on := 10, ground := Ground.phase }, { on := 11, ground := Ground.phase }, { on := 12, ground := Ground.phase }, { on := 13, ground := Ground.phase }, { on := 14, ground := Ground.phase }, { on := 15, ground := Ground.phase }], guard := none }) (v := .pointer (some ⟨g, o + k1 * 35, none⟩)) rfl (by kernel_rfl) (by kernel_rfl) (by kernel_rfl) (fun _ _ _ h => h) (Or.inl ⟨by rfl, fun w' hw' => by (clear hw'; go_simp)⟩) hHeld ?_
            simp only [Act.put, List.setIfInBounds_toArray, List.set_cons_zero, List.set_cons_succ]
            refine wpAnyH_ready (rs := [17]) (by kernel_rfl) (by simp) ?_
            refine AllReadyH.cons (o := { dst := none, op := Op.store 155 (Operand.tmp 76) (Operand.tmp 74), type := 0, pos := "zsortanyfunc.go:398", after := #[{ on := 16, ground := Ground.data }, { on := 13, ground := Ground.data }, { on := 15, ground := Ground.chain }, { on := 0, ground := Ground.phase }, { on := 1, ground := Ground.phase }, { on := 2, ground := Ground.phase }, { on := 3, ground := Ground.phase }, { on := 4, ground := Ground.phase }, { on := 5, ground := Ground.phase }, { on := 6, ground := Ground.phase }, { on := 7, ground := Ground.phase }, { on := 8, ground := Ground.phase }, { on := 9, ground := Ground.phase }, { on := 10, ground := Ground.phase }, { on := 11, ground := Ground.phase }, { on := 12, ground := Ground.phase }, { on := 13, ground := Ground.phase }, { on := 14, ground := Ground.phase }, { on := 15, ground := Ground.phase }], guard := none }) rfl (fun K hK => ?_) AllReadyH.nil
            rw [if_pos (by rfl)]
            refine wp_store_mid 155 _ _ (by rfl) g (o + k1 * 35) cx.toArray (by rfl) (by rfl) HT2.out HAx.out HOx.out ?_
            refine hK.out _ _ trivial (fun hh => ?_)
            clear hK K hHeld
            have hHeld := hh
            clear hh
            simp only [Act.put]
            refine wpAnyH_done (by kernel_rfl) ?_ _
            go_wp2_with fail
            go_round
            case rel => exact ⟨k1, rfl, HJM.out.1, HJM.out.2.1, _, HST2.out, HFIN.out⟩
            case measure => simp [intOf]; have := HJM.out; omega
        · have hlkI : ¬ (k : Int) < (i1 : Int) := by omega
          go_wp2_with fail
          first | (refine bodyPost_ret (results_none rfl _ _ _) rfl ?_) | (simp only [Exit.inBlock, Exit.then]; refine bodyPost_ret (results_none rfl _ _ _) rfl ?_)
          obtain ⟨E, hU, hA⟩ := HK.out
          have hlE := HLE.out
          obtain ⟨S, T, e1, e2, e3⟩ := hU
          have hT : T = [] := by
            have := congrArg List.length e1
            rw [List.length_append] at this
            exact List.length_eq_zero_iff.1 (by omega)
          subst hT
          rw [List.append_nil] at e1
          refine ⟨rfl, _, HMG.out, ?_⟩
          rw [e1]
          rw [e3] at hA
          simpa using hA
end Go.Proofs.YthmimipoooemjaaGreatDoor.Sg
end

section
/-
  One entry is merged into the sorted ones ahead of it.
-/
namespace Go.Proofs.YthmimipoooemjaaGreatDoor.Sg
open Go.RowKit
open Stb (Stab Srt Mrg)
open Sim (hid Kp No)

theorem srt_mono2 {B : List Ent} (hs : Srt ky lexB B) (x : Ent) : ∀ (t u : Nat) (y z : Ent), t ≤ u → B[t]? = some y → B[u]? = some z → (!lexB x.1 z.1) = true → (!lexB x.1 y.1) = true := fun t u y z htu hy hz hl => by
  by_cases e : t = u
  · subst e; rw [hy] at hz; cases hz; exact hl
  · obtain ⟨hu1, hu2⟩ := List.getElem?_eq_some_iff.1 hz
    obtain ⟨ht1, ht2⟩ := List.getElem?_eq_some_iff.1 hy
    have := List.pairwise_iff_getElem.1 hs t u ht1 hu1 (by omega)
    rw [ht2, hu2] at this
    have hl' : lexB x.1 z.1 = false := by simpa using hl
    have := lexOrd.le_le this hl'
    simpa using this

/-- x moves down through those that stand behind it. -/
def DnSt (L A1 A2 R : List Ent) (x : Ent) (k : Nat) (D : List Ent) : Prop := ∃ S T, A2 = S ++ T ∧ L.length + A1.length + S.length = k ∧ D = L ++ (A1 ++ (S ++ (x :: (T ++ R))))
theorem DnSt.step {L A1 A2 R D : List Ent} {x : Ent} {k : Nat} (h : DnSt L A1 A2 R x k D) (hk : L.length + A1.length < k) : DnSt L A1 A2 R x (k - 1) (swap2 D k (k - 1)) ∧ (∃ y, D[k - 1]? = some y) ∧ D[k]? = some x := by
  obtain ⟨S, T, rfl, hl, rfl⟩ := h
  have hne : S ≠ [] := by intro e; rw [e] at hl; simp at hl; omega
  obtain ⟨S', y, rfl⟩ : ∃ S' y, S = S' ++ [y] := ⟨S.dropLast, S.getLast hne, (List.dropLast_concat_getLast hne).symm⟩
  have e1 : L ++ (A1 ++ ((S' ++ [y]) ++ (x :: (T ++ R)))) = (L ++ A1 ++ S') ++ y :: x :: (T ++ R) := by simp
  simp only [List.length_append, List.length_singleton] at hl
  have hlen : (L ++ A1 ++ S').length = k - 1 := by simp; omega
  refine ⟨⟨S', y :: T, by simp, by omega, ?_⟩, ⟨y, ?_⟩, ?_⟩
  · have e := swap2_back (L ++ A1 ++ S') (T ++ R) y x
    rw [hlen, show k - 1 + 1 = k by omega] at e
    rw [e1, e]
    simp
  · rw [e1, List.getElem?_append_right (by omega), hlen, Nat.sub_self]
    rfl
  · rw [e1, List.getElem?_append_right (by omega), hlen, show k - (k - 1) = 1 by omega]
    rfl

set_option maxHeartbeats 4000000 in
set_option maxRecDepth 100000 in
theorem symB_any (w : World) (g o : Nat) (L A R : List Ent) (x : Ent) (N cap : Nat) (h : EOwn w g o (L ++ (A ++ ([x] ++ R)))) (hN : (L ++ (A ++ ([x] ++ R))).length = N) (hl : N ≤ 1000000) (hs : Srt ky lexB A) (hA1 : 1 < A.length) :
    Calls Tryz.prog 214 #[.slice (some ⟨g, o, none⟩) N cap, .int .i64 (L.length : Int), .int .i64 ((L.length + A.length : Nat) : Int), .int .i64 ((L.length + A.length + 1 : Nat) : Int), cmpV] w fun e w' => e = .returned (.tuple #[]) ∧ ∃ M, Mrg ky lexB A [x] M ∧ At w g o (L ++ (M ++ R)) w' := by
  have H0 := hid (At.start h)
  have hlen : L.length + A.length + 1 + R.length = N := by rw [← hN]; simp; omega
  have hxok : EOk x := h.1.ok x (by simp)
  have hBok : ∀ z ∈ A, EOk z := fun z hz => h.1.ok z (by simp [hz])
  have HX := hid hxok
  have HBOK := hid hBok
  have HMONO := hid (srt_mono2 hs x)
  have HSRT := hid hs
  have HDX : Hid ((L ++ (A ++ ([x] ++ R)))[L.length + A.length]? = some x) := by
    rw [Hid, List.getElem?_append_right (by omega), show L.length + A.length - L.length = A.length by omega, List.getElem?_append_right (by omega), Nat.sub_self]
    rfl
  have HDB : Hid (∀ (t : Nat) (z : Ent), A[t]? = some z → (L ++ (A ++ ([x] ++ R)))[L.length + t]? = some z) := fun t z hz => get_mid hz
  obtain ⟨D, hD⟩ : ∃ D, L ++ (A ++ ([x] ++ R)) = D := ⟨_, rfl⟩
  rw [hD] at H0 HDX HDB
  have HD := hid hD
  obtain ⟨a, ha⟩ : ∃ a, L.length = a := ⟨_, rfl⟩
  obtain ⟨m, hm⟩ : ∃ m, a + A.length = m := ⟨_, rfl⟩
  obtain ⟨b, hb⟩ : ∃ b, m + 1 = b := ⟨_, rfl⟩
  rw [ha, hm, hb]
  rw [ha] at HDX HDB
  rw [hm] at HDX
  have HLB := hid (And.intro ha (And.intro hm hb))
  have hab : a + 1 < m ∧ m < b ∧ b ≤ N := by omega
  obtain ⟨q, hq⟩ : ∃ q, m - a = q := ⟨_, rfl⟩
  have hw1 : IntKind.i64.wrap ((m : Int) - (a : Int)) = (q : Int) := by rw [IntKind.wrap_i64]; omega
  have hq1 : ¬ ((q : Int) = 1) := by omega
  have hqb : ((q : Int) == 1) = false := by simp only [beq_eq_false_iff_ne]; exact hq1
  have hw2 : IntKind.i64.wrap ((b : Int) - (m : Int)) = 1 := by rw [IntKind.wrap_i64]; omega
  obtain ⟨hab1, hab2, hab3⟩ := hab
  clear ha hm hb h hN hD hxok hBok hs hlen hA1 hq
  unfold cmpV
  go_enter Tryz.func214, Tryz.ntmps214
  go_wp2_with fail
  go_loopw [14, 15] (fun v10 v11 wr => ∃ (i j : Nat), v10 = .int .i64 (i : Int) ∧ v11 = .int .i64 (j : Int) ∧ a ≤ i ∧ i ≤ j ∧ j ≤ m ∧ Hid (Half (fun z => !lexB x.1 z.1) A (i - a) (j - a) ∧ At w g o D wr)) (fun v10 v11 _ => (intOf v11).toNat - (intOf v10).toNat)
  case atStart =>
    have e : m - a = A.length := by have := HLB.out; omega
    refine ⟨a, m, rfl, rfl, Nat.le_refl _, by omega, Nat.le_refl _, ?_, H0.out⟩
    rw [Nat.sub_self, e]
    exact Half.begin _ _
  case round =>
    obtain ⟨i, j, rfl, rfl, hmi, hij, hjb, HS⟩ := hrel
    by_cases hlt : i < j
    · have hltI : (i : Int) < (j : Int) := by omega
      obtain ⟨h, hh⟩ : ∃ h, (i + j) / 2 = h := ⟨_, rfl⟩
      have hhI : ((i : Int) + (j : Int)) / 2 = (h : Int) := by omega
      have hih : i ≤ h ∧ h < j := by omega
      obtain ⟨hHf, hA⟩ := HS.out
      obtain ⟨y, hy⟩ : ∃ y, A[h - a]? = some y := ⟨_, List.getElem?_eq_getElem (by have := HLB.out; omega)⟩
      have hDy : D[h]? = some y := by have := HDB.out _ _ hy; rwa [show a + (h - a) = h by omega] at this
      have hyok := HBOK.out y (List.mem_of_getElem? hy)
      have HCMP := hid (fun V => compare_any x y V HX.out hyok)
      have HCV : Hid (cmpE x.1 y.1 < 0 ↔ lexB x.1 y.1 = true) := cmpE_neg x.1 y.1
      have Hx : Hid (∀ V, Kp No wr V → V.rangeAt g (o + m * 35) (entC x)) := fun V hV => ((hA.kept hV).range HDX.out).2
      have Hy : Hid (∀ V, Kp No wr V → V.rangeAt g (o + h * 35) (entC y)) := fun V hV => ((hA.kept hV).range hDy).2
      have HIx := hid (inf HX.out)
      have HIy := hid (inf hyok)
      have HYES : Hid (lexB x.1 y.1 = false → Half (fun z => !lexB x.1 z.1) A (h + 1 - a) (j - a)) := fun e => by
        have := hHf.yes (h := h - a) (by omega) (by omega) hy (by simp [e]) HMONO.out
        rwa [show h - a + 1 = h + 1 - a by omega] at this
      have HNO : Hid (lexB x.1 y.1 = true → Half (fun z => !lexB x.1 z.1) A (i - a) (h - a)) := fun e => hHf.no (h := h - a) (by omega) (by omega) hy (by simp [e]) HMONO.out
      have HAA := hid hA
      have hhN : (h : Int) < (N : Int) := by omega
      have haN : (m : Int) < (N : Int) := by omega
      have hwh : IntKind.i64.wrap ((h : Int) + 1) = ((h + 1 : Nat) : Int) := by rw [IntKind.wrap_i64]; omega
      obtain ⟨cx, hcx⟩ : ∃ cx, entC x = cx := ⟨_, rfl⟩
      obtain ⟨cy, hcy⟩ : ∃ cy, entC y = cy := ⟨_, rfl⟩
      rw [hcx, hcy] at HCMP
      rw [hcx] at Hx HIx
      rw [hcy] at Hy HIy
      obtain ⟨z, hzz⟩ : ∃ z, cmpE x.1 y.1 = z := ⟨_, rfl⟩
      rw [hzz] at HCMP HCV
      clear hcx hcy hzz hHf hA hy hDy hyok hh HS
      go_wp2_with fail
      by_cases hz : z < 0
      · have HH2 := hid (HNO.out (HCV.out.1 hz))
        clear HYES HNO HCV
        refine wp_region_held_drew (S := fun V => Kp No wr V) (by kernel_rfl) ((Kp.refl _ _).drew) (fun hHeld => ?_)
        refine wpAnyH_take (i := 0) (oi := { dst := some 92, op := Op.move (Operand.tmp 4), type := 222, pos := "zsortanyfunc.go:414", after := #[], guard := none }) (v := .func (.func 133) #[] #[]) rfl (by kernel_rfl) (by kernel_rfl) (by kernel_rfl) (fun _ _ _ h => h) (Or.inl ⟨by rfl, fun w' hw' => by (clear hw'; go_simp)⟩) hHeld ?_
        simp only [Act.put, List.setIfInBounds_toArray, List.set_cons_zero, List.set_cons_succ]
        refine wpAnyH_take (i := 1) (oi := { dst := some 93, op := Op.move (Operand.tmp 0), type := 81, pos := "zsortanyfunc.go:414", after := #[], guard := none }) (v := .slice (some ⟨g, o, none⟩) N cap) rfl (by kernel_rfl) (by kernel_rfl) (by kernel_rfl) (fun _ _ _ h => h) (Or.inl ⟨by rfl, fun w' hw' => by (clear hw'; go_simp)⟩) hHeld ?_
        simp only [Act.put, List.setIfInBounds_toArray, List.set_cons_zero, List.set_cons_succ]
        refine wpAnyH_take (i := 2) (oi := { dst := some 94, op := Op.move (Operand.tmp 2), type := 3, pos := "zsortanyfunc.go:414", after := #[], guard := none }) (v := .int .i64 (m : Int)) rfl (by kernel_rfl) (by kernel_rfl) (by kernel_rfl) (fun _ _ _ h => h) (Or.inl ⟨by rfl, fun w' hw' => by (clear hw'; go_simp)⟩) hHeld ?_
        simp only [Act.put, List.setIfInBounds_toArray, List.set_cons_zero, List.set_cons_succ]
        refine wpAnyH_take (i := 3) (oi := { dst := some 95, op := Op.indexAddr 81 (Operand.tmp 93) (Operand.tmp 94), type := 0, pos := "zsortanyfunc.go:414", after := #[{ on := 1, ground := Ground.data }, { on := 2, ground := Ground.data }], guard := none }) (v := .pointer (some ⟨g, o + m * 35, none⟩)) rfl (by kernel_rfl) (by kernel_rfl) (by kernel_rfl) (fun _ _ _ h => h) (Or.inl ⟨by rfl, fun w' hw' => by (clear hw'; go_simp)⟩) hHeld ?_
        simp only [Act.put, List.setIfInBounds_toArray, List.set_cons_zero, List.set_cons_succ]
        refine wpAnyH_take (i := 4) (oi := { dst := some 96, op := Op.load 155 (Operand.tmp 95), type := 155, pos := "zsortanyfunc.go:414", after := #[{ on := 3, ground := Ground.data }], guard := none }) (v := .agg cx.toArray) rfl (by kernel_rfl) (by kernel_rfl) (by kernel_rfl) (fun _ _ _ h => h) (yieldsIf_load_mid (by rfl) _ _ rfl g (o + m * 35) rfl cx _ (Hx.out) Tryz.underlying155 rfl HIx.out) hHeld ?_
        simp only [Act.put, List.setIfInBounds_toArray, List.set_cons_zero, List.set_cons_succ]
        refine wpAnyH_take (i := 5) (oi := { dst := some 97, op := Op.move (Operand.tmp 0), type := 81, pos := "zsortanyfunc.go:414", after := #[], guard := none }) (v := .slice (some ⟨g, o, none⟩) N cap) rfl (by kernel_rfl) (by kernel_rfl) (by kernel_rfl) (fun _ _ _ h => h) (Or.inl ⟨by rfl, fun w' hw' => by (clear hw'; go_simp)⟩) hHeld ?_
        simp only [Act.put, List.setIfInBounds_toArray, List.set_cons_zero, List.set_cons_succ]
        refine wpAnyH_take (i := 6) (oi := { dst := some 98, op := Op.move (Operand.tmp 16), type := 3, pos := "zsortanyfunc.go:414", after := #[], guard := none }) (v := .int .i64 (h : Int)) rfl (by kernel_rfl) (by kernel_rfl) (by kernel_rfl) (fun _ _ _ h => h) (Or.inl ⟨by rfl, fun w' hw' => by (clear hw'; go_simp)⟩) hHeld ?_
        simp only [Act.put, List.setIfInBounds_toArray, List.set_cons_zero, List.set_cons_succ]
        refine wpAnyH_take (i := 7) (oi := { dst := some 99, op := Op.indexAddr 81 (Operand.tmp 97) (Operand.tmp 98), type := 0, pos := "zsortanyfunc.go:414", after := #[{ on := 5, ground := Ground.data }, { on := 6, ground := Ground.data }], guard := none }) (v := .pointer (some ⟨g, o + h * 35, none⟩)) rfl (by kernel_rfl) (by kernel_rfl) (by kernel_rfl) (fun _ _ _ h => h) (Or.inl ⟨by rfl, fun w' hw' => by (clear hw'; go_simp)⟩) hHeld ?_
        simp only [Act.put, List.setIfInBounds_toArray, List.set_cons_zero, List.set_cons_succ]
        refine wpAnyH_take (i := 8) (oi := { dst := some 100, op := Op.load 155 (Operand.tmp 99), type := 155, pos := "zsortanyfunc.go:414", after := #[{ on := 7, ground := Ground.data }], guard := none }) (v := .agg cy.toArray) rfl (by kernel_rfl) (by kernel_rfl) (by kernel_rfl) (fun _ _ _ h => h) (yieldsIf_load_mid (by rfl) _ _ rfl g (o + h * 35) rfl cy _ (Hy.out) Tryz.underlying155 rfl HIy.out) hHeld ?_
        simp only [Act.put, List.setIfInBounds_toArray, List.set_cons_zero, List.set_cons_succ]
        refine wpAnyH_ready (rs := [9]) (by kernel_rfl) (by simp) ?_
        refine AllReadyH.cons (o := { dst := some 101, op := Op.call { callee := Callee.value (Operand.tmp 92), args := #[Operand.tmp 96, Operand.tmp 100], argTypes := #[155, 155] }, type := 3, pos := "zsortanyfunc.go:414", after := #[{ on := 0, ground := Ground.data }, { on := 4, ground := Ground.data }, { on := 8, ground := Ground.data }], guard := none }) rfl (fun K hK => ?_) AllReadyH.nil
        go_simp
        refine (HCMP.out _).mono ?_
        rintro e w3 ⟨rfl, h3⟩
        have HK3 : Hid (Kp No wr w3) := (Kp.refl No wr).drew.andNone (Kp.below h3)
        clear h3
        go_wp2_with fail
        refine hK.out _ _ (HK3.out) (fun hh => ?_)
        clear hK K hHeld
        have hHeld := hh
        clear hh
        try simp only [Act.put, List.setIfInBounds_toArray, List.set_cons_zero, List.set_cons_succ]
        refine wpAnyH_take (i := 10) (oi := { dst := some 102, op := Op.binOp BinOp.lss 3 (Operand.tmp 101) (Operand.const (Value.int IntKind.i64 0)) 3, type := 4, pos := "zsortanyfunc.go:414", after := #[{ on := 9, ground := Ground.data }], guard := none }) (v := .bool true) rfl (by kernel_rfl) (by kernel_rfl) (by kernel_rfl) (fun _ _ _ h => h) (Or.inl ⟨by rfl, fun w' hw' => by (clear hw'; go_simp)⟩) hHeld ?_
        simp only [Act.put, List.setIfInBounds_toArray, List.set_cons_zero, List.set_cons_succ]
        refine wpAnyH_take (i := 11) (oi := { dst := some 103, op := Op.unOp UnOp.not 4 (Operand.tmp 102), type := 4, pos := "zsortanyfunc.go:414", after := #[{ on := 10, ground := Ground.data }], guard := none }) (v := .bool false) rfl (by kernel_rfl) (by kernel_rfl) (by kernel_rfl) (fun _ _ _ h => h) (Or.inl ⟨by rfl, fun w' hw' => by (clear hw'; go_simp)⟩) hHeld ?_
        simp only [Act.put, List.setIfInBounds_toArray, List.set_cons_zero, List.set_cons_succ]
        refine wpAnyH_done (by kernel_rfl) ?_ _
        have HA3 := hid (HAA.out.kept HK3.out)
        clear hHeld HK3 HCMP Hx Hy HIx HIy HAA
        go_wp2_with fail
        go_round
        case rel => exact ⟨i, h, rfl, rfl, hmi, by omega, by omega, HH2.out, HA3.out⟩
        case measure => simp [intOf]; omega
      · have hls : lexB x.1 y.1 = false := by
          cases hb : lexB x.1 y.1 with
          | false => rfl
          | true => exact absurd (HCV.out.2 hb) hz
        have HH2 := hid (HYES.out hls)
        clear HYES HNO HCV hls
        refine wp_region_held_drew (S := fun V => Kp No wr V) (by kernel_rfl) ((Kp.refl _ _).drew) (fun hHeld => ?_)
        refine wpAnyH_take (i := 0) (oi := { dst := some 92, op := Op.move (Operand.tmp 4), type := 222, pos := "zsortanyfunc.go:414", after := #[], guard := none }) (v := .func (.func 133) #[] #[]) rfl (by kernel_rfl) (by kernel_rfl) (by kernel_rfl) (fun _ _ _ h => h) (Or.inl ⟨by rfl, fun w' hw' => by (clear hw'; go_simp)⟩) hHeld ?_
        simp only [Act.put, List.setIfInBounds_toArray, List.set_cons_zero, List.set_cons_succ]
        refine wpAnyH_take (i := 1) (oi := { dst := some 93, op := Op.move (Operand.tmp 0), type := 81, pos := "zsortanyfunc.go:414", after := #[], guard := none }) (v := .slice (some ⟨g, o, none⟩) N cap) rfl (by kernel_rfl) (by kernel_rfl) (by kernel_rfl) (fun _ _ _ h => h) (Or.inl ⟨by rfl, fun w' hw' => by (clear hw'; go_simp)⟩) hHeld ?_
        simp only [Act.put, List.setIfInBounds_toArray, List.set_cons_zero, List.set_cons_succ]
        refine wpAnyH_take (i := 2) (oi := { dst := some 94, op := Op.move (Operand.tmp 2), type := 3, pos := "zsortanyfunc.go:414", after := #[], guard := none }) (v := .int .i64 (m : Int)) rfl (by kernel_rfl) (by kernel_rfl) (by kernel_rfl) (fun _ _ _ h => h) (Or.inl ⟨by rfl, fun w' hw' => by (clear hw'; go_simp)⟩) hHeld ?_
        simp only [Act.put, List.setIfInBounds_toArray, List.set_cons_zero, List.set_cons_succ]
        refine wpAnyH_take (i := 3) (oi := { dst := some 95, op := Op.indexAddr 81 (Operand.tmp 93) (Operand.tmp 94), type := 0, pos := "zsortanyfunc.go:414", after := #[{ on := 1, ground := Ground.data }, { on := 2, ground := Ground.data }], guard := none }) (v := .pointer (some ⟨g, o + m * 35, none⟩)) rfl (by kernel_rfl) (by kernel_rfl) (by kernel_rfl) (fun _ _ _ h => h) (Or.inl ⟨by rfl, fun w' hw' => by (clear hw'; go_simp)⟩) hHeld ?_
        simp only [Act.put, List.setIfInBounds_toArray, List.set_cons_zero, List.set_cons_succ]
        refine wpAnyH_take (i := 4) (oi := { dst := some 96, op := Op.load 155 (Operand.tmp 95), type := 155, pos := "zsortanyfunc.go:414", after := #[{ on := 3, ground := Ground.data }], guard := none }) (v := .agg cx.toArray) rfl (by kernel_rfl) (by kernel_rfl) (by kernel_rfl) (fun _ _ _ h => h) (yieldsIf_load_mid (by rfl) _ _ rfl g (o + m * 35) rfl cx _ (Hx.out) Tryz.underlying155 rfl HIx.out) hHeld ?_
        simp only [Act.put, List.setIfInBounds_toArray, List.set_cons_zero, List.set_cons_succ]
        refine wpAnyH_take (i := 5) (oi := { dst := some 97, op := Op.move (Operand.tmp 0), type := 81, pos := "zsortanyfunc.go:414", after := #[], guard := none }) (v := .slice (some ⟨g, o, none⟩) N cap) rfl (by kernel_rfl) (by kernel_rfl) (by kernel_rfl) (fun _ _ _ h => h) (Or.inl ⟨by rfl, fun w' hw' => by (clear hw'; go_simp)⟩) hHeld ?_
        simp only [Act.put, List.setIfInBounds_toArray, List.set_cons_zero, List.set_cons_succ]
        refine wpAnyH_take (i := 6) (oi := { dst := some 98, op := Op.move (Operand.tmp 16), type := 3, pos := "zsortanyfunc.go:414", after := #[], guard := none }) (v := .int .i64 (h : Int)) rfl (by kernel_rfl) (by kernel_rfl) (by kernel_rfl) (fun _ _ _ h => h) (Or.inl ⟨by rfl, fun w' hw' => by (clear hw'; go_simp)⟩) hHeld ?_
        simp only [Act.put, List.setIfInBounds_toArray, List.set_cons_zero, List.set_cons_succ]
        refine wpAnyH_take (i := 7) (oi := { dst := some 99, op := Op.indexAddr 81 (Operand.tmp 97) (Operand.tmp 98), type := 0, pos := "zsortanyfunc.go:414", after := #[{ on := 5, ground := Ground.data }, { on := 6, ground := Ground.data }], guard := none }) (v := .pointer (some ⟨g, o + h * 35, none⟩)) rfl (by kernel_rfl) (by kernel_rfl) (by kernel_rfl) (fun _ _ _ h => h) (Or.inl ⟨by rfl, fun w' hw' => by (clear hw'; go_simp)⟩) hHeld ?_
        simp only [Act.put, List.setIfInBounds_toArray, List.set_cons_zero, List.set_cons_succ]
        refine wpAnyH_take (i := 8) (oi := { dst := some 100, op := Op.load 155 (Operand.tmp 99), type := 155, pos := "zsortanyfunc.go:414", after := #[{ on := 7, ground := Ground.data }], guard := none }) (v := .agg cy.toArray) rfl (by kernel_rfl) (by kernel_rfl) (by kernel_rfl) (fun _ _ _ h => h) (yieldsIf_load_mid (by rfl) _ _ rfl g (o + h * 35) rfl cy _ (Hy.out) Tryz.underlying155 rfl HIy.out) hHeld ?_
        simp only [Act.put, List.setIfInBounds_toArray, List.set_cons_zero, List.set_cons_succ]
        refine wpAnyH_ready (rs := [9]) (by kernel_rfl) (by simp) ?_
        refine AllReadyH.cons (o := { dst := some 101, op := Op.call { callee := Callee.value (Operand.tmp 92), args := #[Operand.tmp 96, Operand.tmp 100], argTypes := #[155, 155] }, type := 3, pos := "zsortanyfunc.go:414", after := #[{ on := 0, ground := Ground.data }, { on := 4, ground := Ground.data }, { on := 8, ground := Ground.data }], guard := none }) rfl (fun K hK => ?_) AllReadyH.nil
        go_simp
        refine (HCMP.out _).mono ?_
        rintro e w3 ⟨rfl, h3⟩
        have HK3 : Hid (Kp No wr w3) := (Kp.refl No wr).drew.andNone (Kp.below h3)
        clear h3
        go_wp2_with fail
        refine hK.out _ _ (HK3.out) (fun hh => ?_)
        clear hK K hHeld
        have hHeld := hh
        clear hh
        try simp only [Act.put, List.setIfInBounds_toArray, List.set_cons_zero, List.set_cons_succ]
        refine wpAnyH_take (i := 10) (oi := { dst := some 102, op := Op.binOp BinOp.lss 3 (Operand.tmp 101) (Operand.const (Value.int IntKind.i64 0)) 3, type := 4, pos := "zsortanyfunc.go:414", after := #[{ on := 9, ground := Ground.data }], guard := none }) (v := .bool false) rfl (by kernel_rfl) (by kernel_rfl) (by kernel_rfl) (fun _ _ _ h => h) (Or.inl ⟨by rfl, fun w' hw' => by (clear hw'; go_simp)⟩) hHeld ?_
        simp only [Act.put, List.setIfInBounds_toArray, List.set_cons_zero, List.set_cons_succ]
        refine wpAnyH_take (i := 11) (oi := { dst := some 103, op := Op.unOp UnOp.not 4 (Operand.tmp 102), type := 4, pos := "zsortanyfunc.go:414", after := #[{ on := 10, ground := Ground.data }], guard := none }) (v := .bool true) rfl (by kernel_rfl) (by kernel_rfl) (by kernel_rfl) (fun _ _ _ h => h) (Or.inl ⟨by rfl, fun w' hw' => by (clear hw'; go_simp)⟩) hHeld ?_
        simp only [Act.put, List.setIfInBounds_toArray, List.set_cons_zero, List.set_cons_succ]
        refine wpAnyH_done (by kernel_rfl) ?_ _
        have HA3 := hid (HAA.out.kept HK3.out)
        clear hHeld HK3 HCMP Hx Hy HIx HIy HAA
        go_wp2_with fail
        go_round
        case rel => exact ⟨h + 1, j, by go_num, rfl, by omega, by omega, hjb, HH2.out, HA3.out⟩
        case measure => simp [intOf]; omega
    · have hltI : ¬ (i : Int) < (j : Int) := by omega
      obtain ⟨hHf, hA⟩ := HS.out
      have hji : j = i := by omega
      rw [hji] at hHf
      obtain ⟨hlo, hhi⟩ := hHf.end
      have hMrg := Mrg.one_last (key := ky) lexOrd (x := x) (a1 := A.take (i - a)) (a2 := A.drop (i - a)) (fun y hy => by simpa using hlo y hy) (fun y hy => by simpa using hhi y hy) (by rw [List.take_append_drop]; exact HSRT.out)
      rw [List.take_append_drop] at hMrg
      have HU0 : Hid (DnSt L (A.take (i - a)) (A.drop (i - a)) R x m D) := ⟨A.drop (i - a), [], by simp, by have := HLB.out; rw [List.length_take, List.length_drop]; omega, by rw [← HD.out, ← List.append_assoc (A.take (i - a)), List.take_append_drop]; simp⟩
      have HLE : Hid (L.length + (A.take (i - a)).length = i) := by have := HLB.out; rw [Hid, List.length_take]; omega
      have HMG := hid hMrg
      have HAA := hid hA
      clear hHf hA hlo hhi hMrg hji HS
      go_wp2_with fail
      go_loopw [17] (fun v13 wr => ∃ k : Nat, v13 = .int .i64 (k : Int) ∧ i ≤ k ∧ k ≤ m ∧ Hid (∃ D, DnSt L (A.take (i - a)) (A.drop (i - a)) R x k D ∧ At w g o D wr)) (fun v13 _ => (intOf v13).toNat)
      case atStart => exact ⟨m, rfl, by omega, Nat.le_refl _, D, HU0.out, HAA.out⟩
      case round =>
        obtain ⟨k, rfl, hka, hki, HK⟩ := hrel
        by_cases hlk : i < k
        · have hlkI : (i : Int) < (k : Int) := by omega
          obtain ⟨E, hU, hA⟩ := HK.out
          have hlE := HLE.out
          obtain ⟨hst, ⟨y, hy⟩, hx⟩ := hU.step (by omega)
          obtain ⟨k1, hk1⟩ : ∃ k1, k - 1 = k1 := ⟨_, rfl⟩
          rw [hk1] at hst hy
          have hwk : IntKind.i64.wrap ((k : Int) - 1) = (k1 : Int) := by rw [IntKind.wrap_i64]; omega
          have hkN : (k : Int) < (N : Int) := by omega
          have hk1N : (k1 : Int) < (N : Int) := by omega
          have HJM : Hid (i ≤ k1 ∧ k1 ≤ m ∧ k1 < k) := by rw [Hid]; omega
          obtain ⟨hox, hoy, hrx, hry, ht1, ht2, hfin⟩ := swap2_at hA hx hy
          have HFIN := hid hfin
          have HST2 := hid hst
          have HT1 := hid ht1
          have HT2 := hid ht2
          have HIx := hid (inf hox)
          have HIy := hid (inf hoy)
          have HAx := hid (infA hox)
          have HAy := hid (infA hoy)
          have HOx := hid (all_oneCell_toArray (entC_one x))
          have HOy := hid (all_oneCell_toArray (entC_one y))
          have Hx := hid hrx
          have Hy := hid hry
          generalize entC x = cx at *
          generalize entC y = cy at *
          clear hst hy hx hk1 hox hoy hrx hry ht1 ht2 hfin hU hA hlE
          go_wp2_with fail
          refine wp_region_held_drew (S := fun _ => True) (by kernel_rfl) trivial (fun hHeld => ?_)
          refine wpAnyH_take (i := 0) (oi := { dst := some 113, op := Op.move (Operand.tmp 0), type := 81, pos := "zsortanyfunc.go:422", after := #[], guard := none }) (v := .slice (some ⟨g, o, none⟩) N cap) rfl (by kernel_rfl) (by kernel_rfl) (by kernel_rfl) (fun _ _ _ h => h) (Or.inl ⟨by rfl, fun w' hw' => by (clear hw'; go_simp)⟩) hHeld ?_
          simp only [Act.put, List.setIfInBounds_toArray, List.set_cons_zero, List.set_cons_succ]
          refine wpAnyH_take (i := 1) (oi := { dst := some 114, op := Op.move (Operand.tmp 17), type := 3, pos := "zsortanyfunc.go:422", after := #[], guard := none }) (v := .int .i64 (k : Int)) rfl (by kernel_rfl) (by kernel_rfl) (by kernel_rfl) (fun _ _ _ h => h) (Or.inl ⟨by rfl, fun w' hw' => by (clear hw'; go_simp)⟩) hHeld ?_
          simp only [Act.put, List.setIfInBounds_toArray, List.set_cons_zero, List.set_cons_succ]
          refine wpAnyH_take (i := 2) (oi := { dst := some 115, op := Op.move (Operand.tmp 0), type := 81, pos := "zsortanyfunc.go:422", after := #[{ on := 15, ground := Ground.gcOnly Departure.lateStores }], guard := none }) (v := .slice (some ⟨g, o, none⟩) N cap) rfl (by kernel_rfl) (by kernel_rfl) (by kernel_rfl) (fun _ _ _ h => h) (Or.inl ⟨by rfl, fun w' hw' => by (clear hw'; go_simp)⟩) hHeld ?_
          simp only [Act.put, List.setIfInBounds_toArray, List.set_cons_zero, List.set_cons_succ]
          refine wpAnyH_take (i := 3) (oi := { dst := some 116, op := Op.move (Operand.tmp 17), type := 3, pos := "zsortanyfunc.go:422", after := #[{ on := 15, ground := Ground.gcOnly Departure.lateStores }], guard := none }) (v := .int .i64 (k : Int)) rfl (by kernel_rfl) (by kernel_rfl) (by kernel_rfl) (fun _ _ _ h => h) (Or.inl ⟨by rfl, fun w' hw' => by (clear hw'; go_simp)⟩) hHeld ?_
          simp only [Act.put, List.setIfInBounds_toArray, List.set_cons_zero, List.set_cons_succ]
          refine wpAnyH_take (i := 4) (oi := { dst := some 117, op := Op.binOp BinOp.sub 3 (Operand.tmp 116) (Operand.const (Value.int IntKind.i64 1)) 3, type := 3, pos := "zsortanyfunc.go:422", after := #[{ on := 3, ground := Ground.data }, { on := 15, ground := Ground.gcOnly Departure.lateStores }], guard := none }) (v := .int .i64 (k1 : Int)) rfl (by kernel_rfl) (by kernel_rfl) (by kernel_rfl) (fun _ _ _ h => h) (Or.inl ⟨by rfl, fun w' hw' => by (clear hw'; go_simp)⟩) hHeld ?_
          simp only [Act.put, List.setIfInBounds_toArray, List.set_cons_zero, List.set_cons_succ]
          refine wpAnyH_take (i := 5) (oi := { dst := some 118, op := Op.move (Operand.tmp 0), type := 81, pos := "zsortanyfunc.go:422", after := #[], guard := none }) (v := .slice (some ⟨g, o, none⟩) N cap) rfl (by kernel_rfl) (by kernel_rfl) (by kernel_rfl) (fun _ _ _ h => h) (Or.inl ⟨by rfl, fun w' hw' => by (clear hw'; go_simp)⟩) hHeld ?_
          simp only [Act.put, List.setIfInBounds_toArray, List.set_cons_zero, List.set_cons_succ]
          refine wpAnyH_take (i := 6) (oi := { dst := some 119, op := Op.move (Operand.tmp 17), type := 3, pos := "zsortanyfunc.go:422", after := #[], guard := none }) (v := .int .i64 (k : Int)) rfl (by kernel_rfl) (by kernel_rfl) (by kernel_rfl) (fun _ _ _ h => h) (Or.inl ⟨by rfl, fun w' hw' => by (clear hw'; go_simp)⟩) hHeld ?_
          simp only [Act.put, List.setIfInBounds_toArray, List.set_cons_zero, List.set_cons_succ]
          refine wpAnyH_take (i := 7) (oi := { dst := some 120, op := Op.binOp BinOp.sub 3 (Operand.tmp 119) (Operand.const (Value.int IntKind.i64 1)) 3, type := 3, pos := "zsortanyfunc.go:422", after := #[{ on := 6, ground := Ground.data }], guard := none }) (v := .int .i64 (k1 : Int)) rfl (by kernel_rfl) (by kernel_rfl) (by kernel_rfl) (fun _ _ _ h => h) (Or.inl ⟨by rfl, fun w' hw' => by (clear hw'; go_simp)⟩) hHeld ?_
          simp only [Act.put, List.setIfInBounds_toArray, List.set_cons_zero, List.set_cons_succ]
          refine wpAnyH_take (i := 8) (oi := { dst := some 121, op := Op.indexAddr 81 (Operand.tmp 118) (Operand.tmp 120), type := 0, pos := "zsortanyfunc.go:422", after := #[{ on := 5, ground := Ground.data }, { on := 7, ground := Ground.data }], guard := none }) (v := .pointer (some ⟨g, o + k1 * 35, none⟩)) rfl (by kernel_rfl) (by kernel_rfl) (by kernel_rfl) (fun _ _ _ h => h) (Or.inl ⟨by rfl, fun w' hw' => by (clear hw'; go_simp)⟩) hHeld ?_
          simp only [Act.put, List.setIfInBounds_toArray, List.set_cons_zero, List.set_cons_succ]
          refine wpAnyH_take (i := 10) (oi := { dst := some 123, op := Op.move (Operand.tmp 0), type := 81, pos := "zsortanyfunc.go:422", after := #[], guard := none }) (v := .slice (some ⟨g, o, none⟩) N cap) rfl (by kernel_rfl) (by kernel_rfl) (by kernel_rfl) (fun _ _ _ h => h) (Or.inl ⟨by rfl, fun w' hw' => by (clear hw'; go_simp)⟩) hHeld ?_
          simp only [Act.put, List.setIfInBounds_toArray, List.set_cons_zero, List.set_cons_succ]
          refine wpAnyH_take (i := 11) (oi := { dst := some 124, op := Op.move (Operand.tmp 17), type := 3, pos := "zsortanyfunc.go:422", after := #[], guard := none }) (v := .int .i64 (k : Int)) rfl (by kernel_rfl) (by kernel_rfl) (by kernel_rfl) (fun _ _ _ h => h) (Or.inl ⟨by rfl, fun w' hw' => by (clear hw'; go_simp)⟩) hHeld ?_
          simp only [Act.put, List.setIfInBounds_toArray, List.set_cons_zero, List.set_cons_succ]
          refine wpAnyH_take (i := 12) (oi := { dst := some 125, op := Op.indexAddr 81 (Operand.tmp 123) (Operand.tmp 124), type := 0, pos := "zsortanyfunc.go:422", after := #[{ on := 10, ground := Ground.data }, { on := 11, ground := Ground.data }], guard := none }) (v := .pointer (some ⟨g, o + k * 35, none⟩)) rfl (by kernel_rfl) (by kernel_rfl) (by kernel_rfl) (fun _ _ _ h => h) (Or.inl ⟨by rfl, fun w' hw' => by (clear hw'; go_simp)⟩) hHeld ?_
          simp only [Act.put, List.setIfInBounds_toArray, List.set_cons_zero, List.set_cons_succ]
          refine wpAnyH_ready (rs := [9, 13]) (by kernel_rfl) (by simp) ?_
          refine AllReadyH.cons (o := { dst := some 122, op := Op.load 155 (Operand.tmp 121), type := 155, pos := "zsortanyfunc.go:422", after := #[{ on := 8, ground := Ground.data }], guard := none }) rfl (fun K hK => ?_) (AllReadyH.cons (o := { dst := some 126, op := Op.load 155 (Operand.tmp 125), type := 155, pos := "zsortanyfunc.go:422", after := #[{ on := 12, ground := Ground.data }], guard := none }) rfl (fun K hK => ?_) AllReadyH.nil)
          · rw [if_pos (by rfl)]
            refine wp_load_mid 155 _ (by rfl) g (o + k1 * 35) (by rfl) cy _ (Hy.out _ ((Kp.refl No _).drew)) Tryz.underlying155 rfl HIy.out ?_
            refine hK.out _ _ trivial (fun hh => ?_)
            clear hK K hHeld
            have hHeld := hh
            clear hh
            try simp only [Act.put, List.setIfInBounds_toArray, List.set_cons_zero, List.set_cons_succ]
            refine wpAnyH_ready (rs := [13]) (by kernel_rfl) (by simp) ?_
            refine AllReadyH.cons (o := { dst := some 126, op := Op.load 155 (Operand.tmp 125), type := 155, pos := "zsortanyfunc.go:422", after := #[{ on := 12, ground := Ground.data }], guard := none }) rfl (fun K hK => ?_) AllReadyH.nil
            rw [if_pos (by rfl)]
            refine wp_load_mid 155 _ (by rfl) g (o + k * 35) (by rfl) cx _ (Hx.out _ ((Kp.refl No _).drew)) Tryz.underlying155 rfl HIx.out ?_
            refine hK.out _ _ trivial (fun hh => ?_)
            clear hK K hHeld
            have hHeld := hh
            clear hh
            try simp only [Act.put, List.setIfInBounds_toArray, List.set_cons_zero, List.set_cons_succ]
            refine wpAnyH_take (i := 14) (oi := { dst := some 127, op := Op.indexAddr 81 (Operand.tmp 113) (Operand.tmp 114), type := 0, pos := "zsortanyfunc.go:422", after := #[{ on := 0, ground := Ground.data }, { on := 1, ground := Ground.data }, { on := 0, ground := Ground.phase }, { on := 1, ground := Ground.phase }, { on := 2, ground := Ground.textOnly Departure.lateStores }, { on := 3, ground := Ground.textOnly Departure.lateStores }, { on := 4, ground := Ground.textOnly Departure.lateStores }, { on := 5, ground := Ground.phase }, { on := 6, ground := Ground.phase }, { on := 7, ground := Ground.phase }, { on := 8, ground := Ground.phase }, { on := 9, ground := Ground.phase }, { on := 10, ground := Ground.textOnly Departure.lateStores }, { on := 11, ground := Ground.textOnly Departure.lateStores }, { on := 12, ground := Ground.textOnly Departure.lateStoresUnsure }, { on := 13, ground := Ground.phase }], guard := none }) (v := .pointer (some ⟨g, o + k * 35, none⟩)) rfl (by kernel_rfl) (by kernel_rfl) (by kernel_rfl) (fun _ _ _ h => h) (Or.inl ⟨by rfl, fun w' hw' => by (clear hw'; go_simp)⟩) hHeld ?_
            simp only [Act.put, List.setIfInBounds_toArray, List.set_cons_zero, List.set_cons_succ]
            refine wpAnyH_ready (rs := [15]) (by kernel_rfl) (by simp) ?_
            refine AllReadyH.cons (o := { dst := none, op := Op.store 155 (Operand.tmp 127) (Operand.tmp 122), type := 0, pos := "zsortanyfunc.go:422", after := #[{ on := 14, ground := Ground.data }, { on := 9, ground := Ground.data }, { on := 0, ground := Ground.phase }, { on := 1, ground := Ground.phase }, { on := 2, ground := Ground.textOnly Departure.lateStores }, { on := 3, ground := Ground.textOnly Departure.lateStores }, { on := 4, ground := Ground.textOnly Departure.lateStores }, { on := 5, ground := Ground.phase }, { on := 6, ground := Ground.phase }, { on := 7, ground := Ground.phase }, { on := 8, ground := Ground.phase }, { on := 9, ground := Ground.phase }, { on := 10, ground := Ground.textOnly Departure.lateStores }, { on := 11, ground := Ground.textOnly Departure.lateStores }, { on := 12, ground := Ground.textOnly Departure.lateStoresUnsure }, { on := 13, ground := Ground.phase }], guard := none }) rfl (fun K hK => ?_) AllReadyH.nil
            rw [if_pos (by rfl)]
            refine wp_store_mid 155 _ _ (by rfl) g (o + k * 35) cy.toArray (by rfl) (by rfl) HT1.out HAy.out HOy.out ?_
            refine hK.out _ _ trivial (fun hh => ?_)
            clear hK K hHeld
            have hHeld := hh
            clear hh
            simp only [Act.put]
            refine wpAnyH_take (i := 16) (oi := { dst := some 128, op := Op.indexAddr 81 (Operand.tmp 115) (Operand.tmp 117), type := 0, pos := "zsortanyfunc.go:422", after := #[{ on := 2, ground := Ground.data }, { on := 4, ground := Ground.data }, { on := 0, ground := Ground.phase }, { on := 1, ground := Ground.phase }, { on := 2, ground := Ground.phase }, { on := 3, ground := Ground.phase }, { on := 4, ground := Ground.phase }, { on := 5, ground := Ground.phase }, { on := 6, ground := Ground.phase }, { on := 7, ground := Ground.phase }, { on := 8, ground := Ground.phase }, { on := 9, ground := Ground.phase }, { on := 10, ground := Ground.phase }, { on := 11, ground := Ground.phase }, { on := 12, ground := Ground.phase }, { on := 13, ground := Ground.phase }, { on := 14, ground := Ground.phase }, { on := 15, ground := Ground.phase }], guard := none }) (v := .pointer (some ⟨g, o + k1 * 35, none⟩)) rfl (by kernel_rfl) (by kernel_rfl) (by kernel_rfl) (fun _ _ _ h => h) (Or.inl ⟨by rfl, fun w' hw' => by (clear hw'; go_simp)⟩) hHeld ?_
            simp only [Act.put, List.setIfInBounds_toArray, List.set_cons_zero, List.set_cons_succ]
            refine wpAnyH_ready (rs := [17]) (by kernel_rfl) (by simp) ?_
            refine AllReadyH.cons (o := { dst := none, op := Op.store 155 (Operand.tmp 128) (Operand.tmp 126), type := 0, pos := "zsortanyfunc.go:422", after := #[{ on := 16, ground := Ground.data }, { on := 13, ground := Ground.data }, { on := 15, ground := Ground.chain }, { on := 0, ground := Ground.phase }, { on := 1, ground := Ground.phase }, { on := 2, ground := Ground.phase }, { on := 3, ground := Ground.phase }, { on := 4, ground := Ground.phase }, { on := 5, ground := Ground.phase }, { on := 6, ground := Ground.phase }, { on := 7, ground := Ground.phase }, { on := 8, ground := Ground.phase }, { on := 9, ground := Ground.phase }, { on := 10, ground := Ground.phase }, { on := 11, ground := Ground.phase }, { on := 12, ground := Ground.phase }, { on := 13, ground := Ground.phase }, { on := 14, ground := Ground.phase }, { on := 15, ground := Ground.phase }], guard := none }) rfl (fun K hK => ?_) AllReadyH.nil
            rw [if_pos (by rfl)]
            refine wp_store_mid 155 _ _ (by rfl) g (o + k1 * 35) cx.toArray (by rfl) (by rfl) HT2.out HAx.out HOx.out ?_
            refine hK.out _ _ trivial (fun hh => ?_)
            clear hK K hHeld
            have hHeld := hh
            clear hh
            simp only [Act.put]
            refine wpAnyH_done (by kernel_rfl) ?_ _
            go_wp2_with fail
            go_round
            case rel => exact ⟨k1, rfl, HJM.out.1, HJM.out.2.1, _, HST2.out, HFIN.out⟩
            case measure => simp [intOf]; have := HJM.out; omega
          · rw [if_pos (by rfl)]
            refine wp_load_mid 155 _ (by rfl) g (o + k * 35) (by rfl) cx _ (Hx.out _ ((Kp.refl No _).drew)) Tryz.underlying155 rfl HIx.out ?_
            refine hK.out _ _ trivial (fun hh => ?_)
            clear hK K hHeld
            have hHeld := hh
            clear hh
            try simp only [Act.put, List.setIfInBounds_toArray, List.set_cons_zero, List.set_cons_succ]
            refine wpAnyH_ready (rs := [9]) (by kernel_rfl) (by simp) ?_
            refine AllReadyH.cons (o := { dst := some 122, op := Op.load 155 (Operand.tmp 121), type := 155, pos := "zsortanyfunc.go:422", after := #[{ on := 8, ground := Ground.data }], guard := none }) rfl (fun K hK => ?_) AllReadyH.nil
            rw [if_pos (by rfl)]
            refine wp_load_mid 155 _ (by rfl) g (o + k1 * 35) (by rfl) cy _ (Hy.out _ ((Kp.refl No _).drew)) Tryz.underlying155 rfl HIy.out ?_
            refine hK.out _ _ trivial (fun hh => ?_)
            clear hK K hHeld
            have hHeld := hh
            clear hh
            try simp only [Act.put, List.setIfInBounds_toArray, List.set_cons_zero, List.set_cons_succ]
            refine wpAnyH_take (i := 14) (oi := { dst := some 127, op := Op.indexAddr 81 (Operand.tmp 113) (Operand.tmp 114), type := 0, pos := "zsortanyfunc.go:422", after := #[{ on := 0, ground := Ground.data }, { on := 1, ground := Ground.data }, { on := 0, ground := Ground.phase }, { on := 1, ground := Ground.phase }, { on := 2, ground := Ground.textOnly Departure.lateStores }, { on := 3, ground := Ground.textOnly Departure.lateStores }, { on := 4, ground := Ground.textOnly Departure.lateStores }, { on := 5, ground := Ground.phase }, { on := 6, ground := Ground.phase }, { on := 7, ground := Ground.phase }, { on := 8, ground := Ground.phase }, { on := 9, ground := Ground.phase }, { on := 10, ground := Ground.textOnly Departure.lateStores }, { on := 11, ground := Ground.textOnly Departure.lateStores }, { on := 12, ground := Ground.textOnly Departure.lateStoresUnsure }, { on := 13, ground := Ground.phase }], guard := none }) (v := .pointer (some ⟨g, o + k * 35, none⟩)) rfl (by kernel_rfl) (by kernel_rfl) (by kernel_rfl) (fun _ _ _ h => h) (Or.inl ⟨by rfl, fun w' hw' => by (clear hw'; go_simp)⟩) hHeld ?_
            simp only [Act.put, List.setIfInBounds_toArray, List.set_cons_zero, List.set_cons_succ]
            refine wpAnyH_ready (rs := [15]) (by kernel_rfl) (by simp) ?_
            refine AllReadyH.cons (o := { dst := none, op := Op.store 155 (Operand.tmp 127) (Operand.tmp 122), type := 0, pos := "zsortanyfunc.go:422", after := #[{ on := 14, ground := Ground.data }, { on := 9, ground := Ground.data }, { on := 0, ground := Ground.phase }, { on := 1, ground := Ground.phase }, { on := 2, ground := Ground.textOnly Departure.lateStores }, { on := 3, ground := Ground.textOnly Departure.lateStores }, { on := 4, ground := Ground.textOnly Departure.lateStores }, { on := 5, ground := Ground.phase }, { on := 6, ground := Ground.phase }, { on := 7, ground := Ground.phase }, { on := 8, ground := Ground.phase }, { on := 9, ground := Ground.phase }, { on := 10, ground := Ground.textOnly Departure.lateStores }, { on := 11, ground := Ground.textOnly Departure.lateStores }, { on := 12, ground := Ground.textOnly Departure.lateStoresUnsure }, { on := 13, ground := Ground.phase }], guard := none }) rfl (fun K hK => ?_) AllReadyH.nil
            rw [if_pos (by rfl)]
            refine wp_store_mid 155 _ _ (by rfl) g (o + k * 35) cy.toArray (by rfl) (by rfl) HT1.out HAy.out HOy.out ?_
            refine hK.out _ _ trivial (fun hh => ?_)
            clear hK K hHeld
            have hHeld := hh
            clear hh
            simp only [Act.put]
            refine wpAnyH_take (i := 16) (oi := { dst := some 128, op := Op.indexAddr 81 (Operand.tmp 115) (Operand.tmp 117), type := 0, pos := "zsortanyfunc.go:422", after := #[{ on := 2, ground := Ground.data }, { on := 4, ground := Ground.data }, { on := 0, ground := Ground.phase }, { on := 1, ground := Ground.phase }, { on := 2, ground := Ground.phase }, { on := 3, ground := Ground.phase }, { on := 4, ground := Ground.phase }, { on := 5, ground := Ground.phase }, { on := 6, ground := Ground.phase }, { on := 7, ground := Ground.phase }, { on := 8, ground := Ground.phase }, { on := 9, ground := Ground.phase }, { on := 10, ground := Ground.phase }, { on := 11, ground := Ground.phase }, { on := 12, ground := Ground.phase }, { on := 13, ground := Ground.phase }, { on := 14, ground := Ground.phase }, { on := 15, ground := Ground.phase }], guard := none }) (v := .pointer (some ⟨g, o + k1 * 35, none⟩)) rfl (by kernel_rfl) (by kernel_rfl) (by kernel_rfl) (fun _ _ _ h => h) (Or.inl ⟨by rfl, fun w' hw' => by (clear hw'; go_simp)⟩) hHeld ?_
            simp only [Act.put, List.setIfInBounds_toArray, List.set_cons_zero, List.set_cons_succ]
            refine wpAnyH_ready (rs := [17]) (by kernel_rfl) (by simp) ?_
            refine AllReadyH.cons (o := { dst := none, op := Op.store 155 (Operand.tmp 128) (Operand.tmp 126), type := 0, pos := "zsortanyfunc.go:422", after := #[{ on := 16, ground := Ground.data }, { on := 13, ground := Ground.data }, { on := 15, ground := Ground.chain }, { on := 0, ground := Ground.phase }, { on := 1, ground := Ground.phase }, { on := 2, ground := Ground.phase }, { on := 3, ground := Ground.phase }, { on := 4, ground := Ground.phase }, { on := 5, ground := Ground.phase }, { on := 6, ground := Ground.phase }, { on := 7, ground := Ground.phase }, { on := 8, ground := Ground.phase }, { on := 9, ground := Ground.phase }, { on := 10, ground := Ground.phase }, { on := 11, ground := Ground.phase }, { on := 12, ground := Ground.phase }, { on := 13, ground := Ground.phase }, { on := 14, ground := Ground.phase }, { on := 15, ground := Ground.phase }], guard := none }) rfl (fun K hK => ?_) AllReadyH.nil
            rw [if_pos (by rfl)]
            refine wp_store_mid 155 _ _ (by rfl) g (o + k1 * 35) cx.toArray (by rfl) (by rfl) HT2.out HAx.out HOx.out ?_
            refine hK.out _ _ trivial (fun hh => ?_)
            clear hK K hHeld
            have hHeld := hh
            clear hh
            simp only [Act.put]
            refine wpAnyH_done (by kernel_rfl) ?_ _
            go_wp2_with fail
            go_round
            case rel => exact ⟨k1, rfl, HJM.out.1, HJM.out.2.1, _, HST2.out, HFIN.out⟩
            case measure => simp [intOf]; have := HJM.out; omega
        · have hlkI : ¬ (i : Int) < (k : Int) := by omega
          go_wp2_with fail
          first | (refine bodyPost_ret (results_none rfl _ _ _) rfl ?_) | (simp only [Exit.inBlock, Exit.then]; refine bodyPost_ret (results_none rfl _ _ _) rfl ?_)
          obtain ⟨E, hU, hA⟩ := HK.out
          have hlE := HLE.out
          obtain ⟨S, T, e1, e2, e3⟩ := hU
          have hS : S = [] := List.length_eq_zero_iff.1 (by omega)
          subst hS
          rw [List.nil_append] at e1
          refine ⟨rfl, _, HMG.out, ?_⟩
          rw [e1]
          rw [e3] at hA
          simpa using hA
end Go.Proofs.YthmimipoooemjaaGreatDoor.Sg
end

section
/-
  Two sorted ranges that stand side by side are merged in place.
-/
namespace Go.Proofs.YthmimipoooemjaaGreatDoor.Sg
open Go.RowKit
open Stb (Stab Srt Mrg Lts Les)
open Sim (hid Kp No)

/-- A search by halves among numbers. -/
structure HalfN (P : Nat → Bool) (lo hi i j : Nat) : Prop where
  le1 : lo ≤ i
  le : i ≤ j
  le2 : j ≤ hi
  yes : ∀ t, lo ≤ t → t < i → P t = true
  no : ∀ t, j ≤ t → t < hi → P t = false
theorem HalfN.up {P : Nat → Bool} {lo hi i j c : Nat} (H : HalfN P lo hi i j) (h1 : i ≤ c) (h2 : c < j) (hp : P c = true) (mono : ∀ t u, lo ≤ t → t ≤ u → u < hi → P u = true → P t = true) : HalfN P lo hi (c + 1) j :=
  ⟨by have := H.le1; omega, by omega, H.le2, fun t a b => mono t c a (by omega) (by have := H.le2; omega) hp, H.no⟩
theorem HalfN.dn {P : Nat → Bool} {lo hi i j c : Nat} (H : HalfN P lo hi i j) (h1 : i ≤ c) (h2 : c < j) (hp : P c = false) (mono : ∀ t u, lo ≤ t → t ≤ u → u < hi → P u = true → P t = true) : HalfN P lo hi i c :=
  ⟨H.le1, h1, by have := H.le2; omega, H.yes, fun t a b => by
    cases hpt : P t with
    | false => rfl
    | true => rw [mono c t (by have := H.le1; omega) a b hpt] at hp; cases hp⟩

theorem mrg_nil_right {A : List Ent} (h : Srt ky lexB A) : Mrg ky lexB A [] A := ⟨by rw [List.append_nil]; exact Stab.refl _, h⟩
theorem mrg_nil_left {A : List Ent} (h : Srt ky lexB A) : Mrg ky lexB [] A A := ⟨Stab.refl _, h⟩
theorem srt_le {B : List Ent} (hs : Srt ky lexB B) {t u : Nat} {x y : Ent} (htu : t ≤ u) (hx : B[t]? = some x) (hy : B[u]? = some y) : lexB y.1 x.1 = false := by
  by_cases e : t = u
  · subst e; rw [hx] at hy; cases hy; exact lexB_irr _
  · obtain ⟨hu1, hu2⟩ := List.getElem?_eq_some_iff.1 hy
    obtain ⟨ht1, ht2⟩ := List.getElem?_eq_some_iff.1 hx
    have := List.pairwise_iff_getElem.1 hs t u ht1 hu1 (by omega)
    rw [ht2, hu2] at this
    exact this

/-- What is asked of c: that the one at c stands not behind its fellow. -/
def askP (A B : List Ent) (a m p : Nat) (c : Nat) : Bool := !lexB ((B.getD (p - c - m) zEnt).1) ((A.getD (c - a) zEnt).1)

section
variable {A B : List Ent} {a m b mid lo hi : Nat}
/-- The numbers of a merge. -/
structure Nums (A B : List Ent) (a m b mid lo hi : Nat) : Prop where
  am : a + A.length = m
  mb : m + B.length = b
  mid2 : mid = (a + b) / 2
  A2 : 1 < A.length
  B2 : 1 < B.length
  lohi : (mid < m ∧ lo = mid + m - b ∧ hi = mid) ∨ (m ≤ mid ∧ lo = a ∧ hi = m)
theorem Nums.rng (h : Nums A B a m b mid lo hi) : a ≤ lo ∧ lo ≤ hi ∧ hi ≤ m ∧ hi ≤ mid ∧ a < mid ∧ mid < b := by
  have := h.am; have := h.mb; have := h.mid2; have := h.A2; have := h.B2; have := h.lohi
  omega
theorem Nums.ix (h : Nums A B a m b mid lo hi) {c : Nat} (h1 : lo ≤ c) (h2 : c < hi) : c - a < A.length ∧ m ≤ mid + m - 1 - c ∧ mid + m - 1 - c - m < B.length ∧ a ≤ c ∧ c < m ∧ mid + m - 1 - c < b := by
  have := h.am; have := h.mb; have := h.mid2; have := h.A2; have := h.B2; have := h.lohi
  omega
theorem getD_of {l : List Ent} {i : Nat} (h : i < l.length) : l[i]? = some (l.getD i zEnt) := by rw [List.getD_eq_getElem?_getD, List.getElem?_eq_getElem h]; rfl
theorem Nums.mono (h : Nums A B a m b mid lo hi) (sa : Srt ky lexB A) (sb : Srt ky lexB B) : ∀ t u, lo ≤ t → t ≤ u → u < hi → askP A B a m (mid + m - 1) u = true → askP A B a m (mid + m - 1) t = true := fun t u h1 h2 h3 hp => by
  have i1 := h.ix h1 (Nat.lt_of_le_of_lt h2 h3)
  have i2 := h.ix (Nat.le_trans h1 h2) h3
  have k1 := srt_le sa (t := t - a) (u := u - a) (by omega) (getD_of i1.1) (getD_of i2.1)
  have k2 := srt_le sb (t := mid + m - 1 - u - m) (u := mid + m - 1 - t - m) (by omega) (getD_of i2.2.2.1) (getD_of i1.2.2.1)
  unfold askP at hp ⊢
  have hp' : lexB ((B.getD (mid + m - 1 - u - m) zEnt).1) ((A.getD (u - a) zEnt).1) = false := by simpa using hp
  have := lexOrd.le_le k1 (lexOrd.le_le hp' k2)
  simpa using this
/-- Where the search ends both are cut well. -/
theorem Nums.cut (h : Nums A B a m b mid lo hi) (sa : Srt ky lexB A) (sb : Srt ky lexB B) {s : Nat} (H : HalfN (askP A B a m (mid + m - 1)) lo hi s s) :
    Lts ky lexB (B.take (mid - s)) (A.drop (s - a)) ∧ Les ky lexB (A.take (s - a)) (B.drop (mid - s)) ∧ s - a ≤ A.length ∧ mid - s ≤ B.length ∧ a ≤ s ∧ s ≤ m ∧ s ≤ mid ∧ mid + m - s ≤ b := by
  have r := h.rng
  have am := h.am
  have mb := h.mb
  have hl := h.lohi
  have hm2 := h.mid2
  have hA2 := h.A2
  have hB2 := h.B2
  have l1 := H.le1
  have l2 := H.le2
  refine ⟨fun y hy x hx => ?_, fun x hx y hy => ?_, by omega, by omega, by omega, by omega, by omega, by omega⟩
  · obtain ⟨v, hv⟩ := List.mem_iff_getElem?.1 hy
    obtain ⟨u, hu⟩ := List.mem_iff_getElem?.1 hx
    have hvl : v < mid - s := by have := (List.getElem?_eq_some_iff.1 hv).1; rw [List.length_take] at this; omega
    rw [List.getElem?_take_of_lt hvl] at hv
    rw [List.getElem?_drop] at hu
    have hul := (List.getElem?_eq_some_iff.1 hu).1
    by_cases hs : s < hi
    · have hn := H.no s (Nat.le_refl _) hs
      have ix := h.ix l1 hs
      unfold askP at hn
      have hn' : lexB ((B.getD (mid + m - 1 - s - m) zEnt).1) ((A.getD (s - a) zEnt).1) = true := by simpa using hn
      have k1 := srt_le sb (t := v) (u := mid + m - 1 - s - m) (by omega) hv (getD_of ix.2.2.1)
      have k2 := srt_le sa (t := s - a) (u := s - a + u) (by omega) (getD_of ix.1) hu
      exact lexOrd.le_lt k1 (lexOrd.lt_le hn' k2)
    · omega
  · obtain ⟨u, hu⟩ := List.mem_iff_getElem?.1 hx
    obtain ⟨v, hv⟩ := List.mem_iff_getElem?.1 hy
    have hul : u < s - a := by have := (List.getElem?_eq_some_iff.1 hu).1; rw [List.length_take] at this; omega
    rw [List.getElem?_take_of_lt hul] at hu
    rw [List.getElem?_drop] at hv
    have hvl := (List.getElem?_eq_some_iff.1 hv).1
    by_cases hs : lo < s
    · have hn := H.yes (s - 1) (by omega) (by omega)
      have ix := h.ix (c := s - 1) (by omega) (by omega)
      unfold askP at hn
      have hn' : lexB ((B.getD (mid + m - 1 - (s - 1) - m) zEnt).1) ((A.getD (s - 1 - a) zEnt).1) = false := by simpa using hn
      have k1 := srt_le sa (t := u) (u := s - 1 - a) (by omega) hu (getD_of ix.1)
      have k2 := srt_le sb (t := mid + m - 1 - (s - 1) - m) (u := mid - s + v) (by omega) (getD_of ix.2.2.1) hv
      exact lexOrd.le_le k1 (lexOrd.le_le hn' k2)
    · omega
end

/-- What a call of the merge itself is asked to do. -/
def SymOk (K : Nat) : Prop := ∀ (w : World) (g o : Nat) (L A B R : List Ent) (N cap : Nat), A.length + B.length < K → EOwn w g o (L ++ (A ++ (B ++ R))) → (L ++ (A ++ (B ++ R))).length = N → N ≤ 1000000 → Srt ky lexB A → Srt ky lexB B → A ≠ [] → B ≠ [] →
  Calls Tryz.prog 214 #[.slice (some ⟨g, o, none⟩) N cap, .int .i64 (L.length : Int), .int .i64 ((L.length + A.length : Nat) : Int), .int .i64 ((L.length + A.length + B.length : Nat) : Int), cmpV] w fun e w' => e = .returned (.tuple #[]) ∧ ∃ M, Mrg ky lexB A B M ∧ At w g o (L ++ (M ++ R)) w'

set_option maxHeartbeats 8000000 in
set_option maxRecDepth 100000 in
theorem symC_any (w : World) (g o : Nat) (L A B R : List Ent) (N cap : Nat) (h : EOwn w g o (L ++ (A ++ (B ++ R)))) (hN : (L ++ (A ++ (B ++ R))).length = N) (hl : N ≤ 1000000) (sa : Srt ky lexB A) (sb : Srt ky lexB B) (hA1 : 1 < A.length) (hB1 : 1 < B.length) (ih : SymOk (A.length + B.length)) :
    Calls Tryz.prog 214 #[.slice (some ⟨g, o, none⟩) N cap, .int .i64 (L.length : Int), .int .i64 ((L.length + A.length : Nat) : Int), .int .i64 ((L.length + A.length + B.length : Nat) : Int), cmpV] w fun e w' => e = .returned (.tuple #[]) ∧ ∃ M, Mrg ky lexB A B M ∧ At w g o (L ++ (M ++ R)) w' := by
  have H0 := hid (At.start h)
  have hlen : L.length + A.length + B.length + R.length = N := by rw [← hN]; simp; omega
  have HOKA : Hid (∀ z ∈ A, EOk z) := fun z hz => h.1.ok z (by simp [hz])
  have HOKB : Hid (∀ z ∈ B, EOk z) := fun z hz => h.1.ok z (by simp [hz])
  have HDA : Hid (∀ (t : Nat) (z : Ent), A[t]? = some z → (L ++ (A ++ (B ++ R)))[L.length + t]? = some z) := fun t z hz => get_mid hz
  have HDB : Hid (∀ (t : Nat) (z : Ent), B[t]? = some z → (L ++ (A ++ (B ++ R)))[L.length + A.length + t]? = some z) := fun t z hz => by
    have := get_mid (L := L ++ A) (R := R) hz
    simpa [List.append_assoc] using this
  obtain ⟨D, hD⟩ : ∃ D, L ++ (A ++ (B ++ R)) = D := ⟨_, rfl⟩
  rw [hD] at H0 HDA HDB
  have HD := hid hD
  obtain ⟨a, ha⟩ : ∃ a, L.length = a := ⟨_, rfl⟩
  obtain ⟨m, hm⟩ : ∃ m, a + A.length = m := ⟨_, rfl⟩
  obtain ⟨b, hb⟩ : ∃ b, m + B.length = b := ⟨_, rfl⟩
  obtain ⟨mid, hmid⟩ : ∃ mid, (a + b) / 2 = mid := ⟨_, rfl⟩
  obtain ⟨lo, hi, hlohi⟩ : ∃ lo hi, (mid < m ∧ lo = mid + m - b ∧ hi = mid) ∨ (m ≤ mid ∧ lo = a ∧ hi = m) := by
    by_cases hc : mid < m
    · exact ⟨_, _, .inl ⟨hc, rfl, rfl⟩⟩
    · exact ⟨_, _, .inr ⟨by omega, rfl, rfl⟩⟩
  have hNu : Nums A B a m b mid lo hi := ⟨hm, hb, hmid.symm, hA1, hB1, hlohi⟩
  have HNU := hid hNu
  have HMONO := hid (hNu.mono sa sb)
  have HCUT := hid (fun s (H : HalfN (askP A B a m (mid + m - 1)) lo hi s s) => hNu.cut sa sb H)
  have HIX := hid (fun c (h1 : lo ≤ c) (h2 : c < hi) => hNu.ix h1 h2)
  have hr := hNu.rng
  rw [ha, hm, hb]
  rw [ha] at HDA HDB
  rw [hm] at HDB
  have HLA := hid (And.intro ha (And.intro hm hb))
  have HSS := hid (And.intro sa sb)
  have HIH := hid ih
  have hbN : b + R.length = N := by omega
  have HRL := hid hbN
  have hbN2 : b ≤ N := by omega
  obtain ⟨q, hq⟩ : ∃ q, m - a = q := ⟨_, rfl⟩
  obtain ⟨r, hr2⟩ : ∃ r, b - m = r := ⟨_, rfl⟩
  have hw1 : IntKind.i64.wrap ((m : Int) - (a : Int)) = (q : Int) := by rw [IntKind.wrap_i64]; omega
  have hw2 : IntKind.i64.wrap ((b : Int) - (m : Int)) = (r : Int) := by rw [IntKind.wrap_i64]; omega
  have hq1 : ¬ ((q : Int) = 1) := by omega
  have hqb : ((q : Int) == 1) = false := by simp only [beq_eq_false_iff_ne]; exact hq1
  have hr1 : ¬ ((r : Int) = 1) := by omega
  have hrb : ((r : Int) == 1) = false := by simp only [beq_eq_false_iff_ne]; exact hr1
  have hmI : ((a : Int) + (b : Int)) / 2 = (mid : Int) := by omega
  obtain ⟨n, hn⟩ : ∃ n, mid + m = n := ⟨_, rfl⟩
  have hwn : IntKind.i64.wrap ((mid : Int) + (m : Int)) = (n : Int) := by rw [IntKind.wrap_i64]; omega
  obtain ⟨p, hp⟩ : ∃ p, n - 1 = p := ⟨_, rfl⟩
  have hwp : IntKind.i64.wrap ((n : Int) - 1) = (p : Int) := by rw [IntKind.wrap_i64]; omega
  have HNP : Hid (mid + m = n ∧ mid + m - 1 = p) := by rw [Hid]; omega
  have HLH := hid hlohi
  have HNB : Hid (mid < m → IntKind.i64.wrap ((n : Int) - (b : Int)) = (lo : Int)) := fun hc => by
    rw [IntKind.wrap_i64]
    have := HLH.out
    have := hNu.rng
    have := hNu.mid2
    omega
  have habm : a < m ∧ m < b := by omega
  obtain ⟨hr11, hr12, hr13, hr14, hr15, hr16⟩ := hr
  obtain ⟨habm1, habm2⟩ := habm
  clear ha hm hb hmid hlohi hNu h hN hD sa sb ih hlen hbN hq hr2 hn hp hA1 hB1
  unfold cmpV
  go_enter Tryz.func214, Tryz.ntmps214
  go_upto_if 140 with fail
  go_cut [20, 21] (fun s20 s21 wx => s20 = .int .i64 (lo : Int) ∧ s21 = .int .i64 (hi : Int) ∧ w = wx)
  case first =>
    by_cases hc : mid < m
    · have hcI : (mid : Int) < (m : Int) := by omega
      have hnb := HNB.out hc
      have e : hi = mid := by have := HLH.out; omega
      subst e
      go_wp2_with fail
      go_meet
      exact ⟨rfl, rfl, rfl⟩
    · have hcI : ¬ (mid : Int) < (m : Int) := by omega
      have e1 : hi = m := by have := HLH.out; omega
      have e2 : lo = a := by have := HLH.out; omega
      subst e1
      subst e2
      go_wp2_with fail
      go_meet
      exact ⟨rfl, rfl, rfl⟩
  case rest =>
  obtain ⟨rfl, rfl, rfl⟩ := hcut
  clear HNB HLH
  go_wp2_with fail
  go_loopw [20, 21] (fun v20 v21 wr => ∃ (i j : Nat), v20 = .int .i64 (i : Int) ∧ v21 = .int .i64 (j : Int) ∧ lo ≤ i ∧ i ≤ j ∧ j ≤ hi ∧ Hid (HalfN (askP A B a m (mid + m - 1)) lo hi i j ∧ At w g o D wr)) (fun v20 v21 _ => (intOf v21).toNat - (intOf v20).toNat)
  case atStart => exact ⟨lo, hi, rfl, rfl, Nat.le_refl _, hr12, Nat.le_refl _, ⟨Nat.le_refl _, hr12, Nat.le_refl _, fun t h1 h2 => (by omega), fun t h1 h2 => (by omega)⟩, H0.out⟩
  case round =>
    obtain ⟨i, j, rfl, rfl, hi1, hij, hj1, HS⟩ := hrel
    by_cases hlt : i < j
    · as_aux_lemma =>
      have hltI : (i : Int) < (j : Int) := by omega
      obtain ⟨c, hc⟩ : ∃ c, (i + j) / 2 = c := ⟨_, rfl⟩
      have hcI : ((i : Int) + (j : Int)) / 2 = (c : Int) := by omega
      have hic : i ≤ c ∧ c < j := by omega
      obtain ⟨hHf, hA⟩ := HS.out
      have ix := HIX.out c (by omega) (by omega)
      have hnp := HNP.out
      obtain ⟨v, hv⟩ : ∃ v, p - c = v := ⟨_, rfl⟩
      have hwv : IntKind.i64.wrap ((p : Int) - (c : Int)) = (v : Int) := by rw [IntKind.wrap_i64]; omega
      have hvN : (v : Int) < (N : Int) := by omega
      have hcN : (c : Int) < (N : Int) := by omega
      obtain ⟨y, hy⟩ : ∃ y, B.getD (p - c - m) zEnt = y := ⟨_, rfl⟩
      obtain ⟨x, hx⟩ : ∃ x, A.getD (c - a) zEnt = x := ⟨_, rfl⟩
      have hyB : B[p - c - m]? = some y := by rw [← hy]; exact getD_of (by rw [← hnp.2]; exact ix.2.2.1)
      have hxA : A[c - a]? = some x := by rw [← hx]; exact getD_of ix.1
      have hDy : D[v]? = some y := by have := HDB.out _ _ hyB; rwa [show m + (p - c - m) = v by omega] at this
      have hDx : D[c]? = some x := by have := HDA.out _ _ hxA; rwa [show a + (c - a) = c by omega] at this
      have hyok := HOKB.out y (List.mem_of_getElem? hyB)
      have hxok := HOKA.out x (List.mem_of_getElem? hxA)
      have HCMP := hid (fun V => compare_any y x V hyok hxok)
      have HCV : Hid (cmpE y.1 x.1 < 0 ↔ lexB y.1 x.1 = true) := cmpE_neg y.1 x.1
      have hask : askP A B a m (mid + m - 1) c = !lexB y.1 x.1 := by rw [hnp.2, askP, hy, hx]
      have HYES : Hid (lexB y.1 x.1 = false → HalfN (askP A B a m (mid + m - 1)) lo hi (c + 1) j) := fun e => hHf.up hic.1 hic.2 (by rw [hask, e]; rfl) HMONO.out
      have HNO : Hid (lexB y.1 x.1 = true → HalfN (askP A B a m (mid + m - 1)) lo hi i c) := fun e => hHf.dn hic.1 hic.2 (by rw [hask, e]; rfl) HMONO.out
      have Hx : Hid (∀ V, Kp No wr V → V.rangeAt g (o + v * 35) (entC y)) := fun V hV => ((hA.kept hV).range hDy).2
      have Hy : Hid (∀ V, Kp No wr V → V.rangeAt g (o + c * 35) (entC x)) := fun V hV => ((hA.kept hV).range hDx).2
      have HIx := hid (inf hyok)
      have HIy := hid (inf hxok)
      have HAA := hid hA
      have hwc : IntKind.i64.wrap ((c : Int) + 1) = ((c + 1 : Nat) : Int) := by rw [IntKind.wrap_i64]; omega
      obtain ⟨cx, hcx⟩ : ∃ cx, entC y = cx := ⟨_, rfl⟩
      obtain ⟨cy, hcy⟩ : ∃ cy, entC x = cy := ⟨_, rfl⟩
      rw [hcx, hcy] at HCMP
      rw [hcx] at Hx HIx
      rw [hcy] at Hy HIy
      obtain ⟨z, hzz⟩ : ∃ z, cmpE y.1 x.1 = z := ⟨_, rfl⟩
      rw [hzz] at HCMP HCV
      clear hcx hcy hzz hHf hA hy hx hyB hxA hDy hDx hyok hxok hc hask hv hnp ix HS
      go_wp2_with fail
      by_cases hz : z < 0
      · have HH2 := hid (HNO.out (HCV.out.1 hz))
        clear HYES HNO HCV
        refine wp_region_held_drew (S := fun V => Kp No wr V) (by kernel_rfl) ((Kp.refl _ _).drew) (fun hHeld => ?_)
        refine wpAnyH_take (i := 0) (oi := { dst := some 158, op := Op.move (Operand.tmp 4), type := 222, pos := "zsortanyfunc.go:441", after := #[], guard := none }) (v := .func (.func 133) #[] #[]) rfl (by kernel_rfl) (by kernel_rfl) (by kernel_rfl) (fun _ _ _ h => h) (Or.inl ⟨by rfl, fun w' hw' => by (clear hw'; go_simp)⟩) hHeld ?_
        simp only [Act.put, List.setIfInBounds_toArray, List.set_cons_zero, List.set_cons_succ]
        refine wpAnyH_take (i := 1) (oi := { dst := some 159, op := Op.move (Operand.tmp 0), type := 81, pos := "zsortanyfunc.go:441", after := #[], guard := none }) (v := .slice (some ⟨g, o, none⟩) N cap) rfl (by kernel_rfl) (by kernel_rfl) (by kernel_rfl) (fun _ _ _ h => h) (Or.inl ⟨by rfl, fun w' hw' => by (clear hw'; go_simp)⟩) hHeld ?_
        simp only [Act.put, List.setIfInBounds_toArray, List.set_cons_zero, List.set_cons_succ]
        refine wpAnyH_take (i := 2) (oi := { dst := some 160, op := Op.move (Operand.tmp 22), type := 3, pos := "zsortanyfunc.go:441", after := #[], guard := none }) (v := .int .i64 (p : Int)) rfl (by kernel_rfl) (by kernel_rfl) (by kernel_rfl) (fun _ _ _ h => h) (Or.inl ⟨by rfl, fun w' hw' => by (clear hw'; go_simp)⟩) hHeld ?_
        simp only [Act.put, List.setIfInBounds_toArray, List.set_cons_zero, List.set_cons_succ]
        refine wpAnyH_take (i := 3) (oi := { dst := some 161, op := Op.move (Operand.tmp 23), type := 3, pos := "zsortanyfunc.go:441", after := #[], guard := none }) (v := .int .i64 (c : Int)) rfl (by kernel_rfl) (by kernel_rfl) (by kernel_rfl) (fun _ _ _ h => h) (Or.inl ⟨by rfl, fun w' hw' => by (clear hw'; go_simp)⟩) hHeld ?_
        simp only [Act.put, List.setIfInBounds_toArray, List.set_cons_zero, List.set_cons_succ]
        refine wpAnyH_take (i := 4) (oi := { dst := some 162, op := Op.binOp BinOp.sub 3 (Operand.tmp 160) (Operand.tmp 161) 3, type := 3, pos := "zsortanyfunc.go:441", after := #[{ on := 2, ground := Ground.data }, { on := 3, ground := Ground.data }], guard := none }) (v := .int .i64 (v : Int)) rfl (by kernel_rfl) (by kernel_rfl) (by kernel_rfl) (fun _ _ _ h => h) (Or.inl ⟨by rfl, fun w' hw' => by (clear hw'; go_simp)⟩) hHeld ?_
        simp only [Act.put, List.setIfInBounds_toArray, List.set_cons_zero, List.set_cons_succ]
        refine wpAnyH_take (i := 5) (oi := { dst := some 163, op := Op.indexAddr 81 (Operand.tmp 159) (Operand.tmp 162), type := 0, pos := "zsortanyfunc.go:441", after := #[{ on := 1, ground := Ground.data }, { on := 4, ground := Ground.data }], guard := none }) (v := .pointer (some ⟨g, o + v * 35, none⟩)) rfl (by kernel_rfl) (by kernel_rfl) (by kernel_rfl) (fun _ _ _ h => h) (Or.inl ⟨by rfl, fun w' hw' => by (clear hw'; go_simp)⟩) hHeld ?_
        simp only [Act.put, List.setIfInBounds_toArray, List.set_cons_zero, List.set_cons_succ]
        refine wpAnyH_take (i := 6) (oi := { dst := some 164, op := Op.load 155 (Operand.tmp 163), type := 155, pos := "zsortanyfunc.go:441", after := #[{ on := 5, ground := Ground.data }], guard := none }) (v := .agg cx.toArray) rfl (by kernel_rfl) (by kernel_rfl) (by kernel_rfl) (fun _ _ _ h => h) (yieldsIf_load_mid (by rfl) _ _ rfl g (o + v * 35) rfl cx _ (Hx.out) Tryz.underlying155 rfl HIx.out) hHeld ?_
        simp only [Act.put, List.setIfInBounds_toArray, List.set_cons_zero, List.set_cons_succ]
        refine wpAnyH_take (i := 7) (oi := { dst := some 165, op := Op.move (Operand.tmp 0), type := 81, pos := "zsortanyfunc.go:441", after := #[], guard := none }) (v := .slice (some ⟨g, o, none⟩) N cap) rfl (by kernel_rfl) (by kernel_rfl) (by kernel_rfl) (fun _ _ _ h => h) (Or.inl ⟨by rfl, fun w' hw' => by (clear hw'; go_simp)⟩) hHeld ?_
        simp only [Act.put, List.setIfInBounds_toArray, List.set_cons_zero, List.set_cons_succ]
        refine wpAnyH_take (i := 8) (oi := { dst := some 166, op := Op.move (Operand.tmp 23), type := 3, pos := "zsortanyfunc.go:441", after := #[], guard := none }) (v := .int .i64 (c : Int)) rfl (by kernel_rfl) (by kernel_rfl) (by kernel_rfl) (fun _ _ _ h => h) (Or.inl ⟨by rfl, fun w' hw' => by (clear hw'; go_simp)⟩) hHeld ?_
        simp only [Act.put, List.setIfInBounds_toArray, List.set_cons_zero, List.set_cons_succ]
        refine wpAnyH_take (i := 9) (oi := { dst := some 167, op := Op.indexAddr 81 (Operand.tmp 165) (Operand.tmp 166), type := 0, pos := "zsortanyfunc.go:441", after := #[{ on := 7, ground := Ground.data }, { on := 8, ground := Ground.data }], guard := none }) (v := .pointer (some ⟨g, o + c * 35, none⟩)) rfl (by kernel_rfl) (by kernel_rfl) (by kernel_rfl) (fun _ _ _ h => h) (Or.inl ⟨by rfl, fun w' hw' => by (clear hw'; go_simp)⟩) hHeld ?_
        simp only [Act.put, List.setIfInBounds_toArray, List.set_cons_zero, List.set_cons_succ]
        refine wpAnyH_take (i := 10) (oi := { dst := some 168, op := Op.load 155 (Operand.tmp 167), type := 155, pos := "zsortanyfunc.go:441", after := #[{ on := 9, ground := Ground.data }], guard := none }) (v := .agg cy.toArray) rfl (by kernel_rfl) (by kernel_rfl) (by kernel_rfl) (fun _ _ _ h => h) (yieldsIf_load_mid (by rfl) _ _ rfl g (o + c * 35) rfl cy _ (Hy.out) Tryz.underlying155 rfl HIy.out) hHeld ?_
        simp only [Act.put, List.setIfInBounds_toArray, List.set_cons_zero, List.set_cons_succ]
        refine wpAnyH_ready (rs := [11]) (by kernel_rfl) (by simp) ?_
        refine AllReadyH.cons (o := { dst := some 169, op := Op.call { callee := Callee.value (Operand.tmp 158), args := #[Operand.tmp 164, Operand.tmp 168], argTypes := #[155, 155] }, type := 3, pos := "zsortanyfunc.go:441", after := #[{ on := 0, ground := Ground.data }, { on := 6, ground := Ground.data }, { on := 10, ground := Ground.data }], guard := none }) rfl (fun K hK => ?_) AllReadyH.nil
        go_simp
        refine (HCMP.out _).mono ?_
        rintro e w3 ⟨rfl, h3⟩
        have HK3 : Hid (Kp No wr w3) := (Kp.refl No wr).drew.andNone (Kp.below h3)
        clear h3
        go_wp2_with fail
        refine hK.out _ _ (HK3.out) (fun hh => ?_)
        clear hK K hHeld
        have hHeld := hh
        clear hh
        try simp only [Act.put, List.setIfInBounds_toArray, List.set_cons_zero, List.set_cons_succ]
        refine wpAnyH_take (i := 12) (oi := { dst := some 170, op := Op.binOp BinOp.lss 3 (Operand.tmp 169) (Operand.const (Value.int IntKind.i64 0)) 3, type := 4, pos := "zsortanyfunc.go:441", after := #[{ on := 11, ground := Ground.data }], guard := none }) (v := .bool true) rfl (by kernel_rfl) (by kernel_rfl) (by kernel_rfl) (fun _ _ _ h => h) (Or.inl ⟨by rfl, fun w' hw' => by (clear hw'; go_simp)⟩) hHeld ?_
        simp only [Act.put, List.setIfInBounds_toArray, List.set_cons_zero, List.set_cons_succ]
        refine wpAnyH_take (i := 13) (oi := { dst := some 171, op := Op.unOp UnOp.not 4 (Operand.tmp 170), type := 4, pos := "zsortanyfunc.go:441", after := #[{ on := 12, ground := Ground.data }], guard := none }) (v := .bool false) rfl (by kernel_rfl) (by kernel_rfl) (by kernel_rfl) (fun _ _ _ h => h) (Or.inl ⟨by rfl, fun w' hw' => by (clear hw'; go_simp)⟩) hHeld ?_
        simp only [Act.put, List.setIfInBounds_toArray, List.set_cons_zero, List.set_cons_succ]
        refine wpAnyH_done (by kernel_rfl) ?_ _
        have HA3 := hid (HAA.out.kept HK3.out)
        clear hHeld HK3 HCMP Hx Hy HIx HIy HAA
        go_wp2_with fail
        go_round
        case rel => exact ⟨i, c, rfl, rfl, hi1, by omega, by omega, HH2.out, HA3.out⟩
        case measure => simp [intOf]; omega
      · have hls : lexB y.1 x.1 = false := by
          cases hb : lexB y.1 x.1 with
          | false => rfl
          | true => exact absurd (HCV.out.2 hb) hz
        have HH2 := hid (HYES.out hls)
        clear HYES HNO HCV hls
        refine wp_region_held_drew (S := fun V => Kp No wr V) (by kernel_rfl) ((Kp.refl _ _).drew) (fun hHeld => ?_)
        refine wpAnyH_take (i := 0) (oi := { dst := some 158, op := Op.move (Operand.tmp 4), type := 222, pos := "zsortanyfunc.go:441", after := #[], guard := none }) (v := .func (.func 133) #[] #[]) rfl (by kernel_rfl) (by kernel_rfl) (by kernel_rfl) (fun _ _ _ h => h) (Or.inl ⟨by rfl, fun w' hw' => by (clear hw'; go_simp)⟩) hHeld ?_
        simp only [Act.put, List.setIfInBounds_toArray, List.set_cons_zero, List.set_cons_succ]
        refine wpAnyH_take (i := 1) (oi := { dst := some 159, op := Op.move (Operand.tmp 0), type := 81, pos := "zsortanyfunc.go:441", after := #[], guard := none }) (v := .slice (some ⟨g, o, none⟩) N cap) rfl (by kernel_rfl) (by kernel_rfl) (by kernel_rfl) (fun _ _ _ h => h) (Or.inl ⟨by rfl, fun w' hw' => by (clear hw'; go_simp)⟩) hHeld ?_
        simp only [Act.put, List.setIfInBounds_toArray, List.set_cons_zero, List.set_cons_succ]
        refine wpAnyH_take (i := 2) (oi := { dst := some 160, op := Op.move (Operand.tmp 22), type := 3, pos := "zsortanyfunc.go:441", after := #[], guard := none }) (v := .int .i64 (p : Int)) rfl (by kernel_rfl) (by kernel_rfl) (by kernel_rfl) (fun _ _ _ h => h) (Or.inl ⟨by rfl, fun w' hw' => by (clear hw'; go_simp)⟩) hHeld ?_
        simp only [Act.put, List.setIfInBounds_toArray, List.set_cons_zero, List.set_cons_succ]
        refine wpAnyH_take (i := 3) (oi := { dst := some 161, op := Op.move (Operand.tmp 23), type := 3, pos := "zsortanyfunc.go:441", after := #[], guard := none }) (v := .int .i64 (c : Int)) rfl (by kernel_rfl) (by kernel_rfl) (by kernel_rfl) (fun _ _ _ h => h) (Or.inl ⟨by rfl, fun w' hw' => by (clear hw'; go_simp)⟩) hHeld ?_
        simp only [Act.put, List.setIfInBounds_toArray, List.set_cons_zero, List.set_cons_succ]
        refine wpAnyH_take (i := 4) (oi := { dst := some 162, op := Op.binOp BinOp.sub 3 (Operand.tmp 160) (Operand.tmp 161) 3, type := 3, pos := "zsortanyfunc.go:441", after := #[{ on := 2, ground := Ground.data }, { on := 3, ground := Ground.data }], guard := none }) (v := .int .i64 (v : Int)) rfl (by kernel_rfl) (by kernel_rfl) (by kernel_rfl) (fun _ _ _ h => h) (Or.inl ⟨by rfl, fun w' hw' => by (clear hw'; go_simp)⟩) hHeld ?_
        simp only [Act.put, List.setIfInBounds_toArray, List.set_cons_zero, List.set_cons_succ]
        refine wpAnyH_take (i := 5) (oi := { dst := some 163, op := Op.indexAddr 81 (Operand.tmp 159) (Operand.tmp 162), type := 0, pos := "zsortanyfunc.go:441", after := #[{ on := 1, ground := Ground.data }, { on := 4, ground := Ground.data }], guard := none }) (v := .pointer (some ⟨g, o + v * 35, none⟩)) rfl (by kernel_rfl) (by kernel_rfl) (by kernel_rfl) (fun _ _ _ h => h) (Or.inl ⟨by rfl, fun w' hw' => by (clear hw'; go_simp)⟩) hHeld ?_
        simp only [Act.put, List.setIfInBounds_toArray, List.set_cons_zero, List.set_cons_succ]
        refine wpAnyH_take (i := 6) (oi := { dst := some 164, op := Op.load 155 (Operand.tmp 163), type := 155, pos := "zsortanyfunc.go:441", after := #[{ on := 5, ground := Ground.data }], guard := none }) (v := .agg cx.toArray) rfl (by kernel_rfl) (by kernel_rfl) (by kernel_rfl) (fun _ _ _ h => h) (yieldsIf_load_mid (by rfl) _ _ rfl g (o + v * 35) rfl cx _ (Hx.out) Tryz.underlying155 rfl HIx.out) hHeld ?_
        simp only [Act.put, List.setIfInBounds_toArray, List.set_cons_zero, List.set_cons_succ]
        refine wpAnyH_take (i := 7) (oi := { dst := some 165, op := Op.move (Operand.tmp 0), type := 81, pos := "zsortanyfunc.go:441", after := #[], guard := none }) (v := .slice (some ⟨g, o, none⟩) N cap) rfl (by kernel_rfl) (by kernel_rfl) (by kernel_rfl) (fun _ _ _ h => h) (Or.inl ⟨by rfl, fun w' hw' => by (clear hw'; go_simp)⟩) hHeld ?_
        simp only [Act.put, List.setIfInBounds_toArray, List.set_cons_zero, List.set_cons_succ]
        refine wpAnyH_take (i := 8) (oi := { dst := some 166, op := Op.move (Operand.tmp 23), type := 3, pos := "zsortanyfunc.go:441", after := #[], guard := none }) (v := .int .i64 (c : Int)) rfl (by kernel_rfl) (by kernel_rfl) (by kernel_rfl) (fun _ _ _ h => h) (Or.inl ⟨by rfl, fun w' hw' => by (clear hw'; go_simp)⟩) hHeld ?_
        simp only [Act.put, List.setIfInBounds_toArray, List.set_cons_zero, List.set_cons_succ]
        refine wpAnyH_take (i := 9) (oi := { dst := some 167, op := Op.indexAddr 81 (Operand.tmp 165) (Operand.tmp 166), type := 0, pos := "zsortanyfunc.go:441", after := #[{ on := 7, ground := Ground.data }, { on := 8, ground := Ground.data }], guard := none }) (v := .pointer (some ⟨g, o + c * 35, none⟩)) rfl (by kernel_rfl) (by kernel_rfl) (by kernel_rfl) (fun _ _ _ h => h) (Or.inl ⟨by rfl, fun w' hw' => by (clear hw'; go_simp)⟩) hHeld ?_
        simp only [Act.put, List.setIfInBounds_toArray, List.set_cons_zero, List.set_cons_succ]
        refine wpAnyH_take (i := 10) (oi := { dst := some 168, op := Op.load 155 (Operand.tmp 167), type := 155, pos := "zsortanyfunc.go:441", after := #[{ on := 9, ground := Ground.data }], guard := none }) (v := .agg cy.toArray) rfl (by kernel_rfl) (by kernel_rfl) (by kernel_rfl) (fun _ _ _ h => h) (yieldsIf_load_mid (by rfl) _ _ rfl g (o + c * 35) rfl cy _ (Hy.out) Tryz.underlying155 rfl HIy.out) hHeld ?_
        simp only [Act.put, List.setIfInBounds_toArray, List.set_cons_zero, List.set_cons_succ]
        refine wpAnyH_ready (rs := [11]) (by kernel_rfl) (by simp) ?_
        refine AllReadyH.cons (o := { dst := some 169, op := Op.call { callee := Callee.value (Operand.tmp 158), args := #[Operand.tmp 164, Operand.tmp 168], argTypes := #[155, 155] }, type := 3, pos := "zsortanyfunc.go:441", after := #[{ on := 0, ground := Ground.data }, { on := 6, ground := Ground.data }, { on := 10, ground := Ground.data }], guard := none }) rfl (fun K hK => ?_) AllReadyH.nil
        go_simp
        refine (HCMP.out _).mono ?_
        rintro e w3 ⟨rfl, h3⟩
        have HK3 : Hid (Kp No wr w3) := (Kp.refl No wr).drew.andNone (Kp.below h3)
        clear h3
        go_wp2_with fail
        refine hK.out _ _ (HK3.out) (fun hh => ?_)
        clear hK K hHeld
        have hHeld := hh
        clear hh
        try simp only [Act.put, List.setIfInBounds_toArray, List.set_cons_zero, List.set_cons_succ]
        refine wpAnyH_take (i := 12) (oi := { dst := some 170, op := Op.binOp BinOp.lss 3 (Operand.tmp 169) (Operand.const (Value.int IntKind.i64 0)) 3, type := 4, pos := "zsortanyfunc.go:441", after := #[{ on := 11, ground := Ground.data }], guard := none }) (v := .bool false) rfl (by kernel_rfl) (by kernel_rfl) (by kernel_rfl) (fun _ _ _ h => h) (Or.inl ⟨by rfl, fun w' hw' => by (clear hw'; go_simp)⟩) hHeld ?_
        simp only [Act.put, List.setIfInBounds_toArray, List.set_cons_zero, List.set_cons_succ]
        refine wpAnyH_take (i := 13) (oi := { dst := some 171, op := Op.unOp UnOp.not 4 (Operand.tmp 170), type := 4, pos := "zsortanyfunc.go:441", after := #[{ on := 12, ground := Ground.data }], guard := none }) (v := .bool true) rfl (by kernel_rfl) (by kernel_rfl) (by kernel_rfl) (fun _ _ _ h => h) (Or.inl ⟨by rfl, fun w' hw' => by (clear hw'; go_simp)⟩) hHeld ?_
        simp only [Act.put, List.setIfInBounds_toArray, List.set_cons_zero, List.set_cons_succ]
        refine wpAnyH_done (by kernel_rfl) ?_ _
        have HA3 := hid (HAA.out.kept HK3.out)
        clear hHeld HK3 HCMP Hx Hy HIx HIy HAA
        go_wp2_with fail
        go_round
        case rel => exact ⟨c + 1, j, by go_num, rfl, by omega, by omega, hj1, HH2.out, HA3.out⟩
        case measure => simp [intOf]; omega
    · as_aux_lemma =>
      have hltI : ¬ (i : Int) < (j : Int) := by omega
      obtain ⟨hHf, hA⟩ := HS.out
      have hji : j = i := by omega
      rw [hji] at hHf
      obtain ⟨cLt, cLe, c1, c2, c3, c4, c5, c6⟩ := HCUT.out i hHf
      obtain ⟨e, he⟩ : ∃ e, n - i = e := ⟨_, rfl⟩
      have hnp := HNP.out
      have hwe : IntKind.i64.wrap ((n : Int) - (i : Int)) = (e : Int) := by rw [IntKind.wrap_i64]; omega
      obtain ⟨A1, hA1⟩ : ∃ A1, A.take (i - a) = A1 := ⟨_, rfl⟩
      obtain ⟨A2, hA2⟩ : ∃ A2, A.drop (i - a) = A2 := ⟨_, rfl⟩
      obtain ⟨B1, hB1⟩ : ∃ B1, B.take (mid - i) = B1 := ⟨_, rfl⟩
      obtain ⟨B2, hB2⟩ : ∃ B2, B.drop (mid - i) = B2 := ⟨_, rfl⟩
      have hAA : A1 ++ A2 = A := by rw [← hA1, ← hA2, List.take_append_drop]
      have hBB : B1 ++ B2 = B := by rw [← hB1, ← hB2, List.take_append_drop]
      rw [hB1, hA2] at cLt
      rw [hA1, hB2] at cLe
      have hla := HLA.out
      have lA1 : A1.length = i - a := by rw [← hA1, List.length_take]; omega
      have lB1 : B1.length = mid - i := by rw [← hB1, List.length_take]; omega
      have lA2 : A2.length = m - i := by rw [← hA2, List.length_drop]; omega
      have lB2 : B2.length = b - e := by rw [← hB2, List.length_drop]; omega
      have hDe : D = (L ++ A1) ++ (A2 ++ (B1 ++ (B2 ++ R))) := by rw [← HD.out, ← hAA, ← hBB]; simp
      obtain ⟨sa, sb⟩ := HSS.out
      have sA1 : Srt ky lexB A1 := (Stb.Srt.append.1 (by rw [hAA]; exact sa)).1
      have sA2 : Srt ky lexB A2 := (Stb.Srt.append.1 (by rw [hAA]; exact sa)).2.1
      have sB1 : Srt ky lexB B1 := (Stb.Srt.append.1 (by rw [hBB]; exact sb)).1
      have sB2 : Srt ky lexB B2 := (Stb.Srt.append.1 (by rw [hBB]; exact sb)).2.1
      have HEND : Hid (∀ M1 M2, Mrg ky lexB A1 B1 M1 → Mrg ky lexB A2 B2 M2 → Mrg ky lexB A B (M1 ++ M2)) := fun M1 M2 h1 h2 => by
        have := Mrg.halves lexOrd cLt cLe (by rw [hAA]; exact sa) (by rw [hBB]; exact sb) h1 h2
        rwa [hAA, hBB] at this
      have HSR := hid (And.intro sA1 (And.intro sA2 (And.intro sB1 sB2)))
      have HLL : Hid (L.length = a ∧ A1.length = i - a ∧ B1.length = mid - i ∧ A2.length = m - i ∧ B2.length = b - e ∧ A.length + B.length = b - a ∧ b + R.length = N) := ⟨hla.1, lA1, lB1, lA2, lB2, by omega, HRL.out⟩
      have HAA := hid hA
      have HDE := hid hDe
      have hee : m ≤ e ∧ e ≤ b ∧ mid ≤ e ∧ (e - m = mid - i) ∧ a ≤ i ∧ i ≤ m ∧ i ≤ mid := by omega
      obtain ⟨he1, he2, he3, he4, he5, he6, he7⟩ := hee
      clear hA1 hA2 hB1 hB2 hAA hBB cLt cLe c1 c2 c3 c4 c5 c6 lA1 lB1 lA2 lB2 hDe sa sb sA1 sA2 sB1 sB2 hHf hA hji he hnp hla HS HCUT HMONO HIX HDA HDB HOKA HOKB HSS HD HRL HNP
      obtain ⟨cb, hcb⟩ : ∃ cb, decide (i < m ∧ m < e) = cb := ⟨_, rfl⟩
      have Hcb := hid hcb
      clear hcb
      go_upto_region 39 with fail
      go_cut [185] (fun s wx => s = .bool cb ∧ wr = wx)
      case first =>
        by_cases k1 : i < m
        · have k1I : (i : Int) < (m : Int) := by omega
          by_cases k2 : m < e
          · have k2I : (m : Int) < (e : Int) := by omega
            have hb : cb = true := by rw [← Hcb.out]; simp [k1, k2]
            go_wp2_with fail
            go_meet
            exact ⟨by rw [hb], rfl⟩
          · have k2I : ¬ (m : Int) < (e : Int) := by omega
            have hb : cb = false := by rw [← Hcb.out]; simp [k2]
            go_wp2_with fail
            go_meet
            exact ⟨by rw [hb], rfl⟩
        · have k1I : ¬ (i : Int) < (m : Int) := by omega
          have hb : cb = false := by rw [← Hcb.out]; simp [k1]
          go_wp2_with fail
          go_meet
          exact ⟨by rw [hb], rfl⟩
      case rest =>
      obtain ⟨rfl, rfl⟩ := hcut
      go_upto_if 185 with fail
      go_cut [24] (fun s24 wx => s24 = .int .i64 (e : Int) ∧ Hid (At w g o (L ++ (A1 ++ (B1 ++ (A2 ++ (B2 ++ R))))) wx))
      case first =>
        cases hb : cb with
        | true =>
          have hc2 : i < m ∧ m < e := by have h := Hcb.out; rw [hb] at h; exact of_decide_eq_true h
          have HROT : Hid (Calls Tryz.prog 245 #[.slice (some ⟨g, o, none⟩) N cap, .int .i64 (i : Int), .int .i64 (m : Int), .int .i64 (e : Int), .func (.func 133) #[] #[]] wr fun e w' => e = .returned (.tuple #[]) ∧ At wr g o ((L ++ A1) ++ (B1 ++ (A2 ++ (B2 ++ R)))) w') := by
            have hll := HLL.out
            have h := rot_any wr g o (L ++ A1) A2 B1 (B2 ++ R) N cap (.func (.func 133) #[] #[]) (by rw [← HDE.out]; exact HAA.out.2) (by simp only [List.length_append]; omega) (by intro e; rw [e] at hll; simp at hll; omega) (by intro e; rw [e] at hll; simp at hll; omega) hl
            rw [List.length_append, show L.length + A1.length = i by omega, show i + A2.length = m by omega, show m + B1.length = e by omega] at h
            exact h
          clear hc2
          go_wp2_with fail
          refine HROT.out.mono ?_
          rintro e' w2 ⟨rfl, h2⟩
          have H2 := hid (HAA.out.next h2)
          clear h2
          go_wp2_with fail
          go_meet
          exact ⟨rfl, by have := H2.out; rw [Hid]; simpa using this⟩
        | false =>
          have hc2 : ¬ (i < m ∧ m < e) := by have h := Hcb.out; rw [hb] at h; exact of_decide_eq_false h
          have HFIN : Hid (At w g o (L ++ (A1 ++ (B1 ++ (A2 ++ (B2 ++ R))))) wr) := by
            have hll := HLL.out
            have h := HAA.out
            rw [HDE.out] at h
            by_cases k1 : i < m
            · have hB0 : B1 = [] := List.length_eq_zero_iff.1 (by omega)
              rw [Hid]
              rw [hB0] at h ⊢
              simpa using h
            · have hA0 : A2 = [] := List.length_eq_zero_iff.1 (by omega)
              rw [Hid]
              rw [hA0] at h ⊢
              simpa using h
          clear hc2
          go_wp2_with fail
          go_meet
          exact ⟨rfl, HFIN.out⟩
      case rest =>
      as_aux_lemma =>
        obtain ⟨rfl, HA2⟩ := hcut
        clear HAA HDE Hcb
        rename World => w1
        obtain ⟨cc, hcc⟩ : ∃ cc, decide (a < i ∧ i < mid) = cc := ⟨_, rfl⟩
        have Hcc := hid hcc
        clear hcc
        go_upto_region 41 with fail
        go_cut [199] (fun s wx => s = .bool cc ∧ w1 = wx)
        case first =>
          by_cases k1 : a < i
          · have k1I : (a : Int) < (i : Int) := by omega
            by_cases k2 : i < mid
            · have k2I : (i : Int) < (mid : Int) := by omega
              have hb : cc = true := by rw [← Hcc.out]; simp [k1, k2]
              go_wp2_with fail
              go_meet
              exact ⟨by rw [hb], rfl⟩
            · have k2I : ¬ (i : Int) < (mid : Int) := by omega
              have hb : cc = false := by rw [← Hcc.out]; simp [k2]
              go_wp2_with fail
              go_meet
              exact ⟨by rw [hb], rfl⟩
          · have k1I : ¬ (a : Int) < (i : Int) := by omega
            have hb : cc = false := by rw [← Hcc.out]; simp [k1]
            go_wp2_with fail
            go_meet
            exact ⟨by rw [hb], rfl⟩
        case rest =>
        obtain ⟨rfl, rfl⟩ := hcut
        go_upto_if 199 with fail
        go_cut [24] (fun s24 wx => s24 = .int .i64 (e : Int) ∧ Hid (∃ M1, Mrg ky lexB A1 B1 M1 ∧ At w g o (L ++ (M1 ++ (A2 ++ (B2 ++ R)))) wx))
        case first =>
          cases hb : cc with
          | true =>
            have hc2 : a < i ∧ i < mid := by have h := Hcc.out; rw [hb] at h; exact of_decide_eq_true h
            have HREC : Hid (Calls Tryz.prog 214 #[.slice (some ⟨g, o, none⟩) N cap, .int .i64 (a : Int), .int .i64 (i : Int), .int .i64 (mid : Int), .func (.func 133) #[] #[]] w1 fun e w' => e = .returned (.tuple #[]) ∧ ∃ M, Mrg ky lexB A1 B1 M ∧ At w1 g o (L ++ (M ++ (A2 ++ (B2 ++ R)))) w') := by
              have hll := HLL.out
              have h := HIH.out w1 g o L A1 B1 (A2 ++ (B2 ++ R)) N cap (by omega) HA2.out.2 (by simp only [List.length_append]; omega) hl HSR.out.1 HSR.out.2.2.1 (by intro e; rw [e] at hll; simp at hll; omega) (by intro e; rw [e] at hll; simp at hll; omega)
              rw [hll.1, show a + A1.length = i by omega, show i + B1.length = mid by omega] at h
              exact h
            clear hc2
            go_wp2_with fail
            refine HREC.out.mono ?_
            rintro e' w2 ⟨rfl, M1, hM1, h2⟩
            have H2 := hid (And.intro hM1 (HA2.out.next h2))
            clear h2 hM1
            go_wp2_with fail
            go_meet
            exact ⟨rfl, M1, H2.out⟩
          | false =>
            have hc2 : ¬ (a < i ∧ i < mid) := by have h := Hcc.out; rw [hb] at h; exact of_decide_eq_false h
            have HFIN : Hid (∃ M1, Mrg ky lexB A1 B1 M1 ∧ At w g o (L ++ (M1 ++ (A2 ++ (B2 ++ R)))) w1) := by
              have hll := HLL.out
              have h := HA2.out
              by_cases k1 : a < i
              · have hB0 : B1 = [] := List.length_eq_zero_iff.1 (by omega)
                rw [hB0] at h ⊢
                exact ⟨A1, mrg_nil_right HSR.out.1, by simpa using h⟩
              · have hA0 : A1 = [] := List.length_eq_zero_iff.1 (by omega)
                rw [hA0] at h ⊢
                exact ⟨B1, mrg_nil_left HSR.out.2.2.1, by simpa using h⟩
            clear hc2
            go_wp2_with fail
            go_meet
            exact ⟨rfl, HFIN.out⟩
        case rest =>
        as_aux_lemma =>
          obtain ⟨rfl, HA3⟩ := hcut
          clear HA2 Hcc
          rename World => w1
          obtain ⟨cd, hcd⟩ : ∃ cd, decide (mid < e ∧ e < b) = cd := ⟨_, rfl⟩
          have Hcd := hid hcd
          clear hcd
          go_upto_region 43 with fail
          go_cut [213] (fun s wx => s = .bool cd ∧ w1 = wx)
          case first =>
            by_cases k1 : mid < e
            · have k1I : (mid : Int) < (e : Int) := by omega
              by_cases k2 : e < b
              · have k2I : (e : Int) < (b : Int) := by omega
                have hb : cd = true := by rw [← Hcd.out]; simp [k1, k2]
                go_wp2_with fail
                go_meet
                exact ⟨by rw [hb], rfl⟩
              · have k2I : ¬ (e : Int) < (b : Int) := by omega
                have hb : cd = false := by rw [← Hcd.out]; simp [k2]
                go_wp2_with fail
                go_meet
                exact ⟨by rw [hb], rfl⟩
            · have k1I : ¬ (mid : Int) < (e : Int) := by omega
              have hb : cd = false := by rw [← Hcd.out]; simp [k1]
              go_wp2_with fail
              go_meet
              exact ⟨by rw [hb], rfl⟩
          case rest =>
          obtain ⟨rfl, rfl⟩ := hcut
          obtain ⟨M1, hM1, hA4⟩ := HA3.out
          have HM1 := hid hM1
          have HA4 := hid hA4
          have hM1l : M1.length = mid - a := by
            have h1 := hM1.1.length
            rw [List.length_append] at h1
            have hll := HLL.out
            omega
          have HM1L := hid hM1l
          clear hM1 hA4 hM1l HA3
          cases hb : cd with
          | true =>
            have hc2 : mid < e ∧ e < b := by have h := Hcd.out; rw [hb] at h; exact of_decide_eq_true h
            have HREC : Hid (Calls Tryz.prog 214 #[.slice (some ⟨g, o, none⟩) N cap, .int .i64 (mid : Int), .int .i64 (e : Int), .int .i64 (b : Int), .func (.func 133) #[] #[]] w1 fun e w' => e = .returned (.tuple #[]) ∧ ∃ M, Mrg ky lexB A2 B2 M ∧ At w1 g o ((L ++ M1) ++ (M ++ R)) w') := by
              have hll := HLL.out
              have hml := HM1L.out
              have h := HIH.out w1 g o (L ++ M1) A2 B2 R N cap (by omega) (by have := HA4.out.2; simpa using this) (by simp only [List.length_append]; omega) hl HSR.out.2.1 HSR.out.2.2.2 (by intro e; rw [e] at hll; simp at hll; omega) (by intro e; rw [e] at hll; simp at hll; omega)
              rw [List.length_append, show L.length + M1.length = mid by omega, show mid + A2.length = e by omega, show e + B2.length = b by omega] at h
              exact h
            clear hc2
            go_wp2_with fail
            refine HREC.out.mono ?_
            rintro e' w2 ⟨rfl, M2, hM2, h2⟩
            have H2 := hid (And.intro hM2 (HA4.out.next h2))
            clear h2 hM2
            go_wp2_with fail
            go_end0
            exact ⟨rfl, M1 ++ M2, HEND.out M1 M2 HM1.out H2.out.1, by have := H2.out.2; simpa using this⟩
          | false =>
            have hc2 : ¬ (mid < e ∧ e < b) := by have h := Hcd.out; rw [hb] at h; exact of_decide_eq_false h
            have HFIN : Hid (∃ M2, Mrg ky lexB A2 B2 M2 ∧ At w g o (L ++ (M1 ++ (M2 ++ R))) w1) := by
              have hll := HLL.out
              have h := HA4.out
              by_cases k1 : mid < e
              · have hB0 : B2 = [] := List.length_eq_zero_iff.1 (by omega)
                rw [hB0] at h ⊢
                exact ⟨A2, mrg_nil_right HSR.out.2.1, by simpa using h⟩
              · have hA0 : A2 = [] := List.length_eq_zero_iff.1 (by omega)
                rw [hA0] at h ⊢
                exact ⟨B2, mrg_nil_left HSR.out.2.2.2, by simpa using h⟩
            clear hc2
            go_wp2_with fail
            go_end0
            obtain ⟨M2, h1, h2⟩ := HFIN.out
            exact ⟨rfl, M1 ++ M2, HEND.out M1 M2 HM1.out h1, by simpa using h2⟩
end Go.Proofs.YthmimipoooemjaaGreatDoor.Sg
end
