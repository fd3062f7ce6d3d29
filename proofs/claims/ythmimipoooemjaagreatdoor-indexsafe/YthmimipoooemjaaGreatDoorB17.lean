/- Of the proof: the texts IxSaveM, IxAlive, IxLoad, IxKeepM, IxCrashM, SgRSortM, SgLess, one behind the other. -/
import Derived.Test.YthmimipoooemjaaGreatDoorAbb
import Derived.Test.YthmimipoooemjaaGreatDoorB1
import Derived.Test.YthmimipoooemjaaGreatDoorB3
import Derived.Test.YthmimipoooemjaaGreatDoorB14
import Derived.Test.YthmimipoooemjaaGreatDoorB16
import Derived.Test.YthmimipoooemjaaGreatDoorB13
import Derived.Test.YthmimipoooemjaaGreatDoorB8
import Derived.BigQuiet
section
/-
  A save where nothing is in its way has no fault.
-/
namespace Go.Proofs.YthmimipoooemjaaGreatDoor.Ix
open Sim

theorem sum_dins (f : Nm × Nat → Nat) (x : Nm × Nat) (l : Dir) : ((dins x l).map f).sum = f x + (l.map f).sum := by
  have h := ((perm_dins x l).map f).sum_nat
  simpa using h

theorem dfind_dins_self (n : Nm) (b : Nat) : ∀ l : Dir, (∀ p ∈ l, p.1 ≠ n) → dfind (dins (n, b) l) n = some b
  | [], _ => by simp [dins, dfind]
  | y :: r, h => by
    unfold dins
    split
    · simp [dfind]
    · have hy : (y.1 == n) = false := by simpa using h y (by simp)
      have ih := dfind_dins_self n b r (fun p hp => h p (by simp [hp]))
      rw [dfind] at ih ⊢
      rw [List.find?_cons, hy]
      exact ih

theorem dfind_dput_self (l : Dir) (n : Nm) (b : Nat) : dfind (dput l n b) n = some b :=
  dfind_dins_self n b _ (fun _ hp => (mem_ddel.1 hp).2)

/-- Nothing is in the way of a step, and no temporary list is there. -/
structure Calm (p : PS) : Prop where
  down : p.down = false
  armed : p.armed = false
  temp : dfind p.seen nT = none

theorem Calm.dead {p : PS} (h : p.armed = false) : dead p = false := by simp [Sim.dead, h]
theorem wrongs_zero {p : PS} {l : List Nm} (h : p.down = false) (hl : l.all nameB = true) : wrongs p l = 0 := by simp [wrongs, h, hl]
theorem finds_of {p : PS} {n : Nm} (h : p.down = false) (hn : nameB n = true) : finds p n = if (dfind p.seen n).isSome then 0 else 5 := by
  rw [finds, wrongs_zero h (by simp [hn])]
  simp

theorem ddel_none {l : Dir} {n : Nm} (h : dfind l n = none) : ddel l n = l := by
  refine List.filter_eq_self.2 (fun p hp => ?_)
  have := dfind_none h p hp
  simpa using this

/-- The states of a save that goes well: a file at x, made, written, made safe, moved. -/
structure Went (bs : List Nat) (p : PS) (x : Nat) (j : Nat) (q : PS) : Prop where
  down : q.down = false
  armed : q.armed = false
  room : q.room = p.room
  files : ∀ y, y ≠ x → fileAt q y = fileAt p y
  file : j = 2 → fileAt q x = ⟨[], 0⟩
  fileb : 3 ≤ j → (fileAt q x).b = bs
  seen : 2 ≤ j → j ≤ 4 → q.seen = dput p.seen nT x
  seen5 : 5 ≤ j → q.seen = dput (ddel (dput p.seen nT x) nT) nI x
  fsafe : 4 ≤ j → q.files x = some ⟨bs, bs.length⟩
  chg6 : j = 6 → q.chg = []

theorem fileAt_setF_other {b y : Nat} {f : Fl} {p : PS} (h : y ≠ b) : fileAt (setF b f p) y = fileAt p y := by simp [fileAt, setF, h]
theorem fileAt_setF_same {b : Nat} {f : Fl} {p : PS} : fileAt (setF b f p) b = f := by simp [fileAt, setF]

theorem step0_ok {bs : List Nat} {p q : PS} {f : Nat} (h : Calm p) (hs : Stp bs 0 p (f, q)) : f = 0 ∧ q = p := by
  have hf : finds p nT = 5 := by rw [finds_of h.down nT_ok, h.temp]; rfl
  have hr : pRemove nT p = (5, p) := by rw [pRemove, if_pos (by rw [hf]; omega), hf]
  rw [Stp, pRm, hr] at hs
  simp at hs
  exact hs

theorem step1_ok {bs : List Nat} {p q : PS} {f : Nat} (h : Calm p) (hs : Stp bs 1 p (f, q)) : f = 0 ∧ ∃ x, p.files x = none ∧ Went bs p x 2 q := by
  obtain ⟨x, hx, he⟩ := hs
  rw [pCreate, if_neg (by rw [wrongs_zero h.down (by simp [nT_ok])]; simp), h.temp, if_neg (by simp), stp, if_neg (by rw [Calm.dead h.armed]; simp)] at he
  simp only [Prod.mk.injEq] at he
  obtain ⟨rfl, rfl⟩ := he
  refine ⟨rfl, x, hx, ⟨h.down, h.armed, rfl, fun y hy => ?_, fun _ => ?_, by omega, fun _ _ => ?_, by omega, by omega, by omega⟩⟩
  · show fileAt (setF x ⟨[], 0⟩ (tick p)) y = _
    rw [fileAt_setF_other hy]
    rfl
  · show fileAt (setF x ⟨[], 0⟩ (tick p)) x = _
    exact fileAt_setF_same
  · rfl

theorem used_went {bs : List Nat} {p q : PS} {x : Nat} (h : Calm p) (hx : p.files x = none) (w : Went bs p x 2 q) : used q = used p := by
  have e : ∀ y, fileAt q y = fileAt p y := fun y => by
    by_cases hy : y = x
    · subst hy
      rw [w.file rfl, fileAt, hx]
      rfl
    · exact w.files y hy
  have e2 : fileAt p x = ⟨[], 0⟩ := by rw [fileAt, hx]; rfl
  rw [used, used, w.seen (by omega) (by omega), dput, ddel_none h.temp, sum_dins]
  simp only [e, e2]
  simp

theorem finds_temp {bs : List Nat} {p q : PS} {x j : Nat} (w : Went bs p x j q) (h2 : 2 ≤ j) (h4 : j ≤ 4) : finds q nT = 0 ∧ blockOf q nT = x := by
  have e : dfind q.seen nT = some x := by rw [w.seen h2 h4]; exact dfind_dput_self _ _ _
  exact ⟨by rw [finds_of w.down nT_ok, e]; rfl, by rw [blockOf, e]; rfl⟩

theorem step2_ok {bs : List Nat} {p q r : PS} {x f : Nat} (h : Calm p) (hx : p.files x = none) (w : Went bs p x 2 q) (hr : used p + bs.length ≤ p.room) (hs : Stp bs 2 q (f, r)) : f = 0 ∧ Went bs p x 3 r := by
  obtain ⟨h1, h2⟩ := finds_temp w (by omega) (by omega)
  rw [Stp, pAppend, if_neg (by rw [h1]; simp), if_neg (by rw [used_went h hx w, w.room]; omega), stp, if_neg (by rw [Calm.dead w.armed]; simp), h2, w.file rfl] at hs
  simp only [Prod.mk.injEq] at hs
  obtain ⟨rfl, rfl⟩ := hs
  refine ⟨rfl, ⟨w.down, w.armed, w.room, fun y hy => ?_, by omega, fun _ => ?_, fun _ _ => w.seen (by omega) (by omega), by omega, by omega, by omega⟩⟩
  · rw [fileAt_setF_other hy]
    exact w.files y hy
  · rw [fileAt_setF_same]
    rfl

theorem step3_ok {bs : List Nat} {p q r : PS} {x f : Nat} (w : Went bs p x 3 q) (hs : Stp bs 3 q (f, r)) : f = 0 ∧ Went bs p x 4 r := by
  obtain ⟨h1, h2⟩ := finds_temp w (by omega) (by omega)
  rw [Stp, pFsync, if_neg (by rw [h1]; simp), stp, if_neg (by rw [Calm.dead w.armed]; simp), h2, w.fileb (by omega)] at hs
  simp only [Prod.mk.injEq] at hs
  obtain ⟨rfl, rfl⟩ := hs
  refine ⟨rfl, ⟨w.down, w.armed, w.room, fun y hy => ?_, by omega, fun _ => ?_, fun _ _ => w.seen (by omega) (by omega), by omega, fun _ => ?_, by omega⟩⟩
  · rw [fileAt_setF_other hy]
    exact w.files y hy
  · rw [fileAt_setF_same]
  · simp [setF]

theorem step4_ok {bs : List Nat} {p q r : PS} {x f : Nat} (w : Went bs p x 4 q) (hs : Stp bs 4 q (f, r)) : f = 0 ∧ Went bs p x 5 r := by
  have e : dfind q.seen nT = some x := by rw [w.seen (by omega) (by omega)]; exact dfind_dput_self _ _ _
  rw [Stp, pRename, if_neg (by rw [wrongs_zero w.down (by simp [nT_ok, nI_ok])]; simp), e, if_pos (by simp), stp, if_neg (by rw [Calm.dead w.armed]; simp)] at hs
  simp only [Prod.mk.injEq] at hs
  obtain ⟨rfl, rfl⟩ := hs
  refine ⟨rfl, ⟨w.down, w.armed, w.room, fun y hy => w.files y hy, by omega, fun _ => w.fileb (by omega), by omega, fun _ => ?_, fun _ => w.fsafe (by omega), by omega⟩⟩
  show pdo q.seen ⟨2, nT, nI, 0⟩ = _
  have e2 : (dfind q.seen nT).getD 0 = x := by rw [e]; rfl
  rw [pdo, if_neg (by simp), if_neg (by simp), e2, w.seen (by omega) (by omega)]

theorem step5_ok {bs : List Nat} {p q r : PS} {x f : Nat} (w : Went bs p x 5 q) (hs : Stp bs 5 q (f, r)) : f = 0 ∧ Went bs p x 6 r := by
  have hs' : (f, r) = pSyncDir q := hs
  rw [pSyncDir, if_neg (by rw [wrongs_zero w.down (by simp)]; simp), stp, if_neg (by rw [Calm.dead w.armed]; simp)] at hs'
  simp only [Prod.mk.injEq] at hs'
  obtain ⟨rfl, rfl⟩ := hs'
  exact ⟨rfl, ⟨w.down, w.armed, w.room, fun y hy => w.files y hy, by omega, fun _ => w.fileb (by omega), by omega, fun _ => w.seen5 (by omega), fun _ => w.fsafe (by omega), fun _ => rfl⟩⟩

/-- A save with nothing in its way. -/
theorem save_ok {bs : List Nat} {p : PS} {r : Nat × PS} (h : Calm p) (hr : used p + bs.length ≤ p.room) (hs : Saved bs p r) : r.1 = 0 ∧ ∃ x, p.files x = none ∧ Went bs p x 6 r.2 := by
  have R1 : ∀ {q}, Reach bs p 1 q → q = p := fun {q} ⟨q', h1, h2⟩ => by
    have h1' : q' = p := h1
    subst h1'
    exact (step0_ok h h2).2
  have R2 : ∀ {q}, Reach bs p 2 q → ∃ x, p.files x = none ∧ Went bs p x 2 q := fun {q} ⟨q', h1, h2⟩ => by
    have h1' := R1 h1
    subst h1'
    exact (step1_ok h h2).2
  have R3 : ∀ {q}, Reach bs p 3 q → ∃ x, p.files x = none ∧ Went bs p x 3 q := fun {q} ⟨q', h1, h2⟩ => by
    obtain ⟨x, hx, w⟩ := R2 h1
    exact ⟨x, hx, (step2_ok h hx w hr h2).2⟩
  have R4 : ∀ {q}, Reach bs p 4 q → ∃ x, p.files x = none ∧ Went bs p x 4 q := fun {q} ⟨q', h1, h2⟩ => by
    obtain ⟨x, hx, w⟩ := R3 h1
    exact ⟨x, hx, (step3_ok w h2).2⟩
  have R5 : ∀ {q}, Reach bs p 5 q → ∃ x, p.files x = none ∧ Went bs p x 5 q := fun {q} ⟨q', h1, h2⟩ => by
    obtain ⟨x, hx, w⟩ := R4 h1
    exact ⟨x, hx, (step4_ok w h2).2⟩
  rcases hs with ⟨h0, q', h1, h2⟩ | ⟨h0, j, hj, q', h1, h2⟩
  · obtain ⟨x, hx, w⟩ := R5 h1
    exact ⟨h0, x, hx, (step5_ok w h2).2⟩
  · exfalso
    apply h0
    obtain ⟨f, q⟩ := r
    have hj' : j = 0 ∨ j = 1 ∨ j = 2 ∨ j = 3 ∨ j = 4 ∨ j = 5 := by omega
    rcases hj' with rfl | rfl | rfl | rfl | rfl | rfl
    · have h1' : q' = p := h1
      subst h1'
      exact (step0_ok h h2).1
    · have h1' := R1 h1
      subst h1'
      exact (step1_ok h h2).1
    · obtain ⟨x, hx, w⟩ := R2 h1
      exact (step2_ok h hx w hr h2).1
    · obtain ⟨x, hx, w⟩ := R3 h1
      exact (step3_ok w h2).1
    · obtain ⟨x, hx, w⟩ := R4 h1
      exact (step4_ok w h2).1
    · obtain ⟨x, hx, w⟩ := R5 h1
      exact (step5_ok w h2).1

end Go.Proofs.YthmimipoooemjaaGreatDoor.Ix
end

section
/-
  alive of the eleventh law.
-/
namespace Go.Proofs.YthmimipoooemjaaGreatDoor.Ix
open Go.RowKit Go.Shelf
open Stb (Stab Srt)
open Sim (hid Kp No PS Done Blk nm ByP finds pBytes pList)

def e9 : Sg.Ent := (Sg.h1, 1, 0, 9)
theorem e9_ok : Sg.EOk e9 := ⟨rfl, by decide⟩
theorem right9 : Sg.RightP [e9] := ⟨by simp, fun i e hi he => by
  have hi0 : i = 0 := by simp at hi; omega
  subst hi0
  simp at he
  subst he
  exact ⟨rfl, fun j x hj => by omega⟩⟩
theorem find9 {e : Ending} (h : Sg.FAns [e9] Sg.h1 e) : e = .returned (.tuple #[.agg #[.int .i64 1, .int .i64 0, .int .i64 9], .bool true]) := by
  obtain ⟨p, b, rfl, h2, h3, _⟩ := h
  have hb : b = true := h2.2 ⟨right9, e9, by simp, rfl⟩
  subst hb
  have := h3 rfl
  simp [e9] at this
  subst this
  rfl
theorem ev9 (w : World) (A : Array Value) (hA : A = (Sg.entC e9).toArray) : Sg.EV (fun g => g = w.heap.size) (w.alloc (.cells A 155)) (.slice (some ⟨w.heap.size, 0, none⟩) 1 1) [e9] := by
  subst hA
  refine ⟨_, 1, rfl, Nat.le_refl _, by decide, by simp, fun e he => ?_, fun _ => ⟨w.heap.size, 0, rfl, rfl, by simp, fun i e hi => ?_⟩⟩
  · simp at he
    subst he
    exact e9_ok
  · have hi0 : i = 0 := by
      have := (List.getElem?_eq_some_iff.1 hi).1
      simp at this
      omega
    subst hi0
    simp at hi
    subst hi
    refine ⟨e9_ok, fun j v hv => ?_⟩
    rw [World.cell?_alloc_at _ _ _ _ rfl]
    simpa using hv
theorem stab9 {X : List Sg.Ent} (h : Stab Sg.ky ([] ++ [e9]) X) : Sg.cmpct X = [e9] := by
  have hl := h.length
  match X, hl with
  | [y], _ =>
    have : y ∈ ([] ++ [e9] : List Sg.Ent) := (h.mem y).1 (by simp)
    simp at this
    subst this
    rfl
theorem seal9_len : (nats (Sg.sealE [e9])).length ≤ 100 := by
  have h : (nats (Sg.sealE [e9])).length = (Sg.formE [e9]).length + 4 := by
    rw [Sg.sealE, nats_length, sealI_length]
  have h2 : (Sg.formE [e9]).length ≤ 96 := by decide
  omega

theorem start_calm : Calm (Sim.startPS 1000) := ⟨rfl, rfl, rfl⟩
theorem start_used (r : Nat) : Sim.used (Sim.startPS r) = 0 := rfl
theorem start_list (r : Nat) : pList (Sim.startPS r) = [] := rfl
theorem seen_one {bs : List Nat} {q : PS} {x r : Nat} (w : Went bs (Sim.startPS r) x 6 q) : q.seen = [(nI, x)] := by
  rw [w.seen5 (by omega)]
  show Sim.dput (Sim.ddel (Sim.dput [] nT x) nT) nI x = _
  simp [Sim.dput, Sim.ddel, Sim.dins]
theorem went_calm {bs : List Nat} {q : PS} {x r : Nat} (w : Went bs (Sim.startPS r) x 6 q) : Calm q := ⟨w.down, w.armed, by rw [seen_one w]; rfl⟩
theorem went_used {bs : List Nat} {q : PS} {x r : Nat} (w : Went bs (Sim.startPS r) x 6 q) : Sim.used q = bs.length ∧ q.room = r := by
  refine ⟨?_, w.room⟩
  rw [Sim.used, seen_one w]
  simp [w.fileb (by omega)]

set_option maxHeartbeats 4000000 in
set_option maxRecDepth 100000 in
theorem alive_any (w : World) : Calls Tryz.prog 31 #[] w fun e w' => e = .returned (.bool true) ∧ Kp No w w' := by
  go_enter Tryz.func31, Tryz.ntmps31
  go_wp2_with fail
  refine (Sim.new_yes 1000 (by omega) w).mono ?_
  rintro e w1 ⟨rfl, hS1, hK1⟩
  have HS1 := hid hS1
  have HK1 := hid hK1
  have hl1 : w.heap.size < w1.heap.size := hS1.lt _ rfl
  clear hS1 hK1
  go_wp2_with fail
  refine (Crc.new_any w1).mono ?_
  rintro e w2 ⟨rfl, hb2, hs2, ht2⟩
  have HS2 : Hid (Sim.Sys (· = w.heap.size) 0 w2 w.heap.size (Sim.startPS 1000)) := HS1.out.kept (Kp.below hb2)
  have HT2 : Hid (TabX w2 w1.heap.size) := ⟨0, 0, .inl rfl, ht2⟩
  have HK2 : Hid (Kp No w w2) := HK1.out.andNone (Kp.below hb2)
  have hl2 : w1.heap.size < w2.heap.size := by omega
  clear hb2 hs2 ht2 HS1 HK1
  go_wp2_with fail
  refine (Sh.open_any w2 w.heap.size w1.heap.size (Sim.startPS 1000) HS2.out (by simp [start_list]) (by simp [start_list])).mono ?_
  rintro e w3 ho
  have ho' : ∃ g P', e = .returned (.tuple #[.pointer (some ⟨g, 0, none⟩), .int .i64 0]) ∧ Sh.ShAt w3 g w.heap.size w1.heap.size 0 ∧ Sim.Sys P' 1 w3 w.heap.size (Sim.startPS 1000) ∧ Kp (· = w.heap.size) w2 w3 ∧ (∀ y, P' y → y = w.heap.size ∨ w2.heap.size ≤ y) := by
    rcases ho with ⟨h, _⟩ | ⟨_, g, P', h1, h2, h3, h4, h5, _⟩
    · exact absurd rfl h
    · exact ⟨g, P', h1, h2, h3, h4, h5⟩
  clear ho
  obtain ⟨g, P', rfl, hH, hS3, hK3, hP3⟩ := ho'
  have hnb : ¬ P' w1.heap.size := fun e => by rcases hP3 _ e with e | e <;> omega
  have hT3 : TabX w3 w1.heap.size := HT2.out.kp hK3 (fun e => by have e' : w1.heap.size = w.heap.size := e; omega)
  have HK3 : Hid (Kp No w w3) := HK2.out.trans hK3 (fun y hy => .inr (by omega))
  have HO := hid (open0 w3 w.heap.size w1.heap.size g 0 (Sim.startPS 1000) hS3 (by omega) hT3 hnb hH (Sim.start_finds nI_ok) (start_list _))
  have hl3 := hK3.size
  have HP3 := hid hP3
  clear hH hS3 hK3 hP3 hnb hT3 HS2 HT2 HK2
  go_wp2_with fail
  refine HO.out.mono ?_
  rintro e w4 ⟨r, hsv, hT4, hrest⟩
  obtain ⟨hr0, x0, hx0, hwent⟩ := save_ok start_calm (by rw [start_used, seal0_len]; decide) hsv
  have hrest' : ∃ x v, e = .returned (.tuple #[.pointer (some ⟨x, 0, none⟩), .bool true, .int .i64 0]) ∧ w3.heap.size ≤ x ∧ IxAt w4 x w.heap.size w1.heap.size v ∧ Sg.EV (fun g => w3.heap.size ≤ g) w4 v [] ∧
      ∃ P4, Sim.Sys P4 7 w4 w.heap.size r.2 ∧ Kp (fun y => P' y ∨ y = w1.heap.size) w3 w4 ∧ (∀ y, P4 y → P' y ∨ w3.heap.size ≤ y) ∧ ¬ P4 x ∧ ¬ P4 w1.heap.size := by
    rcases hrest with ⟨h, _⟩ | ⟨_, h⟩
    · exact absurd hr0 h
    · exact h
  clear hrest hsv
  obtain ⟨x, v, rfl, hx, hX4, hv4, P4, hS4, hK4, hP4, hx4, hb4⟩ := hrest'
  have hc4 := went_calm hwent
  have hu4 := went_used hwent
  have hxl := hX4.lt
  have HK4 : Hid (Kp No w w4) := HK3.out.trans hK4 (fun y hy => .inr (by
    rcases hy with e | e
    · rcases HP3.out y e with e | e <;> omega
    · omega))
  have HG4 := hid (And.intro hT4 (And.intro hX4 (And.intro hv4 (And.intro hS4 (And.intro hx4 hb4)))))
  have HC4 := hid (And.intro hc4 hu4)
  have hxb : x ≠ w1.heap.size := by omega
  have HPP : Hid (∀ y, P4 y → w.heap.size ≤ y) := fun y hy => by
    rcases hP4 y hy with e | e
    · rcases HP3.out y e with e | e <;> omega
    · omega
  have hxw : w.heap.size ≤ x := by omega
  clear hT4 hX4 hv4 hS4 hK4 hP4 hx4 hb4 hc4 hu4 hwent hx0 HO HK3 HP3 hr0
  go_wp2_with fail
  have HKA : Hid (Kp No w4 (w4.alloc (.cells (Sg.entC e9).toArray 155))) := (Kp.refl _ _).alloc _
  have hsA : (w4.alloc (.cells (Sg.entC e9).toArray 155)).heap.size = w4.heap.size + 1 := by simp
  have hlt4 := HG4.out.2.2.2.1.lt
  refine (add_any (w4.alloc (.cells (Sg.entC e9).toArray 155)) w.heap.size w1.heap.size x r.2 _ v [e9] [] (HG4.out.2.2.2.1.kept HKA.out) (by omega) (HG4.out.1.kp HKA.out (fun h => h)) HG4.out.2.2.2.2.2 (HG4.out.2.1.kp HKA.out (fun h => h)) HG4.out.2.2.2.2.1 hxb (HG4.out.2.2.1.kept HKA.out) (ev9 w4 _ rfl) (by simp) (fun X hs _ => by
    rw [stab9 hs]
    exact ⟨right9, by have := seal9_len; omega, nats_lt (by simp [e9_ok]) (by simp)⟩)).mono ?_
  rintro e w6 ⟨X, r6, w5, hs, _, hk5, hv5, r', hsv, rfl, hX6, _, P6, _, hK6, _⟩
  rw [stab9 hs] at hv5 hsv
  have hr0 : r'.1 = 0 := (save_ok HC4.out.1 (by rw [HC4.out.2.1, HC4.out.2.2, seal0_len]; have := seal9_len; omega) hsv).1
  rw [if_pos hr0] at hX6
  rw [hr0]
  obtain ⟨a6, c6, h6, _⟩ := id hv5
  have h6' : r6 = .slice a6 1 c6 := h6
  clear h6
  subst h6'
  have hv6 : Sg.EV (fun g => w4.heap.size < g) w6 (.slice a6 1 c6) [e9] := (hv5.mono (fun g hg => by omega)).kp hK6 (fun g hg hL => by
    rcases hL with e | e | e
    · have := hlt4 _ e; omega
    · omega
    · omega)
  have HK6 : Hid (Kp No w w6) := ((HK4.out.alloc _).andNone hk5).trans hK6 (fun y hy => .inr (by
    rcases hy with e | e | e
    · exact HPP.out y e
    · omega
    · omega))
  have HG6 := hid (And.intro hX6 hv6)
  clear hX6 hv6 hv5 hk5 hK6 hsv hs hr0 HG4 HC4 HKA HPP hlt4 hsA HK4
  go_wp2_with fail
  refine (find_any w6 x w.heap.size w1.heap.size _ [e9] Sg.h1 HG6.out.1 HG6.out.2 (by simp) rfl (by decide)).mono ?_
  rintro e w7 ⟨hfa, hk7⟩
  have hfe := find9 hfa
  subst hfe
  have HX7 : Hid (IxAt w7 x w.heap.size w1.heap.size (.slice a6 1 c6)) := HG6.out.1.kp hk7 (fun h => h)
  have HK7 := hid (HK6.out.andNone hk7)
  clear hfa hk7 HG6 HK6
  go_wp2_with fail
  refine (len_any _ x w.heap.size w1.heap.size 1 c6 a6 (HX7.out.kp (L := No) ((Kp.refl No w7).alloc _) (fun h => h))).mono ?_
  rintro e w8 ⟨rfl, hw8⟩
  rw [hw8]
  clear hw8
  go_wp2_with fail
  go_ret
  exact ⟨rfl, HK7.out.alloc _⟩

end Go.Proofs.YthmimipoooemjaaGreatDoor.Ix
end

section
/-
  Load of a list that was saved.
-/
namespace Go.Proofs.YthmimipoooemjaaGreatDoor.Ix
open Go.RowKit Go.Shelf
open Tlv (BySlS)
open Sim (hid Kp No PS Done Blk nm ByP finds pBytes)

set_option maxHeartbeats 1000000 in
set_option maxRecDepth 100000 in
theorem load_back {P : Nat → Prop} {N : Nat} (w : World) (s b : Nat) (p : PS) (d : List Sg.Ent) (h : Sim.Sys P N w s p) (hT : TabX w b) (hf : finds p nI = 0) (ho : ∀ e ∈ d, Sg.EOk e) (hR : Sg.RightP d) (hb : pBytes nI p = nats (Sg.sealE d)) :
    Calls Tryz.prog 36 #[.pointer (some ⟨s, 0, none⟩), .pointer (some ⟨b, 0, none⟩)] w fun e w' => ∃ v, e = .returned (.tuple #[v, .int .i64 0]) ∧ Sg.EV (fun g => w.heap.size ≤ g) w' v d ∧ Kp (fun x => x = b) w w' ∧ TabX w' b := by
  have HC := hid (Sim.read_any w s p sI (by decide) h)
  rw [nm_sI, hb, hf] at HC
  unfold sI at HC
  have hlt := nats_lt ho hR.1
  have hbd := Sg.sealE_bd ho hR.1
  have hlen := (Sg.sealE_length ho hR.1).2
  have hl2 : (nats (Sg.sealE d)).length ≤ 65542 := by rw [nats_length]; exact hlen
  have HG := hid (fun V v (hV : TabX V b) (hv : BySlS (fun g => g ≠ b ∧ g < V.heap.size) V v (Sg.sealE d)) => Sg.get_any b V v (Sg.sealE d) hV hv (by omega))
  have HI := hid (ints_nats (Sg.sealE d) hbd)
  obtain ⟨bs, hbs⟩ : ∃ bs, nats (Sg.sealE d) = bs := ⟨_, rfl⟩
  rw [hbs] at HC HI hlt hl2
  have HB := hid (And.intro ho (And.intro hR (And.intro hlt hl2)))
  have hbl := hT.lt
  have HT := hid hT
  clear h hT hb hf hlt hbd hlen ho hR hbs hl2
  go_enter Tryz.func36, Tryz.ntmps36
  go_wp2_with fail
  refine HC.out.mono ?_
  rintro e w1 ⟨ad, cap, rfl, hob, hnw, hk⟩
  have hB1 : BySlS (fun g => w.heap.size ≤ g ∧ g < w1.heap.size) w1 (.slice ad bs.length cap) (ints bs) := own_of hob HB.out.2.2.1 (by have := HB.out.2.2.2; omega) w.heap.size hnw
  rw [HI.out] at hB1
  have HB1 : Hid (BySlS (fun g => g ≠ b ∧ g < w1.heap.size) w1 (.slice ad bs.length cap) (Sg.sealE d)) := BySlS.mono hB1 (fun g hg => ⟨by omega, hg.2⟩)
  have HK := hid hk
  clear hob hnw hk HC hB1
  have HGG := hid (HG.out w1 _ (HT.out.kp HK.out (fun h => h)) HB1.out)
  clear HG HB1
  generalize bs.length = n at *
  go_wp2_with fail
  refine HGG.out.mono ?_
  rintro e w2 ⟨v, f, d', rfl, hga, hrow, hown, hoks, hkk, ht⟩
  obtain ⟨rfl, rfl⟩ := Sg.gans_back HB.out.1 HB.out.2.1 hga
  have HF : Hid (Sg.EV (fun g => w.heap.size ≤ g) w2 v d' ∧ Kp (fun x => x = b) w w2 ∧ TabX w2 b) := ⟨Sg.ev_of_row hrow hoks (fun x hx => Nat.le_trans HK.out.size (hown x hx)), HK.out.ofNo.trans (kp_kept hkk) (fun x hx => .inl hx), ht⟩
  obtain ⟨av, cv, hv, _⟩ := hrow.shape
  obtain ⟨m, hm⟩ : ∃ m, d'.length = m := ⟨_, rfl⟩
  rw [hm] at hv
  subst hv
  clear hga hrow hown hoks hkk ht hm HB HI
  go_wp2_with fail
  refine bodyPost_ret (v := .tuple #[.slice av m cv, .int .i64 0]) (by simp [results, Tryz.results36, go_sem]) rfl ⟨_, rfl, HF.out⟩

end Go.Proofs.YthmimipoooemjaaGreatDoor.Ix
end

section
/-
  What a name leads to beside other changes; what a crash takes of a file that is safe.
-/
namespace Go.Proofs.YthmimipoooemjaaGreatDoor.Ix
open Sim

/-! ### What a name leads to -/
theorem dfind_ddel_ne {d : Dir} {n m : Nm} (h : n ≠ m) : dfind (ddel d n) m = dfind d m := by
  unfold dfind ddel
  rw [List.find?_filter]
  congr 1
  congr 1
  funext a
  by_cases e : a.1 = m
  · have : a.1 ≠ n := fun e' => h (e'.symm.trans e)
    simp [e, Ne.symm h]
  · simp [e]
theorem dfind_dins_ne {n m : Nm} {f : Nat} (h : n ≠ m) : ∀ d : Dir, dfind (dins (n, f) d) m = dfind d m
  | [] => by simp [dins, dfind, h]
  | y :: r => by
    unfold dins
    split
    · unfold dfind
      rw [List.find?_cons]
      have : ((n, f).1 == m) = false := by simpa using h
      rw [this]
    · have ih := dfind_dins_ne (f := f) h r
      unfold dfind at ih ⊢
      rw [List.find?_cons, List.find?_cons]
      split
      · rfl
      · exact ih
theorem dfind_dput_ne {d : Dir} {n m : Nm} {f : Nat} (h : n ≠ m) : dfind (dput d n f) m = dfind d m := by
  unfold dput
  rw [dfind_dins_ne h, dfind_ddel_ne h]
theorem lose_safe (z : Int) (bs : List Nat) : lose z ⟨bs, bs.length⟩ = ⟨bs, bs.length⟩ := by
  unfold lose
  simp
theorem loses_keep {b : Nat} {bs : List Nat} : ∀ (d : Dir) (i : Nat) (cuts : List Int) (p : PS), p.files b = some ⟨bs, bs.length⟩ → (loses d i cuts p).files b = some ⟨bs, bs.length⟩ ∧ (loses d i cuts p).safe = p.safe
  | [], _, _, _, h => ⟨h, rfl⟩
  | e :: r, i, cuts, p, h => by
    unfold loses
    have h1 : (setF e.2 (lose (cuts.getD i 0) (fileAt p e.2)) p).files b = some ⟨bs, bs.length⟩ := by
      show (if b = e.2 then some (lose (cuts.getD i 0) (fileAt p e.2)) else p.files b) = _
      split
      · rename_i eb
        rw [← eb]
        have : fileAt p b = ⟨bs, bs.length⟩ := by unfold fileAt; rw [h]; rfl
        rw [this, lose_safe]
      · exact h
    obtain ⟨h2, h3⟩ := loses_keep r (i + 1) cuts _ h1
    exact ⟨h2, h3⟩

end Go.Proofs.YthmimipoooemjaaGreatDoor.Ix
end

section
/-
  A save that is broken off: the name leads to the old bytes, or to the new ones.
-/
namespace Go.Proofs.YthmimipoooemjaaGreatDoor.Ix
open Sim

/-- Whatever of the changes survives, the list's name leads to a file that is safe as a whole: these bytes, or those. -/
def Lead (A B : List Nat) (q : PS) : Prop :=
  ∀ k, ∃ f bs, dfind ((q.chg.take k).foldl pdo q.safe) nI = some f ∧ q.files f = some ⟨bs, bs.length⟩ ∧ (bs = A ∨ bs = B)

theorem lead_up {A B : List Nat} {q : PS} (h : Lead A B q) (k : Int) (cuts : List Int) : finds (pUp k cuts q) nI = 0 ∧ (pBytes nI (pUp k cuts q) = A ∨ pBytes nI (pUp k cuts q) = B) := by
  obtain ⟨f, bs, h1, h2, h3⟩ := h (min (max k 0).toNat q.chg.length)
  obtain ⟨S, hS⟩ : ∃ S, Sim.settle (min (max k 0).toNat q.chg.length) q = S := ⟨_, rfl⟩
  have hs : S.safe = (q.chg.take (min (max k 0).toNat q.chg.length)).foldl pdo q.safe := by rw [← hS]; rfl
  have hf : S.files f = some ⟨bs, bs.length⟩ := by rw [← hS]; exact h2
  obtain ⟨l1, l2⟩ := loses_keep S.safe 0 cuts S hf
  have e : pUp k cuts q = { loses S.safe 0 cuts S with seen := (loses S.safe 0 cuts S).safe, down := false, armed := false, left := 0 } := by rw [pUp, hS]
  have hd : dfind (pUp k cuts q).seen nI = some f := by
    rw [e]
    show dfind (loses S.safe 0 cuts S).safe nI = some f
    rw [l2, hs]
    exact h1
  have hdn : (pUp k cuts q).down = false := by rw [e]
  have hfs : finds (pUp k cuts q) nI = 0 := by rw [finds_of hdn nI_ok, hd]; rfl
  have hb : pBytes nI (pUp k cuts q) = bs := by
    rw [pBytes, if_neg (by rw [hfs]; simp), blockOf, hd]
    show (fileAt (pUp k cuts q) f).b = bs
    have : (pUp k cuts q).files f = some ⟨bs, bs.length⟩ := by rw [e]; exact l1
    rw [fileAt, this]
    rfl
  exact ⟨hfs, by rw [hb]; exact h3⟩

def c0 (y : Nat) : PC := ⟨0, nT, [], y⟩
def c2 : PC := ⟨2, nT, nI, 0⟩

/-- Behind j steps of a save over a list that is there, at x; the new one is at y. -/
structure Mid (A B : List Nat) (x y : Nat) (j : Nat) (q : PS) : Prop where
  down : q.down = false
  room : q.room = 99000
  safe : j ≤ 5 → q.safe = [(nI, x)]
  chg : q.chg = if j ≤ 1 then [] else if j ≤ 4 then [c0 y] else if j = 5 then [c0 y, c2] else []
  seen : q.seen = q.chg.foldl pdo q.safe
  fx : q.files x = some ⟨A, A.length⟩
  xy : 2 ≤ j → x ≠ y
  f2 : j = 2 → q.files y = some ⟨[], 0⟩
  f3 : j = 3 → q.files y = some ⟨B, 0⟩
  f4 : 4 ≤ j → q.files y = some ⟨B, B.length⟩
  safe6 : j = 6 → q.safe = [(nI, y)]

theorem nTI : nT ≠ nI := by decide
theorem dir1 (x y : Nat) : dfind (pdo [(nI, x)] (c0 y)) nI = some x := by
  show dfind (dput [(nI, x)] nT y) nI = some x
  rw [dfind_dput_ne nTI]
  rfl
theorem dir1T (x y : Nat) : dfind (pdo [(nI, x)] (c0 y)) nT = some y := by
  show dfind (dput [(nI, x)] nT y) nT = some y
  exact dfind_dput_self _ _ _
theorem dir2 (x y : Nat) : pdo (pdo [(nI, x)] (c0 y)) c2 = [(nI, y)] := by
  have h : (dfind (pdo [(nI, x)] (c0 y)) nT).getD 0 = y := by rw [dir1T]; rfl
  show dput (ddel (pdo [(nI, x)] (c0 y)) nT) nI ((dfind (pdo [(nI, x)] (c0 y)) nT).getD 0) = _
  rw [h]
  show dput (ddel (dput [(nI, x)] nT y) nT) nI y = _
  have e : ddel (dput [(nI, x)] nT y) nT = [(nI, x)] := by
    have e1 : dput [(nI, x)] nT y = [(nI, x), (nT, y)] := by
      simp [dput, ddel, dins, show (nI == nT) = false by decide, show bytesBefore nT nI = false by decide]
    rw [e1]
    simp [ddel, show (nI == nT) = false by decide]
  rw [e]
  simp [dput, ddel, dins]

theorem Mid.lead {A B : List Nat} {x y j : Nat} {q : PS} (h : Mid A B x y j q) (hj : j ≤ 6) : Lead A B q := by
  intro k
  have hj' : j ≤ 1 ∨ (2 ≤ j ∧ j ≤ 4) ∨ j = 5 ∨ j = 6 := by omega
  rcases hj' with hj1 | ⟨hj1, hj2⟩ | rfl | rfl
  · rw [h.chg, if_pos hj1, h.safe (by omega)]
    exact ⟨x, A, by simp [dfind], h.fx, .inl rfl⟩
  · rw [h.chg, if_neg (by omega), if_pos hj2, h.safe (by omega)]
    refine ⟨x, A, ?_, h.fx, .inl rfl⟩
    cases k with
    | zero => simp [dfind]
    | succ k => simpa using dir1 x y
  · rw [h.chg, if_neg (by omega), if_neg (by omega), if_pos rfl, h.safe (by omega)]
    match k with
    | 0 => exact ⟨x, A, by simp [dfind], h.fx, .inl rfl⟩
    | 1 => exact ⟨x, A, by simpa using dir1 x y, h.fx, .inl rfl⟩
    | k + 2 =>
      refine ⟨y, B, ?_, h.f4 (by omega), .inr rfl⟩
      simp only [List.take_succ_cons, List.foldl_cons, List.take_nil, List.foldl_nil]
      rw [dir2]
      simp [dfind]
  · rw [h.chg, if_neg (by omega), if_neg (by omega), if_neg (by omega), h.safe6 rfl]
    exact ⟨y, B, by simp [dfind], h.f4 (by omega), .inr rfl⟩
theorem Mid.lead6 {A B : List Nat} {x y : Nat} {q : PS} (h : Mid A B x y 6 q) : Lead B B q := by
  intro k
  rw [h.chg, if_neg (by omega), if_neg (by omega), if_neg (by omega), h.safe6 rfl]
  exact ⟨y, B, by simp [dfind], h.f4 (by omega), .inr rfl⟩
theorem Lead.fall {A B : List Nat} {q : PS} (h : Lead A B q) : Lead A B (fall q) := h

/-- What a step answers: it goes down, or on. -/
def Goes (A B : List Nat) (x y j : Nat) (q : PS) (r : Nat × PS) : Prop := (r.1 = 12 ∧ r.2 = fall q) ∨ (r.1 = 0 ∧ Mid A B x y j r.2)

theorem stp_goes {A B : List Nat} {x y j : Nat} {q : PS} {g : PS → PS} (h : Mid A B x y j (g (tick q))) : Goes A B x y j q (stp q g) := by
  rw [stp]
  split
  · exact .inl ⟨rfl, rfl⟩
  · exact .inr ⟨rfl, h⟩

theorem mid1_temp {A B : List Nat} {x y : Nat} {q : PS} (h : Mid A B x y 1 q) : q.seen = [(nI, x)] ∧ dfind q.seen nT = none := by
  have e : q.seen = [(nI, x)] := by
    have hs := h.seen
    rw [h.chg, if_pos (by omega), h.safe (by omega)] at hs
    exact hs
  exact ⟨e, by rw [e]; rfl⟩
theorem go0 {A B : List Nat} {x y : Nat} {p : PS} {r : Nat × PS} (h : Mid A B x y 1 p) (hs : Stp B 0 p r) : r = (0, p) := by
  have hf : finds p nT = 5 := by rw [finds_of h.down nT_ok, (mid1_temp h).2]; rfl
  have hr : pRemove nT p = (5, p) := by rw [pRemove, if_pos (by rw [hf]; omega), hf]
  have hs' : r = pRm p := hs
  rw [hs', pRm, hr]
  rfl

theorem go1 {A B : List Nat} {x y0 : Nat} {p : PS} {r : Nat × PS} (h : Mid A B x y0 1 p) (hs : Stp B 1 p r) : ∃ y, Goes A B x y 2 p r := by
  obtain ⟨y, hy, he⟩ := hs
  have hxy : x ≠ y := fun e => by rw [← e, h.fx] at hy; cases hy
  refine ⟨y, ?_⟩
  rw [pCreate, if_neg (by rw [wrongs_zero h.down (by simp [nT_ok])]; simp), (mid1_temp h).2, if_neg (by simp)] at he
  rw [he]
  refine stp_goes ⟨h.down, h.room, fun _ => h.safe (by omega), ?_, ?_, ?_, fun _ => hxy, fun _ => by simp [chgd, setF], by omega, by omega, by omega⟩
  · show p.chg ++ [c0 y] = _
    rw [h.chg]
    rfl
  · show pdo p.seen (c0 y) = (p.chg ++ [c0 y]).foldl pdo p.safe
    rw [List.foldl_append, ← h.seen]
    rfl
  · show (if x = y then _ else p.files x) = _
    rw [if_neg hxy]
    exact h.fx

theorem mid_temp {A B : List Nat} {x y j : Nat} {q : PS} (h : Mid A B x y j q) (h2 : 2 ≤ j) (h4 : j ≤ 4) : q.seen = pdo [(nI, x)] (c0 y) ∧ dfind q.seen nT = some y ∧ finds q nT = 0 ∧ blockOf q nT = y := by
  have e : q.seen = pdo [(nI, x)] (c0 y) := by
    have hs := h.seen
    rw [h.chg, if_neg (by omega), if_pos h4, h.safe (by omega)] at hs
    exact hs
  have e2 : dfind q.seen nT = some y := by rw [e]; exact dir1T x y
  exact ⟨e, e2, by rw [finds_of h.down nT_ok, e2]; rfl, by rw [blockOf, e2]; rfl⟩

theorem mid2_used {A B : List Nat} {x y : Nat} {q : PS} (h : Mid A B x y 2 q) : used q = A.length := by
  have e := (mid_temp h (by omega) (by omega)).1
  have e1 : pdo [(nI, x)] (c0 y) = [(nI, x), (nT, y)] := by
    show dput [(nI, x)] nT y = _
    simp [dput, ddel, dins, show (nI == nT) = false by decide, show bytesBefore nT nI = false by decide]
  rw [used, e, e1]
  simp [fileAt, h.fx, h.f2 rfl]

theorem set_mid {A B : List Nat} {x y j : Nat} {q : PS} {f : Fl} (h : Mid A B x y j q) (h2 : 2 ≤ j) (h4 : j ≤ 3) (hf : j = 2 → f = ⟨B, 0⟩) (hf3 : j = 3 → f = ⟨B, B.length⟩) : Mid A B x y (j + 1) (setF y f (tick q)) := by
  refine ⟨h.down, h.room, fun _ => h.safe (by omega), ?_, h.seen, ?_, fun _ => h.xy h2, by omega, fun e => ?_, fun e => ?_, by omega⟩
  · show q.chg = _
    rw [h.chg, if_neg (by omega), if_pos (by omega), if_neg (by omega), if_pos (by omega)]
  · show (if x = y then _ else q.files x) = _
    rw [if_neg (h.xy h2)]
    exact h.fx
  · show (if y = y then some f else _) = _
    rw [if_pos rfl, hf (by omega)]
  · show (if y = y then some f else _) = _
    rw [if_pos rfl, hf3 (by omega)]

theorem go2 {A B : List Nat} {x y : Nat} {q : PS} {r : Nat × PS} (h : Mid A B x y 2 q) (hl : A.length + B.length ≤ 99000) (hs : Stp B 2 q r) : Goes A B x y 3 q r := by
  obtain ⟨_, _, h1, h2⟩ := mid_temp h (by omega) (by omega)
  have he : r = pAppend nT B q := hs
  rw [pAppend, if_neg (by rw [h1]; simp), if_neg (by rw [mid2_used h, h.room]; omega), h2] at he
  rw [he]
  refine stp_goes (set_mid h (by omega) (by omega) (fun _ => ?_) (by omega))
  rw [fileAt, h.f2 rfl]
  rfl
theorem go3 {A B : List Nat} {x y : Nat} {q : PS} {r : Nat × PS} (h : Mid A B x y 3 q) (hs : Stp B 3 q r) : Goes A B x y 4 q r := by
  obtain ⟨_, _, h1, h2⟩ := mid_temp h (by omega) (by omega)
  have he : r = pFsync nT q := hs
  rw [pFsync, if_neg (by rw [h1]; simp), h2] at he
  rw [he]
  refine stp_goes (set_mid h (by omega) (by omega) (by omega) (fun _ => ?_))
  rw [fileAt, h.f3 rfl]
  rfl
theorem go4 {A B : List Nat} {x y : Nat} {q : PS} {r : Nat × PS} (h : Mid A B x y 4 q) (hs : Stp B 4 q r) : Goes A B x y 5 q r := by
  obtain ⟨_, h0, _, _⟩ := mid_temp h (by omega) (by omega)
  have he : r = pRename nT nI q := hs
  rw [pRename, if_neg (by rw [wrongs_zero h.down (by simp [nT_ok, nI_ok])]; simp), h0, if_pos (by simp)] at he
  rw [he]
  refine stp_goes ⟨h.down, h.room, fun _ => h.safe (by omega), ?_, ?_, h.fx, fun _ => h.xy (by omega), by omega, by omega, fun _ => h.f4 (by omega), by omega⟩
  · show q.chg ++ [c2] = _
    rw [h.chg]
    rfl
  · show pdo q.seen c2 = (q.chg ++ [c2]).foldl pdo q.safe
    rw [List.foldl_append, ← h.seen]
    rfl
theorem go5 {A B : List Nat} {x y : Nat} {q : PS} {r : Nat × PS} (h : Mid A B x y 5 q) (hs : Stp B 5 q r) : Goes A B x y 6 q r := by
  have he : r = pSyncDir q := hs
  rw [pSyncDir, if_neg (by rw [wrongs_zero h.down (by simp)]; simp)] at he
  rw [he]
  have e : (q.chg.take q.chg.length).foldl pdo q.safe = [(nI, y)] := by
    rw [List.take_length, h.chg, if_neg (by omega), if_neg (by omega), if_pos rfl, h.safe (by omega)]
    exact dir2 x y
  refine stp_goes ⟨h.down, h.room, by omega, rfl, ?_, h.fx, fun _ => h.xy (by omega), by omega, by omega, fun _ => h.f4 (by omega), fun _ => e⟩
  show q.seen = (q.chg.take q.chg.length).foldl pdo q.safe
  rw [List.take_length]
  exact h.seen

/-- A save over a list that is there: done, or down. -/
theorem save_again {A B : List Nat} {x y : Nat} {p : PS} {r : Nat × PS} (h : Mid A B x y 1 p) (hl : A.length + B.length ≤ 99000) (hs : Saved B p r) : (r.1 = 0 ∧ Lead B B r.2) ∨ (r.1 = 12 ∧ Lead A B r.2) := by
  have G : ∀ {q : PS} {x y j' : Nat} {r : Nat × PS}, Lead A B q → r.1 ≠ 0 → Goes A B x y j' q r → r.1 = 12 ∧ Lead A B r.2 := fun {q x y j' r} hm h0 hg => by
    rcases hg with ⟨h1, h2⟩ | ⟨h1, _⟩
    · exact ⟨h1, by rw [h2]; exact hm.fall⟩
    · exact absurd h1 h0
  have N : ∀ {q : PS} {x y j' : Nat} {r : PS}, Goes A B x y j' q (0, r) → Mid A B x y j' r := fun {q x y j' r} hg => by
    rcases hg with ⟨h1, _⟩ | ⟨_, h1⟩
    · cases h1
    · exact h1
  have R1 : ∀ {q}, Reach B p 1 q → q = p := fun {q} ⟨q', h1, h2⟩ => by
    have h1' : q' = p := h1
    subst h1'
    exact (Prod.mk.inj (go0 h h2)).2
  have R2 : ∀ {q}, Reach B p 2 q → ∃ y, Mid A B x y 2 q := fun {q} ⟨q', h1, h2⟩ => by
    rw [R1 h1] at h2
    obtain ⟨y, hg⟩ := go1 h h2
    exact ⟨y, N hg⟩
  have R3 : ∀ {q}, Reach B p 3 q → ∃ y, Mid A B x y 3 q := fun {q} ⟨q', h1, h2⟩ => by
    obtain ⟨y, hm⟩ := R2 h1
    exact ⟨y, N (go2 hm hl h2)⟩
  have R4 : ∀ {q}, Reach B p 4 q → ∃ y, Mid A B x y 4 q := fun {q} ⟨q', h1, h2⟩ => by
    obtain ⟨y, hm⟩ := R3 h1
    exact ⟨y, N (go3 hm h2)⟩
  have R5 : ∀ {q}, Reach B p 5 q → ∃ y, Mid A B x y 5 q := fun {q} ⟨q', h1, h2⟩ => by
    obtain ⟨y, hm⟩ := R4 h1
    exact ⟨y, N (go4 hm h2)⟩
  rcases hs with ⟨h0, q', h1, h2⟩ | ⟨h0, j, hj, q', h1, h2⟩
  · obtain ⟨y, hm⟩ := R5 h1
    exact .inl ⟨h0, (N (go5 hm h2)).lead6⟩
  · right
    have hj' : j = 0 ∨ j = 1 ∨ j = 2 ∨ j = 3 ∨ j = 4 ∨ j = 5 := by omega
    rcases hj' with rfl | rfl | rfl | rfl | rfl | rfl
    · have h1' : q' = p := h1
      subst h1'
      rw [go0 h h2] at h0
      exact absurd rfl h0
    · rw [R1 h1] at h2
      obtain ⟨y, hg⟩ := go1 h h2
      exact G (h.lead (by omega)) h0 hg
    · obtain ⟨y, hm⟩ := R2 h1
      exact G (hm.lead (by omega)) h0 (go2 hm hl h2)
    · obtain ⟨y, hm⟩ := R3 h1
      exact G (hm.lead (by omega)) h0 (go3 hm h2)
    · obtain ⟨y, hm⟩ := R4 h1
      exact G (hm.lead (by omega)) h0 (go4 hm h2)
    · obtain ⟨y, hm⟩ := R5 h1
      exact G (hm.lead (by omega)) h0 (go5 hm h2)

end Go.Proofs.YthmimipoooemjaaGreatDoor.Ix
end

section
/-
  Plain mathematics of the document's Sort: of each name the first, in the names' order.
-/
namespace Go.Proofs.YthmimipoooemjaaGreatDoor.Sg
open Stb (Stab Srt Mrg)
/-- The entries of l as the document sorts them. -/
def Sorted (l out : List Ent) : Prop := Rise out ∧ ∀ k, out.find? (fun x => decide (x.1 = k)) = l.find? (fun x => decide (x.1 = k))
theorem Sorted.nil : Sorted [] [] := ⟨List.Pairwise.nil, fun _ => rfl⟩
/-- Those ahead of k are less than e, the one at k is not. -/
def Place (out : List Ent) (e : Ent) (k : Nat) : Prop := (∀ x ∈ out.take k, lexB x.1 e.1 = true) ∧ ∀ y, out[k]? = some y → lexB y.1 e.1 = false
theorem Sorted.has {l out : List Ent} {e y : Ent} {k : Nat} (h : Sorted l out) (hy : out[k]? = some y) (he : y.1 = e.1) : Sorted (l ++ [e]) out := by
  refine ⟨h.1, fun q => ?_⟩
  rw [List.find?_append, ← h.2 q]
  cases hf : out.find? (fun x => decide (x.1 = q)) with
  | some z => rfl
  | none =>
    have hne : ¬ e.1 = q := fun e1 => by
      have := List.find?_eq_none.1 hf y (List.mem_of_getElem? hy)
      rw [he, e1] at this
      simp at this
    rw [List.find?_cons_of_neg (by simpa using hne)]
    rfl
theorem place_after {out : List Ent} {e : Ent} {k : Nat} (hr : Rise out) (hp : Place out e k) (hn : ∀ y, out[k]? = some y → y.1 ≠ e.1) : ∀ x ∈ out.drop k, lexB e.1 x.1 = true := by
  intro x hx
  obtain ⟨i, hi⟩ := List.mem_iff_getElem?.1 hx
  rw [List.getElem?_drop] at hi
  have hkl : k < out.length := by have := (List.getElem?_eq_some_iff.1 hi).1; omega
  obtain ⟨y, hy⟩ : ∃ y, out[k]? = some y := ⟨_, List.getElem?_eq_getElem hkl⟩
  have h1 : lexB e.1 y.1 = true := by
    rcases lexB_tot e.1 y.1 (fun h => hn y hy h.symm) with h | h
    · exact h
    · rw [hp.2 y hy] at h; cases h
  cases i with
  | zero =>
    rw [Nat.add_zero, hy] at hi
    cases hi
    exact h1
  | succ i =>
    have hlt := (List.getElem?_eq_some_iff.1 hi).1
    have h2 := List.pairwise_iff_getElem.1 hr k (k + (i + 1)) hkl hlt (by omega)
    rw [(List.getElem?_eq_some_iff.1 hy).2, (List.getElem?_eq_some_iff.1 hi).2] at h2
    exact lexB_trans _ _ _ h1 h2
theorem Sorted.ins {l out : List Ent} {e : Ent} {k : Nat} (h : Sorted l out) (hp : Place out e k) (hn : ∀ y, out[k]? = some y → y.1 ≠ e.1) : Sorted (l ++ [e]) (out.take k ++ e :: out.drop k) := by
  have ha := place_after h.1 hp hn
  have hno : ∀ x ∈ out, x.1 ≠ e.1 := fun x hx he => by
    rw [← List.take_append_drop k out] at hx
    rcases List.mem_append.1 hx with h1 | h1
    · have := hp.1 x h1
      rw [he, lexB_irr] at this
      cases this
    · have := ha x h1
      rw [he, lexB_irr] at this
      cases this
  refine ⟨?_, fun q => ?_⟩
  · have hR : Rise (out.take k ++ out.drop k) := by rw [List.take_append_drop]; exact h.1
    obtain ⟨r1, r2, r3⟩ := List.pairwise_append.1 hR
    refine List.pairwise_append.2 ⟨r1, List.pairwise_cons.2 ⟨ha, r2⟩, fun x hx y hy => ?_⟩
    rcases List.mem_cons.1 hy with rfl | hy
    · exact hp.1 x hx
    · exact r3 x hx y hy
  · have e1 : out.find? (fun x => decide (x.1 = q)) = ((out.take k).find? (fun x => decide (x.1 = q))).or ((out.drop k).find? (fun x => decide (x.1 = q))) := by rw [← List.find?_append, List.take_append_drop]
    rw [List.find?_append, List.find?_append, ← h.2 q]
    by_cases hq : e.1 = q
    · rw [List.find?_cons_of_pos (by simpa using hq), List.find?_cons_of_pos (by simpa using hq)]
      have n0 : out.find? (fun x => decide (x.1 = q)) = none := List.find?_eq_none.2 (fun x hx hk => hno x hx (by rw [hq]; simpa using hk))
      have n1 : (out.take k).find? (fun x => decide (x.1 = q)) = none := List.find?_eq_none.2 (fun x hx hk => hno x (List.mem_of_mem_take hx) (by rw [hq]; simpa using hk))
      rw [n0, n1]
    · rw [List.find?_cons_of_neg (by simpa using hq), List.find?_cons_of_neg (by simpa using hq), e1]
      simp
end Go.Proofs.YthmimipoooemjaaGreatDoor.Sg
end

section
/-
  The document's Less of two names.
-/
namespace Go.Proofs.YthmimipoooemjaaGreatDoor.Sg
open Go.RowKit
open Sim (hid Kp No)

theorem lexB_drop (a b : List Int) (i : Nat) (ha : i < a.length) (hb : i < b.length) : lexB (a.drop i) (b.drop i) = if a.getD i 0 = b.getD i 0 then lexB (a.drop (i + 1)) (b.drop (i + 1)) else decide (a.getD i 0 < b.getD i 0) := by
  rw [List.drop_eq_getElem_cons ha, List.drop_eq_getElem_cons hb]
  simp only [lexB, List.getD_eq_getElem?_getD, List.getElem?_eq_getElem ha, List.getElem?_eq_getElem hb, Option.getD_some]
  by_cases h1 : a[i] < b[i]
  · rw [if_pos h1, if_neg (by omega), decide_eq_true h1]
  · rw [if_neg h1]
    by_cases h2 : b[i] < a[i]
    · rw [if_pos h2, if_neg (by omega), decide_eq_false h1]
    · rw [if_neg h2, if_pos (by omega)]

set_option maxHeartbeats 1000000 in
set_option maxRecDepth 100000 in
theorem less_any (a b : List Int) (w : World) (ha : a.length = 32) (hb : b.length = 32) :
    Calls Tryz.prog 73 #[.agg (b8 a).toArray, .agg (b8 b).toArray] w fun e w' => e = .returned (.bool (lexB a b)) ∧ Kp No w w' := by
  have HA := hid ha
  have HB := hid hb
  clear ha hb
  obtain ⟨ca, hca⟩ : ∃ c, b8 a = c := ⟨_, rfl⟩
  obtain ⟨cb, hcb⟩ : ∃ c, b8 b = c := ⟨_, rfl⟩
  have HCA := hid hca
  have HCB := hid hcb
  rw [hca, hcb]
  clear hca hcb
  obtain ⟨z, hz⟩ : ∃ z, lexB a b = z := ⟨_, rfl⟩
  rw [hz]
  have HZ := hid hz
  clear hz
  go_enter Tryz.func73, Tryz.ntmps73
  go_wp2_with fail
  obtain ⟨W1, hW1⟩ : ∃ W1, (w.alloc (.cells ca.toArray 53)).alloc (.cells cb.toArray 53) = W1 := ⟨_, rfl⟩
  have hs : W1.heap.size = w.heap.size + 2 := by rw [← hW1]; simp
  have HS := hid hs
  have HK : Hid (Kp No w W1) := by rw [← hW1]; exact ((Kp.refl No w).alloc _).alloc _
  have HC : Hid (∀ V, Kp No W1 V → ∀ i, i < 32 → V.cell? ⟨w.heap.size, i, none⟩ = some (.int .u8 (a.getD i 0)) ∧ V.cell? ⟨w.heap.size + 1, i, none⟩ = some (.int .u8 (b.getD i 0))) := fun V hV i hi => by
    have e1 : ca[i]? = some (.int .u8 (a.getD i 0)) := by rw [← HCA.out]; simp [b8, List.getElem?_eq_getElem (show i < a.length by rw [HA.out]; exact hi)]
    have e2 : cb[i]? = some (.int .u8 (b.getD i 0)) := by rw [← HCB.out]; simp [b8, List.getElem?_eq_getElem (show i < b.length by rw [HB.out]; exact hi)]
    refine ⟨(hV.cell (p := ⟨w.heap.size, i, none⟩) (by simp; omega) (fun x => x)).trans ?_, (hV.cell (p := ⟨w.heap.size + 1, i, none⟩) (by simp; omega) (fun x => x)).trans ?_⟩
    · rw [← hW1, World.cell?_alloc_lt _ _ _ (by simp), World.cell?_alloc_at _ _ _ _ rfl]
      simpa using e1
    · rw [← hW1, World.cell?_alloc_at _ _ _ _ (by simp)]
      simpa using e2
  rw [hW1]
  clear hW1 hs
  go_loopw [5] (fun x wr => ∃ i : Nat, x = .int .i64 i ∧ i ≤ 32 ∧ Hid (z = lexB (a.drop i) (b.drop i)) ∧ Hid (Kp No W1 wr)) (fun x _ => 32 - (intOf x).toNat)
  case atStart => exact ⟨0, rfl, by omega, HZ.out.symm, Kp.refl _ _⟩
  case round =>
    obtain ⟨i, rfl, hi, HI, HR⟩ := hrel
    by_cases hlt : i < 32
    · obtain ⟨c1, c2⟩ := HC.out wr HR.out i hlt
      have HL := hid (lexB_drop a b i (by rw [HA.out]; exact hlt) (by rw [HB.out]; exact hlt))
      generalize a.getD i 0 = x at *
      generalize b.getD i 0 = y at *
      have hltI : (i : Int) < 32 := by omega
      have h0I : (0 : Int) ≤ (i : Int) := by omega
      have hwk : IntKind.i64.wrap ((i : Int) + 1) = ((i + 1 : Nat) : Int) := by rw [IntKind.wrap_i64]; omega
      by_cases hxy : x = y
      · subst hxy
        go_wp2_with fail
        go_quiet (fail)
        go_wp2_with fail
        go_round
        case rel => exact ⟨i + 1, by first | rfl | go_num, by omega, by rw [Hid, HI.out, HL.out, if_pos trivial], HR.out.drewN _⟩
        case measure => simp [intOf]; omega
      · have hne : (x == y) = false := by simpa using hxy
        have hne2 : (x != y) = true := by simpa using hxy
        have HQ : Hid (z = decide (x < y)) := by rw [Hid, HI.out, HL.out, if_neg hxy]
        have HE := hid hxy
        clear hxy
        go_wp2_with fail
        go_quiet (fail)
        have HB2 : Hid (Kp No W1 (wr.drewN nq)) := HR.out.drewN nq
        obtain ⟨wq, hwq⟩ : ∃ wq, wr.drewN nq = wq := ⟨_, rfl⟩
        have d1 : wq.cell? ⟨w.heap.size, i, none⟩ = some (.int .u8 x) := by rw [← hwq]; simpa using c1
        have d2 : wq.cell? ⟨w.heap.size + 1, i, none⟩ = some (.int .u8 y) := by rw [← hwq]; simpa using c2
        rw [hwq] at HB2 ⊢
        clear hwq c1 c2
        go_wp2_with fail
        go_quiet (fail)
        go_wp2_with fail
        go_ret
        exact ⟨by rw [HQ.out]; rfl, HK.out.andNone (HB2.out.drewN _)⟩
    · have HQ : Hid (z = false) := by
        rw [Hid, HI.out, List.drop_eq_nil_of_le (by rw [HA.out]; omega), List.drop_eq_nil_of_le (by rw [HB.out]; omega)]
        rfl
      have hge : (32 : Int) ≤ (i : Int) := by omega
      go_wp2_with fail
      go_ret
      exact ⟨by rw [HQ.out]; rfl, HK.out.andNone HR.out⟩
end Go.Proofs.YthmimipoooemjaaGreatDoor.Sg
end
