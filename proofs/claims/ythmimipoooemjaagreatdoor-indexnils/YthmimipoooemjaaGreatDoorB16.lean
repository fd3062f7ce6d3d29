/- Of the proof: the texts IxFind, IxSaveM, IxAlive, IxNils, FrOpen, SgOpen, IxOpenH, PkLaid, IxNilsFacts, one behind the other. -/
import Derived.Test.YthmimipoooemjaaGreatDoorB14
import Derived.Test.YthmimipoooemjaaGreatDoorB1
import Derived.Test.YthmimipoooemjaaGreatDoorB3
import Derived.Test.YthmimipoooemjaaGreatDoorB15
import Derived.Test.YthmimipoooemjaaGreatDoorB5
import Derived.ProofKit
import Derived.OpenShut
import Derived.Deep.Slices
import Derived.Deep.Strs
import Derived.Lib.SmallJoins
import Derived.WideKeyArr2
import Derived.Test.YthmimipoooemjaaGreatDoorB11
import Derived.Test.YthmimipoooemjaaGreatDoorCards
import Derived.Test.YthmimipoooemjaaGreatDoorTie
import Derived.Deep.DeepHandedRow
import Derived.Lib.LaidTab
import Derived.MakeChecks
import Derived.Lib.TrailingZeros
import Derived.Test.YthmimipoooemjaaGreatDoorChecked
import Derived.WalkKit
section
/-
  An index: Find.
-/
namespace Go.Proofs.YthmimipoooemjaaGreatDoor.Ix
open Go.RowKit Go.Shelf
open Sim (hid Kp No PS Done Blk nm ByP)

set_option maxHeartbeats 2000000 in
set_option maxRecDepth 100000 in
theorem find_any {Q : Nat → Prop} (w : World) (x s b : Nat) (v : Value) (d : List Sg.Ent) (h : List Int) (hX : IxAt w x s b v) (hv : Sg.EV Q w v d) (hl : d.length ≤ 1000000) (hh : h.length = 32) (hb : ∀ x ∈ h, 0 ≤ x ∧ x ≤ 255) :
    Calls Tryz.prog 43 #[.pointer (some ⟨x, 0, none⟩), .agg (Sg.b8 h).toArray] w fun e w' => Sg.FAns d h e ∧ Kp No w w' := by
  have HFD := hid (fun V (hV : Sg.EV Q V v d) => Sg.find_any V v d Q h hV hl hh hb)
  have HIH : Hid ((Tryz.prog.info? 53).map (·.size) = some (Sg.b8 h).length) := by rw [Hid, Sg.b8_length, hh]; exact Sg.infH
  have HIW := hid (show (Tryz.prog.info? 51).map (·.size) = some 3 by kernel_rfl)
  obtain ⟨bh, hbh⟩ : ∃ y, Sg.b8 h = y := ⟨_, rfl⟩
  rw [hbh] at HIH HFD ⊢
  clear hbh hh hb
  have hxl := hX.lt
  obtain ⟨W0, hW0⟩ : ∃ W0, (w.alloc (.cells bh.toArray 53)).alloc (.cells #[.int .i64 0, .int .i64 0, .int .i64 0] 51) = W0 := ⟨_, rfl⟩
  have hK0 : Kp No w W0 := by rw [← hW0]; exact ((Kp.refl No w).alloc _).alloc _
  have hz0 : W0.heap.size = w.heap.size + 2 := by rw [← hW0]; simp
  have HBX : Hid (∀ V, Kp (fun y => y = w.heap.size + 1) W0 V → V.rangeAt w.heap.size 0 bh) := fun V hV j u hu => (hV.cell (p := ⟨w.heap.size, _, none⟩) (by simp; omega) (by simp)).trans (by
    rw [← hW0, World.cell?_alloc_lt _ _ _ (by simp), World.cell?_alloc_at _ _ _ _ rfl]
    simpa using hu)
  have HTH : Hid (∀ V, Kp No W0 V → V.there (w.heap.size + 1) 0 3) := fun V hV j hj => by
    have e : (w.alloc (.cells bh.toArray 53)).heap.size = w.heap.size + 1 := by simp
    have h2 : W0.there (w.heap.size + 1) 0 3 := by rw [← hW0, ← e]; exact Sg.thereE _ _ _ _ (by simp)
    rw [hV.cell (p := ⟨w.heap.size + 1, _, none⟩) (by simp; omega) (fun x => x), hV.frozen (p := ⟨w.heap.size + 1, _, none⟩) (by simp; omega) (fun x => x)]
    exact h2 j hj
  have HE0 := hid (hv.kept hK0)
  have hX0 := hX.kp hK0 (fun h => h)
  obtain ⟨av, cv, rfl, _⟩ := id hv
  have HN := hid (none_any W0 x s b _ hX0)
  have HL : Hid (∀ V, Kp (fun y => y = w.heap.size + 1) W0 V → V.cell? ⟨x, 2, none⟩ = some (.slice av d.length cv)) := fun V hV => (hV.cell (p := ⟨x, 2, none⟩) (by simp; omega) (by simp; omega)).trans (hX0.cell 2)
  have HO3 : Hid (∀ p q r : Int, (#[.int .i64 p, .int .i64 q, .int .i64 r] : Array Value).all (·.oneCell') = true) := fun p q r => by simp [Value.oneCell']
  have HK0 := hid hK0
  obtain ⟨n, hn⟩ : ∃ n, d.length = n := ⟨_, rfl⟩
  rw [hn] at HL HE0 HFD
  clear hX hv hX0 hK0 hn
  go_enter Tryz.func43, Tryz.ntmps43
  go_wp2_with fail
  refine HN.out.mono ?_
  rintro e w1 ⟨rfl, hw1⟩
  subst w1
  clear hW0 HN
  go_wp2_with fail
  refine wp_region_held_drew (S := fun V => Kp (fun y => y = w.heap.size + 1) W0 V) (by kernel_rfl) ((Kp.refl _ _).drew) (fun hHeld => ?_)
  refine wpAnyH_take (i := 0) (oi := { dst := some 9, op := Op.move (Operand.tmp 0), type := 88, pos := "index.go:58", after := #[], guard := none }) (v := .pointer (some ⟨x, 0, none⟩)) rfl (by kernel_rfl) (by kernel_rfl) (by kernel_rfl) (fun _ _ _ h => h) (Or.inl ⟨by rfl, fun w' hw' => by (clear hw'; go_simp)⟩) hHeld ?_
  simp only [Act.put, List.setIfInBounds_toArray, List.set_cons_zero, List.set_cons_succ]
  refine wpAnyH_take (i := 1) (oi := { dst := some 10, op := Op.nilCheck (Operand.tmp 9), type := 0, pos := "index.go:58", after := #[{ on := 0, ground := Ground.data }], guard := none }) (v := .pointer (some ⟨x, 0, none⟩)) rfl (by kernel_rfl) (by kernel_rfl) (by kernel_rfl) (fun _ _ _ h => h) (Or.inl ⟨by rfl, fun w' hw' => by (clear hw'; go_simp)⟩) hHeld ?_
  simp only [Act.put, List.setIfInBounds_toArray, List.set_cons_zero, List.set_cons_succ]
  refine wpAnyH_take (i := 2) (oi := { dst := some 11, op := Op.fieldAddr 169 (Operand.tmp 10) 2, type := 0, pos := "index.go:58", after := #[{ on := 1, ground := Ground.data }], guard := none }) (v := .pointer (some ⟨x, 2, none⟩)) rfl (by kernel_rfl) (by kernel_rfl) (by kernel_rfl) (fun _ _ _ h => h) (Or.inl ⟨by rfl, fun w' hw' => by (clear hw'; go_simp)⟩) hHeld ?_
  simp only [Act.put, List.setIfInBounds_toArray, List.set_cons_zero, List.set_cons_succ]
  refine wpAnyH_take (i := 3) (oi := { dst := some 12, op := Op.load 81 (Operand.tmp 11), type := 81, pos := "index.go:58", after := #[{ on := 2, ground := Ground.data }], guard := none }) (v := .slice av n cv) rfl (by kernel_rfl) (by kernel_rfl) (by kernel_rfl) (fun _ _ _ h => h) (Or.inl ⟨by rfl, fun w' hw' => by (have q0 := HL.out w' hw'; clear hw'; go_simp)⟩) hHeld ?_
  simp only [Act.put, List.setIfInBounds_toArray, List.set_cons_zero, List.set_cons_succ]
  refine wpAnyH_take (i := 4) (oi := { dst := some 13, op := Op.load 53 (Operand.tmp 3), type := 53, pos := "index.go:58", after := #[], guard := none }) (v := .agg bh.toArray) rfl (by kernel_rfl) (by kernel_rfl) (by kernel_rfl) (fun _ _ _ h => h) (yieldsIf_load_mid (by rfl) _ _ rfl w.heap.size 0 rfl bh _ (HBX.out) Tryz.underlying53 rfl HIH.out) hHeld ?_
  simp only [Act.put, List.setIfInBounds_toArray, List.set_cons_zero, List.set_cons_succ]
  refine wpAnyH_ready (rs := [5]) (by kernel_rfl) (by simp) ?_
  refine AllReadyH.cons (o := { dst := some 14, op := Op.call { callee := Callee.value (Operand.func 83), args := #[Operand.tmp 12, Operand.tmp 13], argTypes := #[81, 53] }, type := 94, pos := "index.go:58", after := #[{ on := 3, ground := Ground.data }, { on := 4, ground := Ground.data }], guard := none }) rfl (fun K hK => ?_) AllReadyH.nil
  go_simp
  refine (HFD.out _ (HE0.out.kept ((Kp.refl _ _).drew))).mono ?_
  rintro e w2 ⟨hfa, hk⟩
  obtain ⟨p, bb, rfl, _⟩ := id hfa
  have HFA := hid hfa
  have HK2 : Hid (Kp No W0 w2) := ((Kp.refl _ _).drew).andNone hk
  have HS2 : Hid (Kp (fun y => y = w.heap.size + 1) W0 w2) := HK2.out.ofNo
  clear hfa hk HFD
  go_wp2_with fail
  refine hK.out _ _ (HS2.out) (fun hh => ?_)
  clear hK K hHeld
  have hHeld := hh
  clear hh
  try simp only [Act.put, List.setIfInBounds_toArray, List.set_cons_zero, List.set_cons_succ]
  refine wpAnyH_take (i := 6) (oi := { dst := some 15, op := Op.extract (Operand.tmp 14) 0, type := 51, pos := "index.go:58", after := #[{ on := 5, ground := Ground.data }], guard := none }) (v := .agg #[.int .i64 p.1, .int .i64 p.2.1, .int .i64 p.2.2]) rfl (by kernel_rfl) (by kernel_rfl) (by kernel_rfl) (fun _ _ _ h => h) (Or.inl ⟨by rfl, fun w' hw' => by (clear hw'; go_simp)⟩) hHeld ?_
  simp only [Act.put, List.setIfInBounds_toArray, List.set_cons_zero, List.set_cons_succ]
  refine wpAnyH_take (i := 7) (oi := { dst := some 16, op := Op.extract (Operand.tmp 14) 1, type := 4, pos := "index.go:58", after := #[{ on := 5, ground := Ground.data }], guard := none }) (v := .bool bb) rfl (by kernel_rfl) (by kernel_rfl) (by kernel_rfl) (fun _ _ _ h => h) (Or.inl ⟨by rfl, fun w' hw' => by (clear hw'; go_simp)⟩) hHeld ?_
  simp only [Act.put, List.setIfInBounds_toArray, List.set_cons_zero, List.set_cons_succ]
  refine wpAnyH_ready (rs := [8]) (by kernel_rfl) (by simp) ?_
  refine AllReadyH.cons (o := { dst := none, op := Op.store 51 (Operand.tmp 4) (Operand.tmp 15), type := 0, pos := "index.go:58", after := #[{ on := 6, ground := Ground.data }, { on := 5, ground := Ground.chain }, { on := 0, ground := Ground.phase }, { on := 1, ground := Ground.phase }, { on := 2, ground := Ground.phase }, { on := 3, ground := Ground.phase }, { on := 4, ground := Ground.phase }, { on := 5, ground := Ground.phase }, { on := 6, ground := Ground.phase }, { on := 7, ground := Ground.phase }], guard := none }) rfl (fun K hK => ?_) AllReadyH.nil
  rw [if_pos (by rfl)]
  refine wp_store_mid 51 _ _ (by rfl) (w.heap.size + 1) 0 #[.int .i64 p.1, .int .i64 p.2.1, .int .i64 p.2.2] (by rfl) (by rfl) (HTH.out w2 HK2.out) HIW.out (HO3.out _ _ _) ?_
  have HS3 : Hid (Kp (fun y => y = w.heap.size + 1) W0 (w2.setCells (w.heap.size + 1) 0 [.int .i64 p.1, .int .i64 p.2.1, .int .i64 p.2.2])) := HS2.out.trans (Sg.setCells_kp w2 _ _ _) (fun y hy => .inl hy)
  refine hK.out _ _ (HS3.out) (fun hh => ?_)
  clear hK K hHeld
  have hHeld := hh
  clear hh
  try simp only [Act.put]
  refine wpAnyH_take (i := 9) (oi := { dst := some 5, op := Op.assign (Operand.tmp 16), type := 4, pos := "index.go:58", after := #[{ on := 7, ground := Ground.data }, { on := 8, ground := Ground.chain }, { on := 0, ground := Ground.phase }, { on := 1, ground := Ground.phase }, { on := 2, ground := Ground.phase }, { on := 3, ground := Ground.phase }, { on := 4, ground := Ground.phase }, { on := 5, ground := Ground.phase }, { on := 6, ground := Ground.phase }, { on := 7, ground := Ground.phase }, { on := 8, ground := Ground.phase }], guard := none }) (v := .bool bb) rfl (by kernel_rfl) (by kernel_rfl) (by kernel_rfl) (fun _ _ _ h => h) (Or.inl ⟨by rfl, fun w' hw' => by (clear hw'; go_simp)⟩) hHeld ?_
  simp only [Act.put, List.setIfInBounds_toArray, List.set_cons_zero, List.set_cons_succ]
  refine wpAnyH_done (by kernel_rfl) ?_ _
  go_wp2_with fail
  have hr : (w2.setCells (w.heap.size + 1) 0 [.int .i64 p.1, .int .i64 p.2.1, .int .i64 p.2.2]).rangeAt (w.heap.size + 1) 0 [.int .i64 p.1, .int .i64 p.2.1, .int .i64 p.2.2] := World.rangeAt_setCells_same _ _ _ _ (HTH.out w2 HK2.out)
  refine bodyPost_ret (v := .tuple #[.agg #[.int .i64 p.1, .int .i64 p.2.1, .int .i64 p.2.2], .bool bb]) (Sg.results_cell_two Tryz.results43 _ _ (w.heap.size + 1) 0 _ _ rfl hr Tryz.underlying51 rfl HIW.out) rfl ⟨HFA.out, ?_⟩
  exact HK0.out.trans HS3.out (fun y hy => .inr (by omega))

end Go.Proofs.YthmimipoooemjaaGreatDoor.Ix
end

section
/-
  A save where nothing is in its way has no fault.
-/
namespace Go.Proofs.YthmimipoooemjaaGreatDoor.Ix
open Sim

theorem sum_dins (f : Nm × Nat → Nat) (x : Nm × Nat) (l : Dir) : ((dins x l).map f).sum = f x + (l.map f).sum := by
  have h := ((perm_dins x l).map f).sum_nat
  simpa using h

theorem dfind_dins_self (n : Nm) (b : Nat) : ∀ l : Dir, (∀ p ∈ l, p.1 ≠ n) → dfind (dins (n, b) l) n = some b
  | [], _ => by simp [dins, dfind]
  | y :: r, h => by
    unfold dins
    split
    · simp [dfind]
    · have hy : (y.1 == n) = false := by simpa using h y (by simp)
      have ih := dfind_dins_self n b r (fun p hp => h p (by simp [hp]))
      rw [dfind] at ih ⊢
      rw [List.find?_cons, hy]
      exact ih

theorem dfind_dput_self (l : Dir) (n : Nm) (b : Nat) : dfind (dput l n b) n = some b :=
  dfind_dins_self n b _ (fun _ hp => (mem_ddel.1 hp).2)

/-- Nothing is in the way of a step, and no temporary list is there. -/
structure Calm (p : PS) : Prop where
  down : p.down = false
  armed : p.armed = false
  temp : dfind p.seen nT = none

theorem Calm.dead {p : PS} (h : p.armed = false) : dead p = false := by simp [Sim.dead, h]
theorem wrongs_zero {p : PS} {l : List Nm} (h : p.down = false) (hl : l.all nameB = true) : wrongs p l = 0 := by simp [wrongs, h, hl]
theorem finds_of {p : PS} {n : Nm} (h : p.down = false) (hn : nameB n = true) : finds p n = if (dfind p.seen n).isSome then 0 else 5 := by
  rw [finds, wrongs_zero h (by simp [hn])]
  simp

theorem ddel_none {l : Dir} {n : Nm} (h : dfind l n = none) : ddel l n = l := by
  refine List.filter_eq_self.2 (fun p hp => ?_)
  have := dfind_none h p hp
  simpa using this

/-- The states of a save that goes well: a file at x, made, written, made safe, moved. -/
structure Went (bs : List Nat) (p : PS) (x : Nat) (j : Nat) (q : PS) : Prop where
  down : q.down = false
  armed : q.armed = false
  room : q.room = p.room
  files : ∀ y, y ≠ x → fileAt q y = fileAt p y
  file : j = 2 → fileAt q x = ⟨[], 0⟩
  fileb : 3 ≤ j → (fileAt q x).b = bs
  seen : 2 ≤ j → j ≤ 4 → q.seen = dput p.seen nT x
  seen5 : 5 ≤ j → q.seen = dput (ddel (dput p.seen nT x) nT) nI x
  fsafe : 4 ≤ j → q.files x = some ⟨bs, bs.length⟩
  chg6 : j = 6 → q.chg = []

theorem fileAt_setF_other {b y : Nat} {f : Fl} {p : PS} (h : y ≠ b) : fileAt (setF b f p) y = fileAt p y := by simp [fileAt, setF, h]
theorem fileAt_setF_same {b : Nat} {f : Fl} {p : PS} : fileAt (setF b f p) b = f := by simp [fileAt, setF]

theorem step0_ok {bs : List Nat} {p q : PS} {f : Nat} (h : Calm p) (hs : Stp bs 0 p (f, q)) : f = 0 ∧ q = p := by
  have hf : finds p nT = 5 := by rw [finds_of h.down nT_ok, h.temp]; rfl
  have hr : pRemove nT p = (5, p) := by rw [pRemove, if_pos (by rw [hf]; omega), hf]
  rw [Stp, pRm, hr] at hs
  simp at hs
  exact hs

theorem step1_ok {bs : List Nat} {p q : PS} {f : Nat} (h : Calm p) (hs : Stp bs 1 p (f, q)) : f = 0 ∧ ∃ x, p.files x = none ∧ Went bs p x 2 q := by
  obtain ⟨x, hx, he⟩ := hs
  rw [pCreate, if_neg (by rw [wrongs_zero h.down (by simp [nT_ok])]; simp), h.temp, if_neg (by simp), stp, if_neg (by rw [Calm.dead h.armed]; simp)] at he
  simp only [Prod.mk.injEq] at he
  obtain ⟨rfl, rfl⟩ := he
  refine ⟨rfl, x, hx, ⟨h.down, h.armed, rfl, fun y hy => ?_, fun _ => ?_, by omega, fun _ _ => ?_, by omega, by omega, by omega⟩⟩
  · show fileAt (setF x ⟨[], 0⟩ (tick p)) y = _
    rw [fileAt_setF_other hy]
    rfl
  · show fileAt (setF x ⟨[], 0⟩ (tick p)) x = _
    exact fileAt_setF_same
  · rfl

theorem used_went {bs : List Nat} {p q : PS} {x : Nat} (h : Calm p) (hx : p.files x = none) (w : Went bs p x 2 q) : used q = used p := by
  have e : ∀ y, fileAt q y = fileAt p y := fun y => by
    by_cases hy : y = x
    · subst hy
      rw [w.file rfl, fileAt, hx]
      rfl
    · exact w.files y hy
  have e2 : fileAt p x = ⟨[], 0⟩ := by rw [fileAt, hx]; rfl
  rw [used, used, w.seen (by omega) (by omega), dput, ddel_none h.temp, sum_dins]
  simp only [e, e2]
  simp

theorem finds_temp {bs : List Nat} {p q : PS} {x j : Nat} (w : Went bs p x j q) (h2 : 2 ≤ j) (h4 : j ≤ 4) : finds q nT = 0 ∧ blockOf q nT = x := by
  have e : dfind q.seen nT = some x := by rw [w.seen h2 h4]; exact dfind_dput_self _ _ _
  exact ⟨by rw [finds_of w.down nT_ok, e]; rfl, by rw [blockOf, e]; rfl⟩

theorem step2_ok {bs : List Nat} {p q r : PS} {x f : Nat} (h : Calm p) (hx : p.files x = none) (w : Went bs p x 2 q) (hr : used p + bs.length ≤ p.room) (hs : Stp bs 2 q (f, r)) : f = 0 ∧ Went bs p x 3 r := by
  obtain ⟨h1, h2⟩ := finds_temp w (by omega) (by omega)
  rw [Stp, pAppend, if_neg (by rw [h1]; simp), if_neg (by rw [used_went h hx w, w.room]; omega), stp, if_neg (by rw [Calm.dead w.armed]; simp), h2, w.file rfl] at hs
  simp only [Prod.mk.injEq] at hs
  obtain ⟨rfl, rfl⟩ := hs
  refine ⟨rfl, ⟨w.down, w.armed, w.room, fun y hy => ?_, by omega, fun _ => ?_, fun _ _ => w.seen (by omega) (by omega), by omega, by omega, by omega⟩⟩
  · rw [fileAt_setF_other hy]
    exact w.files y hy
  · rw [fileAt_setF_same]
    rfl

theorem step3_ok {bs : List Nat} {p q r : PS} {x f : Nat} (w : Went bs p x 3 q) (hs : Stp bs 3 q (f, r)) : f = 0 ∧ Went bs p x 4 r := by
  obtain ⟨h1, h2⟩ := finds_temp w (by omega) (by omega)
  rw [Stp, pFsync, if_neg (by rw [h1]; simp), stp, if_neg (by rw [Calm.dead w.armed]; simp), h2, w.fileb (by omega)] at hs
  simp only [Prod.mk.injEq] at hs
  obtain ⟨rfl, rfl⟩ := hs
  refine ⟨rfl, ⟨w.down, w.armed, w.room, fun y hy => ?_, by omega, fun _ => ?_, fun _ _ => w.seen (by omega) (by omega), by omega, fun _ => ?_, by omega⟩⟩
  · rw [fileAt_setF_other hy]
    exact w.files y hy
  · rw [fileAt_setF_same]
  · simp [setF]

theorem step4_ok {bs : List Nat} {p q r : PS} {x f : Nat} (w : Went bs p x 4 q) (hs : Stp bs 4 q (f, r)) : f = 0 ∧ Went bs p x 5 r := by
  have e : dfind q.seen nT = some x := by rw [w.seen (by omega) (by omega)]; exact dfind_dput_self _ _ _
  rw [Stp, pRename, if_neg (by rw [wrongs_zero w.down (by simp [nT_ok, nI_ok])]; simp), e, if_pos (by simp), stp, if_neg (by rw [Calm.dead w.armed]; simp)] at hs
  simp only [Prod.mk.injEq] at hs
  obtain ⟨rfl, rfl⟩ := hs
  refine ⟨rfl, ⟨w.down, w.armed, w.room, fun y hy => w.files y hy, by omega, fun _ => w.fileb (by omega), by omega, fun _ => ?_, fun _ => w.fsafe (by omega), by omega⟩⟩
  show pdo q.seen ⟨2, nT, nI, 0⟩ = _
  have e2 : (dfind q.seen nT).getD 0 = x := by rw [e]; rfl
  rw [pdo, if_neg (by simp), if_neg (by simp), e2, w.seen (by omega) (by omega)]

theorem step5_ok {bs : List Nat} {p q r : PS} {x f : Nat} (w : Went bs p x 5 q) (hs : Stp bs 5 q (f, r)) : f = 0 ∧ Went bs p x 6 r := by
  have hs' : (f, r) = pSyncDir q := hs
  rw [pSyncDir, if_neg (by rw [wrongs_zero w.down (by simp)]; simp), stp, if_neg (by rw [Calm.dead w.armed]; simp)] at hs'
  simp only [Prod.mk.injEq] at hs'
  obtain ⟨rfl, rfl⟩ := hs'
  exact ⟨rfl, ⟨w.down, w.armed, w.room, fun y hy => w.files y hy, by omega, fun _ => w.fileb (by omega), by omega, fun _ => w.seen5 (by omega), fun _ => w.fsafe (by omega), fun _ => rfl⟩⟩

/-- A save with nothing in its way. -/
theorem save_ok {bs : List Nat} {p : PS} {r : Nat × PS} (h : Calm p) (hr : used p + bs.length ≤ p.room) (hs : Saved bs p r) : r.1 = 0 ∧ ∃ x, p.files x = none ∧ Went bs p x 6 r.2 := by
  have R1 : ∀ {q}, Reach bs p 1 q → q = p := fun {q} ⟨q', h1, h2⟩ => by
    have h1' : q' = p := h1
    subst h1'
    exact (step0_ok h h2).2
  have R2 : ∀ {q}, Reach bs p 2 q → ∃ x, p.files x = none ∧ Went bs p x 2 q := fun {q} ⟨q', h1, h2⟩ => by
    have h1' := R1 h1
    subst h1'
    exact (step1_ok h h2).2
  have R3 : ∀ {q}, Reach bs p 3 q → ∃ x, p.files x = none ∧ Went bs p x 3 q := fun {q} ⟨q', h1, h2⟩ => by
    obtain ⟨x, hx, w⟩ := R2 h1
    exact ⟨x, hx, (step2_ok h hx w hr h2).2⟩
  have R4 : ∀ {q}, Reach bs p 4 q → ∃ x, p.files x = none ∧ Went bs p x 4 q := fun {q} ⟨q', h1, h2⟩ => by
    obtain ⟨x, hx, w⟩ := R3 h1
    exact ⟨x, hx, (step3_ok w h2).2⟩
  have R5 : ∀ {q}, Reach bs p 5 q → ∃ x, p.files x = none ∧ Went bs p x 5 q := fun {q} ⟨q', h1, h2⟩ => by
    obtain ⟨x, hx, w⟩ := R4 h1
    exact ⟨x, hx, (step4_ok w h2).2⟩
  rcases hs with ⟨h0, q', h1, h2⟩ | ⟨h0, j, hj, q', h1, h2⟩
  · obtain ⟨x, hx, w⟩ := R5 h1
    exact ⟨h0, x, hx, (step5_ok w h2).2⟩
  · exfalso
    apply h0
    obtain ⟨f, q⟩ := r
    have hj' : j = 0 ∨ j = 1 ∨ j = 2 ∨ j = 3 ∨ j = 4 ∨ j = 5 := by omega
    rcases hj' with rfl | rfl | rfl | rfl | rfl | rfl
    · have h1' : q' = p := h1
      subst h1'
      exact (step0_ok h h2).1
    · have h1' := R1 h1
      subst h1'
      exact (step1_ok h h2).1
    · obtain ⟨x, hx, w⟩ := R2 h1
      exact (step2_ok h hx w hr h2).1
    · obtain ⟨x, hx, w⟩ := R3 h1
      exact (step3_ok w h2).1
    · obtain ⟨x, hx, w⟩ := R4 h1
      exact (step4_ok w h2).1
    · obtain ⟨x, hx, w⟩ := R5 h1
      exact (step5_ok w h2).1

end Go.Proofs.YthmimipoooemjaaGreatDoor.Ix
end

section
/-
  alive of the eleventh law.
-/
namespace Go.Proofs.YthmimipoooemjaaGreatDoor.Ix
open Go.RowKit Go.Shelf
open Stb (Stab Srt)
open Sim (hid Kp No PS Done Blk nm ByP finds pBytes pList)

def e9 : Sg.Ent := (Sg.h1, 1, 0, 9)
theorem e9_ok : Sg.EOk e9 := ⟨rfl, by decide⟩
theorem right9 : Sg.RightP [e9] := ⟨by simp, fun i e hi he => by
  have hi0 : i = 0 := by simp at hi; omega
  subst hi0
  simp at he
  subst he
  exact ⟨rfl, fun j x hj => by omega⟩⟩
theorem find9 {e : Ending} (h : Sg.FAns [e9] Sg.h1 e) : e = .returned (.tuple #[.agg #[.int .i64 1, .int .i64 0, .int .i64 9], .bool true]) := by
  obtain ⟨p, b, rfl, h2, h3, _⟩ := h
  have hb : b = true := h2.2 ⟨right9, e9, by simp, rfl⟩
  subst hb
  have := h3 rfl
  simp [e9] at this
  subst this
  rfl
theorem ev9 (w : World) (A : Array Value) (hA : A = (Sg.entC e9).toArray) : Sg.EV (fun g => g = w.heap.size) (w.alloc (.cells A 155)) (.slice (some ⟨w.heap.size, 0, none⟩) 1 1) [e9] := by
  subst hA
  refine ⟨_, 1, rfl, Nat.le_refl _, by decide, by simp, fun e he => ?_, fun _ => ⟨w.heap.size, 0, rfl, rfl, by simp, fun i e hi => ?_⟩⟩
  · simp at he
    subst he
    exact e9_ok
  · have hi0 : i = 0 := by
      have := (List.getElem?_eq_some_iff.1 hi).1
      simp at this
      omega
    subst hi0
    simp at hi
    subst hi
    refine ⟨e9_ok, fun j v hv => ?_⟩
    rw [World.cell?_alloc_at _ _ _ _ rfl]
    simpa using hv
theorem stab9 {X : List Sg.Ent} (h : Stab Sg.ky ([] ++ [e9]) X) : Sg.cmpct X = [e9] := by
  have hl := h.length
  match X, hl with
  | [y], _ =>
    have : y ∈ ([] ++ [e9] : List Sg.Ent) := (h.mem y).1 (by simp)
    simp at this
    subst this
    rfl
theorem seal9_len : (nats (Sg.sealE [e9])).length ≤ 100 := by
  have h : (nats (Sg.sealE [e9])).length = (Sg.formE [e9]).length + 4 := by
    rw [Sg.sealE, nats_length, sealI_length]
  have h2 : (Sg.formE [e9]).length ≤ 96 := by decide
  omega

theorem start_calm : Calm (Sim.startPS 1000) := ⟨rfl, rfl, rfl⟩
theorem start_used (r : Nat) : Sim.used (Sim.startPS r) = 0 := rfl
theorem start_list (r : Nat) : pList (Sim.startPS r) = [] := rfl
theorem seen_one {bs : List Nat} {q : PS} {x r : Nat} (w : Went bs (Sim.startPS r) x 6 q) : q.seen = [(nI, x)] := by
  rw [w.seen5 (by omega)]
  show Sim.dput (Sim.ddel (Sim.dput [] nT x) nT) nI x = _
  simp [Sim.dput, Sim.ddel, Sim.dins]
theorem went_calm {bs : List Nat} {q : PS} {x r : Nat} (w : Went bs (Sim.startPS r) x 6 q) : Calm q := ⟨w.down, w.armed, by rw [seen_one w]; rfl⟩
theorem went_used {bs : List Nat} {q : PS} {x r : Nat} (w : Went bs (Sim.startPS r) x 6 q) : Sim.used q = bs.length ∧ q.room = r := by
  refine ⟨?_, w.room⟩
  rw [Sim.used, seen_one w]
  simp [w.fileb (by omega)]

set_option maxHeartbeats 4000000 in
set_option maxRecDepth 100000 in
theorem alive_any (w : World) : Calls Tryz.prog 31 #[] w fun e w' => e = .returned (.bool true) ∧ Kp No w w' := by
  go_enter Tryz.func31, Tryz.ntmps31
  go_wp2_with fail
  refine (Sim.new_yes 1000 (by omega) w).mono ?_
  rintro e w1 ⟨rfl, hS1, hK1⟩
  have HS1 := hid hS1
  have HK1 := hid hK1
  have hl1 : w.heap.size < w1.heap.size := hS1.lt _ rfl
  clear hS1 hK1
  go_wp2_with fail
  refine (Crc.new_any w1).mono ?_
  rintro e w2 ⟨rfl, hb2, hs2, ht2⟩
  have HS2 : Hid (Sim.Sys (· = w.heap.size) 0 w2 w.heap.size (Sim.startPS 1000)) := HS1.out.kept (Kp.below hb2)
  have HT2 : Hid (TabX w2 w1.heap.size) := ⟨0, 0, .inl rfl, ht2⟩
  have HK2 : Hid (Kp No w w2) := HK1.out.andNone (Kp.below hb2)
  have hl2 : w1.heap.size < w2.heap.size := by omega
  clear hb2 hs2 ht2 HS1 HK1
  go_wp2_with fail
  refine (Sh.open_any w2 w.heap.size w1.heap.size (Sim.startPS 1000) HS2.out (by simp [start_list]) (by simp [start_list])).mono ?_
  rintro e w3 ho
  have ho' : ∃ g P', e = .returned (.tuple #[.pointer (some ⟨g, 0, none⟩), .int .i64 0]) ∧ Sh.ShAt w3 g w.heap.size w1.heap.size 0 ∧ Sim.Sys P' 1 w3 w.heap.size (Sim.startPS 1000) ∧ Kp (· = w.heap.size) w2 w3 ∧ (∀ y, P' y → y = w.heap.size ∨ w2.heap.size ≤ y) := by
    rcases ho with ⟨h, _⟩ | ⟨_, g, P', h1, h2, h3, h4, h5, _⟩
    · exact absurd rfl h
    · exact ⟨g, P', h1, h2, h3, h4, h5⟩
  clear ho
  obtain ⟨g, P', rfl, hH, hS3, hK3, hP3⟩ := ho'
  have hnb : ¬ P' w1.heap.size := fun e => by rcases hP3 _ e with e | e <;> omega
  have hT3 : TabX w3 w1.heap.size := HT2.out.kp hK3 (fun e => by have e' : w1.heap.size = w.heap.size := e; omega)
  have HK3 : Hid (Kp No w w3) := HK2.out.trans hK3 (fun y hy => .inr (by omega))
  have HO := hid (open0 w3 w.heap.size w1.heap.size g 0 (Sim.startPS 1000) hS3 (by omega) hT3 hnb hH (Sim.start_finds nI_ok) (start_list _))
  have hl3 := hK3.size
  have HP3 := hid hP3
  clear hH hS3 hK3 hP3 hnb hT3 HS2 HT2 HK2
  go_wp2_with fail
  refine HO.out.mono ?_
  rintro e w4 ⟨r, hsv, hT4, hrest⟩
  obtain ⟨hr0, x0, hx0, hwent⟩ := save_ok start_calm (by rw [start_used, seal0_len]; decide) hsv
  have hrest' : ∃ x v, e = .returned (.tuple #[.pointer (some ⟨x, 0, none⟩), .bool true, .int .i64 0]) ∧ w3.heap.size ≤ x ∧ IxAt w4 x w.heap.size w1.heap.size v ∧ Sg.EV (fun g => w3.heap.size ≤ g) w4 v [] ∧
      ∃ P4, Sim.Sys P4 7 w4 w.heap.size r.2 ∧ Kp (fun y => P' y ∨ y = w1.heap.size) w3 w4 ∧ (∀ y, P4 y → P' y ∨ w3.heap.size ≤ y) ∧ ¬ P4 x ∧ ¬ P4 w1.heap.size := by
    rcases hrest with ⟨h, _⟩ | ⟨_, h⟩
    · exact absurd hr0 h
    · exact h
  clear hrest hsv
  obtain ⟨x, v, rfl, hx, hX4, hv4, P4, hS4, hK4, hP4, hx4, hb4⟩ := hrest'
  have hc4 := went_calm hwent
  have hu4 := went_used hwent
  have hxl := hX4.lt
  have HK4 : Hid (Kp No w w4) := HK3.out.trans hK4 (fun y hy => .inr (by
    rcases hy with e | e
    · rcases HP3.out y e with e | e <;> omega
    · omega))
  have HG4 := hid (And.intro hT4 (And.intro hX4 (And.intro hv4 (And.intro hS4 (And.intro hx4 hb4)))))
  have HC4 := hid (And.intro hc4 hu4)
  have hxb : x ≠ w1.heap.size := by omega
  have HPP : Hid (∀ y, P4 y → w.heap.size ≤ y) := fun y hy => by
    rcases hP4 y hy with e | e
    · rcases HP3.out y e with e | e <;> omega
    · omega
  have hxw : w.heap.size ≤ x := by omega
  clear hT4 hX4 hv4 hS4 hK4 hP4 hx4 hb4 hc4 hu4 hwent hx0 HO HK3 HP3 hr0
  go_wp2_with fail
  have HKA : Hid (Kp No w4 (w4.alloc (.cells (Sg.entC e9).toArray 155))) := (Kp.refl _ _).alloc _
  have hsA : (w4.alloc (.cells (Sg.entC e9).toArray 155)).heap.size = w4.heap.size + 1 := by simp
  have hlt4 := HG4.out.2.2.2.1.lt
  refine (add_any (w4.alloc (.cells (Sg.entC e9).toArray 155)) w.heap.size w1.heap.size x r.2 _ v [e9] [] (HG4.out.2.2.2.1.kept HKA.out) (by omega) (HG4.out.1.kp HKA.out (fun h => h)) HG4.out.2.2.2.2.2 (HG4.out.2.1.kp HKA.out (fun h => h)) HG4.out.2.2.2.2.1 hxb (HG4.out.2.2.1.kept HKA.out) (ev9 w4 _ rfl) (by simp) (fun X hs _ => by
    rw [stab9 hs]
    exact ⟨right9, by have := seal9_len; omega, nats_lt (by simp [e9_ok]) (by simp)⟩)).mono ?_
  rintro e w6 ⟨X, r6, w5, hs, _, hk5, hv5, r', hsv, rfl, hX6, _, P6, _, hK6, _⟩
  rw [stab9 hs] at hv5 hsv
  have hr0 : r'.1 = 0 := (save_ok HC4.out.1 (by rw [HC4.out.2.1, HC4.out.2.2, seal0_len]; have := seal9_len; omega) hsv).1
  rw [if_pos hr0] at hX6
  rw [hr0]
  obtain ⟨a6, c6, h6, _⟩ := id hv5
  have h6' : r6 = .slice a6 1 c6 := h6
  clear h6
  subst h6'
  have hv6 : Sg.EV (fun g => w4.heap.size < g) w6 (.slice a6 1 c6) [e9] := (hv5.mono (fun g hg => by omega)).kp hK6 (fun g hg hL => by
    rcases hL with e | e | e
    · have := hlt4 _ e; omega
    · omega
    · omega)
  have HK6 : Hid (Kp No w w6) := ((HK4.out.alloc _).andNone hk5).trans hK6 (fun y hy => .inr (by
    rcases hy with e | e | e
    · exact HPP.out y e
    · omega
    · omega))
  have HG6 := hid (And.intro hX6 hv6)
  clear hX6 hv6 hv5 hk5 hK6 hsv hs hr0 HG4 HC4 HKA HPP hlt4 hsA HK4
  go_wp2_with fail
  refine (find_any w6 x w.heap.size w1.heap.size _ [e9] Sg.h1 HG6.out.1 HG6.out.2 (by simp) rfl (by decide)).mono ?_
  rintro e w7 ⟨hfa, hk7⟩
  have hfe := find9 hfa
  subst hfe
  have HX7 : Hid (IxAt w7 x w.heap.size w1.heap.size (.slice a6 1 c6)) := HG6.out.1.kp hk7 (fun h => h)
  have HK7 := hid (HK6.out.andNone hk7)
  clear hfa hk7 HG6 HK6
  go_wp2_with fail
  refine (len_any _ x w.heap.size w1.heap.size 1 c6 a6 (HX7.out.kp (L := No) ((Kp.refl No w7).alloc _) (fun h => h))).mono ?_
  rintro e w8 ⟨rfl, hw8⟩
  rw [hw8]
  clear hw8
  go_wp2_with fail
  go_ret
  exact ⟨rfl, HK7.out.alloc _⟩

end Go.Proofs.YthmimipoooemjaaGreatDoor.Ix
end

section
/-
  IndexNils, walked.
-/
namespace Go.Proofs.YthmimipoooemjaaGreatDoor.Ix
open Go.RowKit Go.Shelf
open Sim (hid Kp No PS Done Blk nm)

set_option maxHeartbeats 4000000 in
set_option maxRecDepth 100000 in
theorem nils_main (w : World) (bh : List Value) (hl : bh.length = 32) :
    Calls Tryz.prog 8 #[.agg bh.toArray] w fun e w' => e = .returned (.bool true) ∧ Kp No w w' := by
  have HIH : Hid ((Tryz.prog.info? 53).map (·.size) = some bh.length) := by rw [Hid, hl]; exact Sg.infH
  obtain ⟨W0, hW0⟩ : ∃ W0, w.alloc (.cells bh.toArray 53) = W0 := ⟨_, rfl⟩
  have HK0 : Hid (Kp No w W0) := by rw [← hW0]; exact (Kp.refl No w).alloc _
  have hz0 : w.heap.size < W0.heap.size := by rw [← hW0]; simp
  have HBX : Hid (∀ V, Kp No W0 V → V.rangeAt w.heap.size 0 bh) := fun V hV j u hu => (hV.cell (p := ⟨w.heap.size, _, none⟩) (by simp; omega) (fun h => h)).trans (by
    rw [← hW0, World.cell?_alloc_at _ _ _ _ rfl]
    simpa using hu)
  go_enter Tryz.func8, Tryz.ntmps8
  go_wp2_with fail
  clear hW0
  refine (Sim.new_yes 100 (by omega) W0).mono ?_
  rintro e w1 ⟨rfl, _, hK1⟩
  have HK1 := hid hK1
  clear hK1
  go_wp2_with fail
  refine (Crc.new_any w1).mono ?_
  rintro e w2 ⟨rfl, hb2, _, _⟩
  have HK2 : Hid (Kp No W0 w2) := HK1.out.andNone (Kp.below hb2)
  clear hb2 HK1
  go_wp2_with fail
  refine (open_nil w2 _ _).mono ?_
  rintro e w3 ⟨rfl, h3⟩
  subst w3
  go_wp2_with fail
  refine (open_nilH w2 _ _).mono ?_
  rintro e w3 ⟨rfl, h3⟩
  subst w3
  go_wp2_with fail
  refine (load_nil w2 _).mono ?_
  rintro e w3 ⟨rfl, h3⟩
  subst w3
  go_wp2_with fail
  refine (load_nilT w2 _).mono ?_
  rintro e w3 ⟨rfl, h3⟩
  subst w3
  go_wp2_with (refine wpList_load_mid (by rfl) 53 _ (by rfl) w.heap.size 0 (by rfl) bh _ (HBX.out w2 HK2.out) Tryz.underlying53 rfl HIH.out ?_)
  refine (find_nil w2 bh).mono ?_
  rintro e w3 ⟨rfl, hk3⟩
  have HK3 := hid ((HK2.out.andNone hk3).alloc (.cells #[.int .i64 0, .int .i64 0, .int .i64 0] 51))
  clear hk3 HK2 HBX
  go_wp2_with fail
  refine (rebuild0 _ none (fun V _ => (Sh.ids_nil V).mono (by rintro e w' ⟨rfl, h⟩; exact ⟨rfl, by rw [h]; exact Kp.refl _ _⟩))).mono ?_
  rintro e w4 ⟨v, rfl, hv, hk4⟩
  obtain ⟨av, cv, hv', _⟩ := hv
  have hv'' : v = .slice av 0 cv := hv'
  clear hv'
  subst hv''
  have HK4 := hid (HK3.out.andNone hk4)
  clear hk4 HK3
  go_wp2_with fail
  refine (save_nil w4 _ _).mono ?_
  rintro e w5 ⟨rfl, h5⟩
  subst w5
  go_wp2_with fail
  refine (save_nilT w4 _ _ _ _).mono ?_
  rintro e w5 ⟨rfl, h5⟩
  subst w5
  go_wp2_with fail
  refine (len_nil w4).mono ?_
  rintro e w5 ⟨rfl, h5⟩
  subst w5
  go_wp2_with fail
  refine (all_nil w4).mono ?_
  rintro e w5 ⟨rfl, h5⟩
  subst w5
  go_wp2_with fail
  refine (add_nil w4 _).mono ?_
  rintro e w5 ⟨rfl, h5⟩
  subst w5
  go_wp2_with fail
  refine (set_nil w4 _).mono ?_
  rintro e w5 ⟨rfl, h5⟩
  subst w5
  go_wp2_with fail
  refine (alive_any w4).mono ?_
  rintro e w5 ⟨rfl, hk5⟩
  have HK5 := hid ((HK0.out.andNone HK4.out).andNone hk5)
  clear hk5
  go_wp2_with fail
  go_ret
  exact ⟨rfl, HK5.out⟩

end Go.Proofs.YthmimipoooemjaaGreatDoor.Ix
end

section
/-
  Records that came in, opened.
-/
namespace Go.Proofs.YthmimipoooemjaaGreatDoor
open Go.RowKit Go.ChangeShapes Go.WideShapes

theorem mapM_each {α β : Type} {f : α → Option β} : ∀ (L : List α) (ys : List β), L.mapM f = some ys → ∀ i ∈ L, ∃ y, f i = some y
  | [], _, _, i, hi => by simp at hi
  | a :: L, ys, h, i, hi => by
    rw [List.mapM_cons] at h
    simp only [bind, Option.bind_eq_some_iff, pure, Option.some.injEq] at h
    obtain ⟨y, hy, zs, hzs, _⟩ := h
    rcases List.mem_cons.1 hi with rfl | hi
    · exact ⟨y, hy⟩
    · exact mapM_each L zs hzs i hi

section
variable {H : Type} {enc : TypeId × Value → H} {P : Program} {W : World} {base : Nat} {sp : Nat → Bool} {held : Bool} {t e : TypeId} {n : Nat} {q : IntKind}
/-- The cells of an array of integers that came in. -/
theorem arr_ints (hu : P.underlying t = some (.array n e)) (he : P.underlying e = some (.int q)) (h1 : P.cellsOf e = 1) {fuel : Nat} {cs : List Value} {x : DataW H × List MemPlace} (hl : cs.length = n)
    (h : DataW.trod enc P W base sp held fuel t cs = some x) : ∃ zs : List Int, cs = zs.map (fun z => Value.int q z) ∧ zs.length = n ∧ ∀ z ∈ zs, (Lit.int q z).wf = true := by
  cases fuel with
  | zero => simp [DataW.trod] at h
  | succ m =>
    rw [DataW.trod_step] at h
    unfold DataW.trodStep at h
    simp only [hu] at h
    split at h
    · simp only [Option.map_eq_some_iff] at h
      obtain ⟨ys, hy, _⟩ := h
      have hE : ∀ i, i < n → ∃ z, cs[i]? = some (.int q z) ∧ (Lit.int q z).wf = true := fun i hi => by
        obtain ⟨y, hy⟩ := mapM_each _ ys hy i (List.mem_range.2 hi)
        obtain ⟨a, ea, _, wa⟩ := DataW.trod_int he hy
        rw [h1, Nat.mul_one] at ea
        refine ⟨a, ?_, wa⟩
        have h := congrArg (fun l : List Value => l[0]?) ea
        simpa [List.getElem?_take, List.getElem?_drop] using h
      refine ⟨cs.map intOf, ?_, by simpa using hl, ?_⟩
      · apply List.ext_getElem?
        intro i
        by_cases hi : i < n
        · obtain ⟨z, hz, _⟩ := hE i hi
          simp [hz, intOf]
        · have : cs[i]? = none := List.getElem?_eq_none (by omega)
          simp [this]
      · intro z hz
        obtain ⟨x, hx, rfl⟩ := List.mem_map.1 hz
        obtain ⟨i, hi, rfl⟩ := List.getElem_of_mem hx
        obtain ⟨z, hz, hw⟩ := hE i (by omega)
        rw [List.getElem?_eq_getElem hi] at hz
        simp only [Option.some.injEq] at hz
        rw [hz]
        exact hw
    · simp at h
end

/-- A slice of bytes, as it came in. -/
def InRow (W : World) (a : Option Addr) (l c : Nat) : Prop :=
  (a = none ∧ l = 0 ∧ c = 0) ∨ ∃ (y : Addr) (zs : List Int), a = some y ∧ l ≤ c ∧ c ≤ maxLen ∧ zs.length = c ∧ (∀ i, i < zs.length → W.cell? (y.add i) = some (.int .u8 (zs.getD i 0))) ∧ ∀ n ∈ zs, (Lit.int .u8 n).wf = true

theorem InRow.le {W : World} {a : Option Addr} {l c : Nat} (h : InRow W a l c) : l ≤ 9223372036854775807 := by
  rcases h with ⟨_, rfl, _⟩ | ⟨_, _, _, h1, h2, _⟩
  · omega
  · unfold maxLen at h2; omega

theorem spot_none {w : World} {x : Addr} {v : Value} (c0 : w.cell? (x.add 0) = some v) : x.spot = none := by
  have e : x.add 0 = x := rfl
  rw [e] at c0
  unfold World.cell? at c0
  split at c0
  · split at c0
    · cases c0
    · rename_i hs; simpa using hs
  · cases c0

theorem addr_plus (g o i : Nat) : (⟨g, o, none⟩ : Addr).add i = ⟨g, o + i, none⟩ := by unfold Addr.add; split <;> simp_all

theorem u8_wf {y : Int} (h : (Lit.int .u8 y).wf = true) : 0 ≤ y ∧ y ≤ 255 := by
  have hmin : IntKind.u8.min = 0 := rfl
  have hmax : IntKind.u8.max = 255 := rfl
  simp only [Lit.wf, Bool.and_eq_true, decide_eq_true_eq] at h
  omega

theorem InRow.bytes {w : World} {a : Option Addr} {len cap : Nat} (h : InRow w a len cap) (hl : len ≤ 140737488355328) : ∃ bs : List Int, bs.length = len ∧ Tlv.BySl 0 w.heap.size w (.slice a len cap) bs := by
  rcases h with ⟨rfl, rfl, rfl⟩ | ⟨x, zs, rfl, h1, h2, h3, h4, h5⟩
  · exact ⟨[], rfl, Tlv.BySl.none _ _ _⟩
  · have hlen : (zs.take len).length = len := List.length_take_of_le (by omega)
    refine ⟨zs.take len, hlen, _, cap, by rw [hlen], by rw [hlen]; exact h1, h2, by simp, by rw [hlen]; omega, fun y hy => u8_wf (h5 y (List.mem_of_mem_take hy)), fun hne => ?_⟩
    have hpos : 0 < len := by have := List.length_pos_iff.2 hne; omega
    have c0 := h4 0 (by omega)
    have hx := spot_none c0
    obtain ⟨b, o, s⟩ := x
    simp only at hx
    subst hx
    refine ⟨b, o, rfl, Nat.zero_le _, World.block_lt_of_cell? w _ c0, fun i hi => ?_⟩
    have := h4 i (by omega)
    rw [addr_plus] at this
    rw [this]
    rw [hlen] at hi
    simp [hi]

end Go.Proofs.YthmimipoooemjaaGreatDoor
end

section
/-
  A list of the document's entries that came in, opened.
-/
namespace Go.Proofs.YthmimipoooemjaaGreatDoor.Sg
open Go.RowKit Go.ChangeShapes Go.WideShapes
end Go.Proofs.YthmimipoooemjaaGreatDoor.Sg
end

section
/-
  A hash that came in.
-/
namespace Go.Proofs.YthmimipoooemjaaGreatDoor.IxH
open Go.RowKit Go.ChangeShapes Go.WideShapes

set_option maxRecDepth 100000 in
theorem open_hash {H : Type} {enc : TypeId × Value → H} {W : World} {r : Reach} {b0 base : Nat} {sp : Nat → Bool} {held : Bool} {v : Value} {d : DataW H} {ps : List MemPlace}
    (hval : Value.okWide Tryz.prog W r b0 53 v) (hd : DataW.Trod enc Tryz.prog W base sp held 53 v d ps) :
    ∃ nm : List Int, v = .agg (Sg.b8 nm).toArray ∧ nm.length = 32 ∧ ∀ x ∈ nm, 0 ≤ x ∧ x ≤ 255 := by
  have hs : Tryz.prog.cellsOf 53 = 32 := by kernel_rfl
  simp only [Value.okWide, Tryz.underlying53] at hval
  obtain ⟨xs, rfl, hn, _⟩ := hval
  rw [hs] at hn
  obtain ⟨fuel, hf⟩ := hd
  obtain ⟨nm, hnm, hnl, hwf⟩ := arr_ints Tryz.underlying53 Tryz.underlying5 (by kernel_rfl) (by simpa [Value.cells] using hn) hf
  refine ⟨nm, ?_, hnl, fun y hy => u8_wf (hwf y hy)⟩
  have : xs.toList = Sg.b8 nm := hnm
  rw [← this]

end Go.Proofs.YthmimipoooemjaaGreatDoor.IxH
end

section
/-
  A world that holds the listed variables: two errors, three tables.
-/
namespace Go.Proofs.YthmimipoooemjaaGreatDoor
open Go.ChangeShapes Go.WideShapes Go.ChangeAt Go.RowKit

theorem own : ownKnob Tryz.prog.godebug = none := by kernel_rfl
theorem laidOut : laidOutB Tryz.prog = true := by kernel_rfl
abbrev laidFive : List (String × DataW Unit) := Rows.indexNilsRow.laid
def lay (cells : Array Value) : Obj → Obj
  | .cells _ t frozen => .cells cells t frozen
  | o => o
def tab32 : Array Value := (Lib.deBruijn32tab.map fun n : Nat => Value.int .u8 (n : Int)).toArray
def tab64 : Array Value := (Lib.deBruijn64tab.map fun n : Nat => Value.int .u8 (n : Int)).toArray
def tab10 : Array Value := ((List.range 20).map fun n : Nat => Value.int .u64 ((10 ^ n : Nat) : Int)).toArray
def synS : ByteArray := { data := #[105, 110, 118, 97, 108, 105, 100, 32, 115, 121, 110, 116, 97, 120] }
def rngS : ByteArray := { data := #[118, 97, 108, 117, 101, 32, 111, 117, 116, 32, 111, 102, 32, 114, 97, 110, 103, 101] }
theorem laid_met (os : Os) (args : Array Value) : laidMet Tryz.prog laidFive (({ World.holding Tryz.prog os ⟨#[.cells #[.string synS] 358, .cells #[.string rngS] 358], #[], []⟩ with heap := (((((World.holding Tryz.prog os ⟨#[.cells #[.string synS] 358, .cells #[.string rngS] 358], #[], []⟩).heap.modify 1 (lay #[.iface 356 (.pointer (some ⟨11, 0, none⟩))])).modify 2 (lay #[.iface 356 (.pointer (some ⟨12, 0, none⟩))])).modify 0 (lay tab10)).modify 4 (lay tab32)).modify 5 (lay tab64) } : World).forCall (fun _ _ => 0) ⟨#[], args, []⟩).memory :=
  laidMet_of_run' 8 (by kernel_rfl) (by kernel_rfl)
end Go.Proofs.YthmimipoooemjaaGreatDoor
end

section
/-
  The closed facts of IndexNils's row, one by one: which functions her road reaches.
-/
namespace Go.Proofs.YthmimipoooemjaaGreatDoor.indexNils
open Go.ChangeShapes Go.WideShapes Go.ChangeAt Go.RowKit

theorem f10 : (Rows.indexNilsRow.inPlace == Tryz.prog.inPlace 8) = true := by kernel_rfl
theorem f11 : (Rows.indexNilsRow.unfollowed == Tryz.prog.unfollowed 8) = true := by kernel_rfl
theorem f12 : (Rows.indexNilsRow.recurses == Tryz.prog.recurses 8) = true := by kernel_rfl
theorem f13 : (Rows.indexNilsRow.named == Tryz.prog.varsNamed 8) = true := by kernel_rfl
theorem closed : joinedFacts Tryz.prog 8 Tryz.f8 (OpenSpec.ofChange Rows.indexNilsSpec).bare Rows.indexNilsRow = true := by
  unfold joinedFacts
  rw [f10, f11, f12, f13]
  kernel_rfl
end Go.Proofs.YthmimipoooemjaaGreatDoor.indexNils
end
