/- Of the proof: the texts TrAlive, TrChanges, TrChangesB, TrOpenC, TrLaid, TrChangesFacts, one behind the other. -/
import Derived.Test.YtdooiflmjeibdaaGreatDoorAbb
import Derived.Test.YtdooiflmjeibdaaGreatDoorB5
import Derived.Lib.SlBytesConst
import Derived.Laws.IdiomStrings
import Derived.KernelRfl
import Derived.Test.YtdooiflmjeibdaaGreatDoorB7
import Derived.Test.YtdooiflmjeibdaaGreatDoorCards
import Derived.Test.YtdooiflmjeibdaaGreatDoorTie
import GoSem.PinnedTables
import Derived.ProofKit
import Derived.OpenShut
import Derived.Deep.DeepHandedRow
import Derived.Lib.LaidTab
import Derived.MakeChecks
import Derived.Test.YtdooiflmjeibdaaGreatDoorChecked
import Derived.WalkKit
section
/-
  alive: the chapter's example.
-/
namespace Go.Proofs.YtdooiflmjeibdaaGreatDoor.Tr
open Go.RowKit

def itA : It := (⟨#[97]⟩, true, [])
def itB : It := (⟨#[97, 47, 98]⟩, false, [120])
theorem exa1 : mkdirR [] ⟨#[97]⟩ = (0, [itA]) := by kernel_rfl
theorem exa2 : writeR [itA] ⟨#[97, 47, 98]⟩ [120] = (0, [itA, itB]) := by kernel_rfl
theorem exa3 : look [itA, itB] ⟨#[97, 47, 98]⟩ = some itB := by kernel_rfl
theorem exa4 : (underL [itA, itB] ⟨#[97]⟩).length = 2 := by kernel_rfl
theorem conv_const (W : World) : (convert 23 23 (.slice (some ⟨W.heap.size, 0, none⟩) 1 1)).run Tryz.prog (W.alloc (.cells #[.int .u8 120] 5)) = .ok (.slice (some ⟨W.heap.size, 0, none⟩) 1 1) (W.alloc (.cells #[.int .u8 120] 5 (1, 2))) :=
  Lib.run_convert_bytes_const W 23 5 _ 1 1 Tryz.underlying23 Tryz.underlying5
theorem by_const (W : World) : ByP Any (W.alloc (.cells #[.int .u8 120] 5 (1, 2))) (.slice (some ⟨W.heap.size, 0, none⟩) 1 1) [120] := by
  refine ⟨_, 1, rfl, Nat.le_refl _, by decide, by simp, by decide, by simp, fun _ => ⟨W.heap.size, 0, rfl, trivial, by simp, fun i hi => ?_⟩⟩
  have : i = 0 := by simpa using hi
  subst this
  exact World.cell?_alloc_mark W _ 5 (1, 2) 0
theorem short_ab : ∀ y ∈ [itA, itB], ShortI y := by
  intro y hy
  simp only [List.mem_cons, List.not_mem_nil, or_false] at hy
  rcases hy with rfl | rfl <;> exact ⟨by decide, by decide⟩

set_option maxHeartbeats 4000000 in
set_option maxRecDepth 100000 in
theorem alive_any (w : World) : Calls Tryz.prog 7 #[] w fun e w' => e = .returned (.bool true) ∧ Kp No w w' := by
  have hcv := conv_const
  have HM := hid (mkdir_any w (.slice none 0 0) [] ⟨#[97]⟩ (IRow.nil _ _) (by decide) (by simp) (by decide))
  rw [exa1] at HM
  go_enter Tryz.func7, Tryz.ntmps7
  go_wp2_with fail
  refine HM.out.mono ?_
  rintro e w1 ⟨v1, rfl, h1, _, k1⟩
  have O1 := hid h1
  have K1 := hid k1
  obtain ⟨a1, c1, e1⟩ := h1.form
  subst e1
  clear h1 k1 HM
  go_wp2_with fail
  have ka : Kp No w1 (w1.alloc (.cells #[.int .u8 120] 5 (1, 2))) := (Kp.refl _ _).alloc _
  have HW := write_any (w1.alloc (.cells #[.int .u8 120] 5 (1, 2))) (.slice a1 [itA].length c1) _ [itA] ⟨#[97, 47, 98]⟩ [120] (O1.out.kept ka).row (by decide) (fun y hy => short_ab y (by simp at hy; simp [hy])) (by decide) (by_const w1)
  rw [exa2] at HW
  refine HW.mono ?_
  rintro e w2 ⟨v2, rfl, h2, _, k2⟩
  have O2 := hid h2
  have K2 : Hid (Kp No w w2) := (K1.out.andNone ka).andNone k2
  obtain ⟨a2, c2, e2⟩ := h2.form
  subst e2
  clear h2 k2 HW
  have HF := hid (find_yes w2 (.slice a2 [itA, itB].length c2) [itA, itB] ⟨#[97, 47, 98]⟩ itB ⟨by decide, by decide⟩ O2.out.row (by decide) exa3)
  go_wp2_with fail
  refine HF.out.mono ?_
  rintro e w3 ⟨u, rfl, hb, k3⟩
  obtain ⟨au, cu, hu⟩ := hb.form
  subst hu
  have K3 : Hid (Kp No w w3) := K2.out.andNone k3
  have HU := hid (fun (V : World) (k : Kp No w3 V) => under_any V (.slice a2 [itA, itB].length c2) [itA, itB] ⟨#[97]⟩ ((O2.out.kept k3).kept k).row (by decide) short_ab)
  have HCS : Hid (∀ V, Kp No w3 V → (convert 23 9 (.slice au itB.2.2.length cu)).run Tryz.prog V = .ok (.string ⟨#[120]⟩) V) := fun V k => by
    obtain ⟨a', c', e', _, _, _, _, _, h7⟩ := hb.kept k
    cases e'
    obtain ⟨g, o, rfl, _, hg, hc⟩ := h7 (by decide)
    have := run_convert_bytes_back (P := Tryz.prog) V 23 9 5 ⟨g, o, none⟩ cu [120] Tryz.underlying23 Tryz.underlying5 Tryz.underlying9 (fun j hj => by
      have : j = 0 := by simpa using hj
      subst this
      rw [addr_add]
      exact hc 0 (by decide))
    exact this
  have hcs := HCS.out (w3.alloc (.cells #[.string itB.1, .bool itB.2.1, .slice au itB.2.2.length cu] 41)) ((Kp.refl _ _).alloc _)
  clear hb k3 HF HCS
  go_wp2_with (go_at_call 15; refine (HU.out _ ((Kp.refl _ _).alloc _)).mono ?_; rintro e w5 ⟨a5, n5, c5, rfl, ho, _, hk⟩; obtain ⟨a6, c6, e6⟩ := ho.form; rw [exa4] at e6; cases e6; have HK5 := hid ((K3.out.andNone ((Kp.refl No _).alloc _)).andNone hk); clear ho hk)
  go_ret
  exact ⟨rfl, HK5.out⟩

end Go.Proofs.YtdooiflmjeibdaaGreatDoor.Tr
end

section
/-
  TreeChanges: its walk.
-/
namespace Go.Proofs.YtdooiflmjeibdaaGreatDoor.Tr
open Go.RowKit

theorem opsAt_one (w : World) (k n : Int) (p q : ByteArray) (vb : Value) (b : List Nat) (hb : ByP Any w vb b) :
    OpsAt (w.alloc (.cells #[.int .i64 k, .int .i64 n, .string p, .string q, vb] 25)) w.heap.size 0 [(k, n, p, q, b)] := fun V kv i x hx => by
  cases i with
  | succ i => simp at hx
  | zero =>
    simp only [List.getElem?_cons_zero, Option.some.injEq] at hx
    subst hx
    have B := (Blk.new w 25 [.int .i64 k, .int .i64 n, .string p, .string q, vb]).kp kv (fun h => h)
    have hc := fun j => B.cell j
    refine ⟨vb, ?_, ?_, ?_, ?_, ?_, hb.kept (((Kp.refl No w).alloc _).andNone kv)⟩
    · exact hc 0
    · exact hc 1
    · exact hc 2
    · exact hc 3
    · exact hc 4

set_option maxHeartbeats 8000000 in
set_option maxRecDepth 100000 in
theorem changes_yes (w : World) (v vb : Value) (t : List It) (k n : Int) (p q : ByteArray) (b : List Nat) (h : IRow Any w v t) (hb : ByP Any w vb b) (h1 : lightB t 62 = true) (h2 : opI (k, n, p, q, b) = true) :
    Calls Tryz.prog 3 #[v, .agg #[.int .i64 k, .int .i64 n, .string p, .string q, vb]] w fun e w' => e = .returned (.bool true) ∧ Kp No w w' := by
  have HL := hid (fun (V : World) (kv : Kp No w V) => light_any V v t 62 (by decide) (h.kept kv))
  simp only [h1] at HL
  obtain ⟨hl, hsh⟩ := light_short h1
  have hs : ∀ x ∈ t, ShortI x := fun x hx => ⟨by have := (hsh x hx).1; omega, by have := (hsh x hx).2; omega⟩
  have ho : opsB [(k, n, p, q, b)] 1 = true := by simp [opsB, h2]
  have HOP := hid (fun (V : World) (kv : Kp No w V) => by
    have hh := ops_any (V.alloc (.cells #[.int .i64 k, .int .i64 n, .string p, .string q, vb] 25)) V.heap.size 0 1 1 [(k, n, p, q, b)] 1 (by decide) rfl (by decide) (opsAt_one V k n p q vb b (hb.kept kv))
    rw [ho] at hh
    exact hh)
  unfold opI at h2
  simp only [Bool.and_eq_true, decide_eq_true_eq] at h2
  obtain ⟨⟨hp, hq⟩, hbl⟩ := h2
  obtain ⟨f, xs, hR⟩ : ∃ f xs, chF t k n p q b = (f, xs) := ⟨_, _, rfl⟩
  have hxs : ∀ y ∈ xs, ShortI y := by
    have := ch_short (k := k) (n := n) (q := q) hs (show p.size ≤ 10000 by omega) (show b.length ≤ 10000 by omega)
    rw [hR] at this
    exact this
  have hxl : xs.length ≤ 100000 := by
    have := ch_len (t := t) (k := k) (n := n) (p := p) (q := q) (b := b)
    rw [hR] at this
    simp only at this
    omega
  have HDO := hid (fun (V : World) (kv : Kp No w V) => (doall_any V v vb t k n p q b (h.kept kv) (by omega) hs (by omega) (by omega) (hb.kept kv)).mono fun e w' hh => (show ∃ v', e = .returned (.tuple #[v', .int .i64 f]) ∧ IRow Any w' v' xs ∧ Kp No V w' by
    have := hh.1
    rw [hR] at this
    exact this))
  have HRE := hid (fun (V : World) (kv : Kp No w V) => (refall_any V v vb t k n p q b (h.kept kv) (by omega) hs (by omega) (by omega) (hb.kept kv)).mono fun e w' hh => (show ∃ v', e = .returned (.tuple #[v', .int .i64 f]) ∧ IRow Any w' v' xs ∧ Kp No V w' by
    rw [hR] at hh
    exact hh))
  have HSM := hid (fun (V : World) (x y : Value) (hx : IRow Any V x xs) (hy : IRow Any V y xs) => (show Calls Tryz.prog 10 #[x, y] V fun e w' => e = .returned (.bool true) ∧ Kp No V w' by
    have hh := rsame_any V x y xs xs hx hy hxl hxs
    rw [decide_eq_true rfl] at hh
    exact hh))
  have HAL := hid alive_any
  have HW1 : Hid (Kp No w (w.alloc (.cells #[.int .i64 k, .int .i64 n, .string p, .string q, vb] 25))) := (Kp.refl _ _).alloc _
  have HB0 := hid (Blk.new w 25 [.int .i64 k, .int .i64 n, .string p, .string q, vb])
  have hff : (f == f) = true := by simp
  obtain ⟨ab, cb, rfl⟩ := hb.form
  obtain ⟨a, cap, rfl, _⟩ := h.form
  clear h hb h1 ho hl hsh hs hp hq hbl hR hxs hxl
  have CELLS : Hid (∀ V, Kp No (w.alloc (.cells #[.int .i64 k, .int .i64 n, .string p, .string q, .slice ab b.length cb] 25)) V → V.cell? ⟨w.heap.size, 0, none⟩ = some (.int .i64 k) ∧ V.cell? ⟨w.heap.size, 1, none⟩ = some (.int .i64 n) ∧ V.cell? ⟨w.heap.size, 2, none⟩ = some (.string p) ∧ V.cell? ⟨w.heap.size, 3, none⟩ = some (.string q) ∧ V.cell? ⟨w.heap.size, 4, none⟩ = some (.slice ab b.length cb)) := fun V kv => by
    have B := HB0.out.kp kv (fun h => h)
    exact ⟨B.cell 0, B.cell 1, B.cell 2, B.cell 3, B.cell 4⟩
  clear HB0
  go_enter Tryz.func3, Tryz.ntmps3
  go_wp2_with (first
    | (go_at_call 7; refine (HAL.out _).mono ?_; rintro e w6 ⟨rfl, hk⟩; have HK6 := hid (HK5.out.andNone hk); clear hk)
    | (go_at_call 10; refine (HSM.out _ _ _ (HX3.out.kept hkx) HX4.out).mono ?_; rintro e w5 ⟨rfl, hk⟩; have HK5 := hid (HK4.out.andNone hk); clear hk)
    | (go_at_call 9; refine (HRE.out _ (HW1.out.andNone HK3.out)).mono ?_; rintro e w4 ⟨v4, rfl, hrow, hk⟩; have hkx := hk; have HK4 := hid (HK3.out.andNone hk); have HX4 := hid hrow; clear hk hrow)
    | (go_at_call 8; refine (HDO.out _ (HW1.out.andNone HK2.out)).mono ?_; rintro e w3 ⟨v3, rfl, hrow, hk⟩; have HK3 := hid (HK2.out.andNone hk); have HX3 := hid hrow; clear hk hrow; obtain ⟨d0, d1, d2, d3, d4⟩ := CELLS.out _ HK3.out)
    | (go_at_call 6; refine (HOP.out _ (HW1.out.andNone HK1.out)).mono ?_; rintro e w2 ⟨rfl, hk⟩; have HK2 := hid ((HK1.out.alloc _).andNone hk); clear hk c0 c1 c2 c3 c4; obtain ⟨c0, c1, c2, c3, c4⟩ := CELLS.out _ HK2.out)
    | (go_at_call 5; refine (HL.out _ HW1.out).mono ?_; rintro e w1 ⟨rfl, hk⟩; have HK1 := hid hk; clear hk; obtain ⟨c0, c1, c2, c3, c4⟩ := CELLS.out _ HK1.out))
  go_ret
  exact ⟨rfl, HW1.out.andNone HK6.out⟩

end Go.Proofs.YtdooiflmjeibdaaGreatDoor.Tr
end

section
/-
  TreeChanges: at any tree and change that came in.
-/
namespace Go.Proofs.YtdooiflmjeibdaaGreatDoor.Tr
open Go.RowKit

set_option maxHeartbeats 8000000 in
set_option maxRecDepth 100000 in
theorem changes_no (w : World) (v vb : Value) (t : List It) (k n : Int) (p q : ByteArray) (b : List Nat) (h : IRow Any w v t) (hb : ByP Any w vb b) (hno : ¬ (lightB t 62 = true ∧ opI (k, n, p, q, b) = true)) :
    Calls Tryz.prog 3 #[v, .agg #[.int .i64 k, .int .i64 n, .string p, .string q, vb]] w fun e w' => e = .returned (.bool true) ∧ Kp No w w' := by
  have HL := hid (fun (V : World) (kv : Kp No w V) => light_any V v t 62 (by decide) (h.kept kv))
  have HOP := hid (fun (V : World) (kv : Kp No w V) => ops_any (V.alloc (.cells #[.int .i64 k, .int .i64 n, .string p, .string q, vb] 25)) V.heap.size 0 1 1 [(k, n, p, q, b)] 1 (by decide) rfl (by decide) (opsAt_one V k n p q vb b (hb.kept kv)))
  have HAL := hid alive_any
  have HW1 : Hid (Kp No w (w.alloc (.cells #[.int .i64 k, .int .i64 n, .string p, .string q, vb] 25))) := (Kp.refl _ _).alloc _
  have HB0 := hid (Blk.new w 25 [.int .i64 k, .int .i64 n, .string p, .string q, vb])
  obtain ⟨ab, cb, rfl⟩ := hb.form
  obtain ⟨a, cap, rfl, _⟩ := h.form
  have CELLS : Hid (∀ V, Kp No (w.alloc (.cells #[.int .i64 k, .int .i64 n, .string p, .string q, .slice ab b.length cb] 25)) V → V.cell? ⟨w.heap.size, 0, none⟩ = some (.int .i64 k) ∧ V.cell? ⟨w.heap.size, 1, none⟩ = some (.int .i64 n) ∧ V.cell? ⟨w.heap.size, 2, none⟩ = some (.string p) ∧ V.cell? ⟨w.heap.size, 3, none⟩ = some (.string q) ∧ V.cell? ⟨w.heap.size, 4, none⟩ = some (.slice ab b.length cb)) := fun V kv => by
    have B := HB0.out.kp kv (fun h => h)
    exact ⟨B.cell 0, B.cell 1, B.cell 2, B.cell 3, B.cell 4⟩
  clear HB0 h hb
  cases h1 : lightB t 62 with
  | false =>
    simp only [h1] at HL
    clear hno h1
    go_enter Tryz.func3, Tryz.ntmps3
    go_wp2_with (first
      | (go_at_call 7; refine (HAL.out _).mono ?_; rintro e w6 ⟨rfl, hk⟩; have HK6 := hid (HK1.out.andNone hk); clear hk)
      | (go_at_call 5; refine (HL.out _ HW1.out).mono ?_; rintro e w1 ⟨rfl, hk⟩; have HK1 := hid hk; clear hk))
    go_ret
    exact ⟨rfl, HW1.out.andNone HK6.out⟩
  | true =>
    have h2 : opI (k, n, p, q, b) = false := by
      cases h2 : opI (k, n, p, q, b) with
      | false => rfl
      | true => exact absurd ⟨h1, h2⟩ hno
    have ho : opsB [(k, n, p, q, b)] 1 = false := by simp [opsB, h2]
    simp only [ho] at HOP
    simp only [h1] at HL
    clear hno h1 h2 ho
    go_enter Tryz.func3, Tryz.ntmps3
    go_wp2_with (first
      | (go_at_call 7; refine (HAL.out _).mono ?_; rintro e w6 ⟨rfl, hk⟩; have HK6 := hid (HK2.out.andNone hk); clear hk)
      | (go_at_call 6; refine (HOP.out _ (HW1.out.andNone HK1.out)).mono ?_; rintro e w2 ⟨rfl, hk⟩; have HK2 := hid ((HK1.out.alloc _).andNone hk); clear hk c0 c1 c2 c3 c4)
      | (go_at_call 5; refine (HL.out _ HW1.out).mono ?_; rintro e w1 ⟨rfl, hk⟩; have HK1 := hid hk; clear hk; obtain ⟨c0, c1, c2, c3, c4⟩ := CELLS.out _ HK1.out))
    go_ret
    exact ⟨rfl, HW1.out.andNone HK6.out⟩

theorem changes_main (w : World) (v vb : Value) (t : List It) (k n : Int) (p q : ByteArray) (b : List Nat) (h : IRow Any w v t) (hb : ByP Any w vb b) :
    Calls Tryz.prog 3 #[v, .agg #[.int .i64 k, .int .i64 n, .string p, .string q, vb]] w fun e w' => e = .returned (.bool true) ∧ Kp No w w' := by
  by_cases hno : lightB t 62 = true ∧ opI (k, n, p, q, b) = true
  · exact changes_yes w v vb t k n p q b h hb hno.1 hno.2
  · exact changes_no w v vb t k n p q b h hb hno

end Go.Proofs.YtdooiflmjeibdaaGreatDoor.Tr
end

section
/-
  A change that came in, opened.
-/
namespace Go.Proofs.YtdooiflmjeibdaaGreatDoor.Tr
open Go.RowKit Go.ChangeShapes Go.WideShapes

set_option maxRecDepth 100000 in
/-- A change that came in. -/
theorem open_op {H : Type} {enc : TypeId × Value → H} {W : World} {r : Reach} {base : Nat} {v : Value} {d : DataW H} {p : List MemPlace} (hv : Value.okWide Tryz.prog W r base 25 v) (h : DataW.Trod enc Tryz.prog W 0 (fun _ => true) true 25 v d p) :
    ∃ (k n : Int) (s q : ByteArray) (a : Option Addr) (l c : Nat) (b : List Nat), v = .agg #[.int .i64 k, .int .i64 n, .string s, .string q, .slice a l c] ∧ ByP Any W (.slice a l c) b := by
  obtain ⟨cs, rfl, hsz⟩ := okWide_struct Tryz.underlying25 hv
  obtain ⟨fuel, hf⟩ := h
  obtain ⟨o, hcs, hr⟩ := opc_cells hf
  obtain ⟨bs, _, hb⟩ := hr.bytes hr.le
  refine ⟨o.k, o.n, o.p, o.q, o.a, o.l, o.c, bs, ?_, hb⟩
  have e : cs.toList = [.int .i64 o.k, .int .i64 o.n, .string o.p, .string o.q, .slice o.a o.l o.c] := hcs
  rw [← Array.toArray_toList (xs := cs), e]

end Go.Proofs.YtdooiflmjeibdaaGreatDoor.Tr
end

section
/-
  A world that holds the listed variables: the two tables of unicode/utf8.
-/
namespace Go.Proofs.YtdooiflmjeibdaaGreatDoor
open Go.ChangeShapes Go.WideShapes Go.ChangeAt Go.RowKit

theorem own : ownKnob Tryz.prog.godebug = none := by kernel_rfl
theorem laidOut : laidOutB Tryz.prog = true := by kernel_rfl
abbrev laidFive : List (String × DataW Unit) := Rows.treeChangesRow.laid
def lay (cells : Array Value) : Obj → Obj
  | .cells _ t frozen => .cells cells t frozen
  | o => o
def tabA : Array Value := ([128, 191, 160, 191, 128, 159, 144, 191, 128, 143, 0, 0, 0, 0, 0, 0, 0, 0, 0, 0, 0, 0, 0, 0, 0, 0, 0, 0, 0, 0, 0, 0].map fun n : Nat => Value.int .u8 (n : Int)).toArray
def tabF : Array Value := (Go.Pinned.utf8FirstZ.map fun n : Nat => Value.int .u8 (n : Int)).toArray
theorem laid_met (os : Os) (args : Array Value) : laidMet Tryz.prog laidFive (({ World.holding Tryz.prog os ⟨#[], #[], []⟩ with heap := ((World.holding Tryz.prog os ⟨#[], #[], []⟩).heap.modify 2 (lay tabA)).modify 1 (lay tabF) } : World).forCall (fun _ _ => 0) ⟨#[], args, []⟩).memory :=
  laidMet_of_run' 8 (by kernel_rfl) (by kernel_rfl)
end Go.Proofs.YtdooiflmjeibdaaGreatDoor
end

section
/-
  The closed facts of TreeChanges's row, one by one: which functions her road reaches.
-/
namespace Go.Proofs.YtdooiflmjeibdaaGreatDoor.treeChanges
open Go.ChangeShapes Go.WideShapes Go.ChangeAt Go.RowKit

theorem f10 : (Rows.treeChangesRow.inPlace == Tryz.prog.inPlace 3) = true := by kernel_rfl
theorem f11 : (Rows.treeChangesRow.unfollowed == Tryz.prog.unfollowed 3) = true := by kernel_rfl
theorem f12 : (Rows.treeChangesRow.recurses == Tryz.prog.recurses 3) = true := by kernel_rfl
theorem f13 : (Rows.treeChangesRow.named == Tryz.prog.varsNamed 3) = true := by kernel_rfl
theorem closed : joinedFacts Tryz.prog 3 Tryz.f3 (OpenSpec.ofChange Rows.treeChangesSpec).bare Rows.treeChangesRow = true := by
  unfold joinedFacts
  rw [f10, f11, f12, f13]
  kernel_rfl
end Go.Proofs.YtdooiflmjeibdaaGreatDoor.treeChanges
end
