/- Of the proof: the texts SimChg, SimChange, SimCreate, TlvPlain, TlvBase, TlvSmall, TlvKids, TlvRefs, TlvRefSame, one behind the other. -/
import Derived.Test.YtophnjcoaglbnaaGreatDoorB2
import Derived.Deep.RegionHeld3
import Derived.Deep.RegionLaw
import Derived.Deep.DeepCutAuto
import Derived.Deep.CutRange
import Derived.Lib.BitFns
import Derived.Test.YtophnjcoaglbnaaGreatDoorRows
import Derived.WalkKit
import Derived.WalkSpells
import Derived.WalkLawsBesides
import Derived.Laws.AppendOwnNone
import Derived.Deep.QuietTactic
import Derived.BigQuiet
import Derived.Deep.AppendLies
import Derived.Deep.DrawnRows
section
/-
  A change: what change's closure does.
-/
namespace Go.Proofs.YtophnjcoaglbnaaGreatDoor.Sim
open Go.RowKit Go.Maps

theorem step_app {ops : Array Oper} {o : Oper} {a : Act} {K : Act → World → Prop} {Q : Exit → Act → World → Prop} {E : Prop} (w : World) (hgd : o.guard = none) (s x : Operand) (t e : TypeId) (z : Value) (sz by' : Nat)
    (ho : o.op = .call { callee := .builtin .append, args := #[s, x], argTypes := #[t, t] }) (ht : Tryz.prog.underlying t = some (.slice e)) (hin : (Tryz.prog.info? e).map (fun i => (i.zero, i.size, i.bytes)) = some (some z, sz, by'))
    (hz1 : z.cells.size = sz) (hsz : 0 < sz) (v vx : Value) (n m : Nat) (xs ys : List Value) (hs : a.eval s = v) (hx : a.eval x = vx)
    (hown : Row w e sz v n xs) (hy : Src w vx m sz ys) (hlen : n + m ≤ 1000000) (hby : by' ≤ 1000)
    (h : ∀ a' cap' w', Row w' e sz (.slice a' (n + m) cap') (n + m) (xs ++ ys) → w.grownBy w' v.ownBlock → ((Value.slice a' (n + m) cap').ownBlock = v.ownBlock ∨ (Value.slice a' (n + m) cap').ownBlock = some w.heap.size) → K (a.put o.dst (.slice a' (n + m) cap')) w') :
    if Region.wanted o (yielded ops a.tmps) = true then Oper.wp Tryz.prog o a w K Q else E := by
  have hw : Region.wanted o (yielded ops a.tmps) = true := by simp [Region.wanted, hgd]
  rw [if_pos hw]
  obtain ⟨i0, hi, hz0, hz1', hz2⟩ := info_parts hin
  have key : ∃ v' w', (Builtin.append_ #[t, t] o.type #[v, vx]).run Tryz.prog w = .ok v' w' ∧ Row w' e sz v' (n + m) (xs ++ ys) ∧ w.grownBy w' v.ownBlock ∧ (v'.ownBlock = v.ownBlock ∨ v'.ownBlock = some w.heap.size) := by
    rcases hy with ⟨rfl, rfl, rfl⟩ | ⟨ad, c, rfl, hl, hc, h1⟩
    · have hrun := run_append_owned_none (P := Tryz.prog) (w := w) 0 t o.type e i0 sz ht hi v n xs hown
      exact ⟨v, w, hrun, by rw [List.append_nil]; exact hown, ⟨rfl, rfl, rfl, Nat.le_refl _, fun _ _ _ => rfl⟩, .inl rfl⟩
    · have hb : (n + m) * by' ≤ 140737488355328 := by
        have : (n + m) * by' ≤ 1000000 * 1000 := Nat.mul_le_mul hlen hby
        omega
      obtain ⟨v', w', hr, h2, h3, _, h5⟩ := run_append_own_at (P := Tryz.prog) w 0 t o.type e i0 z sz by' ht hi hz0 hz1' hz2 hz1 hsz v n xs hown ad m c ys hl hc h1 (by unfold maxLen; omega) hb (Nat.zero_le _)
      exact ⟨v', w', hr, h2, h3, h5⟩
  obtain ⟨v', w', hr, h1, h2, h3⟩ := key
  obtain ⟨a', cap', rfl, _⟩ := h1.shape
  unfold Oper.wp execOp
  simp only [ho, resolve, invoke, builtin, Sem.run_bind, Sem.run_pure, Result.andThen_ok, List.map_toArray, List.map_cons, List.map_nil, hs, hx, hr]
  exact h a' cap' w' h1 h2 h3

theorem cell_far {w : World} {b b' i j : Nat} {x : Value} (h : b' ≠ b) : (w.setCell ⟨b, i, none⟩ x).cell? ⟨b', j, none⟩ = w.cell? ⟨b', j, none⟩ := World.cell?_setCell_other _ _ _ _ (fun e => h (congrArg Addr.block e).symm)
theorem Tryz.infoChg : (Tryz.prog.info? 165).map (fun i => (i.zero, i.size, i.bytes)) = some (some (.agg #[.int .i64 0, .string ⟨#[]⟩, .string ⟨#[]⟩, .pointer none]), 4, 48) := by kernel_rfl
theorem eql_map (w : World) (p : Option Nat) : (binOp .eql 95 (.map p) (.map none)).run Tryz.prog w = .ok (.bool p.isNone) w := run_eql_map_nil_sl w 95 9 129 p Tryz.underlying95

/-- What a change leaves, told at its end. -/
theorem chg1_end (W w1 w2 : World) (ma : Nat) (c : PC) (l : Dir) (vc : Value) (cs : List PC) (o : Obj) (a2 : Option Addr) (cap2 : Nat) (hm : MapAt W ma l) (hr : Row W 165 4 vc cs.length (chgs cs)) (hm1 : MapAt w1 ma (pdo l c)) (hk1 : Kp (· = ma) W w1)
    (hr2 : Row w2 165 4 (.slice a2 (cs.length + 1) cap2) (cs.length + 1) (chgs cs ++ chgCells c)) (hg2 : (w1.alloc o).drew.grownBy w2 vc.ownBlock) (hb2 : (Value.slice a2 (cs.length + 1) cap2).ownBlock = vc.ownBlock ∨ (Value.slice a2 (cs.length + 1) cap2).ownBlock = some (w1.alloc o).drew.heap.size) :
    MapAt w2 ma (pdo l c) ∧ Row w2 165 4 (.slice a2 (cs.length + 1) cap2) (cs.length + 1) (chgs (cs ++ [c])) ∧ Kp (fun k => k = ma ∨ vc.ownBlock = some k) W w2 ∧ ∀ k, (Value.slice a2 (cs.length + 1) cap2).ownBlock = some k → vc.ownBlock = some k ∨ W.heap.size ≤ k := by
  have hmv : vc.ownBlock ≠ some ma := hm.row hr
  have k2 : Kp (fun k => vc.ownBlock = some k) w1 w2 := (((Kp.refl _ w1).alloc o).drew).grown hg2 (fun x hx => .inl hx)
  refine ⟨hm1.kp k2 (fun e => hmv e), by rw [chgs_append, chgs_one]; exact hr2, (hk1.mono (fun x hx => .inl (.inl hx))).trans k2 (fun x hx => .inl (.inr hx)), fun k hk => ?_⟩
  rcases hb2 with h | h
  · rw [h] at hk
    exact .inl hk
  · rw [h] at hk
    have h3 : w1.heap.size + 1 = k := by simpa using hk
    have := hk1.size
    exact .inr (by omega)

/-- Where the changes begin: the two maps are there, or are made. -/
def Begun (W : World) (s : Nat) (r vc d ar lf st : Value) (vs : Value) (l : Dir) (wx : World) (ma : Nat) : Prop :=
  (wx = W ∧ vs = .map (some ma) ∧ MapAt W ma l) ∨
  (vs = .map none ∧ l = [] ∧ ∃ mf, Kp (· = s) W wx ∧ Blk wx s 103 [r, .map (some ma), .map (some mf), vc, d, ar, lf, st] ∧ MapAt wx ma [] ∧ MapAt wx mf [] ∧ ma ≠ mf ∧ W.heap.size ≤ ma ∧ W.heap.size ≤ mf)

theorem Begun.facts {W : World} {s : Nat} {r vf vc d ar lf st vs : Value} {l : Dir} {wx : World} {ma : Nat} (h : Begun W s r vc d ar lf st vs l wx ma) (hs : Blk W s 103 [r, vs, vf, vc, d, ar, lf, st]) :
    ∃ vf', Blk wx s 103 [r, .map (some ma), vf', vc, d, ar, lf, st] ∧ MapAt wx ma l ∧ Kp (· = s) W wx := by
  rcases h with ⟨rfl, rfl, hm⟩ | ⟨_, rfl, mf, hk, hb, h1, _⟩
  · exact ⟨vf, hs, hm, Kp.refl _ _⟩
  · exact ⟨_, hb, h1, hk⟩
theorem begun_mk (W : World) (s : Nat) (r vc vs vf : Value) {d ar lf st : Value} (A B : Nat) (hs : Blk W s 103 [r, vs, vf, vc, d, ar, lf, st]) :
    Kp (· = s) W (((((W.setCell ⟨s, 1, none⟩ (.map (some A))).setCell ⟨s, 2, none⟩ (.map (some B))).alloc (.map #[] 0)).alloc (.map #[] 0)).drew) ∧ Blk (((((W.setCell ⟨s, 1, none⟩ (.map (some A))).setCell ⟨s, 2, none⟩ (.map (some B))).alloc (.map #[] 0)).alloc (.map #[] 0)).drew) s 103 [r, .map (some A), .map (some B), vc, d, ar, lf, st] := by
  have k1 : Kp (· = s) W ((W.setCell ⟨s, 1, none⟩ (.map (some A))).setCell ⟨s, 2, none⟩ (.map (some B))) := (Kp.set1 _ _ _ _).trans (Kp.set1 _ _ _ _) (fun x hx => .inl hx)
  have b1 := (hs.setCell 1 (.map (some A))).setCell 2 (.map (some B))
  have k2 : Kp No ((W.setCell ⟨s, 1, none⟩ (.map (some A))).setCell ⟨s, 2, none⟩ (.map (some B))) (((((W.setCell ⟨s, 1, none⟩ (.map (some A))).setCell ⟨s, 2, none⟩ (.map (some B))).alloc (.map #[] 0)).alloc (.map #[] 0)).drew) := (((Kp.refl _ _).alloc _).alloc _).drew
  exact ⟨k1.andNone k2, b1.kp k2 (fun h => h)⟩
theorem begun_maps (W : World) (s A B : Nat) : MapAt (((((W.setCell ⟨s, 1, none⟩ (.map (some A))).setCell ⟨s, 2, none⟩ (.map (some B))).alloc (.map #[] 0)).alloc (.map #[] 0)).drew) W.heap.size [] ∧ MapAt (((((W.setCell ⟨s, 1, none⟩ (.map (some A))).setCell ⟨s, 2, none⟩ (.map (some B))).alloc (.map #[] 0)).alloc (.map #[] 0)).drew) (W.heap.size + 1) [] := by
  generalize hV : (W.setCell ⟨s, 1, none⟩ (.map (some A))).setCell ⟨s, 2, none⟩ (.map (some B)) = V
  have hz : V.heap.size = W.heap.size := by rw [← hV]; simp
  have h1 := MapAt.new V
  have h2 := MapAt.new (V.alloc (.map #[] 0))
  rw [hz] at h1
  have hz2 : (V.alloc (.map #[] 0)).heap.size = W.heap.size + 1 := by simp [hz]
  rw [hz2] at h2
  exact ⟨(h1.kp (L := No) (((Kp.refl _ _).alloc _).drew) (fun h => h)), h2.kp (L := No) ((Kp.refl _ _).drew) (fun h => h)⟩

set_option maxHeartbeats 4000000 in
theorem chg1_any (W : World) (s x y : Nat) (c : PC) (l : Dir) (r vs vf vc d ar lf st : Value) (cs : List PC) (hx : Blk W x 31 [.pointer (some ⟨s, 0, none⟩)]) (hy : Blk W y 165 (chgCells c)) (hs : Blk W s 103 [r, vs, vf, vc, d, ar, lf, st])
    (hm : (∃ ma, vs = .map (some ma) ∧ MapAt W ma l) ∨ (vs = .map none ∧ vf = .map none ∧ l = [])) (hr : Row W 165 4 vc cs.length (chgs cs))
    (hok : okc l c) (hn : c.nm.length ≤ 1000000 ∧ c.to.length ≤ 1000000) (hl : l.length ≤ 10000) (hcs : cs.length ≤ 10000) (hvy : vc.ownBlock ≠ some y) :
    Calls Tryz.prog 123 #[.pointer (some ⟨x, 0, none⟩), .pointer (some ⟨y, 0, none⟩)] W fun e w' => e = .returned (.tuple #[]) ∧ ∃ wx ma vc' W1, Begun W s r vc d ar lf st vs l wx ma ∧ MapAt W1 ma (pdo l c) ∧ Row W1 165 4 vc' (cs.length + 1) (chgs (cs ++ [c])) ∧ Kp (fun k => k = ma ∨ vc.ownBlock = some k) wx W1 ∧
      w' = W1.setCell ⟨s, 3, none⟩ vc' ∧ ∀ k, vc'.ownBlock = some k → vc.ownBlock = some k ∨ wx.heap.size ≤ k := by
  have hq := eql_map
  have b0 : W.cell? ⟨x, 0, none⟩ = some (.pointer (some ⟨s, 0, none⟩)) := hx.cell 0
  have c1 : W.cell? ⟨s, 1, none⟩ = some vs := hs.cell 1
  have hxl := hx.lt
  have hsl := hs.lt
  have hsx : s ≠ x := hs.ne hx (by decide)
  have HX := hid hx
  have HY := hid hy
  have HS := hid hs
  have HM := hid hm
  have HR := hid hr
  obtain ⟨a, cap, hv, h5, h6, h7, h8⟩ := hr.shape
  subst hv
  obtain ⟨mo, hmo⟩ : ∃ mo, vs = .map mo := by
    rcases hm with ⟨ma, h, _⟩ | ⟨h, _⟩
    · exact ⟨_, h⟩
    · exact ⟨_, h⟩
  subst hmo
  clear hx hy hs hm hr h7 h8
  go_enter Tryz.func123, Tryz.ntmps123
  go_upto_if 6 with fail
  go_cut [] from 7 to 14 (fun wx => ∃ ma, Hid (Begun W s r (.slice a cs.length cap) d ar lf st (.map mo) l wx ma))
  case first =>
    rcases HM.out with ⟨ma, hvs, hma⟩ | ⟨hvs, hvf, hl0⟩
    · cases hvs
      have HMA := hid hma
      clear hma HM
      go_wp2_with fail
      go_meet
      case rel => exact ⟨ma, .inl ⟨rfl, rfl, HMA.out⟩⟩
    · cases hvs
      subst hvf hl0
      clear HM
      have hmm := @run_makeMap Tryz.prog
      have c2 : W.cell? ⟨s, 2, none⟩ = some (.map none) := HS.out.cell 2
      have f1 := HS.out.frozen 1
      have f2 := HS.out.frozen 2
      have hxs : x ≠ s := Ne.symm hsx
      have hxs1 : ∀ (V : World) (i : Nat) (v : Value), (V.setCell ⟨s, i, none⟩ v).cell? ⟨x, 0, none⟩ = V.cell? ⟨x, 0, none⟩ := fun V i v => cell_far hxs
      have H1 : Hid (∀ A B, Kp (· = s) W (((((W.setCell ⟨s, 1, none⟩ (.map (some A))).setCell ⟨s, 2, none⟩ (.map (some B))).alloc (.map #[] 0)).alloc (.map #[] 0)).drew) ∧ Blk (((((W.setCell ⟨s, 1, none⟩ (.map (some A))).setCell ⟨s, 2, none⟩ (.map (some B))).alloc (.map #[] 0)).alloc (.map #[] 0)).drew) s 103 [r, .map (some A), .map (some B), .slice a cs.length cap, d, ar, lf, st]) := fun A B => begun_mk W s _ _ _ _ A B HS.out
      have H2 : Hid (∀ A B, MapAt (((((W.setCell ⟨s, 1, none⟩ (.map (some A))).setCell ⟨s, 2, none⟩ (.map (some B))).alloc (.map #[] 0)).alloc (.map #[] 0)).drew) W.heap.size [] ∧ MapAt (((((W.setCell ⟨s, 1, none⟩ (.map (some A))).setCell ⟨s, 2, none⟩ (.map (some B))).alloc (.map #[] 0)).alloc (.map #[] 0)).drew) (W.heap.size + 1) []) := fun A B => begun_maps W s A B
      go_wp2_with fail
      go_region
      all_goals
        go_wp2_with fail
        go_meet
        case rel =>
          first
            | exact ⟨W.heap.size, .inr ⟨rfl, rfl, W.heap.size + 1, (H1.out _ _).1, (H1.out _ _).2, (H2.out _ _).1, (H2.out _ _).2, by omega, by omega, by omega⟩⟩
            | exact ⟨W.heap.size + 1, .inr ⟨rfl, rfl, W.heap.size, (H1.out _ _).1, (H1.out _ _).2, (H2.out _ _).2, (H2.out _ _).1, by omega, by omega, by omega⟩⟩
  case rest =>
    obtain ⟨ma, HB⟩ := hcut
    obtain ⟨vf', hs', hm, hk⟩ := HB.out.facts HS.out
    have hx := HX.out.kp hk (Ne.symm hsx)
    have hy := HY.out.kp hk (fun e => HS.out.ne HY.out (by decide) e.symm)
    have hr := HR.out.kp hk (fun k hk' e => HR.out.ne HS.out (by decide) (by rw [hk', e]))
    replace hsl := hs'.lt
    replace c1 : wc.cell? ⟨s, 1, none⟩ = some (.map (some ma)) := hs'.cell 1
    have c3 : wc.cell? ⟨s, 3, none⟩ = some (.slice a cs.length cap) := hs'.cell 3
    have f3 := hs'.frozen 3
    have hsm : s ≠ ma := Ne.symm (hm.blk hs')
    have hsv : ∀ k, (Value.slice a cs.length cap).ownBlock = some k → k ≠ s ∧ k ≠ x ∧ k ≠ y := fun k hk' => ⟨fun e => hr.ne hs' (by decide) (by rw [hk', e]), fun e => hr.ne hx (by decide) (by rw [hk', e]), fun e => hvy (by rw [hk', e])⟩
    clear hs' hk HX HY HS HM HR
    replace b0 : wc.cell? ⟨x, 0, none⟩ = some (.pointer (some ⟨s, 0, none⟩)) := hx.cell 0
    replace hxl := hx.lt
    have hyl := hy.lt
    have hml := hm.lt
    have d0 : wc.cell? ⟨y, 0, none⟩ = some (.int .i64 (c.kind : Int)) := hy.cell 0
    have d1 : wc.cell? ⟨y, 1, none⟩ = some (.string (sOf c.nm)) := hy.cell 1
    have d2 : wc.cell? ⟨y, 2, none⟩ = some (.string (sOf c.to)) := hy.cell 2
    have d3 : wc.cell? ⟨y, 3, none⟩ = some (ptrV (pcV c)) := hy.cell 3
    have HO : Hid (chgCells c = [.int .i64 (c.kind : Int), .string (sOf c.nm), .string (sOf c.to), ptrV (pcV c)]) := rfl
    obtain ⟨pv, hpv⟩ : ∃ pv, ptrV (pcV c) = .pointer pv := ⟨_, rfl⟩
    rw [hpv] at d3 HO
    have hmx : Hid (x ≠ ma ∧ y ≠ ma) := by
      refine ⟨fun e => ?_, fun e => ?_⟩
      · rw [e, hm.noCell] at b0; cases b0
      · rw [e, hm.noCell] at d0; cases d0
    -- the changes are done
    have HD : Hid (∀ V, Kp No (wc.alloc (.cells #[.int .i64 (c.kind : Int), .string (sOf c.nm), .string (sOf c.to), .pointer pv] 165)) V → Calls Tryz.prog 100 #[.map (some ma), .slice (some ⟨wc.heap.size, 0, none⟩) 1 1] V fun e w' => e = .returned (.tuple #[]) ∧ MapAt w' ma (pdo l c) ∧ Kp (· = ma) wc w') := by
      intro V k
      have k0 : Kp No wc V := ((Kp.refl _ _).alloc _).andNone k
      have ho : ChAt V (.slice (some ⟨wc.heap.size, 0, none⟩) 1 1) [c] := by
        obtain ⟨a, cap, h1, h2, h3, h4, h5⟩ := ChAt.one wc c
        refine ⟨a, cap, h1, h2, h3, h4, fun hne => ?_⟩
        obtain ⟨g, hg, hgl, hcl⟩ := h5 hne
        rw [HO.out] at hgl hcl
        exact ⟨g, hg, Nat.lt_of_lt_of_le hgl k.size, fun i d hi j hj => (k.cell (p := ⟨g, i * 4 + j, none⟩) hgl (fun h => h)).trans (hcl i d hi j hj)⟩
      refine (do_any V ma l _ [c] (hm.kp k0 (fun h => h)) ho ⟨hok, trivial⟩ (by simpa using hn) (by simp; omega)).mono ?_
      rintro e w' ⟨rfl, h1, h2⟩
      exact ⟨rfl, h1, (k0.mono (fun _ h => h.elim)).trans h2 (fun x hx => .inl hx)⟩
    have HR := hid hr
    have HM := hid hm
    have HSV := hid hsv
    clear hx hy hr hm hok hn hsv hpv
    generalize sOf c.nm = sn at *
    generalize sOf c.to = st at *
    have hmx1 := hmx.out.1
    have hmx2 := hmx.out.2
    have r0 : ∀ V, Kp (· = ma) wc V → V.cell? ⟨x, 0, none⟩ = some (.pointer (some ⟨s, 0, none⟩)) := fun V k => (k.cell (p := ⟨x, 0, none⟩) hxl hmx1).trans b0
    have r1 : ∀ V, Kp (· = ma) wc V → V.cell? ⟨s, 1, none⟩ = some (.map (some ma)) := fun V k => (k.cell (p := ⟨s, 1, none⟩) hsl hsm).trans c1
    have r3 : ∀ V, Kp (· = ma) wc V → V.cell? ⟨s, 3, none⟩ = some (.slice a cs.length cap) := fun V k => (k.cell (p := ⟨s, 3, none⟩) hsl hsm).trans c3
    have g3 : ∀ V, Kp (· = ma) wc V → V.frozen? ⟨s, 3, none⟩ = false := fun V k => (k.frozen (p := ⟨s, 3, none⟩) hsl hsm).trans f3
    have t0 : ∀ V, Kp (· = ma) wc V → V.cell? ⟨y, 0, none⟩ = some (.int .i64 (c.kind : Int)) := fun V k => (k.cell (p := ⟨y, 0, none⟩) hyl hmx2).trans d0
    have t1 : ∀ V, Kp (· = ma) wc V → V.cell? ⟨y, 1, none⟩ = some (.string sn) := fun V k => (k.cell (p := ⟨y, 1, none⟩) hyl hmx2).trans d1
    have t2 : ∀ V, Kp (· = ma) wc V → V.cell? ⟨y, 2, none⟩ = some (.string st) := fun V k => (k.cell (p := ⟨y, 2, none⟩) hyl hmx2).trans d2
    have t3 : ∀ V, Kp (· = ma) wc V → V.cell? ⟨y, 3, none⟩ = some (.pointer pv) := fun V k => (k.cell (p := ⟨y, 3, none⟩) hyl hmx2).trans d3
    go_wp2_with fail
    go_region_held3 (fun V => Kp (· = ma) wc V) (first | (with_reducible exact Kp.refl _ _) | (with_reducible exact (Kp.refl _ _).drew) | (with_reducible exact ((Kp.refl _ _).alloc _).drew) | (with_reducible exact (Kp.refl _ _).drew.alloc _) | (with_reducible exact HK1.out)) (first | (go_at_call 100; refine (HD.out _ ?_).mono ?_; (with_reducible exact (Kp.refl _ _).drew); rintro e w1 ⟨rfl, hm1, hk1⟩; have HM1 := hid hm1; have HK1 := hid hk1; clear hm1 hk1))
    have k1 := HK1.out
    have u0 := r0 _ k1
    have u3 := r3 _ k1
    have z3 := g3 _ k1
    have v0 := t0 _ k1
    have v1 := t1 _ k1
    have v2 := t2 _ k1
    have v3 := t3 _ k1
    have hsl1 : s < w1.heap.size := Nat.lt_of_lt_of_le hsl k1.size
    have hxl1 : x < w1.heap.size := Nat.lt_of_lt_of_le hxl k1.size
    have hyl1 : y < w1.heap.size := Nat.lt_of_lt_of_le hyl k1.size
    have HROW : Hid (∀ o, Row (w1.alloc o) 165 4 (.slice a cs.length cap) cs.length (chgs cs)) := fun o => (HR.out.kp k1 (fun k hk e => HM.out.row HR.out (by rw [← e]; exact hk))).kept ((Kp.refl _ _).alloc _)
    have HSRC : Hid (Src (w1.alloc (.cells #[.int .i64 (c.kind : Int), .string sn, .string st, .pointer pv] 165)) (.slice (some ⟨w1.heap.size, 0, none⟩) 1 1) 1 4 (chgCells c)) := by
      have h := Src.one w1 (chgCells c) 4 165 rfl (chgCells_one c)
      rw [HO.out] at h ⊢
      exact h
    have HSZ := hid k1.size
    clear r0 r1 r3 g3 t0 t1 t2 t3 k1 HD
    go_wp2_with fail
    clear hq c1 c3 f3 b0 d0 d1 d2 d3 hmx hmx1 hmx2 hsl hxl hyl hml hsx

    go_region_law (refine step_app _ (by rfl) (.tmp 26) (.tmp 28) 96 165 _ 4 48 (by rfl) Tryz.underlying96 Tryz.infoChg rfl (by decide) (.slice a cs.length cap) (.slice (some ⟨w1.heap.size, 0, none⟩) 1 1) cs.length 1 (chgs cs) (chgCells c) (by simp [Act.eval]) (by simp [Act.eval]) (HROW.out _) HSRC.out (by omega) (by decide) ?_; intro a2 cap2 w2 hr2 hg2 hb2; have HR2 := hid hr2; have HG2 := hid hg2; have HB2 := hid hb2; have y3 : w2.cell? ⟨s, 3, none⟩ = some (.slice a cs.length cap) := hg2.cell ((World.cell?_alloc_past _ _ _ hsl1).trans u3) (fun e => (HSV.out s e.symm).1 rfl); have yz : w2.frozen? ⟨s, 3, none⟩ = false := ((Kp.ofGrown hg2).frozen (p := ⟨s, 3, none⟩) (by simp; omega) (fun e => (HSV.out s e).1 rfl)).trans ((World.frozen?_alloc_past _ _ _ hsl1).trans z3); have yx : w2.cell? ⟨x, 0, none⟩ = some (.pointer (some ⟨s, 0, none⟩)) := hg2.cell ((World.cell?_alloc_past _ _ _ hxl1).trans u0) (fun e => (HSV.out x e.symm).2.1 rfl); clear hr2 hg2 hb2)
    all_goals
      go_end0
      have hE := chg1_end wc w1 w2 ma c l _ cs _ a2 cap2 HM.out HR.out HM1.out HK1.out HR2.out HG2.out HB2.out
      exact ⟨rfl, wc, ma, _, w2, HB.out, hE.1, hE.2.1, hE.2.2.1, rfl, hE.2.2.2⟩

end Go.Proofs.YtophnjcoaglbnaaGreatDoor.Sim
end

section
/-
  A change of the system: the state behind it; change, Create, Remove, Rename.
-/
namespace Go.Proofs.YtophnjcoaglbnaaGreatDoor.Sim
open Go.RowKit Go.Maps

/-- P, and what is new. -/
def Ext (P : Nat → Prop) (w w' : World) : Nat → Prop := fun x => P x ∨ (w.heap.size ≤ x ∧ x < w'.heap.size)

/-- What a call leaves: the system of the state q, at s; what is not its own is as it was. -/
def Done (P : Nat → Prop) (N : Nat) (w w' : World) (s : Nat) (q : PS) : Prop := ∃ P', Sys P' N w' s q ∧ Kp P w w' ∧ ∀ x, P' x → P x ∨ w.heap.size ≤ x
theorem Done.of {P : Nat → Prop} {N : Nat} {w w' : World} {s : Nat} {q : PS} (h : Sys P N w' s q) (k : Kp P w w') : Done P N w w' s q := ⟨P, h, k, fun _ h => .inl h⟩
theorem Done.more {P : Nat → Prop} {N M : Nat} {w w' : World} {s : Nat} {q : PS} (h : Done P N w w' s q) (hm : N ≤ M) (hb : M ≤ 1000) : Done P M w w' s q := by
  obtain ⟨P', h1, h2, h3⟩ := h
  exact ⟨P', h1.more hm hb, h2, h3⟩
theorem Done.after {P : Nat → Prop} {N : Nat} {u w w' : World} {s : Nat} {q : PS} (h : Done P N w w' s q) (k : Kp No u w) : Done P N u w' s q := by
  obtain ⟨P', h1, h2, h3⟩ := h
  refine ⟨P', h1, (k.mono (fun _ h => h.elim)).trans h2 (fun x hx => .inl hx), fun x hx => ?_⟩
  rcases h3 x hx with h | h
  · exact .inl h
  · exact .inr (Nat.le_trans k.size h)
theorem Done.kept {P : Nat → Prop} {N : Nat} {u w w' : World} {s : Nat} {q : PS} (h : Done P N u w s q) (k : Kp No w w') : Done P N u w' s q := by
  obtain ⟨P', h1, h2, h3⟩ := h
  exact ⟨P', h1.kept k, h2.andNone k, h3⟩

theorem inv_chgd {M : Nat} {q : PS} {c : PC} (h : PInv M q) (hok : okc q.seen c) (hn : c.nm.length ≤ 40 ∧ c.to.length ≤ 40) (h1 : q.safe.length + q.chg.length + 1 ≤ M)
    (h0 : c.kind = 0 → (q.files c.file).isSome = true ∧ c.file ∉ q.safe.map (·.2) ++ (q.chg.filter (fun c => c.kind == 0)).map (·.file)) : PInv M (chgd c q) :=
  { h with
    seen_eq := by show pdo q.seen c = (q.chg ++ [c]).foldl pdo q.safe; rw [List.foldl_append, ← h.seen_eq]; rfl
    okc := by show okcs q.safe (q.chg ++ [c]); rw [okcs_append, ← h.seen_eq]; exact ⟨h.okc, hok, trivial⟩
    hasC := fun d hd hk => by
      rcases List.mem_append.1 hd with hd | hd
      · exact h.hasC d hd hk
      · simp at hd; subst hd; exact (h0 hk).1
    nodup := by
      show (q.safe.map (·.2) ++ ((q.chg ++ [c]).filter (fun c => c.kind == 0)).map (·.file)).Nodup
      rw [List.filter_append, List.map_append, ← List.append_assoc]
      by_cases hk : c.kind = 0
      · rw [List.nodup_append]
        refine ⟨h.nodup, by simp [hk], fun a ha b hb => ?_⟩
        simp [hk] at hb
        intro e
        subst e hb
        exact (h0 hk).2 ha
      · simp [hk]
        exact h.nodup
    nmC := fun d hd => by
      rcases List.mem_append.1 hd with hd | hd
      · exact h.nmC d hd
      · simp at hd; subst hd; exact hn
    nmade := fun e => by cases e
    lsum := by show q.safe.length + (q.chg ++ [c]).length ≤ M; simp; omega }

theorem rp_chgd {P : Nat → Prop} {N M : Nat} {W wx W1 w' : World} {s ma : Nat} {q : PS} {vs vf vc vc' : Value} {u : Nat → Value} {c : PC} (h : Rp P (PInv N) W s q vs vf vc u)
    (hB : Begun W s (.int .i64 (q.room : Int)) vc (.bool q.down) (.bool q.armed) (.int .i64 (q.left : Int)) (.int .i64 (q.steps : Int)) vs q.seen wx ma) (hm : MapAt W1 ma (pdo q.seen c)) (hr : Row W1 165 4 vc' (q.chg.length + 1) (chgs (q.chg ++ [c])))
    (hk : Kp (fun k => k = ma ∨ vc.ownBlock = some k) wx W1) (hw : w' = W1.setCell ⟨s, 3, none⟩ vc') (hv : ∀ k, vc'.ownBlock = some k → vc.ownBlock = some k ∨ wx.heap.size ≤ k) (hi : PInv M (chgd c q)) :
    Sys (Ext P W w') M w' s (chgd c q) ∧ Kp P W w' := by
  obtain ⟨vf0, hs0, hm0, hk0⟩ := hB.facts (vf := vf) h.blk
  have hma : (P ma ∨ W.heap.size ≤ ma) ∧ ∀ b t cs, Blk W b t cs → b ≠ ma := by
    rcases hB with ⟨rfl, rfl, hm1⟩ | ⟨_, _, mf, _, _, _, _, _, h1, _⟩
    · exact ⟨.inl (h.mapS.1 ma rfl), fun b t cs hb => Ne.symm (hm1.blk hb)⟩
    · exact ⟨.inr h1, fun b t cs hb => by have := hb.lt; omega⟩
  have hmr : ∀ {e : TypeId} {sz n : Nat} {v : Value} {xs : List Value}, Row W e sz v n xs → ∀ x, v.ownBlock = some x → x ≠ ma := by
    intro e sz n v xs hrow x hx
    rcases hB with ⟨rfl, rfl, hm1⟩ | ⟨_, _, mf, _, _, _, _, _, h1, _⟩
    · intro e; exact hm1.row hrow (by rw [hx, e])
    · have := hrow.lt x hx; omega
  -- all that changes
  have K1 : Kp (fun k => k = s ∨ k = ma ∨ vc.ownBlock = some k) W W1 := (hk0.mono (fun x hx => .inl (.inl hx))).trans hk (fun x hx => .inl (.inr hx))
  have K : Kp (fun k => k = s ∨ k = ma ∨ vc.ownBlock = some k) W w' := by
    rw [hw]
    exact K1.setCell (p := ⟨s, 3, none⟩) (.inl (.inl rfl)) _
  have hsm : s ≠ ma := hma.2 s _ _ h.blk
  have hsv : vc.ownBlock ≠ some s := h.chg.ne h.blk (by decide)
  have KP : Kp P W w' := K.mono (fun x hx => by
    rcases hx with rfl | rfl | hx
    · exact .inl h.ps
    · exact hma.1
    · exact .inl (h.pc x hx))
  have kset : Kp (· = s) W1 w' := by rw [hw]; exact Kp.set1 _ _ _ _
  have hs1 : Blk W1 s 103 _ := hs0.kp hk (fun e => by
    rcases e with e | e
    · exact hsm e
    · exact hsv e)
  have hsb : Blk w' s 103 (fsCells (chgd c q) (.map (some ma)) vf0 vc') := by rw [hw]; exact hs1.setCell 3 vc'
  have hmw : MapAt w' ma (pdo q.seen c) := hm.kp kset (hm.blk hs1)
  -- the safe directory
  have hsafe : ∃ mf, vf0 = .map (some mf) ∧ mf ≠ ma ∧ MapAt w' mf q.safe ∧ (P mf ∨ W.heap.size ≤ mf) := by
    rcases hB with ⟨hwx, hvs, hm1⟩ | ⟨hvs, hl, mf, h1, h2, h3, h4, h5, h6, h7⟩
    · subst hwx hvs
      have hmade : q.made = true := by
        cases hmd : q.made with
        | true => rfl
        | false => have := (h.unmade hmd).1; cases this
      obtain ⟨a, b, ha, hb, hab, pa, pb⟩ := h.mades hmade
      cases ha
      have hvf : vf0 = vf := by
        have e1 := hs0.cell 2
        have e2 := h.blk.cell 2
        rw [e2] at e1
        simpa [fsCells] using e1.symm
      subst hvf hb
      refine ⟨b, rfl, Ne.symm hab, ?_, .inl pb⟩
      rcases h.safe with ⟨e, _⟩ | ⟨b', e, hmb⟩
      · cases e
      · cases e
        exact hmb.kp K (fun e => by
          rcases e with e | e | e
          · exact hmb.blk h.blk e
          · exact hab e.symm
          · exact hmb.row h.chg e)
    · have hvf0 : vf0 = .map (some mf) := by
        have e1 := hs0.cell 2
        have e2 := h2.cell 2
        rw [e2] at e1
        simpa using e1.symm
      subst hvf0
      have hmd : q.made = false := by
        cases hmd : q.made with
        | false => rfl
        | true => obtain ⟨a, b, ha, _⟩ := h.mades hmd; rw [hvs] at ha; cases ha
      rw [(h.inv.nmade hmd).2]
      refine ⟨mf, rfl, Ne.symm h5, ?_, .inr h7⟩
      have h8 := h4.kp hk (fun e => by
        rcases e with e | e
        · exact h5 e.symm
        · have := h.chg.lt mf e; omega)
      exact h8.kp kset (fun e => by have := h.blk.lt; omega)
  obtain ⟨mf, hvf0, hne, hmf, hpf⟩ := hsafe
  subst hvf0
  have hrw : Row w' 165 4 vc' (q.chg.length + 1) (chgs (q.chg ++ [c])) := hr.kp kset (fun x hx e => hr.ne hs1 (by decide) (by rw [hx, e]))
  have hin : ∀ x, P x ∨ W.heap.size ≤ x → x < w'.heap.size → Ext P W w' x := fun x hx hl => by
    rcases hx with h | h
    · exact .inl h
    · exact .inr ⟨h, hl⟩
  refine ⟨⟨.map (some ma), .map (some mf), vc', u, ?_⟩, KP⟩
  exact {
    lt := fun x hx => by
      rcases hx with hx | hx
      · exact Nat.lt_of_lt_of_le (h.lt x hx) K.size
      · exact hx.2
    ps := .inl h.ps
    blk := hsb
    seen := .inr ⟨ma, rfl, hmw⟩
    safe := .inr ⟨mf, rfl, hmf⟩
    unmade := fun e => by cases e
    mades := fun _ => ⟨ma, mf, rfl, rfl, Ne.symm hne, hin ma hma.1 hmw.lt, hin mf hpf hmf.lt⟩
    chg := by
      show Row w' 165 4 vc' (q.chg ++ [c]).length _
      rw [List.length_append]
      exact hrw
    pc := fun x hx => hin x (by
      rcases hv x hx with h1 | h1
      · exact .inl (h.pc x h1)
      · exact .inr (Nat.le_trans hk0.size h1)) (hrw.lt x hx)
    file := fun b f hf => by
      obtain ⟨h1, h2, h3⟩ := h.file b f hf
      refine ⟨.inl h1, h2.kp K (fun e => ?_) (fun x hx e => ?_), fun x hx => .inl (h3 x hx)⟩
      · rcases e with e | e | e
        · exact h2.blk.ne h.blk (by decide) e
        · exact hma.2 b _ _ h2.blk e
        · exact h.chg.ne h2.blk (by decide) e
      · rcases e with e | e | e
        · exact h2.own.row.ne h.blk (by decide) (by rw [hx, e])
        · exact hmr h2.own.row x hx e
        · exact h2.own.row.ne' h.chg (by decide) x hx e
    sep := h.sep
    inv := hi }

theorem hmf (fn : Fn) (first cap : Array Value) (w : World) : (Instr.makeFunc fn first cap).run Tryz.prog w = .ok (.func fn first cap) w := rfl

set_option maxHeartbeats 2000000 in
/-- change: a step, and then the change. -/
theorem change_any {P P2 : Nat → Prop} {N : Nat} (w : World) (s : Nat) (p q : PS) (c : PC) (h : Sys P N w s p) (hN : N + 1 ≤ 1000) (hpre : ∀ W, Kp (· = s) w W → Sys P (N + 1) W s (tick p) → Sys P2 (N + 1) W s q) (hlt2 : ∀ x, P2 x → x < w.heap.size)
    (hok : okc q.seen c) (hn : c.nm.length ≤ 1000000 ∧ c.to.length ≤ 1000000) (hi : PInv (N + 1) (chgd c q)) :
    Calls Tryz.prog 88 #[.pointer (some ⟨s, 0, none⟩), .agg (chgCells c).toArray] w fun e w' =>
      (dead p = true ∧ e = .returned (.int .i64 12) ∧ Sys P N w' s (fall p) ∧ Kp (· = s) w w') ∨
      (dead p = false ∧ e = .returned (.int .i64 0) ∧ ∃ P', Sys P' (N + 1) w' s (chgd c q) ∧ Kp P2 w w' ∧ ∀ x, P' x → P2 x ∨ w.heap.size ≤ x) := by
  have hm := hmf
  have HO : Hid (chgCells c = [.int .i64 (c.kind : Int), .string (sOf c.nm), .string (sOf c.to), ptrV (pcV c)]) := rfl
  obtain ⟨pv, hpv⟩ : ∃ pv, ptrV (pcV c) = .pointer pv := ⟨_, rfl⟩
  rw [hpv] at HO
  have hsl := h.lt s (by obtain ⟨_, _, _, _, h⟩ := h; exact h.ps)
  have HH := hid h
  rw [HO.out]
  -- the two boxes
  have kw : Hid (Kp No w ((w.alloc (.cells #[.pointer (some ⟨s, 0, none⟩)] 31)).alloc (.cells #[.int .i64 (c.kind : Int), .string (sOf c.nm), .string (sOf c.to), .pointer pv] 165))) := ((Kp.refl _ _).alloc _).alloc _
  have hb1 : Hid (Blk ((w.alloc (.cells #[.pointer (some ⟨s, 0, none⟩)] 31)).alloc (.cells #[.int .i64 (c.kind : Int), .string (sOf c.nm), .string (sOf c.to), .pointer pv] 165)) w.heap.size 31 [.pointer (some ⟨s, 0, none⟩)]) := (Blk.new w 31 [.pointer (some ⟨s, 0, none⟩)]).kp (L := No) ((Kp.refl _ _).alloc _) (fun h => h)
  have hb2 : Hid (Blk ((w.alloc (.cells #[.pointer (some ⟨s, 0, none⟩)] 31)).alloc (.cells #[.int .i64 (c.kind : Int), .string (sOf c.nm), .string (sOf c.to), .pointer pv] 165)) (w.heap.size + 1) 165 (chgCells c)) := by
    have := Blk.new (w.alloc (.cells #[.pointer (some ⟨s, 0, none⟩)] 31)) 165 (chgCells c)
    unfold Hid
    rw [HO.out] at this ⊢
    simpa using this
  have hsz : Hid (((w.alloc (.cells #[.pointer (some ⟨s, 0, none⟩)] 31)).alloc (.cells #[.int .i64 (c.kind : Int), .string (sOf c.nm), .string (sOf c.to), .pointer pv] 165)).heap.size = w.heap.size + 2) := by simp [Hid]
  have q0 : ((w.alloc (.cells #[.pointer (some ⟨s, 0, none⟩)] 31)).alloc (.cells #[.int .i64 (c.kind : Int), .string (sOf c.nm), .string (sOf c.to), .pointer pv] 165)).cell? ⟨w.heap.size, 0, none⟩ = some (.pointer (some ⟨s, 0, none⟩)) := hb1.out.cell 0
  cases hd : dead p with
  | true =>
    have HC := hid (step_dead _ s p (h.kept kw.out) hd (.func (.func 123) #[] #[.pointer (some ⟨w.heap.size, 0, none⟩), .pointer (some ⟨w.heap.size + 1, 0, none⟩)]))
    generalize sOf c.nm = sn at *
    generalize sOf c.to = st at *
    clear hb1 hb2 hsz h hpv
    go_enter Tryz.func88, Tryz.ntmps88
    go_wp2_with (go_at_call 94; refine (HC.out).mono ?_; rintro e w1 ⟨rfl, h1, h2⟩; have H1 := hid h1; have H2 := hid h2; clear h1 h2)
    go_ret
    exact .inl ⟨by first | rfl | trivial, rfl, H1.out, (kw.out.mono (fun _ h => h.elim)).trans H2.out (fun x hx => .inl hx)⟩
  | false =>
    have HC : Hid (Calls Tryz.prog 94 #[.pointer (some ⟨s, 0, none⟩), .func (.func 123) #[] #[.pointer (some ⟨w.heap.size, 0, none⟩), .pointer (some ⟨w.heap.size + 1, 0, none⟩)]] ((w.alloc (.cells #[.pointer (some ⟨s, 0, none⟩)] 31)).alloc (.cells #[.int .i64 (c.kind : Int), .string (sOf c.nm), .string (sOf c.to), .pointer pv] 165)) fun e w' => e = .returned (.int .i64 0) ∧
        ∃ P', Sys P' (N + 1) w' s (chgd c q) ∧ Kp P2 w w' ∧ ∀ x, P' x → P2 x ∨ w.heap.size ≤ x) := by
      refine step_live _ s p (h.kept kw.out) hd hN 123 _ (enters_of Tryz.func123 (by kernel_rfl) rfl) _ ?_
      intro W hkW hsW
      have kW : Kp (· = s) w W := (kw.out.mono (fun _ h => h.elim)).trans hkW (fun x hx => .inl hx)
      obtain ⟨vs, vf, vc, u, hR⟩ := hpre W kW hsW
      have hxW := hb1.out.kp hkW (fun e => by omega)
      have hyW := hb2.out.kp hkW (fun e => by omega)
      have hI := hR.inv
      have hb := hI.big
      have hse : (∃ ma, vs = .map (some ma) ∧ MapAt W ma q.seen) ∨ (vs = .map none ∧ vf = .map none ∧ q.seen = []) := by
        rcases hR.seen with ⟨e1, e2⟩ | ⟨b, e1, e2⟩
        · refine .inr ⟨e1, ?_, e2⟩
          cases hmd : q.made with
          | false => exact (hR.unmade hmd).2
          | true => obtain ⟨a, b, ha, _⟩ := hR.mades hmd; rw [e1] at ha; cases ha
        · exact .inl ⟨b, e1, e2⟩
      refine (chg1_any W s w.heap.size (w.heap.size + 1) c q.seen _ vs vf vc _ _ _ _ q.chg hxW hyW hR.blk hse hR.chg hok hn (by have := hI.lseen; omega) (by have := hI.lchg; omega) (fun e => by have := hlt2 _ (hR.pc _ e); omega)).mono ?_
      rintro e w' ⟨rfl, wx, ma, vc', W1, hB, hm1, hr1, hk1, hw1, hv1⟩
      obtain ⟨hS, hK⟩ := rp_chgd hR hB hm1 hr1 hk1 hw1 hv1 hi
      refine ⟨rfl, _, hS, (kW.mono (fun x hx => .inl (by subst hx; exact hR.ps))).trans hK (fun x hx => .inl hx), fun x hx => ?_⟩
      rcases hx with hx | hx
      · exact .inl hx
      · exact .inr (Nat.le_trans kW.size hx.1)
    generalize sOf c.nm = sn at *
    generalize sOf c.to = st at *
    clear hb1 hb2 hsz h hpv
    go_enter Tryz.func88, Tryz.ntmps88
    go_wp2_with (go_at_call 94; refine (HC.out).mono ?_; rintro e w1 ⟨rfl, h1⟩; have H1 := hid h1; clear h1)
    go_ret
    exact .inr ⟨by first | rfl | trivial, rfl, H1.out⟩

end Go.Proofs.YtophnjcoaglbnaaGreatDoor.Sim
end

section
/-
  Create, Remove, Rename.
-/
namespace Go.Proofs.YtophnjcoaglbnaaGreatDoor.Sim
open Go.RowKit Go.Maps

theorem inv_setF {M : Nat} {q : PS} {b : Nat} {f : Fl} (h : PInv M q) (hl : f.b.length ≤ 200 * M) : PInv M (setF b f q) :=
  { h with
    has := fun e he => by show (if e.2 = b then some f else q.files e.2).isSome = true; split; rfl; exact h.has e he
    hasC := fun c hc hk => by show (if c.file = b then some f else q.files c.file).isSome = true; split; rfl; exact h.hasC c hc hk
    lfile := fun x g hg => by
      have hg' : (if x = b then some f else q.files x) = some g := hg
      split at hg'
      · cases hg'; exact hl
      · exact h.lfile x g hg' }
/-- A file more. -/
theorem sys_add {P : Nat → Prop} {M : Nat} {W : World} {s b : Nat} {q : PS} (h : Sys P M W s q) (hb : Blk W b 142 [.slice none 0 0, .int .i64 0]) (hn : ¬ P b) : Sys (fun x => P x ∨ x = b) M W s (setF b ⟨[], 0⟩ q) := by
  obtain ⟨vs, vf, vc, u, h⟩ := h
  refine ⟨vs, vf, vc, fun x => if x = b then .slice none 0 0 else u x, ?_⟩
  have hold : ∀ x g, q.files x = some g → x ≠ b := fun x g hg e => hn (e ▸ (h.file x g hg).1)
  exact {
    lt := fun x hx => by
      rcases hx with hx | rfl
      · exact h.lt x hx
      · exact hb.lt
    ps := .inl h.ps
    blk := h.blk
    seen := h.seen
    safe := h.safe
    unmade := h.unmade
    mades := fun e => by obtain ⟨a, c, h1, h2, h3, h4, h5⟩ := h.mades e; exact ⟨a, c, h1, h2, h3, .inl h4, .inl h5⟩
    chg := h.chg
    pc := fun x hx => .inl (h.pc x hx)
    file := fun x g hg => by
      have hg' : (if x = b then some ⟨[], 0⟩ else q.files x) = some g := hg
      split at hg'
      · rename_i e
        subst e
        cases hg'
        exact ⟨.inr rfl, by simp only [if_true]; exact ⟨hb, OwnB.nil _, by simp, Nat.le_refl _⟩, by simp [Value.ownBlock]⟩
      · rename_i e
        obtain ⟨h1, h2, h3⟩ := h.file x g hg'
        rw [if_neg e]
        exact ⟨.inl h1, h2, fun y hy => .inl (h3 y hy)⟩
    sep := fun x y f g hf hg hne z hz => by
      have hf' : (if x = b then some ⟨[], 0⟩ else q.files x) = some f := hf
      have hg' : (if y = b then some ⟨[], 0⟩ else q.files y) = some g := hg
      by_cases ex : x = b
      · rw [if_pos ex] at hz
        simp [Value.ownBlock] at hz
      · rw [if_neg ex] at hz hf'
        by_cases ey : y = b
        · rw [if_pos ey]
          simp [Value.ownBlock]
        · rw [if_neg ey] at hg' ⊢
          exact h.sep x y f g hf' hg' hne z hz
    inv := inv_setF h.inv (by simp) }

theorem Sys.c {P : Nat → Prop} {N : Nat} {w : World} {s : Nat} {p : PS} (h : Sys P N w s p) : P s ∧ s < w.heap.size ∧ w.cell? ⟨s, 4, none⟩ = some (.bool p.down) ∧ ∃ vs, w.cell? ⟨s, 1, none⟩ = some vs ∧ MapV w vs p.seen := by
  obtain ⟨vs, vf, vc, u, h⟩ := h
  exact ⟨h.ps, h.lt s h.ps, h.c 4, vs, h.c 1, h.seen⟩

theorem create_nil (t : ByteArray) (w : World) : Calls Tryz.prog 54 #[.pointer none, .string t] w fun e w' => e = .returned (.int .i64 18) ∧ Kp No w w' := by
  go_enter Tryz.func54, Tryz.ntmps54
  go_wp2_with (go_at_call 51; refine (wrong_nil _ _).mono ?_; rintro e w1 ⟨rfl, h1⟩; subst w1)
  go_ret
  exact ⟨rfl, (Kp.refl _ _).alloc _⟩

theorem wrongs_one {p : PS} {n : Nm} (h : wrongs p [n] = 0) : p.down = false ∧ nameB n = true := by
  unfold wrongs at h
  split at h
  · cases h
  · rename_i h1
    split at h
    · rename_i h2
      exact ⟨by simpa using h1, by simpa using h2⟩
    · cases h
theorem nameB_len {n : Nm} (h : nameB n = true) : n.length ≤ 40 := by
  unfold nameB at h
  simp only [Bool.and_eq_true, decide_eq_true_eq] at h
  exact h.1.2

/-- What change_any gives, as data. -/
theorem Done.ofChange {P P2 : Nat → Prop} {N : Nat} {w0 w w' : World} {s : Nat} {p q : PS} {c : PC} {e : Ending} (k0 : Kp No w0 w) (hP2 : ∀ x, P2 x → P x ∨ w0.heap.size ≤ x) (hN : N + 1 ≤ 1000) (hps : P s) (g : PS → PS) (hq : q = g (tick p))
    (h : (dead p = true ∧ e = .returned (.int .i64 12) ∧ Sys P N w' s (fall p) ∧ Kp (· = s) w w') ∨
      (dead p = false ∧ e = .returned (.int .i64 0) ∧ ∃ P', Sys P' (N + 1) w' s (chgd c q) ∧ Kp P2 w w' ∧ ∀ x, P' x → P2 x ∨ w.heap.size ≤ x)) :
    e = .returned (.int .i64 ((stp p (fun r => chgd c (g r))).1 : Nat)) ∧ Done P (N + 1) w0 w' s (stp p (fun r => chgd c (g r))).2 := by
  rcases h with ⟨hd, rfl, hS, hk⟩ | ⟨hd, rfl, P', hS, hk, hP'⟩
  · have e1 : stp p (fun r => chgd c (g r)) = (12, fall p) := by simp [stp, hd]
    rw [e1]
    exact ⟨rfl, P, hS.more (by omega) hN, (k0.mono (fun _ h => h.elim)).trans hk (fun x hx => .inl (by subst hx; exact hps)), fun _ h => .inl h⟩
  · have e1 : stp p (fun r => chgd c (g r)) = (0, chgd c q) := by simp [stp, hd, hq]
    rw [e1]
    refine ⟨rfl, P', hS, ?_, fun x hx => ?_⟩
    · refine ((k0.mono (fun _ h => h.elim)).trans hk hP2)
    · rcases hP' x hx with h | h
      · exact hP2 x h
      · exact .inr (Nat.le_trans k0.size h)

set_option maxHeartbeats 2000000 in
theorem create_any {P : Nat → Prop} {N : Nat} (w : World) (s : Nat) (p : PS) (t : ByteArray) (ht : t.size ≤ 1000000) (h : Sys P N w s p) (hN : N + 1 ≤ 1000) :
    Calls Tryz.prog 54 #[.pointer (some ⟨s, 0, none⟩), .string t] w fun e w' => ∃ b, p.files b = none ∧ e = .returned (.int .i64 ((pCreate (nm t) b p).1 : Nat)) ∧ Done P (N + 1) w w' s (pCreate (nm t) b p).2 := by
  obtain ⟨hps, hsl, q4, vs, q1, hV⟩ := h.c
  have hI := h.inv
  have HF : Hid (∀ b, w.heap.size ≤ b → p.files b = none) := fun b hb => by
    cases hf : p.files b with
    | none => rfl
    | some f =>
      obtain ⟨_, _, _, _, hR⟩ := h
      have := hR.lt b (hR.file b f hf).1
      omega
  have HC : Hid (Calls Tryz.prog 51 #[.pointer (some ⟨s, 0, none⟩), .slice (some ⟨w.heap.size, 0, none⟩) 1 1] (w.alloc (.cells #[.string t] 9)) fun e w' => e = .returned (.int .i64 (wrongs p [nm t] : Nat)) ∧ Kp No w w') := by
    refine (wrong_any s _ [nm t] p.down _ ?_ (NsAt.one w t ht)).mono ?_
    · exact (((Kp.refl No w).alloc _).cell (p := ⟨s, 4, none⟩) hsl (fun h => h.elim)).trans q4
    · rintro e w' ⟨rfl, hk⟩
      exact ⟨rfl, ((Kp.refl No w).alloc _).andNone hk⟩
  have hW : Hid (∀ W, Kp No w W → W.cell? ⟨s, 1, none⟩ = some vs ∧ (Instr.lookup 95 vs (.string t) false).run Tryz.prog W = .ok (ptrV (dfind p.seen (nm t))) W) := fun W k =>
    ⟨(k.cell (p := ⟨s, 1, none⟩) hsl (fun h => h.elim)).trans q1, (hV.kp k (fun _ _ h => h.elim)).lookS t ht⟩
  have H := hid h
  have HI := hid hI
  clear h q4 q1 hV hI
  by_cases hw : wrongs p [nm t] = 0
  · rw [hw] at HC
    obtain ⟨hdn, hnb⟩ := wrongs_one hw
    have hnl := nameB_len hnb
    cases hd : dfind p.seen (nm t) with
    | some b =>
      have e1 : ∀ b, pCreate (nm t) b p = (6, p) := fun b => by simp [pCreate, hw, hd]
      have HE := hid e1
      rw [hd] at hW
      clear e1 hd hw hdn hnb
      go_enter Tryz.func54, Tryz.ntmps54
      go_wp2_with (go_at_call 51; refine (HC.out).mono ?_; rintro e w1 ⟨rfl, hk⟩; have HK := hid hk; obtain ⟨r1, r2⟩ := hW.out _ hk; have e0 : ptrV (some b) = .pointer (some ⟨b, 0, none⟩) := rfl; rw [e0] at r2; clear hk e0)
      go_ret
      refine ⟨w.heap.size, HF.out _ (Nat.le_refl _), ?_, ?_⟩
      · rw [HE.out]; rfl
      · rw [HE.out]
        exact (Done.of (H.out.more (by omega) hN) (Kp.refl _ _)).kept HK.out
    | none =>
      have e1 : ∀ b, pCreate (nm t) b p = stp p (fun q => chgd ⟨0, nm t, [], b⟩ (setF b ⟨[], 0⟩ q)) := fun b => by simp [pCreate, hw, hd]
      have HE := hid e1
      have HD := hid hd
      rw [hd] at hW
      have HCH : Hid (∀ w1, Kp No w w1 → Calls Tryz.prog 88 #[.pointer (some ⟨s, 0, none⟩), .agg #[.int .i64 0, .string t, .string ⟨#[]⟩, .pointer (some ⟨w1.heap.size, 0, none⟩)]] (w1.alloc (.cells #[.slice none 0 0, .int .i64 0] 142)) fun e w' =>
          e = .returned (.int .i64 ((stp p (fun q => chgd ⟨0, nm t, [], w1.heap.size⟩ (setF w1.heap.size ⟨[], 0⟩ q))).1 : Nat)) ∧ Done P (N + 1) w w' s (stp p (fun q => chgd ⟨0, nm t, [], w1.heap.size⟩ (setF w1.heap.size ⟨[], 0⟩ q))).2) := by
        intro w1 hk
        have hk2 : Kp No w (w1.alloc (.cells #[.slice none 0 0, .int .i64 0] 142)) := hk.alloc _
        have hcc : (chgCells ⟨0, nm t, [], w1.heap.size⟩).toArray = #[.int .i64 0, .string t, .string ⟨#[]⟩, .pointer (some ⟨w1.heap.size, 0, none⟩)] := by
          simp only [chgCells, sOf_nm]
          rfl
        have hnew : w.heap.size ≤ w1.heap.size := hk.size
        have hnP : ¬ P w1.heap.size := fun hp => by have := H.out.lt _ hp; omega
        have hfz := HF.out _ hnew
        have hc := change_any (P := P) (P2 := fun x => P x ∨ x = w1.heap.size) (w1.alloc (.cells #[.slice none 0 0, .int .i64 0] 142)) s p (setF w1.heap.size ⟨[], 0⟩ (tick p)) ⟨0, nm t, [], w1.heap.size⟩ (H.out.kept hk2) hN
          (fun W kW hsW => sys_add hsW ((Blk.new w1 142 [.slice none 0 0, .int .i64 0]).kp kW (fun e => by omega)) hnP) (fun x hx => by
            rcases hx with hx | rfl
            · have := H.out.lt x hx; simp; omega
            · simp) ⟨Nat.zero_le _, fun e => by cases e⟩ ⟨by rw [nm_len]; exact ht, by simp⟩ ?_
        · rw [hcc] at hc
          refine hc.mono ?_
          intro e w' h'
          exact Done.ofChange (g := setF w1.heap.size ⟨[], 0⟩) hk2 (fun x hx => by
            rcases hx with hx | rfl
            · exact .inl hx
            · exact .inr hnew) hN hps rfl h'
        · have hT := inv_setF (b := w1.heap.size) (f := ⟨[], 0⟩) (HI.out.tick hN) (by simp)
          refine inv_chgd hT ⟨Nat.zero_le _, fun e => by cases e⟩ ⟨hnl, by simp⟩ (by have := HI.out.lsum; show p.safe.length + p.chg.length + 1 ≤ N + 1; omega) (fun _ => ⟨by simp [setF], fun hm => ?_⟩)
          rcases List.mem_append.1 hm with hm | hm
          · obtain ⟨x, hx, hx2⟩ := List.mem_map.1 hm
            have := HI.out.has x hx
            rw [hx2, hfz] at this
            cases this
          · obtain ⟨x, hx, hx2⟩ := List.mem_map.1 hm
            obtain ⟨hx3, hx4⟩ := List.mem_filter.1 hx
            have := HI.out.hasC x hx3 (by simpa using hx4)
            have hx2' : x.file = w1.heap.size := hx2
            rw [hx2', hfz] at this
            cases this
      clear e1 hd hw hdn hnb
      go_enter Tryz.func54, Tryz.ntmps54
      go_wp2_with (first | (go_at_call 51; refine (HC.out).mono ?_; rintro e w1 ⟨rfl, hk⟩; have HK := hid hk; obtain ⟨r1, r2⟩ := hW.out _ hk; have e0 : ptrV none = .pointer none := rfl; rw [e0] at r2; clear hk e0) | (go_at_call 88; refine (HCH.out w1 HK.out).mono ?_; rintro e w2 ⟨rfl, h2⟩; have H2 := hid h2; clear h2))
      go_ret
      refine ⟨w1.heap.size, HF.out _ HK.out.size, ?_, ?_⟩
      · rw [HE.out]; rfl
      · rw [HE.out]; exact H2.out
  · have e1 : ∀ b, pCreate (nm t) b p = (wrongs p [nm t], p) := fun b => by simp [pCreate, hw]
    have HE := hid e1
    generalize wrongs p [nm t] = x at *
    have hne : ((x : Int) != 0) = true := by simp; omega
    clear e1 hw
    go_enter Tryz.func54, Tryz.ntmps54
    go_wp2_with (go_at_call 51; refine (HC.out).mono ?_; rintro e w1 ⟨rfl, hk⟩; have HK := hid hk; clear hk)
    go_ret
    refine ⟨w.heap.size, HF.out _ (Nat.le_refl _), ?_, ?_⟩
    · rw [HE.out]; rfl
    · rw [HE.out]
      exact (Done.of (H.out.more (by omega) hN) (Kp.refl _ _)).kept HK.out

/-- A change of a name that is there. -/
theorem HCH_of {P : Nat → Prop} {N : Nat} (w : World) (s : Nat) (p : PS) (c : PC) (t t' : ByteArray) (h : Sys P N w s p) (hN : N + 1 ≤ 1000) (hk0 : c.kind = 1 ∨ c.kind = 2) (hf : (dfind p.seen c.nm).isSome = true) (hn : c.nm.length ≤ 40 ∧ c.to.length ≤ 40) (e1 : sOf c.nm = t) (e2 : sOf c.to = t') (w1 : World) (hk : Kp No w w1) :
    Calls Tryz.prog 88 #[.pointer (some ⟨s, 0, none⟩), .agg #[.int .i64 (c.kind : Int), .string t, .string t', .pointer none]] w1 fun e w' =>
      e = .returned (.int .i64 ((stp p (chgd c)).1 : Nat)) ∧ Done P (N + 1) w w' s (stp p (chgd c)).2 := by
  have hI := h.inv
  have hcc : (chgCells c).toArray = #[.int .i64 (c.kind : Int), .string t, .string t', .pointer none] := by
    have : pcV c = none := by unfold pcV; rw [if_neg (by omega)]
    simp only [chgCells, e1, e2, this]
    rfl
  have hok : okc p.seen c := ⟨by omega, fun _ => hf⟩
  have hc := change_any (P := P) (P2 := P) w1 s p (tick p) c (h.kept hk) hN (fun W _ hsW => hsW) (fun x hx => Nat.lt_of_lt_of_le (h.lt x hx) hk.size) hok ⟨by omega, by omega⟩
    (inv_chgd (hI.tick hN) hok hn (by have := hI.lsum; show p.safe.length + p.chg.length + 1 ≤ N + 1; omega) (fun e => by omega))
  rw [hcc] at hc
  refine hc.mono ?_
  intro e w' h'
  exact Done.ofChange (g := fun r => r) hk (fun x hx => .inl hx) hN h.c.1 rfl h'

theorem remove_nil (t : ByteArray) (w : World) : Calls Tryz.prog 63 #[.pointer none, .string t] w fun e w' => e = .returned (.int .i64 18) ∧ Kp No w w' := by
  go_enter Tryz.func63, Tryz.ntmps63
  go_wp2_with (go_at_call 72; refine (find_nil t _).mono ?_; rintro e w1 ⟨rfl, h1⟩; have H1 := hid h1; clear h1)
  go_ret
  exact ⟨rfl, H1.out⟩

set_option maxHeartbeats 2000000 in
theorem remove_any {P : Nat → Prop} {N : Nat} (w : World) (s : Nat) (p : PS) (t : ByteArray) (ht : t.size ≤ 1000000) (h : Sys P N w s p) (hN : N + 1 ≤ 1000) :
    Calls Tryz.prog 63 #[.pointer (some ⟨s, 0, none⟩), .string t] w fun e w' => e = .returned (.int .i64 ((pRemove (nm t) p).1 : Nat)) ∧ Done P (N + 1) w w' s (pRemove (nm t) p).2 := by
  have HC := hid (find_any w s p t ht h)
  have hI := h.inv
  have H := hid h
  by_cases h0 : finds p (nm t) = 0
  · obtain ⟨b, hb⟩ := found_zero hI h0
    obtain ⟨_, hd, _⟩ := pBytes_of hb
    have e1 : pRemove (nm t) p = stp p (chgd ⟨1, nm t, [], 0⟩) := by simp [pRemove, h0]
    have hnl : (nm t).length ≤ 40 := (hI.hasSeen _ (mem_of_dfind hd)).2
    have HCH := hid (HCH_of w s p ⟨1, nm t, [], 0⟩ t ⟨#[]⟩ h hN (.inl rfl) (by rw [hd]; rfl) ⟨hnl, by simp⟩ (sOf_nm t) rfl)
    rw [e1]
    rw [h0, hb] at HC
    have e0 : ptrV (some b) = .pointer (some ⟨b, 0, none⟩) := rfl
    rw [e0] at HC
    generalize stp p (chgd ⟨1, nm t, [], 0⟩) = R at *
    clear e1 e0 hd hb h0 hI h
    go_enter Tryz.func63, Tryz.ntmps63
    go_wp2_with (first | (go_at_call 72; refine (HC.out).mono ?_; rintro e w1 ⟨rfl, h1⟩; have H1 := hid h1; clear h1) | (go_at_call 88; refine (HCH.out w1 H1.out).mono ?_; rintro e w2 ⟨rfl, h2⟩; have H2 := hid h2; clear h2))
    go_ret
    exact ⟨rfl, H2.out⟩
  · have e1 : pRemove (nm t) p = (finds p (nm t), p) := by simp [pRemove, h0]
    have hn : foundP p (nm t) = none := by simp [foundP, h0]
    rw [e1]
    rw [hn] at HC
    have e0 : ptrV none = .pointer none := rfl
    rw [e0] at HC
    generalize finds p (nm t) = x at *
    have hne : ((x : Int) != 0) = true := by simp; omega
    clear e1 e0 hn h0 hI h
    go_enter Tryz.func63, Tryz.ntmps63
    go_wp2_with (go_at_call 72; refine (HC.out).mono ?_; rintro e w1 ⟨rfl, h1⟩; have H1 := hid h1; clear h1)
    go_ret
    exact ⟨rfl, (Done.of (H.out.more (by omega) hN) (Kp.refl _ _)).kept H1.out⟩

theorem rename_nil (t t' : ByteArray) (w : World) : Calls Tryz.prog 99 #[.pointer none, .string t, .string t'] w fun e w' => e = .returned (.int .i64 18) ∧ Kp No w w' := by
  go_enter Tryz.func99, Tryz.ntmps99
  go_wp2_with (go_at_call 51; refine (wrong_nil _ _).mono ?_; rintro e w1 ⟨rfl, h1⟩; subst w1)
  go_ret
  exact ⟨rfl, (Kp.refl _ _).alloc _⟩

theorem wrongs_two {p : PS} {n m : Nm} (h : wrongs p [n, m] = 0) : p.down = false ∧ nameB n = true ∧ nameB m = true := by
  unfold wrongs at h
  split at h
  · cases h
  · rename_i h1
    split at h
    · rename_i h2
      exact ⟨by simpa using h1, by simpa using h2⟩
    · cases h

set_option maxHeartbeats 2000000 in
theorem rename_any {P : Nat → Prop} {N : Nat} (w : World) (s : Nat) (p : PS) (t t' : ByteArray) (ht : t.size ≤ 1000000) (ht' : t'.size ≤ 1000000) (h : Sys P N w s p) (hN : N + 1 ≤ 1000) :
    Calls Tryz.prog 99 #[.pointer (some ⟨s, 0, none⟩), .string t, .string t'] w fun e w' => e = .returned (.int .i64 ((pRename (nm t) (nm t') p).1 : Nat)) ∧ Done P (N + 1) w w' s (pRename (nm t) (nm t') p).2 := by
  obtain ⟨hps, hsl, q4, vs, q1, hV⟩ := h.c
  have HC : Hid (Calls Tryz.prog 51 #[.pointer (some ⟨s, 0, none⟩), .slice (some ⟨w.heap.size, 0, none⟩) 2 2] (w.alloc (.cells #[.string t, .string t'] 9)) fun e w' => e = .returned (.int .i64 (wrongs p [nm t, nm t'] : Nat)) ∧ Kp No w w') := by
    refine (wrong_any s _ [nm t, nm t'] p.down _ ?_ (NsAt.two w t t' ht ht')).mono ?_
    · exact (((Kp.refl No w).alloc _).cell (p := ⟨s, 4, none⟩) hsl (fun h => h.elim)).trans q4
    · rintro e w' ⟨rfl, hk⟩
      exact ⟨rfl, ((Kp.refl No w).alloc _).andNone hk⟩
  have hW : Hid (∀ W, Kp No w W → W.cell? ⟨s, 1, none⟩ = some vs ∧ (Instr.lookup 95 vs (.string t) false).run Tryz.prog W = .ok (ptrV (dfind p.seen (nm t))) W) := fun W k =>
    ⟨(k.cell (p := ⟨s, 1, none⟩) hsl (fun h => h.elim)).trans q1, (hV.kp k (fun _ _ h => h.elim)).lookS t ht⟩
  have H := hid h
  clear q4 q1 hV
  by_cases hw : wrongs p [nm t, nm t'] = 0
  · rw [hw] at HC
    obtain ⟨hdn, hn1, hn2⟩ := wrongs_two hw
    cases hd : dfind p.seen (nm t) with
    | none =>
      have e1 : pRename (nm t) (nm t') p = (5, p) := by simp [pRename, hw, hd]
      rw [e1]
      rw [hd] at hW
      clear e1 hd hw hdn h hn1 hn2
      go_enter Tryz.func99, Tryz.ntmps99
      go_wp2_with (go_at_call 51; refine (HC.out).mono ?_; rintro e w1 ⟨rfl, hk⟩; have HK := hid hk; obtain ⟨r1, r2⟩ := hW.out _ hk; have e0 : ptrV none = .pointer none := rfl; rw [e0] at r2; clear hk e0)
      go_ret
      exact ⟨rfl, (Done.of (H.out.more (by omega) hN) (Kp.refl _ _)).kept HK.out⟩
    | some b =>
      have e1 : pRename (nm t) (nm t') p = stp p (chgd ⟨2, nm t, nm t', 0⟩) := by simp [pRename, hw, hd]
      have HCH := hid (HCH_of w s p ⟨2, nm t, nm t', 0⟩ t t' h hN (.inr rfl) (by rw [hd]; rfl) ⟨nameB_len hn1, nameB_len hn2⟩ (sOf_nm t) (sOf_nm t'))
      rw [e1]
      rw [hd] at hW
      generalize stp p (chgd ⟨2, nm t, nm t', 0⟩) = R at *
      clear e1 hd hw hdn h hn1 hn2
      go_enter Tryz.func99, Tryz.ntmps99
      go_wp2_with (first | (go_at_call 51; refine (HC.out).mono ?_; rintro e w1 ⟨rfl, hk⟩; have HK := hid hk; obtain ⟨r1, r2⟩ := hW.out _ hk; have e0 : ptrV (some b) = .pointer (some ⟨b, 0, none⟩) := rfl; rw [e0] at r2; clear hk e0) | (go_at_call 88; refine (HCH.out w1 HK.out).mono ?_; rintro e w2 ⟨rfl, h2⟩; have H2 := hid h2; clear h2))
      go_ret
      exact ⟨rfl, H2.out⟩
  · have e1 : pRename (nm t) (nm t') p = (wrongs p [nm t, nm t'], p) := by simp [pRename, hw]
    rw [e1]
    generalize wrongs p [nm t, nm t'] = x at *
    have hne : ((x : Int) != 0) = true := by simp; omega
    clear e1 hw h
    go_enter Tryz.func99, Tryz.ntmps99
    go_wp2_with (go_at_call 51; refine (HC.out).mono ?_; rintro e w1 ⟨rfl, hk⟩; have HK := hid hk; clear hk)
    go_ret
    exact ⟨rfl, (Done.of (H.out.more (by omega) hN) (Kp.refl _ _)).kept HK.out⟩

end Go.Proofs.YtophnjcoaglbnaaGreatDoor.Sim
end

section
/-
  Plain mathematics of the tlv statements: trees of values by their depth, what their form takes, and their form; no program is named here.
-/
namespace Go.Proofs.YtophnjcoaglbnaaGreatDoor.Tlv

/-- A value nested at most n deep: its tag, its number, its bytes; the values in it. -/
def Tr : Nat → Type
  | 0 => Empty
  | n + 1 => (Int × Int × List Int) × List (Tr n)

def Tr.hd : {n : Nat} → Tr n → Int × Int × List Int
  | 0, t => by cases t
  | _ + 1, t => t.1

def Tr.kd {n : Nat} (t : Tr (n + 1)) : List (Tr n) := t.2

def Tr.mk {n : Nat} (tag num : Int) (bs : List Int) (ks : List (Tr n)) : Tr (n + 1) := ((tag, num, bs), ks)

/-- How many bytes a number takes. -/
def nsz (x : Int) : Int := ((Lib.bitLen x.toNat : Int) + 7) / 8

theorem bitLen_le64 (x : Nat) : Lib.bitLen x ≤ 64 := by
  have h : ∀ f x, Lib.bitLenAux f x ≤ f := by
    intro f
    induction f with
    | zero => intro x; simp [Lib.bitLenAux]
    | succ f ih => intro x; simp only [Lib.bitLenAux]; split; omega; have := ih (x / 2); omega
  exact h 64 x

theorem nsz_bd (x : Int) : 0 ≤ nsz x ∧ nsz x ≤ 8 := by
  have := bitLen_le64 x.toNat
  unfold nsz
  omega

/-- The other fields are empty. -/
def oeB (tag num : Int) (lb lk : Nat) : Bool := (tag == 1 || num == 0) && (tag == 2 || (lb : Int) == 0) && (tag == 3 || (lk : Int) == 0)

/-- The room that a list's values take, behind one another, 'acc' of it taken already. -/
def lszGo {α : Type} (f : α → Int → Int → Int × Bool) (room deep : Int) : Int → List α → Int × Bool
  | acc, [] => (acc, true)
  | acc, k :: ks => if (f k (room - acc - 3) (deep - 1)).2 then lszGo f room deep (acc + (3 + (f k (room - acc - 3) (deep - 1)).1)) ks else (0, false)

def lsz {α : Type} (f : α → Int → Int → Int × Bool) (ks : List α) (room deep : Int) : Int × Bool :=
  if deep = 0 then (0, false) else lszGo f room deep 0 ks

/-- What is behind the first three bytes of a form: how many bytes, and whether the value is right. -/
def bsz : (n : Nat) → Tr n → Int → Int → Int × Bool
  | 0, t, _, _ => by cases t
  | n + 1, t, room, deep =>
    if room < 0 ∨ oeB t.hd.1 t.hd.2.1 t.hd.2.2.length t.kd.length = false then (0, false)
    else if t.hd.1 = 1 then (nsz t.hd.2.1, decide (nsz t.hd.2.1 ≤ room))
    else if t.hd.1 = 2 then ((t.hd.2.2.length : Int), decide ((t.hd.2.2.length : Int) ≤ room))
    else if t.hd.1 = 3 then lsz (bsz n) t.kd room deep
    else (0, false)

/-- 'f' tells a room only where there is one. -/
def Fits {α : Type} (f : α → Int → Int → Int × Bool) : Prop := ∀ t room deep, (f t room deep).2 = true → 0 ≤ (f t room deep).1 ∧ (f t room deep).1 ≤ room

theorem lszGo_bd {α : Type} {f : α → Int → Int → Int × Bool} (hf : Fits f) (room deep : Int) (ks : List α) : ∀ acc, 0 ≤ acc → acc ≤ room →
    (lszGo f room deep acc ks).2 = true → acc ≤ (lszGo f room deep acc ks).1 ∧ (lszGo f room deep acc ks).1 ≤ room := by
  induction ks with
  | nil => intro acc h0 h1 _; simp [lszGo]; omega
  | cons k ks ih =>
    intro acc h0 h1 h2
    simp only [lszGo] at h2 ⊢
    split at h2
    · rename_i hk
      rw [if_pos hk]
      have b := hf k _ _ hk
      have := ih _ (by omega) (by omega) h2
      omega
    · simp at h2

theorem bsz_fits : ∀ n, Fits (bsz n)
  | 0, t, _, _, _ => by cases t
  | n + 1, t, room, deep, h => by
    simp only [bsz] at h ⊢
    split at h
    · simp at h
    · rename_i h0
      rw [if_neg h0]
      split at h
      · rename_i h1; rw [if_pos h1]; have := nsz_bd t.hd.2.1; simp at h ⊢; omega
      · rename_i h1
        rw [if_neg h1]
        split at h
        · rename_i h2; rw [if_pos h2]; simp at h ⊢; omega
        · rename_i h2
          rw [if_neg h2]
          split at h
          · rename_i h3
            rw [if_pos h3]
            unfold lsz at h ⊢
            split at h
            · simp at h
            · rename_i h4
              rw [if_neg h4]
              exact lszGo_bd (bsz_fits n) room deep _ 0 (by omega) (by have := not_or.1 h0; omega) h
          · simp at h

end Go.Proofs.YtophnjcoaglbnaaGreatDoor.Tlv
end

section
/-
  How values of tlv lie in memory, and what the small functions of the program do: math/bits.Len64, numberSize, othersEmpty, bytes.Clone, Number, Bytes, the reference's Bytes.
-/
namespace Go.Proofs.YtophnjcoaglbnaaGreatDoor.Tlv
open Go.RowKit

theorem Tryz.info5 : (Tryz.prog.info? 5).map (fun i => (i.zero, i.size, i.bytes)) = some (some (.int .u8 0), 1, 1) := by kernel_rfl
theorem Tryz.info171 : (Tryz.prog.info? 171).map (fun i => (i.zero, i.size, i.bytes)) = some (some (.agg #[.int .i64 0, .int .u64 0, .slice none 0 0, .slice none 0 0]), 4, 64) := by kernel_rfl

theorem hid {p : Prop} (h : p) : Hid p := h

/-- Of the blocks from L on, below B, w' holds what w held. -/
def Agree (L B : Nat) (w w' : World) : Prop := ∀ k, L ≤ k → k < B → w'.heap[k]? = w.heap[k]?

theorem Agree.refl (L B : Nat) (w : World) : Agree L B w w := fun _ _ _ => rfl
theorem Agree.trans {L B : Nat} {a b c : World} (h : Agree L B a b) (k : Agree L B b c) : Agree L B a c := fun i h1 h2 => (k i h1 h2).trans (h i h1 h2)
theorem Agree.mono {L L' B B' : Nat} {w w' : World} (h : Agree L B w w') (hL : L ≤ L') (hB : B' ≤ B) : Agree L' B' w w' := fun k h1 h2 => h k (by omega) (by omega)
theorem Agree.below {L B : Nat} {w w' : World} (h : Below B w w') : Agree L B w w' := fun k _ h2 => h.block k h2
theorem Agree.alloc {L B : Nat} {a w : World} (h : Agree L B a w) (hB : B ≤ w.heap.size) (o : Obj) : Agree L B a (w.alloc o) := h.trans fun k _ h2 => Below.heap_alloc _ _ _ (by omega)
theorem Agree.setCell {L B : Nat} {a w : World} (h : Agree L B a w) {p : Addr} (hp : p.block < L ∨ B ≤ p.block) (u : Value) : Agree L B a (w.setCell p u) := h.trans fun k h1 h2 => Below.heap_setCell _ _ _ _ (by omega)
theorem Agree.drew {L B : Nat} {a w : World} (h : Agree L B a w) : Agree L B a w.drew := h
theorem Agree.cell {L B : Nat} {w w' : World} (h : Agree L B w w') {p : Addr} (h1 : L ≤ p.block) (h2 : p.block < B) : w'.cell? p = w.cell? p := World.cell?_of_block (w := w) (h p.block h1 h2)

/-- v is a slice of the bytes bs, in blocks from L on, below B. -/
def BySl (L B : Nat) (w : World) (v : Value) (bs : List Int) : Prop :=
  ∃ a cap, v = .slice a bs.length cap ∧ bs.length ≤ cap ∧ cap ≤ maxLen ∧ (a = none → bs = [] ∧ cap = 0) ∧ bs.length ≤ 140737488355328 ∧ (∀ x ∈ bs, 0 ≤ x ∧ x ≤ 255) ∧
    (bs ≠ [] → ∃ b o, a = some ⟨b, o, none⟩ ∧ L ≤ b ∧ b < B ∧ ∀ i, i < bs.length → w.cell? ⟨b, o + i, none⟩ = some (.int .u8 (bs.getD i 0)))

/-- v is a slice of the values ks, each as R says, in blocks from L on, below B. -/
def KSl {n : Nat} (L B : Nat) (w : World) (R : Tr n → Value → Value → Prop) (v : Value) (ks : List (Tr n)) : Prop :=
  ∃ a cap, v = .slice a ks.length cap ∧ ks.length ≤ cap ∧ cap ≤ maxLen ∧ (a = none → ks = [] ∧ cap = 0) ∧ ks.length ≤ 2199023255552 ∧
    (ks ≠ [] → ∃ b o, a = some ⟨b, o, none⟩ ∧ L ≤ b ∧ b < B ∧ ∀ j t, ks[j]? = some t → ∃ sb sk, w.cell? ⟨b, o + j * 4, none⟩ = some (.int .i64 t.hd.1) ∧ w.cell? ⟨b, o + j * 4 + 1, none⟩ = some (.int .u64 t.hd.2.1) ∧
      w.cell? ⟨b, o + j * 4 + 2, none⟩ = some sb ∧ w.cell? ⟨b, o + j * 4 + 3, none⟩ = some sk ∧ R t sb sk)

/-- The tree t lies in w, in blocks from L on, below B, its bytes behind sb, its values behind sk. -/
def Rep (L B : Nat) (w : World) : (n : Nat) → Tr n → Value → Value → Prop
  | 0, t, _, _ => by cases t
  | n + 1, t, sb, sk => 0 ≤ t.hd.2.1 ∧ t.hd.2.1 ≤ 18446744073709551615 ∧ BySl L B w sb t.hd.2.2 ∧ KSl L B w (Rep L B w n) sk t.kd

theorem BySl.agree {L B L' B' : Nat} {w w' : World} {v : Value} {bs : List Int} (h : BySl L B w v bs) (hb : Agree L B w w') (hL : L' ≤ L) (hB : B ≤ B') : BySl L' B' w' v bs := by
  obtain ⟨a, cap, h1, h2, h3, h4, h5, h6, h7⟩ := h
  refine ⟨a, cap, h1, h2, h3, h4, h5, h6, fun hne => ?_⟩
  obtain ⟨b, o, e, hL', hbB, hc⟩ := h7 hne
  exact ⟨b, o, e, by omega, by omega, fun i hi => (hb.cell (p := ⟨b, o + i, none⟩) hL' hbB).trans (hc i hi)⟩

theorem KSl.agree {n L B L' B' : Nat} {w w' : World} {R R' : Tr n → Value → Value → Prop} {v : Value} {ks : List (Tr n)} (h : KSl L B w R v ks) (hR : ∀ t sb sk, R t sb sk → R' t sb sk) (hb : Agree L B w w') (hL : L' ≤ L) (hB : B ≤ B') : KSl L' B' w' R' v ks := by
  obtain ⟨a, cap, h1, h2, h3, h4, h5, h7⟩ := h
  refine ⟨a, cap, h1, h2, h3, h4, h5, fun hne => ?_⟩
  obtain ⟨b, o, e, hLb, hbB, hc⟩ := h7 hne
  refine ⟨b, o, e, by omega, by omega, fun j t hj => ?_⟩
  obtain ⟨sb, sk, c0, c1, c2, c3, r⟩ := hc j t hj
  exact ⟨sb, sk, (hb.cell (p := ⟨b, _, none⟩) hLb hbB).trans c0, (hb.cell (p := ⟨b, _, none⟩) hLb hbB).trans c1, (hb.cell (p := ⟨b, _, none⟩) hLb hbB).trans c2, (hb.cell (p := ⟨b, _, none⟩) hLb hbB).trans c3, hR _ _ _ r⟩

theorem Rep.agree {L B L' B' : Nat} {w w' : World} (hb : Agree L B w w') (hL : L' ≤ L) (hB : B ≤ B') : ∀ {n : Nat} {t : Tr n} {sb sk : Value}, Rep L B w n t sb sk → Rep L' B' w' n t sb sk
  | 0, t, _, _, _ => by cases t
  | _ + 1, _, _, _, h => ⟨h.1, h.2.1, h.2.2.1.agree hb hL hB, h.2.2.2.agree (fun _ _ _ r => Rep.agree hb hL hB r) hb hL hB⟩

theorem Rep.sl {L B : Nat} {w : World} : ∀ {n : Nat} {t : Tr n} {sb sk : Value}, Rep L B w n t sb sk → ∃ a l c a' l' c', sb = .slice a l c ∧ sk = .slice a' l' c'
  | 0, t, _, _, _ => by cases t
  | _ + 1, _, _, _, h => by
    obtain ⟨_, _, ⟨_, _, rfl, _⟩, ⟨_, _, rfl, _⟩⟩ := h
    exact ⟨_, _, _, _, _, _, rfl, rfl⟩

/-- Out of a row of the call's own. -/
theorem BySl.own {base : Nat} {w : World} {v : Value} {bs : List Int} (h : w.ownsRow base 5 1 v bs.length (bs.map (Value.int .u8))) (hl : bs.length ≤ 140737488355328) (hx : ∀ x ∈ bs, 0 ≤ x ∧ x ≤ 255) : BySl base w.heap.size w v bs := by
  rcases h.2 with ⟨rfl, h0⟩ | ⟨g, cap, cur, rfl, hb, hg, hn, hc, hs, ht⟩
  · have : bs = [] := List.length_eq_zero_iff.1 h0
    subst this
    exact ⟨none, 0, rfl, Nat.le_refl _, Nat.zero_le _, fun _ => ⟨rfl, rfl⟩, by simp, by simp, fun h => absurd rfl h⟩
  · refine ⟨_, cap, rfl, hn, hc, by simp, hl, hx, fun _ => ⟨g, 0, rfl, hb, (Array.getElem?_eq_some_iff.1 hg).1, fun i hi => ?_⟩⟩
    rw [Nat.zero_add, h.cellAt i (by omega)]
    simp [List.getElem?_eq_getElem hi]

theorem BySl.none (L B : Nat) (w : World) : BySl L B w (.slice none 0 0) [] := ⟨_, 0, rfl, Nat.le_refl _, Nat.zero_le _, fun _ => ⟨rfl, rfl⟩, by simp, by simp, fun h => absurd rfl h⟩

theorem KSl.none {n : Nat} (L B : Nat) (w : World) (R : Tr n → Value → Value → Prop) : KSl L B w R (.slice none 0 0) [] := ⟨_, 0, rfl, Nat.le_refl _, Nat.zero_le _, fun _ => ⟨rfl, rfl⟩, by simp, fun h => absurd rfl h⟩

theorem bcell {W w1 : World} (hb : Below W.heap.size W w1) : (∀ b o, b < W.heap.size → w1.cell? ⟨b, o, none⟩ = W.cell? ⟨b, o, none⟩) ∧ (∀ b o, b < W.heap.size → w1.frozen? ⟨b, o, none⟩ = W.frozen? ⟨b, o, none⟩) :=
  ⟨fun b o h => hb.cell (p := ⟨b, o, none⟩) h, fun b o h => hb.frozen (p := ⟨b, o, none⟩) h⟩

theorem tab_size : Lib.len8tab.size = 256 := by decide +kernel
theorem tab_all : ∀ n : Fin 256, (Lib.len8tab[n.val]'(by rw [tab_size]; exact n.2)).toNat = Lib.bitLen n.val := by decide +kernel
theorem tab_at (n : Nat) (h : n < Lib.len8tab.size) : Lib.len8tab[n].toNat = Lib.bitLen n := tab_all ⟨n, by rw [tab_size] at h; exact h⟩
theorem tab_le (n : Nat) (h : n < 256) : Lib.bitLen n ≤ 8 := Lib.bitLen_le8 ⟨n, h⟩

/-- The last row of Len64: what the table holds, and the bits cut off ahead of it. -/
theorem len_close (x k i : Nat) (hk : 2 ^ k ≤ x ∨ k = 0) (hx : x < 2 ^ 64) (hi : i = x / 2 ^ k) (hl : i < 256) (h : i < Lib.len8tab.size) (hk2 : k ≤ 56) :
    wrap64 (k + wrap64 (Lib.len8tab[i].toNat : Nat)) = (Lib.bitLen x : Int) := by
  have l := tab_le i hl
  rw [tab_at i h]
  have e : Lib.bitLen x = k + Lib.bitLen i := by
    subst hi
    rcases hk with hk | rfl
    · exact Lib.bitLen_shift k x hk hx
    · simp
  rw [show wrap64 ((Lib.bitLen i : Nat) : Int) = (Lib.bitLen i : Int) from IntWalk.wrap64_in _ ⟨by omega, by omega⟩, IntWalk.wrap64_in _ ⟨by omega, by omega⟩, e]
  omega

set_option maxHeartbeats 4000000 in
set_option maxRecDepth 100000 in
theorem len64_any (x : Int) (w : World) (h0 : 0 ≤ x) (h1 : x ≤ 18446744073709551615) :
    Calls Tryz.prog 149 #[.int .u64 x] w fun e w' => e = .returned (.int .i64 (Lib.bitLen x.toNat)) ∧ w' = w := by
  have hts : (Lib.len8tab.size : Int) = 256 := by rw [tab_size]; rfl
  go_enter Tryz.func149, Tryz.ntmps149
  go_wp2
  all_goals (go_ret; refine ⟨congrArg Ending.returned (congrArg (Value.int IntKind.i64) ?_), rfl⟩)
  · exact len_close x.toNat 56 _ (.inl (by simp only [Nat.reducePow]; omega)) (by simp only [Nat.reducePow]; omega) (by simp only [Nat.reducePow]; omega) (by omega) _ (by omega)
  · exact len_close x.toNat 48 _ (.inl (by simp only [Nat.reducePow]; omega)) (by simp only [Nat.reducePow]; omega) (by simp only [Nat.reducePow]; omega) (by omega) _ (by omega)
  · exact len_close x.toNat 40 _ (.inl (by simp only [Nat.reducePow]; omega)) (by simp only [Nat.reducePow]; omega) (by simp only [Nat.reducePow]; omega) (by omega) _ (by omega)
  · exact len_close x.toNat 32 _ (.inl (by simp only [Nat.reducePow]; omega)) (by simp only [Nat.reducePow]; omega) (by simp only [Nat.reducePow]; omega) (by omega) _ (by omega)
  · exact len_close x.toNat 24 _ (.inl (by simp only [Nat.reducePow]; omega)) (by simp only [Nat.reducePow]; omega) (by simp only [Nat.reducePow]; omega) (by omega) _ (by omega)
  · exact len_close x.toNat 16 _ (.inl (by simp only [Nat.reducePow]; omega)) (by simp only [Nat.reducePow]; omega) (by simp only [Nat.reducePow]; omega) (by omega) _ (by omega)
  · exact len_close x.toNat 8 _ (.inl (by simp only [Nat.reducePow]; omega)) (by simp only [Nat.reducePow]; omega) (by simp only [Nat.reducePow]; omega) (by omega) _ (by omega)
  · have h := len_close x.toNat 0 x.toNat (.inr rfl) (by simp only [Nat.reducePow]; omega) (by simp) (by omega) (by rw [tab_size]; omega) (by omega)
    simpa using h

set_option maxHeartbeats 400000 in
theorem numberSize_any (x : Int) (w : World) (h0 : 0 ≤ x) (h1 : x ≤ 18446744073709551615) :
    Calls Tryz.prog 178 #[.int .u64 x] w fun e w' => e = .returned (.int .i64 (nsz x)) ∧ w' = w := by
  have hb := bitLen_le64 x.toNat
  go_enter Tryz.func178, Tryz.ntmps178
  go_wp2_with (go_at_call 149; refine (len64_any _ _ h0 h1).mono ?_; rintro e w' ⟨rfl, rfl⟩)
  go_ret
  exact ⟨rfl, rfl⟩

set_option maxHeartbeats 1000000 in
theorem othersEmpty_any (tag num : Int) (a a' : Option Addr) (lb cb lk ck : Nat) (w : World) :
    Calls Tryz.prog 177 #[.agg #[.int .i64 tag, .int .u64 num, .slice a lb cb, .slice a' lk ck]] w fun e w' => e = .returned (.bool (oeB tag num lb lk)) ∧ Below w.heap.size w w' := by
  go_enter Tryz.func177, Tryz.ntmps177
  go_wp2
  all_goals (go_ret; refine ⟨?_, (Below.refl _ _).alloc (Nat.le_refl _) _⟩; simp [oeB, *])

theorem Tryz.nilEq (w : World) (a : Option Addr) (n c n' c' : Nat) : (binOp .eql 45 (.slice a n c) (.slice none n' c')).run Tryz.prog w = .ok (.bool a.isNone) w :=
  Lib.run_eql_slice_nil w _ _ a n c n' c' Tryz.underlying45

set_option maxHeartbeats 1000000 in
theorem clone_bytes (v : Value) (bs : List Int) (w : World) (h : BySl 0 w.heap.size w v bs) :
    Calls Tryz.prog 137 #[v] w fun e w' => ∃ v', e = .returned v' ∧ BySl w.heap.size w'.heap.size w' v' bs ∧ Below w.heap.size w w' := by
  have q22 := Tryz.nilEq
  obtain ⟨a, cap, rfl, h2, h3, h4, h5, h6, h7⟩ := h
  cases a with
  | none =>
    obtain ⟨rfl, rfl⟩ := h4 rfl
    clear h7
    go_enter Tryz.func137, Tryz.ntmps137
    go_wp2
    go_ret
    exact ⟨_, rfl, BySl.none _ _ _, Below.refl _ _⟩
  | some ad =>
    obtain ⟨i0, hi, hz0, hz1, hz2⟩ := info_parts Tryz.info5
    have A : Hid (bs ≠ [] → ∃ b o, some ad = some ⟨b, o, none⟩ ∧ 0 ≤ b ∧ b < w.heap.size ∧ ∀ i, i < bs.length → w.cell? ⟨b, o + i, none⟩ = some (.int .u8 (bs.getD i 0))) := h7
    have A6 : Hid (∀ x ∈ bs, 0 ≤ x ∧ x ≤ 255) := h6
    clear h7 h6 h4
    go_enter Tryz.func137, Tryz.ntmps137
    go_wp2_with (at_builtin; refine wpList_append_own _ rfl _ _ 45 rfl w.heap.size 5 i0 (.int .u8 0) 1 1 Tryz.underlying45 hi hz0 hz1 hz2 rfl (by decide) _ _ _ rfl (World.ownsRow_made w #[] 0 (Nat.le_refl _) (Nat.zero_le _) rfl) ad bs.length cap (bs.map (Value.int .u8)) rfl ?qc1 ?qc2 ?qc3 ?qc4 ?qc5 ?qc6 ?_)
    case qc1 => simp
    case qc2 =>
      intro j u hj
      have hjn : j < bs.length := by
        have := (List.getElem?_eq_some_iff.1 hj).1
        simpa using this
      obtain ⟨b, o, e, _, hb, hc⟩ := A.out (by intro e; subst e; simp at hjn)
      simp only [Option.some.injEq] at e
      subst e
      have e2 : (⟨b, o, none⟩ : Addr).add j = ⟨b, o + j, none⟩ := by unfold Addr.add; split <;> simp_all
      rw [e2, World.cell?_alloc_lt _ _ _ hb, hc j hjn]
      simp only [List.getElem?_map, List.getElem?_eq_getElem hjn, Option.map_some, Option.some.injEq] at hj
      simp [List.getElem?_eq_getElem hjn, hj]
    case qc3 => intro u hu; obtain ⟨x, _, rfl⟩ := List.mem_map.1 hu; rfl
    case qc4 => unfold maxLen; omega
    case qc5 => omega
    case qc6 => simp
    intro v' w1 hown hgrow hnil
    go_wp2
    go_ret
    refine ⟨v', rfl, BySl.own (by simpa using hown) h5 A6.out, ?_⟩
    exact ((Below.refl _ w).alloc (Nat.le_refl _) _).grown hgrow (by simp) (by intro k hk; simp [Value.ownBlock] at hk; omega)

set_option maxHeartbeats 400000 in
theorem number_any (n : Int) (w : World) :
    Calls Tryz.prog 126 #[.int .u64 n] w fun e w' => e = .returned (.agg #[.int .i64 1, .int .u64 n, .slice none 0 0, .slice none 0 0]) ∧ Below w.heap.size w w' := by
  go_enter Tryz.func126, Tryz.ntmps126
  go_wp2
  exact bodyPost_ret (v := .agg #[.int .i64 1, .int .u64 n, .slice none 0 0, .slice none 0 0]) (by simp [results, Tryz.results126, go_sem]) rfl ⟨rfl, (Below.refl _ _).alloc (Nat.le_refl _) _⟩

end Go.Proofs.YtophnjcoaglbnaaGreatDoor.Tlv
end

section
/-
  What the small functions of tlv that make values do, and the reference's Bytes.
-/
namespace Go.Proofs.YtophnjcoaglbnaaGreatDoor.Tlv
open Go.RowKit

theorem Agree.set4 {L B b : Nat} (w : World) (hp : b < L ∨ B ≤ b) (u0 u1 u2 u3 : Value) {o0 o1 o2 o3 : Nat} : Agree L B w ((((w.setCell ⟨b, o0, none⟩ u0).setCell ⟨b, o1, none⟩ u1).setCell ⟨b, o2, none⟩ u2).setCell ⟨b, o3, none⟩ u3) :=
  ((((Agree.refl L B w).setCell hp _).setCell hp _).setCell hp _).setCell hp _

theorem bset4 {B b : Nat} {w : World} (hp : B ≤ b) (u0 u1 u2 u3 : Value) {o0 o1 o2 o3 : Nat} : Below B w ((((w.setCell ⟨b, o0, none⟩ u0).setCell ⟨b, o1, none⟩ u1).setCell ⟨b, o2, none⟩ u2).setCell ⟨b, o3, none⟩ u3) :=
  ((((Below.refl B w).setCell hp _).setCell hp _).setCell hp _).setCell hp _

set_option maxHeartbeats 400000 in
theorem bytes_any (v : Value) (bs : List Int) (w : World) (h : BySl 0 w.heap.size w v bs) :
    Calls Tryz.prog 127 #[v] w fun e w' => ∃ v', e = .returned (.agg #[.int .i64 2, .int .u64 0, v', .slice none 0 0]) ∧ BySl w.heap.size w'.heap.size w' v' bs ∧ Below w.heap.size w w' := by
  obtain ⟨a, cap, rfl, hr⟩ := id h
  clear hr
  have H : Hid (BySl 0 w.heap.size w (.slice a bs.length cap) bs) := h
  clear h
  go_enter Tryz.func127, Tryz.ntmps127
  go_wp2_with fail
  refine (clone_bytes _ bs _ (H.out.agree ((Agree.refl _ _ _).alloc (Nat.le_refl _) _) (Nat.le_refl _) (by simp))).mono ?_
  rintro e w1 ⟨v', rfl, hv, hb⟩
  obtain ⟨a', cap', rfl, hr'⟩ := id hv
  clear hr'
  have hz : w.heap.size < w1.heap.size := by have := hb.size; simp at this; omega
  have Hv := hid hv
  have Hb := hid hb
  obtain ⟨hc, hf⟩ := bcell hb
  clear hv hb
  go_wp2_with fail
  refine bodyPost_ret (v := .agg #[.int .i64 2, .int .u64 0, .slice a' bs.length cap', .slice none 0 0]) (by simp [results, Tryz.results127, go_sem, hc]) rfl ⟨_, rfl, ?_, ?_⟩
  · exact Hv.out.agree (Agree.set4 _ (.inl (by simp)) _ _ _ _) (by simp) (by simp)
  · exact (((Below.refl _ w).alloc (Nat.le_refl _) _).trans (Hb.out.mono (by simp))).trans (bset4 (Nat.le_refl _) _ _ _ _)

set_option maxHeartbeats 400000 in
theorem refBytes_any (v v' : Value) (xs ys : List Int) (w : World) (h : BySl 0 w.heap.size w v xs) (h' : BySl 0 w.heap.size w v' ys) :
    Calls Tryz.prog 71 #[v, v'] w fun e w' => e = .returned (.bool (decide (xs = ys))) ∧ Below w.heap.size w w' := by
  obtain ⟨a, cap, rfl, h2, h3, h4, h5, h6, h7⟩ := h
  obtain ⟨a', cap', rfl, h2', h3', h4', h5', h6', h7'⟩ := h'
  have A := hid h7
  have A' := hid h7'
  clear h7 h7' h4 h4' h6 h6'
  by_cases hl : xs.length = ys.length
  · have hlb : ((xs.length : Int) != (ys.length : Int)) = false := by simp [hl]
    have HL := hid hl
    clear hl
    go_enter Tryz.func71, Tryz.ntmps71
    go_wp2
    go_loopw [5] (fun i wr => ∃ k : Nat, k ≤ xs.length ∧ i = .int .i64 k ∧ Hid (xs.take k = ys.take k) ∧ ∃ q, wr = w.drewN q) (fun i _ => xs.length - (intOf i).toNat)
    case atStart => exact ⟨0, Nat.zero_le _, rfl, by simp [Hid], 0, rfl⟩
    case round =>
      obtain ⟨k, hk, rfl, ht, q, rfl⟩ := hrel
      by_cases hlt : k < xs.length
      · have hlt' : k < ys.length := by have := HL.out; omega
        obtain ⟨b, o, rfl, _, _, hc⟩ := A.out (by intro e; subst e; simp at hlt)
        obtain ⟨b', o', rfl, _, _, hc'⟩ := A'.out (by intro e; subst e; simp at hlt')
        have c1 := hc k hlt
        have c2 := hc' k hlt'
        clear hc hc'
        have e1 : Hid (xs.take (k + 1) = xs.take k ++ [xs.getD k 0]) := by rw [List.take_succ_eq_append_getElem hlt]; simp [Hid, List.getElem?_eq_getElem hlt]
        have e2 : Hid (ys.take (k + 1) = ys.take k ++ [ys.getD k 0]) := by rw [List.take_succ_eq_append_getElem hlt']; simp [Hid, List.getElem?_eq_getElem hlt']
        generalize xs.getD k 0 = x at c1 e1
        generalize ys.getD k 0 = y at c2 e2
        by_cases hxy : x = y
        · subst hxy
          go_wp2_with fail
          go_quiet (fail)
          go_wp2
          go_roundw
          case rel => exact ⟨k + 1, by omega, by go_num, by rw [Hid, e1.out, e2.out, ht.out], _, rfl⟩
          case measure => simp [intOf]; omega
        · have hb : (x != y) = true := by simpa using hxy
          go_wp2_with fail
          go_quiet (fail)
          go_wp2
          go_ret
          refine ⟨?_, ?_⟩
          · rw [decide_eq_false (by intro e; apply hxy; have h1 := e1.out; rw [e, e2.out] at h1; have := (List.append_inj' h1 rfl).2; simpa using this.symm)]
            rfl
          · exact below_drewN (below_drewN (Below.refl _ _) _) _
      · go_wp2
        go_ret
        refine ⟨?_, ?_⟩
        · rw [decide_eq_true (by have := ht.out; have hL := HL.out; rwa [List.take_of_length_le (by omega), List.take_of_length_le (by omega)] at this)]
          rfl
        · exact below_drewN (Below.refl _ _) _
  · have hlb : ((xs.length : Int) != (ys.length : Int)) = true := by simp; omega
    go_enter Tryz.func71, Tryz.ntmps71
    go_wp2
    go_ret
    refine ⟨?_, Below.refl _ _⟩
    rw [decide_eq_false (by intro e; exact hl (by rw [e]))]
    rfl

end Go.Proofs.YtophnjcoaglbnaaGreatDoor.Tlv
end

section
/-
  A slice of values that a call builds by append, one behind the other: how it lies in memory.
-/
namespace Go.Proofs.YtophnjcoaglbnaaGreatDoor.Tlv
open Go.RowKit

def cell4 {n : Nat} (t : Tr n) (p : Value × Value) : List Value := [.int .i64 t.hd.1, .int .u64 t.hd.2.1, p.1, p.2]

def cellsK {n : Nat} : List (Tr n) → List (Value × Value) → List Value
  | t :: ts, p :: ps => cell4 t p ++ cellsK ts ps
  | _, _ => []

theorem cellsK_snoc {n : Nat} (t : Tr n) (p : Value × Value) : ∀ (ts : List (Tr n)) (ps : List (Value × Value)), ps.length = ts.length → cellsK (ts ++ [t]) (ps ++ [p]) = cellsK ts ps ++ cell4 t p
  | [], [], _ => by simp [cellsK]
  | [], _ :: _, h => by simp at h
  | _ :: _, [], h => by simp at h
  | t' :: ts, p' :: ps, h => by
    simp only [List.cons_append, cellsK, List.append_assoc]
    rw [cellsK_snoc t p ts ps (by simpa using h)]

theorem cellsK_at {n : Nat} : ∀ (ts : List (Tr n)) (ps : List (Value × Value)) (j : Nat) (t : Tr n) (p : Value × Value) (r : Nat), ts[j]? = some t → ps[j]? = some p → r < 4 → (cellsK ts ps)[j * 4 + r]? = (cell4 t p)[r]?
  | [], _, _, _, _, _, h, _, _ => by simp at h
  | _ :: _, [], _, _, _, _, _, h, _ => by simp at h
  | t' :: ts, p' :: ps, 0, t, p, r, h1, h2, h3 => by
    simp only [List.getElem?_cons_zero, Option.some.injEq] at h1 h2
    subst h1 h2
    simp only [cellsK, Nat.zero_mul, Nat.zero_add]
    rw [List.getElem?_append_left (by simpa [cell4] using h3)]
  | t' :: ts, p' :: ps, j + 1, t, p, r, h1, h2, h3 => by
    simp only [List.getElem?_cons_succ] at h1 h2
    simp only [cellsK]
    rw [List.getElem?_append_right (by simp [cell4]; omega), ← cellsK_at ts ps j t p r h1 h2 h3]
    congr 1
    simp [cell4]
    omega

/-- v is a slice of the values ts that the call itself has built, in blocks from base on: its row, and where each value lies, which is none of the row. -/
def CInv {n : Nat} (base : Nat) (ts : List (Tr n)) (v : Value) (w : World) : Prop :=
  ∃ ps : List (Value × Value), ps.length = ts.length ∧ w.ownsRow base 171 4 v ts.length (cellsK ts ps) ∧
    ∀ (j : Nat) (t : Tr n) (p : Value × Value), ts[j]? = some t → ps[j]? = some p → ∃ L B, Rep L B w n t p.1 p.2 ∧ base ≤ L ∧ B ≤ w.heap.size ∧ (∀ r, v.ownBlock = some r → r < L ∨ B ≤ r)

theorem CInv.nil {n : Nat} (base : Nat) (w : World) : CInv base ([] : List (Tr n)) (.slice none 0 0) w := ⟨[], rfl, World.ownsRow_nil _ _ _ _, by simp⟩

theorem ownsRow_agree {w w' : World} {base e size n : Nat} {v : Value} {xs : List Value} (h : w.ownsRow base e size v n xs) (hA : Agree base w.heap.size w w') : w'.ownsRow base e size v n xs := by
  obtain ⟨h1, h2⟩ := h
  refine ⟨h1, ?_⟩
  rcases h2 with h2 | ⟨g, cap, cur, hv, hg, hh, r⟩
  · exact Or.inl h2
  · exact Or.inr ⟨g, cap, cur, hv, hg, by rw [hA g hg (Array.getElem?_eq_some_iff.1 hh).1]; exact hh, r⟩

theorem CInv.agree {n base : Nat} {ts : List (Tr n)} {v : Value} {w w' : World} (h : CInv base ts v w) (hA : Agree base w.heap.size w w') (hs : w.heap.size ≤ w'.heap.size) : CInv base ts v w' := by
  obtain ⟨ps, hl, hown, hk⟩ := h
  refine ⟨ps, hl, ownsRow_agree hown hA, fun j t p hj hp => ?_⟩
  obtain ⟨L, B, hr, hL, hB, hd⟩ := hk j t p hj hp
  exact ⟨L, B, hr.agree (hA.mono hL hB) (Nat.le_refl _) (Nat.le_refl _), hL, by omega, hd⟩

theorem CInv.lt {n base : Nat} {ts : List (Tr n)} {v : Value} {w : World} (h : CInv base ts v w) : ∀ r, v.ownBlock = some r → base ≤ r ∧ r < w.heap.size := by
  obtain ⟨ps, hl, hown, _⟩ := h
  exact hown.lt

theorem CInv.form {n base : Nat} {ts : List (Tr n)} {v : Value} {w : World} (h : CInv base ts v w) : ∃ a c, v = .slice a ts.length c := by
  obtain ⟨ps, hl, hown, _⟩ := h
  rcases hown.2 with ⟨rfl, h0⟩ | ⟨g, cap, cur, rfl, _⟩
  · exact ⟨_, _, by rw [h0]⟩
  · exact ⟨_, _, rfl⟩

/-- One value more, behind the append that lays it. -/
theorem CInv.push {n base g cap L B : Nat} {ts : List (Tr n)} {t : Tr n} {v sb sk : Value} {ps : List (Value × Value)} {w w' : World} (hl : ps.length = ts.length)
    (hk : ∀ (j : Nat) (t : Tr n) (p : Value × Value), ts[j]? = some t → ps[j]? = some p → ∃ L B, Rep L B w n t p.1 p.2 ∧ base ≤ L ∧ B ≤ w.heap.size ∧ (∀ r, v.ownBlock = some r → r < L ∨ B ≤ r))
    (hr : Rep L B w n t sb sk) (hL : base ≤ L) (hB : B ≤ w.heap.size) (hd : ∀ r, v.ownBlock = some r → r < L ∨ B ≤ r)
    (hown : w'.ownsRow base 171 4 (.slice (some ⟨g, 0, none⟩) (ts.length + 1) cap) (ts.length + 1) (cellsK ts ps ++ cell4 t (sb, sk))) (hgrow : w.grownBy w' v.ownBlock) (hat : v.ownBlock = some g ∨ g = w.heap.size) :
    CInv base (ts ++ [t]) (.slice (some ⟨g, 0, none⟩) (ts.length + 1) cap) w' := by
  have old : ∀ {L B : Nat} {t : Tr n} {sb sk : Value}, Rep L B w n t sb sk → base ≤ L → B ≤ w.heap.size → (∀ r, v.ownBlock = some r → r < L ∨ B ≤ r) →
      Rep L B w' n t sb sk ∧ base ≤ L ∧ B ≤ w'.heap.size ∧ (∀ r, (Value.slice (some ⟨g, 0, none⟩) (ts.length + 1) cap).ownBlock = some r → r < L ∨ B ≤ r) := by
    intro L B t sb sk hr hL hB hd
    refine ⟨hr.agree (fun k h1 h2 => hgrow.block k (by omega) (fun e => by have := hd k e.symm; omega)) (Nat.le_refl _) (Nat.le_refl _), hL, by have := hgrow.size; omega, ?_⟩
    intro r e
    simp only [Value.ownBlock, Option.some.injEq] at e
    subst e
    rcases hat with hat | hat
    · exact hd _ hat
    · omega
  refine ⟨ps ++ [(sb, sk)], by simp [hl], ?_, ?_⟩
  · rw [cellsK_snoc _ _ _ _ hl]
    simpa using hown
  · intro j t' p hj hp
    by_cases hlt : j < ts.length
    · rw [List.getElem?_append_left hlt] at hj
      rw [List.getElem?_append_left (by omega)] at hp
      obtain ⟨L', B', q⟩ := hk j t' p hj hp
      exact ⟨L', B', old q.1 q.2.1 q.2.2.1 q.2.2.2⟩
    · have : j = ts.length := by
        have := (List.getElem?_eq_some_iff.1 hj).1
        simp at this
        omega
      subst this
      rw [List.getElem?_append_right (Nat.le_refl _)] at hj
      rw [List.getElem?_append_right (by omega)] at hp
      simp [hl] at hj hp
      subst hj hp
      exact ⟨L, B, old hr hL hB hd⟩

theorem CInv.done {n base : Nat} {ts : List (Tr n)} {v : Value} {w : World} (h : CInv base ts v w) (hlen : ts.length ≤ 2199023255552) : KSl base w.heap.size w (Rep base w.heap.size w n) v ts := by
  obtain ⟨ps, hl, hown, hk⟩ := h
  rcases hown.2 with ⟨rfl, h0⟩ | ⟨g, cap, cur, rfl, hb, hg, hn, hc, hs, ht⟩
  · have : ts = [] := List.length_eq_zero_iff.1 h0
    subst this
    exact KSl.none _ _ _ _
  · refine ⟨_, cap, rfl, hn, hc, by simp, hlen, fun _ => ⟨g, 0, rfl, hb, (Array.getElem?_eq_some_iff.1 hg).1, fun j t hj => ?_⟩⟩
    have hjl := (List.getElem?_eq_some_iff.1 hj).1
    obtain ⟨p, hp⟩ : ∃ p, ps[j]? = some p := ⟨ps[j]'(by omega), List.getElem?_eq_getElem (by omega)⟩
    obtain ⟨L, B, hr, hL, hB, _⟩ := hk j t p hj hp
    have cc : ∀ r, r < 4 → w.cell? ⟨g, 0 + j * 4 + r, none⟩ = (cell4 t p)[r]? := fun r hr4 => by
      rw [Nat.zero_add, hown.cellAt (j * 4 + r) (by omega), cellsK_at ts ps j t p r hj hp hr4]
    exact ⟨p.1, p.2, cc 0 (by omega), cc 1 (by omega), cc 2 (by omega), cc 3 (by omega), hr.agree (Agree.refl _ _ _) hL hB⟩

end Go.Proofs.YtophnjcoaglbnaaGreatDoor.Tlv
end

section
/-
  How values lie in memory, told by whichever blocks they lie in: for values that share memory with others.
-/
namespace Go.Proofs.YtophnjcoaglbnaaGreatDoor.Tlv
open Go.RowKit

def BySlS (S : Nat → Prop) (w : World) (v : Value) (bs : List Int) : Prop :=
  ∃ a cap, v = .slice a bs.length cap ∧ bs.length ≤ cap ∧ cap ≤ maxLen ∧ (a = none → bs = [] ∧ cap = 0) ∧ bs.length ≤ 140737488355328 ∧ (∀ x ∈ bs, 0 ≤ x ∧ x ≤ 255) ∧
    (bs ≠ [] → ∃ b o, a = some ⟨b, o, none⟩ ∧ S b ∧ ∀ i, i < bs.length → w.cell? ⟨b, o + i, none⟩ = some (.int .u8 (bs.getD i 0)))

def KSlS {n : Nat} (S : Nat → Prop) (w : World) (R : Tr n → Value → Value → Prop) (v : Value) (ks : List (Tr n)) : Prop :=
  ∃ a cap, v = .slice a ks.length cap ∧ ks.length ≤ cap ∧ cap ≤ maxLen ∧ (a = none → ks = [] ∧ cap = 0) ∧ ks.length ≤ 2199023255552 ∧
    (ks ≠ [] → ∃ b o, a = some ⟨b, o, none⟩ ∧ S b ∧ ∀ j t, ks[j]? = some t → ∃ sb sk, w.cell? ⟨b, o + j * 4, none⟩ = some (.int .i64 t.hd.1) ∧ w.cell? ⟨b, o + j * 4 + 1, none⟩ = some (.int .u64 t.hd.2.1) ∧
      w.cell? ⟨b, o + j * 4 + 2, none⟩ = some sb ∧ w.cell? ⟨b, o + j * 4 + 3, none⟩ = some sk ∧ R t sb sk)

def RepS (S : Nat → Prop) (w : World) : (n : Nat) → Tr n → Value → Value → Prop
  | 0, t, _, _ => by cases t
  | n + 1, t, sb, sk => 0 ≤ t.hd.2.1 ∧ t.hd.2.1 ≤ 18446744073709551615 ∧ BySlS S w sb t.hd.2.2 ∧ KSlS S w (RepS S w n) sk t.kd

/-- Of the blocks of S, w' holds what w held. -/
def AgreeS (S : Nat → Prop) (w w' : World) : Prop := ∀ b, S b → w'.heap[b]? = w.heap[b]?

theorem AgreeS.cell {S : Nat → Prop} {w w' : World} (h : AgreeS S w w') {b o : Nat} (hb : S b) : w'.cell? ⟨b, o, none⟩ = w.cell? ⟨b, o, none⟩ := World.cell?_of_block (w := w) (h b hb)

theorem BySlS.agree {S S' : Nat → Prop} {w w' : World} {v : Value} {bs : List Int} (h : BySlS S w v bs) (hw : AgreeS S w w') (hS : ∀ b, S b → S' b) : BySlS S' w' v bs := by
  obtain ⟨a, cap, h1, h2, h3, h4, h5, h6, h7⟩ := h
  refine ⟨a, cap, h1, h2, h3, h4, h5, h6, fun hne => ?_⟩
  obtain ⟨b, o, e, hb, hc⟩ := h7 hne
  exact ⟨b, o, e, hS b hb, fun i hi => (hw.cell hb).trans (hc i hi)⟩

theorem KSlS.agree {n : Nat} {S S' : Nat → Prop} {w w' : World} {R R' : Tr n → Value → Value → Prop} {v : Value} {ks : List (Tr n)} (h : KSlS S w R v ks) (hR : ∀ t sb sk, R t sb sk → R' t sb sk) (hw : AgreeS S w w') (hS : ∀ b, S b → S' b) : KSlS S' w' R' v ks := by
  obtain ⟨a, cap, h1, h2, h3, h4, h5, h7⟩ := h
  refine ⟨a, cap, h1, h2, h3, h4, h5, fun hne => ?_⟩
  obtain ⟨b, o, e, hb, hc⟩ := h7 hne
  refine ⟨b, o, e, hS b hb, fun j t hj => ?_⟩
  obtain ⟨sb, sk, c0, c1, c2, c3, r⟩ := hc j t hj
  exact ⟨sb, sk, (hw.cell hb).trans c0, (hw.cell hb).trans c1, (hw.cell hb).trans c2, (hw.cell hb).trans c3, hR _ _ _ r⟩

theorem RepS.agree {S S' : Nat → Prop} {w w' : World} (hw : AgreeS S w w') (hS : ∀ b, S b → S' b) : ∀ {n : Nat} {t : Tr n} {sb sk : Value}, RepS S w n t sb sk → RepS S' w' n t sb sk
  | 0, t, _, _, _ => by cases t
  | _ + 1, _, _, _, h => ⟨h.1, h.2.1, h.2.2.1.agree hw hS, h.2.2.2.agree (fun _ _ _ r => RepS.agree hw hS r) hw hS⟩

theorem RepS.sl {S : Nat → Prop} {w : World} : ∀ {n : Nat} {t : Tr n} {sb sk : Value}, RepS S w n t sb sk → ∃ a l c a' l' c', sb = .slice a l c ∧ sk = .slice a' l' c'
  | 0, t, _, _, _ => by cases t
  | _ + 1, _, _, _, h => by
    obtain ⟨_, _, ⟨_, _, rfl, _⟩, ⟨_, _, rfl, _⟩⟩ := h
    exact ⟨_, _, _, _, _, _, rfl, rfl⟩

theorem BySl.toS {L B : Nat} {w : World} {v : Value} {bs : List Int} (h : BySl L B w v bs) : BySlS (fun b => L ≤ b ∧ b < B) w v bs := by
  obtain ⟨a, cap, h1, h2, h3, h4, h5, h6, h7⟩ := h
  refine ⟨a, cap, h1, h2, h3, h4, h5, h6, fun hne => ?_⟩
  obtain ⟨b, o, e, hL, hB, hc⟩ := h7 hne
  exact ⟨b, o, e, ⟨hL, hB⟩, hc⟩

theorem BySlS.to {S : Nat → Prop} {B : Nat} {w : World} {v : Value} {bs : List Int} (h : BySlS S w v bs) (hS : ∀ b, S b → b < B) : BySl 0 B w v bs := by
  obtain ⟨a, cap, h1, h2, h3, h4, h5, h6, h7⟩ := h
  refine ⟨a, cap, h1, h2, h3, h4, h5, h6, fun hne => ?_⟩
  obtain ⟨b, o, e, hb, hc⟩ := h7 hne
  exact ⟨b, o, e, Nat.zero_le _, hS b hb, hc⟩

theorem Rep.toS {L B : Nat} {w : World} : ∀ {n : Nat} {t : Tr n} {sb sk : Value}, Rep L B w n t sb sk → RepS (fun b => L ≤ b ∧ b < B) w n t sb sk
  | 0, t, _, _, _ => by cases t
  | n + 1, t, sb, sk, h => by
    obtain ⟨h0, h1, h2, a, cap, e1, e2, e3, e4, e5, e7⟩ := h
    refine ⟨h0, h1, h2.toS, a, cap, e1, e2, e3, e4, e5, fun hne => ?_⟩
    obtain ⟨b, o, e, hL, hB, hc⟩ := e7 hne
    refine ⟨b, o, e, ⟨hL, hB⟩, fun j t hj => ?_⟩
    obtain ⟨sb, sk, c0, c1, c2, c3, r⟩ := hc j t hj
    exact ⟨sb, sk, c0, c1, c2, c3, Rep.toS r⟩

theorem BySlS.none (S : Nat → Prop) (w : World) : BySlS S w (.slice none 0 0) [] := ⟨_, 0, rfl, Nat.le_refl _, Nat.zero_le _, fun _ => ⟨rfl, rfl⟩, by simp, by simp, fun h => absurd rfl h⟩

theorem KSlS.none {n : Nat} (S : Nat → Prop) (w : World) (R : Tr n → Value → Value → Prop) : KSlS S w R (.slice none 0 0) [] := ⟨_, 0, rfl, Nat.le_refl _, Nat.zero_le _, fun _ => ⟨rfl, rfl⟩, by simp, fun h => absurd rfl h⟩








end Go.Proofs.YtophnjcoaglbnaaGreatDoor.Tlv
end

section
/-
  Memory that a call leaves alone, told by blocks.
-/
namespace Go.Proofs.YtophnjcoaglbnaaGreatDoor.Tlv
open Go.RowKit
attribute [local go_sem ↓] Go.wp_at_zero Go.wp_at_succ

theorem AgreeS.below {S : Nat → Prop} {B : Nat} {w w' : World} (h : Below B w w') (hS : ∀ b, S b → b < B) : AgreeS S w w' := fun b hb => h.block b (hS b hb)

end Go.Proofs.YtophnjcoaglbnaaGreatDoor.Tlv
end
