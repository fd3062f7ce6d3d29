/-
  A change: what change's closure does.
-/
import Derived.Test.YtmiipifhbliamaaGreatSimStep
import Derived.Deep.RegionHeld3
import Derived.Deep.RegionLaw
import Derived.Deep.DeepCutAuto
import Derived.Deep.CutRange
namespace Go.Proofs.YtmiipifhbliamaaGreat.Sim
open Go.RowKit Go.Maps

theorem step_app {ops : Array Oper} {o : Oper} {a : Act} {K : Act → World → Prop} {Q : Exit → Act → World → Prop} {E : Prop} (w : World) (hgd : o.guard = none) (s x : Operand) (t e : TypeId) (z : Value) (sz by' : Nat)
    (ho : o.op = .call { callee := .builtin .append, args := #[s, x], argTypes := #[t, t] }) (ht : Tryz.prog.underlying t = some (.slice e)) (hin : (Tryz.prog.info? e).map (fun i => (i.zero, i.size, i.bytes)) = some (some z, sz, by'))
    (hz1 : z.cells.size = sz) (hsz : 0 < sz) (v vx : Value) (n m : Nat) (xs ys : List Value) (hs : a.eval s = v) (hx : a.eval x = vx)
    (hown : Row w e sz v n xs) (hy : Src w vx m sz ys) (hlen : n + m ≤ 1000000) (hby : by' ≤ 1000)
    (h : ∀ a' cap' w', Row w' e sz (.slice a' (n + m) cap') (n + m) (xs ++ ys) → w.grownBy w' v.ownBlock → ((Value.slice a' (n + m) cap').ownBlock = v.ownBlock ∨ (Value.slice a' (n + m) cap').ownBlock = some w.heap.size) → K (a.put o.dst (.slice a' (n + m) cap')) w') :
    if Region.wanted o (yielded ops a.tmps) = true then Oper.wp Tryz.prog o a w K Q else E := by
  have hw : Region.wanted o (yielded ops a.tmps) = true := by simp [Region.wanted, hgd]
  rw [if_pos hw]
  obtain ⟨i0, hi, hz0, hz1', hz2⟩ := info_parts hin
  have key : ∃ v' w', (Builtin.append_ #[t, t] o.type #[v, vx]).run Tryz.prog w = .ok v' w' ∧ Row w' e sz v' (n + m) (xs ++ ys) ∧ w.grownBy w' v.ownBlock ∧ (v'.ownBlock = v.ownBlock ∨ v'.ownBlock = some w.heap.size) := by
    rcases hy with ⟨rfl, rfl, rfl⟩ | ⟨ad, c, rfl, hl, hc, h1⟩
    · have hrun := run_append_owned_none (P := Tryz.prog) (w := w) 0 t o.type e i0 sz ht hi v n xs hown
      exact ⟨v, w, hrun, by rw [List.append_nil]; exact hown, ⟨rfl, rfl, rfl, Nat.le_refl _, fun _ _ _ => rfl⟩, .inl rfl⟩
    · have hb : (n + m) * by' ≤ 140737488355328 := by
        have : (n + m) * by' ≤ 1000000 * 1000 := Nat.mul_le_mul hlen hby
        omega
      obtain ⟨v', w', hr, h2, h3, _, h5⟩ := run_append_own_at (P := Tryz.prog) w 0 t o.type e i0 z sz by' ht hi hz0 hz1' hz2 hz1 hsz v n xs hown ad m c ys hl hc h1 (by unfold maxLen; omega) hb (Nat.zero_le _)
      exact ⟨v', w', hr, h2, h3, h5⟩
  obtain ⟨v', w', hr, h1, h2, h3⟩ := key
  obtain ⟨a', cap', rfl, _⟩ := h1.shape
  unfold Oper.wp execOp
  simp only [ho, resolve, invoke, builtin, Sem.run_bind, Sem.run_pure, Result.andThen_ok, List.map_toArray, List.map_cons, List.map_nil, hs, hx, hr]
  exact h a' cap' w' h1 h2 h3

theorem cell_far {w : World} {b b' i j : Nat} {x : Value} (h : b' ≠ b) : (w.setCell ⟨b, i, none⟩ x).cell? ⟨b', j, none⟩ = w.cell? ⟨b', j, none⟩ := World.cell?_setCell_other _ _ _ _ (fun e => h (congrArg Addr.block e).symm)
theorem Tryz.infoChg : (Tryz.prog.info? 69).map (fun i => (i.zero, i.size, i.bytes)) = some (some (.agg #[.int .i64 0, .string ⟨#[]⟩, .string ⟨#[]⟩, .pointer none]), 4, 48) := by kernel_rfl
theorem eql_map (w : World) (p : Option Nat) : (binOp .eql 55 (.map p) (.map none)).run Tryz.prog w = .ok (.bool p.isNone) w := run_eql_map_nil_sl w 55 9 67 p Tryz.underlying55

/-- What a change leaves, told at its end. -/
theorem chg1_end (W w1 w2 : World) (ma : Nat) (c : PC) (l : Dir) (vc : Value) (cs : List PC) (o : Obj) (a2 : Option Addr) (cap2 : Nat) (hm : MapAt W ma l) (hr : Row W 69 4 vc cs.length (chgs cs)) (hm1 : MapAt w1 ma (pdo l c)) (hk1 : Kp (· = ma) W w1)
    (hr2 : Row w2 69 4 (.slice a2 (cs.length + 1) cap2) (cs.length + 1) (chgs cs ++ chgCells c)) (hg2 : (w1.alloc o).drew.grownBy w2 vc.ownBlock) (hb2 : (Value.slice a2 (cs.length + 1) cap2).ownBlock = vc.ownBlock ∨ (Value.slice a2 (cs.length + 1) cap2).ownBlock = some (w1.alloc o).drew.heap.size) :
    MapAt w2 ma (pdo l c) ∧ Row w2 69 4 (.slice a2 (cs.length + 1) cap2) (cs.length + 1) (chgs (cs ++ [c])) ∧ Kp (fun k => k = ma ∨ vc.ownBlock = some k) W w2 ∧ ∀ k, (Value.slice a2 (cs.length + 1) cap2).ownBlock = some k → vc.ownBlock = some k ∨ W.heap.size ≤ k := by
  have hmv : vc.ownBlock ≠ some ma := hm.row hr
  have k2 : Kp (fun k => vc.ownBlock = some k) w1 w2 := (((Kp.refl _ w1).alloc o).drew).grown hg2 (fun x hx => .inl hx)
  refine ⟨hm1.kp k2 (fun e => hmv e), by rw [chgs_append, chgs_one]; exact hr2, (hk1.mono (fun x hx => .inl (.inl hx))).trans k2 (fun x hx => .inl (.inr hx)), fun k hk => ?_⟩
  rcases hb2 with h | h
  · rw [h] at hk
    exact .inl hk
  · rw [h] at hk
    have h3 : w1.heap.size + 1 = k := by simpa using hk
    have := hk1.size
    exact .inr (by omega)

/-- Where the changes begin: the two maps are there, or are made. -/
def Begun (W : World) (s : Nat) (r vc d ar lf st : Value) (vs : Value) (l : Dir) (wx : World) (ma : Nat) : Prop :=
  (wx = W ∧ vs = .map (some ma) ∧ MapAt W ma l) ∨
  (vs = .map none ∧ l = [] ∧ ∃ mf, Kp (· = s) W wx ∧ Blk wx s 63 [r, .map (some ma), .map (some mf), vc, d, ar, lf, st] ∧ MapAt wx ma [] ∧ MapAt wx mf [] ∧ ma ≠ mf ∧ W.heap.size ≤ ma ∧ W.heap.size ≤ mf)

theorem Begun.facts {W : World} {s : Nat} {r vf vc d ar lf st vs : Value} {l : Dir} {wx : World} {ma : Nat} (h : Begun W s r vc d ar lf st vs l wx ma) (hs : Blk W s 63 [r, vs, vf, vc, d, ar, lf, st]) :
    ∃ vf', Blk wx s 63 [r, .map (some ma), vf', vc, d, ar, lf, st] ∧ MapAt wx ma l ∧ Kp (· = s) W wx := by
  rcases h with ⟨rfl, rfl, hm⟩ | ⟨_, rfl, mf, hk, hb, h1, _⟩
  · exact ⟨vf, hs, hm, Kp.refl _ _⟩
  · exact ⟨_, hb, h1, hk⟩
theorem begun_mk (W : World) (s : Nat) (r vc vs vf : Value) {d ar lf st : Value} (A B : Nat) (hs : Blk W s 63 [r, vs, vf, vc, d, ar, lf, st]) :
    Kp (· = s) W (((((W.setCell ⟨s, 1, none⟩ (.map (some A))).setCell ⟨s, 2, none⟩ (.map (some B))).alloc (.map #[] 0)).alloc (.map #[] 0)).drew) ∧ Blk (((((W.setCell ⟨s, 1, none⟩ (.map (some A))).setCell ⟨s, 2, none⟩ (.map (some B))).alloc (.map #[] 0)).alloc (.map #[] 0)).drew) s 63 [r, .map (some A), .map (some B), vc, d, ar, lf, st] := by
  have k1 : Kp (· = s) W ((W.setCell ⟨s, 1, none⟩ (.map (some A))).setCell ⟨s, 2, none⟩ (.map (some B))) := (Kp.set1 _ _ _ _).trans (Kp.set1 _ _ _ _) (fun x hx => .inl hx)
  have b1 := (hs.setCell 1 (.map (some A))).setCell 2 (.map (some B))
  have k2 : Kp No ((W.setCell ⟨s, 1, none⟩ (.map (some A))).setCell ⟨s, 2, none⟩ (.map (some B))) (((((W.setCell ⟨s, 1, none⟩ (.map (some A))).setCell ⟨s, 2, none⟩ (.map (some B))).alloc (.map #[] 0)).alloc (.map #[] 0)).drew) := (((Kp.refl _ _).alloc _).alloc _).drew
  exact ⟨k1.andNone k2, b1.kp k2 (fun h => h)⟩
theorem begun_maps (W : World) (s A B : Nat) : MapAt (((((W.setCell ⟨s, 1, none⟩ (.map (some A))).setCell ⟨s, 2, none⟩ (.map (some B))).alloc (.map #[] 0)).alloc (.map #[] 0)).drew) W.heap.size [] ∧ MapAt (((((W.setCell ⟨s, 1, none⟩ (.map (some A))).setCell ⟨s, 2, none⟩ (.map (some B))).alloc (.map #[] 0)).alloc (.map #[] 0)).drew) (W.heap.size + 1) [] := by
  generalize hV : (W.setCell ⟨s, 1, none⟩ (.map (some A))).setCell ⟨s, 2, none⟩ (.map (some B)) = V
  have hz : V.heap.size = W.heap.size := by rw [← hV]; simp
  have h1 := MapAt.new V
  have h2 := MapAt.new (V.alloc (.map #[] 0))
  rw [hz] at h1
  have hz2 : (V.alloc (.map #[] 0)).heap.size = W.heap.size + 1 := by simp [hz]
  rw [hz2] at h2
  exact ⟨(h1.kp (L := No) (((Kp.refl _ _).alloc _).drew) (fun h => h)), h2.kp (L := No) ((Kp.refl _ _).drew) (fun h => h)⟩

set_option maxHeartbeats 4000000 in
theorem chg1_any (W : World) (s x y : Nat) (c : PC) (l : Dir) (r vs vf vc d ar lf st : Value) (cs : List PC) (hx : Blk W x 25 [.pointer (some ⟨s, 0, none⟩)]) (hy : Blk W y 69 (chgCells c)) (hs : Blk W s 63 [r, vs, vf, vc, d, ar, lf, st])
    (hm : (∃ ma, vs = .map (some ma) ∧ MapAt W ma l) ∨ (vs = .map none ∧ vf = .map none ∧ l = [])) (hr : Row W 69 4 vc cs.length (chgs cs))
    (hok : okc l c) (hn : c.nm.length ≤ 1000000 ∧ c.to.length ≤ 1000000) (hl : l.length ≤ 10000) (hcs : cs.length ≤ 10000) (hvy : vc.ownBlock ≠ some y) :
    Calls Tryz.prog 71 #[.pointer (some ⟨x, 0, none⟩), .pointer (some ⟨y, 0, none⟩)] W fun e w' => e = .returned (.tuple #[]) ∧ ∃ wx ma vc' W1, Begun W s r vc d ar lf st vs l wx ma ∧ MapAt W1 ma (pdo l c) ∧ Row W1 69 4 vc' (cs.length + 1) (chgs (cs ++ [c])) ∧ Kp (fun k => k = ma ∨ vc.ownBlock = some k) wx W1 ∧
      w' = W1.setCell ⟨s, 3, none⟩ vc' ∧ ∀ k, vc'.ownBlock = some k → vc.ownBlock = some k ∨ wx.heap.size ≤ k := by
  have hq := eql_map
  have b0 : W.cell? ⟨x, 0, none⟩ = some (.pointer (some ⟨s, 0, none⟩)) := hx.cell 0
  have c1 : W.cell? ⟨s, 1, none⟩ = some vs := hs.cell 1
  have hxl := hx.lt
  have hsl := hs.lt
  have hsx : s ≠ x := hs.ne hx (by decide)
  have HX := hid hx
  have HY := hid hy
  have HS := hid hs
  have HM := hid hm
  have HR := hid hr
  obtain ⟨a, cap, hv, h5, h6, h7, h8⟩ := hr.shape
  subst hv
  obtain ⟨mo, hmo⟩ : ∃ mo, vs = .map mo := by
    rcases hm with ⟨ma, h, _⟩ | ⟨h, _⟩
    · exact ⟨_, h⟩
    · exact ⟨_, h⟩
  subst hmo
  clear hx hy hs hm hr h7 h8
  go_enter Tryz.func71, Tryz.ntmps71
  go_upto_if 6 with fail
  go_cut [] from 7 to 14 (fun wx => ∃ ma, Hid (Begun W s r (.slice a cs.length cap) d ar lf st (.map mo) l wx ma))
  case first =>
    rcases HM.out with ⟨ma, hvs, hma⟩ | ⟨hvs, hvf, hl0⟩
    · cases hvs
      have HMA := hid hma
      clear hma HM
      go_wp2_with fail
      go_meet
      case rel => exact ⟨ma, .inl ⟨rfl, rfl, HMA.out⟩⟩
    · cases hvs
      subst hvf hl0
      clear HM
      have hmm := @run_makeMap Tryz.prog
      have c2 : W.cell? ⟨s, 2, none⟩ = some (.map none) := HS.out.cell 2
      have f1 := HS.out.frozen 1
      have f2 := HS.out.frozen 2
      have hxs : x ≠ s := Ne.symm hsx
      have hxs1 : ∀ (V : World) (i : Nat) (v : Value), (V.setCell ⟨s, i, none⟩ v).cell? ⟨x, 0, none⟩ = V.cell? ⟨x, 0, none⟩ := fun V i v => cell_far hxs
      have H1 : Hid (∀ A B, Kp (· = s) W (((((W.setCell ⟨s, 1, none⟩ (.map (some A))).setCell ⟨s, 2, none⟩ (.map (some B))).alloc (.map #[] 0)).alloc (.map #[] 0)).drew) ∧ Blk (((((W.setCell ⟨s, 1, none⟩ (.map (some A))).setCell ⟨s, 2, none⟩ (.map (some B))).alloc (.map #[] 0)).alloc (.map #[] 0)).drew) s 63 [r, .map (some A), .map (some B), .slice a cs.length cap, d, ar, lf, st]) := fun A B => begun_mk W s _ _ _ _ A B HS.out
      have H2 : Hid (∀ A B, MapAt (((((W.setCell ⟨s, 1, none⟩ (.map (some A))).setCell ⟨s, 2, none⟩ (.map (some B))).alloc (.map #[] 0)).alloc (.map #[] 0)).drew) W.heap.size [] ∧ MapAt (((((W.setCell ⟨s, 1, none⟩ (.map (some A))).setCell ⟨s, 2, none⟩ (.map (some B))).alloc (.map #[] 0)).alloc (.map #[] 0)).drew) (W.heap.size + 1) []) := fun A B => begun_maps W s A B
      go_wp2_with fail
      go_region
      all_goals
        go_wp2_with fail
        go_meet
        case rel =>
          first
            | exact ⟨W.heap.size, .inr ⟨rfl, rfl, W.heap.size + 1, (H1.out _ _).1, (H1.out _ _).2, (H2.out _ _).1, (H2.out _ _).2, by omega, by omega, by omega⟩⟩
            | exact ⟨W.heap.size + 1, .inr ⟨rfl, rfl, W.heap.size, (H1.out _ _).1, (H1.out _ _).2, (H2.out _ _).2, (H2.out _ _).1, by omega, by omega, by omega⟩⟩
  case rest =>
    obtain ⟨ma, HB⟩ := hcut
    obtain ⟨vf', hs', hm, hk⟩ := HB.out.facts HS.out
    have hx := HX.out.kp hk (Ne.symm hsx)
    have hy := HY.out.kp hk (fun e => HS.out.ne HY.out (by decide) e.symm)
    have hr := HR.out.kp hk (fun k hk' e => HR.out.ne HS.out (by decide) (by rw [hk', e]))
    replace hsl := hs'.lt
    replace c1 : wc.cell? ⟨s, 1, none⟩ = some (.map (some ma)) := hs'.cell 1
    have c3 : wc.cell? ⟨s, 3, none⟩ = some (.slice a cs.length cap) := hs'.cell 3
    have f3 := hs'.frozen 3
    have hsm : s ≠ ma := Ne.symm (hm.blk hs')
    have hsv : ∀ k, (Value.slice a cs.length cap).ownBlock = some k → k ≠ s ∧ k ≠ x ∧ k ≠ y := fun k hk' => ⟨fun e => hr.ne hs' (by decide) (by rw [hk', e]), fun e => hr.ne hx (by decide) (by rw [hk', e]), fun e => hvy (by rw [hk', e])⟩
    clear hs' hk HX HY HS HM HR
    replace b0 : wc.cell? ⟨x, 0, none⟩ = some (.pointer (some ⟨s, 0, none⟩)) := hx.cell 0
    replace hxl := hx.lt
    have hyl := hy.lt
    have hml := hm.lt
    have d0 : wc.cell? ⟨y, 0, none⟩ = some (.int .i64 (c.kind : Int)) := hy.cell 0
    have d1 : wc.cell? ⟨y, 1, none⟩ = some (.string (sOf c.nm)) := hy.cell 1
    have d2 : wc.cell? ⟨y, 2, none⟩ = some (.string (sOf c.to)) := hy.cell 2
    have d3 : wc.cell? ⟨y, 3, none⟩ = some (ptrV (pcV c)) := hy.cell 3
    have HO : Hid (chgCells c = [.int .i64 (c.kind : Int), .string (sOf c.nm), .string (sOf c.to), ptrV (pcV c)]) := rfl
    obtain ⟨pv, hpv⟩ : ∃ pv, ptrV (pcV c) = .pointer pv := ⟨_, rfl⟩
    rw [hpv] at d3 HO
    have hmx : Hid (x ≠ ma ∧ y ≠ ma) := by
      refine ⟨fun e => ?_, fun e => ?_⟩
      · rw [e, hm.noCell] at b0; cases b0
      · rw [e, hm.noCell] at d0; cases d0
    -- the changes are done
    have HD : Hid (∀ V, Kp No (wc.alloc (.cells #[.int .i64 (c.kind : Int), .string (sOf c.nm), .string (sOf c.to), .pointer pv] 69)) V → Calls Tryz.prog 24 #[.map (some ma), .slice (some ⟨wc.heap.size, 0, none⟩) 1 1] V fun e w' => e = .returned (.tuple #[]) ∧ MapAt w' ma (pdo l c) ∧ Kp (· = ma) wc w') := by
      intro V k
      have k0 : Kp No wc V := ((Kp.refl _ _).alloc _).andNone k
      have ho : ChAt V (.slice (some ⟨wc.heap.size, 0, none⟩) 1 1) [c] := by
        obtain ⟨a, cap, h1, h2, h3, h4, h5⟩ := ChAt.one wc c
        refine ⟨a, cap, h1, h2, h3, h4, fun hne => ?_⟩
        obtain ⟨g, hg, hgl, hcl⟩ := h5 hne
        rw [HO.out] at hgl hcl
        exact ⟨g, hg, Nat.lt_of_lt_of_le hgl k.size, fun i d hi j hj => (k.cell (p := ⟨g, i * 4 + j, none⟩) hgl (fun h => h)).trans (hcl i d hi j hj)⟩
      refine (do_any V ma l _ [c] (hm.kp k0 (fun h => h)) ho ⟨hok, trivial⟩ (by simpa using hn) (by simp; omega)).mono ?_
      rintro e w' ⟨rfl, h1, h2⟩
      exact ⟨rfl, h1, (k0.mono (fun _ h => h.elim)).trans h2 (fun x hx => .inl hx)⟩
    have HR := hid hr
    have HM := hid hm
    have HSV := hid hsv
    clear hx hy hr hm hok hn hsv hpv
    generalize sOf c.nm = sn at *
    generalize sOf c.to = st at *
    have hmx1 := hmx.out.1
    have hmx2 := hmx.out.2
    have r0 : ∀ V, Kp (· = ma) wc V → V.cell? ⟨x, 0, none⟩ = some (.pointer (some ⟨s, 0, none⟩)) := fun V k => (k.cell (p := ⟨x, 0, none⟩) hxl hmx1).trans b0
    have r1 : ∀ V, Kp (· = ma) wc V → V.cell? ⟨s, 1, none⟩ = some (.map (some ma)) := fun V k => (k.cell (p := ⟨s, 1, none⟩) hsl hsm).trans c1
    have r3 : ∀ V, Kp (· = ma) wc V → V.cell? ⟨s, 3, none⟩ = some (.slice a cs.length cap) := fun V k => (k.cell (p := ⟨s, 3, none⟩) hsl hsm).trans c3
    have g3 : ∀ V, Kp (· = ma) wc V → V.frozen? ⟨s, 3, none⟩ = false := fun V k => (k.frozen (p := ⟨s, 3, none⟩) hsl hsm).trans f3
    have t0 : ∀ V, Kp (· = ma) wc V → V.cell? ⟨y, 0, none⟩ = some (.int .i64 (c.kind : Int)) := fun V k => (k.cell (p := ⟨y, 0, none⟩) hyl hmx2).trans d0
    have t1 : ∀ V, Kp (· = ma) wc V → V.cell? ⟨y, 1, none⟩ = some (.string sn) := fun V k => (k.cell (p := ⟨y, 1, none⟩) hyl hmx2).trans d1
    have t2 : ∀ V, Kp (· = ma) wc V → V.cell? ⟨y, 2, none⟩ = some (.string st) := fun V k => (k.cell (p := ⟨y, 2, none⟩) hyl hmx2).trans d2
    have t3 : ∀ V, Kp (· = ma) wc V → V.cell? ⟨y, 3, none⟩ = some (.pointer pv) := fun V k => (k.cell (p := ⟨y, 3, none⟩) hyl hmx2).trans d3
    go_wp2_with fail
    go_region_held3 (fun V => Kp (· = ma) wc V) (first | (with_reducible exact Kp.refl _ _) | (with_reducible exact (Kp.refl _ _).drew) | (with_reducible exact ((Kp.refl _ _).alloc _).drew) | (with_reducible exact (Kp.refl _ _).drew.alloc _) | (with_reducible exact HK1.out)) (first | (go_at_call 24; refine (HD.out _ ?_).mono ?_; (with_reducible exact (Kp.refl _ _).drew); rintro e w1 ⟨rfl, hm1, hk1⟩; have HM1 := hid hm1; have HK1 := hid hk1; clear hm1 hk1))
    have k1 := HK1.out
    have u0 := r0 _ k1
    have u3 := r3 _ k1
    have z3 := g3 _ k1
    have v0 := t0 _ k1
    have v1 := t1 _ k1
    have v2 := t2 _ k1
    have v3 := t3 _ k1
    have hsl1 : s < w1.heap.size := Nat.lt_of_lt_of_le hsl k1.size
    have hxl1 : x < w1.heap.size := Nat.lt_of_lt_of_le hxl k1.size
    have hyl1 : y < w1.heap.size := Nat.lt_of_lt_of_le hyl k1.size
    have HROW : Hid (∀ o, Row (w1.alloc o) 69 4 (.slice a cs.length cap) cs.length (chgs cs)) := fun o => (HR.out.kp k1 (fun k hk e => HM.out.row HR.out (by rw [← e]; exact hk))).kept ((Kp.refl _ _).alloc _)
    have HSRC : Hid (Src (w1.alloc (.cells #[.int .i64 (c.kind : Int), .string sn, .string st, .pointer pv] 69)) (.slice (some ⟨w1.heap.size, 0, none⟩) 1 1) 1 4 (chgCells c)) := by
      have h := Src.one w1 (chgCells c) 4 69 rfl (chgCells_one c)
      rw [HO.out] at h ⊢
      exact h
    have HSZ := hid k1.size
    clear r0 r1 r3 g3 t0 t1 t2 t3 k1 HD
    go_wp2_with fail
    clear hq c1 c3 f3 b0 d0 d1 d2 d3 hmx hmx1 hmx2 hsl hxl hyl hml hsx

    go_region_law (refine step_app _ (by rfl) (.tmp 26) (.tmp 28) 56 69 _ 4 48 (by rfl) Tryz.underlying56 Tryz.infoChg rfl (by decide) (.slice a cs.length cap) (.slice (some ⟨w1.heap.size, 0, none⟩) 1 1) cs.length 1 (chgs cs) (chgCells c) (by simp [Act.eval]) (by simp [Act.eval]) (HROW.out _) HSRC.out (by omega) (by decide) ?_; intro a2 cap2 w2 hr2 hg2 hb2; have HR2 := hid hr2; have HG2 := hid hg2; have HB2 := hid hb2; have y3 : w2.cell? ⟨s, 3, none⟩ = some (.slice a cs.length cap) := hg2.cell ((World.cell?_alloc_past _ _ _ hsl1).trans u3) (fun e => (HSV.out s e.symm).1 rfl); have yz : w2.frozen? ⟨s, 3, none⟩ = false := ((Kp.ofGrown hg2).frozen (p := ⟨s, 3, none⟩) (by simp; omega) (fun e => (HSV.out s e).1 rfl)).trans ((World.frozen?_alloc_past _ _ _ hsl1).trans z3); have yx : w2.cell? ⟨x, 0, none⟩ = some (.pointer (some ⟨s, 0, none⟩)) := hg2.cell ((World.cell?_alloc_past _ _ _ hxl1).trans u0) (fun e => (HSV.out x e.symm).2.1 rfl); clear hr2 hg2 hb2)
    all_goals
      go_end0
      have hE := chg1_end wc w1 w2 ma c l _ cs _ a2 cap2 HM.out HR.out HM1.out HK1.out HR2.out HG2.out HB2.out
      exact ⟨rfl, wc, ma, _, w2, HB.out, hE.1, hE.2.1, hE.2.2.1, rfl, hE.2.2.2⟩

end Go.Proofs.YtmiipifhbliamaaGreat.Sim
