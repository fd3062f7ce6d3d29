/- Of the proof: the texts SimFile, FrFirst, FrRecord, CrcOpen, one behind the other. -/
import Derived.Test.YtkekajmmcjacgaaGreatDoorB3
import Derived.Test.YtkekajmmcjacgaaGreatDoorB7
import Derived.Deep.RegionLaw
import Derived.Deep.RegionHeld3
import Derived.Test.YtkekajmmcjacgaaGreatDoorB6
import Derived.Deep.DeepCutAuto
import Derived.Laws.Cover3
import Derived.Deep.RegionWith
section
/-
  A file is written: Append, Fsync, Flip.
-/
namespace Go.Proofs.YtkekajmmcjacgaaGreatDoor.Sim
open Go.RowKit Go.Maps

/-- A file's block, or its bytes', are written. -/
theorem rq_setF {P P' : Nat → Prop} {I J : PS → Prop} {W W' : World} {s b : Nat} {q : PS} {vs vf vc v' : Value} {u : Nat → Value} {f f' : Fl} (h : Rp P I W s q vs vf vc u) (hb : q.files b = some f)
    (K : Kp (fun k => k = b ∨ (u b).ownBlock = some k) W W') (hF : FileAt W' b v' f') (hv : ∀ k, v'.ownBlock = some k → (u b).ownBlock = some k ∨ W.heap.size ≤ k) (hPP : ∀ x, P x → P' x) (hlt : ∀ x, P' x → x < W'.heap.size) (hvP : ∀ k, v'.ownBlock = some k → P' k) (hi : J (setF b f' q)) :
    Rp P' J W' s (setF b f' q) vs vf vc (fun x => if x = b then v' else u x) ∧ Kp P W W' := by
  obtain ⟨hPb, hFb, hPu⟩ := h.file b f hb
  have nb : ∀ x t cs, Blk W x t cs → x ≠ b → t ≠ 5 → ¬ (x = b ∨ (u b).ownBlock = some x) := fun x t cs hx hne ht e => by
    rcases e with e | e
    · exact hne e
    · exact hFb.own.row.ne hx ht e
  have nm' : ∀ m l, MapAt W m l → ¬ (m = b ∨ (u b).ownBlock = some m) := fun m l hm e => by
    rcases e with e | e
    · exact hm.blk hFb.blk e
    · exact hm.row hFb.own.row e
  have KP : Kp P W W' := K.mono (fun x hx => by
    rcases hx with rfl | hx
    · exact .inl hPb
    · exact .inl (hPu x hx))
  refine ⟨?_, KP⟩
  exact {
    lt := hlt
    ps := hPP _ h.ps
    blk := h.blk.kp K (nb s _ _ h.blk (h.blk.ne hFb.blk (by decide)) (by decide))
    seen := by
      rcases h.seen with ⟨h1, h2⟩ | ⟨m, h1, h2⟩
      · exact .inl ⟨h1, h2⟩
      · exact .inr ⟨m, h1, h2.kp K (nm' m _ h2)⟩
    safe := by
      rcases h.safe with ⟨h1, h2⟩ | ⟨m, h1, h2⟩
      · exact .inl ⟨h1, h2⟩
      · exact .inr ⟨m, h1, h2.kp K (nm' m _ h2)⟩
    unmade := h.unmade
    mades := fun e => by obtain ⟨a, c, h1, h2, h3, h4, h5⟩ := h.mades e; exact ⟨a, c, h1, h2, h3, hPP _ h4, hPP _ h5⟩
    chg := h.chg.kp K (fun x hx e => by
      rcases e with e | e
      · exact h.chg.ne hFb.blk (by decide) (by rw [hx, e])
      · exact hFb.own.row.ne' h.chg (by decide) x e hx)
    pc := fun x hx => hPP _ (h.pc x hx)
    file := fun x g hg => by
      have hg' : (if x = b then some f' else q.files x) = some g := hg
      by_cases e : x = b
      · subst e
        rw [if_pos rfl] at hg' ⊢
        cases hg'
        exact ⟨hPP _ hPb, hF, hvP⟩
      · rw [if_neg e] at hg' ⊢
        obtain ⟨h1, h2, h3⟩ := h.file x g hg'
        exact ⟨hPP _ h1, h2.kp K (nb x _ _ h2.blk e (by decide)) (fun k hk e' => by
          rcases e' with e' | e'
          · exact h2.own.row.ne hFb.blk (by decide) (by rw [hk, e'])
          · exact h.sep b x f g hb hg' (Ne.symm e) k e' hk), fun k hk => hPP _ (h3 k hk)⟩
    sep := fun x y g g' hx hy hne k hk => by
      have hx' : (if x = b then some f' else q.files x) = some g := hx
      have hy' : (if y = b then some f' else q.files y) = some g' := hy
      by_cases ex : x = b
      · subst ex
        have ey : y ≠ x := Ne.symm hne
        rw [if_pos rfl] at hk
        rw [if_neg ey] at hy' ⊢
        rcases hv k hk with h1 | h1
        · exact h.sep x y f g' hb hy' hne k h1
        · intro e
          have := h.lt k ((h.file y g' hy').2.2 k e)
          omega
      · rw [if_neg ex] at hx' hk
        by_cases ey : y = b
        · subst ey
          rw [if_pos rfl]
          intro e
          rcases hv k e with h1 | h1
          · exact h.sep x y g f hx' hb hne k hk h1
          · have := h.lt k ((h.file x g hx').2.2 k hk)
            omega
        · rw [if_neg ey] at hy' ⊢
          exact h.sep x y g g' hx' hy' hne k hk
    inv := hi }

theorem rp_setF {P : Nat → Prop} {I : PS → Prop} {M : Nat} {W W' : World} {s b : Nat} {q : PS} {vs vf vc v' : Value} {u : Nat → Value} {f f' : Fl} (h : Rp P I W s q vs vf vc u) (hb : q.files b = some f)
    (K : Kp (fun k => k = b ∨ (u b).ownBlock = some k) W W') (hF : FileAt W' b v' f') (hv : ∀ k, v'.ownBlock = some k → (u b).ownBlock = some k ∨ W.heap.size ≤ k) (hi : PInv M (setF b f' q)) :
    Sys (Ext P W W') M W' s (setF b f' q) ∧ Kp P W W' := by
  obtain ⟨h1, h2⟩ := rq_setF (P' := Ext P W W') (J := PInv M) h hb K hF hv (fun x hx => .inl hx) (fun x hx => by
    rcases hx with hx | hx
    · exact Nat.lt_of_lt_of_le (h.lt x hx) K.size
    · exact hx.2) (fun k hk => by
    rcases hv k hk with h1 | h1
    · exact .inl ((h.file b f hb).2.2 k h1)
    · exact .inr ⟨h1, hF.own.row.lt k hk⟩) hi
  exact ⟨⟨vs, vf, vc, _, h1⟩, h2⟩

/-! ### Fsync -/
theorem fsync_nil (t : ByteArray) (w : World) : Calls Tryz.prog 93 #[.pointer none, .string t] w fun e w' => e = .returned (.int .i64 18) ∧ Kp No w w' := by
  go_enter Tryz.func93, Tryz.ntmps93
  go_wp2_with (go_at_call 114; refine (find_nil t _).mono ?_; rintro e w1 ⟨rfl, h1⟩; have H1 := hid h1; clear h1)
  go_ret
  exact ⟨rfl, H1.out.alloc _⟩

set_option maxHeartbeats 1000000 in
theorem fsync1_any (W : World) (x b : Nat) (a : Option Addr) (n cap m : Nat) (hx : W.cell? ⟨x, 0, none⟩ = some (.pointer (some ⟨b, 0, none⟩))) (hb : Blk W b 192 [.slice a n cap, .int .i64 (m : Int)]) :
    Calls Tryz.prog 150 #[.pointer (some ⟨x, 0, none⟩)] W fun e w' => e = .returned (.tuple #[]) ∧ ∃ W1, Kp No W W1 ∧ w' = W1.setCell ⟨b, 1, none⟩ (.int .i64 (n : Int)) := by
  have c0 : W.cell? ⟨b, 0, none⟩ = some (.slice a n cap) := hb.cell 0
  have c1 : W.cell? ⟨b, 1, none⟩ = some (.int .i64 (m : Int)) := hb.cell 1
  have f1 := hb.frozen 1
  clear hb
  go_enter Tryz.func150, Tryz.ntmps150
  go_wp2_with fail
  go_region
  all_goals
    go_wp2_with fail
    go_end0
    exact ⟨rfl, W.drew, (Kp.refl _ _).drew, rfl⟩

/-- A step that writes a file. -/
theorem step_file {P : Nat → Prop} {N : Nat} (w0 w : World) (s : Nat) (p : PS) (b : Nat) (f' : Fl) (hk0 : Kp No w0 w) (h : Sys P N w0 s p) (hN : N + 1 ≤ 1000) (fn : FuncId) (caps : Array Value) (ent : ∀ args w, (callFunc fn args).run Tryz.prog w = .ok (.enter fn args) w)
    (hc : ∀ W vs vf vc u, Kp (· = s) w W → Rp P (PInv (N + 1)) W s (tick p) vs vf vc u → Calls Tryz.prog fn caps W fun e w' => e = .returned (.tuple #[]) ∧ Sys (Ext P W w') (N + 1) w' s (setF b f' (tick p)) ∧ Kp P W w') :
    Calls Tryz.prog 136 #[.pointer (some ⟨s, 0, none⟩), .func (.func fn) #[] caps] w fun e w' => e = .returned (.int .i64 ((stp p (setF b f')).1 : Nat)) ∧ Done P (N + 1) w0 w' s (stp p (setF b f')).2 := by
  have hps := h.c.1
  cases hd : dead p with
  | true =>
    have e1 : stp p (setF b f') = (12, fall p) := by simp [stp, hd]
    rw [e1]
    refine (step_dead w s p (h.kept hk0) hd _).mono ?_
    rintro e w' ⟨rfl, hS, hk⟩
    exact ⟨rfl, P, hS.more (by omega) hN, (hk0.mono (fun _ h => h.elim)).trans hk (fun x hx => .inl (by subst hx; exact hps)), fun _ h => .inl h⟩
  | false =>
    have e1 : stp p (setF b f') = (0, setF b f' (tick p)) := by simp [stp, hd]
    rw [e1]
    refine step_live w s p (h.kept hk0) hd hN fn caps ent _ ?_
    rintro W kW ⟨vs, vf, vc, u, hR⟩
    refine (hc W vs vf vc u kW hR).mono ?_
    rintro e w' ⟨rfl, hS, hk⟩
    have kw : Kp P w0 W := (hk0.mono (fun _ h => h.elim)).trans kW (fun x hx => .inl (by subst hx; exact hps))
    refine ⟨rfl, _, hS, kw.trans hk (fun x hx => .inl hx), fun x hx => ?_⟩
    rcases hx with hx | hx
    · exact .inl hx
    · exact .inr (Nat.le_trans kw.size hx.1)

/-- The place of a box behind what a step has written. -/
theorem boxed {s : Nat} {w1 W : World} {v : Value} {t : TypeId} (hs : s < w1.heap.size) (k : Kp (· = s) (w1.alloc (.cells #[v] t)) W) : W.cell? ⟨w1.heap.size, 0, none⟩ = some v := by
  have := (Blk.new w1 t [v]).kp k (fun e => by omega)
  exact this.cell 0

set_option maxHeartbeats 1000000 in
theorem fsync_any {P : Nat → Prop} {N : Nat} (w : World) (s : Nat) (p : PS) (t : ByteArray) (ht : t.size ≤ 20000000) (h : Sys P N w s p) (hN : N + 1 ≤ 1000) :
    Calls Tryz.prog 93 #[.pointer (some ⟨s, 0, none⟩), .string t] w fun e w' => e = .returned (.int .i64 ((pFsync (nm t) p).1 : Nat)) ∧ Done P (N + 1) w w' s (pFsync (nm t) p).2 := by
  have HC := hid (find_any w s p t ht h)
  have hI := h.inv
  have H := hid h
  have hmk := hmf
  have hsl := h.c.2.1
  by_cases h0 : finds p (nm t) = 0
  · obtain ⟨b, hb⟩ := found_zero hI h0
    obtain ⟨_, hd, _⟩ := pBytes_of hb
    have hf := hI.hasFound hd
    have e1 : pFsync (nm t) p = stp p (setF b ⟨(fileAt p b).b, (fileAt p b).b.length⟩) := by simp [pFsync, h0, blockOf, hd]
    have HST : Hid (∀ w1, Kp No w w1 → Calls Tryz.prog 136 #[.pointer (some ⟨s, 0, none⟩), .func (.func 150) #[] #[.pointer (some ⟨w1.heap.size, 0, none⟩)]] (w1.alloc (.cells #[.pointer (some ⟨b, 0, none⟩)] 187)) fun e w' =>
        e = .returned (.int .i64 ((pFsync (nm t) p).1 : Nat)) ∧ Done P (N + 1) w w' s (pFsync (nm t) p).2) := by
      intro w1 hk
      rw [e1]
      refine step_file w _ s p b _ (hk.alloc _) h hN 150 _ (enters_of Tryz.func150 (by kernel_rfl) rfl) ?_
      intro W vs vf vc u kW hR
      obtain ⟨hPb, hFb, hPu⟩ := hR.file b _ hf
      obtain ⟨a, cap, hv, hle, _⟩ := hFb.own.shape
      have hblk := hFb.blk
      rw [hv] at hblk
      refine (fsync1_any W w1.heap.size b a _ cap _ (boxed (Nat.lt_of_lt_of_le hsl hk.size) kW) hblk).mono ?_
      rintro e w' ⟨rfl, W1, k1, rfl⟩
      have kK : Kp (fun k => k = b ∨ (u b).ownBlock = some k) W (W1.setCell ⟨b, 1, none⟩ (.int .i64 ((fileAt p b).b.length : Int))) := (k1.mono (fun _ h => h.elim)).setCell (p := ⟨b, 1, none⟩) (.inl (.inl rfl)) _
      have hS := rp_setF (f' := ⟨(fileAt p b).b, (fileAt p b).b.length⟩) (v' := u b) hR hf kK ?_ (fun k hk => .inl hk) (inv_setF hR.inv (show (fileAt p b).b.length ≤ 12000 * (N + 1) from hR.inv.lfile b (fileAt p b) hf))
      · exact ⟨rfl, hS.1, hS.2⟩
      · refine ⟨(hFb.blk.kp k1 (fun h => h)).setCell 1 _, ?_, hFb.byt, Nat.le_refl _⟩
        exact (hFb.own.kept k1).row.kp (Kp.set1 W1 b 1 _) (fun k hk e => hFb.own.row.ne hFb.blk (by decide) (by rw [hk, e]))
    rw [h0, hb] at HC
    have e0 : ptrV (some b) = .pointer (some ⟨b, 0, none⟩) := rfl
    rw [e0] at HC
    generalize pFsync (nm t) p = R at *
    clear e1 e0 hd hb h0 hI h hf
    go_enter Tryz.func93, Tryz.ntmps93
    go_wp2_with (first | (go_at_call 114; refine (HC.out).mono ?_; rintro e w1 ⟨rfl, h1⟩; have H1 := hid h1; clear h1) | (go_at_call 136; refine (HST.out w1 H1.out).mono ?_; rintro e w2 ⟨rfl, h2⟩; have H2 := hid h2; clear h2))
    go_ret
    exact ⟨rfl, H2.out⟩
  · have e1 : pFsync (nm t) p = (finds p (nm t), p) := by simp [pFsync, h0]
    have hn : foundP p (nm t) = none := by simp [foundP, h0]
    rw [e1]
    rw [hn] at HC
    have e0 : ptrV none = .pointer none := rfl
    rw [e0] at HC
    generalize finds p (nm t) = x at *
    have hne : ((x : Int) != 0) = true := by simp; omega
    clear e1 e0 hn h0 hI h
    go_enter Tryz.func93, Tryz.ntmps93
    go_wp2_with (go_at_call 114; refine (HC.out).mono ?_; rintro e w1 ⟨rfl, h1⟩; have H1 := hid h1; clear h1)
    go_ret
    exact ⟨rfl, (Done.of (H.out.more (by omega) hN) (Kp.refl _ _)).kept (H1.out.alloc _)⟩

/-! ### Append -/
set_option maxHeartbeats 4000000 in
theorem append1_any {Q : Nat → Prop} (W : World) (x y b : Nat) (v vb : Value) (bs ys : List Nat) (m : Nat) (hx : Blk W x 187 [.pointer (some ⟨b, 0, none⟩)]) (hy : Blk W y 38 [vb]) (hb : Blk W b 192 [v, .int .i64 (m : Int)]) (hv : OwnB W v bs) (hvb : ByP Q W vb ys) (hl : bs.length + ys.length ≤ 20000000) :
    Calls Tryz.prog 137 #[.pointer (some ⟨x, 0, none⟩), .pointer (some ⟨y, 0, none⟩)] W fun e w' => e = .returned (.tuple #[]) ∧ ∃ a' cap' W1, OwnB W1 (.slice a' (bs.length + ys.length) cap') (bs ++ ys) ∧ Kp (fun k => v.ownBlock = some k) W W1 ∧ ((Value.slice a' (bs.length + ys.length) cap').ownBlock = v.ownBlock ∨ (Value.slice a' (bs.length + ys.length) cap').ownBlock = some W.heap.size) ∧
      w' = W1.setCell ⟨b, 0, none⟩ (.slice a' (bs.length + ys.length) cap') := by
  have b0 : W.cell? ⟨x, 0, none⟩ = some (.pointer (some ⟨b, 0, none⟩)) := hx.cell 0
  have y0 : W.cell? ⟨y, 0, none⟩ = some vb := hy.cell 0
  have c0 : W.cell? ⟨b, 0, none⟩ = some v := hb.cell 0
  have f0 := hb.frozen 0
  have hxl := hx.lt
  have hyl := hy.lt
  have hbl := hb.lt
  have HOV := hid hv
  have HSR := hid hvb.src
  have hvx : Hid (v.ownBlock ≠ some x ∧ v.ownBlock ≠ some b) := ⟨hv.row.ne hx (by decide), hv.row.ne hb (by decide)⟩
  obtain ⟨a, cap, rfl, _⟩ := hv.shape
  obtain ⟨a1, cap1, rfl, _⟩ := hvb
  clear hx hy hb
  go_enter Tryz.func137, Tryz.ntmps137
  go_wp2_with fail
  go_region_law (refine step_app _ (by rfl) (.tmp 6) (.tmp 7) 38 5 (.int .u8 0) 1 1 (by rfl) Tryz.underlying38 Tryz.info5 rfl (by decide) (.slice a bs.length cap) (.slice a1 ys.length cap1) bs.length ys.length (cl bs) (cl ys) (by simp [Act.eval]) (by simp [Act.eval]) HOV.out.row HSR.out (by omega) (by decide) ?_; intro a2 cap2 w2 hr2 hg2 hb2; have HR2 := hid hr2; have HG2 := hid hg2; have HB2 := hid hb2; have z0 : w2.cell? ⟨b, 0, none⟩ = some (.slice a bs.length cap) := hg2.cell c0 (fun e => hvx.out.2 e.symm); have zf : w2.frozen? ⟨b, 0, none⟩ = false := ((Kp.ofGrown hg2).frozen (p := ⟨b, 0, none⟩) hbl (fun e => hvx.out.2 e)).trans f0; have zx : w2.cell? ⟨x, 0, none⟩ = some (.pointer (some ⟨b, 0, none⟩)) := hg2.cell b0 (fun e => hvx.out.1 e.symm); clear hr2 hg2 hb2)
  all_goals
    go_end0
    refine ⟨rfl, a2, cap2, w2, ?_, (Kp.refl _ _).drew.grown HG2.out (fun x hx => .inl hx), HB2.out, rfl⟩
    unfold OwnB
    rw [cl_append, List.length_append]
    exact HR2.out

theorem append_nil (t : ByteArray) (a : Option Addr) (n cap : Nat) (w : World) : Calls Tryz.prog 75 #[.pointer none, .string t, .slice a n cap] w fun e w' => e = .returned (.int .i64 18) ∧ Kp No w w' := by
  go_enter Tryz.func75, Tryz.ntmps75
  go_wp2_with (go_at_call 114; refine (find_nil t _).mono ?_; rintro e w1 ⟨rfl, h1⟩; have H1 : Hid (Kp No w w1) := ((Kp.refl _ _).alloc _).andNone h1; clear h1)
  go_ret
  exact ⟨rfl, H1.out.alloc _⟩

theorem used_le {N : Nat} {p : PS} (hI : PInv N p) : used p ≤ 1000 * 12000000 := by
  have h := sumBy_le (fun b => (fileAt p b).b.length) 12000000 (fun _ => false) p.seen (fun e he => by
    obtain ⟨f, hf⟩ := Option.isSome_iff_exists.1 (hI.hasSeen e he).1
    have := hI.lfile _ f hf
    have := hI.big
    simp only [fileAt, hf, Option.getD_some]
    omega)
  rw [sumBy_end _ _ _ (fun _ => rfl)] at h
  exact Nat.le_trans h (Nat.mul_le_mul_right _ (Nat.le_trans hI.lseen hI.big))

set_option maxHeartbeats 2000000 in
theorem append_any {P Q : Nat → Prop} {N : Nat} (w : World) (s : Nat) (p : PS) (t : ByteArray) (vb : Value) (ys : List Nat) (ht : t.size ≤ 20000000) (h : Sys P N w s p) (hN : N + 1 ≤ 1000) (hy : ByP Q w vb ys) (hQ : ∀ x, Q x → ¬ P x) (hl : ys.length ≤ 12000) :
    Calls Tryz.prog 75 #[.pointer (some ⟨s, 0, none⟩), .string t, vb] w fun e w' => e = .returned (.int .i64 ((pAppend (nm t) ys p).1 : Nat)) ∧ Done P (N + 1) w w' s (pAppend (nm t) ys p).2 := by
  have hI := h.inv
  have H := hid h
  have hmk := hmf
  have hsl := h.c.2.1
  have hps := h.c.1
  have hul := used_le hI
  have hrl := hI.room
  have HY := hid hy
  have HQ := hid hQ
  obtain ⟨a, cap, rfl, hy1, hy2, _⟩ := hy
  have hc0 : Hid (∀ V, Kp No w V → V.cell? ⟨s, 0, none⟩ = some (.int .i64 (p.room : Int))) := fun V k => by
    obtain ⟨vs, vf, vc, u, hR⟩ := h
    exact (k.cell (p := ⟨s, 0, none⟩) hsl (fun h => h)).trans (hR.c 0)
  have HC : Hid (Calls Tryz.prog 114 #[.pointer (some ⟨s, 0, none⟩), .string t] (w.alloc (.cells #[.slice a ys.length cap] 38)) fun e w' => e = .returned (.tuple #[ptrV (foundP p (nm t)), .int .i64 (finds p (nm t) : Nat)]) ∧ Kp No (w.alloc (.cells #[.slice a ys.length cap] 38)) w') := find_any _ s p t ht (h.kept ((Kp.refl _ _).alloc _))
  have HU : Hid (∀ V, Kp No w V → Calls Tryz.prog 99 #[.pointer (some ⟨s, 0, none⟩)] V fun e w' => e = .returned (.int .i64 (used p : Nat)) ∧ Kp No V w') := fun V k => used_any V s p (h.kept k)
  by_cases h0 : finds p (nm t) = 0
  · obtain ⟨b, hb⟩ := found_zero hI h0
    obtain ⟨_, hd, _⟩ := pBytes_of hb
    have hf := hI.hasFound hd
    rw [h0, hb] at HC
    have e0 : ptrV (some b) = .pointer (some ⟨b, 0, none⟩) := rfl
    rw [e0] at HC
    have HST : Hid (used p + ys.length ≤ p.room → ∀ w1, Kp No (w.alloc (.cells #[.slice a ys.length cap] 38)) w1 → ∀ W0, Kp No (w1.alloc (.cells #[.pointer (some ⟨b, 0, none⟩)] 187)) W0 → Calls Tryz.prog 136 #[.pointer (some ⟨s, 0, none⟩), .func (.func 137) #[] #[.pointer (some ⟨w1.heap.size, 0, none⟩), .pointer (some ⟨w.heap.size, 0, none⟩)]] W0 fun e w' =>
        e = .returned (.int .i64 ((pAppend (nm t) ys p).1 : Nat)) ∧ Done P (N + 1) w w' s (pAppend (nm t) ys p).2) := by
      intro hroom w1 hk1 W0 hk0
      have e1 : pAppend (nm t) ys p = stp p (setF b ⟨(fileAt p b).b ++ ys, (fileAt p b).safe⟩) := by
        have : ¬ (used p + ys.length > p.room) := by omega
        simp [pAppend, h0, blockOf, hd, this]
      rw [e1]
      have kA : Kp No w w1 := ((Kp.refl _ _).alloc _).andNone hk1
      have kB : Kp No w W0 := (kA.alloc _).andNone hk0
      have hz : w.heap.size < w1.heap.size := by have := hk1.size; simp at this; omega
      refine step_file w W0 s p b _ kB h hN 137 _ (enters_of Tryz.func137 (by kernel_rfl) rfl) ?_
      intro W vs vf vc u kW hR
      obtain ⟨hPb, hFb, hPu⟩ := hR.file b _ hf
      have hx : Blk W w1.heap.size 187 [.pointer (some ⟨b, 0, none⟩)] := ((Blk.new w1 187 [.pointer (some ⟨b, 0, none⟩)]).kp hk0 (fun h => h)).kp kW (fun e => by omega)
      have hyb : Blk W w.heap.size 38 [.slice a ys.length cap] := ((((Blk.new w 38 [.slice a ys.length cap]).kp hk1 (fun h => h)).kp (L := No) ((Kp.refl _ _).alloc _) (fun h => h)).kp hk0 (fun h => h)).kp kW (fun e => by omega)
      have hby : ByP Q W (.slice a ys.length cap) ys := (HY.out.kept kB).kp kW (fun x hx _ hq => HQ.out x hq (by subst hx; exact hps))
      have hfl : (fileAt p b).b.length ≤ 12000 * N := hI.lfile b _ hf
      have hbig := hI.big
      refine (append1_any W w1.heap.size w.heap.size b (u b) _ (fileAt p b).b ys _ hx hyb hFb.blk hFb.own hby (by omega)).mono ?_
      rintro e w' ⟨rfl, a', cap', W1, ho, k1, hbl, rfl⟩
      have kK : Kp (fun k => k = b ∨ (u b).ownBlock = some k) W (W1.setCell ⟨b, 0, none⟩ (.slice a' ((fileAt p b).b.length + ys.length) cap')) := (k1.mono (fun x hx => .inl (.inr hx))).setCell (p := ⟨b, 0, none⟩) (.inl (.inl rfl)) _
      have hbn : (u b).ownBlock ≠ some b := hFb.own.row.ne hFb.blk (by decide)
      have hB1 := hFb.blk.kp k1 (fun e => hbn e)
      have hS := rp_setF (f' := ⟨(fileAt p b).b ++ ys, (fileAt p b).safe⟩) (v' := .slice a' ((fileAt p b).b.length + ys.length) cap') hR hf kK ?_ (fun k hk => ?_) (inv_setF hR.inv (by simp; omega))
      · exact ⟨rfl, hS.1, hS.2⟩
      · refine ⟨hB1.setCell 0 _, ?_, fun x hx => ?_, by have := hFb.le; simp; omega⟩
        · exact ho.row.kp (Kp.set1 W1 b 0 _) (fun k hk e => ho.row.ne hB1 (by decide) (by rw [hk, e]))
        · rcases List.mem_append.1 hx with hx | hx
          · exact hFb.byt x hx
          · obtain ⟨_, _, _, _, _, _, _, h6, _⟩ := hby
            exact h6 x hx
      · rcases hbl with h1 | h1
        · rw [h1] at hk; exact .inl hk
        · rw [h1] at hk; simp at hk; exact .inr (by omega)
    have hbx : Hid (∀ V, Kp No (w.alloc (.cells #[.slice a ys.length cap] 38)) V → V.cell? ⟨w.heap.size, 0, none⟩ = some (.slice a ys.length cap)) := fun V k => ((Blk.new w 38 [.slice a ys.length cap]).kp k (fun h => h)).cell 0
    have hS0 : Hid (Kp No w (w.alloc (.cells #[.slice a ys.length cap] 38))) := (Kp.refl _ _).alloc _
    have e1 : used p + ys.length > p.room → pAppend (nm t) ys p = (11, p) := fun hr => by simp [pAppend, h0, hr]
    have HE := hid e1
    generalize pAppend (nm t) ys p = R at *
    clear e1 e0 hd hb h0 hI h hf
    generalize used p = U at *
    go_enter Tryz.func75, Tryz.ntmps75
    go_wp2_with (go_at_call 114; refine (HC.out).mono ?_; rintro e w1 ⟨rfl, h1⟩; have H1 := hid h1; clear h1)
    have kW : Hid (Kp No (w.alloc (.cells #[.slice a ys.length cap] 38)) (w1.alloc (.cells #[.pointer (some ⟨b, 0, none⟩)] 187))) := H1.out.alloc _
    have kWw : Hid (Kp No w (w1.alloc (.cells #[.pointer (some ⟨b, 0, none⟩)] 187))) := hS0.out.andNone kW.out
    have HST1 : Hid (U + ys.length ≤ p.room → ∀ W0, Kp No (w1.alloc (.cells #[.pointer (some ⟨b, 0, none⟩)] 187)) W0 → Calls Tryz.prog 136 #[.pointer (some ⟨s, 0, none⟩), .func (.func 137) #[] #[.pointer (some ⟨w1.heap.size, 0, none⟩), .pointer (some ⟨w.heap.size, 0, none⟩)]] W0 fun e w' =>
        e = .returned (.int .i64 (R.1 : Nat)) ∧ Done P (N + 1) w w' s R.2) := fun hr => HST.out hr w1 H1.out
    generalize hWx : w1.alloc (.cells #[.pointer (some ⟨b, 0, none⟩)] 187) = Wx at *
    clear hWx
    have r0 : ∀ V, Kp No Wx V → V.cell? ⟨w.heap.size, 0, none⟩ = some (.slice a ys.length cap) := fun V k => hbx.out V (kW.out.andNone k)
    have r1 : ∀ V, Kp No Wx V → V.cell? ⟨s, 0, none⟩ = some (.int .i64 (p.room : Int)) := fun V k => hc0.out V (kWw.out.andNone k)
    have hwr : IntKind.i64.wrap ((p.room : Int) - (U : Int)) = (p.room : Int) - (U : Int) := by rw [IntKind.wrap_i64]; omega
    by_cases hroom : U + ys.length ≤ p.room
    · have hle : ¬ ((p.room : Int) - (U : Int) < (ys.length : Int)) := by omega
      go_region_held3 (fun V => Kp No Wx V) (first | (with_reducible exact Kp.refl _ _) | (with_reducible exact (Kp.refl _ _).drew) | (with_reducible exact HK1.out)) (first | (go_at_call 99; refine (HU.out _ ?_).mono ?_; (with_reducible exact kWw.out.drew); rintro e w2 ⟨rfl, hk1⟩; have HK1 : Hid (Kp No Wx w2) := (Kp.refl _ _).drew.andNone hk1; clear hk1))
      go_wp2_with (go_at_call 136; refine (HST1.out hroom w2 HK1.out).mono ?_; rintro e w3 ⟨rfl, h3⟩; have H3 := hid h3; clear h3)
      go_ret
      exact ⟨rfl, H3.out⟩
    · have hgt : (p.room : Int) - (U : Int) < (ys.length : Int) := by omega
      have hR := HE.out (by omega)
      subst hR
      go_region_held3 (fun V => Kp No Wx V) (first | (with_reducible exact Kp.refl _ _) | (with_reducible exact (Kp.refl _ _).drew) | (with_reducible exact HK1.out)) (first | (go_at_call 99; refine (HU.out _ ?_).mono ?_; (with_reducible exact kWw.out.drew); rintro e w2 ⟨rfl, hk1⟩; have HK1 : Hid (Kp No Wx w2) := (Kp.refl _ _).drew.andNone hk1; clear hk1))
      go_wp2
      go_ret
      exact ⟨rfl, (Done.of (H.out.more (by omega) hN) (Kp.refl _ _)).kept (kWw.out.andNone HK1.out)⟩
  · have e1 : pAppend (nm t) ys p = (finds p (nm t), p) := by simp [pAppend, h0]
    have hn : foundP p (nm t) = none := by simp [foundP, h0]
    rw [e1]
    rw [hn] at HC
    have e0 : ptrV none = .pointer none := rfl
    rw [e0] at HC
    generalize finds p (nm t) = x at *
    have hne : ((x : Int) != 0) = true := by simp; omega
    clear e1 e0 hn h0 hI h
    go_enter Tryz.func75, Tryz.ntmps75
    go_wp2_with (go_at_call 114; refine (HC.out).mono ?_; rintro e w1 ⟨rfl, h1⟩; have H1 : Hid (Kp No w w1) := ((Kp.refl _ _).alloc _).andNone h1; clear h1)
    go_ret
    exact ⟨rfl, (Done.of (H.out.more (by omega) hN) (Kp.refl _ _)).kept (H1.out.alloc _)⟩

/-! ### Flip -/
theorem flip_nil (t : ByteArray) (k : Int) (x : Nat) (w : World) : Calls Tryz.prog 48 #[.pointer none, .string t, .int .i64 k, .int .u8 (x : Int)] w fun e w' => e = .returned (.int .i64 18) ∧ Kp No w w' := by
  go_enter Tryz.func48, Tryz.ntmps48
  go_wp2_with (go_at_call 114; refine (find_nil t _).mono ?_; rintro e w1 ⟨rfl, h1⟩; have H1 := hid h1; clear h1)
  go_ret
  exact ⟨rfl, H1.out⟩

end Go.Proofs.YtkekajmmcjacgaaGreatDoor.Sim
end

section
/-
  The form that bytes begin with, cut out by its own head.
-/
namespace Go.Proofs.YtkekajmmcjacgaaGreatDoor
open Go.RowKit
open Tlv (Tr BySlS AgreeS Agree)
open Crc (hid Kept Tab)

theorem bySl_take {L B : Nat} {w : World} {a : Option Addr} {cap E : Nat} {xs : List Int} (h : Tlv.BySl L B w (.slice a xs.length cap) xs) (hE : E ≤ xs.length) : Tlv.BySl L B w (.slice a E cap) (xs.take E) := by
  obtain ⟨a', cap', e, h2, h3, h4, h5, h6, h7⟩ := h
  simp only [Value.slice.injEq, true_and] at e
  obtain ⟨rfl, rfl⟩ := e
  have hl : (xs.take E).length = E := by rw [List.length_take]; omega
  refine ⟨a, cap, by rw [hl], by rw [hl]; omega, h3, fun e => ⟨by rw [(h4 e).1]; simp, (h4 e).2⟩, by rw [hl]; omega, fun x hx => h6 x (List.mem_of_mem_take hx), fun hne => ?_⟩
  obtain ⟨b, o, e, hL, hB, hc⟩ := h7 (fun e => hne (by rw [e]; simp))
  refine ⟨b, o, e, hL, hB, fun i hi => ?_⟩
  rw [hl] at hi
  rw [hc i (by omega)]
  simp [List.getElem?_take_of_lt hi]

set_option maxHeartbeats 2000000 in
set_option maxRecDepth 100000 in
theorem first_any (v : Value) (xs : List Int) (w : World) (h : Tlv.BySl 0 w.heap.size w v xs) :
    Calls Tryz.prog 182 #[v] w fun e w' => ((Tlv.rd 8 xs = none ∧ ∃ x y a l c a' l' c' sz, e = .returned (.tuple #[.agg #[.int .i64 x, .int .u64 y, .slice a l c, .slice a' l' c'], .int .i64 sz, .bool false])) ∨
      (∃ (t : Tr 9) (m : Nat) (a : Option Addr) (l c : Nat) (a' : Option Addr) (l' c' : Nat), Tlv.rd 8 xs = some (t, m) ∧ e = .returned (.tuple #[.agg #[.int .i64 t.hd.1, .int .u64 t.hd.2.1, .slice a l c, .slice a' l' c'], .int .i64 m, .bool true]) ∧ Tlv.Rep w.heap.size w'.heap.size w' 9 t (.slice a l c) (.slice a' l' c'))) ∧ Below w.heap.size w w' := by
  obtain ⟨a, cap, rfl, h2, h3, h4, h5, h6, h7⟩ := id h
  have H := hid h
  clear h h4
  by_cases hl : xs.length < 3
  · have hl' : (xs.length : Int) < 3 := by omega
    have HR := hid (rd_short hl)
    clear h7 h6 hl
    go_enter Tryz.func182, Tryz.ntmps182
    go_wp2_with fail
    refine bodyPost_ret (v := .tuple #[.agg #[.int .i64 0, .int .u64 0, .slice none 0 0, .slice none 0 0], .int .i64 0, .bool false]) (by simp [results, Tryz.results182, go_sem]) rfl ⟨.inl ⟨HR.out, 0, 0, none, 0, 0, none, 0, 0, 0, rfl⟩, ?_⟩
    exact (Below.refl _ _).alloc (Nat.le_refl _) _
  · obtain ⟨b, o, rfl, _, hb, hc⟩ := h7 (by intro e; subst e; simp at hl)
    have c1 := hc 1 (by omega)
    have c2 := hc 2 (by omega)
    have b1 := h6 (xs.getD 1 0) (by rw [List.getD_eq_getElem?_getD, List.getElem?_eq_getElem (by omega)]; simp)
    have b2 := h6 (xs.getD 2 0) (by rw [List.getD_eq_getElem?_getD, List.getElem?_eq_getElem (by omega)]; simp)
    have HEN : Hid (Tlv.endOf xs = 3 + (xs.getD 1 0 * 256 + xs.getD 2 0).toNat) := rfl
    generalize xs.getD 1 0 = x1 at *
    generalize xs.getD 2 0 = x2 at *
    have hl' : (3 : Int) ≤ xs.length := by omega
    have HL : Hid (3 ≤ xs.length) := by rw [Hid]; omega
    clear hc h6 h7 hl
    go_enter Tryz.func182, Tryz.ntmps182
    go_wp2_with fail
    go_quiet (fail)
    obtain ⟨E, hE⟩ : ∃ E : Nat, 3 + x1 * 256 + x2 = (E : Int) := ⟨(3 + x1 * 256 + x2).toNat, by omega⟩
    have HE : Hid (Tlv.endOf xs = E) := by rw [Hid, HEN.out]; omega
    have hE3 : 3 ≤ E := by omega
    rw [hE]
    obtain ⟨W1, hW1⟩ : ∃ W1, (w.alloc (Obj.cells #[Value.int IntKind.i64 0, Value.int IntKind.u64 0, Value.slice none 0 0, Value.slice none 0 0] 218)).drewN nq = W1 := ⟨_, rfl⟩
    have hbel : Below w.heap.size w W1 := by rw [← hW1]; exact below_drewN ((Below.refl _ _).alloc (Nat.le_refl _) _) _
    have HG : Hid (∀ j u, (#[.int .i64 0, .int .u64 0, .slice none 0 0, .slice none 0 0] : Array Value)[j]? = some u → W1.cell? ⟨w.heap.size, j, none⟩ = some u) := fun j u hj => by
      rw [← hW1]
      rw [World.cell?_drewN, World.cell?_alloc_at _ _ _ _ (by simp), hj]
    have HF : Hid (∀ j, W1.frozen? ⟨w.heap.size, j, none⟩ = false) := fun j => by
      rw [← hW1, World.frozen?_drewN, World.frozen?_alloc_at _ _ _ _ (by simp)]
    have hz1 : w.heap.size < W1.heap.size := by rw [← hW1]; simp
    rw [hW1]
    clear hW1 hE c1 c2 b1 b2 HEN nq
    have HBEL := hid hbel
    by_cases hlt : xs.length < E
    · have HR : Hid (Tlv.rd 8 xs = none) := rd_cut (by rw [HE.out]; exact hlt)
      have g0 := HG.out 0 _ rfl
      have g1 := HG.out 1 _ rfl
      have g2 := HG.out 2 _ rfl
      have g3 := HG.out 3 _ rfl
      have gf := HF.out
      clear hbel
      go_wp2_with fail
      obtain ⟨q0, q1, q2, q3⟩ := Tlv.set4_read (u0 := .int .i64 0) (u1 := .int .u64 0) (u2 := .slice none 0 0) (u3 := .slice none 0 0) g0 g1 g2 g3
      refine bodyPost_ret (v := .tuple #[.agg #[.int .i64 0, .int .u64 0, .slice none 0 0, .slice none 0 0], .int .i64 0, .bool false]) (by simp [results, Tryz.results182, go_sem, q0, q1, q2, q3]) rfl ⟨.inl ⟨HR.out, 0, 0, none, 0, 0, none, 0, 0, 0, rfl⟩, ?_⟩
      exact HBEL.out.trans (Tlv.bset4 (Nat.le_refl _) _ _ _ _)
    · have HLE : Hid (E ≤ xs.length) := by rw [Hid]; omega
      have hEc : E ≤ cap := by omega
      have hEm : (E : Int) ≤ xs.length := by omega
      clear hbel
      go_wp2_with fail
      refine (Tlv.get_any _ (xs.take E) _ (bySl_take (H.out.agree (Agree.below HBEL.out) (Nat.le_refl _) HBEL.out.size) HLE.out)).mono ?_
      rintro e w2 ⟨hres, hb2⟩
      have HB2 := hid hb2
      have hz2 : w.heap.size < w2.heap.size := by have := hb2.size; omega
      have gf : ∀ j, w2.frozen? ⟨w.heap.size, j, none⟩ = false := fun j => (hb2.frozen (p := ⟨w.heap.size, j, none⟩) hz1).trans (HF.out j)
      have hcg := fun j u hj => (hb2.cell (p := ⟨w.heap.size, j, none⟩) hz1).trans (HG.out j u hj)
      have g0 := hcg 0 _ rfl
      have g1 := hcg 1 _ rfl
      have g2 := hcg 2 _ rfl
      have g3 := hcg 3 _ rfl
      have HM : Hid (Tlv.getT (xs.take E) = (Tlv.rd 8 xs).map Prod.fst) := by rw [Hid, ← HE.out]; exact get_take HL.out (by rw [HE.out]; exact HLE.out)
      have hm := HM.out
      clear hcg hb2
      rcases hres with ⟨hn, rfl⟩ | ⟨t, sb, sk, hs, rfl, hr⟩
      · have HR : Hid (Tlv.rd 8 xs = none) := by
          rw [hn] at hm
          exact Option.map_eq_none_iff.1 hm.symm
        clear hm hn
        go_wp2_with fail
        obtain ⟨q0, q1, q2, q3⟩ := Tlv.set4_read (u0 := .int .i64 0) (u1 := .int .u64 0) (u2 := .slice none 0 0) (u3 := .slice none 0 0) g0 g1 g2 g3
        obtain ⟨r0, r1, r2, r3⟩ := Tlv.set4_read (u0 := .int .i64 0) (u1 := .int .u64 0) (u2 := .slice none 0 0) (u3 := .slice none 0 0) q0 q1 q2 q3
        refine bodyPost_ret (v := .tuple #[.agg #[.int .i64 0, .int .u64 0, .slice none 0 0, .slice none 0 0], .int .i64 E, .bool false]) (by simp [results, Tryz.results182, go_sem, r0, r1, r2, r3]) rfl ⟨.inl ⟨HR.out, 0, 0, none, 0, 0, none, 0, 0, E, rfl⟩, ?_⟩
        exact (HBEL.out.trans (HB2.out.mono HBEL.out.size)).trans ((Tlv.bset4 (Nat.le_refl _) _ _ _ _).trans (Tlv.bset4 (Nat.le_refl _) _ _ _ _))
      · have HR : Hid (Tlv.rd 8 xs = some (t, E)) := by
          rw [hs] at hm
          obtain ⟨⟨t', m⟩, hq, ht⟩ := Option.map_eq_some_iff.1 hm.symm
          have h1 := rd_end hq
          rw [HE.out] at h1
          simp only at ht
          rw [Hid, hq, ht, h1]
        obtain ⟨a1, l1, p1, a2, l2, p2, rfl, rfl⟩ := hr.sl
        have HRP := hid hr
        clear hm hs hr
        go_wp2_with fail
        obtain ⟨q0, q1, q2, q3⟩ := Tlv.set4_read (u0 := .int .i64 t.hd.1) (u1 := .int .u64 t.hd.2.1) (u2 := .slice a1 l1 p1) (u3 := .slice a2 l2 p2) g0 g1 g2 g3
        obtain ⟨r0, r1, r2, r3⟩ := Tlv.set4_read (u0 := .int .i64 t.hd.1) (u1 := .int .u64 t.hd.2.1) (u2 := .slice a1 l1 p1) (u3 := .slice a2 l2 p2) q0 q1 q2 q3
        refine bodyPost_ret (v := .tuple #[.agg #[.int .i64 t.hd.1, .int .u64 t.hd.2.1, .slice a1 l1 p1, .slice a2 l2 p2], .int .i64 E, .bool true]) (by simp [results, Tryz.results182, go_sem, r0, r1, r2, r3]) rfl ⟨.inr ⟨t, E, _, _, _, _, _, _, HR.out, rfl, ?_⟩, ?_⟩
        · exact (HRP.out.agree (Agree.set4 _ (.inl hz1) _ _ _ _) (by omega) (Nat.le_refl _)).agree (Agree.set4 _ (.inl (Nat.lt_succ_self _)) _ _ _ _) (Nat.le_succ _) (by simp)
        · exact (HBEL.out.trans (HB2.out.mono HBEL.out.size)).trans ((Tlv.bset4 (Nat.le_refl _) _ _ _ _).trans (Tlv.bset4 (Nat.le_refl _) _ _ _ _))
end Go.Proofs.YtkekajmmcjacgaaGreatDoor
end

section
/-
  The record whose value a tree is, as the program finds it.
-/
namespace Go.Proofs.YtkekajmmcjacgaaGreatDoor
open Go.RowKit
open Tlv (Tr BySlS AgreeS Agree)
open Crc (hid Kept Tab)

theorem step_copy {P : Program} {ops : Array Oper} {o : Oper} {a : Act} {K : Act → World → Prop} {Q : Exit → Act → World → Prop} {E : Prop} (w : World) (hgd : o.guard = none) (d s : Operand) (dT sT : TypeId)
    (ho : o.op = .call { callee := .builtin .copy, args := #[d, s], argTypes := #[dT, sT] }) (elem : TypeId) (hu : P.underlying dT = some (.slice elem)) (hsz : (P.info? elem).map (·.size) = some 1)
    (g off dLen dCap : Nat) (ad : Addr) (sLen sCap : Nat) (hd : a.eval d = .slice (some ⟨g, off, none⟩) dLen dCap) (hs : a.eval s = .slice (some ad) sLen sCap)
    (cs : List Value) (hn : cs.length = Nat.min sLen dLen)
    (hsrc : ∀ j v, cs[j]? = some v → w.cell? (ad.add j) = some v) (ht : w.there g off cs.length) (h1 : ∀ v ∈ cs, v.oneCell' = true)
    (h : K (a.put o.dst (goInt cs.length)) (w.setCells g off cs)) : if Region.wanted o (yielded ops a.tmps) = true then Oper.wp P o a w K Q else E := by
  have hw : Region.wanted o (yielded ops a.tmps) = true := by simp [Region.wanted, hgd]
  rw [if_pos hw]
  have hrun := run_copy_cells (P := P) w dT sT o.type elem g off dLen dCap ad sLen sCap cs hu hsz hn hsrc (fun j hj => (ht j hj).1) (fun j hj => (ht j hj).2) h1
  unfold Oper.wp
  simp [execOp, ho, resolve, invoke, builtin, hd, hs, hrun, Result.andThen]
  exact h

theorem yields_build2 {P : Program} {ops : Array Oper} {S : World → Prop} {o : Oper} {a : Act} (hw : Region.wanted o (yielded ops a.tmps) = true) (t : TypeId) (i j : Nat) (x y : Operand) (ho : o.op = .build t #[(i, x), (j, y)])
    (vx vy : Value) (hx : a.eval x = vx) (hy : a.eval y = vy) (C : Array Value) (hb : P.built t [(i, vx), (j, vy)] = some C) : YieldsIf P ops S o (.agg C) a :=
  .inl ⟨hw, fun w _ => by
    have e : P.built t ((#[(i, x), (j, y)] : Array (Nat × Operand)).map fun (i, x) => (i, a.eval x)).toList = some C := by
      rw [← hb]
      simp only [List.map_toArray, List.map_cons, List.map_nil, hx, hy]
    unfold execOp
    simp only [ho, Sem.run_bind, run_build w t _ C e, Result.andThen_ok]
    rfl⟩

theorem built35b (k : Int) (a : Option Addr) (l c : Nat) : Tryz.prog.built 52 [(0, .int .i64 k), (2, .slice a l c)] = some (recA k (List.replicate 32 0) (.slice a l c)).toArray := by kernel_rfl

/-- What lies at g: a record of kind k, of no name yet, with the body v. -/
def Half (w W : World) (k : Int) (nm : List Int) (v : Value) (g : Nat) : Prop := Below w.heap.size w W ∧ w.heap.size ≤ g ∧ g < W.heap.size ∧ W.rangeAt g 0 (recA k nm v) ∧ W.there g 0 34

theorem Half.drew {w W : World} {k : Int} {nm : List Int} {v : Value} {g : Nat} (h : Half w W k nm v g) : Half w W.drew k nm v g := by
  obtain ⟨h1, h2, h3, h4, h5⟩ := h
  exact ⟨h1.drew, h2, h3, by rwa [World.rangeAt_drew], by rwa [World.there_drew]⟩

theorem app_right {A A0 T : List Value} {i : Nat} (h : A.length = A0.length) (hi : A.length ≤ i) : (A ++ T)[i]? = (A0 ++ T)[i]? := by
  rw [List.getElem?_append_right hi, List.getElem?_append_right (by omega), h]

theorem Half.named {w W : World} {k : Int} {bn : List Int} {v : Value} {g : Nat} (h : Half w W k (List.replicate 32 0) v g) (ht : W.there g 1 (u8s (bn.take 32)).length) : Half w (W.setCells g 1 (u8s (bn.take 32))) k (pad32 bn) v g := by
  obtain ⟨h1, h2, h3, h4, h5⟩ := h
  refine ⟨h1.trans (setCells_below h2 _ _ _), h2, by rw [setCells_size]; exact h3, fun j u hj => ?_, World.there_setCells h5 _ _ _⟩
  have hl : (u8s (bn.take 32)).length = (bn.take 32).length := u8s_length _
  have hl2 : (bn.take 32).length ≤ 32 := by rw [List.length_take]; omega
  have key : j = 0 ∨ (1 ≤ j ∧ j < 1 + (bn.take 32).length) ∨ 1 + (bn.take 32).length ≤ j := by omega
  rcases key with rfl | ⟨j1, j2⟩ | j3
  · rw [Nat.zero_add, World.cell?_setCells_out g _ 1 W ⟨g, 0, none⟩ (fun _ _ => .inl (by simp))]
    exact h4 0 u hj
  · obtain ⟨i, rfl⟩ : ∃ i, j = 1 + i := ⟨j - 1, by omega⟩
    have hi : i < (u8s (bn.take 32)).length := by omega
    rw [Nat.zero_add, World.cell?_setCells_in g _ 1 W (fun i hi => (ht i hi).1) i hi, ← hj, recA, Nat.add_comm, List.getElem?_cons_succ, show u8s (pad32 bn) = u8s (bn.take 32) ++ u8s (List.replicate (32 - bn.length) 0) by simp [pad32, u8s], List.append_assoc, List.getElem?_append_left hi]
    exact (List.getElem?_eq_getElem hi).symm
  · rw [Nat.zero_add, World.cell?_setCells_out g _ 1 W ⟨g, j, none⟩ (fun _ _ => .inr (by show 1 + _ ≤ j; omega))]
    have h6 := h4 j u (by
      rw [← hj]
      obtain ⟨i, rfl⟩ : ∃ i, j = i + 1 := ⟨j - 1, by omega⟩
      rw [recA, recA, List.getElem?_cons_succ, List.getElem?_cons_succ]
      have e1 : u8s (pad32 bn) = u8s (bn.take 32) ++ u8s (List.replicate (32 - bn.length) 0) := by simp [pad32, u8s]
      have e2 : u8s (List.replicate 32 0) = u8s (List.replicate (bn.take 32).length 0) ++ u8s (List.replicate (32 - bn.length) 0) := by
        simp only [u8s, List.map_replicate, List.replicate_append_replicate]
        congr 1
        rw [List.length_take]
        omega
      rw [e1, e2, List.append_assoc, List.append_assoc]
      exact app_right (by rw [u8s_length, u8s_length]; simp) (by rw [u8s_length, List.length_replicate]; omega))
    rw [Nat.zero_add] at h6
    exact h6

set_option maxHeartbeats 4000000 in
set_option maxRecDepth 100000 in
theorem record_any (t : Tr 9) (sb sk : Value) (L B : Nat) (w : World) (h : Tlv.Rep L B w 9 t sb sk) (hB : B ≤ w.heap.size) (hr : (Tlv.bsz 9 t 65535 8).2 = true) :
    Calls Tryz.prog 184 #[.agg #[.int .i64 t.hd.1, .int .u64 t.hd.2.1, sb, sk]] w fun e w' => ((recOf t = none ∧ e = .returned (.tuple #[.agg zRec.toArray, .bool false])) ∨
      (∃ k nm bs a c, recOf t = some (k, nm, bs) ∧ e = .returned (.tuple #[.agg (recA k nm (.slice a bs.length c)).toArray, .bool true]) ∧ Tlv.BySl L B w' (.slice a bs.length c) bs ∧ nm.length = 32 ∧ ∀ x ∈ nm, 0 ≤ x ∧ x ≤ 255)) ∧ Below w.heap.size w w' := by
  have HREP := hid h
  obtain ⟨hn0, hn1, hby, hks⟩ := h
  obtain ⟨ab, cb, rfl, _⟩ := id hby
  obtain ⟨ak, ck, rfl, hk2, hk3, _, hkl, hk7⟩ := id hks
  have hz := zero35
  obtain ⟨Z, hZ⟩ : ∃ Z, zRec = Z := ⟨_, rfl⟩
  have HZ := hid hZ
  rw [hZ] at hz
  clear hZ
  by_cases h3 : t.kd.length = 3
  rotate_left
  · have hne : ((t.kd.length : Int) != 3) = true := by simp; omega
    have HRN : Hid (recOf t = none) := by
      rw [Hid, recOf]
      match hq : t.kd with
      | [] => rfl
      | [_] => rfl
      | [_, _] => rfl
      | [a, b, c] => rw [hq] at h3; simp at h3
      | _ :: _ :: _ :: _ :: _ => rfl
    clear hk7 hby hks h3 hr
    generalize t.kd.length = KL at *
    generalize t.hd.2.2 = bs at *
    generalize t.hd.2.1 = num at *
    generalize t.hd.1 = tag at *
    have HT : Hid (World.there ((w.alloc (.cells #[.int .i64 tag, .int .u64 num, .slice ab bs.length cb, .slice ak KL ck] 218)).alloc (.cells Z.toArray 52)) (w.heap.size + 1) 0 Z.toArray.size) := by
      have h := there_new (w.alloc (.cells #[.int .i64 tag, .int .u64 num, .slice ab bs.length cb, .slice ak KL ck] 218)) Z 52
      rw [Hid]
      simpa using h
    have HI2 : Hid ((Tryz.prog.info? 52).map (·.size) = some Z.toArray.size) := by rw [← HZ.out]; exact Tryz.info35
    have H1 : Hid (Z.toArray.all (·.oneCell') = true) := by rw [← HZ.out]; exact all_oneCell_toArray zRec_one
    go_enter Tryz.func184, Tryz.ntmps184
    go_wp2_with (refine wpList_store_mid (by rfl) 52 _ _ (by rfl) (w.heap.size + 1) 0 Z.toArray (by rfl) (by rfl) ?ht HI2.out H1.out ?_; (case ht => exact HT.out))
    have hr : World.rangeAt (((w.alloc (.cells #[.int .i64 tag, .int .u64 num, .slice ab bs.length cb, .slice ak KL ck] 218)).alloc (.cells Z.toArray 52)).setCells (w.heap.size + 1) 0 Z) (w.heap.size + 1) 0 Z := World.rangeAt_setCells_same _ _ _ _ HT.out
    refine bodyPost_ret (v := .tuple #[.agg Z.toArray, .bool false]) ?_ rfl ⟨.inl ⟨HRN.out, by rw [HZ.out]⟩, ?_⟩
    · exact results_cell_mid2 Tryz.results184 _ _ (w.heap.size + 1) 0 _ _ rfl hr Tryz.underlying52 rfl HI2.out
    · exact (((Below.refl _ _).alloc (Nat.le_refl _) _).alloc (by simp) _).trans (setCells_below (by omega) _ _ _)
  · obtain ⟨ka, kb, kc, hkd⟩ : ∃ ka kb kc, t.kd = [ka, kb, kc] := by
      match hq : t.kd with
      | [a, b, c] => exact ⟨a, b, c, rfl⟩
      | [] => rw [hq] at h3; simp at h3
      | [_] => rw [hq] at h3; simp at h3
      | [_, _] => rw [hq] at h3; simp at h3
      | _ :: _ :: _ :: _ :: _ => rw [hq] at h3; simp at h3
    obtain ⟨bk, ok, rfl, hbL, hbB, hcell⟩ := hk7 (by rw [hkd]; simp)
    have HREP3 : Hid (Tlv.Rep L B w 9 t (.slice ab t.hd.2.2.length cb) (.slice (some ⟨bk, ok, none⟩) 3 ck)) := by
      have h := HREP.out
      rwa [h3] at h
    obtain ⟨sa, ska, a0, a1, a2, a3, ra⟩ := hcell 0 ka (by rw [hkd]; rfl)
    obtain ⟨sbb, skb, b0, b1, b2, b3, rb⟩ := hcell 1 kb (by rw [hkd]; rfl)
    obtain ⟨sc, skc, c0, c1, c2, c3, rc⟩ := hcell 2 kc (by rw [hkd]; rfl)
    simp only [Nat.zero_mul, Nat.reduceMul, Nat.add_zero] at a1 b2 c2
    obtain ⟨an0, an1, _, _⟩ := ra
    obtain ⟨_, _, bby, _⟩ := rb
    obtain ⟨_, _, cby, _⟩ := rc
    obtain ⟨k, hk⟩ : ∃ k, wrap64 ka.hd.2.1 = k := ⟨_, rfl⟩
    have HEQ := hid (recOf_eq hkd hr an0 an1 hk.symm)
    have HCB := hid cby
    have HBB := hid bby
    obtain ⟨abb, cbb, rfl, hbb2, hbb3, hbb4, hbb5, hbb6, hbb7⟩ := id bby
    obtain ⟨ac, cc, rfl, _⟩ := id cby
    have HB7 := hid hbb7
    have HB4 := hid hbb4
    clear hcell a0 a2 a3 b0 b1 b3 c0 c1 c3 hbb7 hbb4 hk7 hby hks cby bby h3 hbb6
    rw [hkd]
    simp only [List.length_cons, List.length_nil, Nat.zero_add, Nat.reduceAdd]
    have HKB : Hid (bk < w.heap.size) := by rw [Hid]; omega
    have hK := HKB.out
    generalize hbn : kb.hd.2.2 = bn at *
    generalize hcs : kc.hd.2.2 = cs at *
    generalize hka : ka.hd.2.1 = num0 at *
    generalize hT2 : t.hd.2.2 = bs at *
    generalize hT1 : t.hd.2.1 = num at *
    generalize hT0 : t.hd.1 = tag at *
    have HK := hid hk
    have HH := hid (And.intro hT0 (And.intro hT1 hT2))
    clear hT0 hT1 hT2 hka hcs hbn
    go_enter Tryz.func184, Tryz.ntmps184
    go_wp2_with fail
    obtain ⟨W0, hW0⟩ : ∃ W0, (w.alloc (.cells #[.int .i64 tag, .int .u64 num, .slice ab bs.length cb, .slice (some ⟨bk, ok, none⟩) 3 ck] 218)).alloc (.cells Z.toArray 52) = W0 := ⟨_, rfl⟩
    have hbel : Below w.heap.size w W0 := by rw [← hW0]; exact ((Below.refl _ _).alloc (Nat.le_refl _) _).alloc (by simp) _
    have HBEL := hid hbel
    have d0 : W0.cell? ⟨w.heap.size, 0, none⟩ = some (.int .i64 tag) := by rw [← hW0, World.cell?_alloc_lt _ _ _ (by simp), World.cell?_alloc_at _ _ _ _ rfl]; rfl
    have d1 : W0.cell? ⟨w.heap.size, 1, none⟩ = some (.int .u64 num) := by rw [← hW0, World.cell?_alloc_lt _ _ _ (by simp), World.cell?_alloc_at _ _ _ _ rfl]; rfl
    have d2 : W0.cell? ⟨w.heap.size, 2, none⟩ = some (.slice ab bs.length cb) := by rw [← hW0, World.cell?_alloc_lt _ _ _ (by simp), World.cell?_alloc_at _ _ _ _ rfl]; rfl
    have d3 : W0.cell? ⟨w.heap.size, 3, none⟩ = some (.slice (some ⟨bk, ok, none⟩) 3 ck) := by rw [← hW0, World.cell?_alloc_lt _ _ _ (by simp), World.cell?_alloc_at _ _ _ _ rfl]; rfl
    have HTR : Hid (W0.there (w.heap.size + 1) 0 34) := by
      have h := there_new (w.alloc (.cells #[.int .i64 tag, .int .u64 num, .slice ab bs.length cb, .slice (some ⟨bk, ok, none⟩) 3 ck] 218)) Z 52
      rw [hW0, ← HZ.out, zRec_length] at h
      rw [Hid]
      simpa using h
    have HD := hid (And.intro d0 (And.intro d1 (And.intro d2 d3)))
    have hz0 : w.heap.size + 1 < W0.heap.size := by rw [← hW0]; simp
    have hz1 : w.heap.size < W0.heap.size := by omega
    have hz2 : bk < W0.heap.size := by omega
    replace a1 := (hbel.cell (p := ⟨bk, ok + 1, none⟩) hK).trans a1
    replace b2 := (hbel.cell (p := ⟨bk, ok + 4 + 2, none⟩) hK).trans b2
    replace c2 := (hbel.cell (p := ⟨bk, ok + 8 + 2, none⟩) hK).trans c2
    rw [hW0]
    clear hW0 hbel
    go_cut [4] (fun p wx => ∃ g, p = .pointer (some ⟨g, 0, none⟩) ∧ Hid (Half W0 wx k (List.replicate 32 0) (.slice ac cs.length cc) g))
    case first =>
      obtain ⟨C0, hC0⟩ : ∃ C0, recA k (List.replicate 32 0) (.slice ac cs.length cc) = C0 := ⟨_, rfl⟩
      have HC0L : Hid (C0.length = 34) := by rw [← hC0]; exact recA_length _ _ _ (by simp)
      have HBU : Hid (Tryz.prog.built 52 [(0, .int .i64 k), (2, .slice ac cs.length cc)] = some C0.toArray) := by rw [← hC0]; exact built35b _ _ _ _
      have HI0 : Hid ((Tryz.prog.info? 52).map (·.size) = some C0.toArray.size) := by rw [Hid, show C0.toArray.size = 34 from HC0L.out]; exact Tryz.info35
      have H10 : Hid (C0.toArray.all (·.oneCell') = true) := by rw [← hC0]; exact all_oneCell_toArray (recA_one _ _ _ _ _)
      have HT0 : Hid (World.there (W0.drew.alloc (.cells Z.toArray 52)) W0.heap.size 0 C0.toArray.size) := by
        have h := there_new W0.drew Z 52
        rw [← HZ.out, zRec_length] at h
        rw [Hid, show C0.toArray.size = 34 from HC0L.out, ← HZ.out]
        exact h
      have HS1 : Hid (Below W0.heap.size W0 (W0.drew.alloc (.cells Z.toArray 52))) := (Below.refl _ _).drew.alloc (Nat.le_refl _) _
      have HS2 : Hid (Below W0.heap.size W0 ((W0.drew.alloc (.cells Z.toArray 52)).setCells W0.heap.size 0 C0)) := HS1.out.trans (setCells_below (Nat.le_refl _) _ _ _)
      have HALF : Hid (Half W0 ((W0.drew.alloc (.cells Z.toArray 52)).setCells W0.heap.size 0 C0) k (List.replicate 32 0) (.slice ac cs.length cc) W0.heap.size) := by
        refine ⟨HS2.out, Nat.le_refl _, by rw [setCells_size]; simp, ?_, ?_⟩
        · rw [hC0]
          exact World.rangeAt_setCells_same _ _ _ _ HT0.out
        · have h := World.there_setCells HT0.out W0.heap.size 0 C0
          rwa [show C0.toArray.size = 34 from HC0L.out] at h
      clear hC0
      have hkw : IntKind.i64.wrap num0 = k := by have h := hk; unfold wrap64 at h; rw [IntKind.wrap_i64]; exact h
      refine wp_region_held_drew (S := fun V => Below W0.heap.size W0 V) (by kernel_rfl) (Below.refl _ _).drew (fun hHeld => ?_)
      refine wpAnyH_take (i := 0) (oi := { dst := some 10, op := Op.fieldAddr 218 (Operand.tmp 1) 3, type := 0, pos := "frame.go:108", after := #[], guard := none }) (v := .pointer (some ⟨w.heap.size, 3, none⟩)) rfl (by kernel_rfl) (by kernel_rfl) (by kernel_rfl) (fun _ _ _ h => h) (Or.inl ⟨by rfl, fun w' hw' => by (clear hw'; go_simp)⟩) hHeld ?_
      simp only [Act.put, List.setIfInBounds_toArray, List.set_cons_zero, List.set_cons_succ]
      refine wpAnyH_take (i := 1) (oi := { dst := some 11, op := Op.load 216 (Operand.tmp 10), type := 216, pos := "frame.go:108", after := #[{ on := 0, ground := Ground.data }], guard := none }) (v := .slice (some ⟨bk, ok, none⟩) 3 ck) rfl (by kernel_rfl) (by kernel_rfl) (by kernel_rfl) (fun _ _ _ h => h) (Or.inl ⟨by rfl, fun w' hw' => by (have q := (hw'.cell (p := ⟨w.heap.size, 3, none⟩) hz1).trans d3; clear hw'; go_simp)⟩) hHeld ?_
      simp only [Act.put, List.setIfInBounds_toArray, List.set_cons_zero, List.set_cons_succ]
      refine wpAnyH_take (i := 2) (oi := { dst := some 12, op := Op.indexAddr 216 (Operand.tmp 11) (Operand.const (Value.int IntKind.i64 0)), type := 0, pos := "frame.go:108", after := #[{ on := 1, ground := Ground.data }], guard := none }) (v := .pointer (some ⟨bk, ok, none⟩)) rfl (by kernel_rfl) (by kernel_rfl) (by kernel_rfl) (fun _ _ _ h => h) (Or.inl ⟨by rfl, fun w' hw' => by (clear hw'; go_simp)⟩) hHeld ?_
      simp only [Act.put, List.setIfInBounds_toArray, List.set_cons_zero, List.set_cons_succ]
      refine wpAnyH_take (i := 3) (oi := { dst := some 13, op := Op.fieldAddr 218 (Operand.tmp 12) 1, type := 0, pos := "frame.go:108", after := #[{ on := 2, ground := Ground.data }], guard := none }) (v := .pointer (some ⟨bk, ok + 1, none⟩)) rfl (by kernel_rfl) (by kernel_rfl) (by kernel_rfl) (fun _ _ _ h => h) (Or.inl ⟨by rfl, fun w' hw' => by (clear hw'; go_simp)⟩) hHeld ?_
      simp only [Act.put, List.setIfInBounds_toArray, List.set_cons_zero, List.set_cons_succ]
      refine wpAnyH_take (i := 4) (oi := { dst := some 14, op := Op.load 215 (Operand.tmp 13), type := 215, pos := "frame.go:108", after := #[{ on := 3, ground := Ground.data }], guard := none }) (v := .int .u64 num0) rfl (by kernel_rfl) (by kernel_rfl) (by kernel_rfl) (fun _ _ _ h => h) (Or.inl ⟨by rfl, fun w' hw' => by (have q := (hw'.cell (p := ⟨bk, ok + 1, none⟩) hz2).trans a1; clear hw'; go_simp)⟩) hHeld ?_
      simp only [Act.put, List.setIfInBounds_toArray, List.set_cons_zero, List.set_cons_succ]
      refine wpAnyH_take (i := 5) (oi := { dst := some 15, op := Op.convert 215 3 (Operand.tmp 14), type := 3, pos := "frame.go:108", after := #[{ on := 4, ground := Ground.data }], guard := none }) (v := .int .i64 k) rfl (by kernel_rfl) (by kernel_rfl) (by kernel_rfl) (fun _ _ _ h => h) (Or.inl ⟨by rfl, fun w' hw' => by (clear hw'; go_simp)⟩) hHeld ?_
      simp only [Act.put, List.setIfInBounds_toArray, List.set_cons_zero, List.set_cons_succ]
      refine wpAnyH_take (i := 6) (oi := { dst := some 16, op := Op.fieldAddr 218 (Operand.tmp 1) 3, type := 0, pos := "frame.go:108", after := #[], guard := none }) (v := .pointer (some ⟨w.heap.size, 3, none⟩)) rfl (by kernel_rfl) (by kernel_rfl) (by kernel_rfl) (fun _ _ _ h => h) (Or.inl ⟨by rfl, fun w' hw' => by (clear hw'; go_simp)⟩) hHeld ?_
      simp only [Act.put, List.setIfInBounds_toArray, List.set_cons_zero, List.set_cons_succ]
      refine wpAnyH_take (i := 7) (oi := { dst := some 17, op := Op.load 216 (Operand.tmp 16), type := 216, pos := "frame.go:108", after := #[{ on := 6, ground := Ground.data }], guard := none }) (v := .slice (some ⟨bk, ok, none⟩) 3 ck) rfl (by kernel_rfl) (by kernel_rfl) (by kernel_rfl) (fun _ _ _ h => h) (Or.inl ⟨by rfl, fun w' hw' => by (have q := (hw'.cell (p := ⟨w.heap.size, 3, none⟩) hz1).trans d3; clear hw'; go_simp)⟩) hHeld ?_
      simp only [Act.put, List.setIfInBounds_toArray, List.set_cons_zero, List.set_cons_succ]
      refine wpAnyH_take (i := 8) (oi := { dst := some 18, op := Op.indexAddr 216 (Operand.tmp 17) (Operand.const (Value.int IntKind.i64 2)), type := 0, pos := "frame.go:108", after := #[{ on := 7, ground := Ground.data }], guard := none }) (v := .pointer (some ⟨bk, ok + 8, none⟩)) rfl (by kernel_rfl) (by kernel_rfl) (by kernel_rfl) (fun _ _ _ h => h) (Or.inl ⟨by rfl, fun w' hw' => by (clear hw'; go_simp)⟩) hHeld ?_
      simp only [Act.put, List.setIfInBounds_toArray, List.set_cons_zero, List.set_cons_succ]
      refine wpAnyH_take (i := 9) (oi := { dst := some 19, op := Op.fieldAddr 218 (Operand.tmp 18) 2, type := 0, pos := "frame.go:108", after := #[{ on := 8, ground := Ground.data }], guard := none }) (v := .pointer (some ⟨bk, ok + 8 + 2, none⟩)) rfl (by kernel_rfl) (by kernel_rfl) (by kernel_rfl) (fun _ _ _ h => h) (Or.inl ⟨by rfl, fun w' hw' => by (clear hw'; go_simp)⟩) hHeld ?_
      simp only [Act.put, List.setIfInBounds_toArray, List.set_cons_zero, List.set_cons_succ]
      refine wpAnyH_take (i := 10) (oi := { dst := some 20, op := Op.load 38 (Operand.tmp 19), type := 38, pos := "frame.go:108", after := #[{ on := 9, ground := Ground.data }], guard := none }) (v := .slice ac cs.length cc) rfl (by kernel_rfl) (by kernel_rfl) (by kernel_rfl) (fun _ _ _ h => h) (Or.inl ⟨by rfl, fun w' hw' => by (have q := (hw'.cell (p := ⟨bk, ok + 8 + 2, none⟩) hz2).trans c2; clear hw'; go_simp)⟩) hHeld ?_
      simp only [Act.put, List.setIfInBounds_toArray, List.set_cons_zero, List.set_cons_succ]
      refine wpAnyH_take (i := 11) (oi := { dst := some 21, op := Op.build 52 #[(0, Operand.tmp 15), (2, Operand.tmp 20)], type := 52, pos := "frame.go:108", after := #[{ on := 5, ground := Ground.data }, { on := 10, ground := Ground.data }], guard := none }) (v := .agg C0.toArray) rfl (by kernel_rfl) (by kernel_rfl) (by kernel_rfl) (fun _ _ _ h => h) (yields_build2 (by rfl) _ _ _ _ _ rfl _ _ rfl rfl _ HBU.out) hHeld ?_
      simp only [Act.put, List.setIfInBounds_toArray, List.set_cons_zero, List.set_cons_succ]
      refine wpAnyH_ready (rs := [12]) (by kernel_rfl) (by simp) ?_
      refine AllReadyH.cons (o := { dst := some 4, op := Op.alloc 52, type := 0, pos := "frame.go:108", after := #[], guard := none }) rfl (fun K hK => ?_) AllReadyH.nil
      go_simp
      refine hK.out _ _ HS1.out (fun hh => ?_)
      clear hK K hHeld
      have hHeld := hh
      clear hh
      try simp only [Act.put, List.setIfInBounds_toArray, List.set_cons_zero, List.set_cons_succ]
      refine wpAnyH_ready (rs := [13]) (by kernel_rfl) (by simp) ?_
      refine AllReadyH.cons (o := { dst := none, op := Op.store 52 (Operand.tmp 4) (Operand.tmp 21), type := 0, pos := "frame.go:108", after := #[{ on := 12, ground := Ground.data }, { on := 11, ground := Ground.data }, { on := 0, ground := Ground.phase }, { on := 1, ground := Ground.phase }, { on := 2, ground := Ground.phase }, { on := 3, ground := Ground.phase }, { on := 4, ground := Ground.phase }, { on := 5, ground := Ground.phase }, { on := 6, ground := Ground.phase }, { on := 7, ground := Ground.phase }, { on := 8, ground := Ground.phase }, { on := 9, ground := Ground.phase }, { on := 10, ground := Ground.phase }, { on := 11, ground := Ground.phase }, { on := 12, ground := Ground.phase }], guard := none }) rfl (fun K hK => ?_) AllReadyH.nil
      rw [if_pos (by rfl)]
      refine wp_store_mid 52 _ _ (by rfl) W0.heap.size 0 C0.toArray (by rfl) (by rfl) HT0.out HI0.out H10.out ?_
      refine hK.out _ _ HS2.out (fun hh => ?_)
      clear hK K hHeld hh
      refine wpAnyH_done (by kernel_rfl) ?_ _
      go_wp2_with fail
      go_meet
      exact ⟨_, rfl, HALF.out⟩
    case rest =>
      obtain ⟨g, rfl, HALF⟩ := hcut
      obtain ⟨hb1, hg0, hg1, hr1, ht1⟩ := HALF.out
      have HB1 := hid hb1
      have HR1 := hid hr1
      have HT1 := hid ht1
      replace d0 := (hb1.cell (p := ⟨w.heap.size, 0, none⟩) hz1).trans d0
      replace d1 := (hb1.cell (p := ⟨w.heap.size, 1, none⟩) hz1).trans d1
      replace d2 := (hb1.cell (p := ⟨w.heap.size, 2, none⟩) hz1).trans d2
      replace d3 := (hb1.cell (p := ⟨w.heap.size, 3, none⟩) hz1).trans d3
      replace b2 := (hb1.cell (p := ⟨bk, ok + 4 + 2, none⟩) hz2).trans b2
      clear hb1 hr1 ht1 a1 c2 hz
      go_wp2_with fail
      go_cut [29] (fun _ wx => Hid (Half W0 wx k (pad32 bn) (.slice ac cs.length cc) g))
      case first =>
        clear d0 d1 d2
        cases abb with
        | none =>
          obtain ⟨rfl, rfl⟩ := HB4.out rfl
          have hcp : ∀ w, (Builtin.copy_ #[38, 38] 3 #[Value.slice (some ⟨g, 1, none⟩) 32 32, Value.slice none 0 0]).run Tryz.prog w = .ok (.int .i64 0) w := fun w => run_copy_none w _ _ _ 5 _ _ _ _ _ _ Tryz.underlying38 (by kernel_rfl) (by rfl)
          go_region
          all_goals (go_wp2_with fail; go_meet)
          all_goals exact HALF.out.drew
        | some ad =>
          obtain ⟨CS, hCS⟩ : ∃ CS, u8s (bn.take 32) = CS := ⟨_, rfl⟩
          have HCL : Hid (CS.length = Nat.min bn.length 32) := by rw [Hid, ← hCS, u8s_length, List.length_take, Nat.min_comm]
          have HCO : Hid (∀ v ∈ CS, v.oneCell' = true) := by rw [← hCS]; exact u8s_one _
          have HCT : Hid (World.there wc.drew g 1 CS.length) := by
            intro j hj
            have h1 := HCL.out
            have h2 : Nat.min bn.length 32 ≤ 32 := Nat.min_le_right _ _
            have h := HT1.out (1 + j) (by omega)
            rw [Nat.zero_add] at h
            simpa using h
          have HSR : Hid (∀ j v, CS[j]? = some v → wc.drew.cell? (ad.add j) = some v) := by
            intro j v hj
            have hb := HBB.out.agree (Agree.below (HBEL.out.mono hB)) (Nat.le_refl _) (Nat.le_refl _)
            have hb' := hb.agree (Agree.below (HB1.out.mono (Nat.le_trans hB HBEL.out.size))) (Nat.le_refl _) (Nat.le_refl _)
            refine Tlv.bytes_news (B := B) (w := wc) (w' := wc.drew) (bs := bn) (l := bn.length) (c := cbb) (hb'.agree (Agree.refl _ _ _) (Nat.zero_le _) (Nat.le_refl _)) (Below.refl _ _).drew j v ?_
            rw [← hCS, u8s, List.map_take] at hj
            have hlt : j < 32 := by
              have := (List.getElem?_eq_some_iff.1 hj).1
              simp at this
              omega
            rwa [List.getElem?_take_of_lt hlt] at hj
          have HNX : Hid (Half W0 (wc.drew.setCells g 1 CS) k (pad32 bn) (.slice ac cs.length cc) g) := by
            rw [← hCS]
            exact HALF.out.drew.named (by rw [hCS]; exact HCT.out)
          have HI5 : Hid ((Tryz.prog.info? 5).map (·.size) = some 1) := by rw [Hid]; kernel_rfl
          clear hCS
          go_region_law (refine step_copy _ (by rfl) (.tmp 23) (.tmp 28) 38 38 (by rfl) 5 Tryz.underlying38 HI5.out g 1 32 32 ad bn.length cbb (by rfl) (by rfl) CS HCL.out HSR.out HCT.out HCO.out ?_)
          all_goals (go_wp2_with fail; go_meet)
          all_goals exact HNX.out
      case rest =>
        obtain ⟨V2, rfl⟩ : ∃ V2, V2 = wc := ⟨_, rfl⟩
        obtain ⟨hb2, hg0', hg2, hr2, ht2⟩ := hcut.out
        clear hcut HALF HR1 HT1 HB1 b2 hg1 d3
        have HB2 := hid hb2
        have HBW : Hid (Below w.heap.size w V2) := HBEL.out.trans (hb2.mono HBEL.out.size)
        obtain ⟨d0, d1, d2, d3⟩ := HD.out
        have HD0 := hid ((hb2.cell (p := ⟨w.heap.size, 0, none⟩) hz1).trans d0)
        have HD1 := hid ((hb2.cell (p := ⟨w.heap.size, 1, none⟩) hz1).trans d1)
        have HD2 := hid ((hb2.cell (p := ⟨w.heap.size, 2, none⟩) hz1).trans d2)
        have HD3 := hid ((hb2.cell (p := ⟨w.heap.size, 3, none⟩) hz1).trans d3)
        have HTR2 := hid (there_below HTR.out hb2 hz0)
        have hzw : w.heap.size + 1 < V2.heap.size := by have := hb2.size; omega
        clear d0 d1 d2 d3 HD
        have hc0 := recA_0 k (pad32 bn) (.slice ac cs.length cc)
        have hc33 := recA_33 k (pad32 bn) (.slice ac cs.length cc) (pad32_length _)
        have HKL := hid (recA_length k (pad32 bn) (.slice ac cs.length cc) (pad32_length _))
        have HKO := hid (recA_one k (pad32 bn) ac cs.length cc)
        have HV := hid (value_any k (pad32 bn) cs (.slice ac cs.length cc))
        obtain ⟨C, hC⟩ : ∃ C, recA k (pad32 bn) (.slice ac cs.length cc) = C := ⟨_, rfl⟩
        rw [hC] at hc0 hc33 HKL HKO HV hr2
        have HC := hid hC
        have HR2 := hid hr2
        have HIC : Hid ((Tryz.prog.info? 52).map (·.size) = some C.length) := by rw [Hid, HKL.out]; exact Tryz.info35
        have hld : ∀ V, Below V2.heap.size V2 V → (Instr.loadAt 52 (.pointer (some ⟨g, 0, none⟩))).run Tryz.prog V = .ok (.agg C.toArray) V := fun V hV => run_loadAt_mid V g 0 52 C _ (rangeAt_below HR2.out hV hg2) Tryz.underlying52 rfl HIC.out
        have hl0 : ∀ V, Below V2.heap.size V2 V → V.cell? ⟨w.heap.size, 0, none⟩ = some (.int .i64 tag) := fun V hV => (hV.cell (p := ⟨w.heap.size, 0, none⟩) (by simp; omega)).trans HD0.out
        have hl1 : ∀ V, Below V2.heap.size V2 V → V.cell? ⟨w.heap.size, 1, none⟩ = some (.int .u64 num) := fun V hV => (hV.cell (p := ⟨w.heap.size, 1, none⟩) (by simp; omega)).trans HD1.out
        have hl2 : ∀ V, Below V2.heap.size V2 V → V.cell? ⟨w.heap.size, 2, none⟩ = some (.slice ab bs.length cb) := fun V hV => (hV.cell (p := ⟨w.heap.size, 2, none⟩) (by simp; omega)).trans HD2.out
        have hl3 : ∀ V, Below V2.heap.size V2 V → V.cell? ⟨w.heap.size, 3, none⟩ = some (.slice (some ⟨bk, ok, none⟩) 3 ck) := fun V hV => (hV.cell (p := ⟨w.heap.size, 3, none⟩) (by simp; omega)).trans HD3.out
        have HCB2 := hid (HCB.out.agree (Agree.below (HBW.out.mono hB)) (Nat.le_refl _) (Nat.le_refl _))
        have HTB : Hid (∀ x ∈ pad32 bn, 0 ≤ x ∧ x ≤ 255) := by
          rw [Hid]
          intro x hx
          obtain ⟨_, _, _, _, _, _, _, h6, _⟩ := HBB.out
          rcases List.mem_append.1 hx with hx | hx
          · exact h6 x (List.mem_of_mem_take hx)
          · rw [(List.mem_replicate.1 hx).2]; omega
        clear hC hr2 hb2
        obtain ⟨okb, hokb⟩ : ∃ okb, (rightB k cs.length && Tlv.sameT 9 t 2 (recT k (pad32 bn) cs)) = okb := ⟨_, rfl⟩
        have HOK := hid hokb
        clear hokb
        go_wp2_with fail
        go_cut [39] (fun c wx => c = .bool (!okb) ∧ Hid (Below V2.heap.size V2 wx))
        case first =>
          cases hrb : rightB k cs.length with
          | false =>
            have HRB := hid hrb
            have HOF : Hid (okb = false) := by rw [Hid, ← HOK.out, hrb]; rfl
            clear hrb
            refine wp_region_held_drew (S := fun V => Below V2.heap.size V2 V) (by kernel_rfl) (Below.refl _ _).drew (fun hHeld => ?_)
            refine wpAnyH_take (i := 0) (oi := { dst := some 30, op := Op.load 52 (Operand.tmp 4), type := 52, pos := "frame.go:110", after := #[], guard := none }) (v := .agg C.toArray) rfl (by kernel_rfl) (by kernel_rfl) (by kernel_rfl) (fun _ _ _ h => h) (yieldsIf_load_mid (by rfl) _ _ rfl g 0 rfl C _ (fun V hV => rangeAt_below HR2.out hV hg2) Tryz.underlying52 rfl HIC.out) hHeld ?_
            simp only [Act.put, List.setIfInBounds_toArray, List.set_cons_zero, List.set_cons_succ]
            refine wpAnyH_ready (rs := [1]) (by kernel_rfl) (by simp) ?_
            refine AllReadyH.cons (o := { dst := some 31, op := Op.call { callee := Callee.value (Operand.func 132), args := #[Operand.tmp 30], argTypes := #[52] }, type := 4, pos := "frame.go:110", after := #[{ on := 0, ground := Ground.data }], guard := none }) rfl (fun K hK => ?_) AllReadyH.nil
            go_simp
            refine (right13_any C k _ _ _ _ hc0 hc33).mono ?_
            rintro e w3 ⟨rfl, hb3⟩
            rw [HRB.out]
            have HK3 : Hid (Below V2.heap.size V2 w3) := (Below.refl _ _).drew.trans hb3
            clear hb3
            go_wp2_with fail
            refine hK.out _ _ (HK3.out) (fun hh => ?_)
            clear hK K hHeld
            have hHeld := hh
            clear hh
            try simp only [Act.put, List.setIfInBounds_toArray, List.set_cons_zero, List.set_cons_succ]
            refine wpAnyH_take (i := 2) (oi := { dst := some 32, op := Op.unOp UnOp.not 4 (Operand.tmp 31), type := 4, pos := "frame.go:110", after := #[{ on := 1, ground := Ground.data }], guard := none }) (v := .bool true) rfl (by kernel_rfl) (by kernel_rfl) (by kernel_rfl) (fun _ _ _ h => h) (Or.inl ⟨by rfl, fun w' hw' => by (clear hw'; go_simp)⟩) hHeld ?_
            simp only [Act.put, List.setIfInBounds_toArray, List.set_cons_zero, List.set_cons_succ]
            refine wpAnyH_take (i := 3) (oi := { dst := some 33, op := Op.move (Operand.tmp 32), type := 4, pos := "frame.go:110", after := #[{ on := 2, ground := Ground.data }, { on := 1, ground := Ground.chain }], guard := none }) (v := .bool true) rfl (by kernel_rfl) (by kernel_rfl) (by kernel_rfl) (fun _ _ _ h => h) (Or.inl ⟨by rfl, fun w' hw' => by (clear hw'; go_simp)⟩) hHeld ?_
            simp only [Act.put, List.setIfInBounds_toArray, List.set_cons_zero, List.set_cons_succ]
            refine wpAnyH_take (i := 4) (oi := { dst := some 34, op := Op.load 218 (Operand.tmp 1), type := 218, pos := "frame.go:110", after := #[{ on := 3, ground := Ground.guard }], guard := some (3, false) }) (v := undef) rfl (by kernel_rfl) (by kernel_rfl) (by kernel_rfl) (fun _ _ _ h => h) (Or.inr ⟨by rfl, rfl⟩) hHeld ?_
            simp only [Act.put, List.setIfInBounds_toArray, List.set_cons_zero, List.set_cons_succ]
            refine wpAnyH_take (i := 5) (oi := { dst := some 35, op := Op.load 52 (Operand.tmp 4), type := 52, pos := "frame.go:110", after := #[{ on := 3, ground := Ground.guard }], guard := some (3, false) }) (v := undef) rfl (by kernel_rfl) (by kernel_rfl) (by kernel_rfl) (fun _ _ _ h => h) (Or.inr ⟨by rfl, rfl⟩) hHeld ?_
            simp only [Act.put, List.setIfInBounds_toArray, List.set_cons_zero, List.set_cons_succ]
            refine wpAnyH_take (i := 6) (oi := { dst := some 36, op := Op.call { callee := Callee.value (Operand.func 134), args := #[Operand.tmp 35], argTypes := #[52] }, type := 218, pos := "frame.go:110", after := #[{ on := 5, ground := Ground.data }, { on := 3, ground := Ground.chain }, { on := 3, ground := Ground.guard }], guard := some (3, false) }) (v := undef) rfl (by kernel_rfl) (by kernel_rfl) (by kernel_rfl) (fun _ _ _ h => h) (Or.inr ⟨by rfl, rfl⟩) hHeld ?_
            simp only [Act.put, List.setIfInBounds_toArray, List.set_cons_zero, List.set_cons_succ]
            refine wpAnyH_take (i := 7) (oi := { dst := some 37, op := Op.call { callee := Callee.value (Operand.func 218), args := #[Operand.tmp 34, Operand.tmp 36], argTypes := #[218, 218] }, type := 4, pos := "frame.go:110", after := #[{ on := 4, ground := Ground.data }, { on := 6, ground := Ground.data }, { on := 6, ground := Ground.chain }, { on := 3, ground := Ground.guard }], guard := some (3, false) }) (v := undef) rfl (by kernel_rfl) (by kernel_rfl) (by kernel_rfl) (fun _ _ _ h => h) (Or.inr ⟨by rfl, rfl⟩) hHeld ?_
            simp only [Act.put, List.setIfInBounds_toArray, List.set_cons_zero, List.set_cons_succ]
            refine wpAnyH_take (i := 8) (oi := { dst := some 38, op := Op.unOp UnOp.not 4 (Operand.tmp 37), type := 4, pos := "frame.go:110", after := #[{ on := 7, ground := Ground.data }, { on := 3, ground := Ground.guard }], guard := some (3, false) }) (v := undef) rfl (by kernel_rfl) (by kernel_rfl) (by kernel_rfl) (fun _ _ _ h => h) (Or.inr ⟨by rfl, rfl⟩) hHeld ?_
            simp only [Act.put, List.setIfInBounds_toArray, List.set_cons_zero, List.set_cons_succ]
            refine wpAnyH_take (i := 9) (oi := { dst := some 39, op := Op.pick (Operand.tmp 33) (Operand.const (Value.bool true)) (Operand.tmp 38), type := 4, pos := "frame.go:110", after := #[{ on := 3, ground := Ground.data }, { on := 8, ground := Ground.data }], guard := none }) (v := .bool true) rfl (by kernel_rfl) (by kernel_rfl) (by kernel_rfl) (fun _ _ _ h => h) (Or.inl ⟨by rfl, fun w' hw' => by (clear hw'; go_simp)⟩) hHeld ?_
            simp only [Act.put, List.setIfInBounds_toArray, List.set_cons_zero, List.set_cons_succ]
            refine wpAnyH_done (by kernel_rfl) ?_ _
            go_wp2_with fail
            go_meet
            exact ⟨by rw [HOF.out]; rfl, HK3.out⟩
          | true =>
            have HRB := hid hrb
            have HOF : Hid (Tlv.sameT 9 t 2 (recT k (pad32 bn) cs) = okb) := by rw [Hid, ← HOK.out, hrb]; rfl
            have hkb : 1 ≤ k ∧ k ≤ 9 := by have h := hrb; simp [rightB] at h; omega
            clear hrb
            have HVV : Hid (∀ V, Below V2.heap.size V2 V → Calls Tryz.prog 134 #[.agg C.toArray] V fun e w' => ∃ a3 l3 p3 a4 l4 p4, e = .returned (.agg #[.int .i64 3, .int .u64 0, .slice a3 l3 p3, .slice a4 l4 p4]) ∧ Tlv.Rep 0 w'.heap.size w' 2 (recT k (pad32 bn) cs) (.slice a3 l3 p3) (.slice a4 l4 p4) ∧ Below V.heap.size V w') := by
              intro V hV
              have hcb := HCB2.out.agree (Agree.below (hV.mono (Nat.le_trans hB HBW.out.size))) (Nat.zero_le _) (Nat.le_trans hB (Nat.le_trans HBW.out.size hV.size))
              refine (HV.out V hkb.1 hkb.2 (pad32_length _) HTB.out hcb).mono ?_
              rintro e w4 ⟨sb, sk, rfl, hr4, hb4⟩
              obtain ⟨a3, l3, p3, a4, l4, p4, rfl, rfl⟩ := hr4.sl
              exact ⟨_, _, _, _, _, _, rfl, hr4.agree (Agree.refl _ _ _) (Nat.zero_le _) (Nat.le_refl _), hb4⟩
            have HSS : Hid (∀ V sb' sk', Below V2.heap.size V2 V → Tlv.Rep 0 V.heap.size V 2 (recT k (pad32 bn) cs) sb' sk' → Calls Tryz.prog 218 #[.agg #[.int .i64 tag, .int .u64 num, .slice ab bs.length cb, .slice (some ⟨bk, ok, none⟩) 3 ck], .agg #[.int .i64 3, .int .u64 0, sb', sk']] V fun e w' => e = .returned (.bool okb) ∧ Below V.heap.size V w') := by
              intro V sb' sk' hV hR
              have h1 := HREP3.out.agree (Agree.below (HBW.out.mono hB)) (Nat.zero_le _) hB
              have h2 := h1.agree (L' := 0) (B' := V.heap.size) (Agree.below (hV.mono HBW.out.size)) (Nat.zero_le _) (Nat.le_trans HBW.out.size hV.size)
              have h3 := Tlv.Same_any t (recT k (pad32 bn) cs) _ _ _ _ V h2 hR (by omega)
              obtain ⟨e0, e1, e2⟩ := HH.out
              rw [e0, e1, HOF.out] at h3
              exact h3
            refine wp_region_held_drew (S := fun V => Below V2.heap.size V2 V) (by kernel_rfl) (Below.refl _ _).drew (fun hHeld => ?_)
            refine wpAnyH_take (i := 0) (oi := { dst := some 30, op := Op.load 52 (Operand.tmp 4), type := 52, pos := "frame.go:110", after := #[], guard := none }) (v := .agg C.toArray) rfl (by kernel_rfl) (by kernel_rfl) (by kernel_rfl) (fun _ _ _ h => h) (yieldsIf_load_mid (by rfl) _ _ rfl g 0 rfl C _ (fun V hV => rangeAt_below HR2.out hV hg2) Tryz.underlying52 rfl HIC.out) hHeld ?_
            simp only [Act.put, List.setIfInBounds_toArray, List.set_cons_zero, List.set_cons_succ]
            refine wpAnyH_ready (rs := [1]) (by kernel_rfl) (by simp) ?_
            refine AllReadyH.cons (o := { dst := some 31, op := Op.call { callee := Callee.value (Operand.func 132), args := #[Operand.tmp 30], argTypes := #[52] }, type := 4, pos := "frame.go:110", after := #[{ on := 0, ground := Ground.data }], guard := none }) rfl (fun K hK => ?_) AllReadyH.nil
            go_simp
            refine (right13_any C k _ _ _ _ hc0 hc33).mono ?_
            rintro e w3 ⟨rfl, hb3⟩
            rw [HRB.out]
            have HK3 : Hid (Below V2.heap.size V2 w3) := (Below.refl _ _).drew.trans hb3
            clear hb3
            go_wp2_with fail
            refine hK.out _ _ (HK3.out) (fun hh => ?_)
            clear hK K hHeld
            have hHeld := hh
            clear hh
            try simp only [Act.put, List.setIfInBounds_toArray, List.set_cons_zero, List.set_cons_succ]
            refine wpAnyH_take (i := 2) (oi := { dst := some 32, op := Op.unOp UnOp.not 4 (Operand.tmp 31), type := 4, pos := "frame.go:110", after := #[{ on := 1, ground := Ground.data }], guard := none }) (v := .bool false) rfl (by kernel_rfl) (by kernel_rfl) (by kernel_rfl) (fun _ _ _ h => h) (Or.inl ⟨by rfl, fun w' hw' => by (clear hw'; go_simp)⟩) hHeld ?_
            simp only [Act.put, List.setIfInBounds_toArray, List.set_cons_zero, List.set_cons_succ]
            refine wpAnyH_take (i := 3) (oi := { dst := some 33, op := Op.move (Operand.tmp 32), type := 4, pos := "frame.go:110", after := #[{ on := 2, ground := Ground.data }, { on := 1, ground := Ground.chain }], guard := none }) (v := .bool false) rfl (by kernel_rfl) (by kernel_rfl) (by kernel_rfl) (fun _ _ _ h => h) (Or.inl ⟨by rfl, fun w' hw' => by (clear hw'; go_simp)⟩) hHeld ?_
            simp only [Act.put, List.setIfInBounds_toArray, List.set_cons_zero, List.set_cons_succ]
            refine wpAnyH_take (i := 4) (oi := { dst := some 34, op := Op.load 218 (Operand.tmp 1), type := 218, pos := "frame.go:110", after := #[{ on := 3, ground := Ground.guard }], guard := some (3, false) }) (v := .agg #[.int .i64 tag, .int .u64 num, .slice ab bs.length cb, .slice (some ⟨bk, ok, none⟩) 3 ck]) rfl (by kernel_rfl) (by kernel_rfl) (by kernel_rfl) (fun _ _ _ h => h) (Or.inl ⟨by rfl, fun w' hw' => by (have q0 := hl0 _ hw'; have q1 := hl1 _ hw'; have q2 := hl2 _ hw'; have q3 := hl3 _ hw'; clear hw'; go_simp)⟩) hHeld ?_
            simp only [Act.put, List.setIfInBounds_toArray, List.set_cons_zero, List.set_cons_succ]
            refine wpAnyH_take (i := 5) (oi := { dst := some 35, op := Op.load 52 (Operand.tmp 4), type := 52, pos := "frame.go:110", after := #[{ on := 3, ground := Ground.guard }], guard := some (3, false) }) (v := .agg C.toArray) rfl (by kernel_rfl) (by kernel_rfl) (by kernel_rfl) (fun _ _ _ h => h) (yieldsIf_load_mid (by rfl) _ _ rfl g 0 rfl C _ (fun V hV => rangeAt_below HR2.out hV hg2) Tryz.underlying52 rfl HIC.out) hHeld ?_
            simp only [Act.put, List.setIfInBounds_toArray, List.set_cons_zero, List.set_cons_succ]
            refine wpAnyH_ready (rs := [6]) (by kernel_rfl) (by simp) ?_
            refine AllReadyH.cons (o := { dst := some 36, op := Op.call { callee := Callee.value (Operand.func 134), args := #[Operand.tmp 35], argTypes := #[52] }, type := 218, pos := "frame.go:110", after := #[{ on := 5, ground := Ground.data }, { on := 3, ground := Ground.chain }, { on := 3, ground := Ground.guard }], guard := some (3, false) }) rfl (fun K hK => ?_) AllReadyH.nil
            go_simp
            refine (HVV.out w3 HK3.out).mono ?_
            rintro e w4 ⟨a3, l3, p3, a4, l4, p4, rfl, hr4, hb4⟩
            have HR4 := hid hr4
            have HK4 : Hid (Below V2.heap.size V2 w4) := HK3.out.trans (hb4.mono HK3.out.size)
            clear hr4 hb4
            go_wp2_with fail
            refine hK.out _ _ (HK4.out) (fun hh => ?_)
            clear hK K hHeld
            have hHeld := hh
            clear hh
            try simp only [Act.put, List.setIfInBounds_toArray, List.set_cons_zero, List.set_cons_succ]
            refine wpAnyH_ready (rs := [7]) (by kernel_rfl) (by simp) ?_
            refine AllReadyH.cons (o := { dst := some 37, op := Op.call { callee := Callee.value (Operand.func 218), args := #[Operand.tmp 34, Operand.tmp 36], argTypes := #[218, 218] }, type := 4, pos := "frame.go:110", after := #[{ on := 4, ground := Ground.data }, { on := 6, ground := Ground.data }, { on := 6, ground := Ground.chain }, { on := 3, ground := Ground.guard }], guard := some (3, false) }) rfl (fun K hK => ?_) AllReadyH.nil
            go_simp
            refine (HSS.out w4 _ _ HK4.out HR4.out).mono ?_
            rintro e w5 ⟨rfl, hb5⟩
            have HK5 : Hid (Below V2.heap.size V2 w5) := HK4.out.trans (hb5.mono HK4.out.size)
            clear hb5
            go_wp2_with fail
            refine hK.out _ _ (HK5.out) (fun hh => ?_)
            clear hK K hHeld
            have hHeld := hh
            clear hh
            try simp only [Act.put, List.setIfInBounds_toArray, List.set_cons_zero, List.set_cons_succ]
            refine wpAnyH_take (i := 8) (oi := { dst := some 38, op := Op.unOp UnOp.not 4 (Operand.tmp 37), type := 4, pos := "frame.go:110", after := #[{ on := 7, ground := Ground.data }, { on := 3, ground := Ground.guard }], guard := some (3, false) }) (v := .bool (!okb)) rfl (by kernel_rfl) (by kernel_rfl) (by kernel_rfl) (fun _ _ _ h => h) (Or.inl ⟨by rfl, fun w' hw' => by (clear hw'; go_simp)⟩) hHeld ?_
            simp only [Act.put, List.setIfInBounds_toArray, List.set_cons_zero, List.set_cons_succ]
            refine wpAnyH_take (i := 9) (oi := { dst := some 39, op := Op.pick (Operand.tmp 33) (Operand.const (Value.bool true)) (Operand.tmp 38), type := 4, pos := "frame.go:110", after := #[{ on := 3, ground := Ground.data }, { on := 8, ground := Ground.data }], guard := none }) (v := .bool (!okb)) rfl (by kernel_rfl) (by kernel_rfl) (by kernel_rfl) (fun _ _ _ h => h) (Or.inl ⟨by rfl, fun w' hw' => by (clear hw'; go_simp)⟩) hHeld ?_
            simp only [Act.put, List.setIfInBounds_toArray, List.set_cons_zero, List.set_cons_succ]
            refine wpAnyH_done (by kernel_rfl) ?_ _
            go_wp2_with fail
            go_meet
            exact ⟨rfl, HK5.out⟩
        case rest =>
          obtain ⟨rfl, HKX⟩ := hcut
          clear hld hl0 hl1 hl2 hl3 HD0 HD1 HD2 HD3 hc0 hc33
          have hzz : V2.heap.size ≤ wc.heap.size := HKX.out.size
          have HTW := hid (there_below HTR2.out HKX.out hzw)
          have HRW := hid (rangeAt_below HR2.out HKX.out hg2)
          have HBF : Hid (Below w.heap.size w wc) := HBW.out.trans (HKX.out.mono HBW.out.size)
          have hz := zero35
          rw [HZ.out] at hz
          cases okb with
          | false =>
            have HN : Hid (recOf t = none) := by
              rw [Hid, HEQ.out, if_neg]
              intro h
              have h1 := HOK.out
              rw [h.1, h.2] at h1
              cases h1
            have HZS : Hid (Z.toArray.size = 34) := by rw [← HZ.out]; rfl
            have HTZ : Hid (wc.there (w.heap.size + 1) 0 Z.toArray.size) := by rw [Hid, HZS.out]; exact HTW.out
            have HI2 : Hid ((Tryz.prog.info? 52).map (·.size) = some Z.toArray.size) := by rw [← HZ.out]; exact Tryz.info35
            have H1 : Hid (Z.toArray.all (·.oneCell') = true) := by rw [← HZ.out]; exact all_oneCell_toArray zRec_one
            go_wp2_with (refine wpList_store_mid (by rfl) 52 _ _ (by rfl) (w.heap.size + 1) 0 Z.toArray (by rfl) (by rfl) HTZ.out HI2.out H1.out ?_)
            have hr : World.rangeAt (wc.setCells (w.heap.size + 1) 0 Z) (w.heap.size + 1) 0 Z := World.rangeAt_setCells_same _ _ _ _ HTZ.out
            refine bodyPost_ret (v := .tuple #[.agg Z.toArray, .bool false]) ?_ rfl ⟨.inl ⟨HN.out, by rw [HZ.out]⟩, ?_⟩
            · exact results_cell_mid2 Tryz.results184 _ _ (w.heap.size + 1) 0 _ _ rfl hr Tryz.underlying52 rfl HI2.out
            · exact HBF.out.trans (setCells_below (by omega) _ _ _)
          | true =>
            have HN : Hid (recOf t = some (k, pad32 bn, cs)) := by
              rw [Hid, HEQ.out, if_pos]
              have h1 := HOK.out
              simpa using h1
            have HCS : Hid (C.toArray.size = 34) := HKL.out
            have HTZ : Hid (wc.there (w.heap.size + 1) 0 C.toArray.size) := by rw [Hid, HCS.out]; exact HTW.out
            have HI2 : Hid ((Tryz.prog.info? 52).map (·.size) = some C.toArray.size) := HIC.out
            have H1 : Hid (C.toArray.all (·.oneCell') = true) := all_oneCell_toArray HKO.out
            go_wp2_with (first
              | (refine wpList_load_mid (by rfl) 52 _ (by rfl) g 0 (by rfl) C _ HRW.out Tryz.underlying52 rfl HIC.out ?_)
              | (refine wpList_store_mid (by rfl) 52 _ _ (by rfl) (w.heap.size + 1) 0 C.toArray (by rfl) (by rfl) HTZ.out HI2.out H1.out ?_))
            have hr : World.rangeAt (wc.setCells (w.heap.size + 1) 0 C) (w.heap.size + 1) 0 C := World.rangeAt_setCells_same _ _ _ _ HTZ.out
            have hbf : Below w.heap.size w (wc.setCells (w.heap.size + 1) 0 C) := HBF.out.trans (setCells_below (by omega) _ _ _)
            refine bodyPost_ret (v := .tuple #[.agg C.toArray, .bool true]) ?_ rfl ⟨.inr ⟨k, pad32 bn, cs, ac, cc, HN.out, by rw [HC.out], ?_, pad32_length _, HTB.out⟩, ?_⟩
            · exact results_cell_mid2 Tryz.results184 _ _ (w.heap.size + 1) 0 _ _ rfl hr Tryz.underlying52 rfl HI2.out
            · exact HCB.out.agree (Agree.below (hbf.mono hB)) (Nat.le_refl _) (Nat.le_refl _)
            · exact hbf
end Go.Proofs.YtkekajmmcjacgaaGreatDoor
end

section
/-
  What Open and the reference's Open do.
-/
namespace Go.Proofs.YtkekajmmcjacgaaGreatDoor.Crc
open Go.RowKit

/-- Four bytes held against four. -/
theorem eq62 (a b c d a' b' c' d' : Int) (w : World) : (Op.equalIn 10000 268 (.agg #[.int .u8 a, .int .u8 b, .int .u8 c, .int .u8 d]) (.agg #[.int .u8 a', .int .u8 b', .int .u8 c', .int .u8 d'])).run Tryz.prog w = .ok (a == a' && b == b' && c == c' && d == d') w := by
  have u5 := Tryz.underlying5
  have a5 := Tryz.isAgg5
  have z5 := Tryz.sizeOf5
  rw [show (10000 : Nat) = 9999 + 1 from rfl, Op.equalIn]
  simp only [Sem.run_bind, run_underlying Tryz.underlying268, Result.andThen_ok]
  simp only [Std.Legacy.Range.forIn_eq_forIn_range', Std.Legacy.Range.size, Nat.sub_zero, Nat.add_sub_cancel, Nat.div_one, List.range'_succ, List.range'_zero, List.forIn_cons, List.forIn_nil]
  go_simp
  by_cases h1 : a = a' <;> by_cases h2 : b = b' <;> by_cases h3 : c = c' <;> by_cases h4 : d = d' <;> simp [h1, h2, h3, h4]

theorem BySl.take {b : Nat} {w : World} {a : Option Addr} {cap k : Nat} {bs : List Nat} (h : BySl b w (.slice a bs.length cap) bs) (hk : k ≤ bs.length) : BySl b w (.slice a k cap) (bs.take k) := by
  obtain ⟨a', cap', e, h2, h3, h4, h5, h6, h7⟩ := h
  cases e
  have hl : (bs.take k).length = k := List.length_take_of_le hk
  refine ⟨a, cap, by rw [hl], by omega, h3, fun e => ⟨by rw [(h4 e).1]; simp, (h4 e).2⟩, by omega, fun x hx => h6 x (List.mem_of_mem_take hx), fun hne => ?_⟩
  obtain ⟨g, o, e, hgb, hg, hc⟩ := h7 (by intro e; subst e; simp at hne)
  refine ⟨g, o, e, hgb, hg, fun i hi => ?_⟩
  rw [hl] at hi
  rw [hc i (by omega)]
  simp [hi]

set_option maxHeartbeats 400000 in
theorem open_short (b : Nat) (v : Value) (bs : List Nat) (w : World) (h : BySl b w v bs) (hl : bs.length < 4) :
    Calls Tryz.prog 183 #[.pointer (some ⟨b, 0, none⟩), v] w fun e w' => e = .returned (.tuple #[.slice none 0 0, .int .i64 3]) ∧ w' = w := by
  obtain ⟨a, cap, rfl, r⟩ := h
  clear r
  go_enter Tryz.func183, Tryz.ntmps183
  go_wp2_with fail
  go_ret2
  exact ⟨rfl, rfl⟩

set_option maxHeartbeats 2000000 in
set_option maxRecDepth 100000 in
theorem open_any (b f : Nat) (n : Int) (v : Value) (xs : List Nat) (y0 y1 y2 y3 : Nat) (w : World) (hf : f = 0 ∨ f = 1) (ht : Tab w b f n) (h : BySl b w v (xs ++ [y0, y1, y2, y3])) (hl : xs.length ≤ 80000) :
    Calls Tryz.prog 183 #[.pointer (some ⟨b, 0, none⟩), v] w fun e w' => Kept b w w' ∧ Tab w' b 1 (wrap64 (n + xs.length)) ∧
      ∃ v' q, e = .returned (.tuple #[v', .int .i64 q]) ∧ ((le4 (more 0 xs) = [y0, y1, y2, y3] ∧ q = 0 ∧ BySl b w' v' xs) ∨ (le4 (more 0 xs) ≠ [y0, y1, y2, y3] ∧ q = 4 ∧ v' = .slice none 0 0)) := by
  have H := hid h
  have T := hid ht
  obtain ⟨a, cap, rfl, h2, h3, h4, h5, h6, h7⟩ := h
  obtain ⟨g, o, rfl, hgb, hg, hc⟩ := h7 (by simp)
  have hN : (xs ++ [y0, y1, y2, y3]).length = xs.length + 4 := by simp
  have hat : ∀ i, (xs ++ [y0, y1, y2, y3]).getD (xs.length + i) 0 = [y0, y1, y2, y3].getD i 0 := fun i => by simp [List.getElem?_append_right]
  have k0 := hc (xs.length + 0) (by omega)
  have k1 := hc (xs.length + 1) (by omega)
  have k2 := hc (xs.length + 2) (by omega)
  have k3 := hc (xs.length + 3) (by omega)
  rw [hat] at k0 k1 k2 k3
  simp only [List.getD_cons_zero, List.getD_cons_succ, Nat.add_zero, ← Nat.add_assoc] at k0 k1 k2 k3
  have H1 : Hid (BySl b w (.slice (some ⟨g, o, none⟩) xs.length cap) xs) := by
    have := BySl.take H.out (k := xs.length) (by omega)
    rw [List.take_left' rfl] at this
    exact this
  rw [hN] at H h2 ⊢
  obtain ⟨N, hN2⟩ : ∃ N, xs.length = N := ⟨_, rfl⟩
  have HN := hid hN2
  rw [hN2] at H h2 k0 k1 k2 k3 hl H1 ⊢
  have hm := more_lt 0 xs
  obtain ⟨s, hs⟩ : ∃ s, more 0 xs = s := ⟨_, rfl⟩
  have HS := hid hs
  rw [hs] at hm ⊢
  clear hs hN2 hat hc h7 h6 h4 h5 hN ht
  unfold maxLen at h3
  go_enter Tryz.func183, Tryz.ntmps183
  go_upto_region 6 with fail
  have hcN : ¬ cap = N := by omega
  have c12 : Hid (Calls Tryz.prog 176 #[.pointer (some ⟨b, 0, none⟩), .slice (some ⟨g, o, none⟩) N cap] w.drew fun e w1 => e = .returned (.int .u32 (s : Nat)) ∧ Hid (Kept b w w1) ∧ Hid (Tab w1 b 1 (wrap64 (n + N))) ∧ g < w1.heap.size ∧
      w1.cell? ⟨g, o + N, none⟩ = some (.int .u8 (y0 : Nat)) ∧ w1.cell? ⟨g, o + N + 1, none⟩ = some (.int .u8 (y1 : Nat)) ∧ w1.cell? ⟨g, o + N + 2, none⟩ = some (.int .u8 (y2 : Nat)) ∧ w1.cell? ⟨g, o + N + 3, none⟩ = some (.int .u8 (y3 : Nat))) := by
    have h := sum_any b f n (.slice (some ⟨g, o, none⟩) N cap) xs w.drew hf T.out H1.out
    refine h.mono ?_
    rw [HS.out, HN.out]
    rintro e w1 ⟨rfl, hk0, ht1⟩
    have hk1 : Kept b w w1 := ((Kept.refl b w).drew).trans hk0
    exact ⟨rfl, hk1, ht1, Nat.lt_of_lt_of_le hg hk1.size, (hk1.cell (p := ⟨g, o + N, none⟩) hg hgb).trans k0, (hk1.cell (p := ⟨g, o + N + 1, none⟩) hg hgb).trans k1, (hk1.cell (p := ⟨g, o + N + 2, none⟩) hg hgb).trans k2, (hk1.cell (p := ⟨g, o + N + 3, none⟩) hg hgb).trans k3⟩
  have c22 : Hid (∀ w1 : World, g < w1.heap.size → w1.cell? ⟨g, o + N, none⟩ = some (.int .u8 (y0 : Nat)) → w1.cell? ⟨g, o + N + 1, none⟩ = some (.int .u8 (y1 : Nat)) → w1.cell? ⟨g, o + N + 2, none⟩ = some (.int .u8 (y2 : Nat)) → w1.cell? ⟨g, o + N + 3, none⟩ = some (.int .u8 (y3 : Nat)) →
      Calls Tryz.prog 175 #[.int .u32 s] w1 fun e w2 => e = .returned (.agg #[.int .u8 ((s : Int) % 256), .int .u8 ((s : Int) / 256 % 256), .int .u8 ((s : Int) / 65536 % 256), .int .u8 ((s : Int) / 16777216)]) ∧ Hid (Below w1.heap.size w1 w2) ∧
        w2.cell? ⟨g, o + N, none⟩ = some (.int .u8 (y0 : Nat)) ∧ w2.cell? ⟨g, o + N + 1, none⟩ = some (.int .u8 (y1 : Nat)) ∧ w2.cell? ⟨g, o + N + 2, none⟩ = some (.int .u8 (y2 : Nat)) ∧ w2.cell? ⟨g, o + N + 3, none⟩ = some (.int .u8 (y3 : Nat))) := by
    intro w1 hg1 d0 d1 d2 d3
    refine (sumBytes_any s hm w1).mono ?_
    rintro e w2 ⟨rfl, hb⟩
    exact ⟨rfl, hb, (hb.cell (p := ⟨g, o + N, none⟩) hg1).trans d0, (hb.cell (p := ⟨g, o + N + 1, none⟩) hg1).trans d1, (hb.cell (p := ⟨g, o + N + 2, none⟩) hg1).trans d2, (hb.cell (p := ⟨g, o + N + 3, none⟩) hg1).trans d3⟩
  have hat : ∀ w, (Instr.arrayAt 268 (.slice (some ⟨g, o + N, none⟩) 4 (cap - N))).run Tryz.prog w = .ok (.pointer (some ⟨g, o + N, none⟩)) w := fun w => run_arrayAt w 268 5 4 _ 4 _ Tryz.underlying268 (Nat.le_refl _)
  have heq := fun w => eq62 ((s : Int) % 256) ((s : Int) / 256 % 256) ((s : Int) / 65536 % 256) ((s : Int) / 16777216) y0 y1 y2 y3 w
  have hE : Hid (((s : Int) % 256 == (y0 : Int) && (s : Int) / 256 % 256 == (y1 : Int) && (s : Int) / 65536 % 256 == (y2 : Int) && (s : Int) / 16777216 == (y3 : Int)) = decide (le4 s = [y0, y1, y2, y3])) := by
    rw [Hid, Bool.eq_iff_iff]
    simp [le4]
    omega
  generalize ((s : Int) % 256 == (y0 : Int) && (s : Int) / 256 % 256 == (y1 : Int) && (s : Int) / 65536 % 256 == (y2 : Int) && (s : Int) / 16777216 == (y3 : Int)) = E at heq hE
  go_cut [25] (fun c wx => c = .bool (!E) ∧ Hid (Kept b w wx) ∧ Hid (Tab wx b 1 (wrap64 (n + N))))
  case first =>
    go_region_with (first | (go_at_call 176; refine c12.out.mono ?_; rintro e w1 ⟨rfl, HK1, HT1, hg1, d0, d1, d2, d3⟩) | (go_at_call 175; refine (c22.out w1 hg1 d0 d1 d2 d3).mono ?_; rintro e w2 ⟨rfl, HB2, e0, e1, e2, e3⟩))
    all_goals (go_wp2_with fail; go_meet; exact ⟨rfl, HK1.out.trans (Kept.below HB2.out), HT1.out.below HB2.out⟩)
  case rest =>
    obtain ⟨rfl, HK, HT⟩ := hcut
    clear c12 c22 heq hat k0 k1 k2 k3
    cases E
    · go_wp2_with fail
      go_ret2
      exact ⟨HK.out, HT.out, _, _, rfl, .inr ⟨of_decide_eq_false hE.out.symm, rfl, rfl⟩⟩
    · go_wp2_with fail
      have hkb := HK.out
      refine (clone_any b _ xs _ HT.out.1 (H1.out.kept hkb) (by rw [HN.out]; omega)).mono ?_
      rintro e w3 ⟨v', rfl, hv, hb3⟩
      have HV := hid hv
      have HB3 := hid hb3
      clear hv hb3 hkb
      go_wp2_with fail
      go_ret2
      exact ⟨HK.out.trans (Kept.below HB3.out), HT.out.below HB3.out, _, _, rfl, .inl ⟨of_decide_eq_true hE.out.symm, rfl, HV.out⟩⟩

end Go.Proofs.YtkekajmmcjacgaaGreatDoor.Crc
end
