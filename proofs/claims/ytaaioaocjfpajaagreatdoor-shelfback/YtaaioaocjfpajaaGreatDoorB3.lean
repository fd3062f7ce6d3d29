/- Of the proof: the texts SimFile, SimSettle, SimSync, SimUp, SimUp2, PkName, TlvPlain, one behind the other. -/
import Derived.Test.YtaaioaocjfpajaaGreatDoorB2
import Derived.Laws.BitsAll
import Derived.Test.YtaaioaocjfpajaaGreatDoorB1
import Derived.Test.YtaaioaocjfpajaaGreatDoorSimShelf
import Derived.Lib.AtoiErrMem
import Derived.Lib.BitFns
section
/-
  A file is written: Append, Fsync, Flip.
-/
namespace Go.Proofs.YtaaioaocjfpajaaGreatDoor.Sim
open Go.RowKit Go.Maps

/-- A file's block, or its bytes', are written. -/
theorem rq_setF {P P' : Nat → Prop} {I J : PS → Prop} {W W' : World} {s b : Nat} {q : PS} {vs vf vc v' : Value} {u : Nat → Value} {f f' : Fl} (h : Rp P I W s q vs vf vc u) (hb : q.files b = some f)
    (K : Kp (fun k => k = b ∨ (u b).ownBlock = some k) W W') (hF : FileAt W' b v' f') (hv : ∀ k, v'.ownBlock = some k → (u b).ownBlock = some k ∨ W.heap.size ≤ k) (hPP : ∀ x, P x → P' x) (hlt : ∀ x, P' x → x < W'.heap.size) (hvP : ∀ k, v'.ownBlock = some k → P' k) (hi : J (setF b f' q)) :
    Rp P' J W' s (setF b f' q) vs vf vc (fun x => if x = b then v' else u x) ∧ Kp P W W' := by
  obtain ⟨hPb, hFb, hPu⟩ := h.file b f hb
  have nb : ∀ x t cs, Blk W x t cs → x ≠ b → t ≠ 5 → ¬ (x = b ∨ (u b).ownBlock = some x) := fun x t cs hx hne ht e => by
    rcases e with e | e
    · exact hne e
    · exact hFb.own.row.ne hx ht e
  have nm' : ∀ m l, MapAt W m l → ¬ (m = b ∨ (u b).ownBlock = some m) := fun m l hm e => by
    rcases e with e | e
    · exact hm.blk hFb.blk e
    · exact hm.row hFb.own.row e
  have KP : Kp P W W' := K.mono (fun x hx => by
    rcases hx with rfl | hx
    · exact .inl hPb
    · exact .inl (hPu x hx))
  refine ⟨?_, KP⟩
  exact {
    lt := hlt
    ps := hPP _ h.ps
    blk := h.blk.kp K (nb s _ _ h.blk (h.blk.ne hFb.blk (by decide)) (by decide))
    seen := by
      rcases h.seen with ⟨h1, h2⟩ | ⟨m, h1, h2⟩
      · exact .inl ⟨h1, h2⟩
      · exact .inr ⟨m, h1, h2.kp K (nm' m _ h2)⟩
    safe := by
      rcases h.safe with ⟨h1, h2⟩ | ⟨m, h1, h2⟩
      · exact .inl ⟨h1, h2⟩
      · exact .inr ⟨m, h1, h2.kp K (nm' m _ h2)⟩
    unmade := h.unmade
    mades := fun e => by obtain ⟨a, c, h1, h2, h3, h4, h5⟩ := h.mades e; exact ⟨a, c, h1, h2, h3, hPP _ h4, hPP _ h5⟩
    chg := h.chg.kp K (fun x hx e => by
      rcases e with e | e
      · exact h.chg.ne hFb.blk (by decide) (by rw [hx, e])
      · exact hFb.own.row.ne' h.chg (by decide) x e hx)
    pc := fun x hx => hPP _ (h.pc x hx)
    file := fun x g hg => by
      have hg' : (if x = b then some f' else q.files x) = some g := hg
      by_cases e : x = b
      · subst e
        rw [if_pos rfl] at hg' ⊢
        cases hg'
        exact ⟨hPP _ hPb, hF, hvP⟩
      · rw [if_neg e] at hg' ⊢
        obtain ⟨h1, h2, h3⟩ := h.file x g hg'
        exact ⟨hPP _ h1, h2.kp K (nb x _ _ h2.blk e (by decide)) (fun k hk e' => by
          rcases e' with e' | e'
          · exact h2.own.row.ne hFb.blk (by decide) (by rw [hk, e'])
          · exact h.sep b x f g hb hg' (Ne.symm e) k e' hk), fun k hk => hPP _ (h3 k hk)⟩
    sep := fun x y g g' hx hy hne k hk => by
      have hx' : (if x = b then some f' else q.files x) = some g := hx
      have hy' : (if y = b then some f' else q.files y) = some g' := hy
      by_cases ex : x = b
      · subst ex
        have ey : y ≠ x := Ne.symm hne
        rw [if_pos rfl] at hk
        rw [if_neg ey] at hy' ⊢
        rcases hv k hk with h1 | h1
        · exact h.sep x y f g' hb hy' hne k h1
        · intro e
          have := h.lt k ((h.file y g' hy').2.2 k e)
          omega
      · rw [if_neg ex] at hx' hk
        by_cases ey : y = b
        · subst ey
          rw [if_pos rfl]
          intro e
          rcases hv k e with h1 | h1
          · exact h.sep x y g f hx' hb hne k hk h1
          · have := h.lt k ((h.file x g hx').2.2 k hk)
            omega
        · rw [if_neg ey] at hy' ⊢
          exact h.sep x y g g' hx' hy' hne k hk
    inv := hi }

theorem rp_setF {P : Nat → Prop} {I : PS → Prop} {M : Nat} {W W' : World} {s b : Nat} {q : PS} {vs vf vc v' : Value} {u : Nat → Value} {f f' : Fl} (h : Rp P I W s q vs vf vc u) (hb : q.files b = some f)
    (K : Kp (fun k => k = b ∨ (u b).ownBlock = some k) W W') (hF : FileAt W' b v' f') (hv : ∀ k, v'.ownBlock = some k → (u b).ownBlock = some k ∨ W.heap.size ≤ k) (hi : PInv M (setF b f' q)) :
    Sys (Ext P W W') M W' s (setF b f' q) ∧ Kp P W W' := by
  obtain ⟨h1, h2⟩ := rq_setF (P' := Ext P W W') (J := PInv M) h hb K hF hv (fun x hx => .inl hx) (fun x hx => by
    rcases hx with hx | hx
    · exact Nat.lt_of_lt_of_le (h.lt x hx) K.size
    · exact hx.2) (fun k hk => by
    rcases hv k hk with h1 | h1
    · exact .inl ((h.file b f hb).2.2 k h1)
    · exact .inr ⟨h1, hF.own.row.lt k hk⟩) hi
  exact ⟨⟨vs, vf, vc, _, h1⟩, h2⟩

set_option maxHeartbeats 1000000 in
theorem fsync1_any (W : World) (x b : Nat) (a : Option Addr) (n cap m : Nat) (hx : W.cell? ⟨x, 0, none⟩ = some (.pointer (some ⟨b, 0, none⟩))) (hb : Blk W b 110 [.slice a n cap, .int .i64 (m : Int)]) :
    Calls Tryz.prog 143 #[.pointer (some ⟨x, 0, none⟩)] W fun e w' => e = .returned (.tuple #[]) ∧ ∃ W1, Kp No W W1 ∧ w' = W1.setCell ⟨b, 1, none⟩ (.int .i64 (n : Int)) := by
  have c0 : W.cell? ⟨b, 0, none⟩ = some (.slice a n cap) := hb.cell 0
  have c1 : W.cell? ⟨b, 1, none⟩ = some (.int .i64 (m : Int)) := hb.cell 1
  have f1 := hb.frozen 1
  clear hb
  go_enter Tryz.func143, Tryz.ntmps143
  go_wp2_with fail
  go_region
  all_goals
    go_wp2_with fail
    go_end0
    exact ⟨rfl, W.drew, (Kp.refl _ _).drew, rfl⟩

/-- A step that writes a file. -/
theorem step_file {P : Nat → Prop} {N : Nat} (w0 w : World) (s : Nat) (p : PS) (b : Nat) (f' : Fl) (hk0 : Kp No w0 w) (h : Sys P N w0 s p) (hN : N + 1 ≤ 1000) (fn : FuncId) (caps : Array Value) (ent : ∀ args w, (callFunc fn args).run Tryz.prog w = .ok (.enter fn args) w)
    (hc : ∀ W vs vf vc u, Kp (· = s) w W → Rp P (PInv (N + 1)) W s (tick p) vs vf vc u → Calls Tryz.prog fn caps W fun e w' => e = .returned (.tuple #[]) ∧ Sys (Ext P W w') (N + 1) w' s (setF b f' (tick p)) ∧ Kp P W w') :
    Calls Tryz.prog 77 #[.pointer (some ⟨s, 0, none⟩), .func (.func fn) #[] caps] w fun e w' => e = .returned (.int .i64 ((stp p (setF b f')).1 : Nat)) ∧ Done P (N + 1) w0 w' s (stp p (setF b f')).2 := by
  have hps := h.c.1
  cases hd : dead p with
  | true =>
    have e1 : stp p (setF b f') = (12, fall p) := by simp [stp, hd]
    rw [e1]
    refine (step_dead w s p (h.kept hk0) hd _).mono ?_
    rintro e w' ⟨rfl, hS, hk⟩
    exact ⟨rfl, P, hS.more (by omega) hN, (hk0.mono (fun _ h => h.elim)).trans hk (fun x hx => .inl (by subst hx; exact hps)), fun _ h => .inl h⟩
  | false =>
    have e1 : stp p (setF b f') = (0, setF b f' (tick p)) := by simp [stp, hd]
    rw [e1]
    refine step_live w s p (h.kept hk0) hd hN fn caps ent _ ?_
    rintro W kW ⟨vs, vf, vc, u, hR⟩
    refine (hc W vs vf vc u kW hR).mono ?_
    rintro e w' ⟨rfl, hS, hk⟩
    have kw : Kp P w0 W := (hk0.mono (fun _ h => h.elim)).trans kW (fun x hx => .inl (by subst hx; exact hps))
    refine ⟨rfl, _, hS, kw.trans hk (fun x hx => .inl hx), fun x hx => ?_⟩
    rcases hx with hx | hx
    · exact .inl hx
    · exact .inr (Nat.le_trans kw.size hx.1)

/-- The place of a box behind what a step has written. -/
theorem boxed {s : Nat} {w1 W : World} {v : Value} {t : TypeId} (hs : s < w1.heap.size) (k : Kp (· = s) (w1.alloc (.cells #[v] t)) W) : W.cell? ⟨w1.heap.size, 0, none⟩ = some v := by
  have := (Blk.new w1 t [v]).kp k (fun e => by omega)
  exact this.cell 0

set_option maxHeartbeats 1000000 in
theorem fsync_any {P : Nat → Prop} {N : Nat} (w : World) (s : Nat) (p : PS) (t : ByteArray) (ht : t.size ≤ 20000000) (h : Sys P N w s p) (hN : N + 1 ≤ 1000) :
    Calls Tryz.prog 108 #[.pointer (some ⟨s, 0, none⟩), .string t] w fun e w' => e = .returned (.int .i64 ((pFsync (nm t) p).1 : Nat)) ∧ Done P (N + 1) w w' s (pFsync (nm t) p).2 := by
  have HC := hid (find_any w s p t ht h)
  have hI := h.inv
  have H := hid h
  have hmk := hmf
  have hsl := h.c.2.1
  by_cases h0 : finds p (nm t) = 0
  · obtain ⟨b, hb⟩ := found_zero hI h0
    obtain ⟨_, hd, _⟩ := pBytes_of hb
    have hf := hI.hasFound hd
    have e1 : pFsync (nm t) p = stp p (setF b ⟨(fileAt p b).b, (fileAt p b).b.length⟩) := by simp [pFsync, h0, blockOf, hd]
    have HST : Hid (∀ w1, Kp No w w1 → Calls Tryz.prog 77 #[.pointer (some ⟨s, 0, none⟩), .func (.func 143) #[] #[.pointer (some ⟨w1.heap.size, 0, none⟩)]] (w1.alloc (.cells #[.pointer (some ⟨b, 0, none⟩)] 106)) fun e w' =>
        e = .returned (.int .i64 ((pFsync (nm t) p).1 : Nat)) ∧ Done P (N + 1) w w' s (pFsync (nm t) p).2) := by
      intro w1 hk
      rw [e1]
      refine step_file w _ s p b _ (hk.alloc _) h hN 143 _ (enters_of Tryz.func143 (by kernel_rfl) rfl) ?_
      intro W vs vf vc u kW hR
      obtain ⟨hPb, hFb, hPu⟩ := hR.file b _ hf
      obtain ⟨a, cap, hv, hle, _⟩ := hFb.own.shape
      have hblk := hFb.blk
      rw [hv] at hblk
      refine (fsync1_any W w1.heap.size b a _ cap _ (boxed (Nat.lt_of_lt_of_le hsl hk.size) kW) hblk).mono ?_
      rintro e w' ⟨rfl, W1, k1, rfl⟩
      have kK : Kp (fun k => k = b ∨ (u b).ownBlock = some k) W (W1.setCell ⟨b, 1, none⟩ (.int .i64 ((fileAt p b).b.length : Int))) := (k1.mono (fun _ h => h.elim)).setCell (p := ⟨b, 1, none⟩) (.inl (.inl rfl)) _
      have hS := rp_setF (f' := ⟨(fileAt p b).b, (fileAt p b).b.length⟩) (v' := u b) hR hf kK ?_ (fun k hk => .inl hk) (inv_setF hR.inv (show (fileAt p b).b.length ≤ 12000 * (N + 1) from hR.inv.lfile b (fileAt p b) hf))
      · exact ⟨rfl, hS.1, hS.2⟩
      · refine ⟨(hFb.blk.kp k1 (fun h => h)).setCell 1 _, ?_, hFb.byt, Nat.le_refl _⟩
        exact (hFb.own.kept k1).row.kp (Kp.set1 W1 b 1 _) (fun k hk e => hFb.own.row.ne hFb.blk (by decide) (by rw [hk, e]))
    rw [h0, hb] at HC
    have e0 : ptrV (some b) = .pointer (some ⟨b, 0, none⟩) := rfl
    rw [e0] at HC
    generalize pFsync (nm t) p = R at *
    clear e1 e0 hd hb h0 hI h hf
    go_enter Tryz.func108, Tryz.ntmps108
    go_wp2_with (first | (go_at_call 32; refine (HC.out).mono ?_; rintro e w1 ⟨rfl, h1⟩; have H1 := hid h1; clear h1) | (go_at_call 77; refine (HST.out w1 H1.out).mono ?_; rintro e w2 ⟨rfl, h2⟩; have H2 := hid h2; clear h2))
    go_ret
    exact ⟨rfl, H2.out⟩
  · have e1 : pFsync (nm t) p = (finds p (nm t), p) := by simp [pFsync, h0]
    have hn : foundP p (nm t) = none := by simp [foundP, h0]
    rw [e1]
    rw [hn] at HC
    have e0 : ptrV none = .pointer none := rfl
    rw [e0] at HC
    generalize finds p (nm t) = x at *
    have hne : ((x : Int) != 0) = true := by simp; omega
    clear e1 e0 hn h0 hI h
    go_enter Tryz.func108, Tryz.ntmps108
    go_wp2_with (go_at_call 32; refine (HC.out).mono ?_; rintro e w1 ⟨rfl, h1⟩; have H1 := hid h1; clear h1)
    go_ret
    exact ⟨rfl, (Done.of (H.out.more (by omega) hN) (Kp.refl _ _)).kept (H1.out.alloc _)⟩

/-! ### Append -/
set_option maxHeartbeats 4000000 in
theorem append1_any {Q : Nat → Prop} (W : World) (x y b : Nat) (v vb : Value) (bs ys : List Nat) (m : Nat) (hx : Blk W x 106 [.pointer (some ⟨b, 0, none⟩)]) (hy : Blk W y 54 [vb]) (hb : Blk W b 110 [v, .int .i64 (m : Int)]) (hv : OwnB W v bs) (hvb : ByP Q W vb ys) (hl : bs.length + ys.length ≤ 20000000) :
    Calls Tryz.prog 142 #[.pointer (some ⟨x, 0, none⟩), .pointer (some ⟨y, 0, none⟩)] W fun e w' => e = .returned (.tuple #[]) ∧ ∃ a' cap' W1, OwnB W1 (.slice a' (bs.length + ys.length) cap') (bs ++ ys) ∧ Kp (fun k => v.ownBlock = some k) W W1 ∧ ((Value.slice a' (bs.length + ys.length) cap').ownBlock = v.ownBlock ∨ (Value.slice a' (bs.length + ys.length) cap').ownBlock = some W.heap.size) ∧
      w' = W1.setCell ⟨b, 0, none⟩ (.slice a' (bs.length + ys.length) cap') := by
  have b0 : W.cell? ⟨x, 0, none⟩ = some (.pointer (some ⟨b, 0, none⟩)) := hx.cell 0
  have y0 : W.cell? ⟨y, 0, none⟩ = some vb := hy.cell 0
  have c0 : W.cell? ⟨b, 0, none⟩ = some v := hb.cell 0
  have f0 := hb.frozen 0
  have hxl := hx.lt
  have hyl := hy.lt
  have hbl := hb.lt
  have HOV := hid hv
  have HSR := hid hvb.src
  have hvx : Hid (v.ownBlock ≠ some x ∧ v.ownBlock ≠ some b) := ⟨hv.row.ne hx (by decide), hv.row.ne hb (by decide)⟩
  obtain ⟨a, cap, rfl, _⟩ := hv.shape
  obtain ⟨a1, cap1, rfl, _⟩ := hvb
  clear hx hy hb
  go_enter Tryz.func142, Tryz.ntmps142
  go_wp2_with fail
  go_region_law (refine step_app _ (by rfl) (.tmp 6) (.tmp 7) 54 5 (.int .u8 0) 1 1 (by rfl) Tryz.underlying54 Tryz.info5 rfl (by decide) (.slice a bs.length cap) (.slice a1 ys.length cap1) bs.length ys.length (cl bs) (cl ys) (by simp [Act.eval]) (by simp [Act.eval]) HOV.out.row HSR.out (by omega) (by decide) ?_; intro a2 cap2 w2 hr2 hg2 hb2; have HR2 := hid hr2; have HG2 := hid hg2; have HB2 := hid hb2; have z0 : w2.cell? ⟨b, 0, none⟩ = some (.slice a bs.length cap) := hg2.cell c0 (fun e => hvx.out.2 e.symm); have zf : w2.frozen? ⟨b, 0, none⟩ = false := ((Kp.ofGrown hg2).frozen (p := ⟨b, 0, none⟩) hbl (fun e => hvx.out.2 e)).trans f0; have zx : w2.cell? ⟨x, 0, none⟩ = some (.pointer (some ⟨b, 0, none⟩)) := hg2.cell b0 (fun e => hvx.out.1 e.symm); clear hr2 hg2 hb2)
  all_goals
    go_end0
    refine ⟨rfl, a2, cap2, w2, ?_, (Kp.refl _ _).drew.grown HG2.out (fun x hx => .inl hx), HB2.out, rfl⟩
    unfold OwnB
    rw [cl_append, List.length_append]
    exact HR2.out

theorem used_le {N : Nat} {p : PS} (hI : PInv N p) : used p ≤ 1000 * 12000000 := by
  have h := sumBy_le (fun b => (fileAt p b).b.length) 12000000 (fun _ => false) p.seen (fun e he => by
    obtain ⟨f, hf⟩ := Option.isSome_iff_exists.1 (hI.hasSeen e he).1
    have := hI.lfile _ f hf
    have := hI.big
    simp only [fileAt, hf, Option.getD_some]
    omega)
  rw [sumBy_end _ _ _ (fun _ => rfl)] at h
  exact Nat.le_trans h (Nat.mul_le_mul_right _ (Nat.le_trans hI.lseen hI.big))

set_option maxHeartbeats 2000000 in
theorem append_any {P Q : Nat → Prop} {N : Nat} (w : World) (s : Nat) (p : PS) (t : ByteArray) (vb : Value) (ys : List Nat) (ht : t.size ≤ 20000000) (h : Sys P N w s p) (hN : N + 1 ≤ 1000) (hy : ByP Q w vb ys) (hQ : ∀ x, Q x → ¬ P x) (hl : ys.length ≤ 12000) :
    Calls Tryz.prog 106 #[.pointer (some ⟨s, 0, none⟩), .string t, vb] w fun e w' => e = .returned (.int .i64 ((pAppend (nm t) ys p).1 : Nat)) ∧ Done P (N + 1) w w' s (pAppend (nm t) ys p).2 := by
  have hI := h.inv
  have H := hid h
  have hmk := hmf
  have hsl := h.c.2.1
  have hps := h.c.1
  have hul := used_le hI
  have hrl := hI.room
  have HY := hid hy
  have HQ := hid hQ
  obtain ⟨a, cap, rfl, hy1, hy2, _⟩ := hy
  have hc0 : Hid (∀ V, Kp No w V → V.cell? ⟨s, 0, none⟩ = some (.int .i64 (p.room : Int))) := fun V k => by
    obtain ⟨vs, vf, vc, u, hR⟩ := h
    exact (k.cell (p := ⟨s, 0, none⟩) hsl (fun h => h)).trans (hR.c 0)
  have HC : Hid (Calls Tryz.prog 32 #[.pointer (some ⟨s, 0, none⟩), .string t] (w.alloc (.cells #[.slice a ys.length cap] 54)) fun e w' => e = .returned (.tuple #[ptrV (foundP p (nm t)), .int .i64 (finds p (nm t) : Nat)]) ∧ Kp No (w.alloc (.cells #[.slice a ys.length cap] 54)) w') := find_any _ s p t ht (h.kept ((Kp.refl _ _).alloc _))
  have HU : Hid (∀ V, Kp No w V → Calls Tryz.prog 141 #[.pointer (some ⟨s, 0, none⟩)] V fun e w' => e = .returned (.int .i64 (used p : Nat)) ∧ Kp No V w') := fun V k => used_any V s p (h.kept k)
  by_cases h0 : finds p (nm t) = 0
  · obtain ⟨b, hb⟩ := found_zero hI h0
    obtain ⟨_, hd, _⟩ := pBytes_of hb
    have hf := hI.hasFound hd
    rw [h0, hb] at HC
    have e0 : ptrV (some b) = .pointer (some ⟨b, 0, none⟩) := rfl
    rw [e0] at HC
    have HST : Hid (used p + ys.length ≤ p.room → ∀ w1, Kp No (w.alloc (.cells #[.slice a ys.length cap] 54)) w1 → ∀ W0, Kp No (w1.alloc (.cells #[.pointer (some ⟨b, 0, none⟩)] 106)) W0 → Calls Tryz.prog 77 #[.pointer (some ⟨s, 0, none⟩), .func (.func 142) #[] #[.pointer (some ⟨w1.heap.size, 0, none⟩), .pointer (some ⟨w.heap.size, 0, none⟩)]] W0 fun e w' =>
        e = .returned (.int .i64 ((pAppend (nm t) ys p).1 : Nat)) ∧ Done P (N + 1) w w' s (pAppend (nm t) ys p).2) := by
      intro hroom w1 hk1 W0 hk0
      have e1 : pAppend (nm t) ys p = stp p (setF b ⟨(fileAt p b).b ++ ys, (fileAt p b).safe⟩) := by
        have : ¬ (used p + ys.length > p.room) := by omega
        simp [pAppend, h0, blockOf, hd, this]
      rw [e1]
      have kA : Kp No w w1 := ((Kp.refl _ _).alloc _).andNone hk1
      have kB : Kp No w W0 := (kA.alloc _).andNone hk0
      have hz : w.heap.size < w1.heap.size := by have := hk1.size; simp at this; omega
      refine step_file w W0 s p b _ kB h hN 142 _ (enters_of Tryz.func142 (by kernel_rfl) rfl) ?_
      intro W vs vf vc u kW hR
      obtain ⟨hPb, hFb, hPu⟩ := hR.file b _ hf
      have hx : Blk W w1.heap.size 106 [.pointer (some ⟨b, 0, none⟩)] := ((Blk.new w1 106 [.pointer (some ⟨b, 0, none⟩)]).kp hk0 (fun h => h)).kp kW (fun e => by omega)
      have hyb : Blk W w.heap.size 54 [.slice a ys.length cap] := ((((Blk.new w 54 [.slice a ys.length cap]).kp hk1 (fun h => h)).kp (L := No) ((Kp.refl _ _).alloc _) (fun h => h)).kp hk0 (fun h => h)).kp kW (fun e => by omega)
      have hby : ByP Q W (.slice a ys.length cap) ys := (HY.out.kept kB).kp kW (fun x hx _ hq => HQ.out x hq (by subst hx; exact hps))
      have hfl : (fileAt p b).b.length ≤ 12000 * N := hI.lfile b _ hf
      have hbig := hI.big
      refine (append1_any W w1.heap.size w.heap.size b (u b) _ (fileAt p b).b ys _ hx hyb hFb.blk hFb.own hby (by omega)).mono ?_
      rintro e w' ⟨rfl, a', cap', W1, ho, k1, hbl, rfl⟩
      have kK : Kp (fun k => k = b ∨ (u b).ownBlock = some k) W (W1.setCell ⟨b, 0, none⟩ (.slice a' ((fileAt p b).b.length + ys.length) cap')) := (k1.mono (fun x hx => .inl (.inr hx))).setCell (p := ⟨b, 0, none⟩) (.inl (.inl rfl)) _
      have hbn : (u b).ownBlock ≠ some b := hFb.own.row.ne hFb.blk (by decide)
      have hB1 := hFb.blk.kp k1 (fun e => hbn e)
      have hS := rp_setF (f' := ⟨(fileAt p b).b ++ ys, (fileAt p b).safe⟩) (v' := .slice a' ((fileAt p b).b.length + ys.length) cap') hR hf kK ?_ (fun k hk => ?_) (inv_setF hR.inv (by simp; omega))
      · exact ⟨rfl, hS.1, hS.2⟩
      · refine ⟨hB1.setCell 0 _, ?_, fun x hx => ?_, by have := hFb.le; simp; omega⟩
        · exact ho.row.kp (Kp.set1 W1 b 0 _) (fun k hk e => ho.row.ne hB1 (by decide) (by rw [hk, e]))
        · rcases List.mem_append.1 hx with hx | hx
          · exact hFb.byt x hx
          · obtain ⟨_, _, _, _, _, _, _, h6, _⟩ := hby
            exact h6 x hx
      · rcases hbl with h1 | h1
        · rw [h1] at hk; exact .inl hk
        · rw [h1] at hk; simp at hk; exact .inr (by omega)
    have hbx : Hid (∀ V, Kp No (w.alloc (.cells #[.slice a ys.length cap] 54)) V → V.cell? ⟨w.heap.size, 0, none⟩ = some (.slice a ys.length cap)) := fun V k => ((Blk.new w 54 [.slice a ys.length cap]).kp k (fun h => h)).cell 0
    have hS0 : Hid (Kp No w (w.alloc (.cells #[.slice a ys.length cap] 54))) := (Kp.refl _ _).alloc _
    have e1 : used p + ys.length > p.room → pAppend (nm t) ys p = (11, p) := fun hr => by simp [pAppend, h0, hr]
    have HE := hid e1
    generalize pAppend (nm t) ys p = R at *
    clear e1 e0 hd hb h0 hI h hf
    generalize used p = U at *
    go_enter Tryz.func106, Tryz.ntmps106
    go_wp2_with (go_at_call 32; refine (HC.out).mono ?_; rintro e w1 ⟨rfl, h1⟩; have H1 := hid h1; clear h1)
    have kW : Hid (Kp No (w.alloc (.cells #[.slice a ys.length cap] 54)) (w1.alloc (.cells #[.pointer (some ⟨b, 0, none⟩)] 106))) := H1.out.alloc _
    have kWw : Hid (Kp No w (w1.alloc (.cells #[.pointer (some ⟨b, 0, none⟩)] 106))) := hS0.out.andNone kW.out
    have HST1 : Hid (U + ys.length ≤ p.room → ∀ W0, Kp No (w1.alloc (.cells #[.pointer (some ⟨b, 0, none⟩)] 106)) W0 → Calls Tryz.prog 77 #[.pointer (some ⟨s, 0, none⟩), .func (.func 142) #[] #[.pointer (some ⟨w1.heap.size, 0, none⟩), .pointer (some ⟨w.heap.size, 0, none⟩)]] W0 fun e w' =>
        e = .returned (.int .i64 (R.1 : Nat)) ∧ Done P (N + 1) w w' s R.2) := fun hr => HST.out hr w1 H1.out
    generalize hWx : w1.alloc (.cells #[.pointer (some ⟨b, 0, none⟩)] 106) = Wx at *
    clear hWx
    have r0 : ∀ V, Kp No Wx V → V.cell? ⟨w.heap.size, 0, none⟩ = some (.slice a ys.length cap) := fun V k => hbx.out V (kW.out.andNone k)
    have r1 : ∀ V, Kp No Wx V → V.cell? ⟨s, 0, none⟩ = some (.int .i64 (p.room : Int)) := fun V k => hc0.out V (kWw.out.andNone k)
    have hwr : IntKind.i64.wrap ((p.room : Int) - (U : Int)) = (p.room : Int) - (U : Int) := by rw [IntKind.wrap_i64]; omega
    by_cases hroom : U + ys.length ≤ p.room
    · have hle : ¬ ((p.room : Int) - (U : Int) < (ys.length : Int)) := by omega
      go_region_held3 (fun V => Kp No Wx V) (first | (with_reducible exact Kp.refl _ _) | (with_reducible exact (Kp.refl _ _).drew) | (with_reducible exact HK1.out)) (first | (go_at_call 141; refine (HU.out _ ?_).mono ?_; (with_reducible exact kWw.out.drew); rintro e w2 ⟨rfl, hk1⟩; have HK1 : Hid (Kp No Wx w2) := (Kp.refl _ _).drew.andNone hk1; clear hk1))
      go_wp2_with (go_at_call 77; refine (HST1.out hroom w2 HK1.out).mono ?_; rintro e w3 ⟨rfl, h3⟩; have H3 := hid h3; clear h3)
      go_ret
      exact ⟨rfl, H3.out⟩
    · have hgt : (p.room : Int) - (U : Int) < (ys.length : Int) := by omega
      have hR := HE.out (by omega)
      subst hR
      go_region_held3 (fun V => Kp No Wx V) (first | (with_reducible exact Kp.refl _ _) | (with_reducible exact (Kp.refl _ _).drew) | (with_reducible exact HK1.out)) (first | (go_at_call 141; refine (HU.out _ ?_).mono ?_; (with_reducible exact kWw.out.drew); rintro e w2 ⟨rfl, hk1⟩; have HK1 : Hid (Kp No Wx w2) := (Kp.refl _ _).drew.andNone hk1; clear hk1))
      go_wp2
      go_ret
      exact ⟨rfl, (Done.of (H.out.more (by omega) hN) (Kp.refl _ _)).kept (kWw.out.andNone HK1.out)⟩
  · have e1 : pAppend (nm t) ys p = (finds p (nm t), p) := by simp [pAppend, h0]
    have hn : foundP p (nm t) = none := by simp [foundP, h0]
    rw [e1]
    rw [hn] at HC
    have e0 : ptrV none = .pointer none := rfl
    rw [e0] at HC
    generalize finds p (nm t) = x at *
    have hne : ((x : Int) != 0) = true := by simp; omega
    clear e1 e0 hn h0 hI h
    go_enter Tryz.func106, Tryz.ntmps106
    go_wp2_with (go_at_call 32; refine (HC.out).mono ?_; rintro e w1 ⟨rfl, h1⟩; have H1 : Hid (Kp No w w1) := ((Kp.refl _ _).alloc _).andNone h1; clear h1)
    go_ret
    exact ⟨rfl, (Done.of (H.out.more (by omega) hN) (Kp.refl _ _)).kept (H1.out.alloc _)⟩

end Go.Proofs.YtaaioaocjfpajaaGreatDoor.Sim
end

section
/-
  Flip; settle, SyncDir, Arm, New.
-/
namespace Go.Proofs.YtaaioaocjfpajaaGreatDoor.Sim
open Go.RowKit Go.Maps
/-! ### settle -/
set_option maxHeartbeats 2000000 in
/-- settle, told by what it does to the blocks. -/
theorem settle_raw {P : Nat → Prop} {I : PS → Prop} (W : World) (s : Nat) (q : PS) (vs vc : Value) (mo : Option Nat) (u : Nat → Value) (n : Nat) (h : Rp P I W s q vs (.map mo) vc u) (hn : n ≤ q.chg.length) (hok : okcs q.safe q.chg) (hnm : ∀ c ∈ q.chg, c.nm.length ≤ 40 ∧ c.to.length ≤ 40) (hl : q.safe.length ≤ 1000) (hc : q.chg.length ≤ 1000) (hnm2 : q.made = false → q.chg = [] ∧ q.safe = []) :
    Calls Tryz.prog 39 #[.pointer (some ⟨s, 0, none⟩), .int .i64 (n : Int)] W fun e w' => e = .returned (.tuple #[]) ∧ ∃ W1, MapV W1 (.map mo) ((q.chg.take n).foldl pdo q.safe) ∧ Kp (fun k => mo = some k) W W1 ∧ w' = W1.setCell ⟨s, 3, none⟩ (.slice none 0 0) := by
  have hsl := h.lt s h.ps
  have c2 : W.cell? ⟨s, 2, none⟩ = some (.map mo) := h.c 2
  have c3 : W.cell? ⟨s, 3, none⟩ = some vc := h.c 3
  have f3 := h.blk.frozen 3
  obtain ⟨a, cap, hv, hle, hcap, hnil, hsp⟩ := h.chg.shape
  have hch : ChAt W (.slice a n cap) (q.chg.take n) := by
    have := h.chg.chAt (by omega)
    rw [hv] at this
    exact this.front n hn
  subst hv
  have hsm : ∀ k, mo = some k → s ≠ k := fun k e => by
    rcases h.safe with ⟨h1, _⟩ | ⟨b, h1, h2⟩
    · rw [e] at h1; cases h1
    · rw [e] at h1; cases h1; exact Ne.symm (h2.blk h.blk)
  have HD : Hid (Calls Tryz.prog 66 #[.map mo, .slice a n cap] W.drew fun e w' => e = .returned (.tuple #[]) ∧ MapV w' (.map mo) ((q.chg.take n).foldl pdo q.safe) ∧ Kp (fun k => mo = some k) W w') := by
    rcases h.safe with ⟨h1, h2⟩ | ⟨b, h1, h2⟩
    · have hq : q.chg = [] := by
        cases hm : q.made with
        | false => exact (hnm2 hm).1
        | true => obtain ⟨a, b, _, hb, _⟩ := h.mades hm; rw [h1] at hb; cases hb
      rw [hq] at hch ⊢
      refine (do_none (.map mo) W.drew _ (show ChAt W _ [] by simpa using hch)).mono ?_
      rintro e w' ⟨rfl, rfl⟩
      exact ⟨rfl, .inl ⟨h1, by simpa using h2⟩, (Kp.refl _ _).drew⟩
    · cases h1
      have hok' : okcs q.safe (q.chg.take n) := by
        have := hok
        rw [← List.take_append_drop n q.chg, okcs_append] at this
        exact this.1
      refine (do_any W.drew b q.safe _ (q.chg.take n) (h2.kp (L := No) (Kp.refl _ _).drew (fun h => h)) (by
        obtain ⟨a', cap', e, r1, r2, r3, r4⟩ := hch
        exact ⟨a', cap', e, r1, r2, r3, r4⟩) hok' (fun c hc' => by have := hnm c (List.mem_of_mem_take hc'); omega) (by have := List.length_take_le n q.chg; omega)).mono ?_
      rintro e w' ⟨rfl, r1, r2⟩
      exact ⟨rfl, .inr ⟨b, rfl, r1⟩, ((Kp.refl _ _).drew).trans r2 (fun x hx => .inl (by rw [hx]))⟩
  have HSM := hid hsm
  have hnc : (n : Int) ≤ (cap : Int) := by omega
  clear h hok hnm hnm2 hch hsm hsp hnil
  have hnq : n ≤ cap := by omega
  go_enter Tryz.func39, Tryz.ntmps39
  go_wp2_with fail
  have r2 : ∀ V, Kp (fun k => mo = some k) W V → V.cell? ⟨s, 2, none⟩ = some (.map mo) := fun V k => (k.cell (p := ⟨s, 2, none⟩) hsl (fun e => HSM.out s e rfl)).trans c2
  have r3 : ∀ V, Kp (fun k => mo = some k) W V → V.cell? ⟨s, 3, none⟩ = some (.slice a q.chg.length cap) := fun V k => (k.cell (p := ⟨s, 3, none⟩) hsl (fun e => HSM.out s e rfl)).trans c3
  have g3 : ∀ V, Kp (fun k => mo = some k) W V → V.frozen? ⟨s, 3, none⟩ = false := fun V k => (k.frozen (p := ⟨s, 3, none⟩) hsl (fun e => HSM.out s e rfl)).trans f3
  go_region_held3 (fun V => Kp (fun k => mo = some k) W V) (first | (with_reducible exact Kp.refl _ _) | (with_reducible exact (Kp.refl _ _).drew) | (with_reducible exact HK1.out)) (first | (go_at_call 66; refine (HD.out).mono ?_; rintro e w1 ⟨rfl, hm1, hk1⟩; have HM1 := hid hm1; have HK1 := hid hk1; clear hm1 hk1))
  have z3 := r3 _ HK1.out
  have y3 := g3 _ HK1.out
  clear r2 r3 g3
  go_wp2
  go_end0
  exact ⟨rfl, w1, HM1.out, HK1.out, rfl⟩

end Go.Proofs.YtaaioaocjfpajaaGreatDoor.Sim
end

section
/-
  SyncDir, Arm, New.
-/
namespace Go.Proofs.YtaaioaocjfpajaaGreatDoor.Sim
open Go.RowKit Go.Maps

theorem rq_settle {P : Nat → Prop} {I J : PS → Prop} {W W1 w' : World} {s : Nat} {q : PS} {vs vc : Value} {mo : Option Nat} {u : Nat → Value} {d : Dir} (h : Rp P I W s q vs (.map mo) vc u) (hm : MapV W1 (.map mo) d) (hk : Kp (fun k => mo = some k) W W1)
    (hw : w' = W1.setCell ⟨s, 3, none⟩ (.slice none 0 0)) (hi : J { q with safe := d, chg := [] }) : Rp P J w' s { q with safe := d, chg := [] } vs (.map mo) (.slice none 0 0) u ∧ Kp P W w' := by
  have hmP : ∀ k, mo = some k → P k := fun k e => h.mapS.2 k (by rw [e])
  have hmA : ∀ k, mo = some k → MapAt W k q.safe := fun k e => by
    rcases h.safe with ⟨h1, _⟩ | ⟨b, h1, h2⟩
    · rw [e] at h1; cases h1
    · rw [e] at h1; cases h1; exact h2
  have nb : ∀ x t cs, Blk W x t cs → ¬ (mo = some x) := fun x t cs hx e => (hmA x e).blk hx rfl
  have nr : ∀ {e : TypeId} {sz n : Nat} {v : Value} {xs : List Value}, Row W e sz v n xs → ∀ x, v.ownBlock = some x → ¬ (mo = some x) := fun hrow x hx e => (hmA x e).row hrow hx
  have hs1 := h.blk.kp hk (nb s _ _ h.blk)
  have kset : Kp (· = s) W1 w' := by rw [hw]; exact Kp.set1 _ _ _ _
  have K : Kp (fun k => k = s ∨ mo = some k) W w' := (hk.mono (fun x hx => .inl (.inr hx))).trans kset (fun x hx => .inl (.inl hx))
  refine ⟨?_, K.mono (fun x hx => by
    rcases hx with rfl | hx
    · exact .inl h.ps
    · exact .inl (hmP x hx))⟩
  exact {
    lt := fun x hx => Nat.lt_of_lt_of_le (h.lt x hx) K.size
    ps := h.ps
    blk := by rw [hw]; exact hs1.setCell 3 (.slice none 0 0)
    seen := by
      rcases h.seen with ⟨h1, h2⟩ | ⟨b, h1, h2⟩
      · exact .inl ⟨h1, h2⟩
      · refine .inr ⟨b, h1, h2.kp K (fun e => ?_)⟩
        rcases e with e | e
        · exact h2.blk h.blk e
        · have hmade : q.made = true := by
            cases hmd : q.made with
            | true => rfl
            | false => have := (h.unmade hmd).1; rw [h1] at this; cases this
          obtain ⟨a, c, ha, hc, hac, _⟩ := h.mades hmade
          rw [h1] at ha
          cases ha
          rw [e] at hc
          cases hc
          exact hac rfl
    safe := by
      rcases hm with ⟨h1, h2⟩ | ⟨b, h1, h2⟩
      · exact .inl ⟨h1, h2⟩
      · exact .inr ⟨b, h1, h2.kp kset (h2.blk hs1)⟩
    unmade := h.unmade
    mades := h.mades
    chg := Row.nil _ _ _
    pc := by simp [Value.ownBlock]
    file := fun b f hf => by
      obtain ⟨h1, h2, h3⟩ := h.file b f hf
      refine ⟨h1, h2.kp K (fun e => ?_) (fun x hx e => ?_), h3⟩
      · rcases e with e | e
        · exact h2.blk.ne h.blk (by decide) e
        · exact nb b _ _ h2.blk e
      · rcases e with e | e
        · exact h2.own.row.ne h.blk (by decide) (by rw [hx, e])
        · exact nr h2.own.row x hx e
    sep := h.sep
    inv := hi }

/-- A prefix of the changes done to the safe directory. -/
theorem fold_names {N : Nat} {p : PS} (h : PInv N p) (n : Nat) : ∀ e ∈ (p.chg.take n).foldl pdo p.safe, (p.files e.2).isSome = true ∧ e.1.length ≤ 40 :=
  fold_has (F := fun b => (p.files b).isSome = true) (M := fun n => n.length ≤ 40) (p.chg.take n) p.safe (by
    have := h.okc
    rw [← List.take_append_drop n p.chg, okcs_append] at this
    exact this.1) (fun e he => ⟨h.has e he, h.nmS e he⟩) (fun c hc => by have hc := List.mem_of_mem_take hc; exact ⟨h.hasC c hc, (h.nmC c hc).1, (h.nmC c hc).2⟩)

/-! ### No file stands twice -/
def vals (d : Dir) : List Nat := d.map (·.2)
def mades (l : List PC) : List Nat := (l.filter (fun c => c.kind == 0)).map (·.file)
theorem perm_dins (x : Nm × Nat) : ∀ l : Dir, (dins x l).Perm (x :: l)
  | [] => List.Perm.refl _
  | y :: r => by
    unfold dins
    split
    · exact List.Perm.refl _
    · exact ((perm_dins x r).cons y).trans (List.Perm.swap x y r)
theorem nodup_del {d : Dir} {n : Nm} {l : List Nat} (h : (vals d ++ l).Nodup) : (vals (ddel d n) ++ l).Nodup := by
  refine h.sublist (List.Sublist.append ?_ (List.Sublist.refl _))
  exact List.Sublist.map _ List.filter_sublist
theorem nodup_put {d : Dir} {n : Nm} {f : Nat} {l : List Nat} (h : (vals d ++ (f :: l)).Nodup) : (vals (dput d n f) ++ l).Nodup := by
  have h1 := nodup_del (n := n) h
  have h2 : (vals (dput d n f)).Perm (f :: vals (ddel d n)) := (perm_dins (n, f) (ddel d n)).map _
  refine ((h2.append_right l).nodup_iff).2 ?_
  have h3 : (vals (ddel d n) ++ (f :: l)).Perm (f :: vals (ddel d n) ++ l) := List.perm_middle
  exact h3.nodup_iff.1 h1
theorem vals_moved {d : Dir} (hk : (d.map (·.1)).Nodup) {n : Nm} {b : Nat} (h : dfind d n = some b) : (vals d).Perm (b :: vals (ddel d n)) := by
  have hm := mem_of_dfind h
  have : d.Perm ((n, b) :: ddel d n) := by
    induction d with
    | nil => simp at hm
    | cons x r ih =>
      rw [List.map_cons, List.nodup_cons] at hk
      by_cases e : x.1 = n
      · have hx : x = (n, b) := by
          rcases List.mem_cons.1 hm with h1 | h1
          · exact h1.symm
          · exact absurd (List.mem_map.2 ⟨_, h1, e.symm⟩) hk.1
        have hr : ddel r n = r := by
          unfold ddel
          rw [List.filter_eq_self]
          intro y hy
          have : y.1 ≠ n := fun e' => hk.1 (List.mem_map.2 ⟨y, hy, by rw [e', e]⟩)
          simpa using this
        have hd : ddel (x :: r) n = ddel r n := by unfold ddel; rw [List.filter_cons]; simp [e]
        rw [hd, hr, hx]
      · have hd : ddel (x :: r) n = x :: ddel r n := by unfold ddel; rw [List.filter_cons]; simp [e]
        rw [hd]
        have hm' : (n, b) ∈ r := by
          rcases List.mem_cons.1 hm with h1 | h1
          · exact absurd (by rw [← h1]) e
          · exact h1
        have hf : dfind r n = some b := dfind_of_mem hk.2 hm'
        exact ((ih hk.2 hf hm').cons x).trans (List.Perm.swap (n, b) x _)
  exact this.map _
theorem nodup_pdo {d : Dir} {c : PC} {l : List PC} (hr : Ris d) (hok : okc d c) (h : (vals d ++ mades (c :: l)).Nodup) : (vals (pdo d c) ++ mades l).Nodup := by
  unfold pdo
  split
  · rename_i hk
    have e : mades (c :: l) = c.file :: mades l := by simp [mades, hk]
    rw [e] at h
    exact nodup_put h
  · rename_i hk0
    have e : mades (c :: l) = mades l := by simp [mades, hk0]
    rw [e] at h
    split
    · exact nodup_del h
    · rename_i hk1
      have hk : c.kind = 2 := by have := hok.1; omega
      obtain ⟨b, hb⟩ := Option.isSome_iff_exists.1 (hok.2 hk)
      rw [hb]
      have hp := vals_moved hr.nodup hb
      refine nodup_put ?_
      have h3 : (vals (ddel d c.nm) ++ (b :: mades l)).Perm (vals d ++ mades l) := List.perm_middle.trans (hp.symm.append_right _)
      exact h3.nodup_iff.2 h
theorem nodup_fold : ∀ (l m : List PC) (d : Dir), Ris d → okcs d l → (vals d ++ mades (l ++ m)).Nodup → (vals (l.foldl pdo d) ++ mades m).Nodup
  | [], _, _, _, _, h => h
  | c :: r, m, d, hr, hok, h => nodup_fold r m (pdo d c) (hr.pdo c) hok.2 (nodup_pdo hr hok.1 h)
/-- All changes are settled. -/
theorem inv_settle {N : Nat} {p : PS} (h : PInv N p) (hr : Ris p.safe) : PInv N { p with safe := p.chg.foldl pdo p.safe, chg := [] } :=
  { h with
    seen_eq := h.seen_eq
    okc := trivial
    has := fun e he => ((h.seen_eq ▸ h.hasSeen) e he).1
    hasC := fun c hc => by simp at hc
    nodup := by
      have := nodup_fold p.chg [] p.safe hr h.okc (by simpa [vals, mades] using h.nodup)
      simpa [vals, mades] using this
    nmS := fun e he => ((h.seen_eq ▸ h.hasSeen) e he).2
    nmC := fun c hc => by simp at hc
    nmade := fun e => by obtain ⟨h1, h2⟩ := h.nmade e; exact ⟨rfl, by rw [h1, h2]; rfl⟩
    lsum := by have := h.lsum; have := length_fold p.chg p.safe; show (p.chg.foldl pdo p.safe).length + 0 ≤ N; omega }
theorem MapV.ris {w : World} {v : Value} {l : Dir} (h : MapV w v l) : Ris l := by
  rcases h with ⟨_, rfl⟩ | ⟨b, _, h⟩
  · exact List.Pairwise.nil
  · exact h.ris
theorem MapV.shape {w : World} {v : Value} {l : Dir} (h : MapV w v l) : ∃ mo, v = .map mo := by
  rcases h with ⟨h1, _⟩ | ⟨b, h1, _⟩
  · exact ⟨_, h1⟩
  · exact ⟨_, h1⟩

set_option maxHeartbeats 1000000 in
theorem syncdir1_any (W : World) (x s n : Nat) (vc : Value) (hx : W.cell? ⟨x, 0, none⟩ = some (.pointer (some ⟨s, 0, none⟩))) (h3 : W.cell? ⟨s, 3, none⟩ = some vc) (hv : ∃ a cap, vc = .slice a n cap) (T : World → Prop)
    (hC : ∀ V, Kp No W V → Calls Tryz.prog 39 #[.pointer (some ⟨s, 0, none⟩), .int .i64 (n : Int)] V fun e w' => e = .returned (.tuple #[]) ∧ T w') :
    Calls Tryz.prog 78 #[.pointer (some ⟨x, 0, none⟩)] W fun e w' => e = .returned (.tuple #[]) ∧ T w' := by
  obtain ⟨a, cap, rfl⟩ := hv
  have HC : Hid (Calls Tryz.prog 39 #[.pointer (some ⟨s, 0, none⟩), .int .i64 (n : Int)] W.drew fun e w' => e = .returned (.tuple #[]) ∧ T w') := hC _ (Kp.refl _ _).drew
  clear hC
  go_enter Tryz.func78, Tryz.ntmps78
  go_wp2_with fail
  go_region_with (go_at_call 39; refine (HC.out).mono ?_; rintro e w1 ⟨rfl, h1⟩; have H1 := hid h1; clear h1)
  all_goals
    go_wp2
    go_end0
    exact ⟨rfl, H1.out⟩

set_option maxHeartbeats 1000000 in
theorem syncdir_any {P : Nat → Prop} {N : Nat} (w : World) (s : Nat) (p : PS) (h : Sys P N w s p) (hN : N + 1 ≤ 1000) :
    Calls Tryz.prog 50 #[.pointer (some ⟨s, 0, none⟩)] w fun e w' => e = .returned (.int .i64 ((pSyncDir p).1 : Nat)) ∧ Done P (N + 1) w w' s (pSyncDir p).2 := by
  obtain ⟨hps, hsl, q4, _⟩ := h.c
  have hI := h.inv
  have H := hid h
  have hmk := hmf
  have HC : Hid (Calls Tryz.prog 38 #[.pointer (some ⟨s, 0, none⟩), .slice none 0 0] (w.alloc (.cells #[.pointer (some ⟨s, 0, none⟩)] 25)) fun e w' => e = .returned (.int .i64 (wrongs p [] : Nat)) ∧ Kp No (w.alloc (.cells #[.pointer (some ⟨s, 0, none⟩)] 25)) w') := by
    refine (wrong_any s _ [] p.down _ ?_ (NsAt.none _)).mono ?_
    · exact (((Kp.refl No w).alloc _).cell (p := ⟨s, 4, none⟩) hsl (fun h => h.elim)).trans q4
    · rintro e w' ⟨rfl, hk⟩
      exact ⟨rfl, hk⟩
  have hbx : Hid (∀ V, Kp No (w.alloc (.cells #[.pointer (some ⟨s, 0, none⟩)] 25)) V → V.cell? ⟨w.heap.size, 0, none⟩ = some (.pointer (some ⟨s, 0, none⟩))) := fun V k => ((Blk.new w 25 [.pointer (some ⟨s, 0, none⟩)]).kp k (fun h => h)).cell 0
  have q0 := hbx.out _ (Kp.refl _ _)
  have ka : Hid (Kp No w (w.alloc (.cells #[.pointer (some ⟨s, 0, none⟩)] 25))) := (Kp.refl _ _).alloc _
  by_cases hw : wrongs p [] = 0
  · have e1 : pSyncDir p = stp p (settle p.chg.length) := by simp [pSyncDir, hw]
    have HST : Hid (∀ w1, Kp No (w.alloc (.cells #[.pointer (some ⟨s, 0, none⟩)] 25)) w1 → Calls Tryz.prog 77 #[.pointer (some ⟨s, 0, none⟩), .func (.func 78) #[] #[.pointer (some ⟨w.heap.size, 0, none⟩)]] w1 fun e w' =>
        e = .returned (.int .i64 ((pSyncDir p).1 : Nat)) ∧ Done P (N + 1) w w' s (pSyncDir p).2) := by
      intro w1 hk
      have k0 := ka.out.andNone hk
      rw [e1]
      cases hd : dead p with
      | true =>
        have e2 : stp p (settle p.chg.length) = (12, fall p) := by simp [stp, hd]
        rw [e2]
        refine (step_dead w1 s p (h.kept k0) hd _).mono ?_
        rintro e w' ⟨rfl, hS, hk2⟩
        exact ⟨rfl, P, hS.more (by omega) hN, (k0.mono (fun _ h => h.elim)).trans hk2 (fun x hx => .inl (by subst hx; exact hps)), fun _ h => .inl h⟩
      | false =>
        have e2 : stp p (settle p.chg.length) = (0, settle p.chg.length (tick p)) := by simp [stp, hd]
        rw [e2]
        refine step_live w1 s p (h.kept k0) hd hN 78 _ (enters_of Tryz.func78 (by kernel_rfl) rfl) _ ?_
        rintro W kW ⟨vs, vf, vc, u, hR⟩
        obtain ⟨mo, rfl⟩ := hR.safe.shape
        obtain ⟨a, cap, hv, _⟩ := hR.chg.shape
        have hxW : W.cell? ⟨w.heap.size, 0, none⟩ = some (.pointer (some ⟨s, 0, none⟩)) := (kW.cell (p := ⟨w.heap.size, 0, none⟩) (by show w.heap.size < w1.heap.size; have := hk.size; simp at this; omega) (by show ¬ (w.heap.size = s); omega)).trans (hbx.out w1 hk)
        have kw : Kp P w W := (k0.mono (fun _ h => h.elim)).trans kW (fun x hx => .inl (by subst hx; exact hps))
        refine syncdir1_any W w.heap.size s p.chg.length vc hxW (hR.c 3) ⟨a, cap, hv⟩ _ ?_
        intro V kV
        have hRV := hR.kp kV (fun _ h => h.elim)
        have hIT := hRV.inv
        have hbig := hIT.big
        refine (settle_raw V s (tick p) vs vc mo u p.chg.length hRV (Nat.le_refl _) hIT.okc hIT.nmC (by have := hIT.lsafe; omega) (by have := hIT.lchg; omega) hIT.nmade).mono ?_
        rintro e w' ⟨rfl, W1, hm1, hk1, hw1⟩
        have htk : (tick p).chg.take p.chg.length = p.chg := List.take_of_length_le (Nat.le_refl _)
        rw [htk] at hm1
        obtain ⟨hS, hK⟩ := rq_settle (J := PInv (N + 1)) hRV hm1 hk1 hw1 (inv_settle hIT hRV.safe.ris)
        have hst : settle p.chg.length (tick p) = { (tick p) with safe := p.chg.foldl pdo p.safe, chg := [] } := by
          show ({ (tick p) with safe := (p.chg.take p.chg.length).foldl pdo p.safe, chg := [] } : PS) = _
          rw [List.take_of_length_le (Nat.le_refl _)]
        rw [hst]
        exact ⟨rfl, P, ⟨vs, _, _, u, hS⟩, (kw.andNone kV).trans hK (fun x hx => .inl hx), fun _ h => .inl h⟩
    rw [hw] at HC
    generalize pSyncDir p = R at *
    clear e1 hw hI h q4
    go_enter Tryz.func50, Tryz.ntmps50
    go_wp2_with (first | (go_at_call 38; refine (HC.out).mono ?_; rintro e w1 ⟨rfl, h1⟩; have H1 := hid h1; have q1 := hbx.out w1 h1; clear h1) | (go_at_call 77; refine (HST.out w1 H1.out).mono ?_; rintro e w2 ⟨rfl, h2⟩; have H2 := hid h2; clear h2))
    go_ret
    exact ⟨rfl, H2.out⟩
  · have e1 : pSyncDir p = (wrongs p [], p) := by simp [pSyncDir, hw]
    rw [e1]
    generalize wrongs p [] = x at *
    have hne : ((x : Int) != 0) = true := by simp; omega
    clear e1 hw hI h q4
    go_enter Tryz.func50, Tryz.ntmps50
    go_wp2_with (go_at_call 38; refine (HC.out).mono ?_; rintro e w1 ⟨rfl, h1⟩; have H1 := hid h1; clear h1)
    go_ret
    exact ⟨rfl, (Done.of (H.out.more (by omega) hN) (Kp.refl _ _)).kept (ka.out.andNone H1.out)⟩

set_option maxHeartbeats 1000000 in
theorem arm_any {P : Nat → Prop} {N : Nat} (w : World) (s : Nat) (p : PS) (k : Int) (hk : k ≤ 9223372036854775807) (h : Sys P N w s p) (hN : N + 1 ≤ 1000) :
    Calls Tryz.prog 18 #[.pointer (some ⟨s, 0, none⟩), .int .i64 k] w fun e w' => e = .returned (.int .i64 ((pArm k p).1 : Nat)) ∧ Done P (N + 1) w w' s (pArm k p).2 := by
  obtain ⟨hps, hsl, q4, _⟩ := h.c
  have hI := h.inv
  have H := hid h
  have HC : Hid (Calls Tryz.prog 38 #[.pointer (some ⟨s, 0, none⟩), .slice none 0 0] w fun e w' => e = .returned (.int .i64 (wrongs p [] : Nat)) ∧ Kp No w w') := wrong_any s _ [] p.down w q4 (NsAt.none _)
  by_cases hw : wrongs p [] = 0
  · rw [hw] at HC
    by_cases hk0 : k < 0
    · have e1 : pArm k p = (1, p) := by simp [pArm, hw, hk0]
      rw [e1]
      clear e1 hw hI h q4
      go_enter Tryz.func18, Tryz.ntmps18
      go_wp2_with (go_at_call 38; refine (HC.out).mono ?_; rintro e w1 ⟨rfl, h1⟩; have H1 := hid h1; clear h1)
      go_ret
      exact ⟨rfl, (Done.of (H.out.more (by omega) hN) (Kp.refl _ _)).kept H1.out⟩
    · have e1 : pArm k p = (0, { p with armed := true, left := k.toNat }) := by simp [pArm, hw, hk0]
      rw [e1]
      obtain ⟨n, rfl⟩ : ∃ n : Nat, k = n := ⟨k.toNat, by omega⟩
      have HB : Hid (∀ V, Kp No w V → ∃ x y, V.cell? ⟨s, 5, none⟩ = some (.bool x) ∧ V.cell? ⟨s, 6, none⟩ = some (.int .i64 y) ∧ V.frozen? ⟨s, 5, none⟩ = false ∧ V.frozen? ⟨s, 6, none⟩ = false ∧ Done P (N + 1) w ((V.setCell ⟨s, 5, none⟩ (.bool true)).setCell ⟨s, 6, none⟩ (.int .i64 (n : Int))) s { p with armed := true, left := n }) := fun V kV => by
        obtain ⟨vs, vf, vc, u, hR⟩ := h
        have hRV := hR.kp kV (fun _ h => h.elim)
        refine ⟨p.armed, p.left, hRV.c 5, hRV.c 6, hRV.blk.frozen 5, hRV.blk.frozen 6, ?_⟩
        have k2 : Kp (· = s) V ((V.setCell ⟨s, 5, none⟩ (.bool true)).setCell ⟨s, 6, none⟩ (.int .i64 (n : Int))) := (Kp.set1 _ _ _ _).trans (Kp.set1 _ _ _ _) (fun x hx => .inl hx)
        refine ⟨P, ⟨vs, vf, vc, u, hRV.cells (J := PInv (N + 1)) k2 ((hRV.blk.setCell 5 (.bool true)).setCell 6 (.int .i64 (n : Int))) rfl rfl rfl rfl rfl { (hI.mono (M := N + 1) (by omega) hN) with left := (by show n ≤ _; omega) }⟩, (kV.mono (fun _ h => h.elim)).trans k2 (fun x hx => .inl (by subst hx; exact hps)), fun _ h => .inl h⟩
      have hnn : ({ p with armed := true, left := (n : Int).toNat } : PS) = { p with armed := true, left := n } := rfl
      rw [hnn]
      generalize ({ p with armed := true, left := n } : PS) = R at *
      clear e1 hw hI h q4 hnn
      go_enter Tryz.func18, Tryz.ntmps18
      go_wp2_with (go_at_call 38; refine (HC.out).mono ?_; rintro e w1 ⟨rfl, h1⟩; obtain ⟨x, y, c5, c6, f5, f6, hD⟩ := HB.out w1 h1; have HD := hid hD; clear h1 hD)
      go_ret
      exact ⟨rfl, HD.out⟩
  · have e1 : pArm k p = (wrongs p [], p) := by simp [pArm, hw]
    rw [e1]
    generalize wrongs p [] = x at *
    have hne : ((x : Int) != 0) = true := by simp; omega
    clear e1 hw hI h q4
    go_enter Tryz.func18, Tryz.ntmps18
    go_wp2_with (go_at_call 38; refine (HC.out).mono ?_; rintro e w1 ⟨rfl, h1⟩; have H1 := hid h1; clear h1)
    go_ret
    exact ⟨rfl, (Done.of (H.out.more (by omega) hN) (Kp.refl _ _)).kept H1.out⟩

/-! ### New -/
def newPS (room : Nat) : PS := ⟨room, false, [], [], [], false, false, 0, 0, fun _ => none⟩
theorem inv_new (room : Nat) (h : room ≤ 99000) : PInv 0 (newPS room) where
  seen_eq := rfl
  okc := trivial
  has := fun e he => by simp [newPS] at he
  hasC := fun c hc => by simp [newPS] at hc
  nodup := by simp [newPS]
  nmS := fun e he => by simp [newPS] at he
  nmC := fun c hc => by simp [newPS] at hc
  nmade := fun _ => ⟨rfl, rfl⟩
  room := h
  left := Nat.zero_le _
  steps := Nat.le_refl _
  lsum := Nat.le_refl _
  lfile := fun b f hf => by cases hf
  big := by decide
theorem new_yes (n : Nat) (h : n ≤ 99000) (w : World) : Calls Tryz.prog 6 #[.int .i64 (n : Int)] w fun e w' => e = .returned (.tuple #[.pointer (some ⟨w.heap.size, 0, none⟩), .int .i64 0]) ∧ Sys (· = w.heap.size) 0 w' w.heap.size (newPS n) ∧ Kp No w w' := by
  have h1 : ¬ (n : Int) < 0 := by omega
  have h2 : ¬ (99000 : Int) < n := by omega
  go_enter Tryz.func6, Tryz.ntmps6
  go_wp2
  go_ret2
  refine ⟨rfl, ⟨.map none, .map none, .slice none 0 0, fun _ => .slice none 0 0, ?_⟩, (Kp.refl _ _).alloc _⟩
  exact {
    lt := fun x hx => by subst hx; simp
    ps := rfl
    blk := Blk.new w 83 [.int .i64 (n : Int), .map none, .map none, .slice none 0 0, .bool false, .bool false, .int .i64 0, .int .i64 0]
    seen := .inl ⟨rfl, rfl⟩
    safe := .inl ⟨rfl, rfl⟩
    unmade := fun _ => ⟨rfl, rfl⟩
    mades := fun e => by cases e
    chg := Row.nil _ _ _
    pc := by simp [Value.ownBlock]
    file := fun b f hf => by cases hf
    sep := fun b b' f f' hf => by cases hf
    inv := inv_new n h }

end Go.Proofs.YtaaioaocjfpajaaGreatDoor.Sim
end

section
/-
  lose, Up.
-/
namespace Go.Proofs.YtaaioaocjfpajaaGreatDoor.Sim
open Go.RowKit Go.Maps

set_option maxHeartbeats 2000000 in
theorem lose_raw (W : World) (b n cap m : Nat) (a : Option Addr) (k : Int) (hb : Blk W b 110 [.slice a n cap, .int .i64 (m : Int)]) (hn : n ≤ cap) (hm : m ≤ n) (hN : n ≤ 20000000) :
    Calls Tryz.prog 41 #[.pointer (some ⟨b, 0, none⟩), .int .i64 k] W fun e w' => e = .returned (.tuple #[]) ∧ ∃ W1, Kp No W W1 ∧
      w' = (W1.setCell ⟨b, 0, none⟩ (.slice a (m + min (max k 0).toNat (n - m)) cap)).setCell ⟨b, 1, none⟩ (.int .i64 ((m + min (max k 0).toNat (n - m) : Nat) : Int)) := by
  have c0 : W.cell? ⟨b, 0, none⟩ = some (.slice a n cap) := hb.cell 0
  have c1 : W.cell? ⟨b, 1, none⟩ = some (.int .i64 (m : Int)) := hb.cell 1
  have f0 := hb.frozen 0
  have f1 := hb.frozen 1
  clear hb
  obtain ⟨r, hr⟩ : ∃ r : Nat, min (max k 0).toNat (n - m) = r := ⟨_, rfl⟩
  have hrI : min (max k 0) ((n : Int) - (m : Int)) = (r : Int) := by rw [← hr]; omega
  have hrm : m + r ≤ n := by rw [← hr]; omega
  rw [hr]
  clear hr
  have hrc : m + r ≤ cap := by omega
  have hI0 : (0 : Int) ≤ (m : Int) + (r : Int) := by omega
  have hI1 : (m : Int) + (r : Int) ≤ (cap : Int) := by omega
  go_enter Tryz.func41, Tryz.ntmps41
  go_wp2_with fail
  go_region
  all_goals
    go_wp2_with fail
    go_region
    all_goals
      go_wp2
      go_end0
      exact ⟨rfl, W.drew.drew, (Kp.refl _ _).drew.drew, rfl⟩

/-- A row's front. -/
theorem OwnB.front {w : World} {a : Option Addr} {n0 cap : Nat} {bs : List Nat} (h : OwnB w (.slice a n0 cap) bs) (j : Nat) (hj : j ≤ bs.length) : OwnB w (.slice a j cap) (bs.take j) := by
  have hl : (bs.take j).length = j := List.length_take_of_le hj
  have hcl : cl (bs.take j) = (cl bs).take j := by simp [cl, List.map_take]
  rcases h.row.2 with ⟨e, e2⟩ | ⟨g, cap', cur, e, hb, hh, h1, h2, h3, h4⟩
  · cases e
    have : bs = [] := List.length_eq_zero_iff.1 e2
    subst this
    have : j = 0 := by simpa using hj
    subst this
    exact OwnB.nil _
  · cases e
    refine ⟨by rw [cl_length]; omega, .inr ⟨g, cap, cur, by rw [hl], hb, hh, by omega, h2, h3, ?_⟩⟩
    rw [hcl, ← h4, List.take_take, hl]
    congr 1
    omega

theorem lose_len (k : Int) (f : Fl) (h : f.safe ≤ f.b.length) : (lose k f).b = f.b.take (f.safe + min (max k 0).toNat (f.b.length - f.safe)) ∧ (lose k f).b.length = f.safe + min (max k 0).toNat (f.b.length - f.safe) ∧ (lose k f).safe = f.safe + min (max k 0).toNat (f.b.length - f.safe) ∧ f.safe + min (max k 0).toNat (f.b.length - f.safe) ≤ f.b.length := by
  have h1 : f.safe + min (max k 0).toNat (f.b.length - f.safe) ≤ f.b.length := by omega
  have h2 : (f.b.take (f.safe + min (max k 0).toNat (f.b.length - f.safe))).length = f.safe + min (max k 0).toNat (f.b.length - f.safe) := List.length_take_of_le h1
  exact ⟨rfl, h2, h2, h1⟩

/-- lose, of a file of the system. -/
theorem lose_any {P : Nat → Prop} {I J : PS → Prop} (W : World) (s b : Nat) (q : PS) (vs vf vc : Value) (u : Nat → Value) (f : Fl) (k : Int) (h : Rp P I W s q vs vf vc u) (hb : q.files b = some f) (hl : f.b.length ≤ 20000000) (hi : J (setF b (lose k f) q)) :
    Calls Tryz.prog 41 #[.pointer (some ⟨b, 0, none⟩), .int .i64 k] W fun e w' => e = .returned (.tuple #[]) ∧ ∃ u', Rp P J w' s (setF b (lose k f) q) vs vf vc u' ∧ Kp P W w' := by
  obtain ⟨hPb, hFb, hPu⟩ := h.file b f hb
  obtain ⟨a, cap, hv, hle, hcap, hnil⟩ := hFb.own.shape
  obtain ⟨l1, l2, l3, l4⟩ := lose_len k f hFb.le
  have hblk := hFb.blk
  rw [hv] at hblk
  refine (lose_raw W b f.b.length cap f.safe a k hblk hle hFb.le hl).mono ?_
  rintro e w' ⟨rfl, W1, k1, rfl⟩
  generalize hj : f.safe + min (max k 0).toNat (f.b.length - f.safe) = j at *
  have kb : Kp (· = b) W1 ((W1.setCell ⟨b, 0, none⟩ (.slice a j cap)).setCell ⟨b, 1, none⟩ (.int .i64 (j : Int))) := (Kp.set1 _ _ _ _).trans (Kp.set1 _ _ _ _) (fun x hx => .inl hx)
  have K : Kp (fun k => k = b ∨ (u b).ownBlock = some k) W ((W1.setCell ⟨b, 0, none⟩ (.slice a j cap)).setCell ⟨b, 1, none⟩ (.int .i64 (j : Int))) := (k1.mono (fun _ h => h.elim)).trans kb (fun x hx => .inl (.inl hx))
  have hown : OwnB W1 (.slice a j cap) (f.b.take j) := ((by rw [hv] at hFb; exact hFb.own.kept k1 : OwnB W1 (.slice a f.b.length cap) f.b)).front j l4
  have hbk : (Value.slice a j cap).ownBlock = (u b).ownBlock := by rw [hv]; cases a <;> rfl
  have hF : FileAt ((W1.setCell ⟨b, 0, none⟩ (.slice a j cap)).setCell ⟨b, 1, none⟩ (.int .i64 (j : Int))) b (.slice a j cap) (lose k f) := by
    refine ⟨?_, ?_, fun x hx => hFb.byt x (List.mem_of_mem_take (by rw [l1] at hx; exact hx)), by rw [l2, l3]; exact Nat.le_refl _⟩
    · have := ((hFb.blk.kp k1 (fun h => h)).setCell 0 (.slice a j cap)).setCell 1 (.int .i64 (j : Int))
      rw [l3]
      exact this
    · rw [l1]
      exact hown.row.kp kb (fun x hx e => by
        rw [hbk] at hx
        exact hFb.own.row.ne hFb.blk (by decide) (by rw [hx, e]))
  obtain ⟨r1, r2⟩ := rq_setF (P' := P) (J := J) h hb K hF (fun x hx => .inl (by rw [← hbk]; exact hx)) (fun _ h => h) (fun x hx => Nat.lt_of_lt_of_le (h.lt x hx) K.size) (fun x hx => hPu x (by rw [← hbk]; exact hx)) hi
  exact ⟨rfl, _, r1, r2⟩

/-! ### Up -/
/-- A slice of numbers that is read. -/
def IntsAt (Q : Nat → Prop) (w : World) (v : Value) (zs : List Int) : Prop :=
  ∃ a cap, v = .slice a zs.length cap ∧ zs.length ≤ cap ∧ cap ≤ maxLen ∧ zs.length ≤ 1000 ∧ (zs ≠ [] → ∃ g o, a = some ⟨g, o, none⟩ ∧ Q g ∧ g < w.heap.size ∧ ∀ i, i < zs.length → w.cell? ⟨g, o + i, none⟩ = some (.int .i64 (zs.getD i 0)))
theorem IntsAt.kp {Q L : Nat → Prop} {w w' : World} {v : Value} {zs : List Int} (h : IntsAt Q w v zs) (k : Kp L w w') (hL : ∀ x, L x → ¬ Q x) : IntsAt Q w' v zs := by
  obtain ⟨a, cap, h1, h2, h3, h4, h5⟩ := h
  refine ⟨a, cap, h1, h2, h3, h4, fun hne => ?_⟩
  obtain ⟨g, o, e, hq, hg, hc⟩ := h5 hne
  exact ⟨g, o, e, hq, Nat.lt_of_lt_of_le hg k.size, fun i hi => (k.cell (p := ⟨g, o + i, none⟩) hg (fun hl => hL g hl hq)).trans (hc i hi)⟩
theorem loses_snoc (e : Nm × Nat) (cuts : List Int) : ∀ (l : Dir) (i : Nat) (p : PS), loses (l ++ [e]) i cuts p = setF e.2 (lose (cuts.getD (i + l.length) 0) (fileAt (loses l i cuts p) e.2)) (loses l i cuts p)
  | [], i, p => by simp [loses]
  | x :: r, i, p => by
    rw [List.cons_append, loses, loses_snoc e cuts r (i + 1)]
    have : i + 1 + r.length = i + (x :: r).length := by simp; omega
    rw [this]
    rfl
theorem loses_same (cuts : List Int) : ∀ (l : Dir) (i : Nat) (p : PS), (loses l i cuts p).safe = p.safe ∧ (loses l i cuts p).seen = p.seen ∧ (loses l i cuts p).chg = p.chg ∧ (loses l i cuts p).made = p.made ∧ (loses l i cuts p).room = p.room ∧ (loses l i cuts p).steps = p.steps
  | [], _, _ => ⟨rfl, rfl, rfl, rfl, rfl, rfl⟩
  | x :: r, i, p => by
    rw [loses]
    exact loses_same cuts r (i + 1) _
theorem loses_files (cuts : List Int) (B : Nat) : ∀ (l : Dir) (i : Nat) (p : PS), (∀ b f, p.files b = some f → f.b.length ≤ B) → (∀ b f, (loses l i cuts p).files b = some f → f.b.length ≤ B) ∧ ∀ b, ((p.files b).isSome = true → ((loses l i cuts p).files b).isSome = true)
  | [], _, _, h => ⟨h, fun _ h => h⟩
  | x :: r, i, p, h => by
    rw [loses]
    obtain ⟨h1, h2⟩ := loses_files cuts B r (i + 1) (setF x.2 (lose (cuts.getD i 0) (fileAt p x.2)) p) (fun b f hf => by
      have hf' : (if b = x.2 then some (lose (cuts.getD i 0) (fileAt p x.2)) else p.files b) = some f := hf
      split at hf'
      · cases hf'
        have hlen : (lose (cuts.getD i 0) (fileAt p x.2)).b.length ≤ (fileAt p x.2).b.length := List.length_take_le' _ _
        refine Nat.le_trans hlen ?_
        unfold fileAt
        cases hx : p.files x.2 with
        | none => simp
        | some g => exact h _ g hx
      · exact h b f hf')
    refine ⟨h1, fun b hb => h2 b ?_⟩
    show (if b = x.2 then some (lose (cuts.getD i 0) (fileAt p x.2)) else p.files b).isSome = true
    split
    · rfl
    · exact hb
theorem inv_up {N : Nat} {p : PS} (h : PInv N p) (hr : Ris p.safe) (k : Int) (cuts : List Int) : PInv N (pUp k cuts p) := by
  obtain ⟨n, hn, hn2⟩ : ∃ n, min (max k 0).toNat p.chg.length = n ∧ n ≤ p.chg.length := ⟨_, rfl, by omega⟩
  have e : pUp k cuts p = { loses ((p.chg.take n).foldl pdo p.safe) 0 cuts (settle n p) with seen := (loses ((p.chg.take n).foldl pdo p.safe) 0 cuts (settle n p)).safe, down := false, armed := false, left := 0 } := by
    unfold pUp
    rw [hn]
    rfl
  rw [e]
  obtain ⟨s1, s2, s3, s4, s5, s6⟩ := loses_same cuts ((p.chg.take n).foldl pdo p.safe) 0 (settle n p)
  obtain ⟨f1, f2⟩ := loses_files cuts (12000 * N) ((p.chg.take n).foldl pdo p.safe) 0 (settle n p) h.lfile
  have s1' : (loses ((p.chg.take n).foldl pdo p.safe) 0 cuts (settle n p)).safe = (p.chg.take n).foldl pdo p.safe := s1
  have s3' : (loses ((p.chg.take n).foldl pdo p.safe) 0 cuts (settle n p)).chg = [] := s3
  have hfn := fold_names h n
  refine {
    seen_eq := by show _ = List.foldl pdo _ _; rw [s3']; rfl
    okc := by show okcs _ _; rw [s3']; trivial
    has := fun x hx => ?_
    hasC := fun c hc => ?_
    nodup := ?_
    nmS := fun x hx => ?_
    nmC := fun c hc => ?_
    nmade := fun hm => ?_
    room := by show _ ≤ _; rw [s5]; exact h.room
    left := Nat.zero_le _
    steps := by show _ ≤ _; rw [s6]; exact h.steps
    lsum := ?_
    lfile := f1
    big := h.big }
  · have hx' : x ∈ (p.chg.take n).foldl pdo p.safe := by rw [← s1']; exact hx
    exact f2 x.2 ((hfn x hx').1)
  · have hc' : c ∈ (loses ((p.chg.take n).foldl pdo p.safe) 0 cuts (settle n p)).chg := hc
    rw [s3'] at hc'
    simp at hc'
  · show (List.map _ (loses ((p.chg.take n).foldl pdo p.safe) 0 cuts (settle n p)).safe ++ List.map _ (List.filter _ (loses ((p.chg.take n).foldl pdo p.safe) 0 cuts (settle n p)).chg)).Nodup
    rw [s3', s1']
    have hd := h.nodup
    have h2 := nodup_fold (p.chg.take n) (p.chg.drop n) p.safe hr (by
      have := h.okc
      rw [← List.take_append_drop n p.chg, okcs_append] at this
      exact this.1) (by rw [List.take_append_drop]; exact hd)
    rw [List.nodup_append] at h2
    simpa [vals] using h2.1
  · have hx' : x ∈ (p.chg.take n).foldl pdo p.safe := by rw [← s1']; exact hx
    exact (hfn x hx').2
  · have hc' : c ∈ (loses ((p.chg.take n).foldl pdo p.safe) 0 cuts (settle n p)).chg := hc
    rw [s3'] at hc'
    simp at hc'
  · have hm' : (loses ((p.chg.take n).foldl pdo p.safe) 0 cuts (settle n p)).made = false := hm
    rw [s4] at hm'
    obtain ⟨h1, h2⟩ := h.nmade hm'
    refine ⟨s3', ?_⟩
    show (loses ((p.chg.take n).foldl pdo p.safe) 0 cuts (settle n p)).safe = []
    rw [s1', h1, h2]
    simp
  · show (loses ((p.chg.take n).foldl pdo p.safe) 0 cuts (settle n p)).safe.length + (loses ((p.chg.take n).foldl pdo p.safe) 0 cuts (settle n p)).chg.length ≤ N
    rw [s1', s3']
    have h1 := length_fold (p.chg.take n) p.safe
    have h2 := List.length_take_le n p.chg
    have := h.lsum
    have h3 : (p.chg.take n).length ≤ p.chg.length := by simp; omega
    simp only [List.length_nil]
    omega

end Go.Proofs.YtaaioaocjfpajaaGreatDoor.Sim
end

section
/-
  Up.
-/
namespace Go.Proofs.YtaaioaocjfpajaaGreatDoor.Sim
open Go.RowKit Go.Maps

/-- What holds while Up goes on. -/
def UpI (N : Nat) (d : Dir) : PS → Prop := fun p => (∀ b f, p.files b = some f → f.b.length ≤ 12000 * N) ∧ (∀ e ∈ d, (p.files e.2).isSome = true) ∧ p.safe = d ∧ N ≤ 1000

/-- Where Up stands, i names through. -/
def UpAt (P : Nat → Prop) (N : Nat) (w : World) (s : Nat) (q : PS) (d : Dir) (cuts : List Int) (vs : Value) (mo : Option Nat) (i : Nat) (wr : World) : Prop :=
  ∃ u, Rp P (UpI N d) wr s (loses (d.take i) 0 cuts q) vs (.map mo) (.slice none 0 0) u ∧ Kp P w wr

theorem upI_step {N : Nat} {d : Dir} {q : PS} {b : Nat} {f : Fl} {k : Int} (h : UpI N d q) (hf : q.files b = some f) : UpI N d (setF b (lose k f) q) := by
  refine ⟨fun x g hg => ?_, fun e he => ?_, h.2.2.1, h.2.2.2⟩
  · have hg' : (if x = b then some (lose k f) else q.files x) = some g := hg
    split at hg'
    · cases hg'
      exact Nat.le_trans (List.length_take_le' _ _) (h.1 b f hf)
    · exact h.1 x g hg'
  · show (if e.2 = b then some (lose k f) else q.files e.2).isSome = true
    split
    · rfl
    · exact h.2.1 e he

/-- At the end of Up. -/
theorem up_end {P : Nat → Prop} {N : Nat} {w wr w2 : World} {s : Nat} {q : PS} {vs vs' : Value} {mo : Option Nat} {u : Nat → Value} (h : Rp P (UpI N q.safe) wr s q vs (.map mo) (.slice none 0 0) u) (hq : q.chg = [])
    (hv : (mo = none ∧ vs' = .map none ∧ w2 = wr) ∨ ∃ b, mo = some b ∧ vs' = .map (some wr.heap.size) ∧ MapAt w2 wr.heap.size q.safe) (k2 : Kp No wr w2) (hk : Kp P w wr)
    (hi : PInv N { q with seen := q.safe, down := false, armed := false, left := 0 }) :
    Done P N w ((((w2.setCell ⟨s, 1, none⟩ vs').setCell ⟨s, 4, none⟩ (.bool false)).setCell ⟨s, 5, none⟩ (.bool false)).setCell ⟨s, 6, none⟩ (.int .i64 0)) s { q with seen := q.safe, down := false, armed := false, left := 0 } := by
  have hR := h.kp k2 (fun _ h => h.elim)
  have k4 : Kp (· = s) w2 ((((w2.setCell ⟨s, 1, none⟩ vs').setCell ⟨s, 4, none⟩ (.bool false)).setCell ⟨s, 5, none⟩ (.bool false)).setCell ⟨s, 6, none⟩ (.int .i64 0)) :=
    (((Kp.set1 _ _ _ _).trans (Kp.set1 _ _ _ _) (fun x hx => .inl hx)).trans (Kp.set1 _ _ _ _) (fun x hx => .inl hx)).trans (Kp.set1 _ _ _ _) (fun x hx => .inl hx)
  have hb := (((hR.blk.setCell 1 vs').setCell 4 (.bool false)).setCell 5 (.bool false)).setCell 6 (.int .i64 0)
  generalize hw' : (((w2.setCell ⟨s, 1, none⟩ vs').setCell ⟨s, 4, none⟩ (.bool false)).setCell ⟨s, 5, none⟩ (.bool false)).setCell ⟨s, 6, none⟩ (.int .i64 0) = w' at *
  have hz : w2.heap.size = w'.heap.size := by rw [← hw']; simp
  have hsl := hR.lt s hR.ps
  refine ⟨fun x => P x ∨ (wr.heap.size = x ∧ mo ≠ none), ⟨vs', .map mo, .slice none 0 0, u, ?_⟩, ((hk.andNone k2).trans k4 (fun x hx => .inl (by subst hx; exact h.ps))), fun x hx => by
    rcases hx with hx | hx
    · exact .inl hx
    · exact .inr (by have := hk.size; omega)⟩
  have hnew : ∀ b, mo = some b → wr.heap.size < w2.heap.size := fun b e => by
    rcases hv with ⟨e1, _⟩ | ⟨b', _, _, hm⟩
    · rw [e] at e1; cases e1
    · exact hm.lt
  exact {
    lt := fun x hx => by
      rcases hx with hx | ⟨hx, hm⟩
      · have := h.lt x hx; have := k2.size; omega
      · cases mo with
        | none => exact absurd rfl hm
        | some b => have := hnew b rfl; omega
    ps := .inl h.ps
    blk := hb
    seen := by
      rcases hv with ⟨e1, e2, e3⟩ | ⟨b, e1, e2, hm⟩
      · refine .inl ⟨e2, ?_⟩
        rcases h.safe with ⟨_, h2⟩ | ⟨b, h1, _⟩
        · exact h2
        · rw [e1] at h1; cases h1
      · exact .inr ⟨_, e2, hm.kp k4 (hm.blk hR.blk)⟩
    safe := by
      rcases hR.safe with ⟨h1, h2⟩ | ⟨b, h1, h2⟩
      · exact .inl ⟨h1, h2⟩
      · exact .inr ⟨b, h1, h2.kp k4 (h2.blk hR.blk)⟩
    unmade := fun e => by
      obtain ⟨e1, e2⟩ := h.unmade e
      rcases hv with ⟨_, e3, _⟩ | ⟨b, e3, _⟩
      · exact ⟨e3, e2⟩
      · rw [e3] at e2; cases e2
    mades := fun e => by
      obtain ⟨a, b, h1, h2, h3, h4, h5⟩ := h.mades e
      rcases hv with ⟨e1, _⟩ | ⟨b', e1, e2, hm⟩
      · rw [e1] at h2; cases h2
      · have : b = b' := by rw [e1] at h2; cases h2; rfl
        refine ⟨wr.heap.size, b, e2, h2, ?_, .inr ⟨rfl, by rw [e1]; simp⟩, .inl h5⟩
        have := h.lt b h5
        omega
    chg := by show Row _ _ _ _ q.chg.length _; rw [hq]; exact Row.nil _ _ _
    pc := by simp [Value.ownBlock]
    file := fun b f hf => by
      obtain ⟨h1, h2, h3⟩ := hR.file b f hf
      exact ⟨.inl h1, h2.kp k4 (h2.blk.ne hR.blk (by decide)) (fun x hx e => h2.own.row.ne hR.blk (by decide) (by rw [hx, e])), fun x hx => .inl (h3 x hx)⟩
    sep := h.sep
    inv := hi }

set_option maxHeartbeats 4000000 in
set_option maxRecDepth 100000 in
theorem up_any {P Q : Nat → Prop} {N : Nat} (w : World) (s : Nat) (p : PS) (k : Int) (v : Value) (cuts : List Int) (h : Sys P N w s p) (hv : IntsAt Q w v cuts) (hQ : ∀ x, Q x → ¬ P x) :
    Calls Tryz.prog 19 #[.pointer (some ⟨s, 0, none⟩), .int .i64 k, v] w fun e w' => e = .returned (.int .i64 0) ∧ Done P N w w' s (pUp k cuts p) := by
  have hI := h.inv
  obtain ⟨vs, vf, vc, u, hR⟩ := h
  obtain ⟨mo, rfl⟩ := hR.safe.shape
  obtain ⟨ac, cc, hvc, _⟩ := hR.chg.shape
  obtain ⟨n, hn, hn2⟩ : ∃ n, min (max k 0).toNat p.chg.length = n ∧ n ≤ p.chg.length := ⟨_, rfl, by omega⟩
  have hnI : min (max k 0) (p.chg.length : Int) = (n : Int) := by rw [← hn]; omega
  have hbig := hI.big
  have hsl := hR.lt s hR.ps
  have hps := hR.ps
  have c3 : w.cell? ⟨s, 3, none⟩ = some (.slice ac p.chg.length cc) := by rw [← hvc]; exact hR.c 3
  have HUP : Hid (pUp k cuts p = { loses ((p.chg.take n).foldl pdo p.safe) 0 cuts (settle n p) with seen := (loses ((p.chg.take n).foldl pdo p.safe) 0 cuts (settle n p)).safe, down := false, armed := false, left := 0 }) := by
    unfold Hid pUp
    rw [hn]
    rfl
  have HINV := hid (inv_up hI hR.safe.ris k cuts)
  have hfn := fold_names hI n
  have hrs : Ris ((p.chg.take n).foldl pdo p.safe) := hR.safe.ris.fold _
  -- settle
  have HST : Hid (Calls Tryz.prog 39 #[.pointer (some ⟨s, 0, none⟩), .int .i64 (n : Int)] w fun e w' => e = .returned (.tuple #[]) ∧ UpAt P N w s (settle n p) ((p.chg.take n).foldl pdo p.safe) cuts vs mo 0 w') := by
    refine (settle_raw w s p vs vc mo u n hR hn2 hI.okc hI.nmC (by have := hI.lsafe; omega) (by have := hI.lchg; omega) hI.nmade).mono ?_
    rintro e w' ⟨rfl, W1, hm1, hk1, hw1⟩
    obtain ⟨hS, hK⟩ := rq_settle (J := UpI N ((p.chg.take n).foldl pdo p.safe)) hR hm1 hk1 hw1 ⟨hI.lfile, fun e he => (hfn e he).1, rfl, hbig⟩
    exact ⟨rfl, u, hS, hK⟩
  have hdl : Hid (((p.chg.take n).foldl pdo p.safe).length ≤ 1000) := by
    have h1 := length_fold (p.chg.take n) p.safe
    have h2 : (p.chg.take n).length ≤ p.chg.length := by simp; omega
    have := hI.lsum
    show _ ≤ _
    omega
  have hq0 : Hid ((settle n p).chg = []) := rfl
  have HFN := hid hfn
  have HRS := hid hrs
  have HV := hid hv
  have HQ := hid hQ
  obtain ⟨av, cv, rfl, hv1, hv2, hv3, _⟩ := hv
  rw [HUP.out] at HINV ⊢
  generalize hd : (p.chg.take n).foldl pdo p.safe = d at *
  generalize settle n p = q at *
  clear hn hfn hrs hd hI hR hvc HUP hQ
  generalize p.chg.length = M at *
  go_enter Tryz.func19, Tryz.ntmps19
  go_wp2_with fail
  refine (HST.out).mono ?_
  rintro e w1 ⟨rfl, hU⟩
  have HU := hid hU
  obtain ⟨u1, hR1, hK1⟩ := hU
  have c2 : w1.cell? ⟨s, 2, none⟩ = some (.map mo) := hR1.c 2
  have hsafe1 : MapV w1 (.map mo) d := by have := hR1.safe; rw [hR1.inv.2.2.1] at this; exact this
  have HN := hid (names_any w1 (.map mo) d hsafe1 (by have := hdl.out; omega))
  have hsz1 := hK1.size
  clear hR1 hK1 hsafe1 HST
  go_wp2_with fail
  refine (HN.out).mono ?_
  rintro e w2 ⟨un, rfl, ho, hnew, hk2⟩
  have HO := hid ho
  have HNEW := hid hnew
  have HU2 : Hid (UpAt P N w s q d cuts vs mo 0 w2) := by
    obtain ⟨u1, hR1, hK1⟩ := HU.out
    exact ⟨u1, hR1.kp hk2 (fun _ h => h.elim), hK1.andNone hk2⟩
  obtain ⟨an, cn, hun, hn1, hn2', hn3, hn4⟩ := ho.shape
  subst hun
  have hsz2 := hk2.size
  -- the names stay
  have HNM : Hid (∀ wr, Kp P w2 wr → ∀ i, (hi : i < d.length) → ∃ g, an = some ⟨g, 0, none⟩ ∧ wr.cell? ⟨g, i, none⟩ = some (.string (sOf (d[i]).1))) := fun wr kw i hi => by
    obtain ⟨g, hg⟩ : ∃ g, an = some ⟨g, 0, none⟩ := by
      rcases HO.out.2 with ⟨e1, e2⟩ | ⟨g, cap', cur, e1, _⟩
      · simp at e2; subst e2; simp at hi
      · cases e1; exact ⟨g, rfl⟩
    refine ⟨g, hg, ?_⟩
    subst hg
    have hgP : ¬ P g := fun hp => by
      obtain ⟨u1, hR1, hK1⟩ := HU.out
      have h1 := hR1.lt g hp
      have h2 := HNEW.out g rfl
      omega
    have h3 := HO.out.kp kw (fun x hx => by cases hx; exact hgP)
    have hr3 : Row wr 9 1 (.slice (some ⟨g, 0, none⟩) (d.map (·.1)).length cn) (d.map (·.1)).length ((d.map (·.1)).map encStr) := h3
    rw [hr3.cellAt i (by simp; exact hi)]
    simp [hi]
    rfl
  have HCUT : Hid (∀ wr, Kp P w wr → ∀ i, i < cuts.length → ∃ g o, av = some ⟨g, o, none⟩ ∧ wr.cell? ⟨g, o + i, none⟩ = some (.int .i64 (cuts.getD i 0))) := fun wr kw i hi => by
    obtain ⟨a', cap', e1, _, _, _, h5⟩ := HV.out
    cases e1
    obtain ⟨g, o, e, hq, hg, hc⟩ := h5 (by intro e; subst e; simp at hi)
    exact ⟨g, o, e, (kw.cell (p := ⟨g, o + i, none⟩) hg (fun hp => HQ.out g hq hp)).trans (hc i hi)⟩
  have hdm : (d.map (·.1)).length = d.length := by simp
  rw [hdm] at hn1 ⊢
  have hD := hdl.out
  obtain ⟨D, hDL⟩ : ∃ D, d.length = D := ⟨_, rfl⟩
  rw [hDL] at hn1 hD ⊢
  have HDL := hid hDL
  clear hDL hdm ho hnew hk2 hn3 hn4 HN c2 HU
  go_wp2_with fail
  go_loopw [28] (fun x wr => ∃ i : Nat, x = .int .i64 i ∧ i ≤ D ∧ Hid (UpAt P N w s q d cuts vs mo i wr ∧ Kp P w2 wr)) (fun x _ => D - (intOf x).toNat)
  case atStart => exact ⟨0, rfl, by omega, HU2.out, Kp.refl _ _⟩
  case round =>
    obtain ⟨i, rfl, hi, HI⟩ := hrel
    by_cases hlt : i < D
    · have hlt' : i < d.length := by rw [HDL.out]; exact hlt
      obtain ⟨g, hg, cn1⟩ := HNM.out wr HI.out.2 i hlt'
      subst hg
      obtain ⟨ui, hRi, hKi⟩ := HI.out.1
      have hsf : MapV wr (.map mo) d := by have := hRi.safe; rw [hRi.inv.2.2.1] at this; exact this
      have hfd : dfind d (d[i]).1 = some (d[i]).2 := dfind_of_mem hsf.ris.nodup (List.getElem_mem hlt')
      have hlk := hsf.lookS (sOf (d[i]).1) (by rw [sOf_size]; have := (HFN.out _ (List.getElem_mem hlt')).2; omega)
      rw [nm_sOf, hfd, show ptrV (some (d[i]).2) = .pointer (some ⟨(d[i]).2, 0, none⟩) from rfl] at hlk
      have c2 : wr.cell? ⟨s, 2, none⟩ = some (.map mo) := hRi.c 2
      obtain ⟨f, hf⟩ := Option.isSome_iff_exists.1 (hRi.inv.2.1 _ (List.getElem_mem hlt'))
      have hfl := hRi.inv.1 _ f hf
      have hfa : fileAt (loses (d.take i) 0 cuts q) (d[i]).2 = f := by simp [fileAt, hf]
      have htk : d.take (i + 1) = d.take i ++ [d[i]] := List.take_succ_eq_append_getElem hlt'
      have hst : loses (d.take (i + 1)) 0 cuts q = setF (d[i]).2 (lose (cuts.getD i 0) f) (loses (d.take i) 0 cuts q) := by
        rw [htk, loses_snoc, hfa]
        have : 0 + (d.take i).length = i := by simp; omega
        rw [this]
      have HL : Hid (Calls Tryz.prog 41 #[.pointer (some ⟨(d[i]).2, 0, none⟩), .int .i64 (cuts.getD i 0)] wr fun e w' => e = .returned (.tuple #[]) ∧ UpAt P N w s q d cuts vs mo (i + 1) w' ∧ Kp P w2 w') := by
        refine (lose_any (J := UpI N d) wr s (d[i]).2 _ vs (.map mo) _ ui f (cuts.getD i 0) hRi hf (by omega) (upI_step hRi.inv hf)).mono ?_
        rintro e w' ⟨rfl, u', r1, r2⟩
        refine ⟨rfl, ⟨u', ?_, hKi.trans r2 (fun x hx => .inl hx)⟩, HI.out.2.trans r2 (fun x hx => .inl hx)⟩
        rw [hst]
        exact r1
      generalize sOf (d[i]).1 = sn at *
      generalize (d[i]).2 = fb at *
      by_cases hc : i < cuts.length
      · obtain ⟨gc, oc, hgc, cc1⟩ := HCUT.out wr hKi i hc
        subst hgc
        clear hRi hKi hsf hfd hf hfl hfa htk hst HNM HCUT HFN HINV
        generalize cuts.getD i 0 = z at *
        go_wp2_with (go_at_call 41; refine (HL.out).mono ?_; rintro e w3 ⟨rfl, h3, h4⟩; have H3 := hid h3; have H4 := hid h4; clear h3 h4)
        go_roundw
        case rel => exact ⟨i + 1, by go_num, by omega, H3.out, H4.out⟩
        case measure => simp [intOf]; omega
      · have hz : cuts.getD i 0 = 0 := by rw [List.getD_eq_getElem?_getD, List.getElem?_eq_none (by omega)]; rfl
        rw [hz] at HL
        clear hRi hKi hsf hfd hf hfl hfa htk hst HNM HCUT HFN HINV
        go_wp2_with (go_at_call 41; refine (HL.out).mono ?_; rintro e w3 ⟨rfl, h3, h4⟩; have H3 := hid h3; have H4 := hid h4; clear h3 h4)
        go_roundw
        case rel => exact ⟨i + 1, by go_num, by omega, H3.out, H4.out⟩
        case measure => simp [intOf]; omega
    · have hiD : i = D := by omega
      subst hiD
      have htk : d.take i = d := List.take_of_length_le (by rw [HDL.out]; exact Nat.le_refl _)
      obtain ⟨ui, hRi, hKi⟩ := HI.out.1
      rw [htk] at hRi
      have hsd := hRi.inv.2.2.1
      have hRi' : Rp P (UpI N (loses d 0 cuts q).safe) wr s (loses d 0 cuts q) vs (.map mo) (.slice none 0 0) ui := by rw [hsd]; exact hRi
      have hq1 : (loses d 0 cuts q).chg = [] := (loses_same cuts d 0 q).2.2.1.trans hq0.out
      have c2 : wr.cell? ⟨s, 2, none⟩ = some (.map mo) := hRi.c 2
      have HCL : Hid (Calls Tryz.prog 42 #[.map mo] wr fun e w' => ∃ vs', e = .returned vs' ∧ ((mo = none ∧ vs' = .map none ∧ w' = wr) ∨ ∃ b, mo = some b ∧ vs' = .map (some wr.heap.size) ∧ MapAt w' wr.heap.size (loses d 0 cuts q).safe) ∧ Kp No wr w') := by
        refine (mclone_v wr (.map mo) (loses d 0 cuts q).safe hRi'.safe).mono ?_
        rintro e w' ⟨v', rfl, h1, h2⟩
        refine ⟨v', rfl, ?_, h2⟩
        rcases h1 with ⟨e1, e2, e3⟩ | ⟨b, e1, e2, e3⟩
        · have hmn : mo = none := by
            cases mo with
            | none => rfl
            | some _ => cases e1
          exact .inl ⟨hmn, e2, e3⟩
        · exact .inr ⟨b, by cases e1; rfl, e2, e3⟩
      have HE : Hid (∀ w3 vs', ((mo = none ∧ vs' = .map none ∧ w3 = wr) ∨ ∃ b, mo = some b ∧ vs' = .map (some wr.heap.size) ∧ MapAt w3 wr.heap.size (loses d 0 cuts q).safe) → Kp No wr w3 → Done P N w ((((w3.setCell ⟨s, 1, none⟩ vs').setCell ⟨s, 4, none⟩ (.bool false)).setCell ⟨s, 5, none⟩ (.bool false)).setCell ⟨s, 6, none⟩ (.int .i64 0)) s _) := fun w3 vs' h1 h2 => up_end hRi' hq1 h1 h2 hKi HINV.out
      have HCE : Hid (∀ w3, Kp No wr w3 → ∃ x1 x4 x5 x6, w3.cell? ⟨s, 1, none⟩ = some (.map x1) ∧ w3.cell? ⟨s, 4, none⟩ = some (.bool x4) ∧ w3.cell? ⟨s, 5, none⟩ = some (.bool x5) ∧ w3.cell? ⟨s, 6, none⟩ = some (.int .i64 x6) ∧ ∀ j, w3.frozen? ⟨s, j, none⟩ = false) := fun w3 kw => by
        have h3 := hRi.kp kw (fun _ h => h.elim)
        obtain ⟨ms, hms⟩ := h3.seen.shape
        exact ⟨ms, _, _, _, by rw [h3.c 1]; simp [fsCells, hms], h3.c 4, h3.c 5, h3.c 6, h3.blk.frozen⟩
      clear hRi hRi' hq1 hsd htk HI HINV HFN HNM HCUT
      go_wp2_with (go_at_call 42; refine (HCL.out).mono ?_; rintro e w3 ⟨vs', rfl, h3, h4⟩; have H3 := hid h3; have H4 := hid h4; obtain ⟨x1, x4, x5, x6, d1, d4, d5, d6, df⟩ := HCE.out w3 h4; have df1 := df 1; have df4 := df 4; have df5 := df 5; have df6 := df 6; obtain ⟨m3, hm3⟩ : ∃ m, vs' = .map m := (by rcases h3 with ⟨_, e, _⟩ | ⟨_, _, e, _⟩ <;> exact ⟨_, e⟩); subst hm3; clear h3 h4 df)
      go_ret
      exact ⟨rfl, HE.out w3 _ H3.out H4.out⟩

end Go.Proofs.YtaaioaocjfpajaaGreatDoor.Sim
end

section
/-
  A pack's names.
-/
namespace Go.Proofs.YtaaioaocjfpajaaGreatDoor
open Go.RowKit Go.Shelf
open Sim (hid)

def idB (z : Int) : Bool := decide (1 ≤ z) && decide (z ≤ 999999)
/-- Is it an id? -/
theorem isID_any (z : Int) (w : World) : Calls Tryz.prog 57 #[.int .i64 z] w fun e w' => e = .returned (.bool (idB z)) ∧ w' = w := by
  by_cases h1 : 1 ≤ z
  · by_cases h2 : z ≤ 999999
    · go_enter Tryz.func57, Tryz.ntmps57
      go_wp2
      go_ret
      exact ⟨by simp [idB, h1, h2], rfl⟩
    · have h2' : 999999 < z := by omega
      go_enter Tryz.func57, Tryz.ntmps57
      go_wp2
      go_ret
      exact ⟨by simp [idB, h1, h2], rfl⟩
  · have h1' : z < 1 := by omega
    go_enter Tryz.func57, Tryz.ntmps57
    go_wp2
    go_ret
    exact ⟨by rw [idB, decide_eq_false (show ¬ 1 ≤ z by omega), Bool.false_and]; rfl, rfl⟩

/-- A name of that sort. -/
def sortB (p : ByteArray) (i : Nat) : ByteArray := p ++ ⟨(Lib.decDigits i).toArray⟩

theorem dec_small (i : Nat) (h : i < 100) : (Lib.decDigits i).length ≤ 2 := by
  by_cases h1 : i < 10
  · rw [Lib.decDigits_one h1]; simp
  · rw [Lib.decDigits_two h1 h]; simp
theorem name_small (p : ByteArray) (hp : p.size ≤ 100) (i : Nat) (h1 : 1 ≤ i) (h2 : i < 100) (w : World) :
    Calls Tryz.prog 33 #[.string p, .int .i64 (i : Int)] w fun e w' => e = .returned (.string (sortB p i)) ∧ w' = w := by
  have hid1 : idB (i : Int) = true := by simp [idB]; omega
  have hd := dec_small i h2
  have hsz : ¬ 9223372036854775807 < p.size + (Lib.decDigits i).length := by omega
  go_enter Tryz.func33, Tryz.ntmps33
  go_wp2_with (first
    | (go_at_call 57; refine (isID_any _ _).mono ?_; rintro e w1 ⟨rfl, h⟩; subst w1; rw [hid1])
    | (go_at_call 58; refine (Any.strconv_Itoa_small Sim.Tryz.itoaS i h2 _).mono ?_; rintro e w1 ⟨rfl, h⟩; subst w1))
  go_ret
  exact ⟨rfl, rfl⟩

def nameP (i : Nat) : ByteArray := sortB ⟨#[112, 97, 99, 107, 46]⟩ i
def nameT (i : Nat) : ByteArray := sortB ⟨#[116, 109, 112, 46]⟩ i

theorem pname_small (i : Nat) (h1 : 1 ≤ i) (h2 : i < 100) (w : World) : Calls Tryz.prog 13 #[.int .i64 (i : Int)] w fun e w' => e = .returned (.string (nameP i)) ∧ w' = w := by
  go_enter Tryz.func13, Tryz.ntmps13
  go_wp2_with (go_at_call 33; refine (name_small _ (by decide) i h1 h2 _).mono ?_; rintro e w1 ⟨rfl, h⟩; subst w1)
  go_ret
  exact ⟨rfl, rfl⟩
theorem ptemp_small (i : Nat) (h1 : 1 ≤ i) (h2 : i < 100) (w : World) : Calls Tryz.prog 56 #[.int .i64 (i : Int)] w fun e w' => e = .returned (.string (nameT i)) ∧ w' = w := by
  go_enter Tryz.func56, Tryz.ntmps56
  go_wp2_with (go_at_call 33; refine (name_small _ (by decide) i h1 h2 _).mono ?_; rintro e w1 ⟨rfl, h⟩; subst w1)
  go_ret
  exact ⟨rfl, rfl⟩

end Go.Proofs.YtaaioaocjfpajaaGreatDoor
end

section
/-
  Plain mathematics of the tlv statements: trees of values by their depth, what their form takes, and their form; no program is named here.
-/
namespace Go.Proofs.YtaaioaocjfpajaaGreatDoor.Tlv

/-- A value nested at most n deep: its tag, its number, its bytes; the values in it. -/
def Tr : Nat → Type
  | 0 => Empty
  | n + 1 => (Int × Int × List Int) × List (Tr n)

def Tr.hd : {n : Nat} → Tr n → Int × Int × List Int
  | 0, t => by cases t
  | _ + 1, t => t.1

def Tr.kd {n : Nat} (t : Tr (n + 1)) : List (Tr n) := t.2

def Tr.mk {n : Nat} (tag num : Int) (bs : List Int) (ks : List (Tr n)) : Tr (n + 1) := ((tag, num, bs), ks)

/-- How many bytes a number takes. -/
def nsz (x : Int) : Int := ((Lib.bitLen x.toNat : Int) + 7) / 8

theorem bitLen_le64 (x : Nat) : Lib.bitLen x ≤ 64 := by
  have h : ∀ f x, Lib.bitLenAux f x ≤ f := by
    intro f
    induction f with
    | zero => intro x; simp [Lib.bitLenAux]
    | succ f ih => intro x; simp only [Lib.bitLenAux]; split; omega; have := ih (x / 2); omega
  exact h 64 x

theorem nsz_bd (x : Int) : 0 ≤ nsz x ∧ nsz x ≤ 8 := by
  have := bitLen_le64 x.toNat
  unfold nsz
  omega

/-- The other fields are empty. -/
def oeB (tag num : Int) (lb lk : Nat) : Bool := (tag == 1 || num == 0) && (tag == 2 || (lb : Int) == 0) && (tag == 3 || (lk : Int) == 0)

/-- The room that a list's values take, behind one another, 'acc' of it taken already. -/
def lszGo {α : Type} (f : α → Int → Int → Int × Bool) (room deep : Int) : Int → List α → Int × Bool
  | acc, [] => (acc, true)
  | acc, k :: ks => if (f k (room - acc - 3) (deep - 1)).2 then lszGo f room deep (acc + (3 + (f k (room - acc - 3) (deep - 1)).1)) ks else (0, false)

def lsz {α : Type} (f : α → Int → Int → Int × Bool) (ks : List α) (room deep : Int) : Int × Bool :=
  if deep = 0 then (0, false) else lszGo f room deep 0 ks

/-- What is behind the first three bytes of a form: how many bytes, and whether the value is right. -/
def bsz : (n : Nat) → Tr n → Int → Int → Int × Bool
  | 0, t, _, _ => by cases t
  | n + 1, t, room, deep =>
    if room < 0 ∨ oeB t.hd.1 t.hd.2.1 t.hd.2.2.length t.kd.length = false then (0, false)
    else if t.hd.1 = 1 then (nsz t.hd.2.1, decide (nsz t.hd.2.1 ≤ room))
    else if t.hd.1 = 2 then ((t.hd.2.2.length : Int), decide ((t.hd.2.2.length : Int) ≤ room))
    else if t.hd.1 = 3 then lsz (bsz n) t.kd room deep
    else (0, false)

/-- 'f' tells a room only where there is one. -/
def Fits {α : Type} (f : α → Int → Int → Int × Bool) : Prop := ∀ t room deep, (f t room deep).2 = true → 0 ≤ (f t room deep).1 ∧ (f t room deep).1 ≤ room

theorem lszGo_bd {α : Type} {f : α → Int → Int → Int × Bool} (hf : Fits f) (room deep : Int) (ks : List α) : ∀ acc, 0 ≤ acc → acc ≤ room →
    (lszGo f room deep acc ks).2 = true → acc ≤ (lszGo f room deep acc ks).1 ∧ (lszGo f room deep acc ks).1 ≤ room := by
  induction ks with
  | nil => intro acc h0 h1 _; simp [lszGo]; omega
  | cons k ks ih =>
    intro acc h0 h1 h2
    simp only [lszGo] at h2 ⊢
    split at h2
    · rename_i hk
      rw [if_pos hk]
      have b := hf k _ _ hk
      have := ih _ (by omega) (by omega) h2
      omega
    · simp at h2

theorem bsz_fits : ∀ n, Fits (bsz n)
  | 0, t, _, _, _ => by cases t
  | n + 1, t, room, deep, h => by
    simp only [bsz] at h ⊢
    split at h
    · simp at h
    · rename_i h0
      rw [if_neg h0]
      split at h
      · rename_i h1; rw [if_pos h1]; have := nsz_bd t.hd.2.1; simp at h ⊢; omega
      · rename_i h1
        rw [if_neg h1]
        split at h
        · rename_i h2; rw [if_pos h2]; simp at h ⊢; omega
        · rename_i h2
          rw [if_neg h2]
          split at h
          · rename_i h3
            rw [if_pos h3]
            unfold lsz at h ⊢
            split at h
            · simp at h
            · rename_i h4
              rw [if_neg h4]
              exact lszGo_bd (bsz_fits n) room deep _ 0 (by omega) (by have := not_or.1 h0; omega) h
          · simp at h

end Go.Proofs.YtaaioaocjfpajaaGreatDoor.Tlv
end
