/- Of the proof: the texts SimFile, SimSettle, SimSync, SimUp, SimUp2, TlvPlain, TlvBase, TlvSmall, TlvKids, TlvRefs, TlvRefSame, one behind the other. -/
import Derived.Test.YtaaioaocjfpajaaGreatDoorB2
import Derived.Laws.BitsAll
import Derived.Lib.BitFns
import Derived.Test.YtaaioaocjfpajaaGreatDoorRows
import Derived.WalkKit
import Derived.WalkSpells
import Derived.WalkLawsBesides
import Derived.Laws.AppendOwnNone
import Derived.Deep.QuietTactic
import Derived.BigQuiet
import Derived.Deep.AppendLies
import Derived.Deep.RegionHeld3
import Derived.Deep.DeepCutAuto
import Derived.Deep.DrawnRows
section
/-
  A file is written: Append, Fsync, Flip.
-/
namespace Go.Proofs.YtaaioaocjfpajaaGreatDoor.Sim
open Go.RowKit Go.Maps

/-- A file's block, or its bytes', are written. -/
theorem rq_setF {P P' : Nat → Prop} {I J : PS → Prop} {W W' : World} {s b : Nat} {q : PS} {vs vf vc v' : Value} {u : Nat → Value} {f f' : Fl} (h : Rp P I W s q vs vf vc u) (hb : q.files b = some f)
    (K : Kp (fun k => k = b ∨ (u b).ownBlock = some k) W W') (hF : FileAt W' b v' f') (hv : ∀ k, v'.ownBlock = some k → (u b).ownBlock = some k ∨ W.heap.size ≤ k) (hPP : ∀ x, P x → P' x) (hlt : ∀ x, P' x → x < W'.heap.size) (hvP : ∀ k, v'.ownBlock = some k → P' k) (hi : J (setF b f' q)) :
    Rp P' J W' s (setF b f' q) vs vf vc (fun x => if x = b then v' else u x) ∧ Kp P W W' := by
  obtain ⟨hPb, hFb, hPu⟩ := h.file b f hb
  have nb : ∀ x t cs, Blk W x t cs → x ≠ b → t ≠ 5 → ¬ (x = b ∨ (u b).ownBlock = some x) := fun x t cs hx hne ht e => by
    rcases e with e | e
    · exact hne e
    · exact hFb.own.row.ne hx ht e
  have nm' : ∀ m l, MapAt W m l → ¬ (m = b ∨ (u b).ownBlock = some m) := fun m l hm e => by
    rcases e with e | e
    · exact hm.blk hFb.blk e
    · exact hm.row hFb.own.row e
  have KP : Kp P W W' := K.mono (fun x hx => by
    rcases hx with rfl | hx
    · exact .inl hPb
    · exact .inl (hPu x hx))
  refine ⟨?_, KP⟩
  exact {
    lt := hlt
    ps := hPP _ h.ps
    blk := h.blk.kp K (nb s _ _ h.blk (h.blk.ne hFb.blk (by decide)) (by decide))
    seen := by
      rcases h.seen with ⟨h1, h2⟩ | ⟨m, h1, h2⟩
      · exact .inl ⟨h1, h2⟩
      · exact .inr ⟨m, h1, h2.kp K (nm' m _ h2)⟩
    safe := by
      rcases h.safe with ⟨h1, h2⟩ | ⟨m, h1, h2⟩
      · exact .inl ⟨h1, h2⟩
      · exact .inr ⟨m, h1, h2.kp K (nm' m _ h2)⟩
    unmade := h.unmade
    mades := fun e => by obtain ⟨a, c, h1, h2, h3, h4, h5⟩ := h.mades e; exact ⟨a, c, h1, h2, h3, hPP _ h4, hPP _ h5⟩
    chg := h.chg.kp K (fun x hx e => by
      rcases e with e | e
      · exact h.chg.ne hFb.blk (by decide) (by rw [hx, e])
      · exact hFb.own.row.ne' h.chg (by decide) x e hx)
    pc := fun x hx => hPP _ (h.pc x hx)
    file := fun x g hg => by
      have hg' : (if x = b then some f' else q.files x) = some g := hg
      by_cases e : x = b
      · subst e
        rw [if_pos rfl] at hg' ⊢
        cases hg'
        exact ⟨hPP _ hPb, hF, hvP⟩
      · rw [if_neg e] at hg' ⊢
        obtain ⟨h1, h2, h3⟩ := h.file x g hg'
        exact ⟨hPP _ h1, h2.kp K (nb x _ _ h2.blk e (by decide)) (fun k hk e' => by
          rcases e' with e' | e'
          · exact h2.own.row.ne hFb.blk (by decide) (by rw [hk, e'])
          · exact h.sep b x f g hb hg' (Ne.symm e) k e' hk), fun k hk => hPP _ (h3 k hk)⟩
    sep := fun x y g g' hx hy hne k hk => by
      have hx' : (if x = b then some f' else q.files x) = some g := hx
      have hy' : (if y = b then some f' else q.files y) = some g' := hy
      by_cases ex : x = b
      · subst ex
        have ey : y ≠ x := Ne.symm hne
        rw [if_pos rfl] at hk
        rw [if_neg ey] at hy' ⊢
        rcases hv k hk with h1 | h1
        · exact h.sep x y f g' hb hy' hne k h1
        · intro e
          have := h.lt k ((h.file y g' hy').2.2 k e)
          omega
      · rw [if_neg ex] at hx' hk
        by_cases ey : y = b
        · subst ey
          rw [if_pos rfl]
          intro e
          rcases hv k e with h1 | h1
          · exact h.sep x y g f hx' hb hne k hk h1
          · have := h.lt k ((h.file x g hx').2.2 k hk)
            omega
        · rw [if_neg ey] at hy' ⊢
          exact h.sep x y g g' hx' hy' hne k hk
    inv := hi }

theorem rp_setF {P : Nat → Prop} {I : PS → Prop} {M : Nat} {W W' : World} {s b : Nat} {q : PS} {vs vf vc v' : Value} {u : Nat → Value} {f f' : Fl} (h : Rp P I W s q vs vf vc u) (hb : q.files b = some f)
    (K : Kp (fun k => k = b ∨ (u b).ownBlock = some k) W W') (hF : FileAt W' b v' f') (hv : ∀ k, v'.ownBlock = some k → (u b).ownBlock = some k ∨ W.heap.size ≤ k) (hi : PInv M (setF b f' q)) :
    Sys (Ext P W W') M W' s (setF b f' q) ∧ Kp P W W' := by
  obtain ⟨h1, h2⟩ := rq_setF (P' := Ext P W W') (J := PInv M) h hb K hF hv (fun x hx => .inl hx) (fun x hx => by
    rcases hx with hx | hx
    · exact Nat.lt_of_lt_of_le (h.lt x hx) K.size
    · exact hx.2) (fun k hk => by
    rcases hv k hk with h1 | h1
    · exact .inl ((h.file b f hb).2.2 k h1)
    · exact .inr ⟨h1, hF.own.row.lt k hk⟩) hi
  exact ⟨⟨vs, vf, vc, _, h1⟩, h2⟩

set_option maxHeartbeats 1000000 in
theorem fsync1_any (W : World) (x b : Nat) (a : Option Addr) (n cap m : Nat) (hx : W.cell? ⟨x, 0, none⟩ = some (.pointer (some ⟨b, 0, none⟩))) (hb : Blk W b 110 [.slice a n cap, .int .i64 (m : Int)]) :
    Calls Tryz.prog 143 #[.pointer (some ⟨x, 0, none⟩)] W fun e w' => e = .returned (.tuple #[]) ∧ ∃ W1, Kp No W W1 ∧ w' = W1.setCell ⟨b, 1, none⟩ (.int .i64 (n : Int)) := by
  have c0 : W.cell? ⟨b, 0, none⟩ = some (.slice a n cap) := hb.cell 0
  have c1 : W.cell? ⟨b, 1, none⟩ = some (.int .i64 (m : Int)) := hb.cell 1
  have f1 := hb.frozen 1
  clear hb
  go_enter Tryz.func143, Tryz.ntmps143
  go_wp2_with fail
  go_region
  all_goals
    go_wp2_with fail
    go_end0
    exact ⟨rfl, W.drew, (Kp.refl _ _).drew, rfl⟩

/-- A step that writes a file. -/
theorem step_file {P : Nat → Prop} {N : Nat} (w0 w : World) (s : Nat) (p : PS) (b : Nat) (f' : Fl) (hk0 : Kp No w0 w) (h : Sys P N w0 s p) (hN : N + 1 ≤ 1000) (fn : FuncId) (caps : Array Value) (ent : ∀ args w, (callFunc fn args).run Tryz.prog w = .ok (.enter fn args) w)
    (hc : ∀ W vs vf vc u, Kp (· = s) w W → Rp P (PInv (N + 1)) W s (tick p) vs vf vc u → Calls Tryz.prog fn caps W fun e w' => e = .returned (.tuple #[]) ∧ Sys (Ext P W w') (N + 1) w' s (setF b f' (tick p)) ∧ Kp P W w') :
    Calls Tryz.prog 77 #[.pointer (some ⟨s, 0, none⟩), .func (.func fn) #[] caps] w fun e w' => e = .returned (.int .i64 ((stp p (setF b f')).1 : Nat)) ∧ Done P (N + 1) w0 w' s (stp p (setF b f')).2 := by
  have hps := h.c.1
  cases hd : dead p with
  | true =>
    have e1 : stp p (setF b f') = (12, fall p) := by simp [stp, hd]
    rw [e1]
    refine (step_dead w s p (h.kept hk0) hd _).mono ?_
    rintro e w' ⟨rfl, hS, hk⟩
    exact ⟨rfl, P, hS.more (by omega) hN, (hk0.mono (fun _ h => h.elim)).trans hk (fun x hx => .inl (by subst hx; exact hps)), fun _ h => .inl h⟩
  | false =>
    have e1 : stp p (setF b f') = (0, setF b f' (tick p)) := by simp [stp, hd]
    rw [e1]
    refine step_live w s p (h.kept hk0) hd hN fn caps ent _ ?_
    rintro W kW ⟨vs, vf, vc, u, hR⟩
    refine (hc W vs vf vc u kW hR).mono ?_
    rintro e w' ⟨rfl, hS, hk⟩
    have kw : Kp P w0 W := (hk0.mono (fun _ h => h.elim)).trans kW (fun x hx => .inl (by subst hx; exact hps))
    refine ⟨rfl, _, hS, kw.trans hk (fun x hx => .inl hx), fun x hx => ?_⟩
    rcases hx with hx | hx
    · exact .inl hx
    · exact .inr (Nat.le_trans kw.size hx.1)

/-- The place of a box behind what a step has written. -/
theorem boxed {s : Nat} {w1 W : World} {v : Value} {t : TypeId} (hs : s < w1.heap.size) (k : Kp (· = s) (w1.alloc (.cells #[v] t)) W) : W.cell? ⟨w1.heap.size, 0, none⟩ = some v := by
  have := (Blk.new w1 t [v]).kp k (fun e => by omega)
  exact this.cell 0

set_option maxHeartbeats 1000000 in
theorem fsync_any {P : Nat → Prop} {N : Nat} (w : World) (s : Nat) (p : PS) (t : ByteArray) (ht : t.size ≤ 20000000) (h : Sys P N w s p) (hN : N + 1 ≤ 1000) :
    Calls Tryz.prog 108 #[.pointer (some ⟨s, 0, none⟩), .string t] w fun e w' => e = .returned (.int .i64 ((pFsync (nm t) p).1 : Nat)) ∧ Done P (N + 1) w w' s (pFsync (nm t) p).2 := by
  have HC := hid (find_any w s p t ht h)
  have hI := h.inv
  have H := hid h
  have hmk := hmf
  have hsl := h.c.2.1
  by_cases h0 : finds p (nm t) = 0
  · obtain ⟨b, hb⟩ := found_zero hI h0
    obtain ⟨_, hd, _⟩ := pBytes_of hb
    have hf := hI.hasFound hd
    have e1 : pFsync (nm t) p = stp p (setF b ⟨(fileAt p b).b, (fileAt p b).b.length⟩) := by simp [pFsync, h0, blockOf, hd]
    have HST : Hid (∀ w1, Kp No w w1 → Calls Tryz.prog 77 #[.pointer (some ⟨s, 0, none⟩), .func (.func 143) #[] #[.pointer (some ⟨w1.heap.size, 0, none⟩)]] (w1.alloc (.cells #[.pointer (some ⟨b, 0, none⟩)] 106)) fun e w' =>
        e = .returned (.int .i64 ((pFsync (nm t) p).1 : Nat)) ∧ Done P (N + 1) w w' s (pFsync (nm t) p).2) := by
      intro w1 hk
      rw [e1]
      refine step_file w _ s p b _ (hk.alloc _) h hN 143 _ (enters_of Tryz.func143 (by kernel_rfl) rfl) ?_
      intro W vs vf vc u kW hR
      obtain ⟨hPb, hFb, hPu⟩ := hR.file b _ hf
      obtain ⟨a, cap, hv, hle, _⟩ := hFb.own.shape
      have hblk := hFb.blk
      rw [hv] at hblk
      refine (fsync1_any W w1.heap.size b a _ cap _ (boxed (Nat.lt_of_lt_of_le hsl hk.size) kW) hblk).mono ?_
      rintro e w' ⟨rfl, W1, k1, rfl⟩
      have kK : Kp (fun k => k = b ∨ (u b).ownBlock = some k) W (W1.setCell ⟨b, 1, none⟩ (.int .i64 ((fileAt p b).b.length : Int))) := (k1.mono (fun _ h => h.elim)).setCell (p := ⟨b, 1, none⟩) (.inl (.inl rfl)) _
      have hS := rp_setF (f' := ⟨(fileAt p b).b, (fileAt p b).b.length⟩) (v' := u b) hR hf kK ?_ (fun k hk => .inl hk) (inv_setF hR.inv (show (fileAt p b).b.length ≤ 12000 * (N + 1) from hR.inv.lfile b (fileAt p b) hf))
      · exact ⟨rfl, hS.1, hS.2⟩
      · refine ⟨(hFb.blk.kp k1 (fun h => h)).setCell 1 _, ?_, hFb.byt, Nat.le_refl _⟩
        exact (hFb.own.kept k1).row.kp (Kp.set1 W1 b 1 _) (fun k hk e => hFb.own.row.ne hFb.blk (by decide) (by rw [hk, e]))
    rw [h0, hb] at HC
    have e0 : ptrV (some b) = .pointer (some ⟨b, 0, none⟩) := rfl
    rw [e0] at HC
    generalize pFsync (nm t) p = R at *
    clear e1 e0 hd hb h0 hI h hf
    go_enter Tryz.func108, Tryz.ntmps108
    go_wp2_with (first | (go_at_call 32; refine (HC.out).mono ?_; rintro e w1 ⟨rfl, h1⟩; have H1 := hid h1; clear h1) | (go_at_call 77; refine (HST.out w1 H1.out).mono ?_; rintro e w2 ⟨rfl, h2⟩; have H2 := hid h2; clear h2))
    go_ret
    exact ⟨rfl, H2.out⟩
  · have e1 : pFsync (nm t) p = (finds p (nm t), p) := by simp [pFsync, h0]
    have hn : foundP p (nm t) = none := by simp [foundP, h0]
    rw [e1]
    rw [hn] at HC
    have e0 : ptrV none = .pointer none := rfl
    rw [e0] at HC
    generalize finds p (nm t) = x at *
    have hne : ((x : Int) != 0) = true := by simp; omega
    clear e1 e0 hn h0 hI h
    go_enter Tryz.func108, Tryz.ntmps108
    go_wp2_with (go_at_call 32; refine (HC.out).mono ?_; rintro e w1 ⟨rfl, h1⟩; have H1 := hid h1; clear h1)
    go_ret
    exact ⟨rfl, (Done.of (H.out.more (by omega) hN) (Kp.refl _ _)).kept (H1.out.alloc _)⟩

/-! ### Append -/
set_option maxHeartbeats 4000000 in
theorem append1_any {Q : Nat → Prop} (W : World) (x y b : Nat) (v vb : Value) (bs ys : List Nat) (m : Nat) (hx : Blk W x 106 [.pointer (some ⟨b, 0, none⟩)]) (hy : Blk W y 54 [vb]) (hb : Blk W b 110 [v, .int .i64 (m : Int)]) (hv : OwnB W v bs) (hvb : ByP Q W vb ys) (hl : bs.length + ys.length ≤ 20000000) :
    Calls Tryz.prog 142 #[.pointer (some ⟨x, 0, none⟩), .pointer (some ⟨y, 0, none⟩)] W fun e w' => e = .returned (.tuple #[]) ∧ ∃ a' cap' W1, OwnB W1 (.slice a' (bs.length + ys.length) cap') (bs ++ ys) ∧ Kp (fun k => v.ownBlock = some k) W W1 ∧ ((Value.slice a' (bs.length + ys.length) cap').ownBlock = v.ownBlock ∨ (Value.slice a' (bs.length + ys.length) cap').ownBlock = some W.heap.size) ∧
      w' = W1.setCell ⟨b, 0, none⟩ (.slice a' (bs.length + ys.length) cap') := by
  have b0 : W.cell? ⟨x, 0, none⟩ = some (.pointer (some ⟨b, 0, none⟩)) := hx.cell 0
  have y0 : W.cell? ⟨y, 0, none⟩ = some vb := hy.cell 0
  have c0 : W.cell? ⟨b, 0, none⟩ = some v := hb.cell 0
  have f0 := hb.frozen 0
  have hxl := hx.lt
  have hyl := hy.lt
  have hbl := hb.lt
  have HOV := hid hv
  have HSR := hid hvb.src
  have hvx : Hid (v.ownBlock ≠ some x ∧ v.ownBlock ≠ some b) := ⟨hv.row.ne hx (by decide), hv.row.ne hb (by decide)⟩
  obtain ⟨a, cap, rfl, _⟩ := hv.shape
  obtain ⟨a1, cap1, rfl, _⟩ := hvb
  clear hx hy hb
  go_enter Tryz.func142, Tryz.ntmps142
  go_wp2_with fail
  go_region_law (refine step_app _ (by rfl) (.tmp 6) (.tmp 7) 54 5 (.int .u8 0) 1 1 (by rfl) Tryz.underlying54 Tryz.info5 rfl (by decide) (.slice a bs.length cap) (.slice a1 ys.length cap1) bs.length ys.length (cl bs) (cl ys) (by simp [Act.eval]) (by simp [Act.eval]) HOV.out.row HSR.out (by omega) (by decide) ?_; intro a2 cap2 w2 hr2 hg2 hb2; have HR2 := hid hr2; have HG2 := hid hg2; have HB2 := hid hb2; have z0 : w2.cell? ⟨b, 0, none⟩ = some (.slice a bs.length cap) := hg2.cell c0 (fun e => hvx.out.2 e.symm); have zf : w2.frozen? ⟨b, 0, none⟩ = false := ((Kp.ofGrown hg2).frozen (p := ⟨b, 0, none⟩) hbl (fun e => hvx.out.2 e)).trans f0; have zx : w2.cell? ⟨x, 0, none⟩ = some (.pointer (some ⟨b, 0, none⟩)) := hg2.cell b0 (fun e => hvx.out.1 e.symm); clear hr2 hg2 hb2)
  all_goals
    go_end0
    refine ⟨rfl, a2, cap2, w2, ?_, (Kp.refl _ _).drew.grown HG2.out (fun x hx => .inl hx), HB2.out, rfl⟩
    unfold OwnB
    rw [cl_append, List.length_append]
    exact HR2.out

theorem append_nil (t : ByteArray) (a : Option Addr) (n cap : Nat) (w : World) : Calls Tryz.prog 106 #[.pointer none, .string t, .slice a n cap] w fun e w' => e = .returned (.int .i64 18) ∧ Kp No w w' := by
  go_enter Tryz.func106, Tryz.ntmps106
  go_wp2_with (go_at_call 32; refine (find_nil t _).mono ?_; rintro e w1 ⟨rfl, h1⟩; have H1 : Hid (Kp No w w1) := ((Kp.refl _ _).alloc _).andNone h1; clear h1)
  go_ret
  exact ⟨rfl, H1.out.alloc _⟩

theorem used_le {N : Nat} {p : PS} (hI : PInv N p) : used p ≤ 1000 * 12000000 := by
  have h := sumBy_le (fun b => (fileAt p b).b.length) 12000000 (fun _ => false) p.seen (fun e he => by
    obtain ⟨f, hf⟩ := Option.isSome_iff_exists.1 (hI.hasSeen e he).1
    have := hI.lfile _ f hf
    have := hI.big
    simp only [fileAt, hf, Option.getD_some]
    omega)
  rw [sumBy_end _ _ _ (fun _ => rfl)] at h
  exact Nat.le_trans h (Nat.mul_le_mul_right _ (Nat.le_trans hI.lseen hI.big))

set_option maxHeartbeats 2000000 in
theorem append_any {P Q : Nat → Prop} {N : Nat} (w : World) (s : Nat) (p : PS) (t : ByteArray) (vb : Value) (ys : List Nat) (ht : t.size ≤ 20000000) (h : Sys P N w s p) (hN : N + 1 ≤ 1000) (hy : ByP Q w vb ys) (hQ : ∀ x, Q x → ¬ P x) (hl : ys.length ≤ 12000) :
    Calls Tryz.prog 106 #[.pointer (some ⟨s, 0, none⟩), .string t, vb] w fun e w' => e = .returned (.int .i64 ((pAppend (nm t) ys p).1 : Nat)) ∧ Done P (N + 1) w w' s (pAppend (nm t) ys p).2 := by
  have hI := h.inv
  have H := hid h
  have hmk := hmf
  have hsl := h.c.2.1
  have hps := h.c.1
  have hul := used_le hI
  have hrl := hI.room
  have HY := hid hy
  have HQ := hid hQ
  obtain ⟨a, cap, rfl, hy1, hy2, _⟩ := hy
  have hc0 : Hid (∀ V, Kp No w V → V.cell? ⟨s, 0, none⟩ = some (.int .i64 (p.room : Int))) := fun V k => by
    obtain ⟨vs, vf, vc, u, hR⟩ := h
    exact (k.cell (p := ⟨s, 0, none⟩) hsl (fun h => h)).trans (hR.c 0)
  have HC : Hid (Calls Tryz.prog 32 #[.pointer (some ⟨s, 0, none⟩), .string t] (w.alloc (.cells #[.slice a ys.length cap] 54)) fun e w' => e = .returned (.tuple #[ptrV (foundP p (nm t)), .int .i64 (finds p (nm t) : Nat)]) ∧ Kp No (w.alloc (.cells #[.slice a ys.length cap] 54)) w') := find_any _ s p t ht (h.kept ((Kp.refl _ _).alloc _))
  have HU : Hid (∀ V, Kp No w V → Calls Tryz.prog 141 #[.pointer (some ⟨s, 0, none⟩)] V fun e w' => e = .returned (.int .i64 (used p : Nat)) ∧ Kp No V w') := fun V k => used_any V s p (h.kept k)
  by_cases h0 : finds p (nm t) = 0
  · obtain ⟨b, hb⟩ := found_zero hI h0
    obtain ⟨_, hd, _⟩ := pBytes_of hb
    have hf := hI.hasFound hd
    rw [h0, hb] at HC
    have e0 : ptrV (some b) = .pointer (some ⟨b, 0, none⟩) := rfl
    rw [e0] at HC
    have HST : Hid (used p + ys.length ≤ p.room → ∀ w1, Kp No (w.alloc (.cells #[.slice a ys.length cap] 54)) w1 → ∀ W0, Kp No (w1.alloc (.cells #[.pointer (some ⟨b, 0, none⟩)] 106)) W0 → Calls Tryz.prog 77 #[.pointer (some ⟨s, 0, none⟩), .func (.func 142) #[] #[.pointer (some ⟨w1.heap.size, 0, none⟩), .pointer (some ⟨w.heap.size, 0, none⟩)]] W0 fun e w' =>
        e = .returned (.int .i64 ((pAppend (nm t) ys p).1 : Nat)) ∧ Done P (N + 1) w w' s (pAppend (nm t) ys p).2) := by
      intro hroom w1 hk1 W0 hk0
      have e1 : pAppend (nm t) ys p = stp p (setF b ⟨(fileAt p b).b ++ ys, (fileAt p b).safe⟩) := by
        have : ¬ (used p + ys.length > p.room) := by omega
        simp [pAppend, h0, blockOf, hd, this]
      rw [e1]
      have kA : Kp No w w1 := ((Kp.refl _ _).alloc _).andNone hk1
      have kB : Kp No w W0 := (kA.alloc _).andNone hk0
      have hz : w.heap.size < w1.heap.size := by have := hk1.size; simp at this; omega
      refine step_file w W0 s p b _ kB h hN 142 _ (enters_of Tryz.func142 (by kernel_rfl) rfl) ?_
      intro W vs vf vc u kW hR
      obtain ⟨hPb, hFb, hPu⟩ := hR.file b _ hf
      have hx : Blk W w1.heap.size 106 [.pointer (some ⟨b, 0, none⟩)] := ((Blk.new w1 106 [.pointer (some ⟨b, 0, none⟩)]).kp hk0 (fun h => h)).kp kW (fun e => by omega)
      have hyb : Blk W w.heap.size 54 [.slice a ys.length cap] := ((((Blk.new w 54 [.slice a ys.length cap]).kp hk1 (fun h => h)).kp (L := No) ((Kp.refl _ _).alloc _) (fun h => h)).kp hk0 (fun h => h)).kp kW (fun e => by omega)
      have hby : ByP Q W (.slice a ys.length cap) ys := (HY.out.kept kB).kp kW (fun x hx _ hq => HQ.out x hq (by subst hx; exact hps))
      have hfl : (fileAt p b).b.length ≤ 12000 * N := hI.lfile b _ hf
      have hbig := hI.big
      refine (append1_any W w1.heap.size w.heap.size b (u b) _ (fileAt p b).b ys _ hx hyb hFb.blk hFb.own hby (by omega)).mono ?_
      rintro e w' ⟨rfl, a', cap', W1, ho, k1, hbl, rfl⟩
      have kK : Kp (fun k => k = b ∨ (u b).ownBlock = some k) W (W1.setCell ⟨b, 0, none⟩ (.slice a' ((fileAt p b).b.length + ys.length) cap')) := (k1.mono (fun x hx => .inl (.inr hx))).setCell (p := ⟨b, 0, none⟩) (.inl (.inl rfl)) _
      have hbn : (u b).ownBlock ≠ some b := hFb.own.row.ne hFb.blk (by decide)
      have hB1 := hFb.blk.kp k1 (fun e => hbn e)
      have hS := rp_setF (f' := ⟨(fileAt p b).b ++ ys, (fileAt p b).safe⟩) (v' := .slice a' ((fileAt p b).b.length + ys.length) cap') hR hf kK ?_ (fun k hk => ?_) (inv_setF hR.inv (by simp; omega))
      · exact ⟨rfl, hS.1, hS.2⟩
      · refine ⟨hB1.setCell 0 _, ?_, fun x hx => ?_, by have := hFb.le; simp; omega⟩
        · exact ho.row.kp (Kp.set1 W1 b 0 _) (fun k hk e => ho.row.ne hB1 (by decide) (by rw [hk, e]))
        · rcases List.mem_append.1 hx with hx | hx
          · exact hFb.byt x hx
          · obtain ⟨_, _, _, _, _, _, _, h6, _⟩ := hby
            exact h6 x hx
      · rcases hbl with h1 | h1
        · rw [h1] at hk; exact .inl hk
        · rw [h1] at hk; simp at hk; exact .inr (by omega)
    have hbx : Hid (∀ V, Kp No (w.alloc (.cells #[.slice a ys.length cap] 54)) V → V.cell? ⟨w.heap.size, 0, none⟩ = some (.slice a ys.length cap)) := fun V k => ((Blk.new w 54 [.slice a ys.length cap]).kp k (fun h => h)).cell 0
    have hS0 : Hid (Kp No w (w.alloc (.cells #[.slice a ys.length cap] 54))) := (Kp.refl _ _).alloc _
    have e1 : used p + ys.length > p.room → pAppend (nm t) ys p = (11, p) := fun hr => by simp [pAppend, h0, hr]
    have HE := hid e1
    generalize pAppend (nm t) ys p = R at *
    clear e1 e0 hd hb h0 hI h hf
    generalize used p = U at *
    go_enter Tryz.func106, Tryz.ntmps106
    go_wp2_with (go_at_call 32; refine (HC.out).mono ?_; rintro e w1 ⟨rfl, h1⟩; have H1 := hid h1; clear h1)
    have kW : Hid (Kp No (w.alloc (.cells #[.slice a ys.length cap] 54)) (w1.alloc (.cells #[.pointer (some ⟨b, 0, none⟩)] 106))) := H1.out.alloc _
    have kWw : Hid (Kp No w (w1.alloc (.cells #[.pointer (some ⟨b, 0, none⟩)] 106))) := hS0.out.andNone kW.out
    have HST1 : Hid (U + ys.length ≤ p.room → ∀ W0, Kp No (w1.alloc (.cells #[.pointer (some ⟨b, 0, none⟩)] 106)) W0 → Calls Tryz.prog 77 #[.pointer (some ⟨s, 0, none⟩), .func (.func 142) #[] #[.pointer (some ⟨w1.heap.size, 0, none⟩), .pointer (some ⟨w.heap.size, 0, none⟩)]] W0 fun e w' =>
        e = .returned (.int .i64 (R.1 : Nat)) ∧ Done P (N + 1) w w' s R.2) := fun hr => HST.out hr w1 H1.out
    generalize hWx : w1.alloc (.cells #[.pointer (some ⟨b, 0, none⟩)] 106) = Wx at *
    clear hWx
    have r0 : ∀ V, Kp No Wx V → V.cell? ⟨w.heap.size, 0, none⟩ = some (.slice a ys.length cap) := fun V k => hbx.out V (kW.out.andNone k)
    have r1 : ∀ V, Kp No Wx V → V.cell? ⟨s, 0, none⟩ = some (.int .i64 (p.room : Int)) := fun V k => hc0.out V (kWw.out.andNone k)
    have hwr : IntKind.i64.wrap ((p.room : Int) - (U : Int)) = (p.room : Int) - (U : Int) := by rw [IntKind.wrap_i64]; omega
    by_cases hroom : U + ys.length ≤ p.room
    · have hle : ¬ ((p.room : Int) - (U : Int) < (ys.length : Int)) := by omega
      go_region_held3 (fun V => Kp No Wx V) (first | (with_reducible exact Kp.refl _ _) | (with_reducible exact (Kp.refl _ _).drew) | (with_reducible exact HK1.out)) (first | (go_at_call 141; refine (HU.out _ ?_).mono ?_; (with_reducible exact kWw.out.drew); rintro e w2 ⟨rfl, hk1⟩; have HK1 : Hid (Kp No Wx w2) := (Kp.refl _ _).drew.andNone hk1; clear hk1))
      go_wp2_with (go_at_call 77; refine (HST1.out hroom w2 HK1.out).mono ?_; rintro e w3 ⟨rfl, h3⟩; have H3 := hid h3; clear h3)
      go_ret
      exact ⟨rfl, H3.out⟩
    · have hgt : (p.room : Int) - (U : Int) < (ys.length : Int) := by omega
      have hR := HE.out (by omega)
      subst hR
      go_region_held3 (fun V => Kp No Wx V) (first | (with_reducible exact Kp.refl _ _) | (with_reducible exact (Kp.refl _ _).drew) | (with_reducible exact HK1.out)) (first | (go_at_call 141; refine (HU.out _ ?_).mono ?_; (with_reducible exact kWw.out.drew); rintro e w2 ⟨rfl, hk1⟩; have HK1 : Hid (Kp No Wx w2) := (Kp.refl _ _).drew.andNone hk1; clear hk1))
      go_wp2
      go_ret
      exact ⟨rfl, (Done.of (H.out.more (by omega) hN) (Kp.refl _ _)).kept (kWw.out.andNone HK1.out)⟩
  · have e1 : pAppend (nm t) ys p = (finds p (nm t), p) := by simp [pAppend, h0]
    have hn : foundP p (nm t) = none := by simp [foundP, h0]
    rw [e1]
    rw [hn] at HC
    have e0 : ptrV none = .pointer none := rfl
    rw [e0] at HC
    generalize finds p (nm t) = x at *
    have hne : ((x : Int) != 0) = true := by simp; omega
    clear e1 e0 hn h0 hI h
    go_enter Tryz.func106, Tryz.ntmps106
    go_wp2_with (go_at_call 32; refine (HC.out).mono ?_; rintro e w1 ⟨rfl, h1⟩; have H1 : Hid (Kp No w w1) := ((Kp.refl _ _).alloc _).andNone h1; clear h1)
    go_ret
    exact ⟨rfl, (Done.of (H.out.more (by omega) hN) (Kp.refl _ _)).kept (H1.out.alloc _)⟩

end Go.Proofs.YtaaioaocjfpajaaGreatDoor.Sim
end

section
/-
  Flip; settle, SyncDir, Arm, New.
-/
namespace Go.Proofs.YtaaioaocjfpajaaGreatDoor.Sim
open Go.RowKit Go.Maps

/-! ### Flip -/
theorem row_cell {w : World} {g n cap : Nat} {xs : List Nat} (h : OwnB w (.slice (some ⟨g, 0, none⟩) n cap) xs) (hn : n = xs.length) (k : Nat) (hk : k < xs.length) : w.cell? ⟨g, k, none⟩ = some (.int .u8 (xs.getD k 0 : Nat)) ∧ w.frozen? ⟨g, k, none⟩ = false := by
  subst hn
  refine ⟨by rw [h.row.cellAt k (by omega)]; exact cl_at xs k hk, ?_⟩
  rcases h.row.2 with ⟨e, _⟩ | ⟨g', cap', cur, e, _, hh, _⟩
  · cases e
  · cases e
    simp [World.frozen?, hh]
theorem OwnB.set {w : World} {g n cap : Nat} {xs : List Nat} (h : OwnB w (.slice (some ⟨g, 0, none⟩) n cap) xs) (k y : Nat) : OwnB (w.setCell ⟨g, k, none⟩ (.int .u8 (y : Int))) (.slice (some ⟨g, 0, none⟩) n cap) (xs.set k y) := by
  have hcl : cl (xs.set k y) = (cl xs).set k (.int .u8 (y : Int)) := by simp [cl, List.map_set]
  rcases h.row.2 with ⟨e, _⟩ | ⟨g', cap', cur, e, hb, hh, h1, h2, h3, h4⟩
  · cases e
  · cases e
    refine ⟨by simp [cl], .inr ⟨g, cap, cur.setIfInBounds k (.int .u8 (y : Int)), by simp, hb, ?_, by simpa using h1, h2, by simpa using h3, ?_⟩⟩
    · simp [World.setCell, Array.getElem?_modify, hh]
    · rw [hcl, Array.toList_setIfInBounds, List.length_set]
      rw [← h4, ← List.take_set]

set_option maxHeartbeats 1000000 in
theorem flip_any {P : Nat → Prop} {N : Nat} (w : World) (s : Nat) (p : PS) (t : ByteArray) (k : Int) (x : Nat) (hx : x < 256) (ht : t.size ≤ 20000000) (h : Sys P N w s p) (hN : N + 1 ≤ 1000) :
    Calls Tryz.prog 12 #[.pointer (some ⟨s, 0, none⟩), .string t, .int .i64 k, .int .u8 (x : Int)] w fun e w' => e = .returned (.int .i64 ((pFlip (nm t) k x p).1 : Nat)) ∧ Done P (N + 1) w w' s (pFlip (nm t) k x p).2 := by
  have HC := hid (find_any w s p t ht h)
  have hI := h.inv
  have H := hid h
  by_cases h0 : finds p (nm t) = 0
  · obtain ⟨b, hb⟩ := found_zero hI h0
    obtain ⟨_, hd, _⟩ := pBytes_of hb
    have hf := hI.hasFound hd
    have hlen := hI.lfile b _ hf
    have hbig := hI.big
    obtain ⟨vs, vf, vc, u, hR⟩ := h
    obtain ⟨hPb, hFb, hPu⟩ := hR.file b _ hf
    have hbl := hR.lt b hPb
    have HR := hid hR
    have HF := hid hFb
    rw [h0, hb] at HC
    have e0 : ptrV (some b) = .pointer (some ⟨b, 0, none⟩) := rfl
    rw [e0] at HC
    obtain ⟨a, cap, hv, hle, hcap, hnil⟩ := hFb.own.shape
    have HV := hid hv
    have hub := hR.file b _ hf
    by_cases hk : k < 0 ∨ ((fileAt p b).b.length : Int) ≤ k
    · have e1 : pFlip (nm t) k x p = (1, p) := by simp [pFlip, h0, blockOf, hd, hk]
      rw [e1]
      have HB : Hid (∀ V, Kp No w V → V.cell? ⟨b, 0, none⟩ = some (.slice a (fileAt p b).b.length cap)) := fun V kV => by
        have := (hFb.blk.kp kV (fun h => h)).cell 0
        rw [hv] at this
        exact this
      generalize (fileAt p b).b.length = L at *
      clear e1 e0 hd hb h0 hI hf hR hFb hub hv HF HV hnil HR
      rcases hk with hk | hk
      · go_enter Tryz.func12, Tryz.ntmps12
        go_wp2_with (go_at_call 32; refine (HC.out).mono ?_; rintro e w1 ⟨rfl, h1⟩; have H1 := hid h1; clear h1)
        go_ret
        exact ⟨rfl, (Done.of (H.out.more (by omega) hN) (Kp.refl _ _)).kept H1.out⟩
      · have hk0 : ¬ k < 0 := by omega
        go_enter Tryz.func12, Tryz.ntmps12
        go_wp2_with (go_at_call 32; refine (HC.out).mono ?_; rintro e w1 ⟨rfl, h1⟩; have H1 := hid h1; have c0 := HB.out _ h1; clear h1)
        go_ret
        exact ⟨rfl, (Done.of (H.out.more (by omega) hN) (Kp.refl _ _)).kept H1.out⟩
    · obtain ⟨i, rfl⟩ : ∃ i : Nat, k = i := ⟨k.toNat, by omega⟩
      have hil : i < (fileAt p b).b.length := by omega
      obtain ⟨g, rfl⟩ : ∃ g, a = some ⟨g, 0, none⟩ := by
        rcases hFb.own.row.2 with ⟨e, e2⟩ | ⟨g, cap', cur, e, _⟩
        · omega
        · rw [hv] at e; cases e; exact ⟨g, rfl⟩
      rw [hv] at hFb hPu
      have e1 : pFlip (nm t) i x p = (0, setF b ⟨(fileAt p b).b.set i ((fileAt p b).b.getD i 0 ^^^ x), (fileAt p b).safe⟩ p) := by
        simp [pFlip, h0, blockOf, hd, hil]
      rw [e1]
      have hyl : (fileAt p b).b.getD i 0 < 256 := by
        rw [getD_at hil]
        exact hFb.byt _ (List.getElem_mem hil)
      have hxor := u8_xor_nat ((fileAt p b).b.getD i 0) x hyl hx
      have HX : Hid (((fileAt p b).b.getD i 0 ^^^ x) < 256) := Nat.xor_lt_two_pow (n := 8) hyl hx
      have HB : Hid (∀ V, Kp No w V → V.cell? ⟨b, 0, none⟩ = some (.slice (some ⟨g, 0, none⟩) (fileAt p b).b.length cap) ∧ V.cell? ⟨g, i, none⟩ = some (.int .u8 ((fileAt p b).b.getD i 0 : Nat)) ∧ V.frozen? ⟨g, i, none⟩ = false) := fun V kV => by
        refine ⟨(hFb.blk.kp kV (fun h => h)).cell 0, ?_⟩
        exact row_cell (hFb.own.kept kV) rfl i hil
      have HE : Hid (∀ V, Kp No w V → Done P (N + 1) w (V.setCell ⟨g, i, none⟩ (.int .u8 (((fileAt p b).b.getD i 0 ^^^ x : Nat) : Int))) s (setF b ⟨(fileAt p b).b.set i ((fileAt p b).b.getD i 0 ^^^ x), (fileAt p b).safe⟩ p)) := fun V kV => by
        have hRV := HR.out.kp kV (fun _ h => h.elim)
        have hFV := hFb.kp kV (fun h => h) (fun _ _ h => h)
        have hgb : g ≠ b := fun e => hFV.own.row.ne hFV.blk (by decide) (by rw [← e]; rfl)
        have kK : Kp (fun k => k = b ∨ (u b).ownBlock = some k) V (V.setCell ⟨g, i, none⟩ (.int .u8 (((fileAt p b).b.getD i 0 ^^^ x : Nat) : Int))) := (Kp.refl _ _).setCell (p := ⟨g, i, none⟩) (.inl (.inr (by rw [HV.out]; rfl))) _
        have hS := rp_setF (M := N + 1) (f' := ⟨(fileAt p b).b.set i ((fileAt p b).b.getD i 0 ^^^ x), (fileAt p b).safe⟩) (v' := .slice (some ⟨g, 0, none⟩) (fileAt p b).b.length cap) hRV hf kK ?_ (fun k hk => .inl (by rw [HV.out]; exact hk)) (inv_setF (HR.out.inv.mono (by omega) hN) (by simp; omega))
        · exact ⟨_, hS.1, (kV.mono (fun _ h => h.elim)).trans hS.2 (fun x hx => .inl hx), fun y hy => by
            rcases hy with hy | hy
            · exact .inl hy
            · exact .inr (Nat.le_trans kV.size hy.1)⟩
        · refine ⟨(hFV.blk.kp (Kp.set1 V g i _) (Ne.symm hgb)), hFV.own.set i _, fun y hy => ?_, by simpa using hFV.le⟩
          rcases List.mem_or_eq_of_mem_set hy with h1 | rfl
          · exact hFV.byt y h1
          · exact HX.out
      have hil' : (i : Int) < ((fileAt p b).b.length : Int) := by omega
      generalize (fileAt p b).b.getD i 0 = y at *
      generalize (setF b ⟨(fileAt p b).b.set i (y ^^^ x), (fileAt p b).safe⟩ p) = R at *
      generalize (fileAt p b).b.length = L at *
      clear e1 e0 hd hb h0 hI hf hR hFb hub hv HF HV hnil hk HR hPu
      go_enter Tryz.func12, Tryz.ntmps12
      go_wp2_with (go_at_call 32; refine (HC.out).mono ?_; rintro e w1 ⟨rfl, h1⟩; have H1 := hid h1; obtain ⟨c0, c1, f1⟩ := HB.out _ h1; clear h1)
      go_ret
      exact ⟨rfl, HE.out _ H1.out⟩
  · have e1 : pFlip (nm t) k x p = (finds p (nm t), p) := by simp [pFlip, h0]
    have hn : foundP p (nm t) = none := by simp [foundP, h0]
    rw [e1]
    rw [hn] at HC
    have e0 : ptrV none = .pointer none := rfl
    rw [e0] at HC
    generalize finds p (nm t) = fx at *
    have hne : ((fx : Int) != 0) = true := by simp; omega
    clear e1 e0 hn h0 hI h
    go_enter Tryz.func12, Tryz.ntmps12
    go_wp2_with (go_at_call 32; refine (HC.out).mono ?_; rintro e w1 ⟨rfl, h1⟩; have H1 := hid h1; clear h1)
    go_ret
    exact ⟨rfl, (Done.of (H.out.more (by omega) hN) (Kp.refl _ _)).kept H1.out⟩

/-! ### settle -/
set_option maxHeartbeats 2000000 in
/-- settle, told by what it does to the blocks. -/
theorem settle_raw {P : Nat → Prop} {I : PS → Prop} (W : World) (s : Nat) (q : PS) (vs vc : Value) (mo : Option Nat) (u : Nat → Value) (n : Nat) (h : Rp P I W s q vs (.map mo) vc u) (hn : n ≤ q.chg.length) (hok : okcs q.safe q.chg) (hnm : ∀ c ∈ q.chg, c.nm.length ≤ 40 ∧ c.to.length ≤ 40) (hl : q.safe.length ≤ 1000) (hc : q.chg.length ≤ 1000) (hnm2 : q.made = false → q.chg = [] ∧ q.safe = []) :
    Calls Tryz.prog 39 #[.pointer (some ⟨s, 0, none⟩), .int .i64 (n : Int)] W fun e w' => e = .returned (.tuple #[]) ∧ ∃ W1, MapV W1 (.map mo) ((q.chg.take n).foldl pdo q.safe) ∧ Kp (fun k => mo = some k) W W1 ∧ w' = W1.setCell ⟨s, 3, none⟩ (.slice none 0 0) := by
  have hsl := h.lt s h.ps
  have c2 : W.cell? ⟨s, 2, none⟩ = some (.map mo) := h.c 2
  have c3 : W.cell? ⟨s, 3, none⟩ = some vc := h.c 3
  have f3 := h.blk.frozen 3
  obtain ⟨a, cap, hv, hle, hcap, hnil, hsp⟩ := h.chg.shape
  have hch : ChAt W (.slice a n cap) (q.chg.take n) := by
    have := h.chg.chAt (by omega)
    rw [hv] at this
    exact this.front n hn
  subst hv
  have hsm : ∀ k, mo = some k → s ≠ k := fun k e => by
    rcases h.safe with ⟨h1, _⟩ | ⟨b, h1, h2⟩
    · rw [e] at h1; cases h1
    · rw [e] at h1; cases h1; exact Ne.symm (h2.blk h.blk)
  have HD : Hid (Calls Tryz.prog 66 #[.map mo, .slice a n cap] W.drew fun e w' => e = .returned (.tuple #[]) ∧ MapV w' (.map mo) ((q.chg.take n).foldl pdo q.safe) ∧ Kp (fun k => mo = some k) W w') := by
    rcases h.safe with ⟨h1, h2⟩ | ⟨b, h1, h2⟩
    · have hq : q.chg = [] := by
        cases hm : q.made with
        | false => exact (hnm2 hm).1
        | true => obtain ⟨a, b, _, hb, _⟩ := h.mades hm; rw [h1] at hb; cases hb
      rw [hq] at hch ⊢
      refine (do_none (.map mo) W.drew _ (show ChAt W _ [] by simpa using hch)).mono ?_
      rintro e w' ⟨rfl, rfl⟩
      exact ⟨rfl, .inl ⟨h1, by simpa using h2⟩, (Kp.refl _ _).drew⟩
    · cases h1
      have hok' : okcs q.safe (q.chg.take n) := by
        have := hok
        rw [← List.take_append_drop n q.chg, okcs_append] at this
        exact this.1
      refine (do_any W.drew b q.safe _ (q.chg.take n) (h2.kp (L := No) (Kp.refl _ _).drew (fun h => h)) (by
        obtain ⟨a', cap', e, r1, r2, r3, r4⟩ := hch
        exact ⟨a', cap', e, r1, r2, r3, r4⟩) hok' (fun c hc' => by have := hnm c (List.mem_of_mem_take hc'); omega) (by have := List.length_take_le n q.chg; omega)).mono ?_
      rintro e w' ⟨rfl, r1, r2⟩
      exact ⟨rfl, .inr ⟨b, rfl, r1⟩, ((Kp.refl _ _).drew).trans r2 (fun x hx => .inl (by rw [hx]))⟩
  have HSM := hid hsm
  have hnc : (n : Int) ≤ (cap : Int) := by omega
  clear h hok hnm hnm2 hch hsm hsp hnil
  have hnq : n ≤ cap := by omega
  go_enter Tryz.func39, Tryz.ntmps39
  go_wp2_with fail
  have r2 : ∀ V, Kp (fun k => mo = some k) W V → V.cell? ⟨s, 2, none⟩ = some (.map mo) := fun V k => (k.cell (p := ⟨s, 2, none⟩) hsl (fun e => HSM.out s e rfl)).trans c2
  have r3 : ∀ V, Kp (fun k => mo = some k) W V → V.cell? ⟨s, 3, none⟩ = some (.slice a q.chg.length cap) := fun V k => (k.cell (p := ⟨s, 3, none⟩) hsl (fun e => HSM.out s e rfl)).trans c3
  have g3 : ∀ V, Kp (fun k => mo = some k) W V → V.frozen? ⟨s, 3, none⟩ = false := fun V k => (k.frozen (p := ⟨s, 3, none⟩) hsl (fun e => HSM.out s e rfl)).trans f3
  go_region_held3 (fun V => Kp (fun k => mo = some k) W V) (first | (with_reducible exact Kp.refl _ _) | (with_reducible exact (Kp.refl _ _).drew) | (with_reducible exact HK1.out)) (first | (go_at_call 66; refine (HD.out).mono ?_; rintro e w1 ⟨rfl, hm1, hk1⟩; have HM1 := hid hm1; have HK1 := hid hk1; clear hm1 hk1))
  have z3 := r3 _ HK1.out
  have y3 := g3 _ HK1.out
  clear r2 r3 g3
  go_wp2
  go_end0
  exact ⟨rfl, w1, HM1.out, HK1.out, rfl⟩

end Go.Proofs.YtaaioaocjfpajaaGreatDoor.Sim
end

section
/-
  SyncDir, Arm, New.
-/
namespace Go.Proofs.YtaaioaocjfpajaaGreatDoor.Sim
open Go.RowKit Go.Maps

theorem rq_settle {P : Nat → Prop} {I J : PS → Prop} {W W1 w' : World} {s : Nat} {q : PS} {vs vc : Value} {mo : Option Nat} {u : Nat → Value} {d : Dir} (h : Rp P I W s q vs (.map mo) vc u) (hm : MapV W1 (.map mo) d) (hk : Kp (fun k => mo = some k) W W1)
    (hw : w' = W1.setCell ⟨s, 3, none⟩ (.slice none 0 0)) (hi : J { q with safe := d, chg := [] }) : Rp P J w' s { q with safe := d, chg := [] } vs (.map mo) (.slice none 0 0) u ∧ Kp P W w' := by
  have hmP : ∀ k, mo = some k → P k := fun k e => h.mapS.2 k (by rw [e])
  have hmA : ∀ k, mo = some k → MapAt W k q.safe := fun k e => by
    rcases h.safe with ⟨h1, _⟩ | ⟨b, h1, h2⟩
    · rw [e] at h1; cases h1
    · rw [e] at h1; cases h1; exact h2
  have nb : ∀ x t cs, Blk W x t cs → ¬ (mo = some x) := fun x t cs hx e => (hmA x e).blk hx rfl
  have nr : ∀ {e : TypeId} {sz n : Nat} {v : Value} {xs : List Value}, Row W e sz v n xs → ∀ x, v.ownBlock = some x → ¬ (mo = some x) := fun hrow x hx e => (hmA x e).row hrow hx
  have hs1 := h.blk.kp hk (nb s _ _ h.blk)
  have kset : Kp (· = s) W1 w' := by rw [hw]; exact Kp.set1 _ _ _ _
  have K : Kp (fun k => k = s ∨ mo = some k) W w' := (hk.mono (fun x hx => .inl (.inr hx))).trans kset (fun x hx => .inl (.inl hx))
  refine ⟨?_, K.mono (fun x hx => by
    rcases hx with rfl | hx
    · exact .inl h.ps
    · exact .inl (hmP x hx))⟩
  exact {
    lt := fun x hx => Nat.lt_of_lt_of_le (h.lt x hx) K.size
    ps := h.ps
    blk := by rw [hw]; exact hs1.setCell 3 (.slice none 0 0)
    seen := by
      rcases h.seen with ⟨h1, h2⟩ | ⟨b, h1, h2⟩
      · exact .inl ⟨h1, h2⟩
      · refine .inr ⟨b, h1, h2.kp K (fun e => ?_)⟩
        rcases e with e | e
        · exact h2.blk h.blk e
        · have hmade : q.made = true := by
            cases hmd : q.made with
            | true => rfl
            | false => have := (h.unmade hmd).1; rw [h1] at this; cases this
          obtain ⟨a, c, ha, hc, hac, _⟩ := h.mades hmade
          rw [h1] at ha
          cases ha
          rw [e] at hc
          cases hc
          exact hac rfl
    safe := by
      rcases hm with ⟨h1, h2⟩ | ⟨b, h1, h2⟩
      · exact .inl ⟨h1, h2⟩
      · exact .inr ⟨b, h1, h2.kp kset (h2.blk hs1)⟩
    unmade := h.unmade
    mades := h.mades
    chg := Row.nil _ _ _
    pc := by simp [Value.ownBlock]
    file := fun b f hf => by
      obtain ⟨h1, h2, h3⟩ := h.file b f hf
      refine ⟨h1, h2.kp K (fun e => ?_) (fun x hx e => ?_), h3⟩
      · rcases e with e | e
        · exact h2.blk.ne h.blk (by decide) e
        · exact nb b _ _ h2.blk e
      · rcases e with e | e
        · exact h2.own.row.ne h.blk (by decide) (by rw [hx, e])
        · exact nr h2.own.row x hx e
    sep := h.sep
    inv := hi }

/-! ### No file stands twice -/
def vals (d : Dir) : List Nat := d.map (·.2)
def mades (l : List PC) : List Nat := (l.filter (fun c => c.kind == 0)).map (·.file)
theorem perm_dins (x : Nm × Nat) : ∀ l : Dir, (dins x l).Perm (x :: l)
  | [] => List.Perm.refl _
  | y :: r => by
    unfold dins
    split
    · exact List.Perm.refl _
    · exact ((perm_dins x r).cons y).trans (List.Perm.swap x y r)
theorem nodup_del {d : Dir} {n : Nm} {l : List Nat} (h : (vals d ++ l).Nodup) : (vals (ddel d n) ++ l).Nodup := by
  refine h.sublist (List.Sublist.append ?_ (List.Sublist.refl _))
  exact List.Sublist.map _ List.filter_sublist
theorem nodup_put {d : Dir} {n : Nm} {f : Nat} {l : List Nat} (h : (vals d ++ (f :: l)).Nodup) : (vals (dput d n f) ++ l).Nodup := by
  have h1 := nodup_del (n := n) h
  have h2 : (vals (dput d n f)).Perm (f :: vals (ddel d n)) := (perm_dins (n, f) (ddel d n)).map _
  refine ((h2.append_right l).nodup_iff).2 ?_
  have h3 : (vals (ddel d n) ++ (f :: l)).Perm (f :: vals (ddel d n) ++ l) := List.perm_middle
  exact h3.nodup_iff.1 h1
theorem vals_moved {d : Dir} (hk : (d.map (·.1)).Nodup) {n : Nm} {b : Nat} (h : dfind d n = some b) : (vals d).Perm (b :: vals (ddel d n)) := by
  have hm := mem_of_dfind h
  have : d.Perm ((n, b) :: ddel d n) := by
    induction d with
    | nil => simp at hm
    | cons x r ih =>
      rw [List.map_cons, List.nodup_cons] at hk
      by_cases e : x.1 = n
      · have hx : x = (n, b) := by
          rcases List.mem_cons.1 hm with h1 | h1
          · exact h1.symm
          · exact absurd (List.mem_map.2 ⟨_, h1, e.symm⟩) hk.1
        have hr : ddel r n = r := by
          unfold ddel
          rw [List.filter_eq_self]
          intro y hy
          have : y.1 ≠ n := fun e' => hk.1 (List.mem_map.2 ⟨y, hy, by rw [e', e]⟩)
          simpa using this
        have hd : ddel (x :: r) n = ddel r n := by unfold ddel; rw [List.filter_cons]; simp [e]
        rw [hd, hr, hx]
      · have hd : ddel (x :: r) n = x :: ddel r n := by unfold ddel; rw [List.filter_cons]; simp [e]
        rw [hd]
        have hm' : (n, b) ∈ r := by
          rcases List.mem_cons.1 hm with h1 | h1
          · exact absurd (by rw [← h1]) e
          · exact h1
        have hf : dfind r n = some b := dfind_of_mem hk.2 hm'
        exact ((ih hk.2 hf hm').cons x).trans (List.Perm.swap (n, b) x _)
  exact this.map _
theorem nodup_pdo {d : Dir} {c : PC} {l : List PC} (hr : Ris d) (hok : okc d c) (h : (vals d ++ mades (c :: l)).Nodup) : (vals (pdo d c) ++ mades l).Nodup := by
  unfold pdo
  split
  · rename_i hk
    have e : mades (c :: l) = c.file :: mades l := by simp [mades, hk]
    rw [e] at h
    exact nodup_put h
  · rename_i hk0
    have e : mades (c :: l) = mades l := by simp [mades, hk0]
    rw [e] at h
    split
    · exact nodup_del h
    · rename_i hk1
      have hk : c.kind = 2 := by have := hok.1; omega
      obtain ⟨b, hb⟩ := Option.isSome_iff_exists.1 (hok.2 hk)
      rw [hb]
      have hp := vals_moved hr.nodup hb
      refine nodup_put ?_
      have h3 : (vals (ddel d c.nm) ++ (b :: mades l)).Perm (vals d ++ mades l) := List.perm_middle.trans (hp.symm.append_right _)
      exact h3.nodup_iff.2 h
theorem nodup_fold : ∀ (l m : List PC) (d : Dir), Ris d → okcs d l → (vals d ++ mades (l ++ m)).Nodup → (vals (l.foldl pdo d) ++ mades m).Nodup
  | [], _, _, _, _, h => h
  | c :: r, m, d, hr, hok, h => nodup_fold r m (pdo d c) (hr.pdo c) hok.2 (nodup_pdo hr hok.1 h)
/-- All changes are settled. -/
theorem inv_settle {N : Nat} {p : PS} (h : PInv N p) (hr : Ris p.safe) : PInv N { p with safe := p.chg.foldl pdo p.safe, chg := [] } :=
  { h with
    seen_eq := h.seen_eq
    okc := trivial
    has := fun e he => ((h.seen_eq ▸ h.hasSeen) e he).1
    hasC := fun c hc => by simp at hc
    nodup := by
      have := nodup_fold p.chg [] p.safe hr h.okc (by simpa [vals, mades] using h.nodup)
      simpa [vals, mades] using this
    nmS := fun e he => ((h.seen_eq ▸ h.hasSeen) e he).2
    nmC := fun c hc => by simp at hc
    nmade := fun e => by obtain ⟨h1, h2⟩ := h.nmade e; exact ⟨rfl, by rw [h1, h2]; rfl⟩
    lsum := by have := h.lsum; have := length_fold p.chg p.safe; show (p.chg.foldl pdo p.safe).length + 0 ≤ N; omega }
theorem MapV.ris {w : World} {v : Value} {l : Dir} (h : MapV w v l) : Ris l := by
  rcases h with ⟨_, rfl⟩ | ⟨b, _, h⟩
  · exact List.Pairwise.nil
  · exact h.ris
theorem MapV.shape {w : World} {v : Value} {l : Dir} (h : MapV w v l) : ∃ mo, v = .map mo := by
  rcases h with ⟨h1, _⟩ | ⟨b, h1, _⟩
  · exact ⟨_, h1⟩
  · exact ⟨_, h1⟩

set_option maxHeartbeats 1000000 in
theorem syncdir1_any (W : World) (x s n : Nat) (vc : Value) (hx : W.cell? ⟨x, 0, none⟩ = some (.pointer (some ⟨s, 0, none⟩))) (h3 : W.cell? ⟨s, 3, none⟩ = some vc) (hv : ∃ a cap, vc = .slice a n cap) (T : World → Prop)
    (hC : ∀ V, Kp No W V → Calls Tryz.prog 39 #[.pointer (some ⟨s, 0, none⟩), .int .i64 (n : Int)] V fun e w' => e = .returned (.tuple #[]) ∧ T w') :
    Calls Tryz.prog 78 #[.pointer (some ⟨x, 0, none⟩)] W fun e w' => e = .returned (.tuple #[]) ∧ T w' := by
  obtain ⟨a, cap, rfl⟩ := hv
  have HC : Hid (Calls Tryz.prog 39 #[.pointer (some ⟨s, 0, none⟩), .int .i64 (n : Int)] W.drew fun e w' => e = .returned (.tuple #[]) ∧ T w') := hC _ (Kp.refl _ _).drew
  clear hC
  go_enter Tryz.func78, Tryz.ntmps78
  go_wp2_with fail
  go_region_with (go_at_call 39; refine (HC.out).mono ?_; rintro e w1 ⟨rfl, h1⟩; have H1 := hid h1; clear h1)
  all_goals
    go_wp2
    go_end0
    exact ⟨rfl, H1.out⟩

set_option maxHeartbeats 1000000 in
theorem syncdir_any {P : Nat → Prop} {N : Nat} (w : World) (s : Nat) (p : PS) (h : Sys P N w s p) (hN : N + 1 ≤ 1000) :
    Calls Tryz.prog 50 #[.pointer (some ⟨s, 0, none⟩)] w fun e w' => e = .returned (.int .i64 ((pSyncDir p).1 : Nat)) ∧ Done P (N + 1) w w' s (pSyncDir p).2 := by
  obtain ⟨hps, hsl, q4, _⟩ := h.c
  have hI := h.inv
  have H := hid h
  have hmk := hmf
  have HC : Hid (Calls Tryz.prog 38 #[.pointer (some ⟨s, 0, none⟩), .slice none 0 0] (w.alloc (.cells #[.pointer (some ⟨s, 0, none⟩)] 25)) fun e w' => e = .returned (.int .i64 (wrongs p [] : Nat)) ∧ Kp No (w.alloc (.cells #[.pointer (some ⟨s, 0, none⟩)] 25)) w') := by
    refine (wrong_any s _ [] p.down _ ?_ (NsAt.none _)).mono ?_
    · exact (((Kp.refl No w).alloc _).cell (p := ⟨s, 4, none⟩) hsl (fun h => h.elim)).trans q4
    · rintro e w' ⟨rfl, hk⟩
      exact ⟨rfl, hk⟩
  have hbx : Hid (∀ V, Kp No (w.alloc (.cells #[.pointer (some ⟨s, 0, none⟩)] 25)) V → V.cell? ⟨w.heap.size, 0, none⟩ = some (.pointer (some ⟨s, 0, none⟩))) := fun V k => ((Blk.new w 25 [.pointer (some ⟨s, 0, none⟩)]).kp k (fun h => h)).cell 0
  have q0 := hbx.out _ (Kp.refl _ _)
  have ka : Hid (Kp No w (w.alloc (.cells #[.pointer (some ⟨s, 0, none⟩)] 25))) := (Kp.refl _ _).alloc _
  by_cases hw : wrongs p [] = 0
  · have e1 : pSyncDir p = stp p (settle p.chg.length) := by simp [pSyncDir, hw]
    have HST : Hid (∀ w1, Kp No (w.alloc (.cells #[.pointer (some ⟨s, 0, none⟩)] 25)) w1 → Calls Tryz.prog 77 #[.pointer (some ⟨s, 0, none⟩), .func (.func 78) #[] #[.pointer (some ⟨w.heap.size, 0, none⟩)]] w1 fun e w' =>
        e = .returned (.int .i64 ((pSyncDir p).1 : Nat)) ∧ Done P (N + 1) w w' s (pSyncDir p).2) := by
      intro w1 hk
      have k0 := ka.out.andNone hk
      rw [e1]
      cases hd : dead p with
      | true =>
        have e2 : stp p (settle p.chg.length) = (12, fall p) := by simp [stp, hd]
        rw [e2]
        refine (step_dead w1 s p (h.kept k0) hd _).mono ?_
        rintro e w' ⟨rfl, hS, hk2⟩
        exact ⟨rfl, P, hS.more (by omega) hN, (k0.mono (fun _ h => h.elim)).trans hk2 (fun x hx => .inl (by subst hx; exact hps)), fun _ h => .inl h⟩
      | false =>
        have e2 : stp p (settle p.chg.length) = (0, settle p.chg.length (tick p)) := by simp [stp, hd]
        rw [e2]
        refine step_live w1 s p (h.kept k0) hd hN 78 _ (enters_of Tryz.func78 (by kernel_rfl) rfl) _ ?_
        rintro W kW ⟨vs, vf, vc, u, hR⟩
        obtain ⟨mo, rfl⟩ := hR.safe.shape
        obtain ⟨a, cap, hv, _⟩ := hR.chg.shape
        have hxW : W.cell? ⟨w.heap.size, 0, none⟩ = some (.pointer (some ⟨s, 0, none⟩)) := (kW.cell (p := ⟨w.heap.size, 0, none⟩) (by show w.heap.size < w1.heap.size; have := hk.size; simp at this; omega) (by show ¬ (w.heap.size = s); omega)).trans (hbx.out w1 hk)
        have kw : Kp P w W := (k0.mono (fun _ h => h.elim)).trans kW (fun x hx => .inl (by subst hx; exact hps))
        refine syncdir1_any W w.heap.size s p.chg.length vc hxW (hR.c 3) ⟨a, cap, hv⟩ _ ?_
        intro V kV
        have hRV := hR.kp kV (fun _ h => h.elim)
        have hIT := hRV.inv
        have hbig := hIT.big
        refine (settle_raw V s (tick p) vs vc mo u p.chg.length hRV (Nat.le_refl _) hIT.okc hIT.nmC (by have := hIT.lsafe; omega) (by have := hIT.lchg; omega) hIT.nmade).mono ?_
        rintro e w' ⟨rfl, W1, hm1, hk1, hw1⟩
        have htk : (tick p).chg.take p.chg.length = p.chg := List.take_of_length_le (Nat.le_refl _)
        rw [htk] at hm1
        obtain ⟨hS, hK⟩ := rq_settle (J := PInv (N + 1)) hRV hm1 hk1 hw1 (inv_settle hIT hRV.safe.ris)
        have hst : settle p.chg.length (tick p) = { (tick p) with safe := p.chg.foldl pdo p.safe, chg := [] } := by
          show ({ (tick p) with safe := (p.chg.take p.chg.length).foldl pdo p.safe, chg := [] } : PS) = _
          rw [List.take_of_length_le (Nat.le_refl _)]
        rw [hst]
        exact ⟨rfl, P, ⟨vs, _, _, u, hS⟩, (kw.andNone kV).trans hK (fun x hx => .inl hx), fun _ h => .inl h⟩
    rw [hw] at HC
    generalize pSyncDir p = R at *
    clear e1 hw hI h q4
    go_enter Tryz.func50, Tryz.ntmps50
    go_wp2_with (first | (go_at_call 38; refine (HC.out).mono ?_; rintro e w1 ⟨rfl, h1⟩; have H1 := hid h1; have q1 := hbx.out w1 h1; clear h1) | (go_at_call 77; refine (HST.out w1 H1.out).mono ?_; rintro e w2 ⟨rfl, h2⟩; have H2 := hid h2; clear h2))
    go_ret
    exact ⟨rfl, H2.out⟩
  · have e1 : pSyncDir p = (wrongs p [], p) := by simp [pSyncDir, hw]
    rw [e1]
    generalize wrongs p [] = x at *
    have hne : ((x : Int) != 0) = true := by simp; omega
    clear e1 hw hI h q4
    go_enter Tryz.func50, Tryz.ntmps50
    go_wp2_with (go_at_call 38; refine (HC.out).mono ?_; rintro e w1 ⟨rfl, h1⟩; have H1 := hid h1; clear h1)
    go_ret
    exact ⟨rfl, (Done.of (H.out.more (by omega) hN) (Kp.refl _ _)).kept (ka.out.andNone H1.out)⟩

/-! ### New -/
def newPS (room : Nat) : PS := ⟨room, false, [], [], [], false, false, 0, 0, fun _ => none⟩
theorem inv_new (room : Nat) (h : room ≤ 99000) : PInv 0 (newPS room) where
  seen_eq := rfl
  okc := trivial
  has := fun e he => by simp [newPS] at he
  hasC := fun c hc => by simp [newPS] at hc
  nodup := by simp [newPS]
  nmS := fun e he => by simp [newPS] at he
  nmC := fun c hc => by simp [newPS] at hc
  nmade := fun _ => ⟨rfl, rfl⟩
  room := h
  left := Nat.zero_le _
  steps := Nat.le_refl _
  lsum := Nat.le_refl _
  lfile := fun b f hf => by cases hf
  big := by decide
theorem new_yes (n : Nat) (h : n ≤ 99000) (w : World) : Calls Tryz.prog 6 #[.int .i64 (n : Int)] w fun e w' => e = .returned (.tuple #[.pointer (some ⟨w.heap.size, 0, none⟩), .int .i64 0]) ∧ Sys (· = w.heap.size) 0 w' w.heap.size (newPS n) ∧ Kp No w w' := by
  have h1 : ¬ (n : Int) < 0 := by omega
  have h2 : ¬ (99000 : Int) < n := by omega
  go_enter Tryz.func6, Tryz.ntmps6
  go_wp2
  go_ret2
  refine ⟨rfl, ⟨.map none, .map none, .slice none 0 0, fun _ => .slice none 0 0, ?_⟩, (Kp.refl _ _).alloc _⟩
  exact {
    lt := fun x hx => by subst hx; simp
    ps := rfl
    blk := Blk.new w 83 [.int .i64 (n : Int), .map none, .map none, .slice none 0 0, .bool false, .bool false, .int .i64 0, .int .i64 0]
    seen := .inl ⟨rfl, rfl⟩
    safe := .inl ⟨rfl, rfl⟩
    unmade := fun _ => ⟨rfl, rfl⟩
    mades := fun e => by cases e
    chg := Row.nil _ _ _
    pc := by simp [Value.ownBlock]
    file := fun b f hf => by cases hf
    sep := fun b b' f f' hf => by cases hf
    inv := inv_new n h }

end Go.Proofs.YtaaioaocjfpajaaGreatDoor.Sim
end

section
/-
  lose, Up.
-/
namespace Go.Proofs.YtaaioaocjfpajaaGreatDoor.Sim
open Go.RowKit Go.Maps
/-- A row's front. -/
theorem OwnB.front {w : World} {a : Option Addr} {n0 cap : Nat} {bs : List Nat} (h : OwnB w (.slice a n0 cap) bs) (j : Nat) (hj : j ≤ bs.length) : OwnB w (.slice a j cap) (bs.take j) := by
  have hl : (bs.take j).length = j := List.length_take_of_le hj
  have hcl : cl (bs.take j) = (cl bs).take j := by simp [cl, List.map_take]
  rcases h.row.2 with ⟨e, e2⟩ | ⟨g, cap', cur, e, hb, hh, h1, h2, h3, h4⟩
  · cases e
    have : bs = [] := List.length_eq_zero_iff.1 e2
    subst this
    have : j = 0 := by simpa using hj
    subst this
    exact OwnB.nil _
  · cases e
    refine ⟨by rw [cl_length]; omega, .inr ⟨g, cap, cur, by rw [hl], hb, hh, by omega, h2, h3, ?_⟩⟩
    rw [hcl, ← h4, List.take_take, hl]
    congr 1
    omega

/-! ### Up -/
/-- A slice of numbers that is read. -/
def IntsAt (Q : Nat → Prop) (w : World) (v : Value) (zs : List Int) : Prop :=
  ∃ a cap, v = .slice a zs.length cap ∧ zs.length ≤ cap ∧ cap ≤ maxLen ∧ zs.length ≤ 1000 ∧ (zs ≠ [] → ∃ g o, a = some ⟨g, o, none⟩ ∧ Q g ∧ g < w.heap.size ∧ ∀ i, i < zs.length → w.cell? ⟨g, o + i, none⟩ = some (.int .i64 (zs.getD i 0)))
theorem IntsAt.kp {Q L : Nat → Prop} {w w' : World} {v : Value} {zs : List Int} (h : IntsAt Q w v zs) (k : Kp L w w') (hL : ∀ x, L x → ¬ Q x) : IntsAt Q w' v zs := by
  obtain ⟨a, cap, h1, h2, h3, h4, h5⟩ := h
  refine ⟨a, cap, h1, h2, h3, h4, fun hne => ?_⟩
  obtain ⟨g, o, e, hq, hg, hc⟩ := h5 hne
  exact ⟨g, o, e, hq, Nat.lt_of_lt_of_le hg k.size, fun i hi => (k.cell (p := ⟨g, o + i, none⟩) hg (fun hl => hL g hl hq)).trans (hc i hi)⟩
theorem IntsAt.nil (Q : Nat → Prop) (w : World) : IntsAt Q w (.slice none 0 0) [] := ⟨none, 0, rfl, Nat.le_refl _, Nat.zero_le _, Nat.zero_le _, fun h => absurd rfl h⟩

end Go.Proofs.YtaaioaocjfpajaaGreatDoor.Sim
end

section
/-
  Up.
-/
namespace Go.Proofs.YtaaioaocjfpajaaGreatDoor.Sim
open Go.RowKit Go.Maps
end Go.Proofs.YtaaioaocjfpajaaGreatDoor.Sim
end

section
/-
  Plain mathematics of the tlv statements: trees of values by their depth, what their form takes, and their form; no program is named here.
-/
namespace Go.Proofs.YtaaioaocjfpajaaGreatDoor.Tlv

/-- A value nested at most n deep: its tag, its number, its bytes; the values in it. -/
def Tr : Nat → Type
  | 0 => Empty
  | n + 1 => (Int × Int × List Int) × List (Tr n)

def Tr.hd : {n : Nat} → Tr n → Int × Int × List Int
  | 0, t => by cases t
  | _ + 1, t => t.1

def Tr.kd {n : Nat} (t : Tr (n + 1)) : List (Tr n) := t.2

def Tr.mk {n : Nat} (tag num : Int) (bs : List Int) (ks : List (Tr n)) : Tr (n + 1) := ((tag, num, bs), ks)

/-- How many bytes a number takes. -/
def nsz (x : Int) : Int := ((Lib.bitLen x.toNat : Int) + 7) / 8

theorem bitLen_le64 (x : Nat) : Lib.bitLen x ≤ 64 := by
  have h : ∀ f x, Lib.bitLenAux f x ≤ f := by
    intro f
    induction f with
    | zero => intro x; simp [Lib.bitLenAux]
    | succ f ih => intro x; simp only [Lib.bitLenAux]; split; omega; have := ih (x / 2); omega
  exact h 64 x

theorem nsz_bd (x : Int) : 0 ≤ nsz x ∧ nsz x ≤ 8 := by
  have := bitLen_le64 x.toNat
  unfold nsz
  omega

/-- The other fields are empty. -/
def oeB (tag num : Int) (lb lk : Nat) : Bool := (tag == 1 || num == 0) && (tag == 2 || (lb : Int) == 0) && (tag == 3 || (lk : Int) == 0)

/-- The room that a list's values take, behind one another, 'acc' of it taken already. -/
def lszGo {α : Type} (f : α → Int → Int → Int × Bool) (room deep : Int) : Int → List α → Int × Bool
  | acc, [] => (acc, true)
  | acc, k :: ks => if (f k (room - acc - 3) (deep - 1)).2 then lszGo f room deep (acc + (3 + (f k (room - acc - 3) (deep - 1)).1)) ks else (0, false)

def lsz {α : Type} (f : α → Int → Int → Int × Bool) (ks : List α) (room deep : Int) : Int × Bool :=
  if deep = 0 then (0, false) else lszGo f room deep 0 ks

/-- What is behind the first three bytes of a form: how many bytes, and whether the value is right. -/
def bsz : (n : Nat) → Tr n → Int → Int → Int × Bool
  | 0, t, _, _ => by cases t
  | n + 1, t, room, deep =>
    if room < 0 ∨ oeB t.hd.1 t.hd.2.1 t.hd.2.2.length t.kd.length = false then (0, false)
    else if t.hd.1 = 1 then (nsz t.hd.2.1, decide (nsz t.hd.2.1 ≤ room))
    else if t.hd.1 = 2 then ((t.hd.2.2.length : Int), decide ((t.hd.2.2.length : Int) ≤ room))
    else if t.hd.1 = 3 then lsz (bsz n) t.kd room deep
    else (0, false)

/-- 'f' tells a room only where there is one. -/
def Fits {α : Type} (f : α → Int → Int → Int × Bool) : Prop := ∀ t room deep, (f t room deep).2 = true → 0 ≤ (f t room deep).1 ∧ (f t room deep).1 ≤ room

theorem lszGo_bd {α : Type} {f : α → Int → Int → Int × Bool} (hf : Fits f) (room deep : Int) (ks : List α) : ∀ acc, 0 ≤ acc → acc ≤ room →
    (lszGo f room deep acc ks).2 = true → acc ≤ (lszGo f room deep acc ks).1 ∧ (lszGo f room deep acc ks).1 ≤ room := by
  induction ks with
  | nil => intro acc h0 h1 _; simp [lszGo]; omega
  | cons k ks ih =>
    intro acc h0 h1 h2
    simp only [lszGo] at h2 ⊢
    split at h2
    · rename_i hk
      rw [if_pos hk]
      have b := hf k _ _ hk
      have := ih _ (by omega) (by omega) h2
      omega
    · simp at h2

theorem bsz_fits : ∀ n, Fits (bsz n)
  | 0, t, _, _, _ => by cases t
  | n + 1, t, room, deep, h => by
    simp only [bsz] at h ⊢
    split at h
    · simp at h
    · rename_i h0
      rw [if_neg h0]
      split at h
      · rename_i h1; rw [if_pos h1]; have := nsz_bd t.hd.2.1; simp at h ⊢; omega
      · rename_i h1
        rw [if_neg h1]
        split at h
        · rename_i h2; rw [if_pos h2]; simp at h ⊢; omega
        · rename_i h2
          rw [if_neg h2]
          split at h
          · rename_i h3
            rw [if_pos h3]
            unfold lsz at h ⊢
            split at h
            · simp at h
            · rename_i h4
              rw [if_neg h4]
              exact lszGo_bd (bsz_fits n) room deep _ 0 (by omega) (by have := not_or.1 h0; omega) h
          · simp at h

end Go.Proofs.YtaaioaocjfpajaaGreatDoor.Tlv
end

section
/-
  How values of tlv lie in memory, and what the small functions of the program do: math/bits.Len64, numberSize, othersEmpty, bytes.Clone, Number, Bytes, the reference's Bytes.
-/
namespace Go.Proofs.YtaaioaocjfpajaaGreatDoor.Tlv
open Go.RowKit

theorem Tryz.info5 : (Tryz.prog.info? 5).map (fun i => (i.zero, i.size, i.bytes)) = some (some (.int .u8 0), 1, 1) := by kernel_rfl
theorem Tryz.info156 : (Tryz.prog.info? 156).map (fun i => (i.zero, i.size, i.bytes)) = some (some (.agg #[.int .i64 0, .int .u64 0, .slice none 0 0, .slice none 0 0]), 4, 64) := by kernel_rfl

theorem hid {p : Prop} (h : p) : Hid p := h

/-- Of the blocks from L on, below B, w' holds what w held. -/
def Agree (L B : Nat) (w w' : World) : Prop := ∀ k, L ≤ k → k < B → w'.heap[k]? = w.heap[k]?

theorem Agree.refl (L B : Nat) (w : World) : Agree L B w w := fun _ _ _ => rfl
theorem Agree.trans {L B : Nat} {a b c : World} (h : Agree L B a b) (k : Agree L B b c) : Agree L B a c := fun i h1 h2 => (k i h1 h2).trans (h i h1 h2)
theorem Agree.mono {L L' B B' : Nat} {w w' : World} (h : Agree L B w w') (hL : L ≤ L') (hB : B' ≤ B) : Agree L' B' w w' := fun k h1 h2 => h k (by omega) (by omega)
theorem Agree.below {L B : Nat} {w w' : World} (h : Below B w w') : Agree L B w w' := fun k _ h2 => h.block k h2
theorem Agree.alloc {L B : Nat} {a w : World} (h : Agree L B a w) (hB : B ≤ w.heap.size) (o : Obj) : Agree L B a (w.alloc o) := h.trans fun k _ h2 => Below.heap_alloc _ _ _ (by omega)
theorem Agree.setCell {L B : Nat} {a w : World} (h : Agree L B a w) {p : Addr} (hp : p.block < L ∨ B ≤ p.block) (u : Value) : Agree L B a (w.setCell p u) := h.trans fun k h1 h2 => Below.heap_setCell _ _ _ _ (by omega)
theorem Agree.drew {L B : Nat} {a w : World} (h : Agree L B a w) : Agree L B a w.drew := h
theorem Agree.cell {L B : Nat} {w w' : World} (h : Agree L B w w') {p : Addr} (h1 : L ≤ p.block) (h2 : p.block < B) : w'.cell? p = w.cell? p := World.cell?_of_block (w := w) (h p.block h1 h2)

/-- v is a slice of the bytes bs, in blocks from L on, below B. -/
def BySl (L B : Nat) (w : World) (v : Value) (bs : List Int) : Prop :=
  ∃ a cap, v = .slice a bs.length cap ∧ bs.length ≤ cap ∧ cap ≤ maxLen ∧ (a = none → bs = [] ∧ cap = 0) ∧ bs.length ≤ 140737488355328 ∧ (∀ x ∈ bs, 0 ≤ x ∧ x ≤ 255) ∧
    (bs ≠ [] → ∃ b o, a = some ⟨b, o, none⟩ ∧ L ≤ b ∧ b < B ∧ ∀ i, i < bs.length → w.cell? ⟨b, o + i, none⟩ = some (.int .u8 (bs.getD i 0)))

/-- v is a slice of the values ks, each as R says, in blocks from L on, below B. -/
def KSl {n : Nat} (L B : Nat) (w : World) (R : Tr n → Value → Value → Prop) (v : Value) (ks : List (Tr n)) : Prop :=
  ∃ a cap, v = .slice a ks.length cap ∧ ks.length ≤ cap ∧ cap ≤ maxLen ∧ (a = none → ks = [] ∧ cap = 0) ∧ ks.length ≤ 2199023255552 ∧
    (ks ≠ [] → ∃ b o, a = some ⟨b, o, none⟩ ∧ L ≤ b ∧ b < B ∧ ∀ j t, ks[j]? = some t → ∃ sb sk, w.cell? ⟨b, o + j * 4, none⟩ = some (.int .i64 t.hd.1) ∧ w.cell? ⟨b, o + j * 4 + 1, none⟩ = some (.int .u64 t.hd.2.1) ∧
      w.cell? ⟨b, o + j * 4 + 2, none⟩ = some sb ∧ w.cell? ⟨b, o + j * 4 + 3, none⟩ = some sk ∧ R t sb sk)

/-- The tree t lies in w, in blocks from L on, below B, its bytes behind sb, its values behind sk. -/
def Rep (L B : Nat) (w : World) : (n : Nat) → Tr n → Value → Value → Prop
  | 0, t, _, _ => by cases t
  | n + 1, t, sb, sk => 0 ≤ t.hd.2.1 ∧ t.hd.2.1 ≤ 18446744073709551615 ∧ BySl L B w sb t.hd.2.2 ∧ KSl L B w (Rep L B w n) sk t.kd

theorem BySl.agree {L B L' B' : Nat} {w w' : World} {v : Value} {bs : List Int} (h : BySl L B w v bs) (hb : Agree L B w w') (hL : L' ≤ L) (hB : B ≤ B') : BySl L' B' w' v bs := by
  obtain ⟨a, cap, h1, h2, h3, h4, h5, h6, h7⟩ := h
  refine ⟨a, cap, h1, h2, h3, h4, h5, h6, fun hne => ?_⟩
  obtain ⟨b, o, e, hL', hbB, hc⟩ := h7 hne
  exact ⟨b, o, e, by omega, by omega, fun i hi => (hb.cell (p := ⟨b, o + i, none⟩) hL' hbB).trans (hc i hi)⟩

theorem KSl.agree {n L B L' B' : Nat} {w w' : World} {R R' : Tr n → Value → Value → Prop} {v : Value} {ks : List (Tr n)} (h : KSl L B w R v ks) (hR : ∀ t sb sk, R t sb sk → R' t sb sk) (hb : Agree L B w w') (hL : L' ≤ L) (hB : B ≤ B') : KSl L' B' w' R' v ks := by
  obtain ⟨a, cap, h1, h2, h3, h4, h5, h7⟩ := h
  refine ⟨a, cap, h1, h2, h3, h4, h5, fun hne => ?_⟩
  obtain ⟨b, o, e, hLb, hbB, hc⟩ := h7 hne
  refine ⟨b, o, e, by omega, by omega, fun j t hj => ?_⟩
  obtain ⟨sb, sk, c0, c1, c2, c3, r⟩ := hc j t hj
  exact ⟨sb, sk, (hb.cell (p := ⟨b, _, none⟩) hLb hbB).trans c0, (hb.cell (p := ⟨b, _, none⟩) hLb hbB).trans c1, (hb.cell (p := ⟨b, _, none⟩) hLb hbB).trans c2, (hb.cell (p := ⟨b, _, none⟩) hLb hbB).trans c3, hR _ _ _ r⟩

theorem Rep.agree {L B L' B' : Nat} {w w' : World} (hb : Agree L B w w') (hL : L' ≤ L) (hB : B ≤ B') : ∀ {n : Nat} {t : Tr n} {sb sk : Value}, Rep L B w n t sb sk → Rep L' B' w' n t sb sk
  | 0, t, _, _, _ => by cases t
  | _ + 1, _, _, _, h => ⟨h.1, h.2.1, h.2.2.1.agree hb hL hB, h.2.2.2.agree (fun _ _ _ r => Rep.agree hb hL hB r) hb hL hB⟩

theorem Rep.sl {L B : Nat} {w : World} : ∀ {n : Nat} {t : Tr n} {sb sk : Value}, Rep L B w n t sb sk → ∃ a l c a' l' c', sb = .slice a l c ∧ sk = .slice a' l' c'
  | 0, t, _, _, _ => by cases t
  | _ + 1, _, _, _, h => by
    obtain ⟨_, _, ⟨_, _, rfl, _⟩, ⟨_, _, rfl, _⟩⟩ := h
    exact ⟨_, _, _, _, _, _, rfl, rfl⟩

/-- Out of a row of the call's own. -/
theorem BySl.own {base : Nat} {w : World} {v : Value} {bs : List Int} (h : w.ownsRow base 5 1 v bs.length (bs.map (Value.int .u8))) (hl : bs.length ≤ 140737488355328) (hx : ∀ x ∈ bs, 0 ≤ x ∧ x ≤ 255) : BySl base w.heap.size w v bs := by
  rcases h.2 with ⟨rfl, h0⟩ | ⟨g, cap, cur, rfl, hb, hg, hn, hc, hs, ht⟩
  · have : bs = [] := List.length_eq_zero_iff.1 h0
    subst this
    exact ⟨none, 0, rfl, Nat.le_refl _, Nat.zero_le _, fun _ => ⟨rfl, rfl⟩, by simp, by simp, fun h => absurd rfl h⟩
  · refine ⟨_, cap, rfl, hn, hc, by simp, hl, hx, fun _ => ⟨g, 0, rfl, hb, (Array.getElem?_eq_some_iff.1 hg).1, fun i hi => ?_⟩⟩
    rw [Nat.zero_add, h.cellAt i (by omega)]
    simp [List.getElem?_eq_getElem hi]

theorem BySl.none (L B : Nat) (w : World) : BySl L B w (.slice none 0 0) [] := ⟨_, 0, rfl, Nat.le_refl _, Nat.zero_le _, fun _ => ⟨rfl, rfl⟩, by simp, by simp, fun h => absurd rfl h⟩

theorem KSl.none {n : Nat} (L B : Nat) (w : World) (R : Tr n → Value → Value → Prop) : KSl L B w R (.slice none 0 0) [] := ⟨_, 0, rfl, Nat.le_refl _, Nat.zero_le _, fun _ => ⟨rfl, rfl⟩, by simp, fun h => absurd rfl h⟩

theorem bcell {W w1 : World} (hb : Below W.heap.size W w1) : (∀ b o, b < W.heap.size → w1.cell? ⟨b, o, none⟩ = W.cell? ⟨b, o, none⟩) ∧ (∀ b o, b < W.heap.size → w1.frozen? ⟨b, o, none⟩ = W.frozen? ⟨b, o, none⟩) :=
  ⟨fun b o h => hb.cell (p := ⟨b, o, none⟩) h, fun b o h => hb.frozen (p := ⟨b, o, none⟩) h⟩

theorem tab_size : Lib.len8tab.size = 256 := by decide +kernel
theorem tab_all : ∀ n : Fin 256, (Lib.len8tab[n.val]'(by rw [tab_size]; exact n.2)).toNat = Lib.bitLen n.val := by decide +kernel
theorem tab_at (n : Nat) (h : n < Lib.len8tab.size) : Lib.len8tab[n].toNat = Lib.bitLen n := tab_all ⟨n, by rw [tab_size] at h; exact h⟩
theorem tab_le (n : Nat) (h : n < 256) : Lib.bitLen n ≤ 8 := Lib.bitLen_le8 ⟨n, h⟩

/-- The last row of Len64: what the table holds, and the bits cut off ahead of it. -/
theorem len_close (x k i : Nat) (hk : 2 ^ k ≤ x ∨ k = 0) (hx : x < 2 ^ 64) (hi : i = x / 2 ^ k) (hl : i < 256) (h : i < Lib.len8tab.size) (hk2 : k ≤ 56) :
    wrap64 (k + wrap64 (Lib.len8tab[i].toNat : Nat)) = (Lib.bitLen x : Int) := by
  have l := tab_le i hl
  rw [tab_at i h]
  have e : Lib.bitLen x = k + Lib.bitLen i := by
    subst hi
    rcases hk with hk | rfl
    · exact Lib.bitLen_shift k x hk hx
    · simp
  rw [show wrap64 ((Lib.bitLen i : Nat) : Int) = (Lib.bitLen i : Int) from IntWalk.wrap64_in _ ⟨by omega, by omega⟩, IntWalk.wrap64_in _ ⟨by omega, by omega⟩, e]
  omega

set_option maxHeartbeats 4000000 in
set_option maxRecDepth 100000 in
theorem len64_any (x : Int) (w : World) (h0 : 0 ≤ x) (h1 : x ≤ 18446744073709551615) :
    Calls Tryz.prog 125 #[.int .u64 x] w fun e w' => e = .returned (.int .i64 (Lib.bitLen x.toNat)) ∧ w' = w := by
  have hts : (Lib.len8tab.size : Int) = 256 := by rw [tab_size]; rfl
  go_enter Tryz.func125, Tryz.ntmps125
  go_wp2
  all_goals (go_ret; refine ⟨congrArg Ending.returned (congrArg (Value.int IntKind.i64) ?_), rfl⟩)
  · exact len_close x.toNat 56 _ (.inl (by simp only [Nat.reducePow]; omega)) (by simp only [Nat.reducePow]; omega) (by simp only [Nat.reducePow]; omega) (by omega) _ (by omega)
  · exact len_close x.toNat 48 _ (.inl (by simp only [Nat.reducePow]; omega)) (by simp only [Nat.reducePow]; omega) (by simp only [Nat.reducePow]; omega) (by omega) _ (by omega)
  · exact len_close x.toNat 40 _ (.inl (by simp only [Nat.reducePow]; omega)) (by simp only [Nat.reducePow]; omega) (by simp only [Nat.reducePow]; omega) (by omega) _ (by omega)
  · exact len_close x.toNat 32 _ (.inl (by simp only [Nat.reducePow]; omega)) (by simp only [Nat.reducePow]; omega) (by simp only [Nat.reducePow]; omega) (by omega) _ (by omega)
  · exact len_close x.toNat 24 _ (.inl (by simp only [Nat.reducePow]; omega)) (by simp only [Nat.reducePow]; omega) (by simp only [Nat.reducePow]; omega) (by omega) _ (by omega)
  · exact len_close x.toNat 16 _ (.inl (by simp only [Nat.reducePow]; omega)) (by simp only [Nat.reducePow]; omega) (by simp only [Nat.reducePow]; omega) (by omega) _ (by omega)
  · exact len_close x.toNat 8 _ (.inl (by simp only [Nat.reducePow]; omega)) (by simp only [Nat.reducePow]; omega) (by simp only [Nat.reducePow]; omega) (by omega) _ (by omega)
  · have h := len_close x.toNat 0 x.toNat (.inr rfl) (by simp only [Nat.reducePow]; omega) (by simp) (by omega) (by rw [tab_size]; omega) (by omega)
    simpa using h

set_option maxHeartbeats 400000 in
theorem numberSize_any (x : Int) (w : World) (h0 : 0 ≤ x) (h1 : x ≤ 18446744073709551615) :
    Calls Tryz.prog 135 #[.int .u64 x] w fun e w' => e = .returned (.int .i64 (nsz x)) ∧ w' = w := by
  have hb := bitLen_le64 x.toNat
  go_enter Tryz.func135, Tryz.ntmps135
  go_wp2_with (go_at_call 125; refine (len64_any _ _ h0 h1).mono ?_; rintro e w' ⟨rfl, rfl⟩)
  go_ret
  exact ⟨rfl, rfl⟩

set_option maxHeartbeats 1000000 in
theorem othersEmpty_any (tag num : Int) (a a' : Option Addr) (lb cb lk ck : Nat) (w : World) :
    Calls Tryz.prog 134 #[.agg #[.int .i64 tag, .int .u64 num, .slice a lb cb, .slice a' lk ck]] w fun e w' => e = .returned (.bool (oeB tag num lb lk)) ∧ Below w.heap.size w w' := by
  go_enter Tryz.func134, Tryz.ntmps134
  go_wp2
  all_goals (go_ret; refine ⟨?_, (Below.refl _ _).alloc (Nat.le_refl _) _⟩; simp [oeB, *])

theorem Tryz.nilEq (w : World) (a : Option Addr) (n c n' c' : Nat) : (binOp .eql 54 (.slice a n c) (.slice none n' c')).run Tryz.prog w = .ok (.bool a.isNone) w :=
  Lib.run_eql_slice_nil w _ _ a n c n' c' Tryz.underlying54

set_option maxHeartbeats 1000000 in
theorem clone_bytes (v : Value) (bs : List Int) (w : World) (h : BySl 0 w.heap.size w v bs) :
    Calls Tryz.prog 126 #[v] w fun e w' => ∃ v', e = .returned v' ∧ BySl w.heap.size w'.heap.size w' v' bs ∧ Below w.heap.size w w' := by
  have q22 := Tryz.nilEq
  obtain ⟨a, cap, rfl, h2, h3, h4, h5, h6, h7⟩ := h
  cases a with
  | none =>
    obtain ⟨rfl, rfl⟩ := h4 rfl
    clear h7
    go_enter Tryz.func126, Tryz.ntmps126
    go_wp2
    go_ret
    exact ⟨_, rfl, BySl.none _ _ _, Below.refl _ _⟩
  | some ad =>
    obtain ⟨i0, hi, hz0, hz1, hz2⟩ := info_parts Tryz.info5
    have A : Hid (bs ≠ [] → ∃ b o, some ad = some ⟨b, o, none⟩ ∧ 0 ≤ b ∧ b < w.heap.size ∧ ∀ i, i < bs.length → w.cell? ⟨b, o + i, none⟩ = some (.int .u8 (bs.getD i 0))) := h7
    have A6 : Hid (∀ x ∈ bs, 0 ≤ x ∧ x ≤ 255) := h6
    clear h7 h6 h4
    go_enter Tryz.func126, Tryz.ntmps126
    go_wp2_with (at_builtin; refine wpList_append_own _ rfl _ _ 54 rfl w.heap.size 5 i0 (.int .u8 0) 1 1 Tryz.underlying54 hi hz0 hz1 hz2 rfl (by decide) _ _ _ rfl (World.ownsRow_made w #[] 0 (Nat.le_refl _) (Nat.zero_le _) rfl) ad bs.length cap (bs.map (Value.int .u8)) rfl ?qc1 ?qc2 ?qc3 ?qc4 ?qc5 ?qc6 ?_)
    case qc1 => simp
    case qc2 =>
      intro j u hj
      have hjn : j < bs.length := by
        have := (List.getElem?_eq_some_iff.1 hj).1
        simpa using this
      obtain ⟨b, o, e, _, hb, hc⟩ := A.out (by intro e; subst e; simp at hjn)
      simp only [Option.some.injEq] at e
      subst e
      have e2 : (⟨b, o, none⟩ : Addr).add j = ⟨b, o + j, none⟩ := by unfold Addr.add; split <;> simp_all
      rw [e2, World.cell?_alloc_lt _ _ _ hb, hc j hjn]
      simp only [List.getElem?_map, List.getElem?_eq_getElem hjn, Option.map_some, Option.some.injEq] at hj
      simp [List.getElem?_eq_getElem hjn, hj]
    case qc3 => intro u hu; obtain ⟨x, _, rfl⟩ := List.mem_map.1 hu; rfl
    case qc4 => unfold maxLen; omega
    case qc5 => omega
    case qc6 => simp
    intro v' w1 hown hgrow hnil
    go_wp2
    go_ret
    refine ⟨v', rfl, BySl.own (by simpa using hown) h5 A6.out, ?_⟩
    exact ((Below.refl _ w).alloc (Nat.le_refl _) _).grown hgrow (by simp) (by intro k hk; simp [Value.ownBlock] at hk; omega)

set_option maxHeartbeats 400000 in
theorem number_any (n : Int) (w : World) :
    Calls Tryz.prog 100 #[.int .u64 n] w fun e w' => e = .returned (.agg #[.int .i64 1, .int .u64 n, .slice none 0 0, .slice none 0 0]) ∧ Below w.heap.size w w' := by
  go_enter Tryz.func100, Tryz.ntmps100
  go_wp2
  exact bodyPost_ret (v := .agg #[.int .i64 1, .int .u64 n, .slice none 0 0, .slice none 0 0]) (by simp [results, Tryz.results100, go_sem]) rfl ⟨rfl, (Below.refl _ _).alloc (Nat.le_refl _) _⟩

end Go.Proofs.YtaaioaocjfpajaaGreatDoor.Tlv
end

section
/-
  What the small functions of tlv that make values do, and the reference's Bytes.
-/
namespace Go.Proofs.YtaaioaocjfpajaaGreatDoor.Tlv
open Go.RowKit

theorem Agree.set4 {L B b : Nat} (w : World) (hp : b < L ∨ B ≤ b) (u0 u1 u2 u3 : Value) {o0 o1 o2 o3 : Nat} : Agree L B w ((((w.setCell ⟨b, o0, none⟩ u0).setCell ⟨b, o1, none⟩ u1).setCell ⟨b, o2, none⟩ u2).setCell ⟨b, o3, none⟩ u3) :=
  ((((Agree.refl L B w).setCell hp _).setCell hp _).setCell hp _).setCell hp _

theorem bset4 {B b : Nat} {w : World} (hp : B ≤ b) (u0 u1 u2 u3 : Value) {o0 o1 o2 o3 : Nat} : Below B w ((((w.setCell ⟨b, o0, none⟩ u0).setCell ⟨b, o1, none⟩ u1).setCell ⟨b, o2, none⟩ u2).setCell ⟨b, o3, none⟩ u3) :=
  ((((Below.refl B w).setCell hp _).setCell hp _).setCell hp _).setCell hp _

set_option maxHeartbeats 400000 in
theorem bytes_any (v : Value) (bs : List Int) (w : World) (h : BySl 0 w.heap.size w v bs) :
    Calls Tryz.prog 101 #[v] w fun e w' => ∃ v', e = .returned (.agg #[.int .i64 2, .int .u64 0, v', .slice none 0 0]) ∧ BySl w.heap.size w'.heap.size w' v' bs ∧ Below w.heap.size w w' := by
  obtain ⟨a, cap, rfl, hr⟩ := id h
  clear hr
  have H : Hid (BySl 0 w.heap.size w (.slice a bs.length cap) bs) := h
  clear h
  go_enter Tryz.func101, Tryz.ntmps101
  go_wp2_with fail
  refine (clone_bytes _ bs _ (H.out.agree ((Agree.refl _ _ _).alloc (Nat.le_refl _) _) (Nat.le_refl _) (by simp))).mono ?_
  rintro e w1 ⟨v', rfl, hv, hb⟩
  obtain ⟨a', cap', rfl, hr'⟩ := id hv
  clear hr'
  have hz : w.heap.size < w1.heap.size := by have := hb.size; simp at this; omega
  have Hv := hid hv
  have Hb := hid hb
  obtain ⟨hc, hf⟩ := bcell hb
  clear hv hb
  go_wp2_with fail
  refine bodyPost_ret (v := .agg #[.int .i64 2, .int .u64 0, .slice a' bs.length cap', .slice none 0 0]) (by simp [results, Tryz.results101, go_sem, hc]) rfl ⟨_, rfl, ?_, ?_⟩
  · exact Hv.out.agree (Agree.set4 _ (.inl (by simp)) _ _ _ _) (by simp) (by simp)
  · exact (((Below.refl _ w).alloc (Nat.le_refl _) _).trans (Hb.out.mono (by simp))).trans (bset4 (Nat.le_refl _) _ _ _ _)

end Go.Proofs.YtaaioaocjfpajaaGreatDoor.Tlv
end

section
/-
  A slice of values that a call builds by append, one behind the other: how it lies in memory.
-/
namespace Go.Proofs.YtaaioaocjfpajaaGreatDoor.Tlv
open Go.RowKit

def cell4 {n : Nat} (t : Tr n) (p : Value × Value) : List Value := [.int .i64 t.hd.1, .int .u64 t.hd.2.1, p.1, p.2]

def cellsK {n : Nat} : List (Tr n) → List (Value × Value) → List Value
  | t :: ts, p :: ps => cell4 t p ++ cellsK ts ps
  | _, _ => []

theorem cellsK_snoc {n : Nat} (t : Tr n) (p : Value × Value) : ∀ (ts : List (Tr n)) (ps : List (Value × Value)), ps.length = ts.length → cellsK (ts ++ [t]) (ps ++ [p]) = cellsK ts ps ++ cell4 t p
  | [], [], _ => by simp [cellsK]
  | [], _ :: _, h => by simp at h
  | _ :: _, [], h => by simp at h
  | t' :: ts, p' :: ps, h => by
    simp only [List.cons_append, cellsK, List.append_assoc]
    rw [cellsK_snoc t p ts ps (by simpa using h)]

theorem cellsK_at {n : Nat} : ∀ (ts : List (Tr n)) (ps : List (Value × Value)) (j : Nat) (t : Tr n) (p : Value × Value) (r : Nat), ts[j]? = some t → ps[j]? = some p → r < 4 → (cellsK ts ps)[j * 4 + r]? = (cell4 t p)[r]?
  | [], _, _, _, _, _, h, _, _ => by simp at h
  | _ :: _, [], _, _, _, _, _, h, _ => by simp at h
  | t' :: ts, p' :: ps, 0, t, p, r, h1, h2, h3 => by
    simp only [List.getElem?_cons_zero, Option.some.injEq] at h1 h2
    subst h1 h2
    simp only [cellsK, Nat.zero_mul, Nat.zero_add]
    rw [List.getElem?_append_left (by simpa [cell4] using h3)]
  | t' :: ts, p' :: ps, j + 1, t, p, r, h1, h2, h3 => by
    simp only [List.getElem?_cons_succ] at h1 h2
    simp only [cellsK]
    rw [List.getElem?_append_right (by simp [cell4]; omega), ← cellsK_at ts ps j t p r h1 h2 h3]
    congr 1
    simp [cell4]
    omega

/-- v is a slice of the values ts that the call itself has built, in blocks from base on: its row, and where each value lies, which is none of the row. -/
def CInv {n : Nat} (base : Nat) (ts : List (Tr n)) (v : Value) (w : World) : Prop :=
  ∃ ps : List (Value × Value), ps.length = ts.length ∧ w.ownsRow base 156 4 v ts.length (cellsK ts ps) ∧
    ∀ (j : Nat) (t : Tr n) (p : Value × Value), ts[j]? = some t → ps[j]? = some p → ∃ L B, Rep L B w n t p.1 p.2 ∧ base ≤ L ∧ B ≤ w.heap.size ∧ (∀ r, v.ownBlock = some r → r < L ∨ B ≤ r)

theorem CInv.nil {n : Nat} (base : Nat) (w : World) : CInv base ([] : List (Tr n)) (.slice none 0 0) w := ⟨[], rfl, World.ownsRow_nil _ _ _ _, by simp⟩

theorem ownsRow_agree {w w' : World} {base e size n : Nat} {v : Value} {xs : List Value} (h : w.ownsRow base e size v n xs) (hA : Agree base w.heap.size w w') : w'.ownsRow base e size v n xs := by
  obtain ⟨h1, h2⟩ := h
  refine ⟨h1, ?_⟩
  rcases h2 with h2 | ⟨g, cap, cur, hv, hg, hh, r⟩
  · exact Or.inl h2
  · exact Or.inr ⟨g, cap, cur, hv, hg, by rw [hA g hg (Array.getElem?_eq_some_iff.1 hh).1]; exact hh, r⟩

theorem CInv.agree {n base : Nat} {ts : List (Tr n)} {v : Value} {w w' : World} (h : CInv base ts v w) (hA : Agree base w.heap.size w w') (hs : w.heap.size ≤ w'.heap.size) : CInv base ts v w' := by
  obtain ⟨ps, hl, hown, hk⟩ := h
  refine ⟨ps, hl, ownsRow_agree hown hA, fun j t p hj hp => ?_⟩
  obtain ⟨L, B, hr, hL, hB, hd⟩ := hk j t p hj hp
  exact ⟨L, B, hr.agree (hA.mono hL hB) (Nat.le_refl _) (Nat.le_refl _), hL, by omega, hd⟩

theorem CInv.lt {n base : Nat} {ts : List (Tr n)} {v : Value} {w : World} (h : CInv base ts v w) : ∀ r, v.ownBlock = some r → base ≤ r ∧ r < w.heap.size := by
  obtain ⟨ps, hl, hown, _⟩ := h
  exact hown.lt

theorem CInv.form {n base : Nat} {ts : List (Tr n)} {v : Value} {w : World} (h : CInv base ts v w) : ∃ a c, v = .slice a ts.length c := by
  obtain ⟨ps, hl, hown, _⟩ := h
  rcases hown.2 with ⟨rfl, h0⟩ | ⟨g, cap, cur, rfl, _⟩
  · exact ⟨_, _, by rw [h0]⟩
  · exact ⟨_, _, rfl⟩

/-- One value more, behind the append that lays it. -/
theorem CInv.push {n base g cap L B : Nat} {ts : List (Tr n)} {t : Tr n} {v sb sk : Value} {ps : List (Value × Value)} {w w' : World} (hl : ps.length = ts.length)
    (hk : ∀ (j : Nat) (t : Tr n) (p : Value × Value), ts[j]? = some t → ps[j]? = some p → ∃ L B, Rep L B w n t p.1 p.2 ∧ base ≤ L ∧ B ≤ w.heap.size ∧ (∀ r, v.ownBlock = some r → r < L ∨ B ≤ r))
    (hr : Rep L B w n t sb sk) (hL : base ≤ L) (hB : B ≤ w.heap.size) (hd : ∀ r, v.ownBlock = some r → r < L ∨ B ≤ r)
    (hown : w'.ownsRow base 156 4 (.slice (some ⟨g, 0, none⟩) (ts.length + 1) cap) (ts.length + 1) (cellsK ts ps ++ cell4 t (sb, sk))) (hgrow : w.grownBy w' v.ownBlock) (hat : v.ownBlock = some g ∨ g = w.heap.size) :
    CInv base (ts ++ [t]) (.slice (some ⟨g, 0, none⟩) (ts.length + 1) cap) w' := by
  have old : ∀ {L B : Nat} {t : Tr n} {sb sk : Value}, Rep L B w n t sb sk → base ≤ L → B ≤ w.heap.size → (∀ r, v.ownBlock = some r → r < L ∨ B ≤ r) →
      Rep L B w' n t sb sk ∧ base ≤ L ∧ B ≤ w'.heap.size ∧ (∀ r, (Value.slice (some ⟨g, 0, none⟩) (ts.length + 1) cap).ownBlock = some r → r < L ∨ B ≤ r) := by
    intro L B t sb sk hr hL hB hd
    refine ⟨hr.agree (fun k h1 h2 => hgrow.block k (by omega) (fun e => by have := hd k e.symm; omega)) (Nat.le_refl _) (Nat.le_refl _), hL, by have := hgrow.size; omega, ?_⟩
    intro r e
    simp only [Value.ownBlock, Option.some.injEq] at e
    subst e
    rcases hat with hat | hat
    · exact hd _ hat
    · omega
  refine ⟨ps ++ [(sb, sk)], by simp [hl], ?_, ?_⟩
  · rw [cellsK_snoc _ _ _ _ hl]
    simpa using hown
  · intro j t' p hj hp
    by_cases hlt : j < ts.length
    · rw [List.getElem?_append_left hlt] at hj
      rw [List.getElem?_append_left (by omega)] at hp
      obtain ⟨L', B', q⟩ := hk j t' p hj hp
      exact ⟨L', B', old q.1 q.2.1 q.2.2.1 q.2.2.2⟩
    · have : j = ts.length := by
        have := (List.getElem?_eq_some_iff.1 hj).1
        simp at this
        omega
      subst this
      rw [List.getElem?_append_right (Nat.le_refl _)] at hj
      rw [List.getElem?_append_right (by omega)] at hp
      simp [hl] at hj hp
      subst hj hp
      exact ⟨L, B, old hr hL hB hd⟩

theorem CInv.done {n base : Nat} {ts : List (Tr n)} {v : Value} {w : World} (h : CInv base ts v w) (hlen : ts.length ≤ 2199023255552) : KSl base w.heap.size w (Rep base w.heap.size w n) v ts := by
  obtain ⟨ps, hl, hown, hk⟩ := h
  rcases hown.2 with ⟨rfl, h0⟩ | ⟨g, cap, cur, rfl, hb, hg, hn, hc, hs, ht⟩
  · have : ts = [] := List.length_eq_zero_iff.1 h0
    subst this
    exact KSl.none _ _ _ _
  · refine ⟨_, cap, rfl, hn, hc, by simp, hlen, fun _ => ⟨g, 0, rfl, hb, (Array.getElem?_eq_some_iff.1 hg).1, fun j t hj => ?_⟩⟩
    have hjl := (List.getElem?_eq_some_iff.1 hj).1
    obtain ⟨p, hp⟩ : ∃ p, ps[j]? = some p := ⟨ps[j]'(by omega), List.getElem?_eq_getElem (by omega)⟩
    obtain ⟨L, B, hr, hL, hB, _⟩ := hk j t p hj hp
    have cc : ∀ r, r < 4 → w.cell? ⟨g, 0 + j * 4 + r, none⟩ = (cell4 t p)[r]? := fun r hr4 => by
      rw [Nat.zero_add, hown.cellAt (j * 4 + r) (by omega), cellsK_at ts ps j t p r hj hp hr4]
    exact ⟨p.1, p.2, cc 0 (by omega), cc 1 (by omega), cc 2 (by omega), cc 3 (by omega), hr.agree (Agree.refl _ _ _) hL hB⟩

end Go.Proofs.YtaaioaocjfpajaaGreatDoor.Tlv
end

section
/-
  How values lie in memory, told by whichever blocks they lie in: for values that share memory with others.
-/
namespace Go.Proofs.YtaaioaocjfpajaaGreatDoor.Tlv
open Go.RowKit

def BySlS (S : Nat → Prop) (w : World) (v : Value) (bs : List Int) : Prop :=
  ∃ a cap, v = .slice a bs.length cap ∧ bs.length ≤ cap ∧ cap ≤ maxLen ∧ (a = none → bs = [] ∧ cap = 0) ∧ bs.length ≤ 140737488355328 ∧ (∀ x ∈ bs, 0 ≤ x ∧ x ≤ 255) ∧
    (bs ≠ [] → ∃ b o, a = some ⟨b, o, none⟩ ∧ S b ∧ ∀ i, i < bs.length → w.cell? ⟨b, o + i, none⟩ = some (.int .u8 (bs.getD i 0)))

def KSlS {n : Nat} (S : Nat → Prop) (w : World) (R : Tr n → Value → Value → Prop) (v : Value) (ks : List (Tr n)) : Prop :=
  ∃ a cap, v = .slice a ks.length cap ∧ ks.length ≤ cap ∧ cap ≤ maxLen ∧ (a = none → ks = [] ∧ cap = 0) ∧ ks.length ≤ 2199023255552 ∧
    (ks ≠ [] → ∃ b o, a = some ⟨b, o, none⟩ ∧ S b ∧ ∀ j t, ks[j]? = some t → ∃ sb sk, w.cell? ⟨b, o + j * 4, none⟩ = some (.int .i64 t.hd.1) ∧ w.cell? ⟨b, o + j * 4 + 1, none⟩ = some (.int .u64 t.hd.2.1) ∧
      w.cell? ⟨b, o + j * 4 + 2, none⟩ = some sb ∧ w.cell? ⟨b, o + j * 4 + 3, none⟩ = some sk ∧ R t sb sk)

def RepS (S : Nat → Prop) (w : World) : (n : Nat) → Tr n → Value → Value → Prop
  | 0, t, _, _ => by cases t
  | n + 1, t, sb, sk => 0 ≤ t.hd.2.1 ∧ t.hd.2.1 ≤ 18446744073709551615 ∧ BySlS S w sb t.hd.2.2 ∧ KSlS S w (RepS S w n) sk t.kd

/-- Of the blocks of S, w' holds what w held. -/
def AgreeS (S : Nat → Prop) (w w' : World) : Prop := ∀ b, S b → w'.heap[b]? = w.heap[b]?

theorem AgreeS.cell {S : Nat → Prop} {w w' : World} (h : AgreeS S w w') {b o : Nat} (hb : S b) : w'.cell? ⟨b, o, none⟩ = w.cell? ⟨b, o, none⟩ := World.cell?_of_block (w := w) (h b hb)

theorem BySlS.agree {S S' : Nat → Prop} {w w' : World} {v : Value} {bs : List Int} (h : BySlS S w v bs) (hw : AgreeS S w w') (hS : ∀ b, S b → S' b) : BySlS S' w' v bs := by
  obtain ⟨a, cap, h1, h2, h3, h4, h5, h6, h7⟩ := h
  refine ⟨a, cap, h1, h2, h3, h4, h5, h6, fun hne => ?_⟩
  obtain ⟨b, o, e, hb, hc⟩ := h7 hne
  exact ⟨b, o, e, hS b hb, fun i hi => (hw.cell hb).trans (hc i hi)⟩

theorem KSlS.agree {n : Nat} {S S' : Nat → Prop} {w w' : World} {R R' : Tr n → Value → Value → Prop} {v : Value} {ks : List (Tr n)} (h : KSlS S w R v ks) (hR : ∀ t sb sk, R t sb sk → R' t sb sk) (hw : AgreeS S w w') (hS : ∀ b, S b → S' b) : KSlS S' w' R' v ks := by
  obtain ⟨a, cap, h1, h2, h3, h4, h5, h7⟩ := h
  refine ⟨a, cap, h1, h2, h3, h4, h5, fun hne => ?_⟩
  obtain ⟨b, o, e, hb, hc⟩ := h7 hne
  refine ⟨b, o, e, hS b hb, fun j t hj => ?_⟩
  obtain ⟨sb, sk, c0, c1, c2, c3, r⟩ := hc j t hj
  exact ⟨sb, sk, (hw.cell hb).trans c0, (hw.cell hb).trans c1, (hw.cell hb).trans c2, (hw.cell hb).trans c3, hR _ _ _ r⟩

theorem RepS.agree {S S' : Nat → Prop} {w w' : World} (hw : AgreeS S w w') (hS : ∀ b, S b → S' b) : ∀ {n : Nat} {t : Tr n} {sb sk : Value}, RepS S w n t sb sk → RepS S' w' n t sb sk
  | 0, t, _, _, _ => by cases t
  | _ + 1, _, _, _, h => ⟨h.1, h.2.1, h.2.2.1.agree hw hS, h.2.2.2.agree (fun _ _ _ r => RepS.agree hw hS r) hw hS⟩

theorem RepS.sl {S : Nat → Prop} {w : World} : ∀ {n : Nat} {t : Tr n} {sb sk : Value}, RepS S w n t sb sk → ∃ a l c a' l' c', sb = .slice a l c ∧ sk = .slice a' l' c'
  | 0, t, _, _, _ => by cases t
  | _ + 1, _, _, _, h => by
    obtain ⟨_, _, ⟨_, _, rfl, _⟩, ⟨_, _, rfl, _⟩⟩ := h
    exact ⟨_, _, _, _, _, _, rfl, rfl⟩

theorem BySl.toS {L B : Nat} {w : World} {v : Value} {bs : List Int} (h : BySl L B w v bs) : BySlS (fun b => L ≤ b ∧ b < B) w v bs := by
  obtain ⟨a, cap, h1, h2, h3, h4, h5, h6, h7⟩ := h
  refine ⟨a, cap, h1, h2, h3, h4, h5, h6, fun hne => ?_⟩
  obtain ⟨b, o, e, hL, hB, hc⟩ := h7 hne
  exact ⟨b, o, e, ⟨hL, hB⟩, hc⟩

theorem BySlS.to {S : Nat → Prop} {B : Nat} {w : World} {v : Value} {bs : List Int} (h : BySlS S w v bs) (hS : ∀ b, S b → b < B) : BySl 0 B w v bs := by
  obtain ⟨a, cap, h1, h2, h3, h4, h5, h6, h7⟩ := h
  refine ⟨a, cap, h1, h2, h3, h4, h5, h6, fun hne => ?_⟩
  obtain ⟨b, o, e, hb, hc⟩ := h7 hne
  exact ⟨b, o, e, Nat.zero_le _, hS b hb, hc⟩

theorem Rep.toS {L B : Nat} {w : World} : ∀ {n : Nat} {t : Tr n} {sb sk : Value}, Rep L B w n t sb sk → RepS (fun b => L ≤ b ∧ b < B) w n t sb sk
  | 0, t, _, _, _ => by cases t
  | n + 1, t, sb, sk, h => by
    obtain ⟨h0, h1, h2, a, cap, e1, e2, e3, e4, e5, e7⟩ := h
    refine ⟨h0, h1, h2.toS, a, cap, e1, e2, e3, e4, e5, fun hne => ?_⟩
    obtain ⟨b, o, e, hL, hB, hc⟩ := e7 hne
    refine ⟨b, o, e, ⟨hL, hB⟩, fun j t hj => ?_⟩
    obtain ⟨sb, sk, c0, c1, c2, c3, r⟩ := hc j t hj
    exact ⟨sb, sk, c0, c1, c2, c3, Rep.toS r⟩

theorem BySlS.none (S : Nat → Prop) (w : World) : BySlS S w (.slice none 0 0) [] := ⟨_, 0, rfl, Nat.le_refl _, Nat.zero_le _, fun _ => ⟨rfl, rfl⟩, by simp, by simp, fun h => absurd rfl h⟩

theorem KSlS.none {n : Nat} (S : Nat → Prop) (w : World) (R : Tr n → Value → Value → Prop) : KSlS S w R (.slice none 0 0) [] := ⟨_, 0, rfl, Nat.le_refl _, Nat.zero_le _, fun _ => ⟨rfl, rfl⟩, by simp, fun h => absurd rfl h⟩

end Go.Proofs.YtaaioaocjfpajaaGreatDoor.Tlv
end

section
/-
  Memory that a call leaves alone, told by blocks.
-/
namespace Go.Proofs.YtaaioaocjfpajaaGreatDoor.Tlv
open Go.RowKit
attribute [local go_sem ↓] Go.wp_at_zero Go.wp_at_succ

theorem AgreeS.below {S : Nat → Prop} {B : Nat} {w w' : World} (h : Below B w w') (hS : ∀ b, S b → b < B) : AgreeS S w w' := fun b hb => h.block b (hS b hb)

end Go.Proofs.YtaaioaocjfpajaaGreatDoor.Tlv
end
