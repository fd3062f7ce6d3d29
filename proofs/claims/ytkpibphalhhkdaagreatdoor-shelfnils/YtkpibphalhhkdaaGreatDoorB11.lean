/- Of the proof: the texts SimSync, PkSeal, one behind the other. -/
import Derived.Test.YtkpibphalhhkdaaGreatDoorB10
section
/-
  SyncDir, Arm, New.
-/
namespace Go.Proofs.YtkpibphalhhkdaaGreatDoor.Sim
open Go.RowKit Go.Maps

theorem rq_settle {P : Nat → Prop} {I J : PS → Prop} {W W1 w' : World} {s : Nat} {q : PS} {vs vc : Value} {mo : Option Nat} {u : Nat → Value} {d : Dir} (h : Rp P I W s q vs (.map mo) vc u) (hm : MapV W1 (.map mo) d) (hk : Kp (fun k => mo = some k) W W1)
    (hw : w' = W1.setCell ⟨s, 3, none⟩ (.slice none 0 0)) (hi : J { q with safe := d, chg := [] }) : Rp P J w' s { q with safe := d, chg := [] } vs (.map mo) (.slice none 0 0) u ∧ Kp P W w' := by
  have hmP : ∀ k, mo = some k → P k := fun k e => h.mapS.2 k (by rw [e])
  have hmA : ∀ k, mo = some k → MapAt W k q.safe := fun k e => by
    rcases h.safe with ⟨h1, _⟩ | ⟨b, h1, h2⟩
    · rw [e] at h1; cases h1
    · rw [e] at h1; cases h1; exact h2
  have nb : ∀ x t cs, Blk W x t cs → ¬ (mo = some x) := fun x t cs hx e => (hmA x e).blk hx rfl
  have nr : ∀ {e : TypeId} {sz n : Nat} {v : Value} {xs : List Value}, Row W e sz v n xs → ∀ x, v.ownBlock = some x → ¬ (mo = some x) := fun hrow x hx e => (hmA x e).row hrow hx
  have hs1 := h.blk.kp hk (nb s _ _ h.blk)
  have kset : Kp (· = s) W1 w' := by rw [hw]; exact Kp.set1 _ _ _ _
  have K : Kp (fun k => k = s ∨ mo = some k) W w' := (hk.mono (fun x hx => .inl (.inr hx))).trans kset (fun x hx => .inl (.inl hx))
  refine ⟨?_, K.mono (fun x hx => by
    rcases hx with rfl | hx
    · exact .inl h.ps
    · exact .inl (hmP x hx))⟩
  exact {
    lt := fun x hx => Nat.lt_of_lt_of_le (h.lt x hx) K.size
    ps := h.ps
    blk := by rw [hw]; exact hs1.setCell 3 (.slice none 0 0)
    seen := by
      rcases h.seen with ⟨h1, h2⟩ | ⟨b, h1, h2⟩
      · exact .inl ⟨h1, h2⟩
      · refine .inr ⟨b, h1, h2.kp K (fun e => ?_)⟩
        rcases e with e | e
        · exact h2.blk h.blk e
        · have hmade : q.made = true := by
            cases hmd : q.made with
            | true => rfl
            | false => have := (h.unmade hmd).1; rw [h1] at this; cases this
          obtain ⟨a, c, ha, hc, hac, _⟩ := h.mades hmade
          rw [h1] at ha
          cases ha
          rw [e] at hc
          cases hc
          exact hac rfl
    safe := by
      rcases hm with ⟨h1, h2⟩ | ⟨b, h1, h2⟩
      · exact .inl ⟨h1, h2⟩
      · exact .inr ⟨b, h1, h2.kp kset (h2.blk hs1)⟩
    unmade := h.unmade
    mades := h.mades
    chg := Row.nil _ _ _
    pc := by simp [Value.ownBlock]
    file := fun b f hf => by
      obtain ⟨h1, h2, h3⟩ := h.file b f hf
      refine ⟨h1, h2.kp K (fun e => ?_) (fun x hx e => ?_), h3⟩
      · rcases e with e | e
        · exact h2.blk.ne h.blk (by decide) e
        · exact nb b _ _ h2.blk e
      · rcases e with e | e
        · exact h2.own.row.ne h.blk (by decide) (by rw [hx, e])
        · exact nr h2.own.row x hx e
    sep := h.sep
    inv := hi }

/-- A prefix of the changes done to the safe directory. -/
theorem fold_names {N : Nat} {p : PS} (h : PInv N p) (n : Nat) : ∀ e ∈ (p.chg.take n).foldl pdo p.safe, (p.files e.2).isSome = true ∧ e.1.length ≤ 40 :=
  fold_has (F := fun b => (p.files b).isSome = true) (M := fun n => n.length ≤ 40) (p.chg.take n) p.safe (by
    have := h.okc
    rw [← List.take_append_drop n p.chg, okcs_append] at this
    exact this.1) (fun e he => ⟨h.has e he, h.nmS e he⟩) (fun c hc => by have hc := List.mem_of_mem_take hc; exact ⟨h.hasC c hc, (h.nmC c hc).1, (h.nmC c hc).2⟩)

/-! ### No file stands twice -/
def vals (d : Dir) : List Nat := d.map (·.2)
def mades (l : List PC) : List Nat := (l.filter (fun c => c.kind == 0)).map (·.file)
theorem perm_dins (x : Nm × Nat) : ∀ l : Dir, (dins x l).Perm (x :: l)
  | [] => List.Perm.refl _
  | y :: r => by
    unfold dins
    split
    · exact List.Perm.refl _
    · exact ((perm_dins x r).cons y).trans (List.Perm.swap x y r)
theorem nodup_del {d : Dir} {n : Nm} {l : List Nat} (h : (vals d ++ l).Nodup) : (vals (ddel d n) ++ l).Nodup := by
  refine h.sublist (List.Sublist.append ?_ (List.Sublist.refl _))
  exact List.Sublist.map _ List.filter_sublist
theorem nodup_put {d : Dir} {n : Nm} {f : Nat} {l : List Nat} (h : (vals d ++ (f :: l)).Nodup) : (vals (dput d n f) ++ l).Nodup := by
  have h1 := nodup_del (n := n) h
  have h2 : (vals (dput d n f)).Perm (f :: vals (ddel d n)) := (perm_dins (n, f) (ddel d n)).map _
  refine ((h2.append_right l).nodup_iff).2 ?_
  have h3 : (vals (ddel d n) ++ (f :: l)).Perm (f :: vals (ddel d n) ++ l) := List.perm_middle
  exact h3.nodup_iff.1 h1
theorem vals_moved {d : Dir} (hk : (d.map (·.1)).Nodup) {n : Nm} {b : Nat} (h : dfind d n = some b) : (vals d).Perm (b :: vals (ddel d n)) := by
  have hm := mem_of_dfind h
  have : d.Perm ((n, b) :: ddel d n) := by
    induction d with
    | nil => simp at hm
    | cons x r ih =>
      rw [List.map_cons, List.nodup_cons] at hk
      by_cases e : x.1 = n
      · have hx : x = (n, b) := by
          rcases List.mem_cons.1 hm with h1 | h1
          · exact h1.symm
          · exact absurd (List.mem_map.2 ⟨_, h1, e.symm⟩) hk.1
        have hr : ddel r n = r := by
          unfold ddel
          rw [List.filter_eq_self]
          intro y hy
          have : y.1 ≠ n := fun e' => hk.1 (List.mem_map.2 ⟨y, hy, by rw [e', e]⟩)
          simpa using this
        have hd : ddel (x :: r) n = ddel r n := by unfold ddel; rw [List.filter_cons]; simp [e]
        rw [hd, hr, hx]
      · have hd : ddel (x :: r) n = x :: ddel r n := by unfold ddel; rw [List.filter_cons]; simp [e]
        rw [hd]
        have hm' : (n, b) ∈ r := by
          rcases List.mem_cons.1 hm with h1 | h1
          · exact absurd (by rw [← h1]) e
          · exact h1
        have hf : dfind r n = some b := dfind_of_mem hk.2 hm'
        exact ((ih hk.2 hf hm').cons x).trans (List.Perm.swap (n, b) x _)
  exact this.map _
theorem nodup_pdo {d : Dir} {c : PC} {l : List PC} (hr : Ris d) (hok : okc d c) (h : (vals d ++ mades (c :: l)).Nodup) : (vals (pdo d c) ++ mades l).Nodup := by
  unfold pdo
  split
  · rename_i hk
    have e : mades (c :: l) = c.file :: mades l := by simp [mades, hk]
    rw [e] at h
    exact nodup_put h
  · rename_i hk0
    have e : mades (c :: l) = mades l := by simp [mades, hk0]
    rw [e] at h
    split
    · exact nodup_del h
    · rename_i hk1
      have hk : c.kind = 2 := by have := hok.1; omega
      obtain ⟨b, hb⟩ := Option.isSome_iff_exists.1 (hok.2 hk)
      rw [hb]
      have hp := vals_moved hr.nodup hb
      refine nodup_put ?_
      have h3 : (vals (ddel d c.nm) ++ (b :: mades l)).Perm (vals d ++ mades l) := List.perm_middle.trans (hp.symm.append_right _)
      exact h3.nodup_iff.2 h
theorem nodup_fold : ∀ (l m : List PC) (d : Dir), Ris d → okcs d l → (vals d ++ mades (l ++ m)).Nodup → (vals (l.foldl pdo d) ++ mades m).Nodup
  | [], _, _, _, _, h => h
  | c :: r, m, d, hr, hok, h => nodup_fold r m (pdo d c) (hr.pdo c) hok.2 (nodup_pdo hr hok.1 h)
/-- All changes are settled. -/
theorem inv_settle {N : Nat} {p : PS} (h : PInv N p) (hr : Ris p.safe) : PInv N { p with safe := p.chg.foldl pdo p.safe, chg := [] } :=
  { h with
    seen_eq := h.seen_eq
    okc := trivial
    has := fun e he => ((h.seen_eq ▸ h.hasSeen) e he).1
    hasC := fun c hc => by simp at hc
    nodup := by
      have := nodup_fold p.chg [] p.safe hr h.okc (by simpa [vals, mades] using h.nodup)
      simpa [vals, mades] using this
    nmS := fun e he => ((h.seen_eq ▸ h.hasSeen) e he).2
    nmC := fun c hc => by simp at hc
    nmade := fun e => by obtain ⟨h1, h2⟩ := h.nmade e; exact ⟨rfl, by rw [h1, h2]; rfl⟩
    lsum := by have := h.lsum; have := length_fold p.chg p.safe; show (p.chg.foldl pdo p.safe).length + 0 ≤ N; omega }
theorem MapV.ris {w : World} {v : Value} {l : Dir} (h : MapV w v l) : Ris l := by
  rcases h with ⟨_, rfl⟩ | ⟨b, _, h⟩
  · exact List.Pairwise.nil
  · exact h.ris
theorem MapV.shape {w : World} {v : Value} {l : Dir} (h : MapV w v l) : ∃ mo, v = .map mo := by
  rcases h with ⟨h1, _⟩ | ⟨b, h1, _⟩
  · exact ⟨_, h1⟩
  · exact ⟨_, h1⟩

/-! ### SyncDir -/
theorem syncdir_nil (w : World) : Calls Tryz.prog 36 #[.pointer none] w fun e w' => e = .returned (.int .i64 18) ∧ Kp No w w' := by
  go_enter Tryz.func36, Tryz.ntmps36
  go_wp2_with (go_at_call 59; refine (wrong_nil _ _).mono ?_; rintro e w1 ⟨rfl, h1⟩; subst w1)
  go_ret
  exact ⟨rfl, (Kp.refl _ _).alloc _⟩

set_option maxHeartbeats 1000000 in
theorem syncdir1_any (W : World) (x s n : Nat) (vc : Value) (hx : W.cell? ⟨x, 0, none⟩ = some (.pointer (some ⟨s, 0, none⟩))) (h3 : W.cell? ⟨s, 3, none⟩ = some vc) (hv : ∃ a cap, vc = .slice a n cap) (T : World → Prop)
    (hC : ∀ V, Kp No W V → Calls Tryz.prog 62 #[.pointer (some ⟨s, 0, none⟩), .int .i64 (n : Int)] V fun e w' => e = .returned (.tuple #[]) ∧ T w') :
    Calls Tryz.prog 61 #[.pointer (some ⟨x, 0, none⟩)] W fun e w' => e = .returned (.tuple #[]) ∧ T w' := by
  obtain ⟨a, cap, rfl⟩ := hv
  have HC : Hid (Calls Tryz.prog 62 #[.pointer (some ⟨s, 0, none⟩), .int .i64 (n : Int)] W.drew fun e w' => e = .returned (.tuple #[]) ∧ T w') := hC _ (Kp.refl _ _).drew
  clear hC
  go_enter Tryz.func61, Tryz.ntmps61
  go_wp2_with fail
  go_region_with (go_at_call 62; refine (HC.out).mono ?_; rintro e w1 ⟨rfl, h1⟩; have H1 := hid h1; clear h1)
  all_goals
    go_wp2
    go_end0
    exact ⟨rfl, H1.out⟩

set_option maxHeartbeats 1000000 in
theorem syncdir_any {P : Nat → Prop} {N : Nat} (w : World) (s : Nat) (p : PS) (h : Sys P N w s p) (hN : N + 1 ≤ 1000) :
    Calls Tryz.prog 36 #[.pointer (some ⟨s, 0, none⟩)] w fun e w' => e = .returned (.int .i64 ((pSyncDir p).1 : Nat)) ∧ Done P (N + 1) w w' s (pSyncDir p).2 := by
  obtain ⟨hps, hsl, q4, _⟩ := h.c
  have hI := h.inv
  have H := hid h
  have hmk := hmf
  have HC : Hid (Calls Tryz.prog 59 #[.pointer (some ⟨s, 0, none⟩), .slice none 0 0] (w.alloc (.cells #[.pointer (some ⟨s, 0, none⟩)] 26)) fun e w' => e = .returned (.int .i64 (wrongs p [] : Nat)) ∧ Kp No (w.alloc (.cells #[.pointer (some ⟨s, 0, none⟩)] 26)) w') := by
    refine (wrong_any s _ [] p.down _ ?_ (NsAt.none _)).mono ?_
    · exact (((Kp.refl No w).alloc _).cell (p := ⟨s, 4, none⟩) hsl (fun h => h.elim)).trans q4
    · rintro e w' ⟨rfl, hk⟩
      exact ⟨rfl, hk⟩
  have hbx : Hid (∀ V, Kp No (w.alloc (.cells #[.pointer (some ⟨s, 0, none⟩)] 26)) V → V.cell? ⟨w.heap.size, 0, none⟩ = some (.pointer (some ⟨s, 0, none⟩))) := fun V k => ((Blk.new w 26 [.pointer (some ⟨s, 0, none⟩)]).kp k (fun h => h)).cell 0
  have q0 := hbx.out _ (Kp.refl _ _)
  have ka : Hid (Kp No w (w.alloc (.cells #[.pointer (some ⟨s, 0, none⟩)] 26))) := (Kp.refl _ _).alloc _
  by_cases hw : wrongs p [] = 0
  · have e1 : pSyncDir p = stp p (settle p.chg.length) := by simp [pSyncDir, hw]
    have HST : Hid (∀ w1, Kp No (w.alloc (.cells #[.pointer (some ⟨s, 0, none⟩)] 26)) w1 → Calls Tryz.prog 60 #[.pointer (some ⟨s, 0, none⟩), .func (.func 61) #[] #[.pointer (some ⟨w.heap.size, 0, none⟩)]] w1 fun e w' =>
        e = .returned (.int .i64 ((pSyncDir p).1 : Nat)) ∧ Done P (N + 1) w w' s (pSyncDir p).2) := by
      intro w1 hk
      have k0 := ka.out.andNone hk
      rw [e1]
      cases hd : dead p with
      | true =>
        have e2 : stp p (settle p.chg.length) = (12, fall p) := by simp [stp, hd]
        rw [e2]
        refine (step_dead w1 s p (h.kept k0) hd _).mono ?_
        rintro e w' ⟨rfl, hS, hk2⟩
        exact ⟨rfl, P, hS.more (by omega) hN, (k0.mono (fun _ h => h.elim)).trans hk2 (fun x hx => .inl (by subst hx; exact hps)), fun _ h => .inl h⟩
      | false =>
        have e2 : stp p (settle p.chg.length) = (0, settle p.chg.length (tick p)) := by simp [stp, hd]
        rw [e2]
        refine step_live w1 s p (h.kept k0) hd hN 61 _ (enters_of Tryz.func61 (by kernel_rfl) rfl) _ ?_
        rintro W kW ⟨vs, vf, vc, u, hR⟩
        obtain ⟨mo, rfl⟩ := hR.safe.shape
        obtain ⟨a, cap, hv, _⟩ := hR.chg.shape
        have hxW : W.cell? ⟨w.heap.size, 0, none⟩ = some (.pointer (some ⟨s, 0, none⟩)) := (kW.cell (p := ⟨w.heap.size, 0, none⟩) (by show w.heap.size < w1.heap.size; have := hk.size; simp at this; omega) (by show ¬ (w.heap.size = s); omega)).trans (hbx.out w1 hk)
        have kw : Kp P w W := (k0.mono (fun _ h => h.elim)).trans kW (fun x hx => .inl (by subst hx; exact hps))
        refine syncdir1_any W w.heap.size s p.chg.length vc hxW (hR.c 3) ⟨a, cap, hv⟩ _ ?_
        intro V kV
        have hRV := hR.kp kV (fun _ h => h.elim)
        have hIT := hRV.inv
        have hbig := hIT.big
        refine (settle_raw V s (tick p) vs vc mo u p.chg.length hRV (Nat.le_refl _) hIT.okc hIT.nmC (by have := hIT.lsafe; omega) (by have := hIT.lchg; omega) hIT.nmade).mono ?_
        rintro e w' ⟨rfl, W1, hm1, hk1, hw1⟩
        have htk : (tick p).chg.take p.chg.length = p.chg := List.take_of_length_le (Nat.le_refl _)
        rw [htk] at hm1
        obtain ⟨hS, hK⟩ := rq_settle (J := PInv (N + 1)) hRV hm1 hk1 hw1 (inv_settle hIT hRV.safe.ris)
        have hst : settle p.chg.length (tick p) = { (tick p) with safe := p.chg.foldl pdo p.safe, chg := [] } := by
          show ({ (tick p) with safe := (p.chg.take p.chg.length).foldl pdo p.safe, chg := [] } : PS) = _
          rw [List.take_of_length_le (Nat.le_refl _)]
        rw [hst]
        exact ⟨rfl, P, ⟨vs, _, _, u, hS⟩, (kw.andNone kV).trans hK (fun x hx => .inl hx), fun _ h => .inl h⟩
    rw [hw] at HC
    generalize pSyncDir p = R at *
    clear e1 hw hI h q4
    go_enter Tryz.func36, Tryz.ntmps36
    go_wp2_with (first | (go_at_call 59; refine (HC.out).mono ?_; rintro e w1 ⟨rfl, h1⟩; have H1 := hid h1; have q1 := hbx.out w1 h1; clear h1) | (go_at_call 60; refine (HST.out w1 H1.out).mono ?_; rintro e w2 ⟨rfl, h2⟩; have H2 := hid h2; clear h2))
    go_ret
    exact ⟨rfl, H2.out⟩
  · have e1 : pSyncDir p = (wrongs p [], p) := by simp [pSyncDir, hw]
    rw [e1]
    generalize wrongs p [] = x at *
    have hne : ((x : Int) != 0) = true := by simp; omega
    clear e1 hw hI h q4
    go_enter Tryz.func36, Tryz.ntmps36
    go_wp2_with (go_at_call 59; refine (HC.out).mono ?_; rintro e w1 ⟨rfl, h1⟩; have H1 := hid h1; clear h1)
    go_ret
    exact ⟨rfl, (Done.of (H.out.more (by omega) hN) (Kp.refl _ _)).kept (ka.out.andNone H1.out)⟩



/-! ### New -/
def newPS (room : Nat) : PS := ⟨room, false, [], [], [], false, false, 0, 0, fun _ => none⟩
theorem inv_new (room : Nat) (h : room ≤ 99000) : PInv 0 (newPS room) where
  seen_eq := rfl
  okc := trivial
  has := fun e he => by simp [newPS] at he
  hasC := fun c hc => by simp [newPS] at hc
  nodup := by simp [newPS]
  nmS := fun e he => by simp [newPS] at he
  nmC := fun c hc => by simp [newPS] at hc
  nmade := fun _ => ⟨rfl, rfl⟩
  room := h
  left := Nat.zero_le _
  steps := Nat.le_refl _
  lsum := Nat.le_refl _
  lfile := fun b f hf => by cases hf
  big := by decide
theorem new_no (k : Int) (h : k < 0 ∨ 99000 < k) (w : World) : Calls Tryz.prog 6 #[.int .i64 k] w fun e w' => e = .returned (.tuple #[.pointer none, .int .i64 1]) ∧ w' = w := by
  by_cases h1 : k < 0
  · clear h
    go_enter Tryz.func6, Tryz.ntmps6
    go_wp2
    go_ret2
    exact ⟨rfl, rfl⟩
  · have h2 : 99000 < k := by omega
    clear h
    go_enter Tryz.func6, Tryz.ntmps6
    go_wp2
    go_ret2
    exact ⟨rfl, rfl⟩
theorem new_yes (n : Nat) (h : n ≤ 99000) (w : World) : Calls Tryz.prog 6 #[.int .i64 (n : Int)] w fun e w' => e = .returned (.tuple #[.pointer (some ⟨w.heap.size, 0, none⟩), .int .i64 0]) ∧ Sys (· = w.heap.size) 0 w' w.heap.size (newPS n) ∧ Kp No w w' := by
  have h1 : ¬ (n : Int) < 0 := by omega
  have h2 : ¬ (99000 : Int) < n := by omega
  go_enter Tryz.func6, Tryz.ntmps6
  go_wp2
  go_ret2
  refine ⟨rfl, ⟨.map none, .map none, .slice none 0 0, fun _ => .slice none 0 0, ?_⟩, (Kp.refl _ _).alloc _⟩
  exact {
    lt := fun x hx => by subst hx; simp
    ps := rfl
    blk := Blk.new w 70 [.int .i64 (n : Int), .map none, .map none, .slice none 0 0, .bool false, .bool false, .int .i64 0, .int .i64 0]
    seen := .inl ⟨rfl, rfl⟩
    safe := .inl ⟨rfl, rfl⟩
    unmade := fun _ => ⟨rfl, rfl⟩
    mades := fun e => by cases e
    chg := Row.nil _ _ _
    pc := by simp [Value.ownBlock]
    file := fun b f hf => by cases hf
    sep := fun b b' f f' hf => by cases hf
    inv := inv_new n h }

end Go.Proofs.YtkpibphalhhkdaaGreatDoor.Sim
end

section
/-
  What a seal takes: the two closures.
-/
namespace Go.Proofs.YtkpibphalhhkdaaGreatDoor
open Go.RowKit Go.Shelf
open Sim (hid Kp No PS Done Blk nm finds pFsync pRename pSyncDir)

set_option maxHeartbeats 1000000 in
theorem seal1_any {P : Nat → Prop} {N : Nat} (w : World) (s g c1 c3 : Nat) (t : ByteArray) (p : PS) (h : Sim.Sys P N w s p) (hN : N + 1 ≤ 1000) (ht : t.size ≤ 20000000) (k1 : w.cell? ⟨c1, 0, none⟩ = some (.pointer (some ⟨g, 0, none⟩))) (k2 : w.cell? ⟨g, 0, none⟩ = some (.pointer (some ⟨s, 0, none⟩)))
    (k3 : w.cell? ⟨c3, 0, none⟩ = some (.string t)) (n1 : ¬ P c1) (n2 : ¬ P g) (n3 : ¬ P c3) :
    Calls Tryz.prog 88 #[.pointer (some ⟨c1, 0, none⟩), .pointer (some ⟨c3, 0, none⟩)] w fun e w' => e = .returned (.int .i64 ((pFsync (nm t) p).1 : Nat)) ∧ Done P (N + 1) w w' s (pFsync (nm t) p).2 := by
  have l1 := World.block_lt_of_cell? w _ k1
  have l2 := World.block_lt_of_cell? w _ k2
  have l3 := World.block_lt_of_cell? w _ k3
  have HC := hid (Sim.fsync_any w.drew s p t ht (h.kept ((Kp.refl _ _).drew)) hN)
  obtain ⟨F, hF⟩ : ∃ F, (pFsync (nm t) p).1 = F := ⟨_, rfl⟩
  obtain ⟨q, hq⟩ : ∃ q, (pFsync (nm t) p).2 = q := ⟨_, rfl⟩
  rw [hF, hq] at HC ⊢
  clear hF hq h
  go_enter Tryz.func88, Tryz.ntmps88
  go_wp2_with fail
  refine wp_region_held_drew (S := fun V => V.cell? ⟨c1, 0, none⟩ = some (.pointer (some ⟨g, 0, none⟩)) ∧ V.cell? ⟨g, 0, none⟩ = some (.pointer (some ⟨s, 0, none⟩)) ∧ V.cell? ⟨c3, 0, none⟩ = some (.string t)) (by kernel_rfl) ⟨k1, k2, k3⟩ (fun hHeld => ?_)
  refine wpAnyH_take (i := 0) (oi := { dst := some 3, op := Op.load 110 (Operand.tmp 0), type := 110, pos := "writer.go:105", after := #[], guard := none }) (v := .pointer (some ⟨g, 0, none⟩)) rfl (by kernel_rfl) (by kernel_rfl) (by kernel_rfl) (fun _ _ _ h => h) (Or.inl ⟨by rfl, fun w' hw' => by (have q0 := hw'.1; clear hw'; go_simp)⟩) hHeld ?_
  simp only [Act.put, List.setIfInBounds_toArray, List.set_cons_zero, List.set_cons_succ]
  refine wpAnyH_take (i := 1) (oi := { dst := some 4, op := Op.nilCheck (Operand.tmp 3), type := 0, pos := "writer.go:105", after := #[{ on := 0, ground := Ground.data }], guard := none }) (v := .pointer (some ⟨g, 0, none⟩)) rfl (by kernel_rfl) (by kernel_rfl) (by kernel_rfl) (fun _ _ _ h => h) (Or.inl ⟨by rfl, fun w' hw' => by (clear hw'; go_simp)⟩) hHeld ?_
  simp only [Act.put, List.setIfInBounds_toArray, List.set_cons_zero, List.set_cons_succ]
  refine wpAnyH_take (i := 2) (oi := { dst := some 5, op := Op.fieldAddr 148 (Operand.tmp 4) 0, type := 0, pos := "writer.go:105", after := #[{ on := 1, ground := Ground.data }], guard := none }) (v := .pointer (some ⟨g, 0, none⟩)) rfl (by kernel_rfl) (by kernel_rfl) (by kernel_rfl) (fun _ _ _ h => h) (Or.inl ⟨by rfl, fun w' hw' => by (clear hw'; go_simp)⟩) hHeld ?_
  simp only [Act.put, List.setIfInBounds_toArray, List.set_cons_zero, List.set_cons_succ]
  refine wpAnyH_take (i := 3) (oi := { dst := some 6, op := Op.load 26 (Operand.tmp 5), type := 26, pos := "writer.go:105", after := #[{ on := 2, ground := Ground.data }], guard := none }) (v := .pointer (some ⟨s, 0, none⟩)) rfl (by kernel_rfl) (by kernel_rfl) (by kernel_rfl) (fun _ _ _ h => h) (Or.inl ⟨by rfl, fun w' hw' => by (have q0 := hw'.2.1; clear hw'; go_simp)⟩) hHeld ?_
  simp only [Act.put, List.setIfInBounds_toArray, List.set_cons_zero, List.set_cons_succ]
  refine wpAnyH_take (i := 4) (oi := { dst := some 7, op := Op.load 9 (Operand.tmp 1), type := 9, pos := "writer.go:105", after := #[], guard := none }) (v := .string t) rfl (by kernel_rfl) (by kernel_rfl) (by kernel_rfl) (fun _ _ _ h => h) (Or.inl ⟨by rfl, fun w' hw' => by (have q0 := hw'.2.2; clear hw'; go_simp)⟩) hHeld ?_
  simp only [Act.put, List.setIfInBounds_toArray, List.set_cons_zero, List.set_cons_succ]
  refine wpAnyH_ready (rs := [5]) (by kernel_rfl) (by simp) ?_
  refine AllReadyH.cons (o := { dst := some 8, op := Op.call { callee := Callee.value (Operand.func 89), args := #[Operand.tmp 6, Operand.tmp 7], argTypes := #[26, 9] }, type := 27, pos := "writer.go:105", after := #[{ on := 3, ground := Ground.data }, { on := 4, ground := Ground.data }], guard := none }) rfl (fun K hK => ?_) AllReadyH.nil
  go_simp
  refine HC.out.mono ?_
  rintro e w2 ⟨rfl, P', hS, hK, hP⟩
  have HD := hid (And.intro hS (And.intro hK hP))
  clear hS hK hP
  go_wp2_with fail
  refine hK.out _ _ (⟨(HD.out.2.1.cell (p := ⟨c1, 0, none⟩) l1 n1).trans k1, (HD.out.2.1.cell (p := ⟨g, 0, none⟩) l2 n2).trans k2, (HD.out.2.1.cell (p := ⟨c3, 0, none⟩) l3 n3).trans k3⟩) (fun hh => ?_)
  clear hK K hHeld
  have hHeld := hh
  clear hh
  try simp only [Act.put, List.setIfInBounds_toArray, List.set_cons_zero, List.set_cons_succ]
  refine wpAnyH_take (i := 6) (oi := { dst := some 2, op := Op.assign (Operand.tmp 8), type := 27, pos := "writer.go:105", after := #[{ on := 5, ground := Ground.data }, { on := 5, ground := Ground.chain }, { on := 0, ground := Ground.phase }, { on := 1, ground := Ground.phase }, { on := 2, ground := Ground.phase }, { on := 3, ground := Ground.phase }, { on := 4, ground := Ground.phase }, { on := 5, ground := Ground.phase }], guard := none }) (v := .int .i64 (F : Int)) rfl (by kernel_rfl) (by kernel_rfl) (by kernel_rfl) (fun _ _ _ h => h) (Or.inl ⟨by rfl, fun w' hw' => by (clear hw'; go_simp)⟩) hHeld ?_
  simp only [Act.put, List.setIfInBounds_toArray, List.set_cons_zero, List.set_cons_succ]
  refine wpAnyH_done (by kernel_rfl) ?_ _
  go_wp2_with fail
  go_ret
  exact ⟨rfl, P', HD.out.1, ((Kp.refl (fun x => P x) w).drew).trans HD.out.2.1 (fun x hx => .inl hx), HD.out.2.2⟩

set_option maxHeartbeats 1000000 in
theorem seal2_any {P : Nat → Prop} {N : Nat} (w : World) (s g c1 c3 c4 : Nat) (t t' : ByteArray) (p : PS) (h : Sim.Sys P N w s p) (hN : N + 1 ≤ 1000) (ht : t.size ≤ 20000000) (ht' : t'.size ≤ 20000000) (k1 : w.cell? ⟨c1, 0, none⟩ = some (.pointer (some ⟨g, 0, none⟩))) (k2 : w.cell? ⟨g, 0, none⟩ = some (.pointer (some ⟨s, 0, none⟩)))
    (k3 : w.cell? ⟨c3, 0, none⟩ = some (.string t)) (k4 : w.cell? ⟨c4, 0, none⟩ = some (.string t')) (n1 : ¬ P c1) (n2 : ¬ P g) (n3 : ¬ P c3) (n4 : ¬ P c4) :
    Calls Tryz.prog 90 #[.pointer (some ⟨c1, 0, none⟩), .pointer (some ⟨c3, 0, none⟩), .pointer (some ⟨c4, 0, none⟩)] w fun e w' => e = .returned (.int .i64 ((pRename (nm t) (nm t') p).1 : Nat)) ∧ Done P (N + 1) w w' s (pRename (nm t) (nm t') p).2 := by
  have l1 := World.block_lt_of_cell? w _ k1
  have l2 := World.block_lt_of_cell? w _ k2
  have l3 := World.block_lt_of_cell? w _ k3
  have l4 := World.block_lt_of_cell? w _ k4
  have HC := hid (Sim.rename_any w.drew s p t t' ht ht' (h.kept ((Kp.refl _ _).drew)) hN)
  obtain ⟨F, hF⟩ : ∃ F, (pRename (nm t) (nm t') p).1 = F := ⟨_, rfl⟩
  obtain ⟨q, hq⟩ : ∃ q, (pRename (nm t) (nm t') p).2 = q := ⟨_, rfl⟩
  rw [hF, hq] at HC ⊢
  clear hF hq h
  go_enter Tryz.func90, Tryz.ntmps90
  go_wp2_with fail
  refine wp_region_held_drew (S := fun V => V.cell? ⟨c1, 0, none⟩ = some (.pointer (some ⟨g, 0, none⟩)) ∧ V.cell? ⟨g, 0, none⟩ = some (.pointer (some ⟨s, 0, none⟩)) ∧ V.cell? ⟨c3, 0, none⟩ = some (.string t) ∧ V.cell? ⟨c4, 0, none⟩ = some (.string t')) (by kernel_rfl) ⟨k1, k2, k3, k4⟩ (fun hHeld => ?_)
  refine wpAnyH_take (i := 0) (oi := { dst := some 4, op := Op.load 110 (Operand.tmp 0), type := 110, pos := "writer.go:106", after := #[], guard := none }) (v := .pointer (some ⟨g, 0, none⟩)) rfl (by kernel_rfl) (by kernel_rfl) (by kernel_rfl) (fun _ _ _ h => h) (Or.inl ⟨by rfl, fun w' hw' => by (have q0 := hw'.1; clear hw'; go_simp)⟩) hHeld ?_
  simp only [Act.put, List.setIfInBounds_toArray, List.set_cons_zero, List.set_cons_succ]
  refine wpAnyH_take (i := 1) (oi := { dst := some 5, op := Op.nilCheck (Operand.tmp 4), type := 0, pos := "writer.go:106", after := #[{ on := 0, ground := Ground.data }], guard := none }) (v := .pointer (some ⟨g, 0, none⟩)) rfl (by kernel_rfl) (by kernel_rfl) (by kernel_rfl) (fun _ _ _ h => h) (Or.inl ⟨by rfl, fun w' hw' => by (clear hw'; go_simp)⟩) hHeld ?_
  simp only [Act.put, List.setIfInBounds_toArray, List.set_cons_zero, List.set_cons_succ]
  refine wpAnyH_take (i := 2) (oi := { dst := some 6, op := Op.fieldAddr 148 (Operand.tmp 5) 0, type := 0, pos := "writer.go:106", after := #[{ on := 1, ground := Ground.data }], guard := none }) (v := .pointer (some ⟨g, 0, none⟩)) rfl (by kernel_rfl) (by kernel_rfl) (by kernel_rfl) (fun _ _ _ h => h) (Or.inl ⟨by rfl, fun w' hw' => by (clear hw'; go_simp)⟩) hHeld ?_
  simp only [Act.put, List.setIfInBounds_toArray, List.set_cons_zero, List.set_cons_succ]
  refine wpAnyH_take (i := 3) (oi := { dst := some 7, op := Op.load 26 (Operand.tmp 6), type := 26, pos := "writer.go:106", after := #[{ on := 2, ground := Ground.data }], guard := none }) (v := .pointer (some ⟨s, 0, none⟩)) rfl (by kernel_rfl) (by kernel_rfl) (by kernel_rfl) (fun _ _ _ h => h) (Or.inl ⟨by rfl, fun w' hw' => by (have q0 := hw'.2.1; clear hw'; go_simp)⟩) hHeld ?_
  simp only [Act.put, List.setIfInBounds_toArray, List.set_cons_zero, List.set_cons_succ]
  refine wpAnyH_take (i := 4) (oi := { dst := some 8, op := Op.load 9 (Operand.tmp 1), type := 9, pos := "writer.go:106", after := #[], guard := none }) (v := .string t) rfl (by kernel_rfl) (by kernel_rfl) (by kernel_rfl) (fun _ _ _ h => h) (Or.inl ⟨by rfl, fun w' hw' => by (have q0 := hw'.2.2.1; clear hw'; go_simp)⟩) hHeld ?_
  simp only [Act.put, List.setIfInBounds_toArray, List.set_cons_zero, List.set_cons_succ]
  refine wpAnyH_take (i := 5) (oi := { dst := some 9, op := Op.load 9 (Operand.tmp 2), type := 9, pos := "writer.go:106", after := #[], guard := none }) (v := .string t') rfl (by kernel_rfl) (by kernel_rfl) (by kernel_rfl) (fun _ _ _ h => h) (Or.inl ⟨by rfl, fun w' hw' => by (have q0 := hw'.2.2.2; clear hw'; go_simp)⟩) hHeld ?_
  simp only [Act.put, List.setIfInBounds_toArray, List.set_cons_zero, List.set_cons_succ]
  refine wpAnyH_ready (rs := [6]) (by kernel_rfl) (by simp) ?_
  refine AllReadyH.cons (o := { dst := some 10, op := Op.call { callee := Callee.value (Operand.func 91), args := #[Operand.tmp 7, Operand.tmp 8, Operand.tmp 9], argTypes := #[26, 9, 9] }, type := 27, pos := "writer.go:106", after := #[{ on := 3, ground := Ground.data }, { on := 4, ground := Ground.data }, { on := 5, ground := Ground.data }], guard := none }) rfl (fun K hK => ?_) AllReadyH.nil
  go_simp
  refine HC.out.mono ?_
  rintro e w2 ⟨rfl, P', hS, hK, hP⟩
  have HD := hid (And.intro hS (And.intro hK hP))
  clear hS hK hP
  go_wp2_with fail
  refine hK.out _ _ (⟨(HD.out.2.1.cell (p := ⟨c1, 0, none⟩) l1 n1).trans k1, (HD.out.2.1.cell (p := ⟨g, 0, none⟩) l2 n2).trans k2, (HD.out.2.1.cell (p := ⟨c3, 0, none⟩) l3 n3).trans k3, (HD.out.2.1.cell (p := ⟨c4, 0, none⟩) l4 n4).trans k4⟩) (fun hh => ?_)
  clear hK K hHeld
  have hHeld := hh
  clear hh
  try simp only [Act.put, List.setIfInBounds_toArray, List.set_cons_zero, List.set_cons_succ]
  refine wpAnyH_take (i := 7) (oi := { dst := some 3, op := Op.assign (Operand.tmp 10), type := 27, pos := "writer.go:106", after := #[{ on := 6, ground := Ground.data }, { on := 6, ground := Ground.chain }, { on := 0, ground := Ground.phase }, { on := 1, ground := Ground.phase }, { on := 2, ground := Ground.phase }, { on := 3, ground := Ground.phase }, { on := 4, ground := Ground.phase }, { on := 5, ground := Ground.phase }, { on := 6, ground := Ground.phase }], guard := none }) (v := .int .i64 (F : Int)) rfl (by kernel_rfl) (by kernel_rfl) (by kernel_rfl) (fun _ _ _ h => h) (Or.inl ⟨by rfl, fun w' hw' => by (clear hw'; go_simp)⟩) hHeld ?_
  simp only [Act.put, List.setIfInBounds_toArray, List.set_cons_zero, List.set_cons_succ]
  refine wpAnyH_done (by kernel_rfl) ?_ _
  go_wp2_with fail
  go_ret
  exact ⟨rfl, P', HD.out.1, ((Kp.refl (fun x => P x) w).drew).trans HD.out.2.1 (fun x hx => .inl hx), HD.out.2.2⟩
end Go.Proofs.YtkpibphalhhkdaaGreatDoor
end
