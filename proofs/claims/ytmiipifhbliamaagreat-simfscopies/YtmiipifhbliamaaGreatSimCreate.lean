/-
  Create, Remove, Rename.
-/
import Derived.Test.YtmiipifhbliamaaGreatSimChange
namespace Go.Proofs.YtmiipifhbliamaaGreat.Sim
open Go.RowKit Go.Maps

theorem inv_setF {M : Nat} {q : PS} {b : Nat} {f : Fl} (h : PInv M q) (hl : f.b.length ≤ 200 * M) : PInv M (setF b f q) :=
  { h with
    has := fun e he => by show (if e.2 = b then some f else q.files e.2).isSome = true; split; rfl; exact h.has e he
    hasC := fun c hc hk => by show (if c.file = b then some f else q.files c.file).isSome = true; split; rfl; exact h.hasC c hc hk
    lfile := fun x g hg => by
      have hg' : (if x = b then some f else q.files x) = some g := hg
      split at hg'
      · cases hg'; exact hl
      · exact h.lfile x g hg' }
/-- A file more. -/
theorem sys_add {P : Nat → Prop} {M : Nat} {W : World} {s b : Nat} {q : PS} (h : Sys P M W s q) (hb : Blk W b 86 [.slice none 0 0, .int .i64 0]) (hn : ¬ P b) : Sys (fun x => P x ∨ x = b) M W s (setF b ⟨[], 0⟩ q) := by
  obtain ⟨vs, vf, vc, u, h⟩ := h
  refine ⟨vs, vf, vc, fun x => if x = b then .slice none 0 0 else u x, ?_⟩
  have hold : ∀ x g, q.files x = some g → x ≠ b := fun x g hg e => hn (e ▸ (h.file x g hg).1)
  exact {
    lt := fun x hx => by
      rcases hx with hx | rfl
      · exact h.lt x hx
      · exact hb.lt
    ps := .inl h.ps
    blk := h.blk
    seen := h.seen
    safe := h.safe
    unmade := h.unmade
    mades := fun e => by obtain ⟨a, c, h1, h2, h3, h4, h5⟩ := h.mades e; exact ⟨a, c, h1, h2, h3, .inl h4, .inl h5⟩
    chg := h.chg
    pc := fun x hx => .inl (h.pc x hx)
    file := fun x g hg => by
      have hg' : (if x = b then some ⟨[], 0⟩ else q.files x) = some g := hg
      split at hg'
      · rename_i e
        subst e
        cases hg'
        exact ⟨.inr rfl, by simp only [if_true]; exact ⟨hb, OwnB.nil _, by simp, Nat.le_refl _⟩, by simp [Value.ownBlock]⟩
      · rename_i e
        obtain ⟨h1, h2, h3⟩ := h.file x g hg'
        rw [if_neg e]
        exact ⟨.inl h1, h2, fun y hy => .inl (h3 y hy)⟩
    sep := fun x y f g hf hg hne z hz => by
      have hf' : (if x = b then some ⟨[], 0⟩ else q.files x) = some f := hf
      have hg' : (if y = b then some ⟨[], 0⟩ else q.files y) = some g := hg
      by_cases ex : x = b
      · rw [if_pos ex] at hz
        simp [Value.ownBlock] at hz
      · rw [if_neg ex] at hz hf'
        by_cases ey : y = b
        · rw [if_pos ey]
          simp [Value.ownBlock]
        · rw [if_neg ey] at hg' ⊢
          exact h.sep x y f g hf' hg' hne z hz
    inv := inv_setF h.inv (by simp) }

theorem Sys.c {P : Nat → Prop} {N : Nat} {w : World} {s : Nat} {p : PS} (h : Sys P N w s p) : P s ∧ s < w.heap.size ∧ w.cell? ⟨s, 4, none⟩ = some (.bool p.down) ∧ ∃ vs, w.cell? ⟨s, 1, none⟩ = some vs ∧ MapV w vs p.seen := by
  obtain ⟨vs, vf, vc, u, h⟩ := h
  exact ⟨h.ps, h.lt s h.ps, h.c 4, vs, h.c 1, h.seen⟩

theorem create_nil (t : ByteArray) (w : World) : Calls Tryz.prog 14 #[.pointer none, .string t] w fun e w' => e = .returned (.int .i64 18) ∧ Kp No w w' := by
  go_enter Tryz.func14, Tryz.ntmps14
  go_wp2_with (go_at_call 50; refine (wrong_nil _ _).mono ?_; rintro e w1 ⟨rfl, h1⟩; subst w1)
  go_ret
  exact ⟨rfl, (Kp.refl _ _).alloc _⟩

theorem wrongs_one {p : PS} {n : Nm} (h : wrongs p [n] = 0) : p.down = false ∧ nameB n = true := by
  unfold wrongs at h
  split at h
  · cases h
  · rename_i h1
    split at h
    · rename_i h2
      exact ⟨by simpa using h1, by simpa using h2⟩
    · cases h
theorem nameB_len {n : Nm} (h : nameB n = true) : n.length ≤ 40 := by
  unfold nameB at h
  simp only [Bool.and_eq_true, decide_eq_true_eq] at h
  exact h.1.2

/-- What change_any gives, as data. -/
theorem Done.ofChange {P P2 : Nat → Prop} {N : Nat} {w0 w w' : World} {s : Nat} {p q : PS} {c : PC} {e : Ending} (k0 : Kp No w0 w) (hP2 : ∀ x, P2 x → P x ∨ w0.heap.size ≤ x) (hN : N + 1 ≤ 1000) (hps : P s) (g : PS → PS) (hq : q = g (tick p))
    (h : (dead p = true ∧ e = .returned (.int .i64 12) ∧ Sys P N w' s (fall p) ∧ Kp (· = s) w w') ∨
      (dead p = false ∧ e = .returned (.int .i64 0) ∧ ∃ P', Sys P' (N + 1) w' s (chgd c q) ∧ Kp P2 w w' ∧ ∀ x, P' x → P2 x ∨ w.heap.size ≤ x)) :
    e = .returned (.int .i64 ((stp p (fun r => chgd c (g r))).1 : Nat)) ∧ Done P (N + 1) w0 w' s (stp p (fun r => chgd c (g r))).2 := by
  rcases h with ⟨hd, rfl, hS, hk⟩ | ⟨hd, rfl, P', hS, hk, hP'⟩
  · have e1 : stp p (fun r => chgd c (g r)) = (12, fall p) := by simp [stp, hd]
    rw [e1]
    exact ⟨rfl, P, hS.more (by omega) hN, (k0.mono (fun _ h => h.elim)).trans hk (fun x hx => .inl (by subst hx; exact hps)), fun _ h => .inl h⟩
  · have e1 : stp p (fun r => chgd c (g r)) = (0, chgd c q) := by simp [stp, hd, hq]
    rw [e1]
    refine ⟨rfl, P', hS, ?_, fun x hx => ?_⟩
    · refine ((k0.mono (fun _ h => h.elim)).trans hk hP2)
    · rcases hP' x hx with h | h
      · exact hP2 x h
      · exact .inr (Nat.le_trans k0.size h)

set_option maxHeartbeats 2000000 in
theorem create_any {P : Nat → Prop} {N : Nat} (w : World) (s : Nat) (p : PS) (t : ByteArray) (ht : t.size ≤ 1000000) (h : Sys P N w s p) (hN : N + 1 ≤ 1000) :
    Calls Tryz.prog 14 #[.pointer (some ⟨s, 0, none⟩), .string t] w fun e w' => ∃ b, p.files b = none ∧ e = .returned (.int .i64 ((pCreate (nm t) b p).1 : Nat)) ∧ Done P (N + 1) w w' s (pCreate (nm t) b p).2 := by
  obtain ⟨hps, hsl, q4, vs, q1, hV⟩ := h.c
  have hI := h.inv
  have HF : Hid (∀ b, w.heap.size ≤ b → p.files b = none) := fun b hb => by
    cases hf : p.files b with
    | none => rfl
    | some f =>
      obtain ⟨_, _, _, _, hR⟩ := h
      have := hR.lt b (hR.file b f hf).1
      omega
  have HC : Hid (Calls Tryz.prog 50 #[.pointer (some ⟨s, 0, none⟩), .slice (some ⟨w.heap.size, 0, none⟩) 1 1] (w.alloc (.cells #[.string t] 9)) fun e w' => e = .returned (.int .i64 (wrongs p [nm t] : Nat)) ∧ Kp No w w') := by
    refine (wrong_any s _ [nm t] p.down _ ?_ (NsAt.one w t ht)).mono ?_
    · exact (((Kp.refl No w).alloc _).cell (p := ⟨s, 4, none⟩) hsl (fun h => h.elim)).trans q4
    · rintro e w' ⟨rfl, hk⟩
      exact ⟨rfl, ((Kp.refl No w).alloc _).andNone hk⟩
  have hW : Hid (∀ W, Kp No w W → W.cell? ⟨s, 1, none⟩ = some vs ∧ (Instr.lookup 55 vs (.string t) false).run Tryz.prog W = .ok (ptrV (dfind p.seen (nm t))) W) := fun W k =>
    ⟨(k.cell (p := ⟨s, 1, none⟩) hsl (fun h => h.elim)).trans q1, (hV.kp k (fun _ _ h => h.elim)).lookS t ht⟩
  have H := hid h
  have HI := hid hI
  clear h q4 q1 hV hI
  by_cases hw : wrongs p [nm t] = 0
  · rw [hw] at HC
    obtain ⟨hdn, hnb⟩ := wrongs_one hw
    have hnl := nameB_len hnb
    cases hd : dfind p.seen (nm t) with
    | some b =>
      have e1 : ∀ b, pCreate (nm t) b p = (6, p) := fun b => by simp [pCreate, hw, hd]
      have HE := hid e1
      rw [hd] at hW
      clear e1 hd hw hdn hnb
      go_enter Tryz.func14, Tryz.ntmps14
      go_wp2_with (go_at_call 50; refine (HC.out).mono ?_; rintro e w1 ⟨rfl, hk⟩; have HK := hid hk; obtain ⟨r1, r2⟩ := hW.out _ hk; have e0 : ptrV (some b) = .pointer (some ⟨b, 0, none⟩) := rfl; rw [e0] at r2; clear hk e0)
      go_ret
      refine ⟨w.heap.size, HF.out _ (Nat.le_refl _), ?_, ?_⟩
      · rw [HE.out]; rfl
      · rw [HE.out]
        exact (Done.of (H.out.more (by omega) hN) (Kp.refl _ _)).kept HK.out
    | none =>
      have e1 : ∀ b, pCreate (nm t) b p = stp p (fun q => chgd ⟨0, nm t, [], b⟩ (setF b ⟨[], 0⟩ q)) := fun b => by simp [pCreate, hw, hd]
      have HE := hid e1
      have HD := hid hd
      rw [hd] at hW
      have HCH : Hid (∀ w1, Kp No w w1 → Calls Tryz.prog 51 #[.pointer (some ⟨s, 0, none⟩), .agg #[.int .i64 0, .string t, .string ⟨#[]⟩, .pointer (some ⟨w1.heap.size, 0, none⟩)]] (w1.alloc (.cells #[.slice none 0 0, .int .i64 0] 86)) fun e w' =>
          e = .returned (.int .i64 ((stp p (fun q => chgd ⟨0, nm t, [], w1.heap.size⟩ (setF w1.heap.size ⟨[], 0⟩ q))).1 : Nat)) ∧ Done P (N + 1) w w' s (stp p (fun q => chgd ⟨0, nm t, [], w1.heap.size⟩ (setF w1.heap.size ⟨[], 0⟩ q))).2) := by
        intro w1 hk
        have hk2 : Kp No w (w1.alloc (.cells #[.slice none 0 0, .int .i64 0] 86)) := hk.alloc _
        have hcc : (chgCells ⟨0, nm t, [], w1.heap.size⟩).toArray = #[.int .i64 0, .string t, .string ⟨#[]⟩, .pointer (some ⟨w1.heap.size, 0, none⟩)] := by
          simp only [chgCells, sOf_nm]
          rfl
        have hnew : w.heap.size ≤ w1.heap.size := hk.size
        have hnP : ¬ P w1.heap.size := fun hp => by have := H.out.lt _ hp; omega
        have hfz := HF.out _ hnew
        have hc := change_any (P := P) (P2 := fun x => P x ∨ x = w1.heap.size) (w1.alloc (.cells #[.slice none 0 0, .int .i64 0] 86)) s p (setF w1.heap.size ⟨[], 0⟩ (tick p)) ⟨0, nm t, [], w1.heap.size⟩ (H.out.kept hk2) hN
          (fun W kW hsW => sys_add hsW ((Blk.new w1 86 [.slice none 0 0, .int .i64 0]).kp kW (fun e => by omega)) hnP) (fun x hx => by
            rcases hx with hx | rfl
            · have := H.out.lt x hx; simp; omega
            · simp) ⟨Nat.zero_le _, fun e => by cases e⟩ ⟨by rw [nm_len]; exact ht, by simp⟩ ?_
        · rw [hcc] at hc
          refine hc.mono ?_
          intro e w' h'
          exact Done.ofChange (g := setF w1.heap.size ⟨[], 0⟩) hk2 (fun x hx => by
            rcases hx with hx | rfl
            · exact .inl hx
            · exact .inr hnew) hN hps rfl h'
        · have hT := inv_setF (b := w1.heap.size) (f := ⟨[], 0⟩) (HI.out.tick hN) (by simp)
          refine inv_chgd hT ⟨Nat.zero_le _, fun e => by cases e⟩ ⟨hnl, by simp⟩ (by have := HI.out.lsum; show p.safe.length + p.chg.length + 1 ≤ N + 1; omega) (fun _ => ⟨by simp [setF], fun hm => ?_⟩)
          rcases List.mem_append.1 hm with hm | hm
          · obtain ⟨x, hx, hx2⟩ := List.mem_map.1 hm
            have := HI.out.has x hx
            rw [hx2, hfz] at this
            cases this
          · obtain ⟨x, hx, hx2⟩ := List.mem_map.1 hm
            obtain ⟨hx3, hx4⟩ := List.mem_filter.1 hx
            have := HI.out.hasC x hx3 (by simpa using hx4)
            have hx2' : x.file = w1.heap.size := hx2
            rw [hx2', hfz] at this
            cases this
      clear e1 hd hw hdn hnb
      go_enter Tryz.func14, Tryz.ntmps14
      go_wp2_with (first | (go_at_call 50; refine (HC.out).mono ?_; rintro e w1 ⟨rfl, hk⟩; have HK := hid hk; obtain ⟨r1, r2⟩ := hW.out _ hk; have e0 : ptrV none = .pointer none := rfl; rw [e0] at r2; clear hk e0) | (go_at_call 51; refine (HCH.out w1 HK.out).mono ?_; rintro e w2 ⟨rfl, h2⟩; have H2 := hid h2; clear h2))
      go_ret
      refine ⟨w1.heap.size, HF.out _ HK.out.size, ?_, ?_⟩
      · rw [HE.out]; rfl
      · rw [HE.out]; exact H2.out
  · have e1 : ∀ b, pCreate (nm t) b p = (wrongs p [nm t], p) := fun b => by simp [pCreate, hw]
    have HE := hid e1
    generalize wrongs p [nm t] = x at *
    have hne : ((x : Int) != 0) = true := by simp; omega
    clear e1 hw
    go_enter Tryz.func14, Tryz.ntmps14
    go_wp2_with (go_at_call 50; refine (HC.out).mono ?_; rintro e w1 ⟨rfl, hk⟩; have HK := hid hk; clear hk)
    go_ret
    refine ⟨w.heap.size, HF.out _ (Nat.le_refl _), ?_, ?_⟩
    · rw [HE.out]; rfl
    · rw [HE.out]
      exact (Done.of (H.out.more (by omega) hN) (Kp.refl _ _)).kept HK.out

/-- A change of a name that is there. -/
theorem HCH_of {P : Nat → Prop} {N : Nat} (w : World) (s : Nat) (p : PS) (c : PC) (t t' : ByteArray) (h : Sys P N w s p) (hN : N + 1 ≤ 1000) (hk0 : c.kind = 1 ∨ c.kind = 2) (hf : (dfind p.seen c.nm).isSome = true) (hn : c.nm.length ≤ 40 ∧ c.to.length ≤ 40) (e1 : sOf c.nm = t) (e2 : sOf c.to = t') (w1 : World) (hk : Kp No w w1) :
    Calls Tryz.prog 51 #[.pointer (some ⟨s, 0, none⟩), .agg #[.int .i64 (c.kind : Int), .string t, .string t', .pointer none]] w1 fun e w' =>
      e = .returned (.int .i64 ((stp p (chgd c)).1 : Nat)) ∧ Done P (N + 1) w w' s (stp p (chgd c)).2 := by
  have hI := h.inv
  have hcc : (chgCells c).toArray = #[.int .i64 (c.kind : Int), .string t, .string t', .pointer none] := by
    have : pcV c = none := by unfold pcV; rw [if_neg (by omega)]
    simp only [chgCells, e1, e2, this]
    rfl
  have hok : okc p.seen c := ⟨by omega, fun _ => hf⟩
  have hc := change_any (P := P) (P2 := P) w1 s p (tick p) c (h.kept hk) hN (fun W _ hsW => hsW) (fun x hx => Nat.lt_of_lt_of_le (h.lt x hx) hk.size) hok ⟨by omega, by omega⟩
    (inv_chgd (hI.tick hN) hok hn (by have := hI.lsum; show p.safe.length + p.chg.length + 1 ≤ N + 1; omega) (fun e => by omega))
  rw [hcc] at hc
  refine hc.mono ?_
  intro e w' h'
  exact Done.ofChange (g := fun r => r) hk (fun x hx => .inl hx) hN h.c.1 rfl h'

theorem remove_nil (t : ByteArray) (w : World) : Calls Tryz.prog 32 #[.pointer none, .string t] w fun e w' => e = .returned (.int .i64 18) ∧ Kp No w w' := by
  go_enter Tryz.func32, Tryz.ntmps32
  go_wp2_with (go_at_call 48; refine (find_nil t _).mono ?_; rintro e w1 ⟨rfl, h1⟩; have H1 := hid h1; clear h1)
  go_ret
  exact ⟨rfl, H1.out⟩

set_option maxHeartbeats 2000000 in
theorem remove_any {P : Nat → Prop} {N : Nat} (w : World) (s : Nat) (p : PS) (t : ByteArray) (ht : t.size ≤ 1000000) (h : Sys P N w s p) (hN : N + 1 ≤ 1000) :
    Calls Tryz.prog 32 #[.pointer (some ⟨s, 0, none⟩), .string t] w fun e w' => e = .returned (.int .i64 ((pRemove (nm t) p).1 : Nat)) ∧ Done P (N + 1) w w' s (pRemove (nm t) p).2 := by
  have HC := hid (find_any w s p t ht h)
  have hI := h.inv
  have H := hid h
  by_cases h0 : finds p (nm t) = 0
  · obtain ⟨b, hb⟩ := found_zero hI h0
    obtain ⟨_, hd, _⟩ := pBytes_of hb
    have e1 : pRemove (nm t) p = stp p (chgd ⟨1, nm t, [], 0⟩) := by simp [pRemove, h0]
    have hnl : (nm t).length ≤ 40 := (hI.hasSeen _ (mem_of_dfind hd)).2
    have HCH := hid (HCH_of w s p ⟨1, nm t, [], 0⟩ t ⟨#[]⟩ h hN (.inl rfl) (by rw [hd]; rfl) ⟨hnl, by simp⟩ (sOf_nm t) rfl)
    rw [e1]
    rw [h0, hb] at HC
    have e0 : ptrV (some b) = .pointer (some ⟨b, 0, none⟩) := rfl
    rw [e0] at HC
    generalize stp p (chgd ⟨1, nm t, [], 0⟩) = R at *
    clear e1 e0 hd hb h0 hI h
    go_enter Tryz.func32, Tryz.ntmps32
    go_wp2_with (first | (go_at_call 48; refine (HC.out).mono ?_; rintro e w1 ⟨rfl, h1⟩; have H1 := hid h1; clear h1) | (go_at_call 51; refine (HCH.out w1 H1.out).mono ?_; rintro e w2 ⟨rfl, h2⟩; have H2 := hid h2; clear h2))
    go_ret
    exact ⟨rfl, H2.out⟩
  · have e1 : pRemove (nm t) p = (finds p (nm t), p) := by simp [pRemove, h0]
    have hn : foundP p (nm t) = none := by simp [foundP, h0]
    rw [e1]
    rw [hn] at HC
    have e0 : ptrV none = .pointer none := rfl
    rw [e0] at HC
    generalize finds p (nm t) = x at *
    have hne : ((x : Int) != 0) = true := by simp; omega
    clear e1 e0 hn h0 hI h
    go_enter Tryz.func32, Tryz.ntmps32
    go_wp2_with (go_at_call 48; refine (HC.out).mono ?_; rintro e w1 ⟨rfl, h1⟩; have H1 := hid h1; clear h1)
    go_ret
    exact ⟨rfl, (Done.of (H.out.more (by omega) hN) (Kp.refl _ _)).kept H1.out⟩

theorem rename_nil (t t' : ByteArray) (w : World) : Calls Tryz.prog 30 #[.pointer none, .string t, .string t'] w fun e w' => e = .returned (.int .i64 18) ∧ Kp No w w' := by
  go_enter Tryz.func30, Tryz.ntmps30
  go_wp2_with (go_at_call 50; refine (wrong_nil _ _).mono ?_; rintro e w1 ⟨rfl, h1⟩; subst w1)
  go_ret
  exact ⟨rfl, (Kp.refl _ _).alloc _⟩

theorem wrongs_two {p : PS} {n m : Nm} (h : wrongs p [n, m] = 0) : p.down = false ∧ nameB n = true ∧ nameB m = true := by
  unfold wrongs at h
  split at h
  · cases h
  · rename_i h1
    split at h
    · rename_i h2
      exact ⟨by simpa using h1, by simpa using h2⟩
    · cases h

set_option maxHeartbeats 2000000 in
theorem rename_any {P : Nat → Prop} {N : Nat} (w : World) (s : Nat) (p : PS) (t t' : ByteArray) (ht : t.size ≤ 1000000) (ht' : t'.size ≤ 1000000) (h : Sys P N w s p) (hN : N + 1 ≤ 1000) :
    Calls Tryz.prog 30 #[.pointer (some ⟨s, 0, none⟩), .string t, .string t'] w fun e w' => e = .returned (.int .i64 ((pRename (nm t) (nm t') p).1 : Nat)) ∧ Done P (N + 1) w w' s (pRename (nm t) (nm t') p).2 := by
  obtain ⟨hps, hsl, q4, vs, q1, hV⟩ := h.c
  have HC : Hid (Calls Tryz.prog 50 #[.pointer (some ⟨s, 0, none⟩), .slice (some ⟨w.heap.size, 0, none⟩) 2 2] (w.alloc (.cells #[.string t, .string t'] 9)) fun e w' => e = .returned (.int .i64 (wrongs p [nm t, nm t'] : Nat)) ∧ Kp No w w') := by
    refine (wrong_any s _ [nm t, nm t'] p.down _ ?_ (NsAt.two w t t' ht ht')).mono ?_
    · exact (((Kp.refl No w).alloc _).cell (p := ⟨s, 4, none⟩) hsl (fun h => h.elim)).trans q4
    · rintro e w' ⟨rfl, hk⟩
      exact ⟨rfl, ((Kp.refl No w).alloc _).andNone hk⟩
  have hW : Hid (∀ W, Kp No w W → W.cell? ⟨s, 1, none⟩ = some vs ∧ (Instr.lookup 55 vs (.string t) false).run Tryz.prog W = .ok (ptrV (dfind p.seen (nm t))) W) := fun W k =>
    ⟨(k.cell (p := ⟨s, 1, none⟩) hsl (fun h => h.elim)).trans q1, (hV.kp k (fun _ _ h => h.elim)).lookS t ht⟩
  have H := hid h
  clear q4 q1 hV
  by_cases hw : wrongs p [nm t, nm t'] = 0
  · rw [hw] at HC
    obtain ⟨hdn, hn1, hn2⟩ := wrongs_two hw
    cases hd : dfind p.seen (nm t) with
    | none =>
      have e1 : pRename (nm t) (nm t') p = (5, p) := by simp [pRename, hw, hd]
      rw [e1]
      rw [hd] at hW
      clear e1 hd hw hdn h hn1 hn2
      go_enter Tryz.func30, Tryz.ntmps30
      go_wp2_with (go_at_call 50; refine (HC.out).mono ?_; rintro e w1 ⟨rfl, hk⟩; have HK := hid hk; obtain ⟨r1, r2⟩ := hW.out _ hk; have e0 : ptrV none = .pointer none := rfl; rw [e0] at r2; clear hk e0)
      go_ret
      exact ⟨rfl, (Done.of (H.out.more (by omega) hN) (Kp.refl _ _)).kept HK.out⟩
    | some b =>
      have e1 : pRename (nm t) (nm t') p = stp p (chgd ⟨2, nm t, nm t', 0⟩) := by simp [pRename, hw, hd]
      have HCH := hid (HCH_of w s p ⟨2, nm t, nm t', 0⟩ t t' h hN (.inr rfl) (by rw [hd]; rfl) ⟨nameB_len hn1, nameB_len hn2⟩ (sOf_nm t) (sOf_nm t'))
      rw [e1]
      rw [hd] at hW
      generalize stp p (chgd ⟨2, nm t, nm t', 0⟩) = R at *
      clear e1 hd hw hdn h hn1 hn2
      go_enter Tryz.func30, Tryz.ntmps30
      go_wp2_with (first | (go_at_call 50; refine (HC.out).mono ?_; rintro e w1 ⟨rfl, hk⟩; have HK := hid hk; obtain ⟨r1, r2⟩ := hW.out _ hk; have e0 : ptrV (some b) = .pointer (some ⟨b, 0, none⟩) := rfl; rw [e0] at r2; clear hk e0) | (go_at_call 51; refine (HCH.out w1 HK.out).mono ?_; rintro e w2 ⟨rfl, h2⟩; have H2 := hid h2; clear h2))
      go_ret
      exact ⟨rfl, H2.out⟩
  · have e1 : pRename (nm t) (nm t') p = (wrongs p [nm t, nm t'], p) := by simp [pRename, hw]
    rw [e1]
    generalize wrongs p [nm t, nm t'] = x at *
    have hne : ((x : Int) != 0) = true := by simp; omega
    clear e1 hw h
    go_enter Tryz.func30, Tryz.ntmps30
    go_wp2_with (go_at_call 50; refine (HC.out).mono ?_; rintro e w1 ⟨rfl, hk⟩; have HK := hid hk; clear hk)
    go_ret
    exact ⟨rfl, (Done.of (H.out.more (by omega) hN) (Kp.refl _ _)).kept HK.out⟩

end Go.Proofs.YtmiipifhbliamaaGreat.Sim
