/- Of the proof: the texts SimCreate, PkBegin, PkNil, SimFile, FrScanM, FrTellR, one behind the other. -/
import Derived.Test.YtaaioaocjfpajaaGreatDoorB7
import Derived.Test.YtaaioaocjfpajaaGreatDoorB6
import Derived.Test.YtaaioaocjfpajaaGreatDoorB4
import Derived.Test.YtaaioaocjfpajaaGreatDoorPkShelf
import Derived.Test.YtaaioaocjfpajaaGreatDoorB3
import Derived.Test.YtaaioaocjfpajaaGreatDoorB5
import Derived.Deep.RegionHeld3
section
/-
  Create, Remove, Rename.
-/
namespace Go.Proofs.YtaaioaocjfpajaaGreatDoor.Sim
open Go.RowKit Go.Maps

theorem inv_setF {M : Nat} {q : PS} {b : Nat} {f : Fl} (h : PInv M q) (hl : f.b.length ≤ 12000 * M) : PInv M (setF b f q) :=
  { h with
    has := fun e he => by show (if e.2 = b then some f else q.files e.2).isSome = true; split; rfl; exact h.has e he
    hasC := fun c hc hk => by show (if c.file = b then some f else q.files c.file).isSome = true; split; rfl; exact h.hasC c hc hk
    lfile := fun x g hg => by
      have hg' : (if x = b then some f else q.files x) = some g := hg
      split at hg'
      · cases hg'; exact hl
      · exact h.lfile x g hg' }
/-- A file more. -/
theorem sys_add {P : Nat → Prop} {M : Nat} {W : World} {s b : Nat} {q : PS} (h : Sys P M W s q) (hb : Blk W b 110 [.slice none 0 0, .int .i64 0]) (hn : ¬ P b) : Sys (fun x => P x ∨ x = b) M W s (setF b ⟨[], 0⟩ q) := by
  obtain ⟨vs, vf, vc, u, h⟩ := h
  refine ⟨vs, vf, vc, fun x => if x = b then .slice none 0 0 else u x, ?_⟩
  have hold : ∀ x g, q.files x = some g → x ≠ b := fun x g hg e => hn (e ▸ (h.file x g hg).1)
  exact {
    lt := fun x hx => by
      rcases hx with hx | rfl
      · exact h.lt x hx
      · exact hb.lt
    ps := .inl h.ps
    blk := h.blk
    seen := h.seen
    safe := h.safe
    unmade := h.unmade
    mades := fun e => by obtain ⟨a, c, h1, h2, h3, h4, h5⟩ := h.mades e; exact ⟨a, c, h1, h2, h3, .inl h4, .inl h5⟩
    chg := h.chg
    pc := fun x hx => .inl (h.pc x hx)
    file := fun x g hg => by
      have hg' : (if x = b then some ⟨[], 0⟩ else q.files x) = some g := hg
      split at hg'
      · rename_i e
        subst e
        cases hg'
        exact ⟨.inr rfl, by simp only [if_true]; exact ⟨hb, OwnB.nil _, by simp, Nat.le_refl _⟩, by simp [Value.ownBlock]⟩
      · rename_i e
        obtain ⟨h1, h2, h3⟩ := h.file x g hg'
        rw [if_neg e]
        exact ⟨.inl h1, h2, fun y hy => .inl (h3 y hy)⟩
    sep := fun x y f g hf hg hne z hz => by
      have hf' : (if x = b then some ⟨[], 0⟩ else q.files x) = some f := hf
      have hg' : (if y = b then some ⟨[], 0⟩ else q.files y) = some g := hg
      by_cases ex : x = b
      · rw [if_pos ex] at hz
        simp [Value.ownBlock] at hz
      · rw [if_neg ex] at hz hf'
        by_cases ey : y = b
        · rw [if_pos ey]
          simp [Value.ownBlock]
        · rw [if_neg ey] at hg' ⊢
          exact h.sep x y f g hf' hg' hne z hz
    inv := inv_setF h.inv (by simp) }

theorem Sys.c {P : Nat → Prop} {N : Nat} {w : World} {s : Nat} {p : PS} (h : Sys P N w s p) : P s ∧ s < w.heap.size ∧ w.cell? ⟨s, 4, none⟩ = some (.bool p.down) ∧ ∃ vs, w.cell? ⟨s, 1, none⟩ = some vs ∧ MapV w vs p.seen := by
  obtain ⟨vs, vf, vc, u, h⟩ := h
  exact ⟨h.ps, h.lt s h.ps, h.c 4, vs, h.c 1, h.seen⟩

theorem wrongs_one {p : PS} {n : Nm} (h : wrongs p [n] = 0) : p.down = false ∧ nameB n = true := by
  unfold wrongs at h
  split at h
  · cases h
  · rename_i h1
    split at h
    · rename_i h2
      exact ⟨by simpa using h1, by simpa using h2⟩
    · cases h
theorem nameB_len {n : Nm} (h : nameB n = true) : n.length ≤ 40 := by
  unfold nameB at h
  simp only [Bool.and_eq_true, decide_eq_true_eq] at h
  exact h.1.2

/-- What change_any gives, as data. -/
theorem Done.ofChange {P P2 : Nat → Prop} {N : Nat} {w0 w w' : World} {s : Nat} {p q : PS} {c : PC} {e : Ending} (k0 : Kp No w0 w) (hP2 : ∀ x, P2 x → P x ∨ w0.heap.size ≤ x) (hN : N + 1 ≤ 1000) (hps : P s) (g : PS → PS) (hq : q = g (tick p))
    (h : (dead p = true ∧ e = .returned (.int .i64 12) ∧ Sys P N w' s (fall p) ∧ Kp (· = s) w w') ∨
      (dead p = false ∧ e = .returned (.int .i64 0) ∧ ∃ P', Sys P' (N + 1) w' s (chgd c q) ∧ Kp P2 w w' ∧ ∀ x, P' x → P2 x ∨ w.heap.size ≤ x)) :
    e = .returned (.int .i64 ((stp p (fun r => chgd c (g r))).1 : Nat)) ∧ Done P (N + 1) w0 w' s (stp p (fun r => chgd c (g r))).2 := by
  rcases h with ⟨hd, rfl, hS, hk⟩ | ⟨hd, rfl, P', hS, hk, hP'⟩
  · have e1 : stp p (fun r => chgd c (g r)) = (12, fall p) := by simp [stp, hd]
    rw [e1]
    exact ⟨rfl, P, hS.more (by omega) hN, (k0.mono (fun _ h => h.elim)).trans hk (fun x hx => .inl (by subst hx; exact hps)), fun _ h => .inl h⟩
  · have e1 : stp p (fun r => chgd c (g r)) = (0, chgd c q) := by simp [stp, hd, hq]
    rw [e1]
    refine ⟨rfl, P', hS, ?_, fun x hx => ?_⟩
    · refine ((k0.mono (fun _ h => h.elim)).trans hk hP2)
    · rcases hP' x hx with h | h
      · exact hP2 x h
      · exact .inr (Nat.le_trans k0.size h)

set_option maxHeartbeats 2000000 in
theorem create_any {P : Nat → Prop} {N : Nat} (w : World) (s : Nat) (p : PS) (t : ByteArray) (ht : t.size ≤ 20000000) (h : Sys P N w s p) (hN : N + 1 ≤ 1000) :
    Calls Tryz.prog 80 #[.pointer (some ⟨s, 0, none⟩), .string t] w fun e w' => ∃ b, p.files b = none ∧ e = .returned (.int .i64 ((pCreate (nm t) b p).1 : Nat)) ∧ Done P (N + 1) w w' s (pCreate (nm t) b p).2 := by
  obtain ⟨hps, hsl, q4, vs, q1, hV⟩ := h.c
  have hI := h.inv
  have HF : Hid (∀ b, w.heap.size ≤ b → p.files b = none) := fun b hb => by
    cases hf : p.files b with
    | none => rfl
    | some f =>
      obtain ⟨_, _, _, _, hR⟩ := h
      have := hR.lt b (hR.file b f hf).1
      omega
  have HC : Hid (Calls Tryz.prog 38 #[.pointer (some ⟨s, 0, none⟩), .slice (some ⟨w.heap.size, 0, none⟩) 1 1] (w.alloc (.cells #[.string t] 9)) fun e w' => e = .returned (.int .i64 (wrongs p [nm t] : Nat)) ∧ Kp No w w') := by
    refine (wrong_any s _ [nm t] p.down _ ?_ (NsAt.one w t ht)).mono ?_
    · exact (((Kp.refl No w).alloc _).cell (p := ⟨s, 4, none⟩) hsl (fun h => h.elim)).trans q4
    · rintro e w' ⟨rfl, hk⟩
      exact ⟨rfl, ((Kp.refl No w).alloc _).andNone hk⟩
  have hW : Hid (∀ W, Kp No w W → W.cell? ⟨s, 1, none⟩ = some vs ∧ (Instr.lookup 75 vs (.string t) false).run Tryz.prog W = .ok (ptrV (dfind p.seen (nm t))) W) := fun W k =>
    ⟨(k.cell (p := ⟨s, 1, none⟩) hsl (fun h => h.elim)).trans q1, (hV.kp k (fun _ _ h => h.elim)).lookS t ht⟩
  have H := hid h
  have HI := hid hI
  clear h q4 q1 hV hI
  by_cases hw : wrongs p [nm t] = 0
  · rw [hw] at HC
    obtain ⟨hdn, hnb⟩ := wrongs_one hw
    have hnl := nameB_len hnb
    cases hd : dfind p.seen (nm t) with
    | some b =>
      have e1 : ∀ b, pCreate (nm t) b p = (6, p) := fun b => by simp [pCreate, hw, hd]
      have HE := hid e1
      rw [hd] at hW
      clear e1 hd hw hdn hnb
      go_enter Tryz.func80, Tryz.ntmps80
      go_wp2_with (go_at_call 38; refine (HC.out).mono ?_; rintro e w1 ⟨rfl, hk⟩; have HK := hid hk; obtain ⟨r1, r2⟩ := hW.out _ hk; have e0 : ptrV (some b) = .pointer (some ⟨b, 0, none⟩) := rfl; rw [e0] at r2; clear hk e0)
      go_ret
      refine ⟨w.heap.size, HF.out _ (Nat.le_refl _), ?_, ?_⟩
      · rw [HE.out]; rfl
      · rw [HE.out]
        exact (Done.of (H.out.more (by omega) hN) (Kp.refl _ _)).kept HK.out
    | none =>
      have e1 : ∀ b, pCreate (nm t) b p = stp p (fun q => chgd ⟨0, nm t, [], b⟩ (setF b ⟨[], 0⟩ q)) := fun b => by simp [pCreate, hw, hd]
      have HE := hid e1
      have HD := hid hd
      rw [hd] at hW
      have HCH : Hid (∀ w1, Kp No w w1 → Calls Tryz.prog 76 #[.pointer (some ⟨s, 0, none⟩), .agg #[.int .i64 0, .string t, .string ⟨#[]⟩, .pointer (some ⟨w1.heap.size, 0, none⟩)]] (w1.alloc (.cells #[.slice none 0 0, .int .i64 0] 110)) fun e w' =>
          e = .returned (.int .i64 ((stp p (fun q => chgd ⟨0, nm t, [], w1.heap.size⟩ (setF w1.heap.size ⟨[], 0⟩ q))).1 : Nat)) ∧ Done P (N + 1) w w' s (stp p (fun q => chgd ⟨0, nm t, [], w1.heap.size⟩ (setF w1.heap.size ⟨[], 0⟩ q))).2) := by
        intro w1 hk
        have hk2 : Kp No w (w1.alloc (.cells #[.slice none 0 0, .int .i64 0] 110)) := hk.alloc _
        have hcc : (chgCells ⟨0, nm t, [], w1.heap.size⟩).toArray = #[.int .i64 0, .string t, .string ⟨#[]⟩, .pointer (some ⟨w1.heap.size, 0, none⟩)] := by
          simp only [chgCells, sOf_nm]
          rfl
        have hnew : w.heap.size ≤ w1.heap.size := hk.size
        have hnP : ¬ P w1.heap.size := fun hp => by have := H.out.lt _ hp; omega
        have hfz := HF.out _ hnew
        have hc := change_any (P := P) (P2 := fun x => P x ∨ x = w1.heap.size) (w1.alloc (.cells #[.slice none 0 0, .int .i64 0] 110)) s p (setF w1.heap.size ⟨[], 0⟩ (tick p)) ⟨0, nm t, [], w1.heap.size⟩ (H.out.kept hk2) hN
          (fun W kW hsW => sys_add hsW ((Blk.new w1 110 [.slice none 0 0, .int .i64 0]).kp kW (fun e => by omega)) hnP) (fun x hx => by
            rcases hx with hx | rfl
            · have := H.out.lt x hx; simp; omega
            · simp) ⟨Nat.zero_le _, fun e => by cases e⟩ ⟨by rw [nm_len]; exact ht, by simp⟩ ?_
        · rw [hcc] at hc
          refine hc.mono ?_
          intro e w' h'
          exact Done.ofChange (g := setF w1.heap.size ⟨[], 0⟩) hk2 (fun x hx => by
            rcases hx with hx | rfl
            · exact .inl hx
            · exact .inr hnew) hN hps rfl h'
        · have hT := inv_setF (b := w1.heap.size) (f := ⟨[], 0⟩) (HI.out.tick hN) (by simp)
          refine inv_chgd hT ⟨Nat.zero_le _, fun e => by cases e⟩ ⟨hnl, by simp⟩ (by have := HI.out.lsum; show p.safe.length + p.chg.length + 1 ≤ N + 1; omega) (fun _ => ⟨by simp [setF], fun hm => ?_⟩)
          rcases List.mem_append.1 hm with hm | hm
          · obtain ⟨x, hx, hx2⟩ := List.mem_map.1 hm
            have := HI.out.has x hx
            rw [hx2, hfz] at this
            cases this
          · obtain ⟨x, hx, hx2⟩ := List.mem_map.1 hm
            obtain ⟨hx3, hx4⟩ := List.mem_filter.1 hx
            have := HI.out.hasC x hx3 (by simpa using hx4)
            have hx2' : x.file = w1.heap.size := hx2
            rw [hx2', hfz] at this
            cases this
      clear e1 hd hw hdn hnb
      go_enter Tryz.func80, Tryz.ntmps80
      go_wp2_with (first | (go_at_call 38; refine (HC.out).mono ?_; rintro e w1 ⟨rfl, hk⟩; have HK := hid hk; obtain ⟨r1, r2⟩ := hW.out _ hk; have e0 : ptrV none = .pointer none := rfl; rw [e0] at r2; clear hk e0) | (go_at_call 76; refine (HCH.out w1 HK.out).mono ?_; rintro e w2 ⟨rfl, h2⟩; have H2 := hid h2; clear h2))
      go_ret
      refine ⟨w1.heap.size, HF.out _ HK.out.size, ?_, ?_⟩
      · rw [HE.out]; rfl
      · rw [HE.out]; exact H2.out
  · have e1 : ∀ b, pCreate (nm t) b p = (wrongs p [nm t], p) := fun b => by simp [pCreate, hw]
    have HE := hid e1
    generalize wrongs p [nm t] = x at *
    have hne : ((x : Int) != 0) = true := by simp; omega
    clear e1 hw
    go_enter Tryz.func80, Tryz.ntmps80
    go_wp2_with (go_at_call 38; refine (HC.out).mono ?_; rintro e w1 ⟨rfl, hk⟩; have HK := hid hk; clear hk)
    go_ret
    refine ⟨w.heap.size, HF.out _ (Nat.le_refl _), ?_, ?_⟩
    · rw [HE.out]; rfl
    · rw [HE.out]
      exact (Done.of (H.out.more (by omega) hN) (Kp.refl _ _)).kept HK.out

/-- A change of a name that is there. -/
theorem HCH_of {P : Nat → Prop} {N : Nat} (w : World) (s : Nat) (p : PS) (c : PC) (t t' : ByteArray) (h : Sys P N w s p) (hN : N + 1 ≤ 1000) (hk0 : c.kind = 1 ∨ c.kind = 2) (hf : (dfind p.seen c.nm).isSome = true) (hn : c.nm.length ≤ 40 ∧ c.to.length ≤ 40) (e1 : sOf c.nm = t) (e2 : sOf c.to = t') (w1 : World) (hk : Kp No w w1) :
    Calls Tryz.prog 76 #[.pointer (some ⟨s, 0, none⟩), .agg #[.int .i64 (c.kind : Int), .string t, .string t', .pointer none]] w1 fun e w' =>
      e = .returned (.int .i64 ((stp p (chgd c)).1 : Nat)) ∧ Done P (N + 1) w w' s (stp p (chgd c)).2 := by
  have hI := h.inv
  have hcc : (chgCells c).toArray = #[.int .i64 (c.kind : Int), .string t, .string t', .pointer none] := by
    have : pcV c = none := by unfold pcV; rw [if_neg (by omega)]
    simp only [chgCells, e1, e2, this]
    rfl
  have hok : okc p.seen c := ⟨by omega, fun _ => hf⟩
  have hc := change_any (P := P) (P2 := P) w1 s p (tick p) c (h.kept hk) hN (fun W _ hsW => hsW) (fun x hx => Nat.lt_of_lt_of_le (h.lt x hx) hk.size) hok ⟨by omega, by omega⟩
    (inv_chgd (hI.tick hN) hok hn (by have := hI.lsum; show p.safe.length + p.chg.length + 1 ≤ N + 1; omega) (fun e => by omega))
  rw [hcc] at hc
  refine hc.mono ?_
  intro e w' h'
  exact Done.ofChange (g := fun r => r) hk (fun x hx => .inl hx) hN h.c.1 rfl h'

set_option maxHeartbeats 2000000 in
theorem remove_any {P : Nat → Prop} {N : Nat} (w : World) (s : Nat) (p : PS) (t : ByteArray) (ht : t.size ≤ 20000000) (h : Sys P N w s p) (hN : N + 1 ≤ 1000) :
    Calls Tryz.prog 49 #[.pointer (some ⟨s, 0, none⟩), .string t] w fun e w' => e = .returned (.int .i64 ((pRemove (nm t) p).1 : Nat)) ∧ Done P (N + 1) w w' s (pRemove (nm t) p).2 := by
  have HC := hid (find_any w s p t ht h)
  have hI := h.inv
  have H := hid h
  by_cases h0 : finds p (nm t) = 0
  · obtain ⟨b, hb⟩ := found_zero hI h0
    obtain ⟨_, hd, _⟩ := pBytes_of hb
    have e1 : pRemove (nm t) p = stp p (chgd ⟨1, nm t, [], 0⟩) := by simp [pRemove, h0]
    have hnl : (nm t).length ≤ 40 := (hI.hasSeen _ (mem_of_dfind hd)).2
    have HCH := hid (HCH_of w s p ⟨1, nm t, [], 0⟩ t ⟨#[]⟩ h hN (.inl rfl) (by rw [hd]; rfl) ⟨hnl, by simp⟩ (sOf_nm t) rfl)
    rw [e1]
    rw [h0, hb] at HC
    have e0 : ptrV (some b) = .pointer (some ⟨b, 0, none⟩) := rfl
    rw [e0] at HC
    generalize stp p (chgd ⟨1, nm t, [], 0⟩) = R at *
    clear e1 e0 hd hb h0 hI h
    go_enter Tryz.func49, Tryz.ntmps49
    go_wp2_with (first | (go_at_call 32; refine (HC.out).mono ?_; rintro e w1 ⟨rfl, h1⟩; have H1 := hid h1; clear h1) | (go_at_call 76; refine (HCH.out w1 H1.out).mono ?_; rintro e w2 ⟨rfl, h2⟩; have H2 := hid h2; clear h2))
    go_ret
    exact ⟨rfl, H2.out⟩
  · have e1 : pRemove (nm t) p = (finds p (nm t), p) := by simp [pRemove, h0]
    have hn : foundP p (nm t) = none := by simp [foundP, h0]
    rw [e1]
    rw [hn] at HC
    have e0 : ptrV none = .pointer none := rfl
    rw [e0] at HC
    generalize finds p (nm t) = x at *
    have hne : ((x : Int) != 0) = true := by simp; omega
    clear e1 e0 hn h0 hI h
    go_enter Tryz.func49, Tryz.ntmps49
    go_wp2_with (go_at_call 32; refine (HC.out).mono ?_; rintro e w1 ⟨rfl, h1⟩; have H1 := hid h1; clear h1)
    go_ret
    exact ⟨rfl, (Done.of (H.out.more (by omega) hN) (Kp.refl _ _)).kept H1.out⟩

theorem wrongs_two {p : PS} {n m : Nm} (h : wrongs p [n, m] = 0) : p.down = false ∧ nameB n = true ∧ nameB m = true := by
  unfold wrongs at h
  split at h
  · cases h
  · rename_i h1
    split at h
    · rename_i h2
      exact ⟨by simpa using h1, by simpa using h2⟩
    · cases h

set_option maxHeartbeats 2000000 in
theorem rename_any {P : Nat → Prop} {N : Nat} (w : World) (s : Nat) (p : PS) (t t' : ByteArray) (ht : t.size ≤ 20000000) (ht' : t'.size ≤ 20000000) (h : Sys P N w s p) (hN : N + 1 ≤ 1000) :
    Calls Tryz.prog 110 #[.pointer (some ⟨s, 0, none⟩), .string t, .string t'] w fun e w' => e = .returned (.int .i64 ((pRename (nm t) (nm t') p).1 : Nat)) ∧ Done P (N + 1) w w' s (pRename (nm t) (nm t') p).2 := by
  obtain ⟨hps, hsl, q4, vs, q1, hV⟩ := h.c
  have HC : Hid (Calls Tryz.prog 38 #[.pointer (some ⟨s, 0, none⟩), .slice (some ⟨w.heap.size, 0, none⟩) 2 2] (w.alloc (.cells #[.string t, .string t'] 9)) fun e w' => e = .returned (.int .i64 (wrongs p [nm t, nm t'] : Nat)) ∧ Kp No w w') := by
    refine (wrong_any s _ [nm t, nm t'] p.down _ ?_ (NsAt.two w t t' ht ht')).mono ?_
    · exact (((Kp.refl No w).alloc _).cell (p := ⟨s, 4, none⟩) hsl (fun h => h.elim)).trans q4
    · rintro e w' ⟨rfl, hk⟩
      exact ⟨rfl, ((Kp.refl No w).alloc _).andNone hk⟩
  have hW : Hid (∀ W, Kp No w W → W.cell? ⟨s, 1, none⟩ = some vs ∧ (Instr.lookup 75 vs (.string t) false).run Tryz.prog W = .ok (ptrV (dfind p.seen (nm t))) W) := fun W k =>
    ⟨(k.cell (p := ⟨s, 1, none⟩) hsl (fun h => h.elim)).trans q1, (hV.kp k (fun _ _ h => h.elim)).lookS t ht⟩
  have H := hid h
  clear q4 q1 hV
  by_cases hw : wrongs p [nm t, nm t'] = 0
  · rw [hw] at HC
    obtain ⟨hdn, hn1, hn2⟩ := wrongs_two hw
    cases hd : dfind p.seen (nm t) with
    | none =>
      have e1 : pRename (nm t) (nm t') p = (5, p) := by simp [pRename, hw, hd]
      rw [e1]
      rw [hd] at hW
      clear e1 hd hw hdn h hn1 hn2
      go_enter Tryz.func110, Tryz.ntmps110
      go_wp2_with (go_at_call 38; refine (HC.out).mono ?_; rintro e w1 ⟨rfl, hk⟩; have HK := hid hk; obtain ⟨r1, r2⟩ := hW.out _ hk; have e0 : ptrV none = .pointer none := rfl; rw [e0] at r2; clear hk e0)
      go_ret
      exact ⟨rfl, (Done.of (H.out.more (by omega) hN) (Kp.refl _ _)).kept HK.out⟩
    | some b =>
      have e1 : pRename (nm t) (nm t') p = stp p (chgd ⟨2, nm t, nm t', 0⟩) := by simp [pRename, hw, hd]
      have HCH := hid (HCH_of w s p ⟨2, nm t, nm t', 0⟩ t t' h hN (.inr rfl) (by rw [hd]; rfl) ⟨nameB_len hn1, nameB_len hn2⟩ (sOf_nm t) (sOf_nm t'))
      rw [e1]
      rw [hd] at hW
      generalize stp p (chgd ⟨2, nm t, nm t', 0⟩) = R at *
      clear e1 hd hw hdn h hn1 hn2
      go_enter Tryz.func110, Tryz.ntmps110
      go_wp2_with (first | (go_at_call 38; refine (HC.out).mono ?_; rintro e w1 ⟨rfl, hk⟩; have HK := hid hk; obtain ⟨r1, r2⟩ := hW.out _ hk; have e0 : ptrV (some b) = .pointer (some ⟨b, 0, none⟩) := rfl; rw [e0] at r2; clear hk e0) | (go_at_call 76; refine (HCH.out w1 HK.out).mono ?_; rintro e w2 ⟨rfl, h2⟩; have H2 := hid h2; clear h2))
      go_ret
      exact ⟨rfl, H2.out⟩
  · have e1 : pRename (nm t) (nm t') p = (wrongs p [nm t, nm t'], p) := by simp [pRename, hw]
    rw [e1]
    generalize wrongs p [nm t, nm t'] = x at *
    have hne : ((x : Int) != 0) = true := by simp; omega
    clear e1 hw h
    go_enter Tryz.func110, Tryz.ntmps110
    go_wp2_with (go_at_call 38; refine (HC.out).mono ?_; rintro e w1 ⟨rfl, hk⟩; have HK := hid hk; clear hk)
    go_ret
    exact ⟨rfl, (Done.of (H.out.more (by omega) hN) (Kp.refl _ _)).kept HK.out⟩

end Go.Proofs.YtaaioaocjfpajaaGreatDoor.Sim
end

section
/-
  A pack is begun.
-/
namespace Go.Proofs.YtaaioaocjfpajaaGreatDoor
open Go.RowKit Go.Shelf
open Sim (hid Kp No PS Done Blk nm pCreate finds pBytes)

theorem TabX.kp {L : Nat → Prop} {w w' : World} {b : Nat} (h : TabX w b) (k : Kp L w w') (hb : ¬ L b) : TabX w' b := by
  have hlt := h.lt
  obtain ⟨f, n, hf, ht⟩ := h
  refine ⟨f, n, hf, ?_⟩
  obtain ⟨h1, h2, h3, h4, h5, h6, h7⟩ := ht
  have c : ∀ j, w'.cell? ⟨b, j, none⟩ = w.cell? ⟨b, j, none⟩ := fun j => k.cell (p := ⟨b, j, none⟩) hlt hb
  refine ⟨Nat.lt_of_lt_of_le h1 k.size, (c _).trans h2, (c _).trans h3, (c _).trans h4, fun j hj => ?_, fun e j hj => (c _).trans (h6 e j hj), fun j => (k.frozen (p := ⟨b, j, none⟩) hlt hb).trans (h7 j)⟩
  obtain ⟨x, hx⟩ := h5 j hj
  exact ⟨x, (c _).trans hx⟩
theorem kp_kept {b : Nat} {w w' : World} (k : Crc.Kept b w w') : Kp (fun x => x = b) w w' := ⟨k.os, k.tape, k.output, k.size, fun i hi hL => k.block i hi hL⟩
theorem sys_kept {P : Nat → Prop} {N b s : Nat} {w w' : World} {p : PS} (h : Sim.Sys P N w s p) (k : Crc.Kept b w w') (hb : ¬ P b) : Sim.Sys P N w' s p :=
  h.kp (kp_kept k) (fun x hx => by rw [hx]; exact hb)

/-- A writer's cells. -/
def wrC (s b : Nat) (i sz ct : Int) (cl : Bool) : List Value := [.pointer (some ⟨s, 0, none⟩), .pointer (some ⟨b, 0, none⟩), .int .i64 i, .int .i64 sz, .int .i64 ct, .bool cl]
def WrAt (w : World) (g s b : Nat) (i sz ct : Int) (cl : Bool) : Prop := Blk w g 166 (wrC s b i sz ct cl)

theorem name_le (p : ByteArray) (hp : p.size ≤ 100) (i : Nat) (h : i < 100) : (sortB p i).size ≤ 20000000 := by
  have := dec_small i h
  have e : (sortB p i).size = p.size + (Lib.decDigits i).length := by
    rw [sortB, ByteArray.size_append]
    rfl
  omega

set_option maxHeartbeats 1000000 in
theorem begin_any {P : Nat → Prop} {N : Nat} (w : World) (s b : Nat) (p : PS) (i : Nat) (h1 : 1 ≤ i) (h2 : i < 100) (h : Sim.Sys P N w s p) (hN : N + 1 ≤ 1000) :
    Calls Tryz.prog 53 #[.pointer (some ⟨s, 0, none⟩), .pointer (some ⟨b, 0, none⟩), .int .i64 (i : Int)] w fun e w' =>
      (finds p (nm (nameP i)) = 0 ∧ e = .returned (.tuple #[.pointer none, .int .i64 6]) ∧ Kp No w w') ∨
      (finds p (nm (nameP i)) ≠ 0 ∧ ∃ x, p.files x = none ∧
        (((pCreate (nm (nameT i)) x p).1 ≠ 0 ∧ e = .returned (.tuple #[.pointer none, .int .i64 ((pCreate (nm (nameT i)) x p).1 : Nat)]) ∧ Done P (N + 1) w w' s (pCreate (nm (nameT i)) x p).2) ∨
         ((pCreate (nm (nameT i)) x p).1 = 0 ∧ ∃ g P', e = .returned (.tuple #[.pointer (some ⟨g, 0, none⟩), .int .i64 0]) ∧ WrAt w' g s b i 0 0 false ∧ Sim.Sys P' (N + 1) w' s (pCreate (nm (nameT i)) x p).2 ∧ Kp P w w' ∧ (∀ x, P' x → P x ∨ w.heap.size ≤ x) ∧ ¬ P' g ∧ w.heap.size ≤ g))) := by
  have HID : Hid (∀ V, Calls Tryz.prog 57 #[.int .i64 (i : Int)] V fun e w' => e = .returned (.bool true) ∧ w' = V) := fun V => by
    have h := isID_any (i : Int) V
    rwa [show idB (i : Int) = true from by simp [idB]; omega] at h
  have HNM := hid (fun V => pname_small i h1 h2 V)
  have HTM := hid (fun V => ptemp_small i h1 h2 V)
  have HSZ := hid (Sim.size_any w s p (nameP i) (name_le _ (by decide) i h2) h)
  have HCR := hid (fun V (k : Kp No w V) => Sim.create_any V s p (nameT i) (name_le _ (by decide) i h2) (h.kept k) hN)
  generalize (pBytes (nm (nameP i)) p).length = ln at HSZ
  by_cases h0 : finds p (nm (nameP i)) = 0
  · rw [h0] at HSZ
    go_enter Tryz.func53, Tryz.ntmps53
    go_wp2_with (first
      | (go_at_call 57; refine (HID.out _).mono ?_; rintro e w1 ⟨rfl, h⟩; subst w1)
      | (go_at_call 13; refine (HNM.out _).mono ?_; rintro e w1 ⟨rfl, h⟩; subst w1)
      | (go_at_call 79; refine HSZ.out.mono ?_; rintro e w1 ⟨rfl, h⟩; have HK := hid h; clear h))
    go_ret2
    exact .inl ⟨h0, rfl, HK.out⟩
  · have HF := hid h0
    obtain ⟨F, hF⟩ : ∃ F, finds p (nm (nameP i)) = F := ⟨_, rfl⟩
    rw [hF] at HSZ h0
    have hF0 : ¬ ((F : Int) = 0) := by omega
    clear hF
    go_enter Tryz.func53, Tryz.ntmps53
    go_wp2_with (first
      | (go_at_call 57; refine (HID.out _).mono ?_; rintro e w1 ⟨rfl, h⟩; subst w1)
      | (go_at_call 13; refine (HNM.out _).mono ?_; rintro e w1 ⟨rfl, h⟩; subst w1)
      | (go_at_call 56; refine (HTM.out _).mono ?_; rintro e w2 ⟨rfl, h⟩; subst w2)
      | (go_at_call 79; refine HSZ.out.mono ?_; rintro e w1 ⟨rfl, h⟩; have HK := hid h; clear h))
    refine (HCR.out w1 HK.out).mono ?_
    rintro e w3 ⟨x, hx, rfl, P', hS, hKp, hP'⟩
    have HX := hid (And.intro hx (And.intro hS (And.intro hKp hP')))
    clear hx hS hKp hP'
    by_cases hc : (pCreate (nm (nameT i)) x p).1 = 0
    · have HC := hid hc
      rw [hc]
      clear hc
      go_wp2_with fail
      go_ret2
      obtain ⟨hx, hS, hKp, hP'⟩ := HX.out
      have hk0 := HK.out.size
      have hk1 := hKp.size
      refine .inr ⟨HF.out, x, hx, .inr ⟨HC.out, w3.heap.size, P', rfl, Blk.new w3 166 (wrC s b i 0 0 false), hS.kept ((Kp.refl _ _).alloc _), ?_, fun y hy => ?_, fun hy => ?_, by omega⟩⟩
      · exact (HK.out.ofNo.trans hKp (fun _ hx => .inl hx)).alloc _
      · rcases hP' y hy with h | h
        · exact .inl h
        · right; omega
      · have := hS.lt _ hy; omega
    · have HC := hid hc
      obtain ⟨G, hG⟩ : ∃ G, (pCreate (nm (nameT i)) x p).1 = G := ⟨_, rfl⟩
      have HG := hid hG
      rw [hG] at hc ⊢
      have hG0 : ¬ ((G : Int) = 0) := by omega
      clear hG
      go_wp2_with fail
      go_ret2
      obtain ⟨hx, hS, hKp, hP'⟩ := HX.out
      refine .inr ⟨HF.out, x, hx, .inl ⟨HC.out, by rw [HG.out]; rfl, Done.after ⟨P', hS, hKp, hP'⟩ HK.out⟩⟩
end Go.Proofs.YtaaioaocjfpajaaGreatDoor
end

section
/-
  What is said of no file system, no table, no writer.
-/
namespace Go.Proofs.YtaaioaocjfpajaaGreatDoor
open Go.RowKit Go.Shelf
open Sim (hid Kp No PS Done Blk nm pCreate finds pBytes)
theorem wrongW_any (w : World) (g s b : Nat) (i sz ct : Int) (cl : Bool) (h : WrAt w g s b i sz ct cl) : Calls Tryz.prog 83 #[.pointer (some ⟨g, 0, none⟩)] w fun e w' => e = .returned (.int .i64 (if cl then 13 else 0)) ∧ w' = w := by
  have c0 : w.cell? ⟨g, 0, none⟩ = some (.pointer (some ⟨s, 0, none⟩)) := h.cell 0
  have c5 : w.cell? ⟨g, 5, none⟩ = some (.bool cl) := h.cell 5
  clear h
  cases cl with
  | false =>
    go_enter Tryz.func83, Tryz.ntmps83
    go_wp2
    go_ret
    exact ⟨rfl, rfl⟩
  | true =>
    go_enter Tryz.func83, Tryz.ntmps83
    go_wp2
    go_ret
    exact ⟨rfl, rfl⟩
end Go.Proofs.YtaaioaocjfpajaaGreatDoor
end

section
/-
  A file is written: Append, Fsync, Flip.
-/
namespace Go.Proofs.YtaaioaocjfpajaaGreatDoor.Sim
open Go.RowKit Go.Maps

/-- A file's block, or its bytes', are written. -/
theorem rq_setF {P P' : Nat → Prop} {I J : PS → Prop} {W W' : World} {s b : Nat} {q : PS} {vs vf vc v' : Value} {u : Nat → Value} {f f' : Fl} (h : Rp P I W s q vs vf vc u) (hb : q.files b = some f)
    (K : Kp (fun k => k = b ∨ (u b).ownBlock = some k) W W') (hF : FileAt W' b v' f') (hv : ∀ k, v'.ownBlock = some k → (u b).ownBlock = some k ∨ W.heap.size ≤ k) (hPP : ∀ x, P x → P' x) (hlt : ∀ x, P' x → x < W'.heap.size) (hvP : ∀ k, v'.ownBlock = some k → P' k) (hi : J (setF b f' q)) :
    Rp P' J W' s (setF b f' q) vs vf vc (fun x => if x = b then v' else u x) ∧ Kp P W W' := by
  obtain ⟨hPb, hFb, hPu⟩ := h.file b f hb
  have nb : ∀ x t cs, Blk W x t cs → x ≠ b → t ≠ 5 → ¬ (x = b ∨ (u b).ownBlock = some x) := fun x t cs hx hne ht e => by
    rcases e with e | e
    · exact hne e
    · exact hFb.own.row.ne hx ht e
  have nm' : ∀ m l, MapAt W m l → ¬ (m = b ∨ (u b).ownBlock = some m) := fun m l hm e => by
    rcases e with e | e
    · exact hm.blk hFb.blk e
    · exact hm.row hFb.own.row e
  have KP : Kp P W W' := K.mono (fun x hx => by
    rcases hx with rfl | hx
    · exact .inl hPb
    · exact .inl (hPu x hx))
  refine ⟨?_, KP⟩
  exact {
    lt := hlt
    ps := hPP _ h.ps
    blk := h.blk.kp K (nb s _ _ h.blk (h.blk.ne hFb.blk (by decide)) (by decide))
    seen := by
      rcases h.seen with ⟨h1, h2⟩ | ⟨m, h1, h2⟩
      · exact .inl ⟨h1, h2⟩
      · exact .inr ⟨m, h1, h2.kp K (nm' m _ h2)⟩
    safe := by
      rcases h.safe with ⟨h1, h2⟩ | ⟨m, h1, h2⟩
      · exact .inl ⟨h1, h2⟩
      · exact .inr ⟨m, h1, h2.kp K (nm' m _ h2)⟩
    unmade := h.unmade
    mades := fun e => by obtain ⟨a, c, h1, h2, h3, h4, h5⟩ := h.mades e; exact ⟨a, c, h1, h2, h3, hPP _ h4, hPP _ h5⟩
    chg := h.chg.kp K (fun x hx e => by
      rcases e with e | e
      · exact h.chg.ne hFb.blk (by decide) (by rw [hx, e])
      · exact hFb.own.row.ne' h.chg (by decide) x e hx)
    pc := fun x hx => hPP _ (h.pc x hx)
    file := fun x g hg => by
      have hg' : (if x = b then some f' else q.files x) = some g := hg
      by_cases e : x = b
      · subst e
        rw [if_pos rfl] at hg' ⊢
        cases hg'
        exact ⟨hPP _ hPb, hF, hvP⟩
      · rw [if_neg e] at hg' ⊢
        obtain ⟨h1, h2, h3⟩ := h.file x g hg'
        exact ⟨hPP _ h1, h2.kp K (nb x _ _ h2.blk e (by decide)) (fun k hk e' => by
          rcases e' with e' | e'
          · exact h2.own.row.ne hFb.blk (by decide) (by rw [hk, e'])
          · exact h.sep b x f g hb hg' (Ne.symm e) k e' hk), fun k hk => hPP _ (h3 k hk)⟩
    sep := fun x y g g' hx hy hne k hk => by
      have hx' : (if x = b then some f' else q.files x) = some g := hx
      have hy' : (if y = b then some f' else q.files y) = some g' := hy
      by_cases ex : x = b
      · subst ex
        have ey : y ≠ x := Ne.symm hne
        rw [if_pos rfl] at hk
        rw [if_neg ey] at hy' ⊢
        rcases hv k hk with h1 | h1
        · exact h.sep x y f g' hb hy' hne k h1
        · intro e
          have := h.lt k ((h.file y g' hy').2.2 k e)
          omega
      · rw [if_neg ex] at hx' hk
        by_cases ey : y = b
        · subst ey
          rw [if_pos rfl]
          intro e
          rcases hv k e with h1 | h1
          · exact h.sep x y g f hx' hb hne k hk h1
          · have := h.lt k ((h.file x g hx').2.2 k hk)
            omega
        · rw [if_neg ey] at hy' ⊢
          exact h.sep x y g g' hx' hy' hne k hk
    inv := hi }

theorem rp_setF {P : Nat → Prop} {I : PS → Prop} {M : Nat} {W W' : World} {s b : Nat} {q : PS} {vs vf vc v' : Value} {u : Nat → Value} {f f' : Fl} (h : Rp P I W s q vs vf vc u) (hb : q.files b = some f)
    (K : Kp (fun k => k = b ∨ (u b).ownBlock = some k) W W') (hF : FileAt W' b v' f') (hv : ∀ k, v'.ownBlock = some k → (u b).ownBlock = some k ∨ W.heap.size ≤ k) (hi : PInv M (setF b f' q)) :
    Sys (Ext P W W') M W' s (setF b f' q) ∧ Kp P W W' := by
  obtain ⟨h1, h2⟩ := rq_setF (P' := Ext P W W') (J := PInv M) h hb K hF hv (fun x hx => .inl hx) (fun x hx => by
    rcases hx with hx | hx
    · exact Nat.lt_of_lt_of_le (h.lt x hx) K.size
    · exact hx.2) (fun k hk => by
    rcases hv k hk with h1 | h1
    · exact .inl ((h.file b f hb).2.2 k h1)
    · exact .inr ⟨h1, hF.own.row.lt k hk⟩) hi
  exact ⟨⟨vs, vf, vc, _, h1⟩, h2⟩

set_option maxHeartbeats 1000000 in
theorem fsync1_any (W : World) (x b : Nat) (a : Option Addr) (n cap m : Nat) (hx : W.cell? ⟨x, 0, none⟩ = some (.pointer (some ⟨b, 0, none⟩))) (hb : Blk W b 110 [.slice a n cap, .int .i64 (m : Int)]) :
    Calls Tryz.prog 143 #[.pointer (some ⟨x, 0, none⟩)] W fun e w' => e = .returned (.tuple #[]) ∧ ∃ W1, Kp No W W1 ∧ w' = W1.setCell ⟨b, 1, none⟩ (.int .i64 (n : Int)) := by
  have c0 : W.cell? ⟨b, 0, none⟩ = some (.slice a n cap) := hb.cell 0
  have c1 : W.cell? ⟨b, 1, none⟩ = some (.int .i64 (m : Int)) := hb.cell 1
  have f1 := hb.frozen 1
  clear hb
  go_enter Tryz.func143, Tryz.ntmps143
  go_wp2_with fail
  go_region
  all_goals
    go_wp2_with fail
    go_end0
    exact ⟨rfl, W.drew, (Kp.refl _ _).drew, rfl⟩

/-- A step that writes a file. -/
theorem step_file {P : Nat → Prop} {N : Nat} (w0 w : World) (s : Nat) (p : PS) (b : Nat) (f' : Fl) (hk0 : Kp No w0 w) (h : Sys P N w0 s p) (hN : N + 1 ≤ 1000) (fn : FuncId) (caps : Array Value) (ent : ∀ args w, (callFunc fn args).run Tryz.prog w = .ok (.enter fn args) w)
    (hc : ∀ W vs vf vc u, Kp (· = s) w W → Rp P (PInv (N + 1)) W s (tick p) vs vf vc u → Calls Tryz.prog fn caps W fun e w' => e = .returned (.tuple #[]) ∧ Sys (Ext P W w') (N + 1) w' s (setF b f' (tick p)) ∧ Kp P W w') :
    Calls Tryz.prog 77 #[.pointer (some ⟨s, 0, none⟩), .func (.func fn) #[] caps] w fun e w' => e = .returned (.int .i64 ((stp p (setF b f')).1 : Nat)) ∧ Done P (N + 1) w0 w' s (stp p (setF b f')).2 := by
  have hps := h.c.1
  cases hd : dead p with
  | true =>
    have e1 : stp p (setF b f') = (12, fall p) := by simp [stp, hd]
    rw [e1]
    refine (step_dead w s p (h.kept hk0) hd _).mono ?_
    rintro e w' ⟨rfl, hS, hk⟩
    exact ⟨rfl, P, hS.more (by omega) hN, (hk0.mono (fun _ h => h.elim)).trans hk (fun x hx => .inl (by subst hx; exact hps)), fun _ h => .inl h⟩
  | false =>
    have e1 : stp p (setF b f') = (0, setF b f' (tick p)) := by simp [stp, hd]
    rw [e1]
    refine step_live w s p (h.kept hk0) hd hN fn caps ent _ ?_
    rintro W kW ⟨vs, vf, vc, u, hR⟩
    refine (hc W vs vf vc u kW hR).mono ?_
    rintro e w' ⟨rfl, hS, hk⟩
    have kw : Kp P w0 W := (hk0.mono (fun _ h => h.elim)).trans kW (fun x hx => .inl (by subst hx; exact hps))
    refine ⟨rfl, _, hS, kw.trans hk (fun x hx => .inl hx), fun x hx => ?_⟩
    rcases hx with hx | hx
    · exact .inl hx
    · exact .inr (Nat.le_trans kw.size hx.1)

/-- The place of a box behind what a step has written. -/
theorem boxed {s : Nat} {w1 W : World} {v : Value} {t : TypeId} (hs : s < w1.heap.size) (k : Kp (· = s) (w1.alloc (.cells #[v] t)) W) : W.cell? ⟨w1.heap.size, 0, none⟩ = some v := by
  have := (Blk.new w1 t [v]).kp k (fun e => by omega)
  exact this.cell 0

set_option maxHeartbeats 1000000 in
theorem fsync_any {P : Nat → Prop} {N : Nat} (w : World) (s : Nat) (p : PS) (t : ByteArray) (ht : t.size ≤ 20000000) (h : Sys P N w s p) (hN : N + 1 ≤ 1000) :
    Calls Tryz.prog 108 #[.pointer (some ⟨s, 0, none⟩), .string t] w fun e w' => e = .returned (.int .i64 ((pFsync (nm t) p).1 : Nat)) ∧ Done P (N + 1) w w' s (pFsync (nm t) p).2 := by
  have HC := hid (find_any w s p t ht h)
  have hI := h.inv
  have H := hid h
  have hmk := hmf
  have hsl := h.c.2.1
  by_cases h0 : finds p (nm t) = 0
  · obtain ⟨b, hb⟩ := found_zero hI h0
    obtain ⟨_, hd, _⟩ := pBytes_of hb
    have hf := hI.hasFound hd
    have e1 : pFsync (nm t) p = stp p (setF b ⟨(fileAt p b).b, (fileAt p b).b.length⟩) := by simp [pFsync, h0, blockOf, hd]
    have HST : Hid (∀ w1, Kp No w w1 → Calls Tryz.prog 77 #[.pointer (some ⟨s, 0, none⟩), .func (.func 143) #[] #[.pointer (some ⟨w1.heap.size, 0, none⟩)]] (w1.alloc (.cells #[.pointer (some ⟨b, 0, none⟩)] 106)) fun e w' =>
        e = .returned (.int .i64 ((pFsync (nm t) p).1 : Nat)) ∧ Done P (N + 1) w w' s (pFsync (nm t) p).2) := by
      intro w1 hk
      rw [e1]
      refine step_file w _ s p b _ (hk.alloc _) h hN 143 _ (enters_of Tryz.func143 (by kernel_rfl) rfl) ?_
      intro W vs vf vc u kW hR
      obtain ⟨hPb, hFb, hPu⟩ := hR.file b _ hf
      obtain ⟨a, cap, hv, hle, _⟩ := hFb.own.shape
      have hblk := hFb.blk
      rw [hv] at hblk
      refine (fsync1_any W w1.heap.size b a _ cap _ (boxed (Nat.lt_of_lt_of_le hsl hk.size) kW) hblk).mono ?_
      rintro e w' ⟨rfl, W1, k1, rfl⟩
      have kK : Kp (fun k => k = b ∨ (u b).ownBlock = some k) W (W1.setCell ⟨b, 1, none⟩ (.int .i64 ((fileAt p b).b.length : Int))) := (k1.mono (fun _ h => h.elim)).setCell (p := ⟨b, 1, none⟩) (.inl (.inl rfl)) _
      have hS := rp_setF (f' := ⟨(fileAt p b).b, (fileAt p b).b.length⟩) (v' := u b) hR hf kK ?_ (fun k hk => .inl hk) (inv_setF hR.inv (show (fileAt p b).b.length ≤ 12000 * (N + 1) from hR.inv.lfile b (fileAt p b) hf))
      · exact ⟨rfl, hS.1, hS.2⟩
      · refine ⟨(hFb.blk.kp k1 (fun h => h)).setCell 1 _, ?_, hFb.byt, Nat.le_refl _⟩
        exact (hFb.own.kept k1).row.kp (Kp.set1 W1 b 1 _) (fun k hk e => hFb.own.row.ne hFb.blk (by decide) (by rw [hk, e]))
    rw [h0, hb] at HC
    have e0 : ptrV (some b) = .pointer (some ⟨b, 0, none⟩) := rfl
    rw [e0] at HC
    generalize pFsync (nm t) p = R at *
    clear e1 e0 hd hb h0 hI h hf
    go_enter Tryz.func108, Tryz.ntmps108
    go_wp2_with (first | (go_at_call 32; refine (HC.out).mono ?_; rintro e w1 ⟨rfl, h1⟩; have H1 := hid h1; clear h1) | (go_at_call 77; refine (HST.out w1 H1.out).mono ?_; rintro e w2 ⟨rfl, h2⟩; have H2 := hid h2; clear h2))
    go_ret
    exact ⟨rfl, H2.out⟩
  · have e1 : pFsync (nm t) p = (finds p (nm t), p) := by simp [pFsync, h0]
    have hn : foundP p (nm t) = none := by simp [foundP, h0]
    rw [e1]
    rw [hn] at HC
    have e0 : ptrV none = .pointer none := rfl
    rw [e0] at HC
    generalize finds p (nm t) = x at *
    have hne : ((x : Int) != 0) = true := by simp; omega
    clear e1 e0 hn h0 hI h
    go_enter Tryz.func108, Tryz.ntmps108
    go_wp2_with (go_at_call 32; refine (HC.out).mono ?_; rintro e w1 ⟨rfl, h1⟩; have H1 := hid h1; clear h1)
    go_ret
    exact ⟨rfl, (Done.of (H.out.more (by omega) hN) (Kp.refl _ _)).kept (H1.out.alloc _)⟩

/-! ### Append -/
set_option maxHeartbeats 4000000 in
theorem append1_any {Q : Nat → Prop} (W : World) (x y b : Nat) (v vb : Value) (bs ys : List Nat) (m : Nat) (hx : Blk W x 106 [.pointer (some ⟨b, 0, none⟩)]) (hy : Blk W y 54 [vb]) (hb : Blk W b 110 [v, .int .i64 (m : Int)]) (hv : OwnB W v bs) (hvb : ByP Q W vb ys) (hl : bs.length + ys.length ≤ 20000000) :
    Calls Tryz.prog 142 #[.pointer (some ⟨x, 0, none⟩), .pointer (some ⟨y, 0, none⟩)] W fun e w' => e = .returned (.tuple #[]) ∧ ∃ a' cap' W1, OwnB W1 (.slice a' (bs.length + ys.length) cap') (bs ++ ys) ∧ Kp (fun k => v.ownBlock = some k) W W1 ∧ ((Value.slice a' (bs.length + ys.length) cap').ownBlock = v.ownBlock ∨ (Value.slice a' (bs.length + ys.length) cap').ownBlock = some W.heap.size) ∧
      w' = W1.setCell ⟨b, 0, none⟩ (.slice a' (bs.length + ys.length) cap') := by
  have b0 : W.cell? ⟨x, 0, none⟩ = some (.pointer (some ⟨b, 0, none⟩)) := hx.cell 0
  have y0 : W.cell? ⟨y, 0, none⟩ = some vb := hy.cell 0
  have c0 : W.cell? ⟨b, 0, none⟩ = some v := hb.cell 0
  have f0 := hb.frozen 0
  have hxl := hx.lt
  have hyl := hy.lt
  have hbl := hb.lt
  have HOV := hid hv
  have HSR := hid hvb.src
  have hvx : Hid (v.ownBlock ≠ some x ∧ v.ownBlock ≠ some b) := ⟨hv.row.ne hx (by decide), hv.row.ne hb (by decide)⟩
  obtain ⟨a, cap, rfl, _⟩ := hv.shape
  obtain ⟨a1, cap1, rfl, _⟩ := hvb
  clear hx hy hb
  go_enter Tryz.func142, Tryz.ntmps142
  go_wp2_with fail
  go_region_law (refine step_app _ (by rfl) (.tmp 6) (.tmp 7) 54 5 (.int .u8 0) 1 1 (by rfl) Tryz.underlying54 Tryz.info5 rfl (by decide) (.slice a bs.length cap) (.slice a1 ys.length cap1) bs.length ys.length (cl bs) (cl ys) (by simp [Act.eval]) (by simp [Act.eval]) HOV.out.row HSR.out (by omega) (by decide) ?_; intro a2 cap2 w2 hr2 hg2 hb2; have HR2 := hid hr2; have HG2 := hid hg2; have HB2 := hid hb2; have z0 : w2.cell? ⟨b, 0, none⟩ = some (.slice a bs.length cap) := hg2.cell c0 (fun e => hvx.out.2 e.symm); have zf : w2.frozen? ⟨b, 0, none⟩ = false := ((Kp.ofGrown hg2).frozen (p := ⟨b, 0, none⟩) hbl (fun e => hvx.out.2 e)).trans f0; have zx : w2.cell? ⟨x, 0, none⟩ = some (.pointer (some ⟨b, 0, none⟩)) := hg2.cell b0 (fun e => hvx.out.1 e.symm); clear hr2 hg2 hb2)
  all_goals
    go_end0
    refine ⟨rfl, a2, cap2, w2, ?_, (Kp.refl _ _).drew.grown HG2.out (fun x hx => .inl hx), HB2.out, rfl⟩
    unfold OwnB
    rw [cl_append, List.length_append]
    exact HR2.out

theorem append_nil (t : ByteArray) (a : Option Addr) (n cap : Nat) (w : World) : Calls Tryz.prog 106 #[.pointer none, .string t, .slice a n cap] w fun e w' => e = .returned (.int .i64 18) ∧ Kp No w w' := by
  go_enter Tryz.func106, Tryz.ntmps106
  go_wp2_with (go_at_call 32; refine (find_nil t _).mono ?_; rintro e w1 ⟨rfl, h1⟩; have H1 : Hid (Kp No w w1) := ((Kp.refl _ _).alloc _).andNone h1; clear h1)
  go_ret
  exact ⟨rfl, H1.out.alloc _⟩

theorem used_le {N : Nat} {p : PS} (hI : PInv N p) : used p ≤ 1000 * 12000000 := by
  have h := sumBy_le (fun b => (fileAt p b).b.length) 12000000 (fun _ => false) p.seen (fun e he => by
    obtain ⟨f, hf⟩ := Option.isSome_iff_exists.1 (hI.hasSeen e he).1
    have := hI.lfile _ f hf
    have := hI.big
    simp only [fileAt, hf, Option.getD_some]
    omega)
  rw [sumBy_end _ _ _ (fun _ => rfl)] at h
  exact Nat.le_trans h (Nat.mul_le_mul_right _ (Nat.le_trans hI.lseen hI.big))

set_option maxHeartbeats 2000000 in
theorem append_any {P Q : Nat → Prop} {N : Nat} (w : World) (s : Nat) (p : PS) (t : ByteArray) (vb : Value) (ys : List Nat) (ht : t.size ≤ 20000000) (h : Sys P N w s p) (hN : N + 1 ≤ 1000) (hy : ByP Q w vb ys) (hQ : ∀ x, Q x → ¬ P x) (hl : ys.length ≤ 12000) :
    Calls Tryz.prog 106 #[.pointer (some ⟨s, 0, none⟩), .string t, vb] w fun e w' => e = .returned (.int .i64 ((pAppend (nm t) ys p).1 : Nat)) ∧ Done P (N + 1) w w' s (pAppend (nm t) ys p).2 := by
  have hI := h.inv
  have H := hid h
  have hmk := hmf
  have hsl := h.c.2.1
  have hps := h.c.1
  have hul := used_le hI
  have hrl := hI.room
  have HY := hid hy
  have HQ := hid hQ
  obtain ⟨a, cap, rfl, hy1, hy2, _⟩ := hy
  have hc0 : Hid (∀ V, Kp No w V → V.cell? ⟨s, 0, none⟩ = some (.int .i64 (p.room : Int))) := fun V k => by
    obtain ⟨vs, vf, vc, u, hR⟩ := h
    exact (k.cell (p := ⟨s, 0, none⟩) hsl (fun h => h)).trans (hR.c 0)
  have HC : Hid (Calls Tryz.prog 32 #[.pointer (some ⟨s, 0, none⟩), .string t] (w.alloc (.cells #[.slice a ys.length cap] 54)) fun e w' => e = .returned (.tuple #[ptrV (foundP p (nm t)), .int .i64 (finds p (nm t) : Nat)]) ∧ Kp No (w.alloc (.cells #[.slice a ys.length cap] 54)) w') := find_any _ s p t ht (h.kept ((Kp.refl _ _).alloc _))
  have HU : Hid (∀ V, Kp No w V → Calls Tryz.prog 141 #[.pointer (some ⟨s, 0, none⟩)] V fun e w' => e = .returned (.int .i64 (used p : Nat)) ∧ Kp No V w') := fun V k => used_any V s p (h.kept k)
  by_cases h0 : finds p (nm t) = 0
  · obtain ⟨b, hb⟩ := found_zero hI h0
    obtain ⟨_, hd, _⟩ := pBytes_of hb
    have hf := hI.hasFound hd
    rw [h0, hb] at HC
    have e0 : ptrV (some b) = .pointer (some ⟨b, 0, none⟩) := rfl
    rw [e0] at HC
    have HST : Hid (used p + ys.length ≤ p.room → ∀ w1, Kp No (w.alloc (.cells #[.slice a ys.length cap] 54)) w1 → ∀ W0, Kp No (w1.alloc (.cells #[.pointer (some ⟨b, 0, none⟩)] 106)) W0 → Calls Tryz.prog 77 #[.pointer (some ⟨s, 0, none⟩), .func (.func 142) #[] #[.pointer (some ⟨w1.heap.size, 0, none⟩), .pointer (some ⟨w.heap.size, 0, none⟩)]] W0 fun e w' =>
        e = .returned (.int .i64 ((pAppend (nm t) ys p).1 : Nat)) ∧ Done P (N + 1) w w' s (pAppend (nm t) ys p).2) := by
      intro hroom w1 hk1 W0 hk0
      have e1 : pAppend (nm t) ys p = stp p (setF b ⟨(fileAt p b).b ++ ys, (fileAt p b).safe⟩) := by
        have : ¬ (used p + ys.length > p.room) := by omega
        simp [pAppend, h0, blockOf, hd, this]
      rw [e1]
      have kA : Kp No w w1 := ((Kp.refl _ _).alloc _).andNone hk1
      have kB : Kp No w W0 := (kA.alloc _).andNone hk0
      have hz : w.heap.size < w1.heap.size := by have := hk1.size; simp at this; omega
      refine step_file w W0 s p b _ kB h hN 142 _ (enters_of Tryz.func142 (by kernel_rfl) rfl) ?_
      intro W vs vf vc u kW hR
      obtain ⟨hPb, hFb, hPu⟩ := hR.file b _ hf
      have hx : Blk W w1.heap.size 106 [.pointer (some ⟨b, 0, none⟩)] := ((Blk.new w1 106 [.pointer (some ⟨b, 0, none⟩)]).kp hk0 (fun h => h)).kp kW (fun e => by omega)
      have hyb : Blk W w.heap.size 54 [.slice a ys.length cap] := ((((Blk.new w 54 [.slice a ys.length cap]).kp hk1 (fun h => h)).kp (L := No) ((Kp.refl _ _).alloc _) (fun h => h)).kp hk0 (fun h => h)).kp kW (fun e => by omega)
      have hby : ByP Q W (.slice a ys.length cap) ys := (HY.out.kept kB).kp kW (fun x hx _ hq => HQ.out x hq (by subst hx; exact hps))
      have hfl : (fileAt p b).b.length ≤ 12000 * N := hI.lfile b _ hf
      have hbig := hI.big
      refine (append1_any W w1.heap.size w.heap.size b (u b) _ (fileAt p b).b ys _ hx hyb hFb.blk hFb.own hby (by omega)).mono ?_
      rintro e w' ⟨rfl, a', cap', W1, ho, k1, hbl, rfl⟩
      have kK : Kp (fun k => k = b ∨ (u b).ownBlock = some k) W (W1.setCell ⟨b, 0, none⟩ (.slice a' ((fileAt p b).b.length + ys.length) cap')) := (k1.mono (fun x hx => .inl (.inr hx))).setCell (p := ⟨b, 0, none⟩) (.inl (.inl rfl)) _
      have hbn : (u b).ownBlock ≠ some b := hFb.own.row.ne hFb.blk (by decide)
      have hB1 := hFb.blk.kp k1 (fun e => hbn e)
      have hS := rp_setF (f' := ⟨(fileAt p b).b ++ ys, (fileAt p b).safe⟩) (v' := .slice a' ((fileAt p b).b.length + ys.length) cap') hR hf kK ?_ (fun k hk => ?_) (inv_setF hR.inv (by simp; omega))
      · exact ⟨rfl, hS.1, hS.2⟩
      · refine ⟨hB1.setCell 0 _, ?_, fun x hx => ?_, by have := hFb.le; simp; omega⟩
        · exact ho.row.kp (Kp.set1 W1 b 0 _) (fun k hk e => ho.row.ne hB1 (by decide) (by rw [hk, e]))
        · rcases List.mem_append.1 hx with hx | hx
          · exact hFb.byt x hx
          · obtain ⟨_, _, _, _, _, _, _, h6, _⟩ := hby
            exact h6 x hx
      · rcases hbl with h1 | h1
        · rw [h1] at hk; exact .inl hk
        · rw [h1] at hk; simp at hk; exact .inr (by omega)
    have hbx : Hid (∀ V, Kp No (w.alloc (.cells #[.slice a ys.length cap] 54)) V → V.cell? ⟨w.heap.size, 0, none⟩ = some (.slice a ys.length cap)) := fun V k => ((Blk.new w 54 [.slice a ys.length cap]).kp k (fun h => h)).cell 0
    have hS0 : Hid (Kp No w (w.alloc (.cells #[.slice a ys.length cap] 54))) := (Kp.refl _ _).alloc _
    have e1 : used p + ys.length > p.room → pAppend (nm t) ys p = (11, p) := fun hr => by simp [pAppend, h0, hr]
    have HE := hid e1
    generalize pAppend (nm t) ys p = R at *
    clear e1 e0 hd hb h0 hI h hf
    generalize used p = U at *
    go_enter Tryz.func106, Tryz.ntmps106
    go_wp2_with (go_at_call 32; refine (HC.out).mono ?_; rintro e w1 ⟨rfl, h1⟩; have H1 := hid h1; clear h1)
    have kW : Hid (Kp No (w.alloc (.cells #[.slice a ys.length cap] 54)) (w1.alloc (.cells #[.pointer (some ⟨b, 0, none⟩)] 106))) := H1.out.alloc _
    have kWw : Hid (Kp No w (w1.alloc (.cells #[.pointer (some ⟨b, 0, none⟩)] 106))) := hS0.out.andNone kW.out
    have HST1 : Hid (U + ys.length ≤ p.room → ∀ W0, Kp No (w1.alloc (.cells #[.pointer (some ⟨b, 0, none⟩)] 106)) W0 → Calls Tryz.prog 77 #[.pointer (some ⟨s, 0, none⟩), .func (.func 142) #[] #[.pointer (some ⟨w1.heap.size, 0, none⟩), .pointer (some ⟨w.heap.size, 0, none⟩)]] W0 fun e w' =>
        e = .returned (.int .i64 (R.1 : Nat)) ∧ Done P (N + 1) w w' s R.2) := fun hr => HST.out hr w1 H1.out
    generalize hWx : w1.alloc (.cells #[.pointer (some ⟨b, 0, none⟩)] 106) = Wx at *
    clear hWx
    have r0 : ∀ V, Kp No Wx V → V.cell? ⟨w.heap.size, 0, none⟩ = some (.slice a ys.length cap) := fun V k => hbx.out V (kW.out.andNone k)
    have r1 : ∀ V, Kp No Wx V → V.cell? ⟨s, 0, none⟩ = some (.int .i64 (p.room : Int)) := fun V k => hc0.out V (kWw.out.andNone k)
    have hwr : IntKind.i64.wrap ((p.room : Int) - (U : Int)) = (p.room : Int) - (U : Int) := by rw [IntKind.wrap_i64]; omega
    by_cases hroom : U + ys.length ≤ p.room
    · have hle : ¬ ((p.room : Int) - (U : Int) < (ys.length : Int)) := by omega
      go_region_held3 (fun V => Kp No Wx V) (first | (with_reducible exact Kp.refl _ _) | (with_reducible exact (Kp.refl _ _).drew) | (with_reducible exact HK1.out)) (first | (go_at_call 141; refine (HU.out _ ?_).mono ?_; (with_reducible exact kWw.out.drew); rintro e w2 ⟨rfl, hk1⟩; have HK1 : Hid (Kp No Wx w2) := (Kp.refl _ _).drew.andNone hk1; clear hk1))
      go_wp2_with (go_at_call 77; refine (HST1.out hroom w2 HK1.out).mono ?_; rintro e w3 ⟨rfl, h3⟩; have H3 := hid h3; clear h3)
      go_ret
      exact ⟨rfl, H3.out⟩
    · have hgt : (p.room : Int) - (U : Int) < (ys.length : Int) := by omega
      have hR := HE.out (by omega)
      subst hR
      go_region_held3 (fun V => Kp No Wx V) (first | (with_reducible exact Kp.refl _ _) | (with_reducible exact (Kp.refl _ _).drew) | (with_reducible exact HK1.out)) (first | (go_at_call 141; refine (HU.out _ ?_).mono ?_; (with_reducible exact kWw.out.drew); rintro e w2 ⟨rfl, hk1⟩; have HK1 : Hid (Kp No Wx w2) := (Kp.refl _ _).drew.andNone hk1; clear hk1))
      go_wp2
      go_ret
      exact ⟨rfl, (Done.of (H.out.more (by omega) hN) (Kp.refl _ _)).kept (kWw.out.andNone HK1.out)⟩
  · have e1 : pAppend (nm t) ys p = (finds p (nm t), p) := by simp [pAppend, h0]
    have hn : foundP p (nm t) = none := by simp [foundP, h0]
    rw [e1]
    rw [hn] at HC
    have e0 : ptrV none = .pointer none := rfl
    rw [e0] at HC
    generalize finds p (nm t) = x at *
    have hne : ((x : Int) != 0) = true := by simp; omega
    clear e1 e0 hn h0 hI h
    go_enter Tryz.func106, Tryz.ntmps106
    go_wp2_with (go_at_call 32; refine (HC.out).mono ?_; rintro e w1 ⟨rfl, h1⟩; have H1 : Hid (Kp No w w1) := ((Kp.refl _ _).alloc _).andNone h1; clear h1)
    go_ret
    exact ⟨rfl, (Done.of (H.out.more (by omega) hN) (Kp.refl _ _)).kept (H1.out.alloc _)⟩

end Go.Proofs.YtaaioaocjfpajaaGreatDoor.Sim
end

section
/-
  Plain mathematics: what a scan is told, frame behind frame.
-/
namespace Go.Proofs.YtaaioaocjfpajaaGreatDoor

/-- What is told: where, and what Take answers there. -/
abbrev Item : Type := Nat × (Int × (Int × List Int × List Int) × Nat)

def toldN : Nat → List Int → Nat → List Item
  | 0, _, _ => []
  | k + 1, xs, p => if xs.length ≤ p then [] else (p, takeF (xs.drop p)) :: if (takeF (xs.drop p)).1 = 0 then toldN k xs (p + (takeF (xs.drop p)).2.2) else []

theorem toldN_fuel : ∀ (k m : Nat) (xs : List Int) (p : Nat), xs.length + 1 - p ≤ k → xs.length + 1 - p ≤ m → toldN k xs p = toldN m xs p
  | 0, m, xs, p, h1, h2 => by
    cases m with
    | zero => rfl
    | succ m => rw [toldN, toldN, if_pos (by omega)]
  | k + 1, 0, xs, p, h1, h2 => by rw [toldN, toldN, if_pos (by omega)]
  | k + 1, m + 1, xs, p, h1, h2 => by
    rw [toldN, toldN]
    by_cases h : xs.length ≤ p
    · rw [if_pos h, if_pos h]
    · rw [if_neg h, if_neg h]
      by_cases h0 : (takeF (xs.drop p)).1 = 0
      · have hp := takeF_pos h0
        rw [if_pos h0, if_pos h0, toldN_fuel k m xs _ (by omega) (by omega)]
      · rw [if_neg h0, if_neg h0]

/-- All that is told from p on. -/
def tl (xs : List Int) (p : Nat) : List Item := toldN (xs.length + 1 - p) xs p

theorem tl_end {xs : List Int} {p : Nat} (h : xs.length ≤ p) : tl xs p = [] := by
  rw [tl]
  cases hq : xs.length + 1 - p with
  | zero => rfl
  | succ k => rw [toldN, if_pos h]
theorem tl_bad {xs : List Int} {p : Nat} (h : p < xs.length) (hf : (takeF (xs.drop p)).1 ≠ 0) : tl xs p = [(p, takeF (xs.drop p))] := by
  rw [tl, show xs.length + 1 - p = (xs.length - p) + 1 by omega, toldN, if_neg (by omega), if_neg hf]
theorem tl_good {xs : List Int} {p : Nat} (h : p < xs.length) (hf : (takeF (xs.drop p)).1 = 0) : tl xs p = (p, takeF (xs.drop p)) :: tl xs (p + (takeF (xs.drop p)).2.2) := by
  have hp := takeF_pos hf
  rw [tl, show xs.length + 1 - p = (xs.length - p) + 1 by omega, toldN, if_neg (by omega), if_pos hf, tl, toldN_fuel (xs.length - p) (xs.length + 1 - (p + (takeF (xs.drop p)).2.2)) xs _ (by omega) (by omega)]
theorem tl_head {xs : List Int} {p : Nat} (h : p < xs.length) : ∃ L, tl xs p = (p, takeF (xs.drop p)) :: L ∧ (((takeF (xs.drop p)).1 = 0 ∧ L = tl xs (p + (takeF (xs.drop p)).2.2)) ∨ ((takeF (xs.drop p)).1 ≠ 0 ∧ L = [])) := by
  by_cases hf : (takeF (xs.drop p)).1 = 0
  · exact ⟨_, tl_good h hf, .inl ⟨hf, rfl⟩⟩
  · exact ⟨_, tl_bad h hf, .inr ⟨hf, rfl⟩⟩

/-- The good ones, where the first that is none begins, and the fault there. -/
def scanR : List Item → Nat → List Item × Nat × Int
  | [], p => ([], p, 0)
  | x :: L, _ => if x.2.1 = 0 then (x :: (scanR L (x.1 + x.2.2.2)).1, (scanR L (x.1 + x.2.2.2)).2) else ([], x.1, x.2.1)

def scanF (xs : List Int) : List Item × Nat × Int := scanR (tl xs 0) 0

theorem tl_length_le (xs : List Int) : ∀ (d p : Nat), xs.length - p ≤ d → (tl xs p).length ≤ xs.length - p
  | 0, p, h => by rw [tl_end (by omega)]; simp
  | d + 1, p, h => by
    by_cases hp : xs.length ≤ p
    · rw [tl_end hp]; simp
    · by_cases hf : (takeF (xs.drop p)).1 = 0
      · have hq := takeF_pos hf
        have := tl_length_le xs d (p + (takeF (xs.drop p)).2.2) (by omega)
        rw [tl_good (by omega) hf, List.length_cons]
        omega
      · rw [tl_bad (by omega) hf]; simp; omega

end Go.Proofs.YtaaioaocjfpajaaGreatDoor
end

section
/-
  The iterator of a scan: one round's Take, walked by itself.
-/
namespace Go.Proofs.YtaaioaocjfpajaaGreatDoor
open Go.RowKit
open Tlv (Tr BySlS AgreeS Agree)
open Crc (hid Kept Tab)

/-- What one Take of a scan leaves: the record in a variable of its own at gr. -/
def Tk (W wx : World) (b gr : Nat) (ar : Option Addr) (cr : Nat) (X : Int × (Int × List Int × List Int) × Nat) : Prop :=
  Kept b W wx ∧ TabX wx b ∧ W.heap.size ≤ gr ∧ gr < wx.heap.size ∧ wx.rangeAt gr 0 (recA X.2.1.1 X.2.1.2.1 (.slice ar X.2.1.2.2.length cr)) ∧
    BySlS (fun x => W.heap.size ≤ x ∧ x < wx.heap.size) wx (.slice ar X.2.1.2.2.length cr) X.2.1.2.2 ∧ (X.2.1.2.1.length = 32 ∧ ∀ y ∈ X.2.1.2.1, 0 ≤ y ∧ y ≤ 255)

theorem tk_a {W w1 : World} {b : Nat} {ar : Option Addr} {cr : Nat} {X : Int × (Int × List Int × List Int) × Nat} {Z : List Value} (hZ : Z.length = 34) (hk : Kept b W w1) (ht : TabX w1 b)
    (hby : BySlS (fun x => W.heap.size ≤ x ∧ x < w1.heap.size) w1 (.slice ar X.2.1.2.2.length cr) X.2.1.2.2) (hn : X.2.1.2.1.length = 32 ∧ ∀ y ∈ X.2.1.2.1, 0 ≤ y ∧ y ≤ 255) :
    Tk W ((w1.alloc (.cells Z.toArray 56)).setCells w1.heap.size 0 (recA X.2.1.1 X.2.1.2.1 (.slice ar X.2.1.2.2.length cr))) b w1.heap.size ar cr X := by
  have hz := hk.size
  have ka : Below w1.heap.size w1 (w1.alloc (.cells Z.toArray 56)) := (Below.refl _ _).alloc (Nat.le_refl _) _
  have hb2 := setCells_below (B := w1.heap.size) (Nat.le_refl _) (w1.alloc (.cells Z.toArray 56)) 0 (recA X.2.1.1 X.2.1.2.1 (.slice ar X.2.1.2.2.length cr))
  have hbb := ka.trans hb2
  refine ⟨hk.trans (Kept.below hbb), ht.below hbb, hz, by rw [setCells_size]; simp, ?_, ?_, hn⟩
  · refine World.rangeAt_setCells_same _ _ _ _ ?_
    have h := there_new w1 Z 56
    rwa [hZ, ← recA_length X.2.1.1 X.2.1.2.1 (.slice ar X.2.1.2.2.length cr) hn.1] at h
  · exact BySlS.mono (BySlS.below hby hbb (fun g hg => hg.2)) (fun g hg => ⟨hg.1, by rw [setCells_size]; simp; omega⟩)

theorem tk_b {W W1 w1 : World} {b : Nat} {ar : Option Addr} {cr : Nat} {X : Int × (Int × List Int × List Int) × Nat} (hb : b < W.heap.size) (h1 : Below W.heap.size W W1) (hs : W1.heap.size = W.heap.size + 1) (hth : W1.there W.heap.size 0 34) (hk : Kept b W1 w1) (ht : TabX w1 b)
    (hby : BySlS (fun x => W1.heap.size ≤ x ∧ x < w1.heap.size) w1 (.slice ar X.2.1.2.2.length cr) X.2.1.2.2) (hn : X.2.1.2.1.length = 32 ∧ ∀ y ∈ X.2.1.2.1, 0 ≤ y ∧ y ≤ 255) :
    Tk W (w1.setCells W.heap.size 0 (recA X.2.1.1 X.2.1.2.1 (.slice ar X.2.1.2.2.length cr))) b W.heap.size ar cr X := by
  have hz := hk.size
  have hb2 := setCells_below (B := W.heap.size) (Nat.le_refl _) w1 0 (recA X.2.1.1 X.2.1.2.1 (.slice ar X.2.1.2.2.length cr))
  have hth1 := there_kept hth hk (by omega) (by omega)
  refine ⟨Kept.then ((Kept.below h1).trans hk) hb2, ht.set (u := W) ⟨Nat.le_refl _, hb⟩, Nat.le_refl _, by rw [setCells_size]; omega, ?_, ?_, hn⟩
  · refine World.rangeAt_setCells_same _ _ _ _ ?_
    rw [recA_length _ _ _ hn.1]
    exact hth1
  · exact hby.agree (fun g hg => setCells_block _ _ _ _ _ (by omega)) (fun g hg => ⟨by omega, by rw [setCells_size]; exact hg.2⟩)

set_option maxHeartbeats 4000000 in
set_option maxRecDepth 100000 in
theorem tell_region {Q : Exit → Act → World → Prop} {u3 u5 u6 u7 u8 u9 u10 u11 u12 u13 u14 u15 u16 u17 u18 u19 u20 u21 u22 u23 u24 u25 u26 u27 u28 u29 u30 u31 u32 u33 u34 u35 : Value} {l p q b g o len cap k : Nat} {W : World} (xs : List Int) (X : Int × (Int × List Int × List Int) × Nat) (hX : takeF (xs.drop k) = X)
    (hk : k < len) (hc : len ≤ cap) (hT : TabX W b) (hp : W.cell? ⟨p, 0, none⟩ = some (.slice (some ⟨g, o, none⟩) len cap)) (hq : W.cell? ⟨q, 0, none⟩ = some (.pointer (some ⟨b, 0, none⟩))) (hpb : p ≠ b) (hqb : q ≠ b)
    (hv : BySlS (fun x => x ≠ b ∧ x < W.heap.size) W (.slice (some ⟨g, o + k, none⟩) (len - k) (cap - k)) (xs.drop k))
    (h : ∀ gr ar cr wx, Tk W wx b gr ar cr X → Q .normal { tmps := List.toArray (.func (.yield l) #[] #[] :: .pointer (some ⟨p, 0, none⟩) :: .pointer (some ⟨q, 0, none⟩) :: u3 :: .int .i64 (k : Int) :: .pointer (some ⟨gr, 0, none⟩) :: .int .i64 (X.2.2 : Nat) :: .int .i64 X.1 :: u8 :: u9 :: u10 :: u11 :: .tuple #[.agg (recA X.2.1.1 X.2.1.2.1 (.slice ar X.2.1.2.2.length cr)).toArray, .int .i64 (X.2.2 : Nat), .int .i64 X.1] :: .pointer (some ⟨b, 0, none⟩) :: .slice (some ⟨g, o, none⟩) len cap :: .int .i64 (k : Int) :: .slice (some ⟨g, o + k, none⟩) (len - k) (cap - k) :: .tuple #[.agg (recA X.2.1.1 X.2.1.2.1 (.slice ar X.2.1.2.2.length cr)).toArray, .int .i64 (X.2.2 : Nat), .int .i64 X.1] :: .agg (recA X.2.1.1 X.2.1.2.1 (.slice ar X.2.1.2.2.length cr)).toArray :: .int .i64 (X.2.2 : Nat) :: .int .i64 X.1 :: u21 :: u22 :: u23 :: u24 :: u25 :: u26 :: u27 :: u28 :: u29 :: u30 :: u31 :: u32 :: u33 :: u34 :: u35 :: []), defers := [] } wx) :
    (Code.region 2 #[{ dst := some 13, op := Op.load 32 (Operand.tmp 2), type := 32, pos := "scan.go:30", after := #[], guard := none }, { dst := some 14, op := Op.load 54 (Operand.tmp 1), type := 54, pos := "scan.go:30", after := #[], guard := none }, { dst := some 15, op := Op.move (Operand.tmp 4), type := 3, pos := "scan.go:30", after := #[], guard := none }, { dst := some 16, op := Op.slice 54 (Operand.tmp 14) (some (Operand.tmp 15)) none none, type := 54, pos := "scan.go:30", after := #[{ on := 1, ground := Ground.data }, { on := 2, ground := Ground.data }], guard := none }, { dst := some 17, op := Op.call { callee := Callee.value (Operand.func 97), args := #[Operand.tmp 13, Operand.tmp 16], argTypes := #[32, 54] }, type := 186, pos := "scan.go:30", after := #[{ on := 0, ground := Ground.data }, { on := 3, ground := Ground.data }], guard := none }, { dst := some 12, op := Op.move (Operand.tmp 17), type := 186, pos := "scan.go:30", after := #[{ on := 4, ground := Ground.data }], guard := none }, { dst := some 18, op := Op.extract (Operand.tmp 12) 0, type := 56, pos := "scan.go:30", after := #[{ on := 5, ground := Ground.data }], guard := none }, { dst := some 19, op := Op.extract (Operand.tmp 12) 1, type := 3, pos := "scan.go:30", after := #[{ on := 5, ground := Ground.data }, { on := 10, ground := Ground.gcOnly Departure.lateStores }], guard := none }, { dst := some 20, op := Op.extract (Operand.tmp 12) 2, type := 26, pos := "scan.go:30", after := #[{ on := 5, ground := Ground.data }, { on := 11, ground := Ground.gcOnly Departure.lateStores }], guard := none }, { dst := some 5, op := Op.alloc 56, type := 0, pos := "scan.go:30", after := #[], guard := none }, { dst := none, op := Op.store 56 (Operand.tmp 5) (Operand.tmp 18), type := 0, pos := "scan.go:30", after := #[{ on := 9, ground := Ground.data }, { on := 6, ground := Ground.data }, { on := 4, ground := Ground.chain }, { on := 0, ground := Ground.phase }, { on := 1, ground := Ground.phase }, { on := 2, ground := Ground.phase }, { on := 3, ground := Ground.phase }, { on := 4, ground := Ground.phase }, { on := 5, ground := Ground.phase }, { on := 6, ground := Ground.phase }, { on := 7, ground := Ground.textOnly Departure.lateStores }, { on := 8, ground := Ground.textOnly Departure.lateStores }, { on := 9, ground := Ground.phase }], guard := none }, { dst := some 6, op := Op.assign (Operand.tmp 19), type := 3, pos := "scan.go:30", after := #[{ on := 7, ground := Ground.data }, { on := 10, ground := Ground.chain }, { on := 0, ground := Ground.phase }, { on := 1, ground := Ground.phase }, { on := 2, ground := Ground.phase }, { on := 3, ground := Ground.phase }, { on := 4, ground := Ground.phase }, { on := 5, ground := Ground.phase }, { on := 6, ground := Ground.phase }, { on := 7, ground := Ground.phase }, { on := 8, ground := Ground.textOnly Departure.lateStores }, { on := 9, ground := Ground.phase }, { on := 10, ground := Ground.phase }], guard := none }, { dst := some 7, op := Op.assign (Operand.tmp 20), type := 26, pos := "scan.go:30", after := #[{ on := 8, ground := Ground.data }, { on := 11, ground := Ground.chain }, { on := 0, ground := Ground.phase }, { on := 1, ground := Ground.phase }, { on := 2, ground := Ground.phase }, { on := 3, ground := Ground.phase }, { on := 4, ground := Ground.phase }, { on := 5, ground := Ground.phase }, { on := 6, ground := Ground.phase }, { on := 7, ground := Ground.phase }, { on := 8, ground := Ground.phase }, { on := 9, ground := Ground.phase }, { on := 10, ground := Ground.phase }, { on := 11, ground := Ground.phase }], guard := none }] true).wp Tryz.prog Q { tmps := List.toArray (.func (.yield l) #[] #[] :: .pointer (some ⟨p, 0, none⟩) :: .pointer (some ⟨q, 0, none⟩) :: u3 :: .int .i64 (k : Int) :: u5 :: u6 :: u7 :: u8 :: u9 :: u10 :: u11 :: u12 :: u13 :: u14 :: u15 :: u16 :: u17 :: u18 :: u19 :: u20 :: u21 :: u22 :: u23 :: u24 :: u25 :: u26 :: u27 :: u28 :: u29 :: u30 :: u31 :: u32 :: u33 :: u34 :: u35 :: []), defers := [] } W := by
  have hpw := World.block_lt_of_cell? _ _ hp
  have hqw := World.block_lt_of_cell? _ _ hq
  simp only at hpw hqw
  have hbw := hT.lt
  have HV := hid hv
  have HT := hid hT
  have HX := hid hX
  have HH := hid h
  clear hv hT hX h
  have hz := zero35
  obtain ⟨Z, hZ⟩ : ∃ Z, zRec = Z := ⟨_, rfl⟩
  have HZ : Hid (Z.length = 34) := by rw [← hZ]; exact zRec_length
  rw [hZ] at hz
  clear hZ
  have hck : ¬ cap = k := by omega
  have hki : (k : Int) ≤ len := by omega
  have hk0 : (0 : Int) ≤ k := by omega
  have hkc : (k : Int) ≤ cap := by omega
  have HKC : Hid (k ≤ cap) := by rw [Hid]; omega
  refine wp_region_noPanic ?_
  refine wp_region_held_drew (S := fun V => V.cell? ⟨p, 0, none⟩ = some (.slice (some ⟨g, o, none⟩) len cap) ∧ V.cell? ⟨q, 0, none⟩ = some (.pointer (some ⟨b, 0, none⟩))) (by kernel_rfl) ⟨hp, hq⟩ (fun hHeld => ?_)
  refine wpAnyH_take (i := 0) (oi := { dst := some 13, op := Op.load 32 (Operand.tmp 2), type := 32, pos := "scan.go:30", after := #[], guard := none }) (v := .pointer (some ⟨b, 0, none⟩)) rfl (by kernel_rfl) (by kernel_rfl) (by kernel_rfl) (fun _ _ _ h => h) (Or.inl ⟨by rfl, fun w' hw' => by (obtain ⟨c1, c2⟩ := hw'; go_simp)⟩) hHeld ?_
  simp only [Act.put, List.setIfInBounds_toArray, List.set_cons_zero, List.set_cons_succ]
  refine wpAnyH_take (i := 1) (oi := { dst := some 14, op := Op.load 54 (Operand.tmp 1), type := 54, pos := "scan.go:30", after := #[], guard := none }) (v := .slice (some ⟨g, o, none⟩) len cap) rfl (by kernel_rfl) (by kernel_rfl) (by kernel_rfl) (fun _ _ _ h => h) (Or.inl ⟨by rfl, fun w' hw' => by (obtain ⟨c1, c2⟩ := hw'; go_simp)⟩) hHeld ?_
  simp only [Act.put, List.setIfInBounds_toArray, List.set_cons_zero, List.set_cons_succ]
  refine wpAnyH_take (i := 2) (oi := { dst := some 15, op := Op.move (Operand.tmp 4), type := 3, pos := "scan.go:30", after := #[], guard := none }) (v := .int .i64 (k : Int)) rfl (by kernel_rfl) (by kernel_rfl) (by kernel_rfl) (fun _ _ _ h => h) (Or.inl ⟨by rfl, fun w' hw' => by (clear hw'; go_simp)⟩) hHeld ?_
  simp only [Act.put, List.setIfInBounds_toArray, List.set_cons_zero, List.set_cons_succ]
  refine wpAnyH_take (i := 3) (oi := { dst := some 16, op := Op.slice 54 (Operand.tmp 14) (some (Operand.tmp 15)) none none, type := 54, pos := "scan.go:30", after := #[{ on := 1, ground := Ground.data }, { on := 2, ground := Ground.data }], guard := none }) (v := .slice (some ⟨g, o + k, none⟩) (len - k) (cap - k)) rfl (by kernel_rfl) (by kernel_rfl) (by kernel_rfl) (fun _ _ _ h => h) (Or.inl ⟨by rfl, fun w' hw' => by (clear hw'; go_simp)⟩) hHeld ?_
  simp only [Act.put, List.setIfInBounds_toArray, List.set_cons_zero, List.set_cons_succ]
  refine wpAnyH_ready (rs := [4, 9]) (by kernel_rfl) (by simp) ?_
  refine AllReadyH.cons (o := { dst := some 17, op := Op.call { callee := Callee.value (Operand.func 97), args := #[Operand.tmp 13, Operand.tmp 16], argTypes := #[32, 54] }, type := 186, pos := "scan.go:30", after := #[{ on := 0, ground := Ground.data }, { on := 3, ground := Ground.data }], guard := none }) rfl (fun K hK => ?_) (AllReadyH.cons (o := { dst := some 5, op := Op.alloc 56, type := 0, pos := "scan.go:30", after := #[], guard := none }) rfl (fun K hK => ?_) AllReadyH.nil)
  · go_simp
    refine (take_any b _ (xs.drop k) _ (HT.out.below ((Below.refl _ _).drew)) (BySlS.below HV.out ((Below.refl _ _).drew) (fun g hg => hg.2))).mono ?_
    rintro e w1 ⟨ar, cr, rfl, hby, hnx, hk1, ht1⟩
    rw [HX.out] at hby hnx
    rw [HX.out]
    replace hk1 : Kept b W w1 := (Kept.below (Below.refl _ _).drew).trans hk1
    have HTK := hid (tk_a (W := W) (w1 := w1) HZ.out hk1 ht1 hby hnx)
    have HS1 : Hid (w1.cell? ⟨p, 0, none⟩ = some (.slice (some ⟨g, o, none⟩) len cap) ∧ w1.cell? ⟨q, 0, none⟩ = some (.pointer (some ⟨b, 0, none⟩))) := ⟨(hk1.cell (p := ⟨p, 0, none⟩) hpw hpb).trans hp, (hk1.cell (p := ⟨q, 0, none⟩) hqw hqb).trans hq⟩
    have hz1 : W.heap.size ≤ w1.heap.size := hk1.size
    have HCL := hid (recA_length X.2.1.1 X.2.1.2.1 (.slice ar X.2.1.2.2.length cr) hnx.1)
    have HCO := hid (recA_one X.2.1.1 X.2.1.2.1 ar X.2.1.2.2.length cr)
    clear hby hnx hk1 ht1
    go_wp2_with fail
    refine hK.out _ _ HS1.out (fun hh => ?_)
    clear hK K hHeld
    have hHeld := hh
    clear hh
    try simp only [Act.put, List.setIfInBounds_toArray, List.set_cons_zero, List.set_cons_succ]
    refine wpAnyH_take (i := 5) (oi := { dst := some 12, op := Op.move (Operand.tmp 17), type := 186, pos := "scan.go:30", after := #[{ on := 4, ground := Ground.data }], guard := none }) (v := .tuple #[.agg (recA X.2.1.1 X.2.1.2.1 (.slice ar X.2.1.2.2.length cr)).toArray, .int .i64 (X.2.2 : Nat), .int .i64 X.1]) rfl (by kernel_rfl) (by kernel_rfl) (by kernel_rfl) (fun _ _ _ h => h) (Or.inl ⟨by rfl, fun w' hw' => by (clear hw'; go_simp)⟩) hHeld ?_
    simp only [Act.put, List.setIfInBounds_toArray, List.set_cons_zero, List.set_cons_succ]
    refine wpAnyH_take (i := 6) (oi := { dst := some 18, op := Op.extract (Operand.tmp 12) 0, type := 56, pos := "scan.go:30", after := #[{ on := 5, ground := Ground.data }], guard := none }) (v := .agg (recA X.2.1.1 X.2.1.2.1 (.slice ar X.2.1.2.2.length cr)).toArray) rfl (by kernel_rfl) (by kernel_rfl) (by kernel_rfl) (fun _ _ _ h => h) (Or.inl ⟨by rfl, fun w' hw' => by (clear hw'; go_simp)⟩) hHeld ?_
    simp only [Act.put, List.setIfInBounds_toArray, List.set_cons_zero, List.set_cons_succ]
    refine wpAnyH_take (i := 7) (oi := { dst := some 19, op := Op.extract (Operand.tmp 12) 1, type := 3, pos := "scan.go:30", after := #[{ on := 5, ground := Ground.data }, { on := 10, ground := Ground.gcOnly Departure.lateStores }], guard := none }) (v := .int .i64 (X.2.2 : Nat)) rfl (by kernel_rfl) (by kernel_rfl) (by kernel_rfl) (fun _ _ _ h => h) (Or.inl ⟨by rfl, fun w' hw' => by (clear hw'; go_simp)⟩) hHeld ?_
    simp only [Act.put, List.setIfInBounds_toArray, List.set_cons_zero, List.set_cons_succ]
    refine wpAnyH_take (i := 8) (oi := { dst := some 20, op := Op.extract (Operand.tmp 12) 2, type := 26, pos := "scan.go:30", after := #[{ on := 5, ground := Ground.data }, { on := 11, ground := Ground.gcOnly Departure.lateStores }], guard := none }) (v := .int .i64 X.1) rfl (by kernel_rfl) (by kernel_rfl) (by kernel_rfl) (fun _ _ _ h => h) (Or.inl ⟨by rfl, fun w' hw' => by (clear hw'; go_simp)⟩) hHeld ?_
    simp only [Act.put, List.setIfInBounds_toArray, List.set_cons_zero, List.set_cons_succ]
    refine wpAnyH_ready (rs := [9]) (by kernel_rfl) (by simp) ?_
    refine AllReadyH.cons (o := { dst := some 5, op := Op.alloc 56, type := 0, pos := "scan.go:30", after := #[], guard := none }) rfl (fun K hK => ?_) AllReadyH.nil
    go_simp
    have HS2 : Hid ((w1.alloc (.cells Z.toArray 56)).cell? ⟨p, 0, none⟩ = some (.slice (some ⟨g, o, none⟩) len cap) ∧ (w1.alloc (.cells Z.toArray 56)).cell? ⟨q, 0, none⟩ = some (.pointer (some ⟨b, 0, none⟩))) := ⟨(World.cell?_alloc_lt _ _ _ (by simp; omega)).trans HS1.out.1, (World.cell?_alloc_lt _ _ _ (by simp; omega)).trans HS1.out.2⟩
    refine hK.out _ _ HS2.out (fun hh => ?_)
    clear hK K hHeld
    have hHeld := hh
    clear hh
    try simp only [Act.put, List.setIfInBounds_toArray, List.set_cons_zero, List.set_cons_succ]
    obtain ⟨C, hC⟩ : ∃ C, recA X.2.1.1 X.2.1.2.1 (.slice ar X.2.1.2.2.length cr) = C := ⟨_, rfl⟩
    have HTH : Hid (World.there (w1.alloc (.cells Z.toArray 56)) w1.heap.size 0 C.toArray.size) := by
      have h := there_new w1 Z 56
      rw [Hid, show C.toArray.size = 34 by rw [List.size_toArray, ← hC]; exact HCL.out]
      rwa [HZ.out] at h
    have HIC : Hid ((Tryz.prog.info? 56).map (·.size) = some C.toArray.size) := by rw [Hid, show C.toArray.size = 34 by rw [List.size_toArray, ← hC]; exact HCL.out]; exact Tryz.info35
    have HOC : Hid (C.toArray.all (·.oneCell') = true) := by rw [← hC]; exact all_oneCell_toArray HCO.out
    have HS3 : Hid (((w1.alloc (.cells Z.toArray 56)).setCells w1.heap.size 0 C).cell? ⟨p, 0, none⟩ = some (.slice (some ⟨g, o, none⟩) len cap) ∧ ((w1.alloc (.cells Z.toArray 56)).setCells w1.heap.size 0 C).cell? ⟨q, 0, none⟩ = some (.pointer (some ⟨b, 0, none⟩))) := ⟨((setCells_below (Nat.le_refl w1.heap.size) _ _ _).cell (p := ⟨p, 0, none⟩) (by simp; omega)).trans HS2.out.1, ((setCells_below (Nat.le_refl w1.heap.size) _ _ _).cell (p := ⟨q, 0, none⟩) (by simp; omega)).trans HS2.out.2⟩
    rw [hC] at HTK
    rw [hC]
    have HC := hid hC
    clear hC
    refine wpAnyH_ready (rs := [10]) (by kernel_rfl) (by simp) ?_
    refine AllReadyH.cons (o := { dst := none, op := Op.store 56 (Operand.tmp 5) (Operand.tmp 18), type := 0, pos := "scan.go:30", after := #[{ on := 9, ground := Ground.data }, { on := 6, ground := Ground.data }, { on := 4, ground := Ground.chain }, { on := 0, ground := Ground.phase }, { on := 1, ground := Ground.phase }, { on := 2, ground := Ground.phase }, { on := 3, ground := Ground.phase }, { on := 4, ground := Ground.phase }, { on := 5, ground := Ground.phase }, { on := 6, ground := Ground.phase }, { on := 7, ground := Ground.textOnly Departure.lateStores }, { on := 8, ground := Ground.textOnly Departure.lateStores }, { on := 9, ground := Ground.phase }], guard := none }) rfl (fun K hK => ?_) AllReadyH.nil
    rw [if_pos (by rfl)]
    refine wp_store_mid 56 _ _ (by rfl) w1.heap.size 0 C.toArray (by rfl) (by rfl) HTH.out HIC.out HOC.out ?_
    refine hK.out _ _ HS3.out (fun hh => ?_)
    clear hK K hHeld
    have hHeld := hh
    clear hh
    refine wpAnyH_take (i := 11) (oi := { dst := some 6, op := Op.assign (Operand.tmp 19), type := 3, pos := "scan.go:30", after := #[{ on := 7, ground := Ground.data }, { on := 10, ground := Ground.chain }, { on := 0, ground := Ground.phase }, { on := 1, ground := Ground.phase }, { on := 2, ground := Ground.phase }, { on := 3, ground := Ground.phase }, { on := 4, ground := Ground.phase }, { on := 5, ground := Ground.phase }, { on := 6, ground := Ground.phase }, { on := 7, ground := Ground.phase }, { on := 8, ground := Ground.textOnly Departure.lateStores }, { on := 9, ground := Ground.phase }, { on := 10, ground := Ground.phase }], guard := none }) (v := .int .i64 (X.2.2 : Nat)) rfl (by kernel_rfl) (by kernel_rfl) (by kernel_rfl) (fun _ _ _ h => h) (Or.inl ⟨by rfl, fun w' hw' => by (clear hw'; go_simp)⟩) hHeld ?_
    simp only [Act.put, List.setIfInBounds_toArray, List.set_cons_zero, List.set_cons_succ]
    refine wpAnyH_take (i := 12) (oi := { dst := some 7, op := Op.assign (Operand.tmp 20), type := 26, pos := "scan.go:30", after := #[{ on := 8, ground := Ground.data }, { on := 11, ground := Ground.chain }, { on := 0, ground := Ground.phase }, { on := 1, ground := Ground.phase }, { on := 2, ground := Ground.phase }, { on := 3, ground := Ground.phase }, { on := 4, ground := Ground.phase }, { on := 5, ground := Ground.phase }, { on := 6, ground := Ground.phase }, { on := 7, ground := Ground.phase }, { on := 8, ground := Ground.phase }, { on := 9, ground := Ground.phase }, { on := 10, ground := Ground.phase }, { on := 11, ground := Ground.phase }], guard := none }) (v := .int .i64 X.1) rfl (by kernel_rfl) (by kernel_rfl) (by kernel_rfl) (fun _ _ _ h => h) (Or.inl ⟨by rfl, fun w' hw' => by (clear hw'; go_simp)⟩) hHeld ?_
    simp only [Act.put, List.setIfInBounds_toArray, List.set_cons_zero, List.set_cons_succ]
    refine wpAnyH_done (by kernel_rfl) ?_ _
    refine NoPanic.normal ?_
    rw [← HC.out] at HTK ⊢
    exact HH.out _ _ _ _ HTK.out
  · go_simp
    obtain ⟨W1, hW1⟩ : ∃ W1, (W.alloc (.cells Z.toArray 56)).drew = W1 := ⟨_, rfl⟩
    have hb1 : Below W.heap.size W W1 := by rw [← hW1]; exact ((Below.refl _ _).alloc (Nat.le_refl _) _).drew
    have hs1 : W1.heap.size = W.heap.size + 1 := by rw [← hW1]; simp
    have HTH1 : Hid (W1.there W.heap.size 0 34) := by
      rw [Hid, ← hW1, World.there_drew]
      have h := there_new W Z 56
      rwa [HZ.out] at h
    rw [hW1]
    clear hW1
    have HB1 := hid hb1
    have HSZ := hid hs1
    have HS1 : Hid (W1.cell? ⟨p, 0, none⟩ = some (.slice (some ⟨g, o, none⟩) len cap) ∧ W1.cell? ⟨q, 0, none⟩ = some (.pointer (some ⟨b, 0, none⟩))) := ⟨(hb1.cell (p := ⟨p, 0, none⟩) hpw).trans hp, (hb1.cell (p := ⟨q, 0, none⟩) hqw).trans hq⟩
    clear hb1 hs1
    refine hK.out _ _ HS1.out (fun hh => ?_)
    clear hK K hHeld
    have hHeld := hh
    clear hh
    try simp only [Act.put, List.setIfInBounds_toArray, List.set_cons_zero, List.set_cons_succ]
    refine wpAnyH_ready (rs := [4]) (by kernel_rfl) (by simp) ?_
    refine AllReadyH.cons (o := { dst := some 17, op := Op.call { callee := Callee.value (Operand.func 97), args := #[Operand.tmp 13, Operand.tmp 16], argTypes := #[32, 54] }, type := 186, pos := "scan.go:30", after := #[{ on := 0, ground := Ground.data }, { on := 3, ground := Ground.data }], guard := none }) rfl (fun K hK => ?_) AllReadyH.nil
    go_simp
    refine (take_any b _ (xs.drop k) _ (HT.out.below HB1.out) (BySlS.mono (BySlS.below HV.out HB1.out (fun g hg => hg.2)) (fun g hg => ⟨hg.1, Nat.lt_of_lt_of_le hg.2 HB1.out.size⟩))).mono ?_
    rintro e w1 ⟨ar, cr, rfl, hby, hnx, hk1, ht1⟩
    rw [HX.out] at hby hnx
    rw [HX.out]
    have HTK := hid (tk_b (W := W) (W1 := W1) (w1 := w1) hbw HB1.out HSZ.out HTH1.out hk1 ht1 hby hnx)
    have HS2 : Hid (w1.cell? ⟨p, 0, none⟩ = some (.slice (some ⟨g, o, none⟩) len cap) ∧ w1.cell? ⟨q, 0, none⟩ = some (.pointer (some ⟨b, 0, none⟩))) := ⟨(hk1.cell (p := ⟨p, 0, none⟩) (Nat.lt_of_lt_of_le hpw HB1.out.size) hpb).trans HS1.out.1, (hk1.cell (p := ⟨q, 0, none⟩) (Nat.lt_of_lt_of_le hqw HB1.out.size) hqb).trans HS1.out.2⟩
    have HTH2 := hid (there_kept HTH1.out hk1 (by have := HSZ.out; omega) (by omega))
    have HCL := hid (recA_length X.2.1.1 X.2.1.2.1 (.slice ar X.2.1.2.2.length cr) hnx.1)
    have HCO := hid (recA_one X.2.1.1 X.2.1.2.1 ar X.2.1.2.2.length cr)
    clear hby hnx hk1 ht1
    go_wp2_with fail
    refine hK.out _ _ HS2.out (fun hh => ?_)
    clear hK K hHeld
    have hHeld := hh
    clear hh
    try simp only [Act.put, List.setIfInBounds_toArray, List.set_cons_zero, List.set_cons_succ]
    refine wpAnyH_take (i := 5) (oi := { dst := some 12, op := Op.move (Operand.tmp 17), type := 186, pos := "scan.go:30", after := #[{ on := 4, ground := Ground.data }], guard := none }) (v := .tuple #[.agg (recA X.2.1.1 X.2.1.2.1 (.slice ar X.2.1.2.2.length cr)).toArray, .int .i64 (X.2.2 : Nat), .int .i64 X.1]) rfl (by kernel_rfl) (by kernel_rfl) (by kernel_rfl) (fun _ _ _ h => h) (Or.inl ⟨by rfl, fun w' hw' => by (clear hw'; go_simp)⟩) hHeld ?_
    simp only [Act.put, List.setIfInBounds_toArray, List.set_cons_zero, List.set_cons_succ]
    refine wpAnyH_take (i := 6) (oi := { dst := some 18, op := Op.extract (Operand.tmp 12) 0, type := 56, pos := "scan.go:30", after := #[{ on := 5, ground := Ground.data }], guard := none }) (v := .agg (recA X.2.1.1 X.2.1.2.1 (.slice ar X.2.1.2.2.length cr)).toArray) rfl (by kernel_rfl) (by kernel_rfl) (by kernel_rfl) (fun _ _ _ h => h) (Or.inl ⟨by rfl, fun w' hw' => by (clear hw'; go_simp)⟩) hHeld ?_
    simp only [Act.put, List.setIfInBounds_toArray, List.set_cons_zero, List.set_cons_succ]
    refine wpAnyH_take (i := 7) (oi := { dst := some 19, op := Op.extract (Operand.tmp 12) 1, type := 3, pos := "scan.go:30", after := #[{ on := 5, ground := Ground.data }, { on := 10, ground := Ground.gcOnly Departure.lateStores }], guard := none }) (v := .int .i64 (X.2.2 : Nat)) rfl (by kernel_rfl) (by kernel_rfl) (by kernel_rfl) (fun _ _ _ h => h) (Or.inl ⟨by rfl, fun w' hw' => by (clear hw'; go_simp)⟩) hHeld ?_
    simp only [Act.put, List.setIfInBounds_toArray, List.set_cons_zero, List.set_cons_succ]
    refine wpAnyH_take (i := 8) (oi := { dst := some 20, op := Op.extract (Operand.tmp 12) 2, type := 26, pos := "scan.go:30", after := #[{ on := 5, ground := Ground.data }, { on := 11, ground := Ground.gcOnly Departure.lateStores }], guard := none }) (v := .int .i64 X.1) rfl (by kernel_rfl) (by kernel_rfl) (by kernel_rfl) (fun _ _ _ h => h) (Or.inl ⟨by rfl, fun w' hw' => by (clear hw'; go_simp)⟩) hHeld ?_
    simp only [Act.put, List.setIfInBounds_toArray, List.set_cons_zero, List.set_cons_succ]
    obtain ⟨C, hC⟩ : ∃ C, recA X.2.1.1 X.2.1.2.1 (.slice ar X.2.1.2.2.length cr) = C := ⟨_, rfl⟩
    have HTH : Hid (w1.there W.heap.size 0 C.toArray.size) := by
      rw [Hid, show C.toArray.size = 34 by rw [List.size_toArray, ← hC]; exact HCL.out]
      exact HTH2.out
    have HIC : Hid ((Tryz.prog.info? 56).map (·.size) = some C.toArray.size) := by rw [Hid, show C.toArray.size = 34 by rw [List.size_toArray, ← hC]; exact HCL.out]; exact Tryz.info35
    have HOC : Hid (C.toArray.all (·.oneCell') = true) := by rw [← hC]; exact all_oneCell_toArray HCO.out
    have HS3 : Hid ((w1.setCells W.heap.size 0 C).cell? ⟨p, 0, none⟩ = some (.slice (some ⟨g, o, none⟩) len cap) ∧ (w1.setCells W.heap.size 0 C).cell? ⟨q, 0, none⟩ = some (.pointer (some ⟨b, 0, none⟩))) := ⟨((setCells_below (Nat.le_refl W.heap.size) _ _ _).cell (p := ⟨p, 0, none⟩) hpw).trans HS2.out.1, ((setCells_below (Nat.le_refl W.heap.size) _ _ _).cell (p := ⟨q, 0, none⟩) hqw).trans HS2.out.2⟩
    rw [hC] at HTK
    rw [hC]
    have HC := hid hC
    clear hC
    refine wpAnyH_ready (rs := [10]) (by kernel_rfl) (by simp) ?_
    refine AllReadyH.cons (o := { dst := none, op := Op.store 56 (Operand.tmp 5) (Operand.tmp 18), type := 0, pos := "scan.go:30", after := #[{ on := 9, ground := Ground.data }, { on := 6, ground := Ground.data }, { on := 4, ground := Ground.chain }, { on := 0, ground := Ground.phase }, { on := 1, ground := Ground.phase }, { on := 2, ground := Ground.phase }, { on := 3, ground := Ground.phase }, { on := 4, ground := Ground.phase }, { on := 5, ground := Ground.phase }, { on := 6, ground := Ground.phase }, { on := 7, ground := Ground.textOnly Departure.lateStores }, { on := 8, ground := Ground.textOnly Departure.lateStores }, { on := 9, ground := Ground.phase }], guard := none }) rfl (fun K hK => ?_) AllReadyH.nil
    rw [if_pos (by rfl)]
    refine wp_store_mid 56 _ _ (by rfl) W.heap.size 0 C.toArray (by rfl) (by rfl) HTH.out HIC.out HOC.out ?_
    refine hK.out _ _ HS3.out (fun hh => ?_)
    clear hK K hHeld
    have hHeld := hh
    clear hh
    refine wpAnyH_take (i := 11) (oi := { dst := some 6, op := Op.assign (Operand.tmp 19), type := 3, pos := "scan.go:30", after := #[{ on := 7, ground := Ground.data }, { on := 10, ground := Ground.chain }, { on := 0, ground := Ground.phase }, { on := 1, ground := Ground.phase }, { on := 2, ground := Ground.phase }, { on := 3, ground := Ground.phase }, { on := 4, ground := Ground.phase }, { on := 5, ground := Ground.phase }, { on := 6, ground := Ground.phase }, { on := 7, ground := Ground.phase }, { on := 8, ground := Ground.textOnly Departure.lateStores }, { on := 9, ground := Ground.phase }, { on := 10, ground := Ground.phase }], guard := none }) (v := .int .i64 (X.2.2 : Nat)) rfl (by kernel_rfl) (by kernel_rfl) (by kernel_rfl) (fun _ _ _ h => h) (Or.inl ⟨by rfl, fun w' hw' => by (clear hw'; go_simp)⟩) hHeld ?_
    simp only [Act.put, List.setIfInBounds_toArray, List.set_cons_zero, List.set_cons_succ]
    refine wpAnyH_take (i := 12) (oi := { dst := some 7, op := Op.assign (Operand.tmp 20), type := 26, pos := "scan.go:30", after := #[{ on := 8, ground := Ground.data }, { on := 11, ground := Ground.chain }, { on := 0, ground := Ground.phase }, { on := 1, ground := Ground.phase }, { on := 2, ground := Ground.phase }, { on := 3, ground := Ground.phase }, { on := 4, ground := Ground.phase }, { on := 5, ground := Ground.phase }, { on := 6, ground := Ground.phase }, { on := 7, ground := Ground.phase }, { on := 8, ground := Ground.phase }, { on := 9, ground := Ground.phase }, { on := 10, ground := Ground.phase }, { on := 11, ground := Ground.phase }], guard := none }) (v := .int .i64 X.1) rfl (by kernel_rfl) (by kernel_rfl) (by kernel_rfl) (fun _ _ _ h => h) (Or.inl ⟨by rfl, fun w' hw' => by (clear hw'; go_simp)⟩) hHeld ?_
    simp only [Act.put, List.setIfInBounds_toArray, List.set_cons_zero, List.set_cons_succ]
    refine wpAnyH_done (by kernel_rfl) ?_ _
    refine NoPanic.normal ?_
    rw [← HC.out] at HTK ⊢
    exact HH.out _ _ _ _ HTK.out
end Go.Proofs.YtaaioaocjfpajaaGreatDoor
end
