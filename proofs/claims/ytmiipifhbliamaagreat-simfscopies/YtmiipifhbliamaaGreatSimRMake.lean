/-
  The reference's New, Create, SyncDir and Arm.
-/
import Derived.Test.YtmiipifhbliamaaGreatSimRMove
namespace Go.Proofs.YtmiipifhbliamaaGreat.Sim
open Go.RowKit Go.Maps

theorem Tryz.infoRfile : (Tryz.prog.info? 99).map (fun i => (i.zero, i.size, i.bytes)) = some (some (.agg #[.slice none 0 0, .int .i64 0]), 2, 32) := by kernel_rfl

/-- A file more. -/
theorem rr_add {Q D : Nat → Prop} {w : World} {m : Nat} {p : PS} {vF vS vA vC : Value} {us : List Value} {F : List Fl} (h : Rr Q D w m p vF vS vA vC us F) {w3 : World} {vF' : Value} {o : Obj}
    (g3 : (w.alloc o).grownBy w3 vF.ownBlock) (r3 : Row w3 99 2 vF' (F.length + 1) (rfs us F ++ [.slice none 0 0, .int .i64 0])) (hb3 : vF'.ownBlock = vF.ownBlock ∨ vF'.ownBlock = some (w.alloc o).heap.size) :
    Rr (fun x => Q x ∨ (w.heap.size ≤ x ∧ x < w3.heap.size)) D (w3.setCell ⟨m, 1, none⟩ vF') m (setF F.length ⟨[], 0⟩ p) vF' vS vA vC (us ++ [.slice none 0 0]) (F ++ [⟨[], 0⟩]) ∧ Kp Q w (w3.setCell ⟨m, 1, none⟩ vF') := by
  have hml := h.lt m h.qm
  have hfm : vF.ownBlock ≠ some m := h.frow.ne h.blk (by decide)
  have k3 : Kp (fun x => vF.ownBlock = some x) w w3 := ((Kp.refl _ w).alloc o).grown g3 (fun x hx => .inl hx)
  have k4 : Kp (· = m) w3 (w3.setCell ⟨m, 1, none⟩ vF') := Kp.set1 _ _ _ _
  have K : Kp (fun x => x = m ∨ vF.ownBlock = some x) w (w3.setCell ⟨m, 1, none⟩ vF') := (k3.mono (fun x hx => .inl (.inr hx))).trans k4 (fun x hx => .inl (.inl hx))
  have hsz : (w3.setCell ⟨m, 1, none⟩ vF').heap.size = w3.heap.size := by simp
  have h23 := k3.size
  have hD : ∀ x, D x → ¬ (x = m ∨ vF.ownBlock = some x) := fun x hx hh => by
    obtain ⟨_, h1, h2, _⟩ := h.dq x hx
    rcases hh with hh | hh
    · exact h1 hh
    · exact h2 hh
  have hnew : ∀ x, vF'.ownBlock = some x → vF.ownBlock = some x ∨ (w.heap.size ≤ x ∧ x < w3.heap.size) := fun x hx => by
    rcases hb3 with e | e
    · rw [e] at hx; exact .inl hx
    · have hlt := r3.lt x hx
      rw [e] at hx
      have hx' : w.heap.size + 1 = x := by simpa using hx
      exact .inr ⟨by omega, hlt⟩
  have hf'm : vF'.ownBlock ≠ some m := fun e => by
    rcases hnew m e with e | ⟨e, _⟩
    · exact hfm e
    · omega
  refine ⟨?_, K.mono (fun x hx => .inl ?_)⟩
  · exact {
      lt := fun x hx => by
        rw [hsz]
        rcases hx with hx | hx
        · have := h.lt x hx; omega
        · exact hx.2
      qm := .inl h.qm
      dq := fun x hx => by
        obtain ⟨h0, h1, h2, h3⟩ := h.dq x hx
        refine ⟨.inl h0, h1, fun e => ?_, h3⟩
        rcases hnew x e with e | ⟨e, _⟩
        · exact h2 e
        · have := h.lt x h0; omega
      blk := by
        have b3 : Blk w3 m 44 (rfsCells p vF vS vA vC) := h.blk.kp k3 hfm
        exact b3.setCell 1 vF'
      files := by
        show (fun x => if x = F.length then some (⟨[], 0⟩ : Fl) else p.files x) = _
        rw [h.files]
        funext x
        show (if x = F.length then some (⟨[], 0⟩ : Fl) else F[x]?) = (F ++ [(⟨[], 0⟩ : Fl)])[x]?
        by_cases hx : x = F.length
        · subst hx; simp
        · rw [if_neg hx]
          by_cases hlt : x < F.length
          · rw [List.getElem?_append_left hlt]
          · rw [List.getElem?_eq_none (l := F) (by omega), List.getElem?_eq_none (by simp; omega)]
      frow := by
        have : Row w3 99 2 vF' (F ++ [(⟨[], 0⟩ : Fl)]).length (rfs (us ++ [.slice none 0 0]) (F ++ [(⟨[], 0⟩ : Fl)])) := by
          rw [rfs_append _ _ _ _ h.ulen, List.length_append]
          exact r3
        exact this.kp k4 (fun x hx e => hf'm (by rw [hx, e]))
      ulen := by simp [h.ulen]
      ub := fun i u f hu hf => by
        by_cases hlt : i < F.length
        · rw [List.getElem?_append_left (by rw [h.ulen]; exact hlt)] at hu
          rw [List.getElem?_append_left hlt] at hf
          exact ⟨(h.ub i u f hu hf).1.kp K (fun x hx _ hd => hD x hd hx), (h.ub i u f hu hf).2⟩
        · have hil := (List.getElem?_eq_some_iff.1 hf).1
          have hi : i = F.length := by simp at hil; omega
          subst hi
          have hu' : us.length = F.length := h.ulen
          rw [← hu'] at hu
          simp at hu hf
          subst hu hf
          exact ⟨ByP.nil _ _, Nat.le_refl _⟩
      seen := h.seen.kp K (fun x hx _ hd => hD x hd hx)
      safe := h.safe.kp K (fun x hx _ hd => hD x hd hx)
      ris := h.ris
      crow := h.crow.kp K (fun x hx hh => by
        rcases hh with hh | hh
        · exact (h.crow.ne h.blk (by decide)) (by rw [hx, hh])
        · exact (h.frow.ne' h.crow (by decide)) x hh hx)
      qF := fun x hx => by
        rcases hnew x hx with e | e
        · exact .inl (h.qF x e)
        · exact .inr e
      qC := fun x hx => .inl (h.qC x hx) }
  · rcases hx with hx | hx
    · rw [hx]; exact h.qm
    · exact h.qF x hx

/-- What is seen is safe. -/
theorem rr_settle {Q D : Nat → Prop} {w : World} {m : Nat} {p : PS} {vF vS vA vC : Value} {us : List Value} {F : List Fl} (h : Rr Q D w m p vF vS vA vC us F) (hse : p.seen = p.chg.foldl pdo p.safe) :
    Rr Q D ((w.setCell ⟨m, 3, none⟩ vS).setCell ⟨m, 4, none⟩ (.slice none 0 0)) m (settle p.chg.length p) vF vS vS (.slice none 0 0) us F ∧ Kp (· = m) w ((w.setCell ⟨m, 3, none⟩ vS).setCell ⟨m, 4, none⟩ (.slice none 0 0)) := by
  have k : Kp (· = m) w ((w.setCell ⟨m, 3, none⟩ vS).setCell ⟨m, 4, none⟩ (.slice none 0 0)) := (Kp.set1 _ _ _ _).trans (Kp.set1 _ _ _ _) (fun x hx => .inl hx)
  have e : (settle p.chg.length p).safe = p.seen := by show (p.chg.take p.chg.length).foldl pdo p.safe = p.seen; rw [List.take_length, hse]
  refine ⟨?_, k⟩
  exact {
    lt := fun x hx => Nat.lt_of_lt_of_le (h.lt x hx) k.size
    qm := h.qm
    dq := fun x hx => ⟨(h.dq x hx).1, (h.dq x hx).2.1, (h.dq x hx).2.2.1, by simp [Value.ownBlock]⟩
    blk := (h.blk.setCell 3 vS).setCell 4 (.slice none 0 0)
    files := h.files
    frow := h.frow.kp k (fun x hx e => (h.frow.ne h.blk (by decide)) (by rw [hx, e]))
    ulen := h.ulen
    ub := fun i u f hu hf => ⟨(h.ub i u f hu hf).1.kp k (fun x hx _ hd => (h.dq x hd).2.1 hx), (h.ub i u f hu hf).2⟩
    seen := h.seen.kp k (fun x hx _ hd => (h.dq x hd).2.1 hx)
    safe := by rw [e]; exact h.seen.kp k (fun x hx _ hd => (h.dq x hd).2.1 hx)
    ris := by rw [e, hse]; exact h.ris.fold _
    crow := Row.nil _ _ _
    qF := h.qF
    qC := by simp [Value.ownBlock] }

set_option maxHeartbeats 2000000 in
theorem rsyncdir_any {Q : Nat → Prop} {N : Nat} (w : World) (m : Nat) (p : PS) (h : RSys Q N w m p) (hN : N + 1 ≤ 1000) :
    Calls Tryz.prog 35 #[.pointer (some ⟨m, 0, none⟩)] w fun e w' => e = .returned (.int .i64 ((pSyncDir p).1 : Nat)) ∧ RDone Q (N + 1) w w' m (pSyncDir p).2 := by
  have HH := hid h
  obtain ⟨D, vF, vS, vA, vC, us, F, h, hI, hF⟩ := h
  have q6 : w.cell? ⟨m, 6, none⟩ = some (.bool p.down) := h.c 6
  cases hdn : p.down with
  | true =>
    have e1 : pSyncDir p = (12, p) := by simp [pSyncDir, wrongs, hdn]
    rw [e1]
    rw [hdn] at q6
    clear h hI hF e1 hdn
    go_enter Tryz.func35, Tryz.ntmps35
    go_wp2
    go_ret
    exact ⟨rfl, RDone.of (HH.out.more (by omega) hN) (Kp.refl _ _)⟩
  | false =>
    rw [hdn] at q6
    cases hd : dead p with
    | true =>
      have e1 : pSyncDir p = (12, fall p) := by simp [pSyncDir, wrongs, hdn, stp, hd]
      rw [e1]
      have HS := hid (rfall_done h hI hF hN hd)
      clear h hI hF e1 hdn hd
      go_enter Tryz.func35, Tryz.ntmps35
      go_wp2_with (go_at_call 64; refine (HS.out).mono ?_; rintro e w2 ⟨rfl, h2⟩; have H2 := hid h2; clear h2)
      go_ret
      exact ⟨rfl, H2.out⟩
    | false =>
      have e1 : pSyncDir p = (0, settle (tick p).chg.length (tick p)) := by simp [pSyncDir, wrongs, hdn, stp, hd, tick]
      rw [e1]
      have HS := hid (rlive_done h hI hd)
      have HR : Hid (∀ W, Rr Q D W m (tick p) vF vS vA vC us F → Kp (· = m) w W → W.cell? ⟨m, 2, none⟩ = some vS ∧ W.frozen? ⟨m, 3, none⟩ = false ∧ W.frozen? ⟨m, 4, none⟩ = false ∧ W.cell? ⟨m, 3, none⟩ = some vA ∧ W.cell? ⟨m, 4, none⟩ = some vC ∧ RDone Q (N + 1) w ((W.setCell ⟨m, 3, none⟩ vS).setCell ⟨m, 4, none⟩ (.slice none 0 0)) m (settle (tick p).chg.length (tick p))) := fun W hW k => by
        obtain ⟨h1, h2⟩ := rr_settle hW hI.seen_eq
        refine ⟨hW.c 2, hW.blk.frozen 3, hW.blk.frozen 4, hW.c 3, hW.c 4, RDone.of ⟨D, vF, vS, vS, _, us, F, h1, ?_, by omega⟩ ((k.trans h2 (fun x hx => .inl hx)).mono (fun x hx => .inl (by subst hx; exact h.qm)))⟩
        have := inv_settle (hI.tick hN) h.ris
        unfold settle
        rw [List.take_length]
        exact this
      obtain ⟨sa, sl, sc, hvS⟩ : ∃ a l c, vS = .slice a l c := by obtain ⟨a, c, e, _⟩ := h.seen; exact ⟨a, _, c, e⟩
      obtain ⟨aa, al, ac, hvA⟩ : ∃ a l c, vA = .slice a l c := by obtain ⟨a, c, e, _⟩ := h.safe; exact ⟨a, _, c, e⟩
      obtain ⟨ca, cc, hvC, _⟩ := h.crow.shape
      subst hvS hvA hvC
      clear h hI hF e1 hdn hd
      go_enter Tryz.func35, Tryz.ntmps35
      go_wp2_with (go_at_call 64; refine (HS.out).mono ?_; rintro e w2 ⟨rfl, h2, k2⟩; obtain ⟨x1, x2, x3, x4, x5, h3⟩ := HR.out _ h2 k2; have H3 := hid h3; clear h2 k2 h3)
      go_ret
      exact ⟨rfl, H3.out⟩

theorem rarm_any {Q : Nat → Prop} {N : Nat} (w : World) (m : Nat) (p : PS) (k : Int) (hk : k ≤ 9223372036854775807) (h : RSys Q N w m p) (hN : N + 1 ≤ 1000) :
    Calls Tryz.prog 37 #[.pointer (some ⟨m, 0, none⟩), .int .i64 k] w fun e w' => e = .returned (.int .i64 ((pArm k p).1 : Nat)) ∧ RDone Q (N + 1) w w' m (pArm k p).2 := by
  have HH := hid h
  obtain ⟨D, vF, vS, vA, vC, us, F, h, hI, hF⟩ := h
  have q6 : w.cell? ⟨m, 6, none⟩ = some (.bool p.down) := h.c 6
  have q5 : w.cell? ⟨m, 5, none⟩ = some (.int .i64 (armV p)) := h.c 5
  have f5 := h.blk.frozen 5
  cases hdn : p.down with
  | true =>
    have e1 : pArm k p = (12, p) := by simp [pArm, wrongs, hdn]
    rw [e1]
    rw [hdn] at q6
    clear h hI hF e1 hdn
    go_enter Tryz.func37, Tryz.ntmps37
    go_wp2
    go_ret
    exact ⟨rfl, RDone.of (HH.out.more (by omega) hN) (Kp.refl _ _)⟩
  | false =>
    rw [hdn] at q6
    by_cases hk0 : k < 0
    · have e1 : pArm k p = (1, p) := by simp [pArm, wrongs, hdn, hk0]
      rw [e1]
      clear h hI hF e1 hdn
      go_enter Tryz.func37, Tryz.ntmps37
      go_wp2
      go_ret
      exact ⟨rfl, RDone.of (HH.out.more (by omega) hN) (Kp.refl _ _)⟩
    · have e1 : pArm k p = (0, { p with armed := true, left := k.toNat }) := by simp [pArm, wrongs, hdn, hk0]
      rw [e1]
      have k1 : Kp (· = m) w (w.setCell ⟨m, 5, none⟩ (.int .i64 k)) := Kp.set1 _ _ _ _
      have HD : Hid (RDone Q (N + 1) w (w.setCell ⟨m, 5, none⟩ (.int .i64 k)) m { p with armed := true, left := k.toNat }) := by
        refine RDone.of ⟨D, vF, vS, vA, vC, us, F, h.cells k1 ?_ rfl rfl rfl rfl, { (hI.mono (M := N + 1) (by omega) hN) with left := by show k.toNat ≤ _; omega }, by omega⟩ (k1.mono (fun x hx => .inl (by subst hx; exact h.qm)))
        have := h.blk.setCell 5 (.int .i64 k)
        have hc : ((k.toNat : Nat) : Int) = k := by omega
        simpa [rfsCells, armV, hc] using this
      clear h hI hF e1 hdn k1
      go_enter Tryz.func37, Tryz.ntmps37
      go_wp2
      go_ret
      exact ⟨rfl, HD.out⟩

/-! ### New, and the zero one -/
theorem rr_new (w : World) (p : PS) (o : Obj) (ho : o = .cells (rfsCells p (.slice none 0 0) (.slice none 0 0) (.slice none 0 0) (.slice none 0 0)).toArray 44) (h1 : p.seen = []) (h2 : p.safe = []) (h3 : p.chg = []) (h4 : p.files = fun _ => none) :
    Rr (· = w.heap.size) No (w.alloc o) w.heap.size p (.slice none 0 0) (.slice none 0 0) (.slice none 0 0) (.slice none 0 0) [] [] := by
  subst ho
  exact {
    lt := fun x hx => by subst hx; simp
    qm := rfl
    dq := fun x hx => hx.elim
    blk := Blk.new w 44 _
    files := by rw [h4]; funext b; simp
    frow := Row.nil _ _ _
    ulen := rfl
    ub := fun i u f hu _ => by simp at hu
    seen := by rw [h1]; exact EnP.nil _ _
    safe := by rw [h2]; exact EnP.nil _ _
    ris := by rw [h2]; exact List.Pairwise.nil
    crow := by rw [h2, h3]; exact Row.nil _ _ _
    qF := by simp [Value.ownBlock]
    qC := by simp [Value.ownBlock] }
theorem rnew_no (k : Int) (h : k < 0 ∨ 99000 < k) (w : World) : Calls Tryz.prog 8 #[.int .i64 k] w fun e w' => e = .returned (.tuple #[.pointer none, .int .i64 1]) ∧ w' = w := by
  by_cases h1 : k < 0
  · clear h
    go_enter Tryz.func8, Tryz.ntmps8
    go_wp2
    go_ret2
    exact ⟨rfl, rfl⟩
  · have h2 : 99000 < k := by omega
    clear h
    go_enter Tryz.func8, Tryz.ntmps8
    go_wp2
    go_ret2
    exact ⟨rfl, rfl⟩
theorem rnew_yes (n : Nat) (h : n ≤ 99000) (w : World) : Calls Tryz.prog 8 #[.int .i64 (n : Int)] w fun e w' => e = .returned (.tuple #[.pointer (some ⟨w.heap.size, 0, none⟩), .int .i64 0]) ∧ RSys (· = w.heap.size) 0 w' w.heap.size (newPS n) ∧ Kp No w w' := by
  have h1 : ¬ (n : Int) < 0 := by omega
  have h2 : ¬ (99000 : Int) < n := by omega
  go_enter Tryz.func8, Tryz.ntmps8
  go_wp2
  go_ret2
  exact ⟨rfl, ⟨No, _, _, _, _, [], [], rr_new w (newPS n) _ rfl rfl rfl rfl rfl, inv_new n h, Nat.le_refl _⟩, (Kp.refl _ _).alloc _⟩

set_option maxHeartbeats 4000000 in
set_option maxRecDepth 100000 in
theorem rcreate_any {Q : Nat → Prop} {N : Nat} (w : World) (m : Nat) (p : PS) (t : ByteArray) (ht : t.size ≤ 1000000) (h : RSys Q N w m p) (hN : N + 1 ≤ 1000) :
    Calls Tryz.prog 25 #[.pointer (some ⟨m, 0, none⟩), .string t] w fun e w' => ∃ b, p.files b = none ∧ e = .returned (.int .i64 ((pCreate (nm t) b p).1 : Nat)) ∧ RDone Q (N + 1) w w' m (pCreate (nm t) b p).2 := by
  have HH := hid h
  obtain ⟨D, vF, vS, vA, vC, us, F, h, hI, hF⟩ := h
  have HA := hid (rahead_any h t ht)
  have q2 : w.cell? ⟨m, 2, none⟩ = some vS := h.c 2
  have hbn : p.files F.length = none := by rw [h.files]; simp
  have HB := hid hbn
  by_cases g1 : wrongs p [nm t] = 0
  · rw [g1] at HA
    have HFI := rfind_any w vS p.seen t h.seen
    obtain ⟨sa, sl, sc, hvS⟩ : ∃ a l c, vS = .slice a l c := by obtain ⟨a, c, e, _⟩ := h.seen; exact ⟨a, _, c, e⟩
    subst hvS
    cases hdf : dfind p.seen (nm t) with
    | some b =>
      have e1 : pCreate (nm t) F.length p = (6, p) := by simp [pCreate, g1, hdf]
      rw [hdf, show noOf (some b) = (b : Int) from rfl] at HFI
      have HFI := hid HFI
      have HE : Hid (((pCreate (nm t) F.length p).1 : Int) = 6 ∧ (pCreate (nm t) F.length p).2 = p) := by rw [e1]; exact ⟨rfl, rfl⟩
      have hb0 : (0 : Int) ≤ (b : Int) := by omega
      clear h hI hF g1 hdf e1 hbn
      go_enter Tryz.func25, Tryz.ntmps25
      go_wp2_with (first | (go_at_call 62; refine (HA.out).mono ?_; rintro e w1 ⟨rfl, h1⟩; subst w1) | (go_at_call 63; refine (HFI.out).mono ?_; rintro e w1 ⟨rfl, h1⟩; subst w1))
      go_ret
      exact ⟨F.length, HB.out, by rw [HE.out.1]; rfl, by rw [HE.out.2]; exact RDone.of (HH.out.more (by omega) hN) (Kp.refl _ _)⟩
    | none =>
      rw [hdf, show noOf none = -1 from rfl] at HFI
      have HFI := hid HFI
      cases hd : dead p with
      | true =>
        have e1 : pCreate (nm t) F.length p = (12, fall p) := by simp [pCreate, g1, hdf, stp, hd]
        have HE : Hid (((pCreate (nm t) F.length p).1 : Int) = 12 ∧ (pCreate (nm t) F.length p).2 = fall p) := by rw [e1]; exact ⟨rfl, rfl⟩
        have HS := hid (rfall_done h hI hF hN hd)
        clear h hI hF g1 hdf e1 hbn hd
        go_enter Tryz.func25, Tryz.ntmps25
        go_wp2_with (first | (go_at_call 62; refine (HA.out).mono ?_; rintro e w1 ⟨rfl, h1⟩; subst w1) | (go_at_call 63; refine (HFI.out).mono ?_; rintro e w1 ⟨rfl, h1⟩; subst w1) | (go_at_call 64; refine (HS.out).mono ?_; rintro e w2 ⟨rfl, h2⟩; have H2 := hid h2; clear h2))
        go_ret
        exact ⟨F.length, HB.out, by rw [HE.out.1]; rfl, by rw [HE.out.2]; exact H2.out⟩
      | false =>
        have e1 : pCreate (nm t) F.length p = (0, chgd ⟨0, nm t, [], F.length⟩ (setF F.length ⟨[], 0⟩ (tick p))) := by simp [pCreate, g1, hdf, stp, hd]
        have HE : Hid (((pCreate (nm t) F.length p).1 : Int) = 0 ∧ (pCreate (nm t) F.length p).2 = chgd ⟨0, nm t, [], F.length⟩ (setF F.length ⟨[], 0⟩ (tick p))) := by rw [e1]; exact ⟨rfl, rfl⟩
        have HS := hid (rlive_done h hI hd)
        have hnl : (nm t).length ≤ 40 := by
          have : nameB (nm t) = true := by
            cases hn : nameB (nm t) with
            | true => rfl
            | false =>
              simp only [wrongs, List.all_cons, hn, List.all_nil, Bool.false_and] at g1
              split at g1 <;> simp at g1
          simp [nameB] at this
          omega
        obtain ⟨fa, fc, hvF, _⟩ := h.frow.shape
        subst hvF
        have HC : Hid (∀ (w2 w3 : World) (a2 : Option Addr) (cap2 : Nat) (o : Obj) (x : Int), Rr Q D w2 m (tick p) (.slice fa F.length fc) (.slice sa sl sc) vA vC us F → Kp (· = m) w w2 → (w2.alloc o).grownBy w3 (Value.slice fa F.length fc).ownBlock → Row w3 99 2 (.slice a2 (F.length + 1) cap2) (F.length + 1) (rfs us F ++ [.slice none 0 0, .int .i64 0]) →
            ((Value.slice a2 (F.length + 1) cap2).ownBlock = (Value.slice fa F.length fc).ownBlock ∨ (Value.slice a2 (F.length + 1) cap2).ownBlock = some (w2.alloc o).heap.size) → x = (F.length : Int) →
            Calls Tryz.prog 65 #[.pointer (some ⟨m, 0, none⟩), .agg #[.int .i64 1, .string t, .string ⟨#[]⟩, .int .i64 x]] (w3.setCell ⟨m, 1, none⟩ (.slice a2 (F.length + 1) cap2)) fun e w' => e = .returned (.tuple #[]) ∧ RDone Q (N + 1) w w' m (chgd ⟨0, nm t, [], F.length⟩ (setF F.length ⟨[], 0⟩ (tick p)))) := fun w2 w3 a2 cap2 o x h2 k2 hg hr hb hx => by
          subst hx
          obtain ⟨r1, r2⟩ := rr_add h2 hg hr hb
          have hl := hI.lseen
          have hlc := hI.lchg
          have hbg := hI.big
          have hok : okc p.seen ⟨0, nm t, [], F.length⟩ := ⟨by simp, fun e => by cases e⟩
          have hc := rchange_any r1 ⟨0, nm t, [], F.length⟩ hI.seen_eq hok (by show p.seen.length ≤ 1000; omega) (by show p.chg.length ≤ 1000; omega) (fun e he => by have := (hI.hasSeen e he).2; omega) (by simp; omega)
          have e2 : whichOf (setF F.length ⟨[], 0⟩ (tick p)).seen ⟨0, nm t, [], F.length⟩ = F.length := rfl
          have e3 : sOf (nm t) = t := sOf_nm t
          have e4 : sOf [] = ⟨#[]⟩ := rfl
          have e5 : ((0 + 1 : Nat) : Int) = 1 := rfl
          simp only [e2, e3, e4, e5] at hc
          refine hc.mono ?_
          rintro e w' ⟨rfl, Q', D', vS', vC', h1, h4, h3⟩
          have hnone : ∀ b, (p.files b).isSome = true → b ≠ F.length := fun b hb' e => by rw [e, HB.out] at hb'; cases hb'
          refine ⟨rfl, Q', ⟨D', _, vS', vA, vC', _, _, h1, inv_chgd (inv_setF (hI.tick hN) (by simp)) hok ⟨hnl, by simp⟩ (by have := hI.lsum; show p.safe.length + p.chg.length + 1 ≤ N + 1; omega) (fun _ => ⟨by simp [setF], fun hm => ?_⟩), by simp; omega⟩, ?_, fun x hx => ?_⟩
          · rcases List.mem_append.1 hm with hm | hm
            · obtain ⟨e, he, h5⟩ := List.mem_map.1 hm
              exact hnone _ (hI.has e he) h5
            · obtain ⟨c, hc', h5⟩ := List.mem_map.1 hm
              obtain ⟨hc1, hc2⟩ := List.mem_filter.1 hc'
              exact hnone _ (hI.hasC c hc1 (by simpa using hc2)) h5
          · refine ((k2.mono (fun x hx => .inl (by subst hx; exact h.qm))).trans r2 (fun x hx => .inl hx)).trans h4 (fun x hx => ?_)
            rcases hx with hx | hx
            · exact .inl hx
            · have := k2.size; exact .inr (by omega)
          · have := k2.size
            rcases h3 x hx with h5 | h5
            · rcases h5 with h5 | h5
              · exact .inl h5
              · exact .inr (by omega)
            · have := r2.size
              exact .inr (by omega)
        have HX : Hid (∀ W, Rr Q D W m (tick p) (.slice fa F.length fc) (.slice sa sl sc) vA vC us F → W.cell? ⟨m, 1, none⟩ = some (.slice fa F.length fc) ∧ W.frozen? ⟨m, 1, none⟩ = false ∧ m < W.heap.size ∧ Row W 99 2 (.slice fa F.length fc) F.length (rfs us F)) := fun W hW => ⟨hW.c 1, hW.blk.frozen 1, hW.lt m hW.qm, hW.frow⟩
        have hFm : Hid ((Value.slice fa F.length fc).ownBlock ≠ some m) := h.frow.ne h.blk (by decide)
        have hFl : F.length ≤ 1000 := by omega
        clear h hI hF g1 hdf e1 hbn hd hnl
        generalize chgd ⟨0, nm t, [], F.length⟩ (setF F.length ⟨[], 0⟩ (tick p)) = R at *
        go_enter Tryz.func25, Tryz.ntmps25
        go_wp2_with (first | (go_at_call 62; refine (HA.out).mono ?_; rintro e w1 ⟨rfl, h1⟩; subst w1) | (go_at_call 63; refine (HFI.out).mono ?_; rintro e w1 ⟨rfl, h1⟩; subst w1) | (go_at_call 64; refine (HS.out).mono ?_; rintro e w2 ⟨rfl, h2, k2⟩; obtain ⟨x1, x2, x3, x4⟩ := HX.out _ h2; have H2 := hid h2; have K2 := hid k2; have X4 := hid x4; clear h2 k2 x4) | (at_builtin; refine app_row _ rfl _ _ 40 99 (.agg #[.slice none 0 0, .int .i64 0]) 2 32 rfl Tryz.underlying40 Tryz.infoRfile rfl (by decide) (.slice fa F.length fc) (.slice (some ⟨w2.heap.size, 0, none⟩) 1 1) F.length 1 (rfs us F) [.slice none 0 0, .int .i64 0] rfl rfl (X4.out.kept ((Kp.refl _ _).alloc _)) (Src.one w2 [.slice none 0 0, .int .i64 0] 2 99 rfl (by intro u hu; simp at hu; rcases hu with rfl | rfl <;> rfl)) (by omega) (by decide) ?_; intro a2 cap2 w3 hr2 hg2 hb2; have HR2 := hid hr2; have HG2 := hid hg2; have HB2 := hid hb2; have y1 : w3.cell? ⟨m, 1, none⟩ = some (.slice fa F.length fc) := hg2.cell ((World.cell?_alloc_past _ _ _ x3).trans x1) (fun e => hFm.out e.symm); have yz : w3.frozen? ⟨m, 1, none⟩ = false := ((Kp.ofGrown hg2).frozen (p := ⟨m, 1, none⟩) (by simp; omega) (fun e => hFm.out e)).trans ((World.frozen?_alloc_past _ _ _ x3).trans x2); clear hr2 hg2 hb2) | (go_at_call 65; refine (HC.out _ _ _ _ _ _ H2.out K2.out HG2.out HR2.out HB2.out ?_).mono ?_; (first | omega | (simp; done) | (simp; omega)); rintro e w5 ⟨rfl, h5⟩; have H5 := hid h5; clear h5) | go_in)
        go_ret
        exact ⟨F.length, HB.out, by rw [HE.out.1]; rfl, by rw [HE.out.2]; exact H5.out⟩
  · have e1 : pCreate (nm t) F.length p = (wrongs p [nm t], p) := by simp [pCreate, g1]
    have HE : Hid (((pCreate (nm t) F.length p).1 : Int) = (wrongs p [nm t] : Nat) ∧ (pCreate (nm t) F.length p).2 = p) := by rw [e1]; exact ⟨rfl, rfl⟩
    clear e1
    generalize wrongs p [nm t] = x at *
    have hne : ((x : Int) != 0) = true := by simp; omega
    clear h hI hF g1 hbn
    go_enter Tryz.func25, Tryz.ntmps25
    go_wp2_with (go_at_call 62; refine (HA.out).mono ?_; rintro e w1 ⟨rfl, h1⟩; subst w1)
    go_ret
    exact ⟨F.length, HB.out, by rw [HE.out.1]; rfl, by rw [HE.out.2]; exact RDone.of (HH.out.more (by omega) hN) (Kp.refl _ _)⟩

end Go.Proofs.YtmiipifhbliamaaGreat.Sim
