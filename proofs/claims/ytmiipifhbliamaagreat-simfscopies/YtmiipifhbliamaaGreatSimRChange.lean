/-
  The reference's change: one that is seen.
-/
import Derived.Test.YtmiipifhbliamaaGreatSimRRep
import Derived.Deep.RegionWith
namespace Go.Proofs.YtmiipifhbliamaaGreat.Sim
open Go.RowKit Go.Maps

theorem Tryz.infoRchg : (Tryz.prog.info? 102).map (fun i => (i.zero, i.size, i.bytes)) = some (some (.agg #[.int .i64 0, .string ⟨#[]⟩, .string ⟨#[]⟩, .int .i64 0]), 4, 48) := by kernel_rfl

/-- What a change leaves. -/
theorem rr_chgd {Q D : Nat → Prop} {w : World} {m : Nat} {p : PS} {vF vS vA vC : Value} {us : List Value} {F : List Fl} (h : Rr Q D w m p vF vS vA vC us F) {W2 w3 : World} {vS' vC' : Value} {o : Obj} (c : PC) (hse : p.seen = p.chg.foldl pdo p.safe)
    (k2 : Kp (· = m) w W2) (b2 : Blk W2 m 44 (rfsCells p vF vS' vA vC)) (r2 : Row W2 106 2 vS' (pdo p.seen c).length (ents (pdo p.seen c))) (o2 : ∀ x, vS'.ownBlock = some x → w.heap.size ≤ x)
    (g3 : (W2.alloc o).grownBy w3 vC.ownBlock) (r3 : Row w3 102 4 vC' (p.chg.length + 1) (rchgs p.safe p.chg ++ rchgCells c (whichOf p.seen c))) (hb3 : vC'.ownBlock = vC.ownBlock ∨ vC'.ownBlock = some (W2.alloc o).heap.size) :
    Rr (fun x => Q x ∨ (w.heap.size ≤ x ∧ x < w3.heap.size)) (fun x => D x ∨ vS'.ownBlock = some x) (w3.setCell ⟨m, 4, none⟩ vC') m (chgd c p) vF vS' vA vC' us F ∧ Kp Q w (w3.setCell ⟨m, 4, none⟩ vC') := by
  have hml := h.lt m h.qm
  have hcm : vC.ownBlock ≠ some m := h.crow.ne h.blk (by decide)
  have k3 : Kp (fun x => vC.ownBlock = some x) W2 w3 := ((Kp.refl _ W2).alloc o).grown g3 (fun x hx => .inl hx)
  have k4 : Kp (· = m) w3 (w3.setCell ⟨m, 4, none⟩ vC') := Kp.set1 _ _ _ _
  have k23 : Kp (fun x => x = m ∨ vC.ownBlock = some x) w w3 := (k2.mono (fun x hx => .inl (.inl hx))).trans k3 (fun x hx => .inl (.inr hx))
  have K : Kp (fun x => x = m ∨ vC.ownBlock = some x) w (w3.setCell ⟨m, 4, none⟩ vC') := k23.trans k4 (fun x hx => .inl (.inl hx))
  have hsz : (w3.setCell ⟨m, 4, none⟩ vC').heap.size = w3.heap.size := by simp
  have hW2 := k2.size
  have h23 := k3.size
  have hfc : ∀ x, vF.ownBlock = some x → vC.ownBlock ≠ some x := h.frow.ne' h.crow (by decide)
  have hfm : vF.ownBlock ≠ some m := h.frow.ne h.blk (by decide)
  have hD : ∀ x, D x → ¬ (x = m ∨ vC.ownBlock = some x) := fun x hx hh => by
    obtain ⟨_, h1, _, h3⟩ := h.dq x hx
    rcases hh with hh | hh
    · exact h1 hh
    · exact h3 hh
  have hnew : ∀ x, vC'.ownBlock = some x → vC.ownBlock = some x ∨ (w.heap.size ≤ x ∧ x < w3.heap.size ∧ W2.heap.size ≤ x) := fun x hx => by
    rcases hb3 with e | e
    · rw [e] at hx; exact .inl hx
    · have hlt := r3.lt x hx
      rw [e] at hx
      have hx' : W2.heap.size + 1 = x := by simpa using hx
      exact .inr ⟨by omega, hlt, by omega⟩
  have hc'm : vC'.ownBlock ≠ some m := fun e => by
    rcases hnew m e with e | ⟨e, _⟩
    · exact hcm e
    · omega
  have rS : Row w3 106 2 vS' (pdo p.seen c).length (ents (pdo p.seen c)) := r2.kp k3 (fun x hx e => by
    have h1 := o2 x hx
    have h2 := h.lt x (h.qC x e)
    omega)
  have hSlt : ∀ x, vS'.ownBlock = some x → x < w3.heap.size := fun x hx => rS.lt x hx
  refine ⟨?_, K.mono (fun x hx => .inl ?_)⟩
  · exact {
      lt := fun x hx => by
        rw [hsz]
        rcases hx with hx | hx
        · have := h.lt x hx; have := k23.size; omega
        · exact hx.2
      qm := .inl h.qm
      dq := fun x hx => by
        rcases hx with hx | hx
        · obtain ⟨h0, h1, h2, h3⟩ := h.dq x hx
          refine ⟨.inl h0, h1, h2, fun e => ?_⟩
          rcases hnew x e with e | ⟨e, _⟩
          · exact h3 e
          · have := h.lt x h0; omega
        · have h1 := o2 x hx
          refine ⟨.inr ⟨h1, hSlt x hx⟩, fun e => by omega, fun e => by have := h.lt x (h.qF x e); omega, (rS.ne' r3 (by decide)) x hx⟩
      blk := by
        have b3 : Blk w3 m 44 (rfsCells p vF vS' vA vC) := b2.kp k3 hcm
        exact b3.setCell 4 vC'
      files := h.files
      frow := h.frow.kp K (fun x hx hh => by
        rcases hh with hh | hh
        · exact hfm (by rw [hx, hh])
        · exact hfc x hx hh)
      ulen := h.ulen
      ub := fun i u f hu hf => ⟨((h.ub i u f hu hf).1.kp K (fun x hx _ hd => hD x hd hx)).mono (fun x _ hx => .inl hx), (h.ub i u f hu hf).2⟩
      seen := by
        have : Row (w3.setCell ⟨m, 4, none⟩ vC') 106 2 vS' (pdo p.seen c).length (ents (pdo p.seen c)) := rS.kp k4 (fun x hx e => by have := o2 x hx; omega)
        exact this.enP (fun x hx => .inr hx)
      safe := (h.safe.kp K (fun x hx _ hd => hD x hd hx)).mono (fun x _ hx => .inl hx)
      ris := h.ris
      crow := by
        show Row _ 102 4 vC' (p.chg ++ [c]).length (rchgs p.safe (p.chg ++ [c]))
        rw [rchgs_snoc, ← hse, List.length_append]
        exact r3.kp k4 (fun x hx e => hc'm (by rw [hx, e]))
      qF := fun x hx => .inl (h.qF x hx)
      qC := fun x hx => by
        rcases hnew x hx with e | ⟨e1, e2, _⟩
        · exact .inl (h.qC x e)
        · exact .inr ⟨e1, e2⟩ }
  · rcases hx with hx | hx
    · rw [hx]; exact h.qm
    · exact h.qC x hx

set_option maxHeartbeats 4000000 in
set_option maxRecDepth 100000 in
theorem rchange_any {Q D : Nat → Prop} {w : World} {m : Nat} {p : PS} {vF vS vA vC : Value} {us : List Value} {F : List Fl} (h : Rr Q D w m p vF vS vA vC us F) (c : PC) (hse : p.seen = p.chg.foldl pdo p.safe) (hok : okc p.seen c) (hl : p.seen.length ≤ 1000) (hlc : p.chg.length ≤ 1000)
    (hn : ∀ e ∈ p.seen, e.1.length ≤ 1000000) (hc : c.nm.length ≤ 1000000 ∧ c.to.length ≤ 1000000) :
    Calls Tryz.prog 65 #[.pointer (some ⟨m, 0, none⟩), .agg #[.int .i64 ((c.kind + 1 : Nat) : Int), .string (sOf c.nm), .string (sOf c.to), .int .i64 (whichOf p.seen c : Nat)]] w fun e w' => e = .returned (.tuple #[]) ∧ ∃ Q' D' vS' vC', Rr Q' D' w' m (chgd c p) vF vS' vA vC' us F ∧ Kp Q w w' ∧ ∀ x, Q' x → Q x ∨ w.heap.size ≤ x := by
  have hml := h.lt m h.qm
  have hrs : Ris p.seen := by rw [hse]; exact h.ris.fold _
  obtain ⟨sa, sl, sc, hvS⟩ : ∃ a l c, vS = .slice a l c := by obtain ⟨a, c, e, _⟩ := h.seen; exact ⟨a, _, c, e⟩
  obtain ⟨ca, cc, hvC, _⟩ := h.crow.shape
  subst hvS hvC
  have q2 : w.cell? ⟨m, 2, none⟩ = some (.slice sa sl sc) := h.c 2
  have q4 : w.cell? ⟨m, 4, none⟩ = some (.slice ca p.chg.length cc) := h.c 4
  have f2 := h.blk.frozen 2
  have f4 := h.blk.frozen 4
  have HA : Hid (∀ V, Kp No w V → Calls Tryz.prog 67 #[.slice sa sl sc, .agg #[.int .i64 ((c.kind + 1 : Nat) : Int), .string (sOf c.nm), .string (sOf c.to), .int .i64 (whichOf p.seen c : Nat)]] V fun e w' => ∃ ad cap, e = .returned (.slice ad (pdo p.seen c).length cap) ∧ OutI V w' (.slice ad (pdo p.seen c).length cap) (pdo p.seen c)) := fun V k => rapply_any V _ p.seen c (h.seen.kept k) hrs (by omega) hn hc hok
  have HO : Hid (rchgCells c (whichOf p.seen c) = [.int .i64 ((c.kind + 1 : Nat) : Int), .string (sOf c.nm), .string (sOf c.to), .int .i64 (whichOf p.seen c : Nat)]) := rfl
  have H := hid h
  have HSE := hid hse
  obtain ⟨kk, hkk⟩ : ∃ kk : Int, ((c.kind + 1 : Nat) : Int) = kk := ⟨_, rfl⟩
  rw [hkk] at HA HO ⊢
  have HN : Hid ((pdo p.seen c).length = (pdo p.seen c).length) := rfl
  clear h hse hok hn hc hrs hkk hl HN
  generalize hq : pdo p.seen c = q at *
  have HQ := hid hq
  clear hq
  obtain ⟨wh, hwh⟩ : ∃ wh, whichOf p.seen c = wh := ⟨_, rfl⟩
  rw [hwh] at HA HO ⊢
  have HWH := hid hwh
  clear hwh
  generalize sOf c.nm = sn at *
  generalize sOf c.to = st at *
  have HW0 : Hid (Kp No w (w.alloc (.cells #[.int .i64 kk, .string sn, .string st, .int .i64 (wh : Int)] 102))) := (Kp.refl _ _).alloc _
  have HB0 : Hid (Blk (w.alloc (.cells #[.int .i64 kk, .string sn, .string st, .int .i64 (wh : Int)] 102)) w.heap.size 102 [.int .i64 kk, .string sn, .string st, .int .i64 (wh : Int)]) := Blk.new w 102 _
  go_enter Tryz.func65, Tryz.ntmps65
  go_wp2_with fail
  have b0 := HB0.out.cell 0
  have b1 := HB0.out.cell 1
  have b2 := HB0.out.cell 2
  have b3 := HB0.out.cell 3
  have z2 := (HW0.out.cell (p := ⟨m, 2, none⟩) hml (fun h => h)).trans q2
  have z4 := (HW0.out.cell (p := ⟨m, 4, none⟩) hml (fun h => h)).trans q4
  have y2 := (HW0.out.frozen (p := ⟨m, 2, none⟩) hml (fun h => h)).trans f2
  have y4 := (HW0.out.frozen (p := ⟨m, 4, none⟩) hml (fun h => h)).trans f4
  have hsz : Hid ((w.alloc (.cells #[.int .i64 kk, .string sn, .string st, .int .i64 (wh : Int)] 102)).heap.size = w.heap.size + 1) := by simp [Hid]
  generalize w.alloc (.cells #[.int .i64 kk, .string sn, .string st, .int .i64 (wh : Int)] 102) = W0 at *
  obtain ⟨bx, hbx⟩ : ∃ bx, w.heap.size = bx := ⟨_, rfl⟩
  have HBX := hid hbx
  rw [hbx] at b0 b1 b2 b3 HB0 hsz ⊢
  clear hbx q2 q4 f2 f4
  simp only [List.getElem?_cons_zero, List.getElem?_cons_succ] at b0 b1 b2 b3
  have hne : m ≠ bx := by have := HBX.out; omega
  go_region_with (go_at_call 67; refine (HA.out _ (HW0.out.drew)).mono ?_; rintro e w1 ⟨ad, cap, rfl, ho⟩; have HO1 := hid ho; have HK1 : Hid (Kp No W0 w1) := (Kp.refl _ _).drew.andNone ho.2.2; have x2 := (HK1.out.cell (p := ⟨m, 2, none⟩) (Nat.lt_of_lt_of_le hml HW0.out.size) (fun h => h)).trans z2; have xf2 := (HK1.out.frozen (p := ⟨m, 2, none⟩) (Nat.lt_of_lt_of_le hml HW0.out.size) (fun h => h)).trans y2; clear ho)
  all_goals
    have HB2 : Hid (Blk (w1.setCell ⟨m, 2, none⟩ (.slice ad q.length cap)) m 44 (rfsCells p vF (.slice ad q.length cap) vA (.slice ca p.chg.length cc))) := by
      have h1 : Blk w1 m 44 (rfsCells p vF (.slice sa sl sc) vA (.slice ca p.chg.length cc)) := H.out.blk.kp (HW0.out.andNone HK1.out) (fun h => h)
      have := h1.setCell 2 (.slice ad q.length cap)
      simpa [rfsCells, Hid] using this
    have HKm : Hid (Kp (· = m) W0 (w1.setCell ⟨m, 2, none⟩ (.slice ad q.length cap))) := (HK1.out.mono (fun _ h => h.elim)).trans (Kp.set1 _ _ _ _) (fun x hx => .inl hx)
    have HRS : Hid (Row (w1.setCell ⟨m, 2, none⟩ (.slice ad q.length cap)) 106 2 (.slice ad q.length cap) q.length (ents q)) := HO1.out.1.kp (Kp.set1 _ _ _ _) (fun x hx e => by
      have h1 := HO1.out.2.1 x hx
      have h2 := HW0.out.size
      have h3 : W0.drew.heap.size = W0.heap.size := rfl
      omega)
    generalize w1.setCell ⟨m, 2, none⟩ (.slice ad q.length cap) = W2 at *
    have hbl : bx < W0.heap.size := by have := hsz.out; omega
    have d0 := (HKm.out.cell (p := ⟨bx, 0, none⟩) hbl (fun e => hne e.symm)).trans b0
    have d1 := (HKm.out.cell (p := ⟨bx, 1, none⟩) hbl (fun e => hne e.symm)).trans b1
    have d2 := (HKm.out.cell (p := ⟨bx, 2, none⟩) hbl (fun e => hne e.symm)).trans b2
    have d3 := (HKm.out.cell (p := ⟨bx, 3, none⟩) hbl (fun e => hne e.symm)).trans b3
    have d4 : W2.cell? ⟨m, 4, none⟩ = some (.slice ca p.chg.length cc) := HB2.out.cell 4
    have d5 := HB2.out.frozen 4
    have hml2 : m < W2.heap.size := HB2.out.lt
    have HROW : Hid (∀ o, Row (W2.alloc o) 102 4 (.slice ca p.chg.length cc) p.chg.length (rchgs p.safe p.chg)) := fun o => (H.out.crow.kp ((HW0.out.mono (fun _ h => h.elim)).trans HKm.out (fun x hx => .inl hx)) (fun x hx e => (H.out.crow.ne H.out.blk (by decide)) (by rw [hx, e]))).kept ((Kp.refl _ _).alloc _)
    have HSRC : Hid (Src (W2.alloc (.cells #[.int .i64 kk, .string sn, .string st, .int .i64 (wh : Int)] 102)) (.slice (some ⟨W2.heap.size, 0, none⟩) 1 1) 1 4 (rchgCells c wh)) := by
      have h := Src.one W2 (rchgCells c wh) 4 102 rfl (rchgCells_one c wh)
      rw [HO.out] at h ⊢
      exact h
    have hCm : Hid ((Value.slice ca p.chg.length cc).ownBlock ≠ some m) := H.out.crow.ne H.out.blk (by decide)
    clear b0 b1 b2 b3 z2 z4 y2 y4 x2 xf2 HA hml
    go_wp2_with fail
    go_region_law (refine step_app _ (by rfl) (.tmp 17) (.tmp 19) 42 102 _ 4 48 (by rfl) Tryz.underlying42 Tryz.infoRchg rfl (by decide) (.slice ca p.chg.length cc) (.slice (some ⟨W2.heap.size, 0, none⟩) 1 1) p.chg.length 1 (rchgs p.safe p.chg) (rchgCells c wh) (by simp [Act.eval]) (by simp [Act.eval]) (HROW.out _) HSRC.out (by omega) (by decide) ?_; intro a2 cap2 w3 hr2 hg2 hb2; have HR2 := hid hr2; have HG2 := hid hg2; have HBB := hid hb2; have y3 : w3.cell? ⟨m, 4, none⟩ = some (.slice ca p.chg.length cc) := hg2.cell ((World.cell?_alloc_past _ _ _ hml2).trans d4) (fun e => hCm.out e.symm); have yz : w3.frozen? ⟨m, 4, none⟩ = false := ((Kp.ofGrown hg2).frozen (p := ⟨m, 4, none⟩) (by simp; omega) (fun e => hCm.out e)).trans ((World.frozen?_alloc_past _ _ _ hml2).trans d5); clear hr2 hg2 hb2)
    all_goals
      go_end0
      have hq := HQ.out
      subst hq
      have hg := HG2.out
      have hE := rr_chgd H.out (o := .cells #[.int .i64 kk, .string sn, .string st, .int .i64 (wh : Int)] 102) c HSE.out ((HW0.out.mono (fun _ h => h.elim)).trans HKm.out (fun x hx => .inl hx)) HB2.out HRS.out (fun x hx => Nat.le_trans HW0.out.size (HO1.out.2.1 x hx)) ⟨hg.os, hg.tape, hg.output, hg.size, hg.block⟩ (HWH.out ▸ HR2.out) HBB.out
      refine ⟨rfl, _, _, _, _, hE.1, hE.2, fun x hx => ?_⟩
      rcases hx with hx | hx
      · exact .inl hx
      · exact .inr hx.1

end Go.Proofs.YtmiipifhbliamaaGreat.Sim
