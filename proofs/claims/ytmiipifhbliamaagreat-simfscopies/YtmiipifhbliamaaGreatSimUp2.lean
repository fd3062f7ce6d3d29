/-
  Up.
-/
import Derived.Test.YtmiipifhbliamaaGreatSimUp
namespace Go.Proofs.YtmiipifhbliamaaGreat.Sim
open Go.RowKit Go.Maps

/-- What holds while Up goes on. -/
def UpI (N : Nat) (d : Dir) : PS → Prop := fun p => (∀ b f, p.files b = some f → f.b.length ≤ 200 * N) ∧ (∀ e ∈ d, (p.files e.2).isSome = true) ∧ p.safe = d ∧ N ≤ 1000

/-- Where Up stands, i names through. -/
def UpAt (P : Nat → Prop) (N : Nat) (w : World) (s : Nat) (q : PS) (d : Dir) (cuts : List Int) (vs : Value) (mo : Option Nat) (i : Nat) (wr : World) : Prop :=
  ∃ u, Rp P (UpI N d) wr s (loses (d.take i) 0 cuts q) vs (.map mo) (.slice none 0 0) u ∧ Kp P w wr

theorem upI_step {N : Nat} {d : Dir} {q : PS} {b : Nat} {f : Fl} {k : Int} (h : UpI N d q) (hf : q.files b = some f) : UpI N d (setF b (lose k f) q) := by
  refine ⟨fun x g hg => ?_, fun e he => ?_, h.2.2.1, h.2.2.2⟩
  · have hg' : (if x = b then some (lose k f) else q.files x) = some g := hg
    split at hg'
    · cases hg'
      exact Nat.le_trans (List.length_take_le' _ _) (h.1 b f hf)
    · exact h.1 x g hg'
  · show (if e.2 = b then some (lose k f) else q.files e.2).isSome = true
    split
    · rfl
    · exact h.2.1 e he

theorem map_get {l : Dir} {i : Nat} (h : i < l.length) : (l.map (·.1)).getD i [] = (l[i]).1 := by
  rw [List.getD_eq_getElem?_getD, List.getElem?_map, List.getElem?_eq_getElem h]
  rfl

/-- At the end of Up. -/
theorem up_end {P : Nat → Prop} {N : Nat} {w wr w2 : World} {s : Nat} {q : PS} {vs vs' : Value} {mo : Option Nat} {u : Nat → Value} (h : Rp P (UpI N q.safe) wr s q vs (.map mo) (.slice none 0 0) u) (hq : q.chg = [])
    (hv : (mo = none ∧ vs' = .map none ∧ w2 = wr) ∨ ∃ b, mo = some b ∧ vs' = .map (some wr.heap.size) ∧ MapAt w2 wr.heap.size q.safe) (k2 : Kp No wr w2) (hk : Kp P w wr)
    (hi : PInv N { q with seen := q.safe, down := false, armed := false, left := 0 }) :
    Done P N w ((((w2.setCell ⟨s, 1, none⟩ vs').setCell ⟨s, 4, none⟩ (.bool false)).setCell ⟨s, 5, none⟩ (.bool false)).setCell ⟨s, 6, none⟩ (.int .i64 0)) s { q with seen := q.safe, down := false, armed := false, left := 0 } := by
  have hR := h.kp k2 (fun _ h => h.elim)
  have k4 : Kp (· = s) w2 ((((w2.setCell ⟨s, 1, none⟩ vs').setCell ⟨s, 4, none⟩ (.bool false)).setCell ⟨s, 5, none⟩ (.bool false)).setCell ⟨s, 6, none⟩ (.int .i64 0)) :=
    (((Kp.set1 _ _ _ _).trans (Kp.set1 _ _ _ _) (fun x hx => .inl hx)).trans (Kp.set1 _ _ _ _) (fun x hx => .inl hx)).trans (Kp.set1 _ _ _ _) (fun x hx => .inl hx)
  have hb := (((hR.blk.setCell 1 vs').setCell 4 (.bool false)).setCell 5 (.bool false)).setCell 6 (.int .i64 0)
  generalize hw' : (((w2.setCell ⟨s, 1, none⟩ vs').setCell ⟨s, 4, none⟩ (.bool false)).setCell ⟨s, 5, none⟩ (.bool false)).setCell ⟨s, 6, none⟩ (.int .i64 0) = w' at *
  have hz : w2.heap.size = w'.heap.size := by rw [← hw']; simp
  have hsl := hR.lt s hR.ps
  refine ⟨fun x => P x ∨ (wr.heap.size = x ∧ mo ≠ none), ⟨vs', .map mo, .slice none 0 0, u, ?_⟩, ((hk.andNone k2).trans k4 (fun x hx => .inl (by subst hx; exact h.ps))), fun x hx => by
    rcases hx with hx | hx
    · exact .inl hx
    · exact .inr (by have := hk.size; omega)⟩
  have hnew : ∀ b, mo = some b → wr.heap.size < w2.heap.size := fun b e => by
    rcases hv with ⟨e1, _⟩ | ⟨b', _, _, hm⟩
    · rw [e] at e1; cases e1
    · exact hm.lt
  exact {
    lt := fun x hx => by
      rcases hx with hx | ⟨hx, hm⟩
      · have := h.lt x hx; have := k2.size; omega
      · cases mo with
        | none => exact absurd rfl hm
        | some b => have := hnew b rfl; omega
    ps := .inl h.ps
    blk := hb
    seen := by
      rcases hv with ⟨e1, e2, e3⟩ | ⟨b, e1, e2, hm⟩
      · refine .inl ⟨e2, ?_⟩
        rcases h.safe with ⟨_, h2⟩ | ⟨b, h1, _⟩
        · exact h2
        · rw [e1] at h1; cases h1
      · exact .inr ⟨_, e2, hm.kp k4 (hm.blk hR.blk)⟩
    safe := by
      rcases hR.safe with ⟨h1, h2⟩ | ⟨b, h1, h2⟩
      · exact .inl ⟨h1, h2⟩
      · exact .inr ⟨b, h1, h2.kp k4 (h2.blk hR.blk)⟩
    unmade := fun e => by
      obtain ⟨e1, e2⟩ := h.unmade e
      rcases hv with ⟨_, e3, _⟩ | ⟨b, e3, _⟩
      · exact ⟨e3, e2⟩
      · rw [e3] at e2; cases e2
    mades := fun e => by
      obtain ⟨a, b, h1, h2, h3, h4, h5⟩ := h.mades e
      rcases hv with ⟨e1, _⟩ | ⟨b', e1, e2, hm⟩
      · rw [e1] at h2; cases h2
      · have : b = b' := by rw [e1] at h2; cases h2; rfl
        refine ⟨wr.heap.size, b, e2, h2, ?_, .inr ⟨rfl, by rw [e1]; simp⟩, .inl h5⟩
        have := h.lt b h5
        omega
    chg := by show Row _ _ _ _ q.chg.length _; rw [hq]; exact Row.nil _ _ _
    pc := by simp [Value.ownBlock]
    file := fun b f hf => by
      obtain ⟨h1, h2, h3⟩ := hR.file b f hf
      exact ⟨.inl h1, h2.kp k4 (h2.blk.ne hR.blk (by decide)) (fun x hx e => h2.own.row.ne hR.blk (by decide) (by rw [hx, e])), fun x hx => .inl (h3 x hx)⟩
    sep := h.sep
    inv := hi }

set_option maxHeartbeats 4000000 in
set_option maxRecDepth 100000 in
theorem up_any {P Q : Nat → Prop} {N : Nat} (w : World) (s : Nat) (p : PS) (k : Int) (v : Value) (cuts : List Int) (h : Sys P N w s p) (hv : IntsAt Q w v cuts) (hQ : ∀ x, Q x → ¬ P x) :
    Calls Tryz.prog 18 #[.pointer (some ⟨s, 0, none⟩), .int .i64 k, v] w fun e w' => e = .returned (.int .i64 0) ∧ Done P N w w' s (pUp k cuts p) := by
  have hI := h.inv
  obtain ⟨vs, vf, vc, u, hR⟩ := h
  obtain ⟨mo, rfl⟩ := hR.safe.shape
  obtain ⟨ac, cc, hvc, _⟩ := hR.chg.shape
  obtain ⟨n, hn, hn2⟩ : ∃ n, min (max k 0).toNat p.chg.length = n ∧ n ≤ p.chg.length := ⟨_, rfl, by omega⟩
  have hnI : min (max k 0) (p.chg.length : Int) = (n : Int) := by rw [← hn]; omega
  have hbig := hI.big
  have hsl := hR.lt s hR.ps
  have hps := hR.ps
  have c3 : w.cell? ⟨s, 3, none⟩ = some (.slice ac p.chg.length cc) := by rw [← hvc]; exact hR.c 3
  have HUP : Hid (pUp k cuts p = { loses ((p.chg.take n).foldl pdo p.safe) 0 cuts (settle n p) with seen := (loses ((p.chg.take n).foldl pdo p.safe) 0 cuts (settle n p)).safe, down := false, armed := false, left := 0 }) := by
    unfold Hid pUp
    rw [hn]
    rfl
  have HINV := hid (inv_up hI hR.safe.ris k cuts)
  have hfn := fold_names hI n
  have hrs : Ris ((p.chg.take n).foldl pdo p.safe) := hR.safe.ris.fold _
  -- settle
  have HST : Hid (Calls Tryz.prog 56 #[.pointer (some ⟨s, 0, none⟩), .int .i64 (n : Int)] w fun e w' => e = .returned (.tuple #[]) ∧ UpAt P N w s (settle n p) ((p.chg.take n).foldl pdo p.safe) cuts vs mo 0 w') := by
    refine (settle_raw w s p vs vc mo u n hR hn2 hI.okc hI.nmC (by have := hI.lsafe; omega) (by have := hI.lchg; omega) hI.nmade).mono ?_
    rintro e w' ⟨rfl, W1, hm1, hk1, hw1⟩
    obtain ⟨hS, hK⟩ := rq_settle (J := UpI N ((p.chg.take n).foldl pdo p.safe)) hR hm1 hk1 hw1 ⟨hI.lfile, fun e he => (hfn e he).1, rfl, hbig⟩
    exact ⟨rfl, u, hS, hK⟩
  have hdl : Hid (((p.chg.take n).foldl pdo p.safe).length ≤ 1000) := by
    have h1 := length_fold (p.chg.take n) p.safe
    have h2 : (p.chg.take n).length ≤ p.chg.length := by simp; omega
    have := hI.lsum
    show _ ≤ _
    omega
  have hq0 : Hid ((settle n p).chg = []) := rfl
  have HFN := hid hfn
  have HRS := hid hrs
  have HV := hid hv
  have HQ := hid hQ
  obtain ⟨av, cv, rfl, hv1, hv2, hv3, _⟩ := hv
  rw [HUP.out] at HINV ⊢
  generalize hd : (p.chg.take n).foldl pdo p.safe = d at *
  generalize settle n p = q at *
  clear hn hfn hrs hd hI hR hvc HUP hQ
  generalize p.chg.length = M at *
  go_enter Tryz.func18, Tryz.ntmps18
  go_wp2_with fail
  refine (HST.out).mono ?_
  rintro e w1 ⟨rfl, hU⟩
  have HU := hid hU
  obtain ⟨u1, hR1, hK1⟩ := hU
  have c2 : w1.cell? ⟨s, 2, none⟩ = some (.map mo) := hR1.c 2
  have hsafe1 : MapV w1 (.map mo) d := by have := hR1.safe; rw [hR1.inv.2.2.1] at this; exact this
  have HN := hid (names_any w1 (.map mo) d hsafe1 (by have := hdl.out; omega))
  have hsz1 := hK1.size
  clear hR1 hK1 hsafe1 HST
  go_wp2_with fail
  refine (HN.out).mono ?_
  rintro e w2 ⟨un, rfl, ho, hnew, hk2⟩
  have HO := hid ho
  have HNEW := hid hnew
  have HU2 : Hid (UpAt P N w s q d cuts vs mo 0 w2) := by
    obtain ⟨u1, hR1, hK1⟩ := HU.out
    exact ⟨u1, hR1.kp hk2 (fun _ h => h.elim), hK1.andNone hk2⟩
  obtain ⟨an, cn, hun, hn1, hn2', hn3, hn4⟩ := ho.shape
  subst hun
  have hsz2 := hk2.size
  -- the names stay
  have HNM : Hid (∀ wr, Kp P w2 wr → ∀ i, (hi : i < d.length) → ∃ g, an = some ⟨g, 0, none⟩ ∧ wr.cell? ⟨g, i, none⟩ = some (.string (sOf (d[i]).1))) := fun wr kw i hi => by
    obtain ⟨g, hg⟩ : ∃ g, an = some ⟨g, 0, none⟩ := by
      rcases HO.out.2 with ⟨e1, e2⟩ | ⟨g, cap', cur, e1, _⟩
      · simp at e2; subst e2; simp at hi
      · cases e1; exact ⟨g, rfl⟩
    refine ⟨g, hg, ?_⟩
    subst hg
    have hgP : ¬ P g := fun hp => by
      obtain ⟨u1, hR1, hK1⟩ := HU.out
      have h1 := hR1.lt g hp
      have h2 := HNEW.out g rfl
      omega
    have h3 := HO.out.kp kw (fun x hx => by cases hx; exact hgP)
    have hr3 : Row wr 9 1 (.slice (some ⟨g, 0, none⟩) (d.map (·.1)).length cn) (d.map (·.1)).length ((d.map (·.1)).map encStr) := h3
    rw [hr3.cellAt i (by simp; exact hi)]
    simp [hi]
    rfl
  have HCUT : Hid (∀ wr, Kp P w wr → ∀ i, i < cuts.length → ∃ g o, av = some ⟨g, o, none⟩ ∧ wr.cell? ⟨g, o + i, none⟩ = some (.int .i64 (cuts.getD i 0))) := fun wr kw i hi => by
    obtain ⟨a', cap', e1, _, _, _, h5⟩ := HV.out
    cases e1
    obtain ⟨g, o, e, hq, hg, hc⟩ := h5 (by intro e; subst e; simp at hi)
    exact ⟨g, o, e, (kw.cell (p := ⟨g, o + i, none⟩) hg (fun hp => HQ.out g hq hp)).trans (hc i hi)⟩
  have hdm : (d.map (·.1)).length = d.length := by simp
  rw [hdm] at hn1 ⊢
  have hD := hdl.out
  obtain ⟨D, hDL⟩ : ∃ D, d.length = D := ⟨_, rfl⟩
  rw [hDL] at hn1 hD ⊢
  have HDL := hid hDL
  clear hDL hdm ho hnew hk2 hn3 hn4 HN c2 HU
  go_wp2_with fail
  go_loopw [28] (fun x wr => ∃ i : Nat, x = .int .i64 i ∧ i ≤ D ∧ Hid (UpAt P N w s q d cuts vs mo i wr ∧ Kp P w2 wr)) (fun x _ => D - (intOf x).toNat)
  case atStart => exact ⟨0, rfl, by omega, HU2.out, Kp.refl _ _⟩
  case round =>
    obtain ⟨i, rfl, hi, HI⟩ := hrel
    by_cases hlt : i < D
    · have hlt' : i < d.length := by rw [HDL.out]; exact hlt
      obtain ⟨g, hg, cn1⟩ := HNM.out wr HI.out.2 i hlt'
      subst hg
      obtain ⟨ui, hRi, hKi⟩ := HI.out.1
      have hsf : MapV wr (.map mo) d := by have := hRi.safe; rw [hRi.inv.2.2.1] at this; exact this
      have hfd : dfind d (d[i]).1 = some (d[i]).2 := dfind_of_mem hsf.ris.nodup (List.getElem_mem hlt')
      have hlk := hsf.lookS (sOf (d[i]).1) (by rw [sOf_size]; have := (HFN.out _ (List.getElem_mem hlt')).2; omega)
      rw [nm_sOf, hfd, show ptrV (some (d[i]).2) = .pointer (some ⟨(d[i]).2, 0, none⟩) from rfl] at hlk
      have c2 : wr.cell? ⟨s, 2, none⟩ = some (.map mo) := hRi.c 2
      obtain ⟨f, hf⟩ := Option.isSome_iff_exists.1 (hRi.inv.2.1 _ (List.getElem_mem hlt'))
      have hfl := hRi.inv.1 _ f hf
      have hfa : fileAt (loses (d.take i) 0 cuts q) (d[i]).2 = f := by simp [fileAt, hf]
      have htk : d.take (i + 1) = d.take i ++ [d[i]] := List.take_succ_eq_append_getElem hlt'
      have hst : loses (d.take (i + 1)) 0 cuts q = setF (d[i]).2 (lose (cuts.getD i 0) f) (loses (d.take i) 0 cuts q) := by
        rw [htk, loses_snoc, hfa]
        have : 0 + (d.take i).length = i := by simp; omega
        rw [this]
      have HL : Hid (Calls Tryz.prog 57 #[.pointer (some ⟨(d[i]).2, 0, none⟩), .int .i64 (cuts.getD i 0)] wr fun e w' => e = .returned (.tuple #[]) ∧ UpAt P N w s q d cuts vs mo (i + 1) w' ∧ Kp P w2 w') := by
        refine (lose_any (J := UpI N d) wr s (d[i]).2 _ vs (.map mo) _ ui f (cuts.getD i 0) hRi hf (by omega) (upI_step hRi.inv hf)).mono ?_
        rintro e w' ⟨rfl, u', r1, r2⟩
        refine ⟨rfl, ⟨u', ?_, hKi.trans r2 (fun x hx => .inl hx)⟩, HI.out.2.trans r2 (fun x hx => .inl hx)⟩
        rw [hst]
        exact r1
      generalize sOf (d[i]).1 = sn at *
      generalize (d[i]).2 = fb at *
      by_cases hc : i < cuts.length
      · obtain ⟨gc, oc, hgc, cc1⟩ := HCUT.out wr hKi i hc
        subst hgc
        clear hRi hKi hsf hfd hf hfl hfa htk hst HNM HCUT HFN HINV
        generalize cuts.getD i 0 = z at *
        go_wp2_with (go_at_call 57; refine (HL.out).mono ?_; rintro e w3 ⟨rfl, h3, h4⟩; have H3 := hid h3; have H4 := hid h4; clear h3 h4)
        go_roundw
        case rel => exact ⟨i + 1, by go_num, by omega, H3.out, H4.out⟩
        case measure => simp [intOf]; omega
      · have hz : cuts.getD i 0 = 0 := by rw [List.getD_eq_getElem?_getD, List.getElem?_eq_none (by omega)]; rfl
        rw [hz] at HL
        clear hRi hKi hsf hfd hf hfl hfa htk hst HNM HCUT HFN HINV
        go_wp2_with (go_at_call 57; refine (HL.out).mono ?_; rintro e w3 ⟨rfl, h3, h4⟩; have H3 := hid h3; have H4 := hid h4; clear h3 h4)
        go_roundw
        case rel => exact ⟨i + 1, by go_num, by omega, H3.out, H4.out⟩
        case measure => simp [intOf]; omega
    · have hiD : i = D := by omega
      subst hiD
      have htk : d.take i = d := List.take_of_length_le (by rw [HDL.out]; exact Nat.le_refl _)
      obtain ⟨ui, hRi, hKi⟩ := HI.out.1
      rw [htk] at hRi
      have hsd := hRi.inv.2.2.1
      have hRi' : Rp P (UpI N (loses d 0 cuts q).safe) wr s (loses d 0 cuts q) vs (.map mo) (.slice none 0 0) ui := by rw [hsd]; exact hRi
      have hq1 : (loses d 0 cuts q).chg = [] := (loses_same cuts d 0 q).2.2.1.trans hq0.out
      have c2 : wr.cell? ⟨s, 2, none⟩ = some (.map mo) := hRi.c 2
      have HCL : Hid (Calls Tryz.prog 23 #[.map mo] wr fun e w' => ∃ vs', e = .returned vs' ∧ ((mo = none ∧ vs' = .map none ∧ w' = wr) ∨ ∃ b, mo = some b ∧ vs' = .map (some wr.heap.size) ∧ MapAt w' wr.heap.size (loses d 0 cuts q).safe) ∧ Kp No wr w') := by
        refine (mclone_v wr (.map mo) (loses d 0 cuts q).safe hRi'.safe).mono ?_
        rintro e w' ⟨v', rfl, h1, h2⟩
        refine ⟨v', rfl, ?_, h2⟩
        rcases h1 with ⟨e1, e2, e3⟩ | ⟨b, e1, e2, e3⟩
        · have hmn : mo = none := by
            cases mo with
            | none => rfl
            | some _ => cases e1
          exact .inl ⟨hmn, e2, e3⟩
        · exact .inr ⟨b, by cases e1; rfl, e2, e3⟩
      have HE : Hid (∀ w3 vs', ((mo = none ∧ vs' = .map none ∧ w3 = wr) ∨ ∃ b, mo = some b ∧ vs' = .map (some wr.heap.size) ∧ MapAt w3 wr.heap.size (loses d 0 cuts q).safe) → Kp No wr w3 → Done P N w ((((w3.setCell ⟨s, 1, none⟩ vs').setCell ⟨s, 4, none⟩ (.bool false)).setCell ⟨s, 5, none⟩ (.bool false)).setCell ⟨s, 6, none⟩ (.int .i64 0)) s _) := fun w3 vs' h1 h2 => up_end hRi' hq1 h1 h2 hKi HINV.out
      have HCE : Hid (∀ w3, Kp No wr w3 → ∃ x1 x4 x5 x6, w3.cell? ⟨s, 1, none⟩ = some (.map x1) ∧ w3.cell? ⟨s, 4, none⟩ = some (.bool x4) ∧ w3.cell? ⟨s, 5, none⟩ = some (.bool x5) ∧ w3.cell? ⟨s, 6, none⟩ = some (.int .i64 x6) ∧ ∀ j, w3.frozen? ⟨s, j, none⟩ = false) := fun w3 kw => by
        have h3 := hRi.kp kw (fun _ h => h.elim)
        obtain ⟨ms, hms⟩ := h3.seen.shape
        exact ⟨ms, _, _, _, by rw [h3.c 1]; simp [fsCells, hms], h3.c 4, h3.c 5, h3.c 6, h3.blk.frozen⟩
      clear hRi hRi' hq1 hsd htk HI HINV HFN HNM HCUT
      go_wp2_with (go_at_call 23; refine (HCL.out).mono ?_; rintro e w3 ⟨vs', rfl, h3, h4⟩; have H3 := hid h3; have H4 := hid h4; obtain ⟨x1, x4, x5, x6, d1, d4, d5, d6, df⟩ := HCE.out w3 h4; have df1 := df 1; have df4 := df 4; have df5 := df 5; have df6 := df 6; obtain ⟨m3, hm3⟩ : ∃ m, vs' = .map m := (by rcases h3 with ⟨_, e, _⟩ | ⟨_, _, e, _⟩ <;> exact ⟨_, e⟩); subst hm3; clear h3 h4 df)
      go_ret
      exact ⟨rfl, HE.out w3 _ H3.out H4.out⟩

end Go.Proofs.YtmiipifhbliamaaGreat.Sim
