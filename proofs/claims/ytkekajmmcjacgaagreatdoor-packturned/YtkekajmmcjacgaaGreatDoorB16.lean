/- Of the proof: the texts SimUp2, PkRun, PkTurnM, PkAlive, one behind the other. -/
import Derived.Test.YtkekajmmcjacgaaGreatDoorB15
import Derived.Test.YtkekajmmcjacgaaGreatDoorB14
import Derived.Test.YtkekajmmcjacgaaGreatDoorB13
section
/-
  Up.
-/
namespace Go.Proofs.YtkekajmmcjacgaaGreatDoor.Sim
open Go.RowKit Go.Maps

/-- What holds while Up goes on. -/
def UpI (N : Nat) (d : Dir) : PS → Prop := fun p => (∀ b f, p.files b = some f → f.b.length ≤ 12000 * N) ∧ (∀ e ∈ d, (p.files e.2).isSome = true) ∧ p.safe = d ∧ N ≤ 1000

/-- Where Up stands, i names through. -/
def UpAt (P : Nat → Prop) (N : Nat) (w : World) (s : Nat) (q : PS) (d : Dir) (cuts : List Int) (vs : Value) (mo : Option Nat) (i : Nat) (wr : World) : Prop :=
  ∃ u, Rp P (UpI N d) wr s (loses (d.take i) 0 cuts q) vs (.map mo) (.slice none 0 0) u ∧ Kp P w wr

theorem upI_step {N : Nat} {d : Dir} {q : PS} {b : Nat} {f : Fl} {k : Int} (h : UpI N d q) (hf : q.files b = some f) : UpI N d (setF b (lose k f) q) := by
  refine ⟨fun x g hg => ?_, fun e he => ?_, h.2.2.1, h.2.2.2⟩
  · have hg' : (if x = b then some (lose k f) else q.files x) = some g := hg
    split at hg'
    · cases hg'
      exact Nat.le_trans (List.length_take_le' _ _) (h.1 b f hf)
    · exact h.1 x g hg'
  · show (if e.2 = b then some (lose k f) else q.files e.2).isSome = true
    split
    · rfl
    · exact h.2.1 e he

theorem map_get {l : Dir} {i : Nat} (h : i < l.length) : (l.map (·.1)).getD i [] = (l[i]).1 := by
  rw [List.getD_eq_getElem?_getD, List.getElem?_map, List.getElem?_eq_getElem h]
  rfl

/-- At the end of Up. -/
theorem up_end {P : Nat → Prop} {N : Nat} {w wr w2 : World} {s : Nat} {q : PS} {vs vs' : Value} {mo : Option Nat} {u : Nat → Value} (h : Rp P (UpI N q.safe) wr s q vs (.map mo) (.slice none 0 0) u) (hq : q.chg = [])
    (hv : (mo = none ∧ vs' = .map none ∧ w2 = wr) ∨ ∃ b, mo = some b ∧ vs' = .map (some wr.heap.size) ∧ MapAt w2 wr.heap.size q.safe) (k2 : Kp No wr w2) (hk : Kp P w wr)
    (hi : PInv N { q with seen := q.safe, down := false, armed := false, left := 0 }) :
    Done P N w ((((w2.setCell ⟨s, 1, none⟩ vs').setCell ⟨s, 4, none⟩ (.bool false)).setCell ⟨s, 5, none⟩ (.bool false)).setCell ⟨s, 6, none⟩ (.int .i64 0)) s { q with seen := q.safe, down := false, armed := false, left := 0 } := by
  have hR := h.kp k2 (fun _ h => h.elim)
  have k4 : Kp (· = s) w2 ((((w2.setCell ⟨s, 1, none⟩ vs').setCell ⟨s, 4, none⟩ (.bool false)).setCell ⟨s, 5, none⟩ (.bool false)).setCell ⟨s, 6, none⟩ (.int .i64 0)) :=
    (((Kp.set1 _ _ _ _).trans (Kp.set1 _ _ _ _) (fun x hx => .inl hx)).trans (Kp.set1 _ _ _ _) (fun x hx => .inl hx)).trans (Kp.set1 _ _ _ _) (fun x hx => .inl hx)
  have hb := (((hR.blk.setCell 1 vs').setCell 4 (.bool false)).setCell 5 (.bool false)).setCell 6 (.int .i64 0)
  generalize hw' : (((w2.setCell ⟨s, 1, none⟩ vs').setCell ⟨s, 4, none⟩ (.bool false)).setCell ⟨s, 5, none⟩ (.bool false)).setCell ⟨s, 6, none⟩ (.int .i64 0) = w' at *
  have hz : w2.heap.size = w'.heap.size := by rw [← hw']; simp
  have hsl := hR.lt s hR.ps
  refine ⟨fun x => P x ∨ (wr.heap.size = x ∧ mo ≠ none), ⟨vs', .map mo, .slice none 0 0, u, ?_⟩, ((hk.andNone k2).trans k4 (fun x hx => .inl (by subst hx; exact h.ps))), fun x hx => by
    rcases hx with hx | hx
    · exact .inl hx
    · exact .inr (by have := hk.size; omega)⟩
  have hnew : ∀ b, mo = some b → wr.heap.size < w2.heap.size := fun b e => by
    rcases hv with ⟨e1, _⟩ | ⟨b', _, _, hm⟩
    · rw [e] at e1; cases e1
    · exact hm.lt
  exact {
    lt := fun x hx => by
      rcases hx with hx | ⟨hx, hm⟩
      · have := h.lt x hx; have := k2.size; omega
      · cases mo with
        | none => exact absurd rfl hm
        | some b => have := hnew b rfl; omega
    ps := .inl h.ps
    blk := hb
    seen := by
      rcases hv with ⟨e1, e2, e3⟩ | ⟨b, e1, e2, hm⟩
      · refine .inl ⟨e2, ?_⟩
        rcases h.safe with ⟨_, h2⟩ | ⟨b, h1, _⟩
        · exact h2
        · rw [e1] at h1; cases h1
      · exact .inr ⟨_, e2, hm.kp k4 (hm.blk hR.blk)⟩
    safe := by
      rcases hR.safe with ⟨h1, h2⟩ | ⟨b, h1, h2⟩
      · exact .inl ⟨h1, h2⟩
      · exact .inr ⟨b, h1, h2.kp k4 (h2.blk hR.blk)⟩
    unmade := fun e => by
      obtain ⟨e1, e2⟩ := h.unmade e
      rcases hv with ⟨_, e3, _⟩ | ⟨b, e3, _⟩
      · exact ⟨e3, e2⟩
      · rw [e3] at e2; cases e2
    mades := fun e => by
      obtain ⟨a, b, h1, h2, h3, h4, h5⟩ := h.mades e
      rcases hv with ⟨e1, _⟩ | ⟨b', e1, e2, hm⟩
      · rw [e1] at h2; cases h2
      · have : b = b' := by rw [e1] at h2; cases h2; rfl
        refine ⟨wr.heap.size, b, e2, h2, ?_, .inr ⟨rfl, by rw [e1]; simp⟩, .inl h5⟩
        have := h.lt b h5
        omega
    chg := by show Row _ _ _ _ q.chg.length _; rw [hq]; exact Row.nil _ _ _
    pc := by simp [Value.ownBlock]
    file := fun b f hf => by
      obtain ⟨h1, h2, h3⟩ := hR.file b f hf
      exact ⟨.inl h1, h2.kp k4 (h2.blk.ne hR.blk (by decide)) (fun x hx e => h2.own.row.ne hR.blk (by decide) (by rw [hx, e])), fun x hx => .inl (h3 x hx)⟩
    sep := h.sep
    inv := hi }

set_option maxHeartbeats 4000000 in
set_option maxRecDepth 100000 in
theorem up_any {P Q : Nat → Prop} {N : Nat} (w : World) (s : Nat) (p : PS) (k : Int) (v : Value) (cuts : List Int) (h : Sys P N w s p) (hv : IntsAt Q w v cuts) (hQ : ∀ x, Q x → ¬ P x) :
    Calls Tryz.prog 47 #[.pointer (some ⟨s, 0, none⟩), .int .i64 k, v] w fun e w' => e = .returned (.int .i64 0) ∧ Done P N w w' s (pUp k cuts p) := by
  have hI := h.inv
  obtain ⟨vs, vf, vc, u, hR⟩ := h
  obtain ⟨mo, rfl⟩ := hR.safe.shape
  obtain ⟨ac, cc, hvc, _⟩ := hR.chg.shape
  obtain ⟨n, hn, hn2⟩ : ∃ n, min (max k 0).toNat p.chg.length = n ∧ n ≤ p.chg.length := ⟨_, rfl, by omega⟩
  have hnI : min (max k 0) (p.chg.length : Int) = (n : Int) := by rw [← hn]; omega
  have hbig := hI.big
  have hsl := hR.lt s hR.ps
  have hps := hR.ps
  have c3 : w.cell? ⟨s, 3, none⟩ = some (.slice ac p.chg.length cc) := by rw [← hvc]; exact hR.c 3
  have HUP : Hid (pUp k cuts p = { loses ((p.chg.take n).foldl pdo p.safe) 0 cuts (settle n p) with seen := (loses ((p.chg.take n).foldl pdo p.safe) 0 cuts (settle n p)).safe, down := false, armed := false, left := 0 }) := by
    unfold Hid pUp
    rw [hn]
    rfl
  have HINV := hid (inv_up hI hR.safe.ris k cuts)
  have hfn := fold_names hI n
  have hrs : Ris ((p.chg.take n).foldl pdo p.safe) := hR.safe.ris.fold _
  -- settle
  have HST : Hid (Calls Tryz.prog 110 #[.pointer (some ⟨s, 0, none⟩), .int .i64 (n : Int)] w fun e w' => e = .returned (.tuple #[]) ∧ UpAt P N w s (settle n p) ((p.chg.take n).foldl pdo p.safe) cuts vs mo 0 w') := by
    refine (settle_raw w s p vs vc mo u n hR hn2 hI.okc hI.nmC (by have := hI.lsafe; omega) (by have := hI.lchg; omega) hI.nmade).mono ?_
    rintro e w' ⟨rfl, W1, hm1, hk1, hw1⟩
    obtain ⟨hS, hK⟩ := rq_settle (J := UpI N ((p.chg.take n).foldl pdo p.safe)) hR hm1 hk1 hw1 ⟨hI.lfile, fun e he => (hfn e he).1, rfl, hbig⟩
    exact ⟨rfl, u, hS, hK⟩
  have hdl : Hid (((p.chg.take n).foldl pdo p.safe).length ≤ 1000) := by
    have h1 := length_fold (p.chg.take n) p.safe
    have h2 : (p.chg.take n).length ≤ p.chg.length := by simp; omega
    have := hI.lsum
    show _ ≤ _
    omega
  have hq0 : Hid ((settle n p).chg = []) := rfl
  have HFN := hid hfn
  have HRS := hid hrs
  have HV := hid hv
  have HQ := hid hQ
  obtain ⟨av, cv, rfl, hv1, hv2, hv3, _⟩ := hv
  rw [HUP.out] at HINV ⊢
  generalize hd : (p.chg.take n).foldl pdo p.safe = d at *
  generalize settle n p = q at *
  clear hn hfn hrs hd hI hR hvc HUP hQ
  generalize p.chg.length = M at *
  go_enter Tryz.func47, Tryz.ntmps47
  go_wp2_with fail
  refine (HST.out).mono ?_
  rintro e w1 ⟨rfl, hU⟩
  have HU := hid hU
  obtain ⟨u1, hR1, hK1⟩ := hU
  have c2 : w1.cell? ⟨s, 2, none⟩ = some (.map mo) := hR1.c 2
  have hsafe1 : MapV w1 (.map mo) d := by have := hR1.safe; rw [hR1.inv.2.2.1] at this; exact this
  have HN := hid (names_any w1 (.map mo) d hsafe1 (by have := hdl.out; omega))
  have hsz1 := hK1.size
  clear hR1 hK1 hsafe1 HST
  go_wp2_with fail
  refine (HN.out).mono ?_
  rintro e w2 ⟨un, rfl, ho, hnew, hk2⟩
  have HO := hid ho
  have HNEW := hid hnew
  have HU2 : Hid (UpAt P N w s q d cuts vs mo 0 w2) := by
    obtain ⟨u1, hR1, hK1⟩ := HU.out
    exact ⟨u1, hR1.kp hk2 (fun _ h => h.elim), hK1.andNone hk2⟩
  obtain ⟨an, cn, hun, hn1, hn2', hn3, hn4⟩ := ho.shape
  subst hun
  have hsz2 := hk2.size
  -- the names stay
  have HNM : Hid (∀ wr, Kp P w2 wr → ∀ i, (hi : i < d.length) → ∃ g, an = some ⟨g, 0, none⟩ ∧ wr.cell? ⟨g, i, none⟩ = some (.string (sOf (d[i]).1))) := fun wr kw i hi => by
    obtain ⟨g, hg⟩ : ∃ g, an = some ⟨g, 0, none⟩ := by
      rcases HO.out.2 with ⟨e1, e2⟩ | ⟨g, cap', cur, e1, _⟩
      · simp at e2; subst e2; simp at hi
      · cases e1; exact ⟨g, rfl⟩
    refine ⟨g, hg, ?_⟩
    subst hg
    have hgP : ¬ P g := fun hp => by
      obtain ⟨u1, hR1, hK1⟩ := HU.out
      have h1 := hR1.lt g hp
      have h2 := HNEW.out g rfl
      omega
    have h3 := HO.out.kp kw (fun x hx => by cases hx; exact hgP)
    have hr3 : Row wr 9 1 (.slice (some ⟨g, 0, none⟩) (d.map (·.1)).length cn) (d.map (·.1)).length ((d.map (·.1)).map encStr) := h3
    rw [hr3.cellAt i (by simp; exact hi)]
    simp [hi]
    rfl
  have HCUT : Hid (∀ wr, Kp P w wr → ∀ i, i < cuts.length → ∃ g o, av = some ⟨g, o, none⟩ ∧ wr.cell? ⟨g, o + i, none⟩ = some (.int .i64 (cuts.getD i 0))) := fun wr kw i hi => by
    obtain ⟨a', cap', e1, _, _, _, h5⟩ := HV.out
    cases e1
    obtain ⟨g, o, e, hq, hg, hc⟩ := h5 (by intro e; subst e; simp at hi)
    exact ⟨g, o, e, (kw.cell (p := ⟨g, o + i, none⟩) hg (fun hp => HQ.out g hq hp)).trans (hc i hi)⟩
  have hdm : (d.map (·.1)).length = d.length := by simp
  rw [hdm] at hn1 ⊢
  have hD := hdl.out
  obtain ⟨D, hDL⟩ : ∃ D, d.length = D := ⟨_, rfl⟩
  rw [hDL] at hn1 hD ⊢
  have HDL := hid hDL
  clear hDL hdm ho hnew hk2 hn3 hn4 HN c2 HU
  go_wp2_with fail
  go_loopw [28] (fun x wr => ∃ i : Nat, x = .int .i64 i ∧ i ≤ D ∧ Hid (UpAt P N w s q d cuts vs mo i wr ∧ Kp P w2 wr)) (fun x _ => D - (intOf x).toNat)
  case atStart => exact ⟨0, rfl, by omega, HU2.out, Kp.refl _ _⟩
  case round =>
    obtain ⟨i, rfl, hi, HI⟩ := hrel
    by_cases hlt : i < D
    · have hlt' : i < d.length := by rw [HDL.out]; exact hlt
      obtain ⟨g, hg, cn1⟩ := HNM.out wr HI.out.2 i hlt'
      subst hg
      obtain ⟨ui, hRi, hKi⟩ := HI.out.1
      have hsf : MapV wr (.map mo) d := by have := hRi.safe; rw [hRi.inv.2.2.1] at this; exact this
      have hfd : dfind d (d[i]).1 = some (d[i]).2 := dfind_of_mem hsf.ris.nodup (List.getElem_mem hlt')
      have hlk := hsf.lookS (sOf (d[i]).1) (by rw [sOf_size]; have := (HFN.out _ (List.getElem_mem hlt')).2; omega)
      rw [nm_sOf, hfd, show ptrV (some (d[i]).2) = .pointer (some ⟨(d[i]).2, 0, none⟩) from rfl] at hlk
      have c2 : wr.cell? ⟨s, 2, none⟩ = some (.map mo) := hRi.c 2
      obtain ⟨f, hf⟩ := Option.isSome_iff_exists.1 (hRi.inv.2.1 _ (List.getElem_mem hlt'))
      have hfl := hRi.inv.1 _ f hf
      have hfa : fileAt (loses (d.take i) 0 cuts q) (d[i]).2 = f := by simp [fileAt, hf]
      have htk : d.take (i + 1) = d.take i ++ [d[i]] := List.take_succ_eq_append_getElem hlt'
      have hst : loses (d.take (i + 1)) 0 cuts q = setF (d[i]).2 (lose (cuts.getD i 0) f) (loses (d.take i) 0 cuts q) := by
        rw [htk, loses_snoc, hfa]
        have : 0 + (d.take i).length = i := by simp; omega
        rw [this]
      have HL : Hid (Calls Tryz.prog 112 #[.pointer (some ⟨(d[i]).2, 0, none⟩), .int .i64 (cuts.getD i 0)] wr fun e w' => e = .returned (.tuple #[]) ∧ UpAt P N w s q d cuts vs mo (i + 1) w' ∧ Kp P w2 w') := by
        refine (lose_any (J := UpI N d) wr s (d[i]).2 _ vs (.map mo) _ ui f (cuts.getD i 0) hRi hf (by omega) (upI_step hRi.inv hf)).mono ?_
        rintro e w' ⟨rfl, u', r1, r2⟩
        refine ⟨rfl, ⟨u', ?_, hKi.trans r2 (fun x hx => .inl hx)⟩, HI.out.2.trans r2 (fun x hx => .inl hx)⟩
        rw [hst]
        exact r1
      generalize sOf (d[i]).1 = sn at *
      generalize (d[i]).2 = fb at *
      by_cases hc : i < cuts.length
      · obtain ⟨gc, oc, hgc, cc1⟩ := HCUT.out wr hKi i hc
        subst hgc
        clear hRi hKi hsf hfd hf hfl hfa htk hst HNM HCUT HFN HINV
        generalize cuts.getD i 0 = z at *
        go_wp2_with (go_at_call 112; refine (HL.out).mono ?_; rintro e w3 ⟨rfl, h3, h4⟩; have H3 := hid h3; have H4 := hid h4; clear h3 h4)
        go_roundw
        case rel => exact ⟨i + 1, by go_num, by omega, H3.out, H4.out⟩
        case measure => simp [intOf]; omega
      · have hz : cuts.getD i 0 = 0 := by rw [List.getD_eq_getElem?_getD, List.getElem?_eq_none (by omega)]; rfl
        rw [hz] at HL
        clear hRi hKi hsf hfd hf hfl hfa htk hst HNM HCUT HFN HINV
        go_wp2_with (go_at_call 112; refine (HL.out).mono ?_; rintro e w3 ⟨rfl, h3, h4⟩; have H3 := hid h3; have H4 := hid h4; clear h3 h4)
        go_roundw
        case rel => exact ⟨i + 1, by go_num, by omega, H3.out, H4.out⟩
        case measure => simp [intOf]; omega
    · have hiD : i = D := by omega
      subst hiD
      have htk : d.take i = d := List.take_of_length_le (by rw [HDL.out]; exact Nat.le_refl _)
      obtain ⟨ui, hRi, hKi⟩ := HI.out.1
      rw [htk] at hRi
      have hsd := hRi.inv.2.2.1
      have hRi' : Rp P (UpI N (loses d 0 cuts q).safe) wr s (loses d 0 cuts q) vs (.map mo) (.slice none 0 0) ui := by rw [hsd]; exact hRi
      have hq1 : (loses d 0 cuts q).chg = [] := (loses_same cuts d 0 q).2.2.1.trans hq0.out
      have c2 : wr.cell? ⟨s, 2, none⟩ = some (.map mo) := hRi.c 2
      have HCL : Hid (Calls Tryz.prog 113 #[.map mo] wr fun e w' => ∃ vs', e = .returned vs' ∧ ((mo = none ∧ vs' = .map none ∧ w' = wr) ∨ ∃ b, mo = some b ∧ vs' = .map (some wr.heap.size) ∧ MapAt w' wr.heap.size (loses d 0 cuts q).safe) ∧ Kp No wr w') := by
        refine (mclone_v wr (.map mo) (loses d 0 cuts q).safe hRi'.safe).mono ?_
        rintro e w' ⟨v', rfl, h1, h2⟩
        refine ⟨v', rfl, ?_, h2⟩
        rcases h1 with ⟨e1, e2, e3⟩ | ⟨b, e1, e2, e3⟩
        · have hmn : mo = none := by
            cases mo with
            | none => rfl
            | some _ => cases e1
          exact .inl ⟨hmn, e2, e3⟩
        · exact .inr ⟨b, by cases e1; rfl, e2, e3⟩
      have HE : Hid (∀ w3 vs', ((mo = none ∧ vs' = .map none ∧ w3 = wr) ∨ ∃ b, mo = some b ∧ vs' = .map (some wr.heap.size) ∧ MapAt w3 wr.heap.size (loses d 0 cuts q).safe) → Kp No wr w3 → Done P N w ((((w3.setCell ⟨s, 1, none⟩ vs').setCell ⟨s, 4, none⟩ (.bool false)).setCell ⟨s, 5, none⟩ (.bool false)).setCell ⟨s, 6, none⟩ (.int .i64 0)) s _) := fun w3 vs' h1 h2 => up_end hRi' hq1 h1 h2 hKi HINV.out
      have HCE : Hid (∀ w3, Kp No wr w3 → ∃ x1 x4 x5 x6, w3.cell? ⟨s, 1, none⟩ = some (.map x1) ∧ w3.cell? ⟨s, 4, none⟩ = some (.bool x4) ∧ w3.cell? ⟨s, 5, none⟩ = some (.bool x5) ∧ w3.cell? ⟨s, 6, none⟩ = some (.int .i64 x6) ∧ ∀ j, w3.frozen? ⟨s, j, none⟩ = false) := fun w3 kw => by
        have h3 := hRi.kp kw (fun _ h => h.elim)
        obtain ⟨ms, hms⟩ := h3.seen.shape
        exact ⟨ms, _, _, _, by rw [h3.c 1]; simp [fsCells, hms], h3.c 4, h3.c 5, h3.c 6, h3.blk.frozen⟩
      clear hRi hRi' hq1 hsd htk HI HINV HFN HNM HCUT
      go_wp2_with (go_at_call 113; refine (HCL.out).mono ?_; rintro e w3 ⟨vs', rfl, h3, h4⟩; have H3 := hid h3; have H4 := hid h4; obtain ⟨x1, x4, x5, x6, d1, d4, d5, d6, df⟩ := HCE.out w3 h4; have df1 := df 1; have df4 := df 4; have df5 := df 5; have df6 := df 6; obtain ⟨m3, hm3⟩ : ∃ m, vs' = .map m := (by rcases h3 with ⟨_, e, _⟩ | ⟨_, _, e, _⟩ <;> exact ⟨_, e⟩); subst hm3; clear h3 h4 df)
      go_ret
      exact ⟨rfl, HE.out w3 _ H3.out H4.out⟩

end Go.Proofs.YtkekajmmcjacgaaGreatDoor.Sim
end

section
/-
  A pack that is written, record by record, on a disk that may go down; the writer's other calls.
-/
namespace Go.Proofs.YtkekajmmcjacgaaGreatDoor
open Go.RowKit Go.Shelf
open Tlv (BySlS Agree)
open Sim (hid Kp No PS Done Blk nm finds pBytes pRemove OwnB Beg)

theorem sizeW_any (w : World) (g s b : Nat) (i sz ct : Int) (cl : Bool) (h : WrAt w g s b i sz ct cl) : Calls Tryz.prog 43 #[.pointer (some ⟨g, 0, none⟩)] w fun e w' => e = .returned (.int .i64 sz) ∧ w' = w := by
  have c3 : w.cell? ⟨g, 3, none⟩ = some (.int .i64 sz) := h.cell 3
  clear h
  go_enter Tryz.func43, Tryz.ntmps43
  go_wp2
  go_ret
  exact ⟨rfl, rfl⟩
theorem sealW_early (w : World) (g s b : Nat) (i sz : Int) (h : WrAt w g s b i sz 0 false) : Calls Tryz.prog 19 #[.pointer (some ⟨g, 0, none⟩)] w fun e w' => e = .returned (.int .i64 16) ∧ w' = w := by
  have c4 : w.cell? ⟨g, 4, none⟩ = some (.int .i64 0) := h.cell 4
  have HW := hid (wrongW_any w g s b i sz 0 false h)
  clear h
  go_enter Tryz.func19, Tryz.ntmps19
  go_wp2_with (go_at_call 73; refine HW.out.mono ?_; rintro e w1 ⟨rfl, h⟩; subst w1)
  go_ret
  exact ⟨rfl, rfl⟩
theorem sealW_closed (w : World) (g s b : Nat) (i sz ct : Int) (h : WrAt w g s b i sz ct true) : Calls Tryz.prog 19 #[.pointer (some ⟨g, 0, none⟩)] w fun e w' => e = .returned (.int .i64 13) ∧ w' = w := by
  have HW := hid (wrongW_any w g s b i sz ct true h)
  clear h
  go_enter Tryz.func19, Tryz.ntmps19
  go_wp2_with (go_at_call 73; refine HW.out.mono ?_; rintro e w1 ⟨rfl, h⟩; subst w1)
  go_ret
  exact ⟨rfl, rfl⟩
set_option maxHeartbeats 1000000 in
theorem abortW_any {P : Nat → Prop} {N : Nat} (w : World) (g s b i : Nat) (sz ct : Int) (p : PS) (hi1 : 1 ≤ i) (hi2 : i < 100) (hW : WrAt w g s b i sz ct false) (h : Sim.Sys P N w s p) (hN : N + 1 ≤ 1000) (hg : ¬ P g) :
    Calls Tryz.prog 21 #[.pointer (some ⟨g, 0, none⟩)] w fun e w' => e = .returned (.int .i64 ((pRemove (nm (nameT i)) p).1 : Nat)) ∧ WrAt w' g s b i sz ct true ∧ ∃ P', Sim.Sys P' (N + 1) w' s (pRemove (nm (nameT i)) p).2 ∧ Kp (fun x => P x ∨ x = g) w w' ∧ ∀ x, P' x → P x ∨ w.heap.size ≤ x := by
  have HW := hid (wrongW_any w g s b i sz ct false hW)
  have f5 : w.frozen? ⟨g, 5, none⟩ = false := hW.frozen 5
  have k5 : w.cell? ⟨g, 5, none⟩ = some (.bool false) := hW.cell 5
  have k0 : w.cell? ⟨g, 0, none⟩ = some (.pointer (some ⟨s, 0, none⟩)) := hW.cell 0
  have k2 : w.cell? ⟨g, 2, none⟩ = some (.int .i64 (i : Int)) := hW.cell 2
  have hKg : Kp (fun x => x = g) w (w.setCell ⟨g, 5, none⟩ (.bool true)) := Kp.setCell (p := ⟨g, 5, none⟩) (Kp.refl (fun x => x = g) w) (.inl rfl) _
  have hW2 : WrAt (w.setCell ⟨g, 5, none⟩ (.bool true)) g s b i sz ct true := Blk.setCell hW 5 (.bool true)
  have hS2 : Sim.Sys P N (w.setCell ⟨g, 5, none⟩ (.bool true)) s p := h.kp hKg (fun x hx => by rw [hx]; exact hg)
  have hz2 : (w.setCell ⟨g, 5, none⟩ (.bool true)).heap.size = w.heap.size := by simp
  have HTM := hid (fun V => ptemp_small i hi1 hi2 V)
  have HRM := hid (Sim.remove_any (w.setCell ⟨g, 5, none⟩ (.bool true)).drew s p (nameT i) (name_le _ (by decide) i hi2) (hS2.kept ((Kp.refl _ _).drew)) hN)
  have HZ := hid (And.intro hKg (And.intro hW2 hz2))
  have c0 : (w.setCell ⟨g, 5, none⟩ (.bool true)).cell? ⟨g, 0, none⟩ = some (.pointer (some ⟨s, 0, none⟩)) := hW2.cell 0
  have c2 : (w.setCell ⟨g, 5, none⟩ (.bool true)).cell? ⟨g, 2, none⟩ = some (.int .i64 (i : Int)) := hW2.cell 2
  have hgW : g < (w.setCell ⟨g, 5, none⟩ (.bool true)).heap.size := by rw [hz2]; exact hW.lt
  obtain ⟨A, hA⟩ : ∃ A, pRemove (nm (nameT i)) p = A := ⟨_, rfl⟩
  rw [hA] at HRM ⊢
  have HHG := hid hg
  clear hA hKg hW2 hS2 hz2 h hW
  go_enter Tryz.func21, Tryz.ntmps21
  go_wp2_with (go_at_call 73; refine HW.out.mono ?_; rintro e w1 ⟨rfl, h⟩; subst w1)
  generalize hWW : w.setCell ⟨g, 5, none⟩ (.bool true) = W at *
  refine wp_region_held_drew (S := fun V => ∀ o, V.cell? ⟨g, o, none⟩ = W.cell? ⟨g, o, none⟩) (by kernel_rfl) (fun _ => rfl) (fun hHeld => ?_)
  refine wpAnyH_take (i := 0) (oi := { dst := some 12, op := Op.move (Operand.tmp 0), type := 34, pos := "writer.go:97", after := #[], guard := none }) (v := .pointer (some ⟨g, 0, none⟩)) rfl (by kernel_rfl) (by kernel_rfl) (by kernel_rfl) (fun _ _ _ h => h) (Or.inl ⟨by rfl, fun w' hw' => by (clear hw'; go_simp)⟩) hHeld ?_
  simp only [Act.put, List.setIfInBounds_toArray, List.set_cons_zero, List.set_cons_succ]
  refine wpAnyH_take (i := 1) (oi := { dst := some 13, op := Op.nilCheck (Operand.tmp 12), type := 0, pos := "writer.go:97", after := #[{ on := 0, ground := Ground.data }], guard := none }) (v := .pointer (some ⟨g, 0, none⟩)) rfl (by kernel_rfl) (by kernel_rfl) (by kernel_rfl) (fun _ _ _ h => h) (Or.inl ⟨by rfl, fun w' hw' => by (clear hw'; go_simp)⟩) hHeld ?_
  simp only [Act.put, List.setIfInBounds_toArray, List.set_cons_zero, List.set_cons_succ]
  refine wpAnyH_take (i := 2) (oi := { dst := some 14, op := Op.fieldAddr 157 (Operand.tmp 13) 0, type := 0, pos := "writer.go:97", after := #[{ on := 1, ground := Ground.data }], guard := none }) (v := .pointer (some ⟨g, 0, none⟩)) rfl (by kernel_rfl) (by kernel_rfl) (by kernel_rfl) (fun _ _ _ h => h) (Or.inl ⟨by rfl, fun w' hw' => by (clear hw'; go_simp)⟩) hHeld ?_
  simp only [Act.put, List.setIfInBounds_toArray, List.set_cons_zero, List.set_cons_succ]
  refine wpAnyH_take (i := 3) (oi := { dst := some 15, op := Op.load 25 (Operand.tmp 14), type := 25, pos := "writer.go:97", after := #[{ on := 2, ground := Ground.data }], guard := none }) (v := .pointer (some ⟨s, 0, none⟩)) rfl (by kernel_rfl) (by kernel_rfl) (by kernel_rfl) (fun _ _ _ h => h) (Or.inl ⟨by rfl, fun w' hw' => by (have q := (hw' 0).trans c0; clear hw'; go_simp)⟩) hHeld ?_
  simp only [Act.put, List.setIfInBounds_toArray, List.set_cons_zero, List.set_cons_succ]
  refine wpAnyH_take (i := 4) (oi := { dst := some 16, op := Op.move (Operand.tmp 0), type := 34, pos := "writer.go:97", after := #[], guard := none }) (v := .pointer (some ⟨g, 0, none⟩)) rfl (by kernel_rfl) (by kernel_rfl) (by kernel_rfl) (fun _ _ _ h => h) (Or.inl ⟨by rfl, fun w' hw' => by (clear hw'; go_simp)⟩) hHeld ?_
  simp only [Act.put, List.setIfInBounds_toArray, List.set_cons_zero, List.set_cons_succ]
  refine wpAnyH_take (i := 5) (oi := { dst := some 17, op := Op.nilCheck (Operand.tmp 16), type := 0, pos := "writer.go:97", after := #[{ on := 4, ground := Ground.data }], guard := none }) (v := .pointer (some ⟨g, 0, none⟩)) rfl (by kernel_rfl) (by kernel_rfl) (by kernel_rfl) (fun _ _ _ h => h) (Or.inl ⟨by rfl, fun w' hw' => by (clear hw'; go_simp)⟩) hHeld ?_
  simp only [Act.put, List.setIfInBounds_toArray, List.set_cons_zero, List.set_cons_succ]
  refine wpAnyH_take (i := 6) (oi := { dst := some 18, op := Op.fieldAddr 157 (Operand.tmp 17) 2, type := 0, pos := "writer.go:97", after := #[{ on := 5, ground := Ground.data }], guard := none }) (v := .pointer (some ⟨g, 2, none⟩)) rfl (by kernel_rfl) (by kernel_rfl) (by kernel_rfl) (fun _ _ _ h => h) (Or.inl ⟨by rfl, fun w' hw' => by (clear hw'; go_simp)⟩) hHeld ?_
  simp only [Act.put, List.setIfInBounds_toArray, List.set_cons_zero, List.set_cons_succ]
  refine wpAnyH_take (i := 7) (oi := { dst := some 19, op := Op.load 3 (Operand.tmp 18), type := 3, pos := "writer.go:97", after := #[{ on := 6, ground := Ground.data }], guard := none }) (v := .int .i64 (i : Int)) rfl (by kernel_rfl) (by kernel_rfl) (by kernel_rfl) (fun _ _ _ h => h) (Or.inl ⟨by rfl, fun w' hw' => by (have q := (hw' 2).trans c2; clear hw'; go_simp)⟩) hHeld ?_
  simp only [Act.put, List.setIfInBounds_toArray, List.set_cons_zero, List.set_cons_succ]
  refine wpAnyH_ready (rs := [8]) (by kernel_rfl) (by simp) ?_
  refine AllReadyH.cons (o := { dst := some 20, op := Op.call { callee := Callee.value (Operand.func 67), args := #[Operand.tmp 19], argTypes := #[3] }, type := 9, pos := "writer.go:97", after := #[{ on := 7, ground := Ground.data }], guard := none }) rfl (fun K hK => ?_) AllReadyH.nil
  go_simp
  refine (HTM.out _).mono ?_
  rintro e u1 ⟨rfl, hu1⟩
  subst u1
  go_wp2_with fail
  refine hK.out _ _ (fun _ => rfl) (fun hh => ?_)
  clear hK K hHeld
  have hHeld := hh
  clear hh
  try simp only [Act.put, List.setIfInBounds_toArray, List.set_cons_zero, List.set_cons_succ]
  refine wpAnyH_ready (rs := [9]) (by kernel_rfl) (by simp) ?_
  refine AllReadyH.cons (o := { dst := some 21, op := Op.call { callee := Callee.value (Operand.func 82), args := #[Operand.tmp 15, Operand.tmp 20], argTypes := #[25, 9] }, type := 26, pos := "writer.go:97", after := #[{ on := 3, ground := Ground.data }, { on := 8, ground := Ground.data }, { on := 8, ground := Ground.chain }], guard := none }) rfl (fun K hK => ?_) AllReadyH.nil
  go_simp
  refine HRM.out.mono ?_
  rintro e w4 ⟨rfl, hD⟩
  have HD := hid hD
  have HC4 : Hid (∀ o, w4.cell? ⟨g, o, none⟩ = W.cell? ⟨g, o, none⟩) := fun o => by obtain ⟨P', _, hk, _⟩ := hD; exact hk.cell (p := ⟨g, o, none⟩) hgW HHG.out
  clear hD
  go_wp2_with fail
  refine hK.out _ _ (HC4.out) (fun hh => ?_)
  clear hK K hHeld
  have hHeld := hh
  clear hh
  try simp only [Act.put, List.setIfInBounds_toArray, List.set_cons_zero, List.set_cons_succ]
  refine wpAnyH_take (i := 10) (oi := { dst := some 2, op := Op.assign (Operand.tmp 21), type := 26, pos := "writer.go:97", after := #[{ on := 9, ground := Ground.data }, { on := 9, ground := Ground.chain }, { on := 0, ground := Ground.phase }, { on := 1, ground := Ground.phase }, { on := 2, ground := Ground.phase }, { on := 3, ground := Ground.phase }, { on := 4, ground := Ground.phase }, { on := 5, ground := Ground.phase }, { on := 6, ground := Ground.phase }, { on := 7, ground := Ground.phase }, { on := 8, ground := Ground.phase }, { on := 9, ground := Ground.phase }], guard := none }) (v := .int .i64 (A.1 : Int)) rfl (by kernel_rfl) (by kernel_rfl) (by kernel_rfl) (fun _ _ _ h => h) (Or.inl ⟨by rfl, fun w' hw' => by (clear hw'; go_simp)⟩) hHeld ?_
  simp only [Act.put, List.setIfInBounds_toArray, List.set_cons_zero, List.set_cons_succ]
  refine wpAnyH_done (by kernel_rfl) ?_ _
  go_wp2_with fail
  go_ret
  obtain ⟨P', h1, h2, h3⟩ := HD.out
  obtain ⟨hKg, hW2, hz2⟩ := HZ.out
  refine ⟨rfl, (hW2.kp (L := No) ((Kp.refl _ _).drew) (fun h => h)).kp h2 hg, P', h1, ?_, fun x hx => ?_⟩
  · exact ((hKg.mono (M := fun x => P x ∨ x = g) (fun x hx => .inl (.inr hx))).drew).trans h2 (fun x hx => .inl (.inl hx))
  · rcases h3 x hx with e | e
    · exact .inl e
    · right
      have e2 : W.drew.heap.size = W.heap.size := rfl
      omega

def goodB (y : El) : Bool := rightB y.1.1 y.1.2.2.length
theorem good_right {y : El} (h : goodB y = true) (ho : elOk y) (hb : ∀ x ∈ y.1.2.2, 0 ≤ x ∧ x ≤ 255) : Rt y.1 := by
  simp [goodB, rightB] at h
  exact ⟨by omega, by omega, by omega, ho.1, ho.2, hb⟩
theorem n3T : Sim.nameB (nm (nameT 3)) = true := by
  have e : nameT 3 = ⟨#[116, 109, 112, 46, 51]⟩ := by decide +kernel
  rw [e]; decide
theorem n3P : Sim.nameB (nm (nameP 3)) = true := by
  have e : nameP 3 = ⟨#[112, 97, 99, 107, 46, 51]⟩ := by decide +kernel
  rw [e]; decide

/-- A pack that is being written: its records, on a disk that may be down; blocks of K are none of its. -/
structure PR (s b g x : Nat) (ar : Bool) (N : Nat) (K : Nat → Prop) (w wr : World) (rs : List Rec) : Prop where
  rt : ∀ r ∈ rs, Rt r
  size : (cat rs).length ≤ 12000
  wrt : WrAt wr g s b 3 ((cat rs).length : Nat) (rs.length : Nat) false
  tab : TabX wr b
  sys : ∃ P p d, Sim.Sys P N wr s p ∧ Beg (nm (nameT 3)) 99000 x ar d (nats (cat rs)) p ∧ ¬ P b ∧ ¬ P g ∧ (∀ y, P y → w.heap.size ≤ y) ∧ ∀ q, K q → ¬ P q
  keep : ∀ q, K q → q ≠ b ∧ q ≠ g ∧ q < wr.heap.size
  below : Below w.heap.size w wr
  gb : g ≠ b
  gB : w.heap.size ≤ g
  bB : w.heap.size ≤ b

section
variable {s b g x N : Nat} {ar : Bool} {K K' : Nat → Prop} {w wr V : World} {rs : List Rec}
theorem PR.kp {L : Nat → Prop} (h : PR s b g x ar N K w wr rs) (k : Kp L wr V) (hL : ∀ y, L y → K y ∧ w.heap.size ≤ y) : PR s b g x ar N K w V rs := by
  obtain ⟨P, p, d, h1, h2, h3, h4, h5, h6⟩ := h.sys
  have ng : ¬ L g := fun e => (h.keep g (hL g e).1).2.1 rfl
  have nb : ¬ L b := fun e => (h.keep b (hL b e).1).1 rfl
  exact ⟨h.rt, h.size, h.wrt.kp k ng, h.tab.kp k nb, ⟨P, p, d, h1.kp k (fun y hy => h6 y (hL y hy).1), h2, h3, h4, h5, h6⟩, fun q hq => ⟨(h.keep q hq).1, (h.keep q hq).2.1, Nat.lt_of_lt_of_le (h.keep q hq).2.2 k.size⟩,
    Kp.under h.below k (fun y hy => (hL y hy).2) h.below.size, h.gb, h.gB, h.bB⟩
theorem PR.on (h : PR s b g x ar N K w wr rs) (k : Below wr.heap.size wr V) : PR s b g x ar N K w V rs := h.kp (L := No) (Kp.below k) (fun _ hy => hy.elim)
/-- Other blocks are to be kept: those of before, or new ones. -/
theorem PR.re (h : PR s b g x ar N K w wr rs) (hK : ∀ q, K' q → (K q ∧ q < wr.heap.size) ∨ (∀ P p, Sim.Sys P N wr s p → ¬ P q) ∧ q ≠ b ∧ q ≠ g ∧ q < wr.heap.size) : PR s b g x ar N K' w wr rs := by
  obtain ⟨P, p, d, h1, h2, h3, h4, h5, h6⟩ := h.sys
  refine ⟨h.rt, h.size, h.wrt, h.tab, ⟨P, p, d, h1, h2, h3, h4, h5, fun q hq => ?_⟩, fun q hq => ?_, h.below, h.gb, h.gB, h.bB⟩
  · rcases hK q hq with e | e
    · exact h6 q e.1
    · exact e.1 P p h1
  · rcases hK q hq with e | e
    · exact h.keep q e.1
    · exact e.2
/-- A row of the caller's grows: its block stays, or is new. -/
theorem PR.grown {v v' : Value} (h : PR s b g x ar N (fun q => v.ownBlock = some q) w wr rs) (hg : wr.grownBy V v.ownBlock) (hv : v'.ownBlock = v.ownBlock ∨ v'.ownBlock = some wr.heap.size) (hs : ∀ q, v'.ownBlock = some q → q < V.heap.size) (hB : ∀ q, v.ownBlock = some q → w.heap.size ≤ q) :
    PR s b g x ar N (fun q => v'.ownBlock = some q) w V rs := by
  have hk : Kp (fun q => v.ownBlock = some q) wr V := Kp.ofGrown hg
  obtain ⟨P, p, d, h1, h2, h3, h4, h5, h6⟩ := h.sys
  have hw := h.wrt.lt
  have ht := h.tab.lt
  have h' := h.kp hk (fun y hy => ⟨hy, hB y hy⟩)
  refine ⟨h'.rt, h'.size, h'.wrt, h'.tab, ⟨P, p, d, h1.kp hk (fun y hy => h6 y hy), h2, h3, h4, h5, fun q hq => ?_⟩, fun q hq => ?_, h'.below, h.gb, h.gB, h.bB⟩
  · rcases hv with e | e
    · exact h6 q (by rw [← e]; exact hq)
    · intro hp
      have := h1.lt q hp
      have hq' : v'.ownBlock = some q := hq
      rw [e] at hq'
      have := Option.some.inj hq'
      omega
  · rcases hv with e | e
    · exact h'.keep q (by show v.ownBlock = some q; rw [← e]; exact hq)
    · have hq' : v'.ownBlock = some q := hq
      have hq2 := hq'
      rw [e] at hq2
      have e2 := Option.some.inj hq2
      exact ⟨by omega, by omega, hs q hq'⟩

theorem PR.add (h : PR s b g x ar N K w wr rs) (hN : N + 1 ≤ 1000) (hn : rs.length ≤ 1000) (y : El) (hy : elOk y) (hb : Tlv.BySl 0 w.heap.size w (elV y) y.1.2.2) (hV : Below wr.heap.size wr V) :
    Calls Tryz.prog 16 #[.pointer (some ⟨g, 0, none⟩), .agg (elC y).toArray] V fun e w' =>
      ((∃ f : Int, f ≠ 0 ∧ e = .returned (.tuple #[.int .i64 0, .int .i64 f]) ∧ PR s b g x ar (N + 1) K w w' rs) ∨
       (goodB y = true ∧ e = .returned (.tuple #[.int .i64 ((cat rs).length : Nat), .int .i64 0]) ∧ PR s b g x ar (N + 1) K w w' (rs ++ [y.1]))) ∧ Kp (fun q => ¬ K q) wr w' := by
  have h' := h.on hV
  obtain ⟨P, p, d, h1, h2, h3, h4, h5, h6⟩ := h'.sys
  have hbb : ∀ z ∈ y.1.2.2, 0 ≤ z ∧ z ≤ 255 := by obtain ⟨_, _, _, _, _, _, _, h, _⟩ := hb; exact h
  have hpx : (putX y.1.1 y.1.2.1 y.1.2.2).length ≤ 12000 := by
    unfold putX
    cases hr : rightB y.1.1 y.1.2.2.length with
    | false => simp
    | true =>
      have hR := good_right (y := y) hr hy hbb
      have e := frameR_length hR
      have := hR.2.2.1
      simp only [if_true]
      omega
  have hadd := addW_any (P := P) (N := N) V g s b 3 (cat rs).length rs.length p y.1.1 y.1.2.1 y.1.2.2 (elV y) (by omega) (by omega) h'.wrt h1 hN h'.tab h3 h4 h.gb
    (hb.agree (Agree.below h'.below) (Nat.le_refl _) h'.below.size) hy.1 hy.2 hpx h.size (by omega)
  refine hadd.mono ?_
  rintro e w' ⟨rfl, hW, hT, P', hS, hK, hP'⟩
  have hKV : Kp (fun q => ¬ K q) wr w' := (Kp.below hV).trans hK (fun z hz => by
    left
    intro hk
    rcases hz with hz | hz | hz
    · exact h6 z hk hz
    · exact (h.keep z hk).1 hz
    · exact (h.keep z hk).2.1 hz)
  have hbel : Below w.heap.size w w' := Kp.under h'.below hK (fun z hz => by
    rcases hz with hz | hz | hz
    · exact h5 z hz
    · rw [hz]; exact h.bB
    · rw [hz]; exact h.gB) h'.below.size
  have hng : ¬ P' g := fun e => by
    rcases hP' g e with e | e
    · exact h4 e
    · have := h'.wrt.lt; omega
  have hnb : ¬ P' b := fun e => by
    rcases hP' b e with e | e
    · exact h3 e
    · have := h'.tab.lt; omega
  have hlow : ∀ z, P' z → w.heap.size ≤ z := fun z hz => by
    rcases hP' z hz with e | e
    · exact h5 z e
    · have := h'.below.size; omega
  have hkk : ∀ q, K q → ¬ P' q := fun q hq e => by
    rcases hP' q e with e | e
    · exact h6 q hq e
    · have := (h'.keep q hq).2.2; omega
  have hkp : ∀ q, K q → q ≠ b ∧ q ≠ g ∧ q < w'.heap.size := fun q hq => ⟨(h.keep q hq).1, (h.keep q hq).2.1, Nat.lt_of_lt_of_le (h'.keep q hq).2.2 hK.size⟩
  rcases beg_add h2 n3T (cat rs).length rs.length (putX y.1.1 y.1.2.1 y.1.2.2) (rightB y.1.1 y.1.2.2.length) (nats_length _) (by omega) with ⟨f, d', q, hf, he, hq⟩ | ⟨hR, hl, q, he, hq⟩
  · rw [he] at hW hS ⊢
    exact ⟨.inl ⟨f, hf, rfl, h.rt, h.size, hW, hT, ⟨P', q, d', hS, hq, hnb, hng, hlow, hkk⟩, hkp, hbel, h.gb, h.gB, h.bB⟩, hKV⟩
  · rw [he] at hW hS ⊢
    have hRt := good_right (y := y) hR hy hbb
    have hpe : putX y.1.1 y.1.2.1 y.1.2.2 = frOf y.1 := by rw [putX, hR]; rfl
    rw [hpe] at hl hW hq
    refine ⟨.inr ⟨hR, rfl, fun r hr => ?_, ?_, ?_, hT, ⟨P', q, false, hS, ?_, hnb, hng, hlow, hkk⟩, hkp, hbel, h.gb, h.gB, h.bB⟩, hKV⟩
    · rcases List.mem_append.1 hr with hr | hr
      · exact h.rt r hr
      · rw [List.mem_singleton.1 hr]; exact hRt
    · rw [cat_snoc, List.length_append]; exact hl
    · rw [cat_snoc, List.length_append, List.length_append]; exact hW
    · rw [cat_snoc, nats_append]; exact hq
end
end Go.Proofs.YtkekajmmcjacgaaGreatDoor
end

section
/-
  Plain mathematics: frames one behind the other, of which one has a byte turned behind its first three.
-/
namespace Go.Proofs.YtkekajmmcjacgaaGreatDoor
open Crc (turn)

theorem turn_byte (xs : List Nat) (p m j : Nat) (hj : j < xs.length) (hm : ∀ k, m.testBit k = true → 8 * j ≤ p + k ∧ p + k < 8 * j + 8) (hp : p ≤ 8 * j) :
    ∀ k, turn xs p m k = xs.set j (xs.getD j 0 ^^^ ((m % 2 ^ k) >>> (8 * j - p)))
  | 0 => by
    rw [turn, Nat.pow_zero, Nat.mod_one, Nat.zero_shiftRight, Nat.xor_zero, List.getD_eq_getElem?_getD, List.getElem?_eq_getElem hj]
    simp
  | k + 1 => by
    rw [turn, turn_byte xs p m j hj hm hp k, Crc.mod_bit]
    by_cases hb : m.testBit k = true
    · obtain ⟨h1, h2⟩ := hm k hb
      have e : (xs.set j (xs.getD j 0 ^^^ ((m % 2 ^ k) >>> (8 * j - p)))).getD j 0 = xs.getD j 0 ^^^ ((m % 2 ^ k) >>> (8 * j - p)) := by
        generalize xs.getD j 0 ^^^ ((m % 2 ^ k) >>> (8 * j - p)) = v
        rw [List.getD_eq_getElem?_getD, List.getElem?_set_self hj]
        rfl
      have e2 : 2 ^ k >>> (8 * j - p) = 2 ^ (k - (8 * j - p)) := by rw [Nat.shiftRight_eq_div_pow, Nat.pow_div (by omega) (by omega)]
      rw [if_pos hb, if_pos hb, Crc.flip, show (p + k) / 8 = j by omega, show (p + k) % 8 = k - (8 * j - p) by omega, e, List.set_set, Nat.shiftRight_xor_distrib, e2, Nat.xor_assoc]
    · rw [if_neg hb, if_neg hb, Nat.xor_zero]

/-- A frame that is turned within 32 bits is none, whatever is behind it. -/
theorem take_turned_on {k : Int} {nm bs : List Int} (h : RightR k nm bs) {p m : Nat} (hp : 24 ≤ p) (hl : p + 32 ≤ 8 * (49 + bs.length)) (hm : m < 4294967296) (h0 : m ≠ 0) (rest : List Int) :
    takeF (ints (turn (nats (frameR k nm bs)) p m 32) ++ rest) = noRec 16 ∨ takeF (ints (turn (nats (frameR k nm bs)) p m 32) ++ rest) = noRec 4 := by
  have hfl := formR_length h
  have hbd := formR_bd h
  have hxl := nats_lt _ hbd
  have hlen : (ints (turn (nats (frameR k nm bs)) p m 32)).length = 49 + bs.length := by rw [ints_length, Crc.turn_len, nats_length, frameR_length h]
  obtain ⟨t0, hr0, _⟩ := Tlv.form_rd 2 8 (recT k nm bs) 65535 (sumI (formR k nm bs)) (recT_num h.1 h.2.1) (by omega) (recT_right h)
  have e0 : (formR k nm bs).length = Tlv.endOf (frameR k nm bs) := rd_end hr0
  have hget : ∀ j, j < 3 → (ints (turn (nats (frameR k nm bs)) p m 32) ++ rest)[j]? = (frameR k nm bs)[j]? := by
    intro j hj
    have e1 : (frameR k nm bs)[j]? = (ints (nats (frameR k nm bs)))[j]? := by rw [ints_nats _ (frameR_bd h)]
    rw [List.getElem?_append_left (by rw [hlen]; omega), e1, ints, ints, List.getElem?_map, List.getElem?_map, turn_get _ _ _ _ (by omega)]
  have hend : Tlv.endOf (ints (turn (nats (frameR k nm bs)) p m 32) ++ rest) = (formR k nm bs).length := by
    rw [e0]
    exact endOf_of (hget 1 (by omega)) (hget 2 (by omega))
  cases hr : Tlv.rd 8 (ints (turn (nats (frameR k nm bs)) p m 32) ++ rest) with
  | none => exact .inl (takeF_none hr)
  | some x =>
    obtain ⟨t, q⟩ := x
    have hq := rd_end hr
    rw [hend] at hq
    right
    rw [takeF_some hr, if_neg (by rw [List.length_append, hlen, hq, hfl]; omega), if_pos]
    rw [hq]
    intro hc
    have hfr : nats (frameR k nm bs) = nats (formR k nm bs) ++ Crc.le4 (Crc.more 0 (nats (formR k nm bs))) := by rw [frameR, sealI_nats]
    have htl := Crc.turn_lt (xs := nats (frameR k nm bs)) (nats_lt _ (frameR_bd h)) p m 32
    refine Crc.burst_told (nats (formR k nm bs)) ((turn (nats (frameR k nm bs)) p m 32).take (formR k nm bs).length) ((turn (nats (frameR k nm bs)) p m 32).drop (formR k nm bs).length) p m hxl (fun x hx => htl x (List.mem_of_mem_take hx)) hm h0 ?_ ?_ ?_
    · rw [← hfr, nats_length, frameR_length h]; exact hl
    · rw [← hfr, List.take_append_drop]
    · have e1 : (ints (turn (nats (frameR k nm bs)) p m 32) ++ rest).take (formR k nm bs).length = ints ((turn (nats (frameR k nm bs)) p m 32).take (formR k nm bs).length) := by
        rw [List.take_append_of_le_length (by rw [hlen, hfl]; omega), ints, ints, List.map_take]
      have e2 : ((ints (turn (nats (frameR k nm bs)) p m 32) ++ rest).drop (formR k nm bs).length).take 4 = ints ((turn (nats (frameR k nm bs)) p m 32).drop (formR k nm bs).length) := by
        have e4 : ((ints (turn (nats (frameR k nm bs)) p m 32)).drop (formR k nm bs).length).length = 4 := by rw [List.length_drop, hlen, hfl]; omega
        rw [List.drop_append_of_le_length (by rw [hlen, hfl]; omega), List.take_append_of_le_length (by rw [e4]; omega), List.take_of_length_le (by rw [e4]; omega), ints, ints, List.map_drop]
      rw [e1, e2, sumI, nats_ints] at hc
      have := congrArg nats hc
      rwa [nats_ints, nats_ints] at this

/-- Bytes of which the one at j is turned. -/
def flipAt (ys : List Nat) (j y : Nat) : List Nat := ys.set j (ys.getD j 0 ^^^ y)
theorem flipAt_length (ys : List Nat) (j y : Nat) : (flipAt ys j y).length = ys.length := by simp [flipAt]
theorem flipAt_lt {ys : List Nat} (h : ∀ x ∈ ys, x < 256) (j y : Nat) (hy : y < 256) : ∀ x ∈ flipAt ys j y, x < 256 := by
  intro x hx
  by_cases hj : j < ys.length
  · rcases List.mem_or_eq_of_mem_set hx with h1 | h1
    · exact h x h1
    · rw [h1]
      have h2 : ys.getD j 0 < 256 := by
        rw [List.getD_eq_getElem?_getD, List.getElem?_eq_getElem hj]
        exact h _ (List.getElem_mem hj)
      exact Nat.xor_lt_two_pow (n := 8) h2 hy
  · rw [flipAt, List.set_eq_of_length_le (by omega)] at hx
    exact h x hx
theorem flipAt_right (a b : List Nat) (j y : Nat) (h : a.length ≤ j) : flipAt (a ++ b) j y = a ++ flipAt b (j - a.length) y := by
  rw [flipAt, flipAt, List.set_append_right _ _ h, List.getD_eq_getElem?_getD, List.getElem?_append_right h, List.getD_eq_getElem?_getD]
theorem flipAt_left (a b : List Nat) (j y : Nat) (h : j < a.length) : flipAt (a ++ b) j y = flipAt a j y ++ b := by
  rw [flipAt, flipAt, List.set_append_left _ _ h, List.getD_eq_getElem?_getD, List.getElem?_append_left h, List.getD_eq_getElem?_getD]

theorem take_flipped {r : Rec} (h : Rt r) {j y : Nat} (h3 : 3 ≤ j) (hj : j < (frOf r).length) (hy : y < 256) (h0 : y ≠ 0) (rest : List Int) :
    (takeF (ints (flipAt (nats (frOf r)) j y) ++ rest)).1 = 16 ∨ (takeF (ints (flipAt (nats (frOf r)) j y) ++ rest)).1 = 4 := by
  have hl := frOf_length h
  obtain ⟨p, hp⟩ : ∃ p, min (8 * j) (8 * (49 + r.2.2.length) - 32) = p := ⟨_, rfl⟩
  have hpj : p ≤ 8 * j := by omega
  have hm1 : ∀ k, (y <<< (8 * j - p)).testBit k = true → 8 * j ≤ p + k ∧ p + k < 8 * j + 8 := by
    intro k hk
    rw [Nat.testBit_shiftLeft] at hk
    simp only [Bool.and_eq_true, decide_eq_true_eq] at hk
    have h8 : k - (8 * j - p) < 8 := by
      refine Classical.byContradiction fun hn => ?_
      rw [Nat.testBit_lt_two_pow (Nat.lt_of_lt_of_le hy (show 256 ≤ 2 ^ (k - (8 * j - p)) from by have := Nat.pow_le_pow_right (n := 2) (by omega) (show 8 ≤ k - (8 * j - p) by omega); omega))] at hk
      simp at hk
    omega
  have hs : y <<< (8 * j - p) < 4294967296 := by
    rw [Nat.shiftLeft_eq]
    have h24 : 2 ^ (8 * j - p) ≤ 2 ^ 24 := Nat.pow_le_pow_right (by omega) (by omega)
    have := Nat.mul_le_mul (Nat.le_of_lt_succ hy) h24
    omega
  have e := turn_byte (nats (frOf r)) p (y <<< (8 * j - p)) j (by rw [nats_length]; exact hj) hm1 hpj 32
  have em : (y <<< (8 * j - p)) % 2 ^ 32 = y <<< (8 * j - p) := Nat.mod_eq_of_lt hs
  have eb : (y <<< (8 * j - p)) >>> (8 * j - p) = y := by rw [Nat.shiftLeft_eq, Nat.shiftRight_eq_div_pow, Nat.mul_div_cancel _ (Nat.pow_pos (by omega))]
  rw [em, eb] at e
  have hn0 : y <<< (8 * j - p) ≠ 0 := by
    rw [Nat.shiftLeft_eq]
    have := Nat.mul_pos (Nat.pos_of_ne_zero h0) (Nat.pow_pos (a := 2) (n := 8 * j - p) (by omega))
    omega
  rw [flipAt, ← e]
  rcases take_turned_on h (p := p) (m := y <<< (8 * j - p)) (by omega) (by omega) hs hn0 rest with h1 | h1
  · left
    show (takeF (ints (turn (nats (frameR r.1 r.2.1 r.2.2)) p (y <<< (8 * j - p)) 32) ++ rest)).1 = 16
    rw [h1]; rfl
  · right
    show (takeF (ints (turn (nats (frameR r.1 r.2.1 r.2.2)) p (y <<< (8 * j - p)) 32) ++ rest)).1 = 4
    rw [h1]; rfl

theorem cat_append : ∀ (a b : List Rec), cat (a ++ b) = cat a ++ cat b
  | [], b => rfl
  | x :: a, b => by rw [List.cons_append, cat, cat, cat_append a b, List.append_assoc]

/-- Behind good frames one that is none: that is told. -/
theorem scan_bad : ∀ (rs : List Rec) (pre bad : List Int), (∀ r ∈ rs, Rt r) → (takeF bad).1 ≠ 0 → bad ≠ [] → (scanR (tl (pre ++ (cat rs ++ bad)) pre.length) pre.length).2.2 ≠ 0
  | [], pre, bad, _, hf, hb => by
    have hd : (pre ++ (cat [] ++ bad)).drop pre.length = bad := by rw [List.drop_left' rfl]; rfl
    have hlt : pre.length < (pre ++ (cat [] ++ bad)).length := by
      have := List.length_pos_iff.2 hb
      rw [List.length_append]
      simp [cat]
      omega
    rw [tl_bad hlt (by rw [hd]; exact hf), hd, scanR, if_neg hf]
    exact hf
  | r :: rs, pre, bad, hr, hf, hb => by
    have hR := hr r List.mem_cons_self
    have hl := frOf_length hR
    have e2 : pre ++ (cat (r :: rs) ++ bad) = (pre ++ frOf r) ++ (cat rs ++ bad) := by rw [cat]; simp
    have hd : (pre ++ (cat (r :: rs) ++ bad)).drop pre.length = frOf r ++ (cat rs ++ bad) := by rw [e2, List.append_assoc, List.drop_left' rfl]
    have ht : takeF ((pre ++ (cat (r :: rs) ++ bad)).drop pre.length) = (0, r, (frOf r).length) := by rw [hd, hl]; exact take_frame hR _
    have hlt : pre.length < (pre ++ (cat (r :: rs) ++ bad)).length := by rw [e2, List.length_append, List.length_append]; omega
    rw [tl_good hlt (by rw [ht]), ht, scanR, if_pos rfl]
    have ih := scan_bad rs (pre ++ frOf r) bad (fun x hx => hr x (List.mem_cons_of_mem _ hx)) hf hb
    rw [e2]
    rw [List.length_append] at ih
    exact ih

section
variable {rs : List Rec} {r : Rec} {i j y : Nat}
theorem cat_take_succ (h : rs[i]? = some r) : cat (rs.take (i + 1)) = cat (rs.take i) ++ frOf r := by rw [List.take_add_one, h, Option.toList_some, cat_snoc]
theorem cat_cut (h : rs[i]? = some r) : cat rs = cat (rs.take i) ++ (frOf r ++ cat (rs.drop (i + 1))) := by
  have hi : i < rs.length := (List.getElem?_eq_some_iff.1 h).1
  have e : rs.drop i = r :: rs.drop (i + 1) := by
    rw [List.drop_eq_getElem_cons hi]
    have := (List.getElem?_eq_some_iff.1 h).2
    rw [this]
  have e2 : cat (rs.drop i) = frOf r ++ cat (rs.drop (i + 1)) := by rw [e]; rfl
  rw [← e2, ← cat_append, List.take_append_drop]
theorem cat_mono (rs : List Rec) {a b : Nat} (h : a ≤ b) : (cat (rs.take a)).length ≤ (cat (rs.take b)).length := by
  have e : rs.take b = rs.take a ++ (rs.take b).drop a := by
    have := List.take_append_drop a (rs.take b)
    rw [List.take_take, Nat.min_eq_left h] at this
    exact this.symm
  rw [e, cat_append, List.length_append]
  omega

/-- The bytes of all, one of which is turned. -/
theorem flipped_cut (hr : ∀ r ∈ rs, Rt r) (h : rs[i]? = some r) (h1 : (cat (rs.take i)).length ≤ j) (h2 : j < (cat (rs.take (i + 1))).length) :
    ints (flipAt (nats (cat rs)) j y) = cat (rs.take i) ++ (ints (flipAt (nats (frOf r)) (j - (cat (rs.take i)).length) y) ++ cat (rs.drop (i + 1))) := by
  rw [cat_take_succ h, List.length_append] at h2
  have b1 := cat_bd (rs := rs.take i) (fun x hx => hr x (List.mem_of_mem_take hx))
  have b2 := cat_bd (rs := rs.drop (i + 1)) (fun x hx => hr x (List.mem_of_mem_drop hx))
  have e := cat_cut h
  have e3 : nats (cat rs) = nats (cat (rs.take i)) ++ (nats (frOf r) ++ nats (cat (rs.drop (i + 1)))) := by rw [← nats_append, ← nats_append, ← e]
  rw [e3, flipAt_right _ _ _ _ (by rw [nats_length]; exact h1), nats_length, flipAt_left _ _ _ _ (by rw [nats_length]; omega), ints_append, ints_append, ints_nats _ b1, ints_nats _ b2]

theorem flipped_at (hr : ∀ r ∈ rs, Rt r) (h : rs[i]? = some r) (h1 : (cat (rs.take i)).length + 3 ≤ j) (h2 : j < (cat (rs.take (i + 1))).length) (hy : y < 256) (h0 : y ≠ 0) :
    (takeF ((ints (flipAt (nats (cat rs)) j y)).drop (cat (rs.take i)).length)).1 = 16 ∨ (takeF ((ints (flipAt (nats (cat rs)) j y)).drop (cat (rs.take i)).length)).1 = 4 := by
  rw [flipped_cut hr h (by omega) h2, List.drop_left' rfl]
  rw [cat_take_succ h, List.length_append] at h2
  exact take_flipped (hr r (List.mem_of_getElem? h)) (by omega) (by omega) hy h0 _
theorem flipped_scan (hr : ∀ r ∈ rs, Rt r) (h : rs[i]? = some r) (h1 : (cat (rs.take i)).length + 3 ≤ j) (h2 : j < (cat (rs.take (i + 1))).length) (hy : y < 256) (h0 : y ≠ 0) :
    (scanF (ints (flipAt (nats (cat rs)) j y))).2.2 ≠ 0 := by
  have ht := flipped_at hr h h1 h2 hy h0
  rw [flipped_cut hr h (by omega) h2] at ht ⊢
  rw [List.drop_left' rfl] at ht
  have h3 := scan_bad (rs.take i) [] (ints (flipAt (nats (frOf r)) (j - (cat (rs.take i)).length) y) ++ cat (rs.drop (i + 1))) (fun x hx => hr x (List.mem_of_mem_take hx)) (by omega) (by
    intro e
    have := congrArg List.length e
    have hl := frOf_length (hr r (List.mem_of_getElem? h))
    rw [List.length_append, ints_length, flipAt_length, nats_length, List.length_nil] at this
    omega)
  simpa [scanF] using h3
/-- Another one is found as it was. -/
theorem flipped_other {k : Nat} {q : Rec} (hr : ∀ r ∈ rs, Rt r) (h : rs[i]? = some r) (h1 : (cat (rs.take i)).length ≤ j) (h2 : j < (cat (rs.take (i + 1))).length) (hk : rs[k]? = some q) (hne : k ≠ i) :
    takeF ((ints (flipAt (nats (cat rs)) j y)).drop (cat (rs.take k)).length) = (0, q, (frOf q).length) := by
  have hq := hr q (List.mem_of_getElem? hk)
  have hql := frOf_length hq
  have key : ∃ rest, (ints (flipAt (nats (cat rs)) j y)).drop (cat (rs.take k)).length = frOf q ++ rest := by
    by_cases hlt : k < i
    · have e1 : (rs.take i)[k]? = some q := by rw [List.getElem?_take_of_lt hlt]; exact hk
      have e2 := cat_cut e1
      rw [List.take_take, Nat.min_eq_left (by omega)] at e2
      rw [flipped_cut hr h h1 h2, e2, List.append_assoc, List.drop_left' rfl, List.append_assoc]
      exact ⟨_, rfl⟩
    · have e1 : (rs.drop (i + 1))[k - (i + 1)]? = some q := by rw [List.getElem?_drop, show i + 1 + (k - (i + 1)) = k by omega]; exact hk
      have e2 := cat_cut e1
      have e3 : rs.take k = rs.take (i + 1) ++ (rs.drop (i + 1)).take (k - (i + 1)) := by
        have := List.take_append_drop (i + 1) (rs.take k)
        rw [List.take_take, Nat.min_eq_left (by omega), List.drop_take] at this
        exact this.symm
      have e4 : (cat (rs.take k)).length = ((cat (rs.take i) ++ ints (flipAt (nats (frOf r)) (j - (cat (rs.take i)).length) y)) ++ cat ((rs.drop (i + 1)).take (k - (i + 1)))).length := by
        rw [e3, cat_append, cat_take_succ h]
        simp only [List.length_append, ints_length, flipAt_length, nats_length]
      rw [flipped_cut hr h h1 h2, e2, ← List.append_assoc, ← List.append_assoc, e4, List.drop_left' rfl]
      exact ⟨_, rfl⟩
  obtain ⟨rest, e⟩ := key
  rw [e, hql]
  exact take_frame hq rest
end
end Go.Proofs.YtkekajmmcjacgaaGreatDoor
end

section
/-
  What must come at any rate: the chapter's example, and a pack.
-/
namespace Go.Proofs.YtkekajmmcjacgaaGreatDoor
open Go.RowKit Go.Shelf
open Tlv (BySlS)
open Sim (hid Kp No PS Done Blk nm finds pBytes pFsync pRename pSyncDir pCreate pAppend)

theorem builtR (k : Int) (a : Option Addr) (l c : Nat) : Tryz.prog.built 40 [(0, .int .i64 k), (2, .slice a l c)] = some (recA k (List.replicate 32 0) (.slice a l c)).toArray := by kernel_rfl

theorem nT_ok : Sim.nameB (nm (nameT 7)) = true := by rw [nameT_7]; decide
theorem nP_ok : Sim.nameB (nm (nameP 7)) = true := by rw [nameP_7]; decide
def recX : Rec := (1, List.replicate 32 0, [120])
theorem recX_ok : Rt recX := rightX
theorem frX : putX 1 (List.replicate 32 0) [120] = frOf recX := rfl
theorem frX_len : (frOf recX).length = 50 := frOf_length recX_ok
theorem scanX : scanF (frOf recX) = ([(0, (0, recX, 50))], 50, 0) := by
  have h := scanF_cat (rs := [recX]) (c := (cat [recX]).length) (by intro r hr; rw [List.mem_singleton.1 hr]; exact recX_ok) (Nat.le_refl _)
  have e1 : cat [recX] = frOf recX := by simp [cat]
  rw [cnt_all _ _ (Nat.le_refl _), List.take_length, List.take_length, e1, if_pos rfl] at h
  rw [h, frX_len]
  simp [itemsOf, frX_len]

theorem add_x (x : Nat) : addF 7 0 0 (frOf recX) true (Sim.q1 (nm (nameT 7)) 1000 x) = (0, 0, Sim.q2 (nm (nameT 7)) 1000 x (nats (frOf recX)), 50, 1) := by
  have h := Sim.q1_append (b := x) (r := 1000) (ys := nats (frOf recX)) nT_ok (by rw [nats_length, frX_len]; omega)
  rw [addF, if_neg (by simp), if_neg (by rw [frX_len]; omega), h]
  simp [frX_len]
theorem seal_x (x : Nat) (ys : List Nat) : sealF 7 (Sim.q2 (nm (nameT 7)) 1000 x ys) = (0, Sim.q5 (nm (nameT 7)) (nm (nameP 7)) 1000 x ys) := by
  rw [sealF, Sim.q2_fsync nT_ok, if_neg (by simp), Sim.q3_rename nT_ok nP_ok, if_neg (by simp), Sim.q4_sync]

set_option maxHeartbeats 4000000 in
set_option maxRecDepth 100000 in
theorem alive_any (w : World) :
    Calls Tryz.prog 10 #[] w fun e w' => e = .returned (.bool true) ∧ Below w.heap.size w w' := by
  have kc := fun (w : World) (C : Array Value) (n c : Nat) => Lib.run_convert_bytes_const (P := Tryz.prog) w 38 5 C n c Tryz.underlying38 Tryz.underlying5
  go_enter Tryz.func10, Tryz.ntmps10
  go_wp2_with fail
  refine (Sim.new_yes 1000 (by omega) w).mono ?_
  rintro e w1 ⟨rfl, hS1, hK1⟩
  have HS1 := hid hS1
  have HB1 : Hid (Below w.heap.size w w1) := hK1.toBelow'
  have HL1 : Hid (w.heap.size < w1.heap.size) := hS1.lt _ rfl
  clear hS1 hK1
  go_wp2_with fail
  refine (Crc.new_any w1).mono ?_
  rintro e w2 ⟨rfl, hb2, hs2, ht2⟩
  have HS2 : Hid (Sim.Sys (· = w.heap.size) 0 w2 w.heap.size (Sim.startPS 1000)) := HS1.out.kept (Kp.below hb2)
  have HT2 : Hid (TabX w2 w1.heap.size) := ⟨0, 0, .inl rfl, ht2⟩
  have HB2 : Hid (Below w.heap.size w w2) := HB1.out.trans (hb2.mono HB1.out.size)
  have HL2 : Hid (w1.heap.size < w2.heap.size) := by rw [Hid]; omega
  clear hb2 hs2 ht2 HS1 HB1
  go_wp2_with fail
  refine (begin_any w2 w.heap.size w1.heap.size (Sim.startPS 1000) 7 (by omega) (by omega) HS2.out (by omega)).mono ?_
  rintro e w3 hbg
  have hbg' : ∃ x g P', e = .returned (.tuple #[.pointer (some ⟨g, 0, none⟩), .int .i64 0]) ∧ WrAt w3 g w.heap.size w1.heap.size 7 0 0 false ∧ Sim.Sys P' 1 w3 w.heap.size (Sim.q1 (nm (nameT 7)) 1000 x) ∧ Kp (· = w.heap.size) w2 w3 ∧ (∀ y, P' y → y = w.heap.size ∨ w2.heap.size ≤ y) ∧ ¬ P' g ∧ w2.heap.size ≤ g := by
    rcases hbg with ⟨h, _⟩ | ⟨_, x, _, h⟩
    · rw [Sim.start_finds nP_ok] at h
      omega
    · rw [Sim.start_create nT_ok] at h
      rcases h with ⟨h, _⟩ | ⟨_, g, P', h1, h2, h3, h4, h5, h6, h7⟩
      · exact absurd rfl h
      · exact ⟨x, g, P', h1, h2, h3, h4, h5, h6, h7⟩
  obtain ⟨x, g, P', rfl, hW3, hS3, hK3, hP3, hng, hg3⟩ := hbg'
  have HW3 := hid hW3
  have HS3 := hid hS3
  have HL3 : Hid (w2.heap.size ≤ w3.heap.size) := hK3.size
  have HB3 : Hid (Below w.heap.size w w3) := Kp.under HB2.out hK3 (fun y hy => by rw [hy]; exact Nat.le_refl _) HB2.out.size
  have HT3 : Hid (TabX w3 w1.heap.size) := HT2.out.kp hK3 (by have := HL1.out; omega)
  have HNP : Hid (¬ P' g ∧ ¬ P' w1.heap.size ∧ g ≠ w1.heap.size ∧ g < w3.heap.size) := ⟨hng, fun h => by
    have := HL1.out
    have := HL2.out
    rcases hP3 _ h with e | e <;> omega, by have := HL2.out; omega, hW3.lt⟩
  have HGE : Hid (w.heap.size ≤ g) := by
    have := HL1.out
    have := HL2.out
    rw [Hid]
    omega
  have HPL : Hid (∀ y, P' y → w.heap.size ≤ y) := fun y hy => by
    have := HL1.out
    have := HL2.out
    rcases hP3 y hy with e | e <;> omega
  clear hbg hW3 hS3 hK3 hP3 hng hg3 HS2 HT2
  obtain ⟨W3, hW3⟩ : ∃ W3, w3.alloc (Obj.cells #[Value.int IntKind.u8 120] 5 (1, 2)) = W3 := ⟨_, rfl⟩
  have hb3 : Below w3.heap.size w3 W3 := by rw [← hW3]; exact (Below.refl _ _).alloc (Nat.le_refl _) _
  have hx3 : Tlv.BySl 0 W3.heap.size W3 (.slice (some ⟨w3.heap.size, 0, none⟩) 1 1) [120] := by
    rw [← hW3]
    exact (ofCrc (Crc.bySl_lit w1.heap.size w3 (by have := HL2.out; have := HL3.out; omega) [120] (by decide) (by decide) (1, 2))).to (fun g hg => hg.2)
  have HBU := hid (builtR 1 (some ⟨w3.heap.size, 0, none⟩) 1 1)
  have HOWN := hid (fun V => own11_any 1 (List.replicate 32 0) (some ⟨w3.heap.size, 0, none⟩) 1 1 V (by simp))
  have HADD := hid (fun V (hV : Below W3.heap.size W3 V) => addW_any (P := P') (N := 1) V g w.heap.size w1.heap.size 7 0 0 (Sim.q1 (nm (nameT 7)) 1000 x) 1 (List.replicate 32 0) [120] (.slice (some ⟨w3.heap.size, 0, none⟩) 1 1) (by omega) (by omega)
    ((HW3.out.kp (L := No) (Kp.below hb3) (fun h => h)).kp (L := No) (Kp.below hV) (fun h => h)) ((HS3.out.kept (Kp.below hb3)).kept (Kp.below hV)) (by omega) ((HT3.out.below hb3).below hV) HNP.out.2.1 HNP.out.1 HNP.out.2.2.1
    (hx3.agree (Tlv.Agree.below hV) (Nat.le_refl _) hV.size) (by simp) zeros32 (by rw [frX, frX_len]; omega) (by omega) (by omega))
  have HLW3 : Hid (w3.heap.size ≤ W3.heap.size) := hb3.size
  have HBW3 : Hid (Below w.heap.size w W3) := HB3.out.trans (hb3.mono HB3.out.size)
  obtain ⟨C2, hC2⟩ : ∃ C2, recA 1 (List.replicate 32 0) (.slice (some ⟨w3.heap.size, 0, none⟩) 1 1) = C2 := ⟨_, rfl⟩
  have hrB : rightB 1 [(120 : Int)].length = true := by decide
  rw [hC2] at HBU
  rw [show recA 1 (List.replicate 32 0) (.slice (some ⟨w3.heap.size, 0, none⟩) 1 1) = C2 from hC2] at HOWN HADD
  simp only [frX, hrB, add_x] at HADD
  clear hC2 hb3 hx3 hrB
  go_wp2_with (refine wpList_build2 (by rfl) 40 _ _ _ _ (by rfl) _ _ (by rfl) (by rfl) _ HBU.out ?_)
  clear kc hW3
  refine (HOWN.out W3).mono ?_
  rintro e w4 ⟨rfl, hb4⟩
  have HA4 := hid (HADD.out w4 hb4)
  have HB4 : Hid (Below w.heap.size w w4) := HBW3.out.trans (hb4.mono HBW3.out.size)
  have HL4 : Hid (W3.heap.size ≤ w4.heap.size) := hb4.size
  clear hb4 HADD HOWN HBU
  go_wp2_with fail
  refine HA4.out.mono ?_
  rintro e w5 ⟨rfl, hW5, hT5, P5, hS5, hK5, hP5⟩
  dsimp only at hW5 hS5 ⊢
  have HB5 : Hid (Below w.heap.size w w5) := Kp.under HB4.out hK5 (fun y hy => by
    have h1 := HL1.out
    have h2 := HL2.out
    rcases hy with e | e | e
    · exact HPL.out y e
    · omega
    · have h3 := HW3.out.lt
      rw [e]
      by_cases hgw : g < w.heap.size
      · exact absurd hgw (by have := HGE.out; omega)
      · omega) HB4.out.size
  have HN5 : Hid (¬ P5 g ∧ ¬ P5 w1.heap.size) := by
    have h1 := HNP.out
    have h2 := HLW3.out
    have h3 := HL4.out
    have h4 := HL2.out
    have h5 := HL3.out
    exact ⟨fun e => by rcases hP5 _ e with e | e
                       · exact h1.1 e
                       · omega, fun e => by rcases hP5 _ e with e | e
                                            · exact h1.2.1 e
                                            · omega⟩
  have HP5 : Hid (∀ y, P5 y → w.heap.size ≤ y) := fun y hy => by
    rcases hP5 y hy with e | e
    · exact HPL.out y e
    · have := HB4.out.size; omega
  have HSEAL := hid (sealW_any (P := P5) (N := 2) w5 g w.heap.size w1.heap.size 7 50 1 _ (by omega) (by omega) hW5 hS5 (by omega) hT5 HN5.out.2 HN5.out.1 HNP.out.2.2.1 (by omega))
  rw [seal_x] at HSEAL
  clear hW5 hT5 hS5 hK5 hP5 HA4
  go_wp2_with fail
  refine HSEAL.out.mono ?_
  rintro e w6 ⟨rfl, hW6, hT6, P6, hS6, hK6, hP6⟩
  have HB6 : Hid (Below w.heap.size w w6) := Kp.under HB5.out hK6 (fun y hy => by
    rcases hy with e | e
    · exact HP5.out y e
    · rw [e]; have := HGE.out; omega) HB5.out.size
  have e1 : pBytes (nm (nameP 7)) (Sim.q5 (nm (nameT 7)) (nm (nameP 7)) 1000 x (nats (frOf recX))) = nats (frOf recX) := Sim.q5_bytes nP_ok
  have HLOAD := hid (load_any w6 w.heap.size w1.heap.size _ 7 (by omega) (by omega) hS6 hT6 (by rw [e1]; exact nats_lt _ (frameR_bd recX_ok)) (by rw [e1, nats_length, frX_len]; omega))
  rw [Sim.q5_finds nP_ok, e1, ints_nats (frOf recX) (frameR_bd recX_ok), scanX] at HLOAD
  clear hW6 hT6 hS6 hK6 hP6 e1 HSEAL
  go_wp2_with fail
  refine HLOAD.out.mono ?_
  rintro e w7 ⟨hl, hk7, ht7⟩
  have hl' : ∃ a c, e = .returned (.tuple #[.slice a 1 c, .int .i64 0]) ∧ PRow 92 w6.heap.size w1.heap.size w7 (.slice a 1 c) [(0, (0, recX, 50))] := by
    rcases hl with ⟨h, _⟩ | ⟨_, h, _⟩ | ⟨_, _, _, a, c, h1, h2⟩
    · exact absurd rfl h
    · rcases h with h | h
      · exact absurd rfl h
      · exact absurd h (by simp)
    · exact ⟨a, c, h1, h2⟩
  obtain ⟨al, cl, rfl, hp⟩ := hl'
  obtain ⟨gg, cgg, a', c', hsl, hgb, hgl, hnm, hrg, hbg⟩ := hp.get 0 _ rfl
  simp only [Value.slice.injEq, List.length_singleton, true_and] at hsl
  obtain ⟨rfl, rfl⟩ := hsl
  have HB7 : Hid (Below w.heap.size w w7) := Crc.Kept.toBelow HB6.out hk7 (by have := HL1.out; omega)
  have cg : w7.cell? ⟨gg, 35, none⟩ = some (.slice a' 1 c') := by
    have h := hrg 35 (.slice a' 1 c') rfl
    simpa using h
  have HBG := hid hbg
  clear hl hk7 ht7 hp hrg hbg hnm hgb HLOAD
  go_wp2_with fail
  refine (id_07 w7).mono ?_
  rintro e w8 ⟨rfl, hb8⟩
  have HB8 : Hid (Below w.heap.size w w8) := HB7.out.trans (hb8.mono HB7.out.size)
  have cg8 : w8.cell? ⟨gg, 35, none⟩ = some (.slice a' 1 c') := (hb8.cell (p := ⟨gg, 35, none⟩) hgl).trans cg
  have hcv := Tlv.conv_bytes ((BySlS.below HBG.out hb8 (fun g hg => hg.2.2.1)).to (B := w8.heap.size) (fun g hg => Nat.lt_of_lt_of_le hg.2.2.1 hb8.size))
  have hcv' : (convert 38 9 (.slice a' 1 c')).run Tryz.prog w8 = .ok (.string ⟨#[120]⟩) w8 := by
    have hse : strOfNums [120] = ⟨#[120]⟩ := by decide +kernel
    rw [← hse]
    exact hcv
  have HNA := hid (fun V => pname_small 7 (by omega) (by omega) V)
  rw [nameP_7] at HNA
  clear hb8 cg hcv
  go_wp2_with (go_at_call 49; refine (HNA.out _).mono ?_; rintro e w9 ⟨rfl, h⟩; subst w9)
  go_ret
  exact ⟨rfl, HB8.out⟩
end Go.Proofs.YtkekajmmcjacgaaGreatDoor
end
