/- Of the proof: the texts SimUp2, PkRun, PkNames, PkIdM, PkId, PkPick, PkAlive, one behind the other. -/
import Derived.Test.YtkekajmmcjacgaaGreatDoorB15
import Derived.Test.YtkekajmmcjacgaaGreatDoorB14
import Derived.Test.YtkekajmmcjacgaaGreatDoorB1
import Derived.Lib.ItoaLen
import Derived.Lib.AppendIntMem
import Derived.Lib.AtoiAll
import Derived.Test.YtkekajmmcjacgaaGreatDoorB2
import Derived.Test.YtkekajmmcjacgaaGreatDoorB13
section
/-
  Up.
-/
namespace Go.Proofs.YtkekajmmcjacgaaGreatDoor.Sim
open Go.RowKit Go.Maps

/-- What holds while Up goes on. -/
def UpI (N : Nat) (d : Dir) : PS → Prop := fun p => (∀ b f, p.files b = some f → f.b.length ≤ 12000 * N) ∧ (∀ e ∈ d, (p.files e.2).isSome = true) ∧ p.safe = d ∧ N ≤ 1000

/-- Where Up stands, i names through. -/
def UpAt (P : Nat → Prop) (N : Nat) (w : World) (s : Nat) (q : PS) (d : Dir) (cuts : List Int) (vs : Value) (mo : Option Nat) (i : Nat) (wr : World) : Prop :=
  ∃ u, Rp P (UpI N d) wr s (loses (d.take i) 0 cuts q) vs (.map mo) (.slice none 0 0) u ∧ Kp P w wr

theorem upI_step {N : Nat} {d : Dir} {q : PS} {b : Nat} {f : Fl} {k : Int} (h : UpI N d q) (hf : q.files b = some f) : UpI N d (setF b (lose k f) q) := by
  refine ⟨fun x g hg => ?_, fun e he => ?_, h.2.2.1, h.2.2.2⟩
  · have hg' : (if x = b then some (lose k f) else q.files x) = some g := hg
    split at hg'
    · cases hg'
      exact Nat.le_trans (List.length_take_le' _ _) (h.1 b f hf)
    · exact h.1 x g hg'
  · show (if e.2 = b then some (lose k f) else q.files e.2).isSome = true
    split
    · rfl
    · exact h.2.1 e he

theorem map_get {l : Dir} {i : Nat} (h : i < l.length) : (l.map (·.1)).getD i [] = (l[i]).1 := by
  rw [List.getD_eq_getElem?_getD, List.getElem?_map, List.getElem?_eq_getElem h]
  rfl

/-- At the end of Up. -/
theorem up_end {P : Nat → Prop} {N : Nat} {w wr w2 : World} {s : Nat} {q : PS} {vs vs' : Value} {mo : Option Nat} {u : Nat → Value} (h : Rp P (UpI N q.safe) wr s q vs (.map mo) (.slice none 0 0) u) (hq : q.chg = [])
    (hv : (mo = none ∧ vs' = .map none ∧ w2 = wr) ∨ ∃ b, mo = some b ∧ vs' = .map (some wr.heap.size) ∧ MapAt w2 wr.heap.size q.safe) (k2 : Kp No wr w2) (hk : Kp P w wr)
    (hi : PInv N { q with seen := q.safe, down := false, armed := false, left := 0 }) :
    Done P N w ((((w2.setCell ⟨s, 1, none⟩ vs').setCell ⟨s, 4, none⟩ (.bool false)).setCell ⟨s, 5, none⟩ (.bool false)).setCell ⟨s, 6, none⟩ (.int .i64 0)) s { q with seen := q.safe, down := false, armed := false, left := 0 } := by
  have hR := h.kp k2 (fun _ h => h.elim)
  have k4 : Kp (· = s) w2 ((((w2.setCell ⟨s, 1, none⟩ vs').setCell ⟨s, 4, none⟩ (.bool false)).setCell ⟨s, 5, none⟩ (.bool false)).setCell ⟨s, 6, none⟩ (.int .i64 0)) :=
    (((Kp.set1 _ _ _ _).trans (Kp.set1 _ _ _ _) (fun x hx => .inl hx)).trans (Kp.set1 _ _ _ _) (fun x hx => .inl hx)).trans (Kp.set1 _ _ _ _) (fun x hx => .inl hx)
  have hb := (((hR.blk.setCell 1 vs').setCell 4 (.bool false)).setCell 5 (.bool false)).setCell 6 (.int .i64 0)
  generalize hw' : (((w2.setCell ⟨s, 1, none⟩ vs').setCell ⟨s, 4, none⟩ (.bool false)).setCell ⟨s, 5, none⟩ (.bool false)).setCell ⟨s, 6, none⟩ (.int .i64 0) = w' at *
  have hz : w2.heap.size = w'.heap.size := by rw [← hw']; simp
  have hsl := hR.lt s hR.ps
  refine ⟨fun x => P x ∨ (wr.heap.size = x ∧ mo ≠ none), ⟨vs', .map mo, .slice none 0 0, u, ?_⟩, ((hk.andNone k2).trans k4 (fun x hx => .inl (by subst hx; exact h.ps))), fun x hx => by
    rcases hx with hx | hx
    · exact .inl hx
    · exact .inr (by have := hk.size; omega)⟩
  have hnew : ∀ b, mo = some b → wr.heap.size < w2.heap.size := fun b e => by
    rcases hv with ⟨e1, _⟩ | ⟨b', _, _, hm⟩
    · rw [e] at e1; cases e1
    · exact hm.lt
  exact {
    lt := fun x hx => by
      rcases hx with hx | ⟨hx, hm⟩
      · have := h.lt x hx; have := k2.size; omega
      · cases mo with
        | none => exact absurd rfl hm
        | some b => have := hnew b rfl; omega
    ps := .inl h.ps
    blk := hb
    seen := by
      rcases hv with ⟨e1, e2, e3⟩ | ⟨b, e1, e2, hm⟩
      · refine .inl ⟨e2, ?_⟩
        rcases h.safe with ⟨_, h2⟩ | ⟨b, h1, _⟩
        · exact h2
        · rw [e1] at h1; cases h1
      · exact .inr ⟨_, e2, hm.kp k4 (hm.blk hR.blk)⟩
    safe := by
      rcases hR.safe with ⟨h1, h2⟩ | ⟨b, h1, h2⟩
      · exact .inl ⟨h1, h2⟩
      · exact .inr ⟨b, h1, h2.kp k4 (h2.blk hR.blk)⟩
    unmade := fun e => by
      obtain ⟨e1, e2⟩ := h.unmade e
      rcases hv with ⟨_, e3, _⟩ | ⟨b, e3, _⟩
      · exact ⟨e3, e2⟩
      · rw [e3] at e2; cases e2
    mades := fun e => by
      obtain ⟨a, b, h1, h2, h3, h4, h5⟩ := h.mades e
      rcases hv with ⟨e1, _⟩ | ⟨b', e1, e2, hm⟩
      · rw [e1] at h2; cases h2
      · have : b = b' := by rw [e1] at h2; cases h2; rfl
        refine ⟨wr.heap.size, b, e2, h2, ?_, .inr ⟨rfl, by rw [e1]; simp⟩, .inl h5⟩
        have := h.lt b h5
        omega
    chg := by show Row _ _ _ _ q.chg.length _; rw [hq]; exact Row.nil _ _ _
    pc := by simp [Value.ownBlock]
    file := fun b f hf => by
      obtain ⟨h1, h2, h3⟩ := hR.file b f hf
      exact ⟨.inl h1, h2.kp k4 (h2.blk.ne hR.blk (by decide)) (fun x hx e => h2.own.row.ne hR.blk (by decide) (by rw [hx, e])), fun x hx => .inl (h3 x hx)⟩
    sep := h.sep
    inv := hi }

set_option maxHeartbeats 4000000 in
set_option maxRecDepth 100000 in
theorem up_any {P Q : Nat → Prop} {N : Nat} (w : World) (s : Nat) (p : PS) (k : Int) (v : Value) (cuts : List Int) (h : Sys P N w s p) (hv : IntsAt Q w v cuts) (hQ : ∀ x, Q x → ¬ P x) :
    Calls Tryz.prog 47 #[.pointer (some ⟨s, 0, none⟩), .int .i64 k, v] w fun e w' => e = .returned (.int .i64 0) ∧ Done P N w w' s (pUp k cuts p) := by
  have hI := h.inv
  obtain ⟨vs, vf, vc, u, hR⟩ := h
  obtain ⟨mo, rfl⟩ := hR.safe.shape
  obtain ⟨ac, cc, hvc, _⟩ := hR.chg.shape
  obtain ⟨n, hn, hn2⟩ : ∃ n, min (max k 0).toNat p.chg.length = n ∧ n ≤ p.chg.length := ⟨_, rfl, by omega⟩
  have hnI : min (max k 0) (p.chg.length : Int) = (n : Int) := by rw [← hn]; omega
  have hbig := hI.big
  have hsl := hR.lt s hR.ps
  have hps := hR.ps
  have c3 : w.cell? ⟨s, 3, none⟩ = some (.slice ac p.chg.length cc) := by rw [← hvc]; exact hR.c 3
  have HUP : Hid (pUp k cuts p = { loses ((p.chg.take n).foldl pdo p.safe) 0 cuts (settle n p) with seen := (loses ((p.chg.take n).foldl pdo p.safe) 0 cuts (settle n p)).safe, down := false, armed := false, left := 0 }) := by
    unfold Hid pUp
    rw [hn]
    rfl
  have HINV := hid (inv_up hI hR.safe.ris k cuts)
  have hfn := fold_names hI n
  have hrs : Ris ((p.chg.take n).foldl pdo p.safe) := hR.safe.ris.fold _
  -- settle
  have HST : Hid (Calls Tryz.prog 110 #[.pointer (some ⟨s, 0, none⟩), .int .i64 (n : Int)] w fun e w' => e = .returned (.tuple #[]) ∧ UpAt P N w s (settle n p) ((p.chg.take n).foldl pdo p.safe) cuts vs mo 0 w') := by
    refine (settle_raw w s p vs vc mo u n hR hn2 hI.okc hI.nmC (by have := hI.lsafe; omega) (by have := hI.lchg; omega) hI.nmade).mono ?_
    rintro e w' ⟨rfl, W1, hm1, hk1, hw1⟩
    obtain ⟨hS, hK⟩ := rq_settle (J := UpI N ((p.chg.take n).foldl pdo p.safe)) hR hm1 hk1 hw1 ⟨hI.lfile, fun e he => (hfn e he).1, rfl, hbig⟩
    exact ⟨rfl, u, hS, hK⟩
  have hdl : Hid (((p.chg.take n).foldl pdo p.safe).length ≤ 1000) := by
    have h1 := length_fold (p.chg.take n) p.safe
    have h2 : (p.chg.take n).length ≤ p.chg.length := by simp; omega
    have := hI.lsum
    show _ ≤ _
    omega
  have hq0 : Hid ((settle n p).chg = []) := rfl
  have HFN := hid hfn
  have HRS := hid hrs
  have HV := hid hv
  have HQ := hid hQ
  obtain ⟨av, cv, rfl, hv1, hv2, hv3, _⟩ := hv
  rw [HUP.out] at HINV ⊢
  generalize hd : (p.chg.take n).foldl pdo p.safe = d at *
  generalize settle n p = q at *
  clear hn hfn hrs hd hI hR hvc HUP hQ
  generalize p.chg.length = M at *
  go_enter Tryz.func47, Tryz.ntmps47
  go_wp2_with fail
  refine (HST.out).mono ?_
  rintro e w1 ⟨rfl, hU⟩
  have HU := hid hU
  obtain ⟨u1, hR1, hK1⟩ := hU
  have c2 : w1.cell? ⟨s, 2, none⟩ = some (.map mo) := hR1.c 2
  have hsafe1 : MapV w1 (.map mo) d := by have := hR1.safe; rw [hR1.inv.2.2.1] at this; exact this
  have HN := hid (names_any w1 (.map mo) d hsafe1 (by have := hdl.out; omega))
  have hsz1 := hK1.size
  clear hR1 hK1 hsafe1 HST
  go_wp2_with fail
  refine (HN.out).mono ?_
  rintro e w2 ⟨un, rfl, ho, hnew, hk2⟩
  have HO := hid ho
  have HNEW := hid hnew
  have HU2 : Hid (UpAt P N w s q d cuts vs mo 0 w2) := by
    obtain ⟨u1, hR1, hK1⟩ := HU.out
    exact ⟨u1, hR1.kp hk2 (fun _ h => h.elim), hK1.andNone hk2⟩
  obtain ⟨an, cn, hun, hn1, hn2', hn3, hn4⟩ := ho.shape
  subst hun
  have hsz2 := hk2.size
  -- the names stay
  have HNM : Hid (∀ wr, Kp P w2 wr → ∀ i, (hi : i < d.length) → ∃ g, an = some ⟨g, 0, none⟩ ∧ wr.cell? ⟨g, i, none⟩ = some (.string (sOf (d[i]).1))) := fun wr kw i hi => by
    obtain ⟨g, hg⟩ : ∃ g, an = some ⟨g, 0, none⟩ := by
      rcases HO.out.2 with ⟨e1, e2⟩ | ⟨g, cap', cur, e1, _⟩
      · simp at e2; subst e2; simp at hi
      · cases e1; exact ⟨g, rfl⟩
    refine ⟨g, hg, ?_⟩
    subst hg
    have hgP : ¬ P g := fun hp => by
      obtain ⟨u1, hR1, hK1⟩ := HU.out
      have h1 := hR1.lt g hp
      have h2 := HNEW.out g rfl
      omega
    have h3 := HO.out.kp kw (fun x hx => by cases hx; exact hgP)
    have hr3 : Row wr 9 1 (.slice (some ⟨g, 0, none⟩) (d.map (·.1)).length cn) (d.map (·.1)).length ((d.map (·.1)).map encStr) := h3
    rw [hr3.cellAt i (by simp; exact hi)]
    simp [hi]
    rfl
  have HCUT : Hid (∀ wr, Kp P w wr → ∀ i, i < cuts.length → ∃ g o, av = some ⟨g, o, none⟩ ∧ wr.cell? ⟨g, o + i, none⟩ = some (.int .i64 (cuts.getD i 0))) := fun wr kw i hi => by
    obtain ⟨a', cap', e1, _, _, _, h5⟩ := HV.out
    cases e1
    obtain ⟨g, o, e, hq, hg, hc⟩ := h5 (by intro e; subst e; simp at hi)
    exact ⟨g, o, e, (kw.cell (p := ⟨g, o + i, none⟩) hg (fun hp => HQ.out g hq hp)).trans (hc i hi)⟩
  have hdm : (d.map (·.1)).length = d.length := by simp
  rw [hdm] at hn1 ⊢
  have hD := hdl.out
  obtain ⟨D, hDL⟩ : ∃ D, d.length = D := ⟨_, rfl⟩
  rw [hDL] at hn1 hD ⊢
  have HDL := hid hDL
  clear hDL hdm ho hnew hk2 hn3 hn4 HN c2 HU
  go_wp2_with fail
  go_loopw [28] (fun x wr => ∃ i : Nat, x = .int .i64 i ∧ i ≤ D ∧ Hid (UpAt P N w s q d cuts vs mo i wr ∧ Kp P w2 wr)) (fun x _ => D - (intOf x).toNat)
  case atStart => exact ⟨0, rfl, by omega, HU2.out, Kp.refl _ _⟩
  case round =>
    obtain ⟨i, rfl, hi, HI⟩ := hrel
    by_cases hlt : i < D
    · have hlt' : i < d.length := by rw [HDL.out]; exact hlt
      obtain ⟨g, hg, cn1⟩ := HNM.out wr HI.out.2 i hlt'
      subst hg
      obtain ⟨ui, hRi, hKi⟩ := HI.out.1
      have hsf : MapV wr (.map mo) d := by have := hRi.safe; rw [hRi.inv.2.2.1] at this; exact this
      have hfd : dfind d (d[i]).1 = some (d[i]).2 := dfind_of_mem hsf.ris.nodup (List.getElem_mem hlt')
      have hlk := hsf.lookS (sOf (d[i]).1) (by rw [sOf_size]; have := (HFN.out _ (List.getElem_mem hlt')).2; omega)
      rw [nm_sOf, hfd, show ptrV (some (d[i]).2) = .pointer (some ⟨(d[i]).2, 0, none⟩) from rfl] at hlk
      have c2 : wr.cell? ⟨s, 2, none⟩ = some (.map mo) := hRi.c 2
      obtain ⟨f, hf⟩ := Option.isSome_iff_exists.1 (hRi.inv.2.1 _ (List.getElem_mem hlt'))
      have hfl := hRi.inv.1 _ f hf
      have hfa : fileAt (loses (d.take i) 0 cuts q) (d[i]).2 = f := by simp [fileAt, hf]
      have htk : d.take (i + 1) = d.take i ++ [d[i]] := List.take_succ_eq_append_getElem hlt'
      have hst : loses (d.take (i + 1)) 0 cuts q = setF (d[i]).2 (lose (cuts.getD i 0) f) (loses (d.take i) 0 cuts q) := by
        rw [htk, loses_snoc, hfa]
        have : 0 + (d.take i).length = i := by simp; omega
        rw [this]
      have HL : Hid (Calls Tryz.prog 112 #[.pointer (some ⟨(d[i]).2, 0, none⟩), .int .i64 (cuts.getD i 0)] wr fun e w' => e = .returned (.tuple #[]) ∧ UpAt P N w s q d cuts vs mo (i + 1) w' ∧ Kp P w2 w') := by
        refine (lose_any (J := UpI N d) wr s (d[i]).2 _ vs (.map mo) _ ui f (cuts.getD i 0) hRi hf (by omega) (upI_step hRi.inv hf)).mono ?_
        rintro e w' ⟨rfl, u', r1, r2⟩
        refine ⟨rfl, ⟨u', ?_, hKi.trans r2 (fun x hx => .inl hx)⟩, HI.out.2.trans r2 (fun x hx => .inl hx)⟩
        rw [hst]
        exact r1
      generalize sOf (d[i]).1 = sn at *
      generalize (d[i]).2 = fb at *
      by_cases hc : i < cuts.length
      · obtain ⟨gc, oc, hgc, cc1⟩ := HCUT.out wr hKi i hc
        subst hgc
        clear hRi hKi hsf hfd hf hfl hfa htk hst HNM HCUT HFN HINV
        generalize cuts.getD i 0 = z at *
        go_wp2_with (go_at_call 112; refine (HL.out).mono ?_; rintro e w3 ⟨rfl, h3, h4⟩; have H3 := hid h3; have H4 := hid h4; clear h3 h4)
        go_roundw
        case rel => exact ⟨i + 1, by go_num, by omega, H3.out, H4.out⟩
        case measure => simp [intOf]; omega
      · have hz : cuts.getD i 0 = 0 := by rw [List.getD_eq_getElem?_getD, List.getElem?_eq_none (by omega)]; rfl
        rw [hz] at HL
        clear hRi hKi hsf hfd hf hfl hfa htk hst HNM HCUT HFN HINV
        go_wp2_with (go_at_call 112; refine (HL.out).mono ?_; rintro e w3 ⟨rfl, h3, h4⟩; have H3 := hid h3; have H4 := hid h4; clear h3 h4)
        go_roundw
        case rel => exact ⟨i + 1, by go_num, by omega, H3.out, H4.out⟩
        case measure => simp [intOf]; omega
    · have hiD : i = D := by omega
      subst hiD
      have htk : d.take i = d := List.take_of_length_le (by rw [HDL.out]; exact Nat.le_refl _)
      obtain ⟨ui, hRi, hKi⟩ := HI.out.1
      rw [htk] at hRi
      have hsd := hRi.inv.2.2.1
      have hRi' : Rp P (UpI N (loses d 0 cuts q).safe) wr s (loses d 0 cuts q) vs (.map mo) (.slice none 0 0) ui := by rw [hsd]; exact hRi
      have hq1 : (loses d 0 cuts q).chg = [] := (loses_same cuts d 0 q).2.2.1.trans hq0.out
      have c2 : wr.cell? ⟨s, 2, none⟩ = some (.map mo) := hRi.c 2
      have HCL : Hid (Calls Tryz.prog 113 #[.map mo] wr fun e w' => ∃ vs', e = .returned vs' ∧ ((mo = none ∧ vs' = .map none ∧ w' = wr) ∨ ∃ b, mo = some b ∧ vs' = .map (some wr.heap.size) ∧ MapAt w' wr.heap.size (loses d 0 cuts q).safe) ∧ Kp No wr w') := by
        refine (mclone_v wr (.map mo) (loses d 0 cuts q).safe hRi'.safe).mono ?_
        rintro e w' ⟨v', rfl, h1, h2⟩
        refine ⟨v', rfl, ?_, h2⟩
        rcases h1 with ⟨e1, e2, e3⟩ | ⟨b, e1, e2, e3⟩
        · have hmn : mo = none := by
            cases mo with
            | none => rfl
            | some _ => cases e1
          exact .inl ⟨hmn, e2, e3⟩
        · exact .inr ⟨b, by cases e1; rfl, e2, e3⟩
      have HE : Hid (∀ w3 vs', ((mo = none ∧ vs' = .map none ∧ w3 = wr) ∨ ∃ b, mo = some b ∧ vs' = .map (some wr.heap.size) ∧ MapAt w3 wr.heap.size (loses d 0 cuts q).safe) → Kp No wr w3 → Done P N w ((((w3.setCell ⟨s, 1, none⟩ vs').setCell ⟨s, 4, none⟩ (.bool false)).setCell ⟨s, 5, none⟩ (.bool false)).setCell ⟨s, 6, none⟩ (.int .i64 0)) s _) := fun w3 vs' h1 h2 => up_end hRi' hq1 h1 h2 hKi HINV.out
      have HCE : Hid (∀ w3, Kp No wr w3 → ∃ x1 x4 x5 x6, w3.cell? ⟨s, 1, none⟩ = some (.map x1) ∧ w3.cell? ⟨s, 4, none⟩ = some (.bool x4) ∧ w3.cell? ⟨s, 5, none⟩ = some (.bool x5) ∧ w3.cell? ⟨s, 6, none⟩ = some (.int .i64 x6) ∧ ∀ j, w3.frozen? ⟨s, j, none⟩ = false) := fun w3 kw => by
        have h3 := hRi.kp kw (fun _ h => h.elim)
        obtain ⟨ms, hms⟩ := h3.seen.shape
        exact ⟨ms, _, _, _, by rw [h3.c 1]; simp [fsCells, hms], h3.c 4, h3.c 5, h3.c 6, h3.blk.frozen⟩
      clear hRi hRi' hq1 hsd htk HI HINV HFN HNM HCUT
      go_wp2_with (go_at_call 113; refine (HCL.out).mono ?_; rintro e w3 ⟨vs', rfl, h3, h4⟩; have H3 := hid h3; have H4 := hid h4; obtain ⟨x1, x4, x5, x6, d1, d4, d5, d6, df⟩ := HCE.out w3 h4; have df1 := df 1; have df4 := df 4; have df5 := df 5; have df6 := df 6; obtain ⟨m3, hm3⟩ : ∃ m, vs' = .map m := (by rcases h3 with ⟨_, e, _⟩ | ⟨_, _, e, _⟩ <;> exact ⟨_, e⟩); subst hm3; clear h3 h4 df)
      go_ret
      exact ⟨rfl, HE.out w3 _ H3.out H4.out⟩

end Go.Proofs.YtkekajmmcjacgaaGreatDoor.Sim
end

section
/-
  A pack that is written, record by record, on a disk that may go down; the writer's other calls.
-/
namespace Go.Proofs.YtkekajmmcjacgaaGreatDoor
open Go.RowKit Go.Shelf
open Tlv (BySlS Agree)
open Sim (hid Kp No PS Done Blk nm finds pBytes pRemove OwnB Beg)

theorem sizeW_any (w : World) (g s b : Nat) (i sz ct : Int) (cl : Bool) (h : WrAt w g s b i sz ct cl) : Calls Tryz.prog 43 #[.pointer (some ⟨g, 0, none⟩)] w fun e w' => e = .returned (.int .i64 sz) ∧ w' = w := by
  have c3 : w.cell? ⟨g, 3, none⟩ = some (.int .i64 sz) := h.cell 3
  clear h
  go_enter Tryz.func43, Tryz.ntmps43
  go_wp2
  go_ret
  exact ⟨rfl, rfl⟩
theorem sealW_early (w : World) (g s b : Nat) (i sz : Int) (h : WrAt w g s b i sz 0 false) : Calls Tryz.prog 19 #[.pointer (some ⟨g, 0, none⟩)] w fun e w' => e = .returned (.int .i64 16) ∧ w' = w := by
  have c4 : w.cell? ⟨g, 4, none⟩ = some (.int .i64 0) := h.cell 4
  have HW := hid (wrongW_any w g s b i sz 0 false h)
  clear h
  go_enter Tryz.func19, Tryz.ntmps19
  go_wp2_with (go_at_call 73; refine HW.out.mono ?_; rintro e w1 ⟨rfl, h⟩; subst w1)
  go_ret
  exact ⟨rfl, rfl⟩
theorem sealW_closed (w : World) (g s b : Nat) (i sz ct : Int) (h : WrAt w g s b i sz ct true) : Calls Tryz.prog 19 #[.pointer (some ⟨g, 0, none⟩)] w fun e w' => e = .returned (.int .i64 13) ∧ w' = w := by
  have HW := hid (wrongW_any w g s b i sz ct true h)
  clear h
  go_enter Tryz.func19, Tryz.ntmps19
  go_wp2_with (go_at_call 73; refine HW.out.mono ?_; rintro e w1 ⟨rfl, h⟩; subst w1)
  go_ret
  exact ⟨rfl, rfl⟩
set_option maxHeartbeats 1000000 in
theorem abortW_any {P : Nat → Prop} {N : Nat} (w : World) (g s b i : Nat) (sz ct : Int) (p : PS) (hi1 : 1 ≤ i) (hi2 : i < 100) (hW : WrAt w g s b i sz ct false) (h : Sim.Sys P N w s p) (hN : N + 1 ≤ 1000) (hg : ¬ P g) :
    Calls Tryz.prog 21 #[.pointer (some ⟨g, 0, none⟩)] w fun e w' => e = .returned (.int .i64 ((pRemove (nm (nameT i)) p).1 : Nat)) ∧ WrAt w' g s b i sz ct true ∧ ∃ P', Sim.Sys P' (N + 1) w' s (pRemove (nm (nameT i)) p).2 ∧ Kp (fun x => P x ∨ x = g) w w' ∧ ∀ x, P' x → P x ∨ w.heap.size ≤ x := by
  have HW := hid (wrongW_any w g s b i sz ct false hW)
  have f5 : w.frozen? ⟨g, 5, none⟩ = false := hW.frozen 5
  have k5 : w.cell? ⟨g, 5, none⟩ = some (.bool false) := hW.cell 5
  have k0 : w.cell? ⟨g, 0, none⟩ = some (.pointer (some ⟨s, 0, none⟩)) := hW.cell 0
  have k2 : w.cell? ⟨g, 2, none⟩ = some (.int .i64 (i : Int)) := hW.cell 2
  have hKg : Kp (fun x => x = g) w (w.setCell ⟨g, 5, none⟩ (.bool true)) := Kp.setCell (p := ⟨g, 5, none⟩) (Kp.refl (fun x => x = g) w) (.inl rfl) _
  have hW2 : WrAt (w.setCell ⟨g, 5, none⟩ (.bool true)) g s b i sz ct true := Blk.setCell hW 5 (.bool true)
  have hS2 : Sim.Sys P N (w.setCell ⟨g, 5, none⟩ (.bool true)) s p := h.kp hKg (fun x hx => by rw [hx]; exact hg)
  have hz2 : (w.setCell ⟨g, 5, none⟩ (.bool true)).heap.size = w.heap.size := by simp
  have HTM := hid (fun V => ptemp_small i hi1 hi2 V)
  have HRM := hid (Sim.remove_any (w.setCell ⟨g, 5, none⟩ (.bool true)).drew s p (nameT i) (name_le _ (by decide) i hi2) (hS2.kept ((Kp.refl _ _).drew)) hN)
  have HZ := hid (And.intro hKg (And.intro hW2 hz2))
  have c0 : (w.setCell ⟨g, 5, none⟩ (.bool true)).cell? ⟨g, 0, none⟩ = some (.pointer (some ⟨s, 0, none⟩)) := hW2.cell 0
  have c2 : (w.setCell ⟨g, 5, none⟩ (.bool true)).cell? ⟨g, 2, none⟩ = some (.int .i64 (i : Int)) := hW2.cell 2
  have hgW : g < (w.setCell ⟨g, 5, none⟩ (.bool true)).heap.size := by rw [hz2]; exact hW.lt
  obtain ⟨A, hA⟩ : ∃ A, pRemove (nm (nameT i)) p = A := ⟨_, rfl⟩
  rw [hA] at HRM ⊢
  have HHG := hid hg
  clear hA hKg hW2 hS2 hz2 h hW
  go_enter Tryz.func21, Tryz.ntmps21
  go_wp2_with (go_at_call 73; refine HW.out.mono ?_; rintro e w1 ⟨rfl, h⟩; subst w1)
  generalize hWW : w.setCell ⟨g, 5, none⟩ (.bool true) = W at *
  refine wp_region_held_drew (S := fun V => ∀ o, V.cell? ⟨g, o, none⟩ = W.cell? ⟨g, o, none⟩) (by kernel_rfl) (fun _ => rfl) (fun hHeld => ?_)
  refine wpAnyH_take (i := 0) (oi := { dst := some 12, op := Op.move (Operand.tmp 0), type := 34, pos := "writer.go:97", after := #[], guard := none }) (v := .pointer (some ⟨g, 0, none⟩)) rfl (by kernel_rfl) (by kernel_rfl) (by kernel_rfl) (fun _ _ _ h => h) (Or.inl ⟨by rfl, fun w' hw' => by (clear hw'; go_simp)⟩) hHeld ?_
  simp only [Act.put, List.setIfInBounds_toArray, List.set_cons_zero, List.set_cons_succ]
  refine wpAnyH_take (i := 1) (oi := { dst := some 13, op := Op.nilCheck (Operand.tmp 12), type := 0, pos := "writer.go:97", after := #[{ on := 0, ground := Ground.data }], guard := none }) (v := .pointer (some ⟨g, 0, none⟩)) rfl (by kernel_rfl) (by kernel_rfl) (by kernel_rfl) (fun _ _ _ h => h) (Or.inl ⟨by rfl, fun w' hw' => by (clear hw'; go_simp)⟩) hHeld ?_
  simp only [Act.put, List.setIfInBounds_toArray, List.set_cons_zero, List.set_cons_succ]
  refine wpAnyH_take (i := 2) (oi := { dst := some 14, op := Op.fieldAddr 157 (Operand.tmp 13) 0, type := 0, pos := "writer.go:97", after := #[{ on := 1, ground := Ground.data }], guard := none }) (v := .pointer (some ⟨g, 0, none⟩)) rfl (by kernel_rfl) (by kernel_rfl) (by kernel_rfl) (fun _ _ _ h => h) (Or.inl ⟨by rfl, fun w' hw' => by (clear hw'; go_simp)⟩) hHeld ?_
  simp only [Act.put, List.setIfInBounds_toArray, List.set_cons_zero, List.set_cons_succ]
  refine wpAnyH_take (i := 3) (oi := { dst := some 15, op := Op.load 25 (Operand.tmp 14), type := 25, pos := "writer.go:97", after := #[{ on := 2, ground := Ground.data }], guard := none }) (v := .pointer (some ⟨s, 0, none⟩)) rfl (by kernel_rfl) (by kernel_rfl) (by kernel_rfl) (fun _ _ _ h => h) (Or.inl ⟨by rfl, fun w' hw' => by (have q := (hw' 0).trans c0; clear hw'; go_simp)⟩) hHeld ?_
  simp only [Act.put, List.setIfInBounds_toArray, List.set_cons_zero, List.set_cons_succ]
  refine wpAnyH_take (i := 4) (oi := { dst := some 16, op := Op.move (Operand.tmp 0), type := 34, pos := "writer.go:97", after := #[], guard := none }) (v := .pointer (some ⟨g, 0, none⟩)) rfl (by kernel_rfl) (by kernel_rfl) (by kernel_rfl) (fun _ _ _ h => h) (Or.inl ⟨by rfl, fun w' hw' => by (clear hw'; go_simp)⟩) hHeld ?_
  simp only [Act.put, List.setIfInBounds_toArray, List.set_cons_zero, List.set_cons_succ]
  refine wpAnyH_take (i := 5) (oi := { dst := some 17, op := Op.nilCheck (Operand.tmp 16), type := 0, pos := "writer.go:97", after := #[{ on := 4, ground := Ground.data }], guard := none }) (v := .pointer (some ⟨g, 0, none⟩)) rfl (by kernel_rfl) (by kernel_rfl) (by kernel_rfl) (fun _ _ _ h => h) (Or.inl ⟨by rfl, fun w' hw' => by (clear hw'; go_simp)⟩) hHeld ?_
  simp only [Act.put, List.setIfInBounds_toArray, List.set_cons_zero, List.set_cons_succ]
  refine wpAnyH_take (i := 6) (oi := { dst := some 18, op := Op.fieldAddr 157 (Operand.tmp 17) 2, type := 0, pos := "writer.go:97", after := #[{ on := 5, ground := Ground.data }], guard := none }) (v := .pointer (some ⟨g, 2, none⟩)) rfl (by kernel_rfl) (by kernel_rfl) (by kernel_rfl) (fun _ _ _ h => h) (Or.inl ⟨by rfl, fun w' hw' => by (clear hw'; go_simp)⟩) hHeld ?_
  simp only [Act.put, List.setIfInBounds_toArray, List.set_cons_zero, List.set_cons_succ]
  refine wpAnyH_take (i := 7) (oi := { dst := some 19, op := Op.load 3 (Operand.tmp 18), type := 3, pos := "writer.go:97", after := #[{ on := 6, ground := Ground.data }], guard := none }) (v := .int .i64 (i : Int)) rfl (by kernel_rfl) (by kernel_rfl) (by kernel_rfl) (fun _ _ _ h => h) (Or.inl ⟨by rfl, fun w' hw' => by (have q := (hw' 2).trans c2; clear hw'; go_simp)⟩) hHeld ?_
  simp only [Act.put, List.setIfInBounds_toArray, List.set_cons_zero, List.set_cons_succ]
  refine wpAnyH_ready (rs := [8]) (by kernel_rfl) (by simp) ?_
  refine AllReadyH.cons (o := { dst := some 20, op := Op.call { callee := Callee.value (Operand.func 67), args := #[Operand.tmp 19], argTypes := #[3] }, type := 9, pos := "writer.go:97", after := #[{ on := 7, ground := Ground.data }], guard := none }) rfl (fun K hK => ?_) AllReadyH.nil
  go_simp
  refine (HTM.out _).mono ?_
  rintro e u1 ⟨rfl, hu1⟩
  subst u1
  go_wp2_with fail
  refine hK.out _ _ (fun _ => rfl) (fun hh => ?_)
  clear hK K hHeld
  have hHeld := hh
  clear hh
  try simp only [Act.put, List.setIfInBounds_toArray, List.set_cons_zero, List.set_cons_succ]
  refine wpAnyH_ready (rs := [9]) (by kernel_rfl) (by simp) ?_
  refine AllReadyH.cons (o := { dst := some 21, op := Op.call { callee := Callee.value (Operand.func 82), args := #[Operand.tmp 15, Operand.tmp 20], argTypes := #[25, 9] }, type := 26, pos := "writer.go:97", after := #[{ on := 3, ground := Ground.data }, { on := 8, ground := Ground.data }, { on := 8, ground := Ground.chain }], guard := none }) rfl (fun K hK => ?_) AllReadyH.nil
  go_simp
  refine HRM.out.mono ?_
  rintro e w4 ⟨rfl, hD⟩
  have HD := hid hD
  have HC4 : Hid (∀ o, w4.cell? ⟨g, o, none⟩ = W.cell? ⟨g, o, none⟩) := fun o => by obtain ⟨P', _, hk, _⟩ := hD; exact hk.cell (p := ⟨g, o, none⟩) hgW HHG.out
  clear hD
  go_wp2_with fail
  refine hK.out _ _ (HC4.out) (fun hh => ?_)
  clear hK K hHeld
  have hHeld := hh
  clear hh
  try simp only [Act.put, List.setIfInBounds_toArray, List.set_cons_zero, List.set_cons_succ]
  refine wpAnyH_take (i := 10) (oi := { dst := some 2, op := Op.assign (Operand.tmp 21), type := 26, pos := "writer.go:97", after := #[{ on := 9, ground := Ground.data }, { on := 9, ground := Ground.chain }, { on := 0, ground := Ground.phase }, { on := 1, ground := Ground.phase }, { on := 2, ground := Ground.phase }, { on := 3, ground := Ground.phase }, { on := 4, ground := Ground.phase }, { on := 5, ground := Ground.phase }, { on := 6, ground := Ground.phase }, { on := 7, ground := Ground.phase }, { on := 8, ground := Ground.phase }, { on := 9, ground := Ground.phase }], guard := none }) (v := .int .i64 (A.1 : Int)) rfl (by kernel_rfl) (by kernel_rfl) (by kernel_rfl) (fun _ _ _ h => h) (Or.inl ⟨by rfl, fun w' hw' => by (clear hw'; go_simp)⟩) hHeld ?_
  simp only [Act.put, List.setIfInBounds_toArray, List.set_cons_zero, List.set_cons_succ]
  refine wpAnyH_done (by kernel_rfl) ?_ _
  go_wp2_with fail
  go_ret
  obtain ⟨P', h1, h2, h3⟩ := HD.out
  obtain ⟨hKg, hW2, hz2⟩ := HZ.out
  refine ⟨rfl, (hW2.kp (L := No) ((Kp.refl _ _).drew) (fun h => h)).kp h2 hg, P', h1, ?_, fun x hx => ?_⟩
  · exact ((hKg.mono (M := fun x => P x ∨ x = g) (fun x hx => .inl (.inr hx))).drew).trans h2 (fun x hx => .inl (.inl hx))
  · rcases h3 x hx with e | e
    · exact .inl e
    · right
      have e2 : W.drew.heap.size = W.heap.size := rfl
      omega

def goodB (y : El) : Bool := rightB y.1.1 y.1.2.2.length
theorem good_right {y : El} (h : goodB y = true) (ho : elOk y) (hb : ∀ x ∈ y.1.2.2, 0 ≤ x ∧ x ≤ 255) : Rt y.1 := by
  simp [goodB, rightB] at h
  exact ⟨by omega, by omega, by omega, ho.1, ho.2, hb⟩
theorem n3T : Sim.nameB (nm (nameT 3)) = true := by
  have e : nameT 3 = ⟨#[116, 109, 112, 46, 51]⟩ := by decide +kernel
  rw [e]; decide
theorem n3P : Sim.nameB (nm (nameP 3)) = true := by
  have e : nameP 3 = ⟨#[112, 97, 99, 107, 46, 51]⟩ := by decide +kernel
  rw [e]; decide

/-- A pack that is being written: its records, on a disk that may be down; blocks of K are none of its. -/
structure PR (s b g x : Nat) (ar : Bool) (N : Nat) (K : Nat → Prop) (w wr : World) (rs : List Rec) : Prop where
  rt : ∀ r ∈ rs, Rt r
  size : (cat rs).length ≤ 12000
  wrt : WrAt wr g s b 3 ((cat rs).length : Nat) (rs.length : Nat) false
  tab : TabX wr b
  sys : ∃ P p d, Sim.Sys P N wr s p ∧ Beg (nm (nameT 3)) 99000 x ar d (nats (cat rs)) p ∧ ¬ P b ∧ ¬ P g ∧ (∀ y, P y → w.heap.size ≤ y) ∧ ∀ q, K q → ¬ P q
  keep : ∀ q, K q → q ≠ b ∧ q ≠ g ∧ q < wr.heap.size
  below : Below w.heap.size w wr
  gb : g ≠ b
  gB : w.heap.size ≤ g
  bB : w.heap.size ≤ b

section
variable {s b g x N : Nat} {ar : Bool} {K K' : Nat → Prop} {w wr V : World} {rs : List Rec}
theorem PR.kp {L : Nat → Prop} (h : PR s b g x ar N K w wr rs) (k : Kp L wr V) (hL : ∀ y, L y → K y ∧ w.heap.size ≤ y) : PR s b g x ar N K w V rs := by
  obtain ⟨P, p, d, h1, h2, h3, h4, h5, h6⟩ := h.sys
  have ng : ¬ L g := fun e => (h.keep g (hL g e).1).2.1 rfl
  have nb : ¬ L b := fun e => (h.keep b (hL b e).1).1 rfl
  exact ⟨h.rt, h.size, h.wrt.kp k ng, h.tab.kp k nb, ⟨P, p, d, h1.kp k (fun y hy => h6 y (hL y hy).1), h2, h3, h4, h5, h6⟩, fun q hq => ⟨(h.keep q hq).1, (h.keep q hq).2.1, Nat.lt_of_lt_of_le (h.keep q hq).2.2 k.size⟩,
    Kp.under h.below k (fun y hy => (hL y hy).2) h.below.size, h.gb, h.gB, h.bB⟩
theorem PR.on (h : PR s b g x ar N K w wr rs) (k : Below wr.heap.size wr V) : PR s b g x ar N K w V rs := h.kp (L := No) (Kp.below k) (fun _ hy => hy.elim)
/-- Other blocks are to be kept: those of before, or new ones. -/
theorem PR.re (h : PR s b g x ar N K w wr rs) (hK : ∀ q, K' q → (K q ∧ q < wr.heap.size) ∨ (∀ P p, Sim.Sys P N wr s p → ¬ P q) ∧ q ≠ b ∧ q ≠ g ∧ q < wr.heap.size) : PR s b g x ar N K' w wr rs := by
  obtain ⟨P, p, d, h1, h2, h3, h4, h5, h6⟩ := h.sys
  refine ⟨h.rt, h.size, h.wrt, h.tab, ⟨P, p, d, h1, h2, h3, h4, h5, fun q hq => ?_⟩, fun q hq => ?_, h.below, h.gb, h.gB, h.bB⟩
  · rcases hK q hq with e | e
    · exact h6 q e.1
    · exact e.1 P p h1
  · rcases hK q hq with e | e
    · exact h.keep q e.1
    · exact e.2
/-- A row of the caller's grows: its block stays, or is new. -/
theorem PR.grown {v v' : Value} (h : PR s b g x ar N (fun q => v.ownBlock = some q) w wr rs) (hg : wr.grownBy V v.ownBlock) (hv : v'.ownBlock = v.ownBlock ∨ v'.ownBlock = some wr.heap.size) (hs : ∀ q, v'.ownBlock = some q → q < V.heap.size) (hB : ∀ q, v.ownBlock = some q → w.heap.size ≤ q) :
    PR s b g x ar N (fun q => v'.ownBlock = some q) w V rs := by
  have hk : Kp (fun q => v.ownBlock = some q) wr V := Kp.ofGrown hg
  obtain ⟨P, p, d, h1, h2, h3, h4, h5, h6⟩ := h.sys
  have hw := h.wrt.lt
  have ht := h.tab.lt
  have h' := h.kp hk (fun y hy => ⟨hy, hB y hy⟩)
  refine ⟨h'.rt, h'.size, h'.wrt, h'.tab, ⟨P, p, d, h1.kp hk (fun y hy => h6 y hy), h2, h3, h4, h5, fun q hq => ?_⟩, fun q hq => ?_, h'.below, h.gb, h.gB, h.bB⟩
  · rcases hv with e | e
    · exact h6 q (by rw [← e]; exact hq)
    · intro hp
      have := h1.lt q hp
      have hq' : v'.ownBlock = some q := hq
      rw [e] at hq'
      have := Option.some.inj hq'
      omega
  · rcases hv with e | e
    · exact h'.keep q (by show v.ownBlock = some q; rw [← e]; exact hq)
    · have hq' : v'.ownBlock = some q := hq
      have hq2 := hq'
      rw [e] at hq2
      have e2 := Option.some.inj hq2
      exact ⟨by omega, by omega, hs q hq'⟩

theorem PR.add (h : PR s b g x ar N K w wr rs) (hN : N + 1 ≤ 1000) (hn : rs.length ≤ 1000) (y : El) (hy : elOk y) (hb : Tlv.BySl 0 w.heap.size w (elV y) y.1.2.2) (hV : Below wr.heap.size wr V) :
    Calls Tryz.prog 16 #[.pointer (some ⟨g, 0, none⟩), .agg (elC y).toArray] V fun e w' =>
      ((∃ f : Int, f ≠ 0 ∧ e = .returned (.tuple #[.int .i64 0, .int .i64 f]) ∧ PR s b g x ar (N + 1) K w w' rs) ∨
       (goodB y = true ∧ e = .returned (.tuple #[.int .i64 ((cat rs).length : Nat), .int .i64 0]) ∧ PR s b g x ar (N + 1) K w w' (rs ++ [y.1]))) ∧ Kp (fun q => ¬ K q) wr w' := by
  have h' := h.on hV
  obtain ⟨P, p, d, h1, h2, h3, h4, h5, h6⟩ := h'.sys
  have hbb : ∀ z ∈ y.1.2.2, 0 ≤ z ∧ z ≤ 255 := by obtain ⟨_, _, _, _, _, _, _, h, _⟩ := hb; exact h
  have hpx : (putX y.1.1 y.1.2.1 y.1.2.2).length ≤ 12000 := by
    unfold putX
    cases hr : rightB y.1.1 y.1.2.2.length with
    | false => simp
    | true =>
      have hR := good_right (y := y) hr hy hbb
      have e := frameR_length hR
      have := hR.2.2.1
      simp only [if_true]
      omega
  have hadd := addW_any (P := P) (N := N) V g s b 3 (cat rs).length rs.length p y.1.1 y.1.2.1 y.1.2.2 (elV y) (by omega) (by omega) h'.wrt h1 hN h'.tab h3 h4 h.gb
    (hb.agree (Agree.below h'.below) (Nat.le_refl _) h'.below.size) hy.1 hy.2 hpx h.size (by omega)
  refine hadd.mono ?_
  rintro e w' ⟨rfl, hW, hT, P', hS, hK, hP'⟩
  have hKV : Kp (fun q => ¬ K q) wr w' := (Kp.below hV).trans hK (fun z hz => by
    left
    intro hk
    rcases hz with hz | hz | hz
    · exact h6 z hk hz
    · exact (h.keep z hk).1 hz
    · exact (h.keep z hk).2.1 hz)
  have hbel : Below w.heap.size w w' := Kp.under h'.below hK (fun z hz => by
    rcases hz with hz | hz | hz
    · exact h5 z hz
    · rw [hz]; exact h.bB
    · rw [hz]; exact h.gB) h'.below.size
  have hng : ¬ P' g := fun e => by
    rcases hP' g e with e | e
    · exact h4 e
    · have := h'.wrt.lt; omega
  have hnb : ¬ P' b := fun e => by
    rcases hP' b e with e | e
    · exact h3 e
    · have := h'.tab.lt; omega
  have hlow : ∀ z, P' z → w.heap.size ≤ z := fun z hz => by
    rcases hP' z hz with e | e
    · exact h5 z e
    · have := h'.below.size; omega
  have hkk : ∀ q, K q → ¬ P' q := fun q hq e => by
    rcases hP' q e with e | e
    · exact h6 q hq e
    · have := (h'.keep q hq).2.2; omega
  have hkp : ∀ q, K q → q ≠ b ∧ q ≠ g ∧ q < w'.heap.size := fun q hq => ⟨(h.keep q hq).1, (h.keep q hq).2.1, Nat.lt_of_lt_of_le (h'.keep q hq).2.2 hK.size⟩
  rcases beg_add h2 n3T (cat rs).length rs.length (putX y.1.1 y.1.2.1 y.1.2.2) (rightB y.1.1 y.1.2.2.length) (nats_length _) (by omega) with ⟨f, d', q, hf, he, hq⟩ | ⟨hR, hl, q, he, hq⟩
  · rw [he] at hW hS ⊢
    exact ⟨.inl ⟨f, hf, rfl, h.rt, h.size, hW, hT, ⟨P', q, d', hS, hq, hnb, hng, hlow, hkk⟩, hkp, hbel, h.gb, h.gB, h.bB⟩, hKV⟩
  · rw [he] at hW hS ⊢
    have hRt := good_right (y := y) hR hy hbb
    have hpe : putX y.1.1 y.1.2.1 y.1.2.2 = frOf y.1 := by rw [putX, hR]; rfl
    rw [hpe] at hl hW hq
    refine ⟨.inr ⟨hR, rfl, fun r hr => ?_, ?_, ?_, hT, ⟨P', q, false, hS, ?_, hnb, hng, hlow, hkk⟩, hkp, hbel, h.gb, h.gB, h.bB⟩, hKV⟩
    · rcases List.mem_append.1 hr with hr | hr
      · exact h.rt r hr
      · rw [List.mem_singleton.1 hr]; exact hRt
    · rw [cat_snoc, List.length_append]; exact hl
    · rw [cat_snoc, List.length_append, List.length_append]; exact hW
    · rw [cat_snoc, nats_append]; exact hq
end
end Go.Proofs.YtkekajmmcjacgaaGreatDoor
end

section
/-
  The names of any id.
-/
namespace Go.Proofs.YtkekajmmcjacgaaGreatDoor
open Go.RowKit Go.Shelf
open Sim (hid)

/-- A name of that sort, of any id. -/
def nameZ (p : ByteArray) (z : Int) : ByteArray := if idB z then p ++ ⟨(Lib.itoa z).toArray⟩ else ⟨#[]⟩

set_option maxHeartbeats 1000000 in
theorem name_any (p : ByteArray) (hp : p.size ≤ 100) (z : Int) (w : World) (htab : Lib.TabIs Tryz.prog w "internal/strconv.uint64pow10" .u64 Lib.pow10Tab) :
    Calls Tryz.prog 115 #[.string p, .int .i64 z] w fun e w' => e = .returned (.string (nameZ p z)) ∧ Below w.heap.size w w' := by
  cases hid1 : idB z with
  | false =>
    go_enter Tryz.func115, Tryz.ntmps115
    go_wp2_with (go_at_call 64; refine (isID_any _ _).mono ?_; rintro e w1 ⟨rfl, h⟩; subst w1; rw [hid1])
    go_ret
    exact ⟨by rw [nameZ, hid1]; rfl, Below.refl _ _⟩
  | true =>
    have hz : 1 ≤ z ∧ z ≤ 999999 := by simpa [idB] using hid1
    have HI : Hid (Calls Tryz.prog 163 #[.int .i64 z] w fun e w' => e = .returned (.string ⟨(Lib.itoa z).toArray⟩) ∧ Below w.heap.size w w') := by
      refine (Any.strconv_Itoa Sim.Tryz.itoa z (by omega) (by omega) w htab).mono ?_
      rintro e w' ⟨rfl, k, os, rfl⟩
      exact ⟨rfl, Lib.below_grow _ _ (Nat.le_refl _) _ _⟩
    have hl := Lib.itoa_length_le z (by omega) (by omega)
    have hsz : ¬ 9223372036854775807 < p.size + (Lib.itoa z).length := by omega
    go_enter Tryz.func115, Tryz.ntmps115
    go_wp2_with (first
      | (go_at_call 64; refine (isID_any _ _).mono ?_; rintro e w1 ⟨rfl, h⟩; subst w1; rw [hid1])
      | (go_at_call 163; refine HI.out.mono ?_; rintro e w2 ⟨rfl, h⟩; have HG := Sim.hid h; clear h))
    go_ret
    exact ⟨by rw [nameZ, hid1]; rfl, HG.out⟩

theorem pname_any (z : Int) (w : World) (htab : Lib.TabIs Tryz.prog w "internal/strconv.uint64pow10" .u64 Lib.pow10Tab) : Calls Tryz.prog 49 #[.int .i64 z] w fun e w' => e = .returned (.string (nameZ ⟨#[112, 97, 99, 107, 46]⟩ z)) ∧ Below w.heap.size w w' := by
  have HN := hid (name_any ⟨#[112, 97, 99, 107, 46]⟩ (by decide) z w htab)
  go_enter Tryz.func49, Tryz.ntmps49
  go_wp2_with (go_at_call 115; refine HN.out.mono ?_; rintro e w1 ⟨rfl, h⟩; have HB := hid h; clear h)
  go_ret
  exact ⟨rfl, HB.out⟩
theorem ptemp_any (z : Int) (w : World) (htab : Lib.TabIs Tryz.prog w "internal/strconv.uint64pow10" .u64 Lib.pow10Tab) : Calls Tryz.prog 67 #[.int .i64 z] w fun e w' => e = .returned (.string (nameZ ⟨#[116, 109, 112, 46]⟩ z)) ∧ Below w.heap.size w w' := by
  have HN := hid (name_any ⟨#[116, 109, 112, 46]⟩ (by decide) z w htab)
  go_enter Tryz.func67, Tryz.ntmps67
  go_wp2_with (go_at_call 115; refine HN.out.mono ?_; rintro e w1 ⟨rfl, h⟩; have HB := hid h; clear h)
  go_ret
  exact ⟨rfl, HB.out⟩
end Go.Proofs.YtkekajmmcjacgaaGreatDoor
end

section
/-
  Digits, and what they tell.
-/
namespace Go.Proofs.YtkekajmmcjacgaaGreatDoor
open Go.RowKit Go.Shelf
open Sim (hid)

def digB (c : UInt8) : Bool := decide (48 ≤ c.toNat) && decide (c.toNat ≤ 57)
/-- What digits tell, behind a number. -/
def valD (a : Nat) (l : List UInt8) : Nat := l.foldl (fun a c => a * 10 + (c.toNat - 48)) a
theorem valD_append (a : Nat) (l m : List UInt8) : valD a (l ++ m) = valD (valD a l) m := by unfold valD; rw [List.foldl_append]
theorem dig_of {i : Nat} (h : i < 10) : (UInt8.ofNat (48 + i)).toNat = 48 + i := by
  rw [UInt8.toNat_ofNat']
  omega
theorem dec_step {u : Nat} (h : ¬ u < 10) : Lib.decDigits u = Lib.decDigits (u / 10) ++ [UInt8.ofNat (48 + u % 10)] := by
  rw [Lib.decDigits, dif_neg h]
theorem dec_digs (u : Nat) : ∀ c ∈ Lib.decDigits u, digB c = true := by
  induction u using Nat.strongRecOn with
  | _ u ih =>
    by_cases h : u < 10
    · rw [Lib.decDigits_one h]
      intro c hc
      rw [List.mem_singleton] at hc
      subst hc
      unfold digB
      rw [dig_of h]
      simp
      omega
    · rw [dec_step h]
      intro c hc
      rcases List.mem_append.1 hc with hc | hc
      · exact ih (u / 10) (by omega) c hc
      · rw [List.mem_singleton] at hc
        subst hc
        have : u % 10 < 10 := by omega
        unfold digB
        rw [dig_of this]
        simp
        omega
theorem dec_val (u : Nat) : valD 0 (Lib.decDigits u) = u := by
  induction u using Nat.strongRecOn with
  | _ u ih =>
    by_cases h : u < 10
    · rw [Lib.decDigits_one h]
      show 0 * 10 + ((UInt8.ofNat (48 + u)).toNat - 48) = u
      rw [dig_of h]
      omega
    · rw [dec_step h, valD_append, ih (u / 10) (by omega)]
      have : u % 10 < 10 := by omega
      show u / 10 * 10 + ((UInt8.ofNat (48 + u % 10)).toNat - 48) = u
      rw [dig_of this]
      omega
theorem dec_pos (u : Nat) : 1 ≤ (Lib.decDigits u).length := by
  by_cases h : u < 10
  · rw [Lib.decDigits_one h]; simp
  · rw [dec_step h]; simp
theorem dec_len : ∀ (k u : Nat), u < 10 ^ (k + 1) → (Lib.decDigits u).length ≤ k + 1
  | 0, u, h => by rw [Lib.decDigits_one (by simpa using h)]; simp
  | k + 1, u, h => by
    by_cases h1 : u < 10
    · rw [Lib.decDigits_one h1]; simp
    · rw [dec_step h1, List.length_append, List.length_singleton]
      have := dec_len k (u / 10) (by rw [Nat.pow_succ] at h; omega)
      omega
theorem dec_six {u : Nat} (h : u ≤ 999999) : (Lib.decDigits u).length ≤ 6 := dec_len 5 u (by have : (10 : Nat) ^ 6 = 1000000 := by decide
                                                                                             omega)
theorem valD_le : ∀ (l : List UInt8) (a : Nat), l.all digB = true → valD a l < (a + 1) * 10 ^ l.length
  | [], a, _ => by simp [valD]
  | c :: r, a, h => by
    simp only [List.all_cons, Bool.and_eq_true] at h
    have hc : c.toNat ≤ 57 ∧ 48 ≤ c.toNat := by have := h.1; simp [digB] at this; omega
    have := valD_le r (a * 10 + (c.toNat - 48)) h.2
    have e : valD a (c :: r) = valD (a * 10 + (c.toNat - 48)) r := rfl
    rw [e, List.length_cons, Nat.pow_succ]
    refine Nat.lt_of_lt_of_le this ?_
    have h10 : a * 10 + (c.toNat - 48) + 1 ≤ (a + 1) * 10 := by omega
    have := Nat.mul_le_mul_right (10 ^ r.length) h10
    rw [Nat.mul_assoc, Nat.mul_comm 10] at this
    exact this
theorem parse_digs : ∀ (l : List UInt8) (a : Nat), l.all digB = true → (a + 1) * 10 ^ l.length ≤ 1000000000000 → Lib.parseUint10 a l = .ok (valD a l)
  | [], a, _, _ => rfl
  | c :: r, a, h, hb => by
    simp only [List.all_cons, Bool.and_eq_true] at h
    have hc : 48 ≤ c.toNat ∧ c.toNat ≤ 57 := by have := h.1; simp [digB] at this; exact this
    rw [List.length_cons, Nat.pow_succ] at hb
    have hp : 1 ≤ 10 ^ r.length := Nat.one_le_pow _ _ (by omega)
    have h10 : a * 10 + (c.toNat - 48) + 1 ≤ (a + 1) * 10 := by omega
    have hb' : (a * 10 + (c.toNat - 48) + 1) * 10 ^ r.length ≤ 1000000000000 := by
      refine Nat.le_trans (Nat.mul_le_mul_right _ h10) ?_
      rw [Nat.mul_assoc, Nat.mul_comm 10]
      exact hb
    have ha : a * 10 + (c.toNat - 48) + 1 ≤ 1000000000000 := Nat.le_trans (Nat.le_mul_of_pos_right _ hp) hb'
    unfold Lib.parseUint10
    rw [if_pos hc, if_neg (by omega), if_neg (by omega), parse_digs r _ h.2 hb']
    rfl

/-! ### The id of a name -/
/-- Those of that sort. -/
theorem nameZ_of {p : ByteArray} {u : Nat} (h1 : 1 ≤ u) (h2 : u ≤ 999999) : nameZ p (u : Int) = p ++ ⟨(Lib.decDigits u).toArray⟩ := by
  have : idB (u : Int) = true := by simp [idB]; omega
  rw [nameZ, this, if_pos rfl, Lib.itoa_nonneg]
/-- What a number tells, or none. -/
def idAt (p s : ByteArray) : Lib.NumEnd Int → Int × Bool
  | .ok v => if nameZ p v = s then (v, true) else (0, false)
  | _ => (0, false)
/-- What ID tells: by the rest behind the prefix. -/
def idOf (p s : ByteArray) : Int × Bool :=
  if Lib.hasPrefix s.data.toList p.data.toList = true then idAt p s (Lib.atoiAll (Lib.trimPrefix s.data.toList p.data.toList)) else (0, false)
theorem atoi_dec {u : Nat} (h : u ≤ 999999) : Lib.atoiAll (Lib.decDigits u) = .ok (u : Int) := by
  have hd := dec_digs u
  have hl := dec_six h
  have hp := dec_pos u
  have hv := dec_val u
  generalize Lib.decDigits u = l at *
  cases l with
  | nil => simp at hp
  | cons c r =>
    have hc : 48 ≤ c.toNat ∧ c.toNat ≤ 57 := by have := hd c (by simp); simp [digB] at this; exact this
    have hall : (c :: r).all digB = true := List.all_eq_true.2 hd
    have hlen : (0 + 1) * 10 ^ (c :: r).length ≤ 1000000000000 := by
      have : 10 ^ (c :: r).length ≤ 10 ^ 6 := Nat.pow_le_pow_right (by omega) hl
      have e : (10 : Nat) ^ 6 = 1000000 := by decide
      omega
    unfold Lib.atoiAll
    simp only
    rw [if_neg (by omega)]
    unfold Lib.parseMag
    rw [if_neg (by simp), parse_digs _ _ hall hlen, hv]
    simp only
    rw [if_neg (by omega), if_neg (by omega), if_neg (by omega)]
theorem bytes_inj {a b : ByteArray} (h : a.data.toList = b.data.toList) : a = b := by
  cases a; cases b; simp at h; rw [h]
theorem app_data (p : ByteArray) (l : List UInt8) : (p ++ ⟨l.toArray⟩ : ByteArray).data.toList = p.data.toList ++ l := by
  simp [ByteArray.data_append]
theorem pre_app (p l : List UInt8) : Lib.hasPrefix (p ++ l) p = true := by
  unfold Lib.hasPrefix
  exact List.isPrefixOf_iff_prefix.2 (List.prefix_append p l)
theorem trim_app (p l : List UInt8) : Lib.trimPrefix (p ++ l) p = l := by
  unfold Lib.trimPrefix
  rw [if_pos (pre_app p l), List.drop_left]
/-- A pack's name has its id. -/
theorem idOf_name {p : ByteArray} {u : Nat} (h1 : 1 ≤ u) (h2 : u ≤ 999999) : idOf p (nameZ p (u : Int)) = ((u : Int), true) := by
  have e := nameZ_of (p := p) h1 h2
  have hd : (nameZ p (u : Int)).data.toList = p.data.toList ++ Lib.decDigits u := by rw [e, app_data]
  unfold idOf
  rw [hd, if_pos (pre_app _ _), trim_app, atoi_dec h2]
  show (if nameZ p (u : Int) = nameZ p (u : Int) then ((u : Int), true) else (0, false)) = _
  rw [if_pos rfl]
/-- What is told is a name's id. -/
theorem idOf_yes {p s : ByteArray} {v : Int} (hp : 1 ≤ p.size) (h : idOf p s = (v, true)) : 1 ≤ v ∧ v ≤ 999999 ∧ nameZ p v = s := by
  unfold idOf at h
  split at h
  · rename_i hh
    unfold idAt at h
    split at h
    · rename_i v' _
      split at h
      · rename_i hn
        simp only [Prod.mk.injEq, and_true] at h
        subst h
        have hid1 : idB v' = true := by
          cases hi : idB v' with
          | true => rfl
          | false =>
            rw [nameZ, hi, if_neg (by simp)] at hn
            rw [← hn] at hh
            have hl := (List.isPrefixOf_iff_prefix.1 hh).length_le
            rw [← Lib.size_eq] at hl
            have : (⟨#[]⟩ : ByteArray).data.toList.length = 0 := rfl
            omega
        have : 1 ≤ v' ∧ v' ≤ 999999 := by simpa [idB] using hid1
        exact ⟨this.1, this.2, hn⟩
      · simp at h
    · simp at h
  · simp at h
theorem idOf_no {p s : ByteArray} (h : (idOf p s).2 = false) : idOf p s = (0, false) := by
  unfold idOf at h ⊢
  split
  · rename_i hh
    rw [if_pos hh] at h
    generalize Lib.atoiAll (Lib.trimPrefix s.data.toList p.data.toList) = e at *
    cases e with
    | ok v =>
      unfold idAt at h ⊢
      simp only at h ⊢
      split
      · rename_i hn; rw [if_pos hn] at h; simp at h
      · rfl
    | «syntax» => rfl
    | range => rfl
  · rfl
/-- Told apart: the one id whose name it is. -/
theorem idOf_eq {p s : ByteArray} (hp : 1 ≤ p.size) (a : Int × Bool) (h1 : a.2 = true → 1 ≤ a.1 ∧ a.1 ≤ 999999 ∧ nameZ p a.1 = s) (h2 : a.2 = false → a.1 = 0 ∧ ∀ u : Nat, 1 ≤ u → u ≤ 999999 → nameZ p (u : Int) ≠ s) : idOf p s = a := by
  obtain ⟨v, b⟩ := a
  cases b with
  | true =>
    obtain ⟨g1, g2, g3⟩ := h1 rfl
    simp only at g1 g2 g3
    obtain ⟨u, rfl⟩ : ∃ u : Nat, v = u := ⟨v.toNat, by omega⟩
    rw [← g3]
    exact idOf_name (by omega) (by omega)
  | false =>
    obtain ⟨g1, g2⟩ := h2 rfl
    simp only at g1
    subst g1
    refine idOf_no ?_
    cases hb : (idOf p s).2 with
    | false => rfl
    | true =>
      have e : idOf p s = ((idOf p s).1, true) := by rw [← hb]
      obtain ⟨h3, h4, h5⟩ := idOf_yes hp e
      obtain ⟨u, hu⟩ : ∃ u : Nat, (idOf p s).1 = u := ⟨(idOf p s).1.toNat, by omega⟩
      rw [hu] at h3 h4 h5
      exact absurd h5 (g2 u (by omega) (by omega))

end Go.Proofs.YtkekajmmcjacgaaGreatDoor
end

section
/-
  The id of any name.
-/
namespace Go.Proofs.YtkekajmmcjacgaaGreatDoor
open Go.RowKit Go.Shelf
open Sim (hid)

/-- The variables of strconv that are read: a table, two errors. -/
structure Vars (w : World) : Prop where
  tab : Lib.TabIs Tryz.prog w "internal/strconv.uint64pow10" .u64 Lib.pow10Tab
  syn : ∃ tp p, w.var? Tryz.prog "strconv.ErrSyntax" = some #[.iface tp p]
  rng : ∃ tp p, w.var? Tryz.prog "strconv.ErrRange" = some #[.iface tp p]
theorem var_below {w w' : World} {n : String} {cs : Array Value} (k : Below w.heap.size w w') (h : w.var? Tryz.prog n = some cs) : w'.var? Tryz.prog n = some cs := by
  unfold World.var? at h ⊢
  cases hg : Tryz.prog.globalNamed n with
  | none => rw [hg] at h; cases h
  | some g =>
    rw [hg] at h
    simp only [Option.bind_some] at h ⊢
    have hlt : g < w.heap.size := by
      rcases Nat.lt_or_ge g w.heap.size with h' | h'
      · exact h'
      · rw [Array.getElem?_eq_none h'] at h; cases h
    rw [k.block g hlt]
    exact h
theorem Vars.below {w w' : World} (h : Vars w) (k : Below w.heap.size w w') : Vars w' := by
  obtain ⟨h1, ⟨t2, p2, h2⟩, ⟨t3, p3, h3⟩⟩ := h
  exact ⟨var_below k h1, ⟨t2, p2, var_below k h2⟩, ⟨t3, p3, var_below k h3⟩⟩

/-- Atoi of any text: a number, or an error that is not nil. -/
theorem atoi_any (s : ByteArray) (hs : s.size ≤ 20000000) (w : World) (hv : Vars w) : Calls Tryz.prog 154 #[.string s] w fun e w' => (∃ (z : Int) (er : Value), e = .returned (.tuple #[.int .i64 z, er]) ∧ ((er = .nilIface ∧ Lib.atoiAll s.data.toList = .ok z) ∨ ((∃ t a, er = .iface t (.pointer (some a))) ∧ ∀ v, Lib.atoiAll s.data.toList ≠ .ok v))) ∧ Below w.heap.size w w' := by
  cases h : Lib.atoiAll s.data.toList with
  | ok v =>
    refine (Any.strconv_Atoi_ok Sim.Tryz.atoi s (by omega) v h w).mono ?_
    rintro e w' ⟨rfl, hw⟩
    refine ⟨⟨v, .nilIface, rfl, .inl ⟨rfl, rfl⟩⟩, ?_⟩
    rcases hw with rfl | ⟨t, rfl⟩
    · exact Below.refl _ _
    · exact Lib.bytesWorld_below _ _ _
  | «syntax» =>
    obtain ⟨tp, p, hp⟩ := hv.syn
    refine (Any.strconv_Atoi_syntax_var Sim.Tryz.atoi s (by omega) h tp p w hp).mono ?_
    rintro e w' ⟨N, rfl, _, _, hb⟩
    exact ⟨⟨0, _, rfl, .inr ⟨⟨_, _, rfl⟩, fun v hv => by cases hv⟩⟩, hb⟩
  | range =>
    obtain ⟨tp, p, hp⟩ := hv.rng
    refine (Any.strconv_Atoi_range_var Sim.Tryz.atoi s (by omega) h tp p w hp).mono ?_
    rintro e w' ⟨N, rfl, _, _, hb⟩
    exact ⟨⟨_, _, rfl, .inr ⟨⟨_, _, rfl⟩, fun v hv => by cases hv⟩⟩, hb⟩

set_option maxHeartbeats 4000000 in
theorem pid_any (p : ByteArray) (hp : p.size ≤ 100) (s : ByteArray) (hs : s.size ≤ 20000000) (w : World) (hv : Vars w) :
    Calls Tryz.prog 104 #[.string p, .string s] w fun e w' => e = .returned (.tuple #[.int .i64 (idOf p s).1, .bool (idOf p s).2]) ∧ Below w.heap.size w w' := by
  have HCUT := hid (Any.strings_CutPrefix Sim.Tryz.cut s p w)
  cases hh : Lib.hasPrefix s.data.toList p.data.toList with
  | false =>
    have e : idOf p s = (0, false) := by unfold idOf; rw [hh]; rfl
    rw [e]
    rw [hh] at HCUT
    clear hh e
    go_enter Tryz.func104, Tryz.ntmps104
    go_wp2_with (go_at_call 153; refine HCUT.out.mono ?_; rintro e w1 ⟨rfl, h⟩; subst w1)
    go_ret2
    exact ⟨rfl, Below.refl _ _⟩
  | true =>
    rw [hh] at HCUT
    have hr : (⟨(Lib.trimPrefix s.data.toList p.data.toList).toArray⟩ : ByteArray).size ≤ 20000000 := by
      have h1 : (Lib.trimPrefix s.data.toList p.data.toList).length ≤ s.size := by
        unfold Lib.trimPrefix
        rw [Lib.size_eq, if_pos hh, List.length_drop]
        omega
      have h2 : (⟨(Lib.trimPrefix s.data.toList p.data.toList).toArray⟩ : ByteArray).size = (Lib.trimPrefix s.data.toList p.data.toList).length := by rw [Lib.size_eq]
      omega
    have HAT := hid (atoi_any ⟨(Lib.trimPrefix s.data.toList p.data.toList).toArray⟩ hr w hv)
    have HV := hid hv
    have HI : Hid (idOf p s = idAt p s (Lib.atoiAll (Lib.trimPrefix s.data.toList p.data.toList))) := by unfold Hid idOf; rw [if_pos hh]
    have hd : (⟨(Lib.trimPrefix s.data.toList p.data.toList).toArray⟩ : ByteArray).data.toList = Lib.trimPrefix s.data.toList p.data.toList := rfl
    rw [hd] at HAT
    generalize Lib.trimPrefix s.data.toList p.data.toList = l at *
    obtain ⟨x, hx⟩ : ∃ x, idOf p s = x := ⟨_, rfl⟩
    rw [hx] at HI ⊢
    clear hh hr hd hx hv
    go_enter Tryz.func104, Tryz.ntmps104
    go_wp2_with fail
    refine HCUT.out.mono ?_
    rintro e w1 ⟨rfl, h⟩
    subst w1
    go_wp2_with fail
    refine HAT.out.mono ?_
    rintro e w2 ⟨⟨z, er, rfl, hz⟩, hb⟩
    have HB := hid hb
    have HV2 := hid (HV.out.below hb)
    clear hb
    rcases hz with ⟨rfl, hz⟩ | ⟨⟨t, a, rfl⟩, hz⟩
    · rw [hz, show idAt p s (.ok z) = if nameZ p z = s then (z, true) else (0, false) from rfl] at HI
      have HN := hid (name_any p hp z w2 HV2.out.tab)
      by_cases hq : nameZ p z = s
      · rw [if_pos hq] at HI
        rw [hq] at HN
        have heq : (s.toList == s.toList) = true := by simp
        clear hq hz
        go_wp2_with (go_at_call 115; refine HN.out.mono ?_; rintro e w3 ⟨rfl, h⟩; have HB3 := hid h; clear h)
        go_ret2
        exact ⟨by rw [HI.out]; rfl, HB.out.trans (HB3.out.mono HB.out.size)⟩
      · rw [if_neg hq] at HI
        have heq : ((nameZ p z).toList == s.toList) = false := by
          rw [beq_eq_false_iff_ne, ByteArray.toList_eq, ByteArray.toList_eq]
          exact fun e => hq (bytes_inj e)
        generalize nameZ p z = nz at *
        clear hq hz
        go_wp2_with (go_at_call 115; refine HN.out.mono ?_; rintro e w3 ⟨rfl, h⟩; have HB3 := hid h; clear h)
        go_ret2
        exact ⟨by rw [HI.out]; rfl, HB.out.trans (HB3.out.mono HB.out.size)⟩
    · have HX : Hid (x = (0, false)) := by
        rw [Hid, HI.out]
        cases hl : Lib.atoiAll l with
        | ok v => exact absurd hl (hz v)
        | «syntax» => rfl
        | range => rfl
      clear hz HI
      go_wp2
      go_ret2
      exact ⟨by rw [HX.out]; rfl, HB.out⟩

theorem ID_any (s : ByteArray) (hs : s.size ≤ 20000000) (w : World) (hv : Vars w) : Calls Tryz.prog 63 #[.string s] w fun e w' => e = .returned (.tuple #[.int .i64 (idOf ⟨#[112, 97, 99, 107, 46]⟩ s).1, .bool (idOf ⟨#[112, 97, 99, 107, 46]⟩ s).2]) ∧ Below w.heap.size w w' := by
  have HA := hid (pid_any ⟨#[112, 97, 99, 107, 46]⟩ (by decide) s hs w hv)
  generalize idOf ⟨#[112, 97, 99, 107, 46]⟩ s = x at *
  go_enter Tryz.func63, Tryz.ntmps63
  go_wp2_with (go_at_call 104; refine HA.out.mono ?_; rintro e w1 ⟨rfl, h⟩; have HB := hid h; clear h)
  go_ret2
  exact ⟨rfl, HB.out⟩

end Go.Proofs.YtkekajmmcjacgaaGreatDoor
end

section
/-
  What is picked of the names that are seen: temporary ones; and their cleaning.
-/
namespace Go.Proofs.YtkekajmmcjacgaaGreatDoor
open Go.RowKit Go.Shelf
open Sim (hid Kp No PS Done Blk nm finds pBytes pRemove pSyncDir pList Nm OwnN Row)

def tmpL : List UInt8 := [116, 109, 112, 46]
/-- Is it a temporary name? -/
def isTmp (n : Nm) : Bool := Lib.hasPrefix n tmpL

theorem own_any (n : Nm) (w : World) : Calls Tryz.prog 108 #[.string ⟨#[116, 109, 112, 46]⟩, .string ⟨n.toArray⟩] w fun e w' => ∃ t, e = .returned (.tuple #[.string t, .bool (isTmp n)]) ∧ (isTmp n = true → t = ⟨n.toArray⟩) ∧ w' = w := by
  have HP := hid (Any.strings_HasPrefix Sim.Tryz.hasP ⟨n.toArray⟩ ⟨#[116, 109, 112, 46]⟩ w)
  have e : Lib.hasPrefix (⟨n.toArray⟩ : ByteArray).data.toList (⟨#[116, 109, 112, 46]⟩ : ByteArray).data.toList = isTmp n := rfl
  rw [e] at HP
  clear e
  cases hb : isTmp n with
  | true =>
    rw [hb] at HP
    clear hb
    go_enter Tryz.func108, Tryz.ntmps108
    go_wp2_with (go_at_call 157; refine HP.out.mono ?_; rintro e w1 ⟨rfl, h⟩; subst w1)
    go_ret2
    exact ⟨_, rfl, fun _ => rfl, rfl⟩
  | false =>
    rw [hb] at HP
    clear hb
    go_enter Tryz.func108, Tryz.ntmps108
    go_wp2_with (go_at_call 157; refine HP.out.mono ?_; rintro e w1 ⟨rfl, h⟩; subst w1)
    go_ret2
    exact ⟨_, rfl, fun h => (by cases h), rfl⟩

theorem infoS : (Tryz.prog.info? 9).map (fun i => (i.zero, i.size, i.bytes)) = some (some (.string ⟨#[]⟩), 1, 16) := by kernel_rfl
theorem run_onestr (s : ByteArray) (w : World) : (Instr.buildSlice 80 1 #[(0, .string s)]).run Tryz.prog w = .ok (.slice (some ⟨w.heap.size, 0, none⟩) 1 1) (w.alloc (.cells #[.string s] 9)) := by kernel_rfl
theorem OwnN.cell {w : World} {g n cap : Nat} {ns : List Nm} (h : OwnN w (.slice (some ⟨g, 0, none⟩) n cap) ns) (hn : n = ns.length) (k : Nat) {x : Nm} (hk : ns[k]? = some x) : w.cell? ⟨g, k, none⟩ = some (.string ⟨x.toArray⟩) := by
  subst hn
  have hl := (List.getElem?_eq_some_iff.1 hk).1
  have h' : Row w 9 1 (.slice (some ⟨g, 0, none⟩) ns.length cap) ns.length (ns.map encStr) := h
  rw [h'.cellAt k (by omega), List.getElem?_map, hk]
  rfl
theorem OwnN.form {w : World} {v : Value} {ns : List Nm} (h : OwnN w v ns) : ∃ a c, v = .slice a ns.length c ∧ (ns ≠ [] → ∃ g, a = some ⟨g, 0, none⟩) := by
  have h' : Row w 9 1 v ns.length (ns.map encStr) := h
  obtain ⟨a, c, h1, _, _, h2, h3⟩ := h'.shape
  refine ⟨a, c, h1, fun hne => ?_⟩
  cases a with
  | none => exact absurd (List.length_eq_zero_iff.1 (h2 rfl).1) hne
  | some q =>
    obtain ⟨gq, oq, sq⟩ := q
    obtain ⟨h4, h5⟩ := h3 _ rfl
    simp only at h4 h5
    subst h4 h5
    exact ⟨gq, rfl⟩

set_option maxHeartbeats 2000000 in
set_option maxRecDepth 100000 in
theorem pickS_any {P : Nat → Prop} {N : Nat} (w : World) (s : Nat) (p : PS) (h : Sim.Sys P N w s p) :
    Calls Tryz.prog 107 #[.pointer (some ⟨s, 0, none⟩), .func (.func 108) #[.string ⟨#[116, 109, 112, 46]⟩] #[]] w fun e w' => ∃ u, e = .returned u ∧ OwnN w' u ((pList p).filter isTmp) ∧ (∀ x, u.ownBlock = some x → w.heap.size ≤ x) ∧ Kp No w w' := by
  have HL := hid (Sim.list_any w s p h)
  have hlen : (pList p).length ≤ 1000 := by
    have h1 := h.inv.lseen
    have h2 := h.inv.big
    unfold pList
    split
    · simp
    · rw [List.length_map]; omega
  obtain ⟨L, hL⟩ : ∃ L, pList p = L := ⟨_, rfl⟩
  rw [hL] at HL hlen ⊢
  clear hL h
  go_enter Tryz.func107, Tryz.ntmps107
  go_wp2_with fail
  refine HL.out.mono ?_
  rintro e w1 ⟨u, rfl, hu, hub, hk⟩
  obtain ⟨ua, uc, rfl, hform⟩ := OwnN.form hu
  have HU := hid (And.intro hu (And.intro hub (And.intro hk hform)))
  have HK1 := hid hk
  clear hu hub hk hform
  go_wp2_with fail
  go_loopw [5, 13] (fun v i wr => ∃ (k : Nat) (a : Option Addr) (m c : Nat), k ≤ L.length ∧ i = .int .i64 (k : Int) ∧ v = .slice a m c ∧ m ≤ k ∧ Hid (m = ((L.take k).filter isTmp).length ∧ OwnN wr (.slice a m c) ((L.take k).filter isTmp) ∧ (∀ x, (Value.slice a m c).ownBlock = some x → w1.heap.size ≤ x) ∧ Kp No w1 wr)) (fun _ i _ => L.length - (intOf i).toNat)
  case atStart => exact ⟨0, none, 0, 0, Nat.zero_le _, rfl, rfl, Nat.le_refl _, by simp, Row.nil _ _ _, (by intro x hx; cases hx), Kp.refl _ _⟩
  case round =>
    obtain ⟨k, a, m, c, hk, rfl, rfl, hmk, HS⟩ := hrel
    by_cases hlt : k < L.length
    · have hltI : (k : Int) < (L.length : Int) := by omega
      obtain ⟨n, hn⟩ : ∃ n, L[k]? = some n := ⟨_, List.getElem?_eq_getElem hlt⟩
      obtain ⟨hu, hub, hk1, hform⟩ := HU.out
      obtain ⟨gu, rfl⟩ := hform (by intro e; rw [e] at hlt; simp at hlt)
      obtain ⟨hm, hrow, hblk, hkr⟩ := HS.out
      have cu : wr.cell? ⟨gu, k, none⟩ = some (.string ⟨n.toArray⟩) := OwnN.cell (Row.kept hu hkr) rfl k hn
      have HOWN := hid (own_any n wr)
      have HN := hid hn
      have HX := hid (And.intro hm (And.intro hrow (And.intro hblk hkr)))
      clear hu hub hk1 hform hm hrow hblk hkr hn HS
      cases hb : isTmp n with
      | false =>
        rw [hb] at HOWN
        go_wp2_with fail
        refine HOWN.out.mono ?_
        rintro e w2 ⟨t, rfl, ht, hw2⟩
        rw [hw2]
        clear hw2 w2 ht HOWN
        have HF : Hid (m = ((L.take (k + 1)).filter isTmp).length ∧ OwnN wr (.slice a m c) ((L.take (k + 1)).filter isTmp) ∧ (∀ x, (Value.slice a m c).ownBlock = some x → w1.heap.size ≤ x) ∧ Kp No w1 wr) := by
          have e : (L.take (k + 1)).filter isTmp = (L.take k).filter isTmp := by rw [List.take_add_one, HN.out, List.filter_append]; simp [hb]
          rw [Hid, e]
          exact HX.out
        clear hb
        go_wp2_with fail
        go_round
        case rel => exact ⟨k + 1, a, m, c, by omega, by go_num, rfl, by omega, HF⟩
        case measure => simp [intOf]; omega
      | true =>
        rw [hb] at HOWN
        go_wp2_with fail
        refine HOWN.out.mono ?_
        rintro e w2 ⟨t, rfl, ht, hw2⟩
        rw [hw2, ht (by first | rfl | trivial)]
        clear hw2 w2 ht HOWN
        have hal : Kp No wr (wr.alloc (.cells #[.string ⟨n.toArray⟩] 9)) := (Kp.refl _ _).alloc _
        have HR5 : Hid (Row (wr.alloc (.cells #[.string ⟨n.toArray⟩] 9)) 9 1 (.slice a m c) m (((L.take k).filter isTmp).map encStr)) := by
          have h : Row wr 9 1 (.slice a m c) ((L.take k).filter isTmp).length (((L.take k).filter isTmp).map encStr) := HX.out.2.1
          rw [← HX.out.1] at h
          exact h.kept hal
        have HSRC : Hid (Sim.Src (wr.alloc (.cells #[.string ⟨n.toArray⟩] 9)) (.slice (some ⟨wr.heap.size, 0, none⟩) 1 1) 1 1 [.string ⟨n.toArray⟩]) := Sim.Src.one wr [.string ⟨n.toArray⟩] 1 9 rfl (by intro u hu; rw [List.mem_singleton.1 hu]; rfl)
        have HN1 := hid (fun V => run_onestr ⟨n.toArray⟩ V)
        have HAL := hid hal
        have HB := hid hb
        clear hal hb
        go_wp2_with (first
          | (refine wpList_val (by rfl) (exec_slice1 80 _ (by rfl) (.string ⟨n.toArray⟩) _ (by rfl) (HN1.out _)) ?_)
          | (refine Sim.app_row _ (by rfl) _ _ 80 9 (.string ⟨#[]⟩) 1 16 (by rfl) Tryz.underlying80 infoS rfl (by omega) (.slice a m c) (.slice (some ⟨wr.heap.size, 0, none⟩) 1 1) m 1 (((L.take k).filter isTmp).map encStr) [.string ⟨n.toArray⟩] (by rfl) (by rfl) HR5.out HSRC.out (by omega) (by omega) ?_; intro ad2 cap2 w6 hrow6 hgr6 hown6))
        have HF : Hid (m + 1 = ((L.take (k + 1)).filter isTmp).length ∧ OwnN w6 (.slice ad2 (m + 1) cap2) ((L.take (k + 1)).filter isTmp) ∧ (∀ x, (Value.slice ad2 (m + 1) cap2).ownBlock = some x → w1.heap.size ≤ x) ∧ Kp No w1 w6) := by
          obtain ⟨hm, hrow, hblk, hkr⟩ := HX.out
          have e : (L.take (k + 1)).filter isTmp = (L.take k).filter isTmp ++ [n] := by rw [List.take_add_one, HN.out, List.filter_append]; simp [HB.out]
          have hs := hkr.size
          rw [Hid, e, List.length_append, ← hm]
          refine ⟨rfl, ?_, fun x hx => ?_, ?_⟩
          · unfold OwnN
            rw [List.length_append, ← hm, List.map_append]
            exact hrow6
          · rcases hown6 with h | h
            · exact hblk x (by rw [← h]; exact hx)
            · rw [h] at hx
              have := Option.some.inj hx
              simp at this
              omega
          · exact (hkr.andNone HAL.out).grown hgr6 (fun x hx => .inr (hblk x hx))
        clear hrow6 hgr6 hown6 HX
        go_wp2_with fail
        go_round
        case rel => exact ⟨k + 1, _, m + 1, _, by omega, by go_num, rfl, by omega, HF⟩
        case measure => simp [intOf]; omega
    · have hltI : ¬ (k : Int) < (L.length : Int) := by omega
      have hkn : k = L.length := by omega
      subst hkn
      go_wp2_with fail
      go_ret
      obtain ⟨hm, hrow, hblk, hkr⟩ := HS.out
      rw [List.take_length] at hrow
      exact ⟨_, rfl, hrow, fun x hx => Nat.le_trans HK1.out.size (hblk x hx), HK1.out.andNone hkr⟩

theorem temps_any {P : Nat → Prop} {N : Nat} (w : World) (s : Nat) (p : PS) (h : Sim.Sys P N w s p) :
    Calls Tryz.prog 41 #[.pointer (some ⟨s, 0, none⟩)] w fun e w' => ∃ u, e = .returned u ∧ OwnN w' u ((pList p).filter isTmp) ∧ (∀ x, u.ownBlock = some x → w.heap.size ≤ x) ∧ Kp No w w' := by
  have HP := hid (pickS_any w s p h)
  clear h
  go_enter Tryz.func41, Tryz.ntmps41
  go_wp2_with (go_at_call 107; refine HP.out.mono ?_; rintro e w1 ⟨u, rfl, h1, h2, h3⟩; have H1 := hid (And.intro h1 (And.intro h2 h3)); clear h1 h2 h3)
  go_ret
  exact ⟨u, rfl, H1.out⟩

/-- What Clean does, name by name: how many are gone, the fault, the files. -/
def cleanF : List Nm → Nat → PS → Nat × Nat × PS
  | [], k, p => if k = 0 then (0, 0, p) else (k, (pSyncDir p).1, (pSyncDir p).2)
  | n :: r, k, p => if (pRemove n p).1 ≠ 0 then (k, (pRemove n p).1, (pRemove n p).2) else cleanF r (k + 1) (pRemove n p).2

set_option maxHeartbeats 2000000 in
set_option maxRecDepth 100000 in
theorem clean_any {P : Nat → Prop} {N : Nat} (w : World) (s : Nat) (p : PS) (h : Sim.Sys P N w s p) (hN : N + (pList p).length + 1 ≤ 1000) (hnl : ∀ n ∈ pList p, n.length ≤ 20000000) :
    Calls Tryz.prog 31 #[.pointer (some ⟨s, 0, none⟩)] w fun e w' => e = .returned (.tuple #[.int .i64 ((cleanF ((pList p).filter isTmp) 0 p).1 : Nat), .int .i64 ((cleanF ((pList p).filter isTmp) 0 p).2.1 : Nat)]) ∧ Done P (N + (pList p).length + 1) w w' s (cleanF ((pList p).filter isTmp) 0 p).2.2 := by
  have HT := hid (temps_any w s p h)
  obtain ⟨L, hL⟩ : ∃ L, (pList p).filter isTmp = L := ⟨_, rfl⟩
  have hLl : L.length ≤ (pList p).length := by rw [← hL]; exact List.length_filter_le _ _
  have hLn : ∀ n ∈ L, n.length ≤ 20000000 := fun n hn => hnl n (by rw [← hL] at hn; exact (List.mem_filter.1 hn).1)
  obtain ⟨M, hM⟩ : ∃ M, (pList p).length = M := ⟨_, rfl⟩
  rw [hL] at HT ⊢
  rw [hM] at hLl hN ⊢
  have HS := hid h
  have HLN := hid hLn
  clear hL hM h hnl hLn
  obtain ⟨R, hR⟩ : ∃ R, cleanF L 0 p = R := ⟨_, rfl⟩
  have HR := hid hR
  rw [hR]
  clear hR
  go_enter Tryz.func31, Tryz.ntmps31
  go_wp2_with fail
  refine HT.out.mono ?_
  rintro e w1 ⟨u, rfl, hu, hub, hk⟩
  obtain ⟨ua, uc, rfl, hform⟩ := OwnN.form hu
  have hlt := HS.out.lt
  have HU := hid (And.intro hu (And.intro hub hform))
  have HST : Hid (∃ P', Sim.Sys P' (N + 0) w1 s p ∧ Kp P w w1 ∧ (∀ x, P' x → P x ∨ w.heap.size ≤ x) ∧ OwnN w1 (.slice ua L.length uc) L ∧ ∀ x, (Value.slice ua L.length uc).ownBlock = some x → ¬ P' x ∧ w.heap.size ≤ x) :=
    ⟨P, HS.out.kept hk, hk.ofNo, fun x hx => .inl hx, hu, fun x hx => ⟨fun hp => by have := hlt x hp; have := hub x hx; omega, hub x hx⟩⟩
  clear hu hub hk hform hlt HT
  go_wp2_with fail
  go_loopw [4, 13] (fun v i wr => ∃ (k : Nat), k ≤ L.length ∧ i = .int .i64 (k : Int) ∧ v = .int .i64 (k : Int) ∧ Hid (∃ q P', R = cleanF (L.drop k) k q ∧ Sim.Sys P' (N + k) wr s q ∧ Kp P w wr ∧ (∀ x, P' x → P x ∨ w.heap.size ≤ x) ∧ OwnN wr (.slice ua L.length uc) L ∧ ∀ x, (Value.slice ua L.length uc).ownBlock = some x → ¬ P' x ∧ w.heap.size ≤ x)) (fun _ i _ => L.length - (intOf i).toNat)
  case atStart =>
    obtain ⟨P', h1, h2⟩ := HST.out
    exact ⟨0, Nat.zero_le _, rfl, rfl, p, P', HR.out.symm, h1, h2⟩
  case round =>
    obtain ⟨k, hk, rfl, rfl, HQ⟩ := hrel
    by_cases hlt : k < L.length
    · have hltI : (k : Int) < (L.length : Int) := by omega
      obtain ⟨n, hn⟩ : ∃ n, L[k]? = some n := ⟨_, List.getElem?_eq_getElem hlt⟩
      obtain ⟨gu, rfl⟩ := HU.out.2.2 (by intro e; rw [e] at hlt; simp at hlt)
      obtain ⟨q, P', hRq, hSq, hKq, hPq, hOq, hAq⟩ := HQ.out
      have cu : wr.cell? ⟨gu, k, none⟩ = some (.string ⟨n.toArray⟩) := OwnN.cell hOq rfl k hn
      have hdr : L.drop k = n :: L.drop (k + 1) := by
        rw [List.drop_eq_getElem_cons hlt]
        have := (List.getElem?_eq_some_iff.1 hn).2
        rw [this]
      rw [hdr, cleanF] at hRq
      have hsz : (⟨n.toArray⟩ : ByteArray).size ≤ 20000000 := by
        have := HLN.out n (List.mem_of_getElem? hn)
        have e : (⟨n.toArray⟩ : ByteArray).size = n.length := by rw [Lib.size_eq]
        omega
      have HRM := hid (Sim.remove_any wr s q ⟨n.toArray⟩ hsz hSq (by omega))
      have hnm : nm ⟨n.toArray⟩ = n := rfl
      rw [hnm] at HRM
      obtain ⟨A, hA⟩ : ∃ A, pRemove n q = A := ⟨_, rfl⟩
      rw [hA] at HRM hRq
      have HX := hid (And.intro hRq (And.intro hSq (And.intro hKq (And.intro hPq (And.intro hOq hAq)))))
      clear hRq hSq hKq hPq hOq hAq hA hsz hnm hdr hn HQ
      go_wp2_with fail
      refine HRM.out.mono ?_
      rintro e w2 ⟨rfl, P2, hS2, hK2, hP2⟩
      obtain ⟨hRq, hSq, hKq, hPq, hOq, hAq⟩ := HX.out
      have hKw : Kp P w w2 := hKq.trans hK2 (fun x hx => by
        rcases hPq x hx with e | e
        · exact .inl e
        · exact .inr e)
      have hPw : ∀ x, P2 x → P x ∨ w.heap.size ≤ x := fun x hx => by
        rcases hP2 x hx with e | e
        · exact hPq x e
        · right; have := hKq.size; omega
      have HX2 := hid (And.intro hS2 (And.intro hKw (And.intro hPw (And.intro (Row.kp hOq hK2 (fun x hx => (hAq x hx).1)) (fun x hx => (show ¬ P2 x ∧ w.heap.size ≤ x from ⟨fun hp => by
        rcases hP2 x hp with e | e
        · exact (hAq x hx).1 e
        · have := Row.lt hOq x hx; omega, (hAq x hx).2⟩))))))
      have HRQ := hid hRq
      clear hRq hSq hKq hPq hOq hAq hS2 hK2 hP2 hKw hPw HX HRM
      by_cases hA0 : A.1 = 0
      · have HA0 := hid hA0
        rw [hA0]
        have hwk : IntKind.i64.wrap ((k : Int) + 1) = ((k + 1 : Nat) : Int) := by rw [IntKind.wrap_i64]; omega
        clear hA0
        go_wp2_with fail
        go_round
        case rel =>
          obtain ⟨h1, h2, h3, h4, h5⟩ := HX2.out
          refine ⟨k + 1, by omega, by go_num, by go_num, A.2, P2, ?_, h1, h2, h3, h4, h5⟩
          rw [HRQ.out, if_neg (by rw [HA0.out]; simp)]
        case measure => simp [intOf]; omega
      · have hA1 : ¬ ((A.1 : Int) = 0) := by omega
        obtain ⟨f, hf⟩ : ∃ f, A.1 = f := ⟨_, rfl⟩
        have HF := hid hf
        rw [hf] at hA0 hA1 ⊢
        clear hf
        go_wp2_with fail
        go_ret2
        obtain ⟨h1, h2, h3, _, _⟩ := HX2.out
        have e : R = (k, A.1, A.2) := by rw [HRQ.out, if_pos (by rw [HF.out]; exact hA0)]
        rw [e]
        exact ⟨by rw [HF.out]; rfl, P2, h1.more (by omega) (by omega), h2, h3⟩
    · have hltI : ¬ (k : Int) < (L.length : Int) := by omega
      have hkn : k = L.length := by omega
      subst hkn
      obtain ⟨q, P', hRq, hSq, hKq, hPq, hOq, hAq⟩ := HQ.out
      rw [List.drop_length, cleanF] at hRq
      by_cases h0 : L.length = 0
      · rw [if_pos h0] at hRq
        have HX := hid (And.intro hRq (And.intro hSq (And.intro hKq hPq)))
        have h0I : ((L.length : Int) = 0) := by omega
        clear hRq hSq hKq hPq hOq hAq
        go_wp2_with fail
        go_ret2
        obtain ⟨e, h1, h2, h3⟩ := HX.out
        rw [e]
        exact ⟨rfl, P', h1.more (by omega) (by omega), h2, h3⟩
      · rw [if_neg h0] at hRq
        have h0I : ¬ ((L.length : Int) = 0) := by omega
        have HSY := hid (Sim.syncdir_any wr s q hSq (by omega))
        obtain ⟨A, hA⟩ : ∃ A, pSyncDir q = A := ⟨_, rfl⟩
        rw [hA] at HSY hRq
        have HX := hid (And.intro hRq (And.intro hKq hPq))
        clear hRq hSq hKq hPq hOq hAq hA
        go_wp2_with fail
        refine HSY.out.mono ?_
        rintro e w2 ⟨rfl, P2, hS2, hK2, hP2⟩
        have HD := hid (And.intro hS2 (And.intro hK2 hP2))
        clear hS2 hK2 hP2 HSY
        go_wp2_with fail
        go_ret2
        obtain ⟨e, h2, h3⟩ := HX.out
        obtain ⟨d1, d2, d3⟩ := HD.out
        rw [e]
        refine ⟨rfl, P2, d1.more (by omega) (by omega), h2.trans d2 (fun x hx => h3 x hx), fun x hx => ?_⟩
        rcases d3 x hx with e | e
        · exact h3 x e
        · right; have := h2.size; omega
end Go.Proofs.YtkekajmmcjacgaaGreatDoor
end

section
/-
  What must come at any rate: the chapter's example, and a pack.
-/
namespace Go.Proofs.YtkekajmmcjacgaaGreatDoor
open Go.RowKit Go.Shelf
open Tlv (BySlS)
open Sim (hid Kp No PS Done Blk nm finds pBytes pFsync pRename pSyncDir pCreate pAppend)

theorem builtR (k : Int) (a : Option Addr) (l c : Nat) : Tryz.prog.built 40 [(0, .int .i64 k), (2, .slice a l c)] = some (recA k (List.replicate 32 0) (.slice a l c)).toArray := by kernel_rfl

theorem nT_ok : Sim.nameB (nm (nameT 7)) = true := by rw [nameT_7]; decide
theorem nP_ok : Sim.nameB (nm (nameP 7)) = true := by rw [nameP_7]; decide
def recX : Rec := (1, List.replicate 32 0, [120])
theorem recX_ok : Rt recX := rightX
theorem frX : putX 1 (List.replicate 32 0) [120] = frOf recX := rfl
theorem frX_len : (frOf recX).length = 50 := frOf_length recX_ok
theorem scanX : scanF (frOf recX) = ([(0, (0, recX, 50))], 50, 0) := by
  have h := scanF_cat (rs := [recX]) (c := (cat [recX]).length) (by intro r hr; rw [List.mem_singleton.1 hr]; exact recX_ok) (Nat.le_refl _)
  have e1 : cat [recX] = frOf recX := by simp [cat]
  rw [cnt_all _ _ (Nat.le_refl _), List.take_length, List.take_length, e1, if_pos rfl] at h
  rw [h, frX_len]
  simp [itemsOf, frX_len]

theorem add_x (x : Nat) : addF 7 0 0 (frOf recX) true (Sim.q1 (nm (nameT 7)) 1000 x) = (0, 0, Sim.q2 (nm (nameT 7)) 1000 x (nats (frOf recX)), 50, 1) := by
  have h := Sim.q1_append (b := x) (r := 1000) (ys := nats (frOf recX)) nT_ok (by rw [nats_length, frX_len]; omega)
  rw [addF, if_neg (by simp), if_neg (by rw [frX_len]; omega), h]
  simp [frX_len]
theorem seal_x (x : Nat) (ys : List Nat) : sealF 7 (Sim.q2 (nm (nameT 7)) 1000 x ys) = (0, Sim.q5 (nm (nameT 7)) (nm (nameP 7)) 1000 x ys) := by
  rw [sealF, Sim.q2_fsync nT_ok, if_neg (by simp), Sim.q3_rename nT_ok nP_ok, if_neg (by simp), Sim.q4_sync]

set_option maxHeartbeats 4000000 in
set_option maxRecDepth 100000 in
theorem alive_any (w : World) :
    Calls Tryz.prog 10 #[] w fun e w' => e = .returned (.bool true) ∧ Below w.heap.size w w' := by
  have kc := fun (w : World) (C : Array Value) (n c : Nat) => Lib.run_convert_bytes_const (P := Tryz.prog) w 38 5 C n c Tryz.underlying38 Tryz.underlying5
  go_enter Tryz.func10, Tryz.ntmps10
  go_wp2_with fail
  refine (Sim.new_yes 1000 (by omega) w).mono ?_
  rintro e w1 ⟨rfl, hS1, hK1⟩
  have HS1 := hid hS1
  have HB1 : Hid (Below w.heap.size w w1) := hK1.toBelow'
  have HL1 : Hid (w.heap.size < w1.heap.size) := hS1.lt _ rfl
  clear hS1 hK1
  go_wp2_with fail
  refine (Crc.new_any w1).mono ?_
  rintro e w2 ⟨rfl, hb2, hs2, ht2⟩
  have HS2 : Hid (Sim.Sys (· = w.heap.size) 0 w2 w.heap.size (Sim.startPS 1000)) := HS1.out.kept (Kp.below hb2)
  have HT2 : Hid (TabX w2 w1.heap.size) := ⟨0, 0, .inl rfl, ht2⟩
  have HB2 : Hid (Below w.heap.size w w2) := HB1.out.trans (hb2.mono HB1.out.size)
  have HL2 : Hid (w1.heap.size < w2.heap.size) := by rw [Hid]; omega
  clear hb2 hs2 ht2 HS1 HB1
  go_wp2_with fail
  refine (begin_any w2 w.heap.size w1.heap.size (Sim.startPS 1000) 7 (by omega) (by omega) HS2.out (by omega)).mono ?_
  rintro e w3 hbg
  have hbg' : ∃ x g P', e = .returned (.tuple #[.pointer (some ⟨g, 0, none⟩), .int .i64 0]) ∧ WrAt w3 g w.heap.size w1.heap.size 7 0 0 false ∧ Sim.Sys P' 1 w3 w.heap.size (Sim.q1 (nm (nameT 7)) 1000 x) ∧ Kp (· = w.heap.size) w2 w3 ∧ (∀ y, P' y → y = w.heap.size ∨ w2.heap.size ≤ y) ∧ ¬ P' g ∧ w2.heap.size ≤ g := by
    rcases hbg with ⟨h, _⟩ | ⟨_, x, _, h⟩
    · rw [Sim.start_finds nP_ok] at h
      omega
    · rw [Sim.start_create nT_ok] at h
      rcases h with ⟨h, _⟩ | ⟨_, g, P', h1, h2, h3, h4, h5, h6, h7⟩
      · exact absurd rfl h
      · exact ⟨x, g, P', h1, h2, h3, h4, h5, h6, h7⟩
  obtain ⟨x, g, P', rfl, hW3, hS3, hK3, hP3, hng, hg3⟩ := hbg'
  have HW3 := hid hW3
  have HS3 := hid hS3
  have HL3 : Hid (w2.heap.size ≤ w3.heap.size) := hK3.size
  have HB3 : Hid (Below w.heap.size w w3) := Kp.under HB2.out hK3 (fun y hy => by rw [hy]; exact Nat.le_refl _) HB2.out.size
  have HT3 : Hid (TabX w3 w1.heap.size) := HT2.out.kp hK3 (by have := HL1.out; omega)
  have HNP : Hid (¬ P' g ∧ ¬ P' w1.heap.size ∧ g ≠ w1.heap.size ∧ g < w3.heap.size) := ⟨hng, fun h => by
    have := HL1.out
    have := HL2.out
    rcases hP3 _ h with e | e <;> omega, by have := HL2.out; omega, hW3.lt⟩
  have HGE : Hid (w.heap.size ≤ g) := by
    have := HL1.out
    have := HL2.out
    rw [Hid]
    omega
  have HPL : Hid (∀ y, P' y → w.heap.size ≤ y) := fun y hy => by
    have := HL1.out
    have := HL2.out
    rcases hP3 y hy with e | e <;> omega
  clear hbg hW3 hS3 hK3 hP3 hng hg3 HS2 HT2
  obtain ⟨W3, hW3⟩ : ∃ W3, w3.alloc (Obj.cells #[Value.int IntKind.u8 120] 5 (1, 2)) = W3 := ⟨_, rfl⟩
  have hb3 : Below w3.heap.size w3 W3 := by rw [← hW3]; exact (Below.refl _ _).alloc (Nat.le_refl _) _
  have hx3 : Tlv.BySl 0 W3.heap.size W3 (.slice (some ⟨w3.heap.size, 0, none⟩) 1 1) [120] := by
    rw [← hW3]
    exact (ofCrc (Crc.bySl_lit w1.heap.size w3 (by have := HL2.out; have := HL3.out; omega) [120] (by decide) (by decide) (1, 2))).to (fun g hg => hg.2)
  have HBU := hid (builtR 1 (some ⟨w3.heap.size, 0, none⟩) 1 1)
  have HOWN := hid (fun V => own11_any 1 (List.replicate 32 0) (some ⟨w3.heap.size, 0, none⟩) 1 1 V (by simp))
  have HADD := hid (fun V (hV : Below W3.heap.size W3 V) => addW_any (P := P') (N := 1) V g w.heap.size w1.heap.size 7 0 0 (Sim.q1 (nm (nameT 7)) 1000 x) 1 (List.replicate 32 0) [120] (.slice (some ⟨w3.heap.size, 0, none⟩) 1 1) (by omega) (by omega)
    ((HW3.out.kp (L := No) (Kp.below hb3) (fun h => h)).kp (L := No) (Kp.below hV) (fun h => h)) ((HS3.out.kept (Kp.below hb3)).kept (Kp.below hV)) (by omega) ((HT3.out.below hb3).below hV) HNP.out.2.1 HNP.out.1 HNP.out.2.2.1
    (hx3.agree (Tlv.Agree.below hV) (Nat.le_refl _) hV.size) (by simp) zeros32 (by rw [frX, frX_len]; omega) (by omega) (by omega))
  have HLW3 : Hid (w3.heap.size ≤ W3.heap.size) := hb3.size
  have HBW3 : Hid (Below w.heap.size w W3) := HB3.out.trans (hb3.mono HB3.out.size)
  obtain ⟨C2, hC2⟩ : ∃ C2, recA 1 (List.replicate 32 0) (.slice (some ⟨w3.heap.size, 0, none⟩) 1 1) = C2 := ⟨_, rfl⟩
  have hrB : rightB 1 [(120 : Int)].length = true := by decide
  rw [hC2] at HBU
  rw [show recA 1 (List.replicate 32 0) (.slice (some ⟨w3.heap.size, 0, none⟩) 1 1) = C2 from hC2] at HOWN HADD
  simp only [frX, hrB, add_x] at HADD
  clear hC2 hb3 hx3 hrB
  go_wp2_with (refine wpList_build2 (by rfl) 40 _ _ _ _ (by rfl) _ _ (by rfl) (by rfl) _ HBU.out ?_)
  clear kc hW3
  refine (HOWN.out W3).mono ?_
  rintro e w4 ⟨rfl, hb4⟩
  have HA4 := hid (HADD.out w4 hb4)
  have HB4 : Hid (Below w.heap.size w w4) := HBW3.out.trans (hb4.mono HBW3.out.size)
  have HL4 : Hid (W3.heap.size ≤ w4.heap.size) := hb4.size
  clear hb4 HADD HOWN HBU
  go_wp2_with fail
  refine HA4.out.mono ?_
  rintro e w5 ⟨rfl, hW5, hT5, P5, hS5, hK5, hP5⟩
  dsimp only at hW5 hS5 ⊢
  have HB5 : Hid (Below w.heap.size w w5) := Kp.under HB4.out hK5 (fun y hy => by
    have h1 := HL1.out
    have h2 := HL2.out
    rcases hy with e | e | e
    · exact HPL.out y e
    · omega
    · have h3 := HW3.out.lt
      rw [e]
      by_cases hgw : g < w.heap.size
      · exact absurd hgw (by have := HGE.out; omega)
      · omega) HB4.out.size
  have HN5 : Hid (¬ P5 g ∧ ¬ P5 w1.heap.size) := by
    have h1 := HNP.out
    have h2 := HLW3.out
    have h3 := HL4.out
    have h4 := HL2.out
    have h5 := HL3.out
    exact ⟨fun e => by rcases hP5 _ e with e | e
                       · exact h1.1 e
                       · omega, fun e => by rcases hP5 _ e with e | e
                                            · exact h1.2.1 e
                                            · omega⟩
  have HP5 : Hid (∀ y, P5 y → w.heap.size ≤ y) := fun y hy => by
    rcases hP5 y hy with e | e
    · exact HPL.out y e
    · have := HB4.out.size; omega
  have HSEAL := hid (sealW_any (P := P5) (N := 2) w5 g w.heap.size w1.heap.size 7 50 1 _ (by omega) (by omega) hW5 hS5 (by omega) hT5 HN5.out.2 HN5.out.1 HNP.out.2.2.1 (by omega))
  rw [seal_x] at HSEAL
  clear hW5 hT5 hS5 hK5 hP5 HA4
  go_wp2_with fail
  refine HSEAL.out.mono ?_
  rintro e w6 ⟨rfl, hW6, hT6, P6, hS6, hK6, hP6⟩
  have HB6 : Hid (Below w.heap.size w w6) := Kp.under HB5.out hK6 (fun y hy => by
    rcases hy with e | e
    · exact HP5.out y e
    · rw [e]; have := HGE.out; omega) HB5.out.size
  have e1 : pBytes (nm (nameP 7)) (Sim.q5 (nm (nameT 7)) (nm (nameP 7)) 1000 x (nats (frOf recX))) = nats (frOf recX) := Sim.q5_bytes nP_ok
  have HLOAD := hid (load_any w6 w.heap.size w1.heap.size _ 7 (by omega) (by omega) hS6 hT6 (by rw [e1]; exact nats_lt _ (frameR_bd recX_ok)) (by rw [e1, nats_length, frX_len]; omega))
  rw [Sim.q5_finds nP_ok, e1, ints_nats (frOf recX) (frameR_bd recX_ok), scanX] at HLOAD
  clear hW6 hT6 hS6 hK6 hP6 e1 HSEAL
  go_wp2_with fail
  refine HLOAD.out.mono ?_
  rintro e w7 ⟨hl, hk7, ht7⟩
  have hl' : ∃ a c, e = .returned (.tuple #[.slice a 1 c, .int .i64 0]) ∧ PRow 92 w6.heap.size w1.heap.size w7 (.slice a 1 c) [(0, (0, recX, 50))] := by
    rcases hl with ⟨h, _⟩ | ⟨_, h, _⟩ | ⟨_, _, _, a, c, h1, h2⟩
    · exact absurd rfl h
    · rcases h with h | h
      · exact absurd rfl h
      · exact absurd h (by simp)
    · exact ⟨a, c, h1, h2⟩
  obtain ⟨al, cl, rfl, hp⟩ := hl'
  obtain ⟨gg, cgg, a', c', hsl, hgb, hgl, hnm, hrg, hbg⟩ := hp.get 0 _ rfl
  simp only [Value.slice.injEq, List.length_singleton, true_and] at hsl
  obtain ⟨rfl, rfl⟩ := hsl
  have HB7 : Hid (Below w.heap.size w w7) := Crc.Kept.toBelow HB6.out hk7 (by have := HL1.out; omega)
  have cg : w7.cell? ⟨gg, 35, none⟩ = some (.slice a' 1 c') := by
    have h := hrg 35 (.slice a' 1 c') rfl
    simpa using h
  have HBG := hid hbg
  clear hl hk7 ht7 hp hrg hbg hnm hgb HLOAD
  go_wp2_with fail
  refine (id_07 w7).mono ?_
  rintro e w8 ⟨rfl, hb8⟩
  have HB8 : Hid (Below w.heap.size w w8) := HB7.out.trans (hb8.mono HB7.out.size)
  have cg8 : w8.cell? ⟨gg, 35, none⟩ = some (.slice a' 1 c') := (hb8.cell (p := ⟨gg, 35, none⟩) hgl).trans cg
  have hcv := Tlv.conv_bytes ((BySlS.below HBG.out hb8 (fun g hg => hg.2.2.1)).to (B := w8.heap.size) (fun g hg => Nat.lt_of_lt_of_le hg.2.2.1 hb8.size))
  have hcv' : (convert 38 9 (.slice a' 1 c')).run Tryz.prog w8 = .ok (.string ⟨#[120]⟩) w8 := by
    have hse : strOfNums [120] = ⟨#[120]⟩ := by decide +kernel
    rw [← hse]
    exact hcv
  have HNA := hid (fun V => pname_small 7 (by omega) (by omega) V)
  rw [nameP_7] at HNA
  clear hb8 cg hcv
  go_wp2_with (go_at_call 49; refine (HNA.out _).mono ?_; rintro e w9 ⟨rfl, h⟩; subst w9)
  go_ret
  exact ⟨rfl, HB8.out⟩
end Go.Proofs.YtkekajmmcjacgaaGreatDoor
end
