/-
  Flip; settle, SyncDir, Arm, New.
-/
import Derived.Test.YtmiipifhbliamaaGreatSimFile
import Derived.Laws.BitsAll
namespace Go.Proofs.YtmiipifhbliamaaGreat.Sim
open Go.RowKit Go.Maps

/-! ### Flip -/
theorem row_cell {w : World} {g n cap : Nat} {xs : List Nat} (h : OwnB w (.slice (some ⟨g, 0, none⟩) n cap) xs) (hn : n = xs.length) (k : Nat) (hk : k < xs.length) : w.cell? ⟨g, k, none⟩ = some (.int .u8 (xs.getD k 0 : Nat)) ∧ w.frozen? ⟨g, k, none⟩ = false := by
  subst hn
  refine ⟨by rw [h.row.cellAt k (by omega)]; exact cl_at xs k hk, ?_⟩
  rcases h.row.2 with ⟨e, _⟩ | ⟨g', cap', cur, e, _, hh, _⟩
  · cases e
  · cases e
    simp [World.frozen?, hh]
theorem OwnB.set {w : World} {g n cap : Nat} {xs : List Nat} (h : OwnB w (.slice (some ⟨g, 0, none⟩) n cap) xs) (k y : Nat) : OwnB (w.setCell ⟨g, k, none⟩ (.int .u8 (y : Int))) (.slice (some ⟨g, 0, none⟩) n cap) (xs.set k y) := by
  have hcl : cl (xs.set k y) = (cl xs).set k (.int .u8 (y : Int)) := by simp [cl, List.map_set]
  rcases h.row.2 with ⟨e, _⟩ | ⟨g', cap', cur, e, hb, hh, h1, h2, h3, h4⟩
  · cases e
  · cases e
    refine ⟨by simp [cl], .inr ⟨g, cap, cur.setIfInBounds k (.int .u8 (y : Int)), by simp, hb, ?_, by simpa using h1, h2, by simpa using h3, ?_⟩⟩
    · simp [World.setCell, Array.getElem?_modify, hh]
    · rw [hcl, Array.toList_setIfInBounds, List.length_set]
      rw [← h4, ← List.take_set]

set_option maxHeartbeats 1000000 in
theorem flip_any {P : Nat → Prop} {N : Nat} (w : World) (s : Nat) (p : PS) (t : ByteArray) (k : Int) (x : Nat) (hx : x < 256) (ht : t.size ≤ 1000000) (h : Sys P N w s p) (hN : N + 1 ≤ 1000) :
    Calls Tryz.prog 39 #[.pointer (some ⟨s, 0, none⟩), .string t, .int .i64 k, .int .u8 (x : Int)] w fun e w' => e = .returned (.int .i64 ((pFlip (nm t) k x p).1 : Nat)) ∧ Done P (N + 1) w w' s (pFlip (nm t) k x p).2 := by
  have HC := hid (find_any w s p t ht h)
  have hI := h.inv
  have H := hid h
  by_cases h0 : finds p (nm t) = 0
  · obtain ⟨b, hb⟩ := found_zero hI h0
    obtain ⟨_, hd, _⟩ := pBytes_of hb
    have hf := hI.hasFound hd
    have hlen := hI.lfile b _ hf
    have hbig := hI.big
    obtain ⟨vs, vf, vc, u, hR⟩ := h
    obtain ⟨hPb, hFb, hPu⟩ := hR.file b _ hf
    have hbl := hR.lt b hPb
    have HR := hid hR
    have HF := hid hFb
    rw [h0, hb] at HC
    have e0 : ptrV (some b) = .pointer (some ⟨b, 0, none⟩) := rfl
    rw [e0] at HC
    obtain ⟨a, cap, hv, hle, hcap, hnil⟩ := hFb.own.shape
    have HV := hid hv
    have hub := hR.file b _ hf
    by_cases hk : k < 0 ∨ ((fileAt p b).b.length : Int) ≤ k
    · have e1 : pFlip (nm t) k x p = (1, p) := by simp [pFlip, h0, blockOf, hd, hk]
      rw [e1]
      have HB : Hid (∀ V, Kp No w V → V.cell? ⟨b, 0, none⟩ = some (.slice a (fileAt p b).b.length cap)) := fun V kV => by
        have := (hFb.blk.kp kV (fun h => h)).cell 0
        rw [hv] at this
        exact this
      generalize (fileAt p b).b.length = L at *
      clear e1 e0 hd hb h0 hI hf hR hFb hub hv HF HV hnil HR
      rcases hk with hk | hk
      · go_enter Tryz.func39, Tryz.ntmps39
        go_wp2_with (go_at_call 48; refine (HC.out).mono ?_; rintro e w1 ⟨rfl, h1⟩; have H1 := hid h1; clear h1)
        go_ret
        exact ⟨rfl, (Done.of (H.out.more (by omega) hN) (Kp.refl _ _)).kept H1.out⟩
      · have hk0 : ¬ k < 0 := by omega
        go_enter Tryz.func39, Tryz.ntmps39
        go_wp2_with (go_at_call 48; refine (HC.out).mono ?_; rintro e w1 ⟨rfl, h1⟩; have H1 := hid h1; have c0 := HB.out _ h1; clear h1)
        go_ret
        exact ⟨rfl, (Done.of (H.out.more (by omega) hN) (Kp.refl _ _)).kept H1.out⟩
    · obtain ⟨i, rfl⟩ : ∃ i : Nat, k = i := ⟨k.toNat, by omega⟩
      have hil : i < (fileAt p b).b.length := by omega
      obtain ⟨g, rfl⟩ : ∃ g, a = some ⟨g, 0, none⟩ := by
        rcases hFb.own.row.2 with ⟨e, e2⟩ | ⟨g, cap', cur, e, _⟩
        · omega
        · rw [hv] at e; cases e; exact ⟨g, rfl⟩
      rw [hv] at hFb hPu
      have e1 : pFlip (nm t) i x p = (0, setF b ⟨(fileAt p b).b.set i ((fileAt p b).b.getD i 0 ^^^ x), (fileAt p b).safe⟩ p) := by
        simp [pFlip, h0, blockOf, hd, hil]
      rw [e1]
      have hyl : (fileAt p b).b.getD i 0 < 256 := by
        rw [getD_at hil]
        exact hFb.byt _ (List.getElem_mem hil)
      have hxor := u8_xor_nat ((fileAt p b).b.getD i 0) x hyl hx
      have HX : Hid (((fileAt p b).b.getD i 0 ^^^ x) < 256) := Nat.xor_lt_two_pow (n := 8) hyl hx
      have HB : Hid (∀ V, Kp No w V → V.cell? ⟨b, 0, none⟩ = some (.slice (some ⟨g, 0, none⟩) (fileAt p b).b.length cap) ∧ V.cell? ⟨g, i, none⟩ = some (.int .u8 ((fileAt p b).b.getD i 0 : Nat)) ∧ V.frozen? ⟨g, i, none⟩ = false) := fun V kV => by
        refine ⟨(hFb.blk.kp kV (fun h => h)).cell 0, ?_⟩
        exact row_cell (hFb.own.kept kV) rfl i hil
      have HE : Hid (∀ V, Kp No w V → Done P (N + 1) w (V.setCell ⟨g, i, none⟩ (.int .u8 (((fileAt p b).b.getD i 0 ^^^ x : Nat) : Int))) s (setF b ⟨(fileAt p b).b.set i ((fileAt p b).b.getD i 0 ^^^ x), (fileAt p b).safe⟩ p)) := fun V kV => by
        have hRV := HR.out.kp kV (fun _ h => h.elim)
        have hFV := hFb.kp kV (fun h => h) (fun _ _ h => h)
        have hgb : g ≠ b := fun e => hFV.own.row.ne hFV.blk (by decide) (by rw [← e]; rfl)
        have kK : Kp (fun k => k = b ∨ (u b).ownBlock = some k) V (V.setCell ⟨g, i, none⟩ (.int .u8 (((fileAt p b).b.getD i 0 ^^^ x : Nat) : Int))) := (Kp.refl _ _).setCell (p := ⟨g, i, none⟩) (.inl (.inr (by rw [HV.out]; rfl))) _
        have hS := rp_setF (M := N + 1) (f' := ⟨(fileAt p b).b.set i ((fileAt p b).b.getD i 0 ^^^ x), (fileAt p b).safe⟩) (v' := .slice (some ⟨g, 0, none⟩) (fileAt p b).b.length cap) hRV hf kK ?_ (fun k hk => .inl (by rw [HV.out]; exact hk)) (inv_setF (HR.out.inv.mono (by omega) hN) (by simp; omega))
        · exact ⟨_, hS.1, (kV.mono (fun _ h => h.elim)).trans hS.2 (fun x hx => .inl hx), fun y hy => by
            rcases hy with hy | hy
            · exact .inl hy
            · exact .inr (Nat.le_trans kV.size hy.1)⟩
        · refine ⟨(hFV.blk.kp (Kp.set1 V g i _) (Ne.symm hgb)), hFV.own.set i _, fun y hy => ?_, by simpa using hFV.le⟩
          rcases List.mem_or_eq_of_mem_set hy with h1 | rfl
          · exact hFV.byt y h1
          · exact HX.out
      have hil' : (i : Int) < ((fileAt p b).b.length : Int) := by omega
      generalize (fileAt p b).b.getD i 0 = y at *
      generalize (setF b ⟨(fileAt p b).b.set i (y ^^^ x), (fileAt p b).safe⟩ p) = R at *
      generalize (fileAt p b).b.length = L at *
      clear e1 e0 hd hb h0 hI hf hR hFb hub hv HF HV hnil hk HR hPu
      go_enter Tryz.func39, Tryz.ntmps39
      go_wp2_with (go_at_call 48; refine (HC.out).mono ?_; rintro e w1 ⟨rfl, h1⟩; have H1 := hid h1; obtain ⟨c0, c1, f1⟩ := HB.out _ h1; clear h1)
      go_ret
      exact ⟨rfl, HE.out _ H1.out⟩
  · have e1 : pFlip (nm t) k x p = (finds p (nm t), p) := by simp [pFlip, h0]
    have hn : foundP p (nm t) = none := by simp [foundP, h0]
    rw [e1]
    rw [hn] at HC
    have e0 : ptrV none = .pointer none := rfl
    rw [e0] at HC
    generalize finds p (nm t) = fx at *
    have hne : ((fx : Int) != 0) = true := by simp; omega
    clear e1 e0 hn h0 hI h
    go_enter Tryz.func39, Tryz.ntmps39
    go_wp2_with (go_at_call 48; refine (HC.out).mono ?_; rintro e w1 ⟨rfl, h1⟩; have H1 := hid h1; clear h1)
    go_ret
    exact ⟨rfl, (Done.of (H.out.more (by omega) hN) (Kp.refl _ _)).kept H1.out⟩

/-! ### settle -/
set_option maxHeartbeats 2000000 in
/-- settle, told by what it does to the blocks. -/
theorem settle_raw {P : Nat → Prop} {I : PS → Prop} (W : World) (s : Nat) (q : PS) (vs vc : Value) (mo : Option Nat) (u : Nat → Value) (n : Nat) (h : Rp P I W s q vs (.map mo) vc u) (hn : n ≤ q.chg.length) (hok : okcs q.safe q.chg) (hnm : ∀ c ∈ q.chg, c.nm.length ≤ 40 ∧ c.to.length ≤ 40) (hl : q.safe.length ≤ 1000) (hc : q.chg.length ≤ 1000) (hnm2 : q.made = false → q.chg = [] ∧ q.safe = []) :
    Calls Tryz.prog 56 #[.pointer (some ⟨s, 0, none⟩), .int .i64 (n : Int)] W fun e w' => e = .returned (.tuple #[]) ∧ ∃ W1, MapV W1 (.map mo) ((q.chg.take n).foldl pdo q.safe) ∧ Kp (fun k => mo = some k) W W1 ∧ w' = W1.setCell ⟨s, 3, none⟩ (.slice none 0 0) := by
  have hsl := h.lt s h.ps
  have c2 : W.cell? ⟨s, 2, none⟩ = some (.map mo) := h.c 2
  have c3 : W.cell? ⟨s, 3, none⟩ = some vc := h.c 3
  have f3 := h.blk.frozen 3
  obtain ⟨a, cap, hv, hle, hcap, hnil, hsp⟩ := h.chg.shape
  have hch : ChAt W (.slice a n cap) (q.chg.take n) := by
    have := h.chg.chAt (by omega)
    rw [hv] at this
    exact this.front n hn
  subst hv
  have hsm : ∀ k, mo = some k → s ≠ k := fun k e => by
    rcases h.safe with ⟨h1, _⟩ | ⟨b, h1, h2⟩
    · rw [e] at h1; cases h1
    · rw [e] at h1; cases h1; exact Ne.symm (h2.blk h.blk)
  have HD : Hid (Calls Tryz.prog 24 #[.map mo, .slice a n cap] W.drew fun e w' => e = .returned (.tuple #[]) ∧ MapV w' (.map mo) ((q.chg.take n).foldl pdo q.safe) ∧ Kp (fun k => mo = some k) W w') := by
    rcases h.safe with ⟨h1, h2⟩ | ⟨b, h1, h2⟩
    · have hq : q.chg = [] := by
        cases hm : q.made with
        | false => exact (hnm2 hm).1
        | true => obtain ⟨a, b, _, hb, _⟩ := h.mades hm; rw [h1] at hb; cases hb
      rw [hq] at hch ⊢
      refine (do_none (.map mo) W.drew _ (show ChAt W _ [] by simpa using hch)).mono ?_
      rintro e w' ⟨rfl, rfl⟩
      exact ⟨rfl, .inl ⟨h1, by simpa using h2⟩, (Kp.refl _ _).drew⟩
    · cases h1
      have hok' : okcs q.safe (q.chg.take n) := by
        have := hok
        rw [← List.take_append_drop n q.chg, okcs_append] at this
        exact this.1
      refine (do_any W.drew b q.safe _ (q.chg.take n) (h2.kp (L := No) (Kp.refl _ _).drew (fun h => h)) (by
        obtain ⟨a', cap', e, r1, r2, r3, r4⟩ := hch
        exact ⟨a', cap', e, r1, r2, r3, r4⟩) hok' (fun c hc' => by have := hnm c (List.mem_of_mem_take hc'); omega) (by have := List.length_take_le n q.chg; omega)).mono ?_
      rintro e w' ⟨rfl, r1, r2⟩
      exact ⟨rfl, .inr ⟨b, rfl, r1⟩, ((Kp.refl _ _).drew).trans r2 (fun x hx => .inl (by rw [hx]))⟩
  have HSM := hid hsm
  have hnc : (n : Int) ≤ (cap : Int) := by omega
  clear h hok hnm hnm2 hch hsm hsp hnil
  have hnq : n ≤ cap := by omega
  go_enter Tryz.func56, Tryz.ntmps56
  go_wp2_with fail
  have r2 : ∀ V, Kp (fun k => mo = some k) W V → V.cell? ⟨s, 2, none⟩ = some (.map mo) := fun V k => (k.cell (p := ⟨s, 2, none⟩) hsl (fun e => HSM.out s e rfl)).trans c2
  have r3 : ∀ V, Kp (fun k => mo = some k) W V → V.cell? ⟨s, 3, none⟩ = some (.slice a q.chg.length cap) := fun V k => (k.cell (p := ⟨s, 3, none⟩) hsl (fun e => HSM.out s e rfl)).trans c3
  have g3 : ∀ V, Kp (fun k => mo = some k) W V → V.frozen? ⟨s, 3, none⟩ = false := fun V k => (k.frozen (p := ⟨s, 3, none⟩) hsl (fun e => HSM.out s e rfl)).trans f3
  go_region_held3 (fun V => Kp (fun k => mo = some k) W V) (first | (with_reducible exact Kp.refl _ _) | (with_reducible exact (Kp.refl _ _).drew) | (with_reducible exact HK1.out)) (first | (go_at_call 24; refine (HD.out).mono ?_; rintro e w1 ⟨rfl, hm1, hk1⟩; have HM1 := hid hm1; have HK1 := hid hk1; clear hm1 hk1))
  have z3 := r3 _ HK1.out
  have y3 := g3 _ HK1.out
  clear r2 r3 g3
  go_wp2
  go_end0
  exact ⟨rfl, w1, HM1.out, HK1.out, rfl⟩

end Go.Proofs.YtmiipifhbliamaaGreat.Sim
