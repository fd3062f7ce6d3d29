/-
  The reference's Remove and Rename.
-/
import Derived.Test.YtmiipifhbliamaaGreatSimRChange
namespace Go.Proofs.YtmiipifhbliamaaGreat.Sim
open Go.RowKit Go.Maps

/-- Behind a call: the reference's system of the state q, in blocks of Q and new ones. -/
def RDone (Q : Nat → Prop) (N : Nat) (w w' : World) (m : Nat) (q : PS) : Prop := ∃ Q', RSys Q' N w' m q ∧ Kp Q w w' ∧ ∀ x, Q' x → Q x ∨ w.heap.size ≤ x
theorem RDone.of {Q : Nat → Prop} {N : Nat} {w w' : World} {m : Nat} {q : PS} (h : RSys Q N w' m q) (k : Kp Q w w') : RDone Q N w w' m q := ⟨Q, h, k, fun _ hx => .inl hx⟩
theorem RSys.more {Q : Nat → Prop} {N M : Nat} {w : World} {m : Nat} {p : PS} (h : RSys Q N w m p) (hm : N ≤ M) (hb : M ≤ 1000) : RSys Q M w m p := by
  obtain ⟨D, vF, vS, vA, vC, us, F, h1, h2, h3⟩ := h
  exact ⟨D, vF, vS, vA, vC, us, F, h1, h2.mono hm hb, Nat.le_trans h3 hm⟩
theorem RSys.kp {Q L : Nat → Prop} {N : Nat} {w w' : World} {m : Nat} {p : PS} (h : RSys Q N w m p) (k : Kp L w w') (hL : ∀ x, L x → ¬ Q x) : RSys Q N w' m p := by
  obtain ⟨D, vF, vS, vA, vC, us, F, h1, h2, h3⟩ := h
  exact ⟨D, vF, vS, vA, vC, us, F, h1.kp k hL, h2, h3⟩
theorem RSys.lt {Q : Nat → Prop} {N : Nat} {w : World} {m : Nat} {p : PS} (h : RSys Q N w m p) : ∀ x, Q x → x < w.heap.size := by
  obtain ⟨D, vF, vS, vA, vC, us, F, h1, h2, h3⟩ := h
  exact h1.lt

section
variable {Q D : Nat → Prop} {N : Nat} {w : World} {m : Nat} {p : PS} {vF vS vA vC : Value} {us : List Value} {F : List Fl} (h : Rr Q D w m p vF vS vA vC us F) (hI : PInv N p) (hF : F.length ≤ N) (hN : N + 1 ≤ 1000)
include h hI hF hN
theorem rfall_done (hd : dead p = true) : Calls Tryz.prog 64 #[.pointer (some ⟨m, 0, none⟩)] w fun e w' => e = .returned (.int .i64 12) ∧ RDone Q (N + 1) w w' m (fall p) := by
  refine (rstep_dead h hd).mono ?_
  rintro e w' ⟨rfl, h1, k⟩
  exact ⟨rfl, RDone.of ⟨D, vF, vS, vA, vC, us, F, h1, hI.fall.mono (by omega) hN, by omega⟩ (k.mono (fun x hx => .inl (by subst hx; exact h.qm)))⟩
omit hF hN in
theorem rlive_done (hd : dead p = false) : Calls Tryz.prog 64 #[.pointer (some ⟨m, 0, none⟩)] w fun e w' => e = .returned (.int .i64 0) ∧ Rr Q D w' m (tick p) vF vS vA vC us F ∧ Kp (· = m) w w' :=
  rstep_live h hd (by have := hI.steps; have := hI.big; omega) hI.left
/-- A change behind a step. -/
theorem rchange_done (c : PC) (hok : okc p.seen c) (hn : c.nm.length ≤ 40 ∧ c.to.length ≤ 40) (h0 : c.kind ≠ 0) (W : World) (hW : Rr Q D W m (tick p) vF vS vA vC us F) (k : Kp (· = m) w W) :
    Calls Tryz.prog 65 #[.pointer (some ⟨m, 0, none⟩), .agg #[.int .i64 ((c.kind + 1 : Nat) : Int), .string (sOf c.nm), .string (sOf c.to), .int .i64 (whichOf p.seen c : Nat)]] W fun e w' => e = .returned (.tuple #[]) ∧ RDone Q (N + 1) w w' m (chgd c (tick p)) := by
  have hl := hI.lseen
  have hlc := hI.lchg
  have hb := hI.big
  refine (rchange_any hW c hI.seen_eq hok (by show p.seen.length ≤ 1000; omega) (by show p.chg.length ≤ 1000; omega) (fun e he => by have := (hI.hasSeen e he).2; omega) (by omega)).mono ?_
  rintro e w' ⟨rfl, Q', D', vS', vC', h1, h2, h3⟩
  refine ⟨rfl, Q', ⟨D', vF, vS', vA, vC', us, F, h1, inv_chgd (hI.tick hN) hok hn (by have := hI.lsum; show p.safe.length + p.chg.length + 1 ≤ N + 1; omega) (fun e => absurd e h0), by omega⟩, (k.mono (fun x hx => .inl (by subst hx; exact h.qm))).trans h2 (fun x hx => .inl hx), fun x hx => ?_⟩
  rcases h3 x hx with h4 | h4
  · exact .inl h4
  · have := k.size; exact .inr (by omega)
end

set_option maxHeartbeats 2000000 in
theorem rremove_any {Q : Nat → Prop} {N : Nat} (w : World) (m : Nat) (p : PS) (t : ByteArray) (ht : t.size ≤ 1000000) (h : RSys Q N w m p) (hN : N + 1 ≤ 1000) :
    Calls Tryz.prog 33 #[.pointer (some ⟨m, 0, none⟩), .string t] w fun e w' => e = .returned (.int .i64 ((pRemove (nm t) p).1 : Nat)) ∧ RDone Q (N + 1) w w' m (pRemove (nm t) p).2 := by
  have HH := hid h
  obtain ⟨D, vF, vS, vA, vC, us, F, h, hI, hF⟩ := h
  have HT := hid (rthere_any h t ht)
  by_cases h0 : finds p (nm t) = 0
  · obtain ⟨b, hb⟩ := found_zero hI h0
    obtain ⟨_, hdf, _⟩ := pBytes_of hb
    have hnl : (nm t).length ≤ 40 := (hI.hasSeen _ (mem_of_dfind hdf)).2
    rw [h0] at HT
    cases hd : dead p with
    | true =>
      have e1 : pRemove (nm t) p = (12, fall p) := by simp [pRemove, h0, stp, hd]
      rw [e1]
      have HS := hid (rfall_done h hI hF hN hd)
      clear h hI hF hb hdf hnl h0 hd e1
      go_enter Tryz.func33, Tryz.ntmps33
      go_wp2_with (first | (go_at_call 66; refine (HT.out).mono ?_; rintro e w1 ⟨rfl, h1⟩; subst w1) | (go_at_call 64; refine (HS.out).mono ?_; rintro e w2 ⟨rfl, h2⟩; have H2 := hid h2; clear h2))
      go_ret
      exact ⟨rfl, H2.out⟩
    | false =>
      have e1 : pRemove (nm t) p = (0, chgd ⟨1, nm t, [], 0⟩ (tick p)) := by simp [pRemove, h0, stp, hd]
      rw [e1]
      have HS := hid (rlive_done h hI hd)
      have HC := hid (rchange_done h hI hF hN ⟨1, nm t, [], 0⟩ ⟨by simp, fun e => by cases e⟩ ⟨hnl, by simp⟩ (by simp))
      have e2 : whichOf p.seen ⟨1, nm t, [], 0⟩ = 0 := rfl
      have e3 : sOf (nm t) = t := sOf_nm t
      have e4 : sOf [] = ⟨#[]⟩ := rfl
      simp only [e2, e3, e4] at HC
      clear h hI hF hb hdf hnl h0 hd e1 e2 e3 e4
      generalize chgd ⟨1, nm t, [], 0⟩ (tick p) = R at *
      go_enter Tryz.func33, Tryz.ntmps33
      go_wp2_with (first | (go_at_call 66; refine (HT.out).mono ?_; rintro e w1 ⟨rfl, h1⟩; subst w1) | (go_at_call 64; refine (HS.out).mono ?_; rintro e w2 ⟨rfl, h2, k2⟩; have H2 := hid h2; have K2 := hid k2; clear h2 k2) | (go_at_call 65; refine (HC.out _ H2.out K2.out).mono ?_; rintro e w3 ⟨rfl, h3⟩; have H3 := hid h3; clear h3))
      go_ret
      exact ⟨rfl, H3.out⟩
  · have e1 : pRemove (nm t) p = (finds p (nm t), p) := by simp [pRemove, h0]
    rw [e1]
    generalize finds p (nm t) = x at *
    have hne : ((x : Int) != 0) = true := by simp; omega
    clear e1 h0 hI h hF
    go_enter Tryz.func33, Tryz.ntmps33
    go_wp2_with (go_at_call 66; refine (HT.out).mono ?_; rintro e w1 ⟨rfl, h1⟩; subst w1)
    go_ret
    exact ⟨rfl, RDone.of (HH.out.more (by omega) hN) (Kp.refl _ _)⟩

theorem wrongs_pair (p : PS) (n t : Nm) : wrongs p [n, t] = if wrongs p [n] ≠ 0 then wrongs p [n] else wrongs p [t] := by
  unfold wrongs
  cases p.down <;> cases h1 : nameB n <;> cases h2 : nameB t <;> simp [h1, h2]

set_option maxHeartbeats 2000000 in
set_option maxRecDepth 100000 in
theorem rrename_any {Q : Nat → Prop} {N : Nat} (w : World) (m : Nat) (p : PS) (t t' : ByteArray) (ht : t.size ≤ 1000000) (ht' : t'.size ≤ 1000000) (h : RSys Q N w m p) (hN : N + 1 ≤ 1000) :
    Calls Tryz.prog 31 #[.pointer (some ⟨m, 0, none⟩), .string t, .string t'] w fun e w' => e = .returned (.int .i64 ((pRename (nm t) (nm t') p).1 : Nat)) ∧ RDone Q (N + 1) w w' m (pRename (nm t) (nm t') p).2 := by
  have HH := hid h
  obtain ⟨D, vF, vS, vA, vC, us, F, h, hI, hF⟩ := h
  have HA1 := hid (rahead_any h t ht)
  have HA2 := hid (rahead_any h t' ht')
  have HT := hid (rthere_any h t ht)
  have hpair := wrongs_pair p (nm t) (nm t')
  by_cases g1 : wrongs p [nm t] = 0
  · rw [if_neg (by simpa using g1)] at hpair
    rw [g1] at HA1
    by_cases g2 : wrongs p [nm t'] = 0
    · rw [g2] at HA2 hpair
      obtain ⟨hdn, hn1, hn2⟩ := wrongs_two hpair
      have hn1' : (nm t).length ≤ 40 := by simp [nameB] at hn1; omega
      have hn2' : (nm t').length ≤ 40 := by simp [nameB] at hn2; omega
      cases hdf : dfind p.seen (nm t) with
      | none =>
        have e0 : finds p (nm t) = 5 := by simp [finds, g1, hdf]
        have e1 : pRename (nm t) (nm t') p = (5, p) := by simp [pRename, hpair, hdf]
        rw [e1]
        rw [e0] at HT
        clear h hI hF hpair g1 g2 hdn hn1 hn2 hn1' hn2' hdf e0 e1
        go_enter Tryz.func31, Tryz.ntmps31
        go_wp2_with (first | (first | (go_at_call_of 62 (Value.string t); refine (HA1.out).mono ?_; rintro e w1 ⟨rfl, h1⟩; subst w1) | (go_at_call_of 62 (Value.string t'); refine (HA2.out).mono ?_; rintro e w1 ⟨rfl, h1⟩; subst w1)) | (go_at_call 66; refine (HT.out).mono ?_; rintro e w1 ⟨rfl, h1⟩; subst w1))
        go_ret
        exact ⟨rfl, RDone.of (HH.out.more (by omega) hN) (Kp.refl _ _)⟩
      | some b =>
        have e0 : finds p (nm t) = 0 := by simp [finds, g1, hdf]
        rw [e0] at HT
        cases hd : dead p with
        | true =>
          have e1 : pRename (nm t) (nm t') p = (12, fall p) := by simp [pRename, hpair, hdf, stp, hd]
          rw [e1]
          have HS := hid (rfall_done h hI hF hN hd)
          clear h hI hF hpair g1 g2 hdn hn1 hn2 hn1' hn2' hdf e0 e1 hd
          go_enter Tryz.func31, Tryz.ntmps31
          go_wp2_with (first | (first | (go_at_call_of 62 (Value.string t); refine (HA1.out).mono ?_; rintro e w1 ⟨rfl, h1⟩; subst w1) | (go_at_call_of 62 (Value.string t'); refine (HA2.out).mono ?_; rintro e w1 ⟨rfl, h1⟩; subst w1)) | (go_at_call 66; refine (HT.out).mono ?_; rintro e w1 ⟨rfl, h1⟩; subst w1) | (go_at_call 64; refine (HS.out).mono ?_; rintro e w2 ⟨rfl, h2⟩; have H2 := hid h2; clear h2))
          go_ret
          exact ⟨rfl, H2.out⟩
        | false =>
          have e1 : pRename (nm t) (nm t') p = (0, chgd ⟨2, nm t, nm t', 0⟩ (tick p)) := by simp [pRename, hpair, hdf, stp, hd]
          rw [e1]
          have HS := hid (rlive_done h hI hd)
          have HC := hid (rchange_done h hI hF hN ⟨2, nm t, nm t', 0⟩ ⟨by simp, fun _ => by simp [hdf]⟩ ⟨hn1', hn2'⟩ (by simp))
          have HF : Hid (∀ W, Rr Q D W m (tick p) vF vS vA vC us F → W.cell? ⟨m, 2, none⟩ = some vS ∧ Calls Tryz.prog 63 #[vS, .string t] W fun e w' => e = .returned (.int .i64 (b : Int)) ∧ w' = W) := fun W hW => by
            refine ⟨hW.c 2, ?_⟩
            have := rfind_any W vS p.seen t hW.seen
            rw [hdf] at this
            exact this
          have e2 : whichOf p.seen ⟨2, nm t, nm t', 0⟩ = b := by simp [whichOf, hdf]
          have e3 : sOf (nm t) = t := sOf_nm t
          have e4 : sOf (nm t') = t' := sOf_nm t'
          simp only [e2, e3, e4] at HC
          obtain ⟨sa, sl, sc, hvS⟩ : ∃ a l c, vS = .slice a l c := by obtain ⟨a, c, e, _⟩ := h.seen; exact ⟨a, _, c, e⟩
          subst hvS
          clear h hI hF hpair g1 g2 hdn hn1 hn2 hn1' hn2' hdf e0 e1 hd e2 e3 e4
          generalize chgd ⟨2, nm t, nm t', 0⟩ (tick p) = R at *
          go_enter Tryz.func31, Tryz.ntmps31
          go_wp2_with (first | (first | (go_at_call_of 62 (Value.string t); refine (HA1.out).mono ?_; rintro e w1 ⟨rfl, h1⟩; subst w1) | (go_at_call_of 62 (Value.string t'); refine (HA2.out).mono ?_; rintro e w1 ⟨rfl, h1⟩; subst w1)) | (go_at_call 66; refine (HT.out).mono ?_; rintro e w1 ⟨rfl, h1⟩; subst w1) | (go_at_call 64; refine (HS.out).mono ?_; rintro e w2 ⟨rfl, h2, k2⟩; have H2 := hid h2; have K2 := hid k2; have HF2 := (HF.out _ h2).1; have HF3 := hid (HF.out _ h2).2; clear h2 k2) | (go_at_call 63; refine (HF3.out).mono ?_; rintro e w3 ⟨rfl, h3⟩; subst w3) | (go_at_call 65; refine (HC.out _ H2.out K2.out).mono ?_; rintro e w3 ⟨rfl, h3⟩; have H3 := hid h3; clear h3))
          go_ret
          exact ⟨rfl, H3.out⟩
    · have e1 : pRename (nm t) (nm t') p = (wrongs p [nm t'], p) := by simp [pRename, hpair, g2]
      rw [e1]
      generalize wrongs p [nm t'] = x at *
      have hne : ((x : Int) != 0) = true := by simp; omega
      clear h hI hF hpair g1 g2 e1
      go_enter Tryz.func31, Tryz.ntmps31
      go_wp2_with (first | (go_at_call_of 62 (Value.string t); refine (HA1.out).mono ?_; rintro e w1 ⟨rfl, h1⟩; subst w1) | (go_at_call_of 62 (Value.string t'); refine (HA2.out).mono ?_; rintro e w1 ⟨rfl, h1⟩; subst w1))
      go_ret
      exact ⟨rfl, RDone.of (HH.out.more (by omega) hN) (Kp.refl _ _)⟩
  · rw [if_pos g1] at hpair
    have e1 : pRename (nm t) (nm t') p = (wrongs p [nm t], p) := by simp [pRename, hpair, g1]
    rw [e1]
    clear hpair e1
    generalize wrongs p [nm t] = x at *
    have hne : ((x : Int) != 0) = true := by simp; omega
    clear h hI hF g1
    go_enter Tryz.func31, Tryz.ntmps31
    go_wp2_with (go_at_call 62; refine (HA1.out).mono ?_; rintro e w1 ⟨rfl, h1⟩; subst w1)
    go_ret
    exact ⟨rfl, RDone.of (HH.out.more (by omega) hN) (Kp.refl _ _)⟩

end Go.Proofs.YtmiipifhbliamaaGreat.Sim
