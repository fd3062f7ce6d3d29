/-
  A change of the system: the state behind it; change, Create, Remove, Rename.
-/
import Derived.Test.YtmiipifhbliamaaGreatSimChg
namespace Go.Proofs.YtmiipifhbliamaaGreat.Sim
open Go.RowKit Go.Maps

/-- P, and what is new. -/
def Ext (P : Nat → Prop) (w w' : World) : Nat → Prop := fun x => P x ∨ (w.heap.size ≤ x ∧ x < w'.heap.size)

/-- What a call leaves: the system of the state q, at s; what is not its own is as it was. -/
def Done (P : Nat → Prop) (N : Nat) (w w' : World) (s : Nat) (q : PS) : Prop := ∃ P', Sys P' N w' s q ∧ Kp P w w' ∧ ∀ x, P' x → P x ∨ w.heap.size ≤ x
theorem Done.of {P : Nat → Prop} {N : Nat} {w w' : World} {s : Nat} {q : PS} (h : Sys P N w' s q) (k : Kp P w w') : Done P N w w' s q := ⟨P, h, k, fun _ h => .inl h⟩
theorem Done.more {P : Nat → Prop} {N M : Nat} {w w' : World} {s : Nat} {q : PS} (h : Done P N w w' s q) (hm : N ≤ M) (hb : M ≤ 1000) : Done P M w w' s q := by
  obtain ⟨P', h1, h2, h3⟩ := h
  exact ⟨P', h1.more hm hb, h2, h3⟩
theorem Done.after {P : Nat → Prop} {N : Nat} {u w w' : World} {s : Nat} {q : PS} (h : Done P N w w' s q) (k : Kp No u w) : Done P N u w' s q := by
  obtain ⟨P', h1, h2, h3⟩ := h
  refine ⟨P', h1, (k.mono (fun _ h => h.elim)).trans h2 (fun x hx => .inl hx), fun x hx => ?_⟩
  rcases h3 x hx with h | h
  · exact .inl h
  · exact .inr (Nat.le_trans k.size h)
theorem Done.kept {P : Nat → Prop} {N : Nat} {u w w' : World} {s : Nat} {q : PS} (h : Done P N u w s q) (k : Kp No w w') : Done P N u w' s q := by
  obtain ⟨P', h1, h2, h3⟩ := h
  exact ⟨P', h1.kept k, h2.andNone k, h3⟩

theorem inv_chgd {M : Nat} {q : PS} {c : PC} (h : PInv M q) (hok : okc q.seen c) (hn : c.nm.length ≤ 40 ∧ c.to.length ≤ 40) (h1 : q.safe.length + q.chg.length + 1 ≤ M)
    (h0 : c.kind = 0 → (q.files c.file).isSome = true ∧ c.file ∉ q.safe.map (·.2) ++ (q.chg.filter (fun c => c.kind == 0)).map (·.file)) : PInv M (chgd c q) :=
  { h with
    seen_eq := by show pdo q.seen c = (q.chg ++ [c]).foldl pdo q.safe; rw [List.foldl_append, ← h.seen_eq]; rfl
    okc := by show okcs q.safe (q.chg ++ [c]); rw [okcs_append, ← h.seen_eq]; exact ⟨h.okc, hok, trivial⟩
    hasC := fun d hd hk => by
      rcases List.mem_append.1 hd with hd | hd
      · exact h.hasC d hd hk
      · simp at hd; subst hd; exact (h0 hk).1
    nodup := by
      show (q.safe.map (·.2) ++ ((q.chg ++ [c]).filter (fun c => c.kind == 0)).map (·.file)).Nodup
      rw [List.filter_append, List.map_append, ← List.append_assoc]
      by_cases hk : c.kind = 0
      · rw [List.nodup_append]
        refine ⟨h.nodup, by simp [hk], fun a ha b hb => ?_⟩
        simp [hk] at hb
        intro e
        subst e hb
        exact (h0 hk).2 ha
      · simp [hk]
        exact h.nodup
    nmC := fun d hd => by
      rcases List.mem_append.1 hd with hd | hd
      · exact h.nmC d hd
      · simp at hd; subst hd; exact hn
    nmade := fun e => by cases e
    lsum := by show q.safe.length + (q.chg ++ [c]).length ≤ M; simp; omega }

theorem rp_chgd {P : Nat → Prop} {N M : Nat} {W wx W1 w' : World} {s ma : Nat} {q : PS} {vs vf vc vc' : Value} {u : Nat → Value} {c : PC} (h : Rp P (PInv N) W s q vs vf vc u)
    (hB : Begun W s (.int .i64 (q.room : Int)) vc (.bool q.down) (.bool q.armed) (.int .i64 (q.left : Int)) (.int .i64 (q.steps : Int)) vs q.seen wx ma) (hm : MapAt W1 ma (pdo q.seen c)) (hr : Row W1 69 4 vc' (q.chg.length + 1) (chgs (q.chg ++ [c])))
    (hk : Kp (fun k => k = ma ∨ vc.ownBlock = some k) wx W1) (hw : w' = W1.setCell ⟨s, 3, none⟩ vc') (hv : ∀ k, vc'.ownBlock = some k → vc.ownBlock = some k ∨ wx.heap.size ≤ k) (hi : PInv M (chgd c q)) :
    Sys (Ext P W w') M w' s (chgd c q) ∧ Kp P W w' := by
  obtain ⟨vf0, hs0, hm0, hk0⟩ := hB.facts (vf := vf) h.blk
  have hma : (P ma ∨ W.heap.size ≤ ma) ∧ ∀ b t cs, Blk W b t cs → b ≠ ma := by
    rcases hB with ⟨rfl, rfl, hm1⟩ | ⟨_, _, mf, _, _, _, _, _, h1, _⟩
    · exact ⟨.inl (h.mapS.1 ma rfl), fun b t cs hb => Ne.symm (hm1.blk hb)⟩
    · exact ⟨.inr h1, fun b t cs hb => by have := hb.lt; omega⟩
  have hmr : ∀ {e : TypeId} {sz n : Nat} {v : Value} {xs : List Value}, Row W e sz v n xs → ∀ x, v.ownBlock = some x → x ≠ ma := by
    intro e sz n v xs hrow x hx
    rcases hB with ⟨rfl, rfl, hm1⟩ | ⟨_, _, mf, _, _, _, _, _, h1, _⟩
    · intro e; exact hm1.row hrow (by rw [hx, e])
    · have := hrow.lt x hx; omega
  -- all that changes
  have K1 : Kp (fun k => k = s ∨ k = ma ∨ vc.ownBlock = some k) W W1 := (hk0.mono (fun x hx => .inl (.inl hx))).trans hk (fun x hx => .inl (.inr hx))
  have K : Kp (fun k => k = s ∨ k = ma ∨ vc.ownBlock = some k) W w' := by
    rw [hw]
    exact K1.setCell (p := ⟨s, 3, none⟩) (.inl (.inl rfl)) _
  have hsm : s ≠ ma := hma.2 s _ _ h.blk
  have hsv : vc.ownBlock ≠ some s := h.chg.ne h.blk (by decide)
  have KP : Kp P W w' := K.mono (fun x hx => by
    rcases hx with rfl | rfl | hx
    · exact .inl h.ps
    · exact hma.1
    · exact .inl (h.pc x hx))
  have kset : Kp (· = s) W1 w' := by rw [hw]; exact Kp.set1 _ _ _ _
  have hs1 : Blk W1 s 63 _ := hs0.kp hk (fun e => by
    rcases e with e | e
    · exact hsm e
    · exact hsv e)
  have hsb : Blk w' s 63 (fsCells (chgd c q) (.map (some ma)) vf0 vc') := by rw [hw]; exact hs1.setCell 3 vc'
  have hmw : MapAt w' ma (pdo q.seen c) := hm.kp kset (hm.blk hs1)
  -- the safe directory
  have hsafe : ∃ mf, vf0 = .map (some mf) ∧ mf ≠ ma ∧ MapAt w' mf q.safe ∧ (P mf ∨ W.heap.size ≤ mf) := by
    rcases hB with ⟨hwx, hvs, hm1⟩ | ⟨hvs, hl, mf, h1, h2, h3, h4, h5, h6, h7⟩
    · subst hwx hvs
      have hmade : q.made = true := by
        cases hmd : q.made with
        | true => rfl
        | false => have := (h.unmade hmd).1; cases this
      obtain ⟨a, b, ha, hb, hab, pa, pb⟩ := h.mades hmade
      cases ha
      have hvf : vf0 = vf := by
        have e1 := hs0.cell 2
        have e2 := h.blk.cell 2
        rw [e2] at e1
        simpa [fsCells] using e1.symm
      subst hvf hb
      refine ⟨b, rfl, Ne.symm hab, ?_, .inl pb⟩
      rcases h.safe with ⟨e, _⟩ | ⟨b', e, hmb⟩
      · cases e
      · cases e
        exact hmb.kp K (fun e => by
          rcases e with e | e | e
          · exact hmb.blk h.blk e
          · exact hab e.symm
          · exact hmb.row h.chg e)
    · have hvf0 : vf0 = .map (some mf) := by
        have e1 := hs0.cell 2
        have e2 := h2.cell 2
        rw [e2] at e1
        simpa using e1.symm
      subst hvf0
      have hmd : q.made = false := by
        cases hmd : q.made with
        | false => rfl
        | true => obtain ⟨a, b, ha, _⟩ := h.mades hmd; rw [hvs] at ha; cases ha
      rw [(h.inv.nmade hmd).2]
      refine ⟨mf, rfl, Ne.symm h5, ?_, .inr h7⟩
      have h8 := h4.kp hk (fun e => by
        rcases e with e | e
        · exact h5 e.symm
        · have := h.chg.lt mf e; omega)
      exact h8.kp kset (fun e => by have := h.blk.lt; omega)
  obtain ⟨mf, hvf0, hne, hmf, hpf⟩ := hsafe
  subst hvf0
  have hrw : Row w' 69 4 vc' (q.chg.length + 1) (chgs (q.chg ++ [c])) := hr.kp kset (fun x hx e => hr.ne hs1 (by decide) (by rw [hx, e]))
  have hin : ∀ x, P x ∨ W.heap.size ≤ x → x < w'.heap.size → Ext P W w' x := fun x hx hl => by
    rcases hx with h | h
    · exact .inl h
    · exact .inr ⟨h, hl⟩
  refine ⟨⟨.map (some ma), .map (some mf), vc', u, ?_⟩, KP⟩
  exact {
    lt := fun x hx => by
      rcases hx with hx | hx
      · exact Nat.lt_of_lt_of_le (h.lt x hx) K.size
      · exact hx.2
    ps := .inl h.ps
    blk := hsb
    seen := .inr ⟨ma, rfl, hmw⟩
    safe := .inr ⟨mf, rfl, hmf⟩
    unmade := fun e => by cases e
    mades := fun _ => ⟨ma, mf, rfl, rfl, Ne.symm hne, hin ma hma.1 hmw.lt, hin mf hpf hmf.lt⟩
    chg := by
      show Row w' 69 4 vc' (q.chg ++ [c]).length _
      rw [List.length_append]
      exact hrw
    pc := fun x hx => hin x (by
      rcases hv x hx with h1 | h1
      · exact .inl (h.pc x h1)
      · exact .inr (Nat.le_trans hk0.size h1)) (hrw.lt x hx)
    file := fun b f hf => by
      obtain ⟨h1, h2, h3⟩ := h.file b f hf
      refine ⟨.inl h1, h2.kp K (fun e => ?_) (fun x hx e => ?_), fun x hx => .inl (h3 x hx)⟩
      · rcases e with e | e | e
        · exact h2.blk.ne h.blk (by decide) e
        · exact hma.2 b _ _ h2.blk e
        · exact h.chg.ne h2.blk (by decide) e
      · rcases e with e | e | e
        · exact h2.own.row.ne h.blk (by decide) (by rw [hx, e])
        · exact hmr h2.own.row x hx e
        · exact h2.own.row.ne' h.chg (by decide) x hx e
    sep := h.sep
    inv := hi }

theorem hmf (fn : Fn) (first cap : Array Value) (w : World) : (Instr.makeFunc fn first cap).run Tryz.prog w = .ok (.func fn first cap) w := rfl

set_option maxHeartbeats 2000000 in
/-- change: a step, and then the change. -/
theorem change_any {P P2 : Nat → Prop} {N : Nat} (w : World) (s : Nat) (p q : PS) (c : PC) (h : Sys P N w s p) (hN : N + 1 ≤ 1000) (hpre : ∀ W, Kp (· = s) w W → Sys P (N + 1) W s (tick p) → Sys P2 (N + 1) W s q) (hlt2 : ∀ x, P2 x → x < w.heap.size)
    (hok : okc q.seen c) (hn : c.nm.length ≤ 1000000 ∧ c.to.length ≤ 1000000) (hi : PInv (N + 1) (chgd c q)) :
    Calls Tryz.prog 51 #[.pointer (some ⟨s, 0, none⟩), .agg (chgCells c).toArray] w fun e w' =>
      (dead p = true ∧ e = .returned (.int .i64 12) ∧ Sys P N w' s (fall p) ∧ Kp (· = s) w w') ∨
      (dead p = false ∧ e = .returned (.int .i64 0) ∧ ∃ P', Sys P' (N + 1) w' s (chgd c q) ∧ Kp P2 w w' ∧ ∀ x, P' x → P2 x ∨ w.heap.size ≤ x) := by
  have hm := hmf
  have HO : Hid (chgCells c = [.int .i64 (c.kind : Int), .string (sOf c.nm), .string (sOf c.to), ptrV (pcV c)]) := rfl
  obtain ⟨pv, hpv⟩ : ∃ pv, ptrV (pcV c) = .pointer pv := ⟨_, rfl⟩
  rw [hpv] at HO
  have hsl := h.lt s (by obtain ⟨_, _, _, _, h⟩ := h; exact h.ps)
  have HH := hid h
  rw [HO.out]
  -- the two boxes
  have kw : Hid (Kp No w ((w.alloc (.cells #[.pointer (some ⟨s, 0, none⟩)] 25)).alloc (.cells #[.int .i64 (c.kind : Int), .string (sOf c.nm), .string (sOf c.to), .pointer pv] 69))) := ((Kp.refl _ _).alloc _).alloc _
  have hb1 : Hid (Blk ((w.alloc (.cells #[.pointer (some ⟨s, 0, none⟩)] 25)).alloc (.cells #[.int .i64 (c.kind : Int), .string (sOf c.nm), .string (sOf c.to), .pointer pv] 69)) w.heap.size 25 [.pointer (some ⟨s, 0, none⟩)]) := (Blk.new w 25 [.pointer (some ⟨s, 0, none⟩)]).kp (L := No) ((Kp.refl _ _).alloc _) (fun h => h)
  have hb2 : Hid (Blk ((w.alloc (.cells #[.pointer (some ⟨s, 0, none⟩)] 25)).alloc (.cells #[.int .i64 (c.kind : Int), .string (sOf c.nm), .string (sOf c.to), .pointer pv] 69)) (w.heap.size + 1) 69 (chgCells c)) := by
    have := Blk.new (w.alloc (.cells #[.pointer (some ⟨s, 0, none⟩)] 25)) 69 (chgCells c)
    unfold Hid
    rw [HO.out] at this ⊢
    simpa using this
  have hsz : Hid (((w.alloc (.cells #[.pointer (some ⟨s, 0, none⟩)] 25)).alloc (.cells #[.int .i64 (c.kind : Int), .string (sOf c.nm), .string (sOf c.to), .pointer pv] 69)).heap.size = w.heap.size + 2) := by simp [Hid]
  have q0 : ((w.alloc (.cells #[.pointer (some ⟨s, 0, none⟩)] 25)).alloc (.cells #[.int .i64 (c.kind : Int), .string (sOf c.nm), .string (sOf c.to), .pointer pv] 69)).cell? ⟨w.heap.size, 0, none⟩ = some (.pointer (some ⟨s, 0, none⟩)) := hb1.out.cell 0
  cases hd : dead p with
  | true =>
    have HC := hid (step_dead _ s p (h.kept kw.out) hd (.func (.func 71) #[] #[.pointer (some ⟨w.heap.size, 0, none⟩), .pointer (some ⟨w.heap.size + 1, 0, none⟩)]))
    generalize sOf c.nm = sn at *
    generalize sOf c.to = st at *
    clear hb1 hb2 hsz h hpv
    go_enter Tryz.func51, Tryz.ntmps51
    go_wp2_with (go_at_call 52; refine (HC.out).mono ?_; rintro e w1 ⟨rfl, h1, h2⟩; have H1 := hid h1; have H2 := hid h2; clear h1 h2)
    go_ret
    exact .inl ⟨by first | rfl | trivial, rfl, H1.out, (kw.out.mono (fun _ h => h.elim)).trans H2.out (fun x hx => .inl hx)⟩
  | false =>
    have HC : Hid (Calls Tryz.prog 52 #[.pointer (some ⟨s, 0, none⟩), .func (.func 71) #[] #[.pointer (some ⟨w.heap.size, 0, none⟩), .pointer (some ⟨w.heap.size + 1, 0, none⟩)]] ((w.alloc (.cells #[.pointer (some ⟨s, 0, none⟩)] 25)).alloc (.cells #[.int .i64 (c.kind : Int), .string (sOf c.nm), .string (sOf c.to), .pointer pv] 69)) fun e w' => e = .returned (.int .i64 0) ∧
        ∃ P', Sys P' (N + 1) w' s (chgd c q) ∧ Kp P2 w w' ∧ ∀ x, P' x → P2 x ∨ w.heap.size ≤ x) := by
      refine step_live _ s p (h.kept kw.out) hd hN 71 _ (enters_of Tryz.func71 (by kernel_rfl) rfl) _ ?_
      intro W hkW hsW
      have kW : Kp (· = s) w W := (kw.out.mono (fun _ h => h.elim)).trans hkW (fun x hx => .inl hx)
      obtain ⟨vs, vf, vc, u, hR⟩ := hpre W kW hsW
      have hxW := hb1.out.kp hkW (fun e => by omega)
      have hyW := hb2.out.kp hkW (fun e => by omega)
      have hI := hR.inv
      have hb := hI.big
      have hse : (∃ ma, vs = .map (some ma) ∧ MapAt W ma q.seen) ∨ (vs = .map none ∧ vf = .map none ∧ q.seen = []) := by
        rcases hR.seen with ⟨e1, e2⟩ | ⟨b, e1, e2⟩
        · refine .inr ⟨e1, ?_, e2⟩
          cases hmd : q.made with
          | false => exact (hR.unmade hmd).2
          | true => obtain ⟨a, b, ha, _⟩ := hR.mades hmd; rw [e1] at ha; cases ha
        · exact .inl ⟨b, e1, e2⟩
      refine (chg1_any W s w.heap.size (w.heap.size + 1) c q.seen _ vs vf vc _ _ _ _ q.chg hxW hyW hR.blk hse hR.chg hok hn (by have := hI.lseen; omega) (by have := hI.lchg; omega) (fun e => by have := hlt2 _ (hR.pc _ e); omega)).mono ?_
      rintro e w' ⟨rfl, wx, ma, vc', W1, hB, hm1, hr1, hk1, hw1, hv1⟩
      obtain ⟨hS, hK⟩ := rp_chgd hR hB hm1 hr1 hk1 hw1 hv1 hi
      refine ⟨rfl, _, hS, (kW.mono (fun x hx => .inl (by subst hx; exact hR.ps))).trans hK (fun x hx => .inl hx), fun x hx => ?_⟩
      rcases hx with hx | hx
      · exact .inl hx
      · exact .inr (Nat.le_trans kW.size hx.1)
    generalize sOf c.nm = sn at *
    generalize sOf c.to = st at *
    clear hb1 hb2 hsz h hpv
    go_enter Tryz.func51, Tryz.ntmps51
    go_wp2_with (go_at_call 52; refine (HC.out).mono ?_; rintro e w1 ⟨rfl, h1⟩; have H1 := hid h1; clear h1)
    go_ret
    exact .inr ⟨by first | rfl | trivial, rfl, H1.out⟩

end Go.Proofs.YtmiipifhbliamaaGreat.Sim
