/-
  The reference's system in memory; what is wrong with a call, and a step.
-/
import Derived.Test.YtmiipifhbliamaaGreatSimRApply
namespace Go.Proofs.YtmiipifhbliamaaGreat.Sim
open Go.RowKit Go.Maps

/-- The changes, each with the number that it bears. -/
def rchgs : Dir → List PC → List Value
  | _, [] => []
  | d, c :: r => rchgCells c (whichOf d c) ++ rchgs (pdo d c) r
theorem rchgs_snoc (c : PC) : ∀ (l : List PC) (d : Dir), rchgs d (l ++ [c]) = rchgs d l ++ rchgCells c (whichOf (l.foldl pdo d) c)
  | [], d => by simp [rchgs]
  | x :: r, d => by simp only [List.cons_append, rchgs, rchgs_snoc c r, List.foldl_cons, List.append_assoc]
/-- The files' cells. -/
def rfs : List Value → List Fl → List Value
  | u :: us, f :: F => u :: .int .i64 (f.safe : Int) :: rfs us F
  | _, _ => []
theorem rfs_append : ∀ (us : List Value) (F : List Fl) (vs : List Value) (G : List Fl), us.length = F.length → rfs (us ++ vs) (F ++ G) = rfs us F ++ rfs vs G
  | [], [], _, _, _ => rfl
  | u :: us, f :: F, vs, G, h => by simp only [List.cons_append, rfs, rfs_append us F vs G (by simpa using h)]
theorem rfs_at : ∀ (us : List Value) (F : List Fl) (i : Nat) (u : Value) (f : Fl), us[i]? = some u → F[i]? = some f → (rfs us F)[i * 2]? = some u ∧ (rfs us F)[i * 2 + 1]? = some (.int .i64 (f.safe : Int))
  | [], _, i, _, _, h, _ => by simp at h
  | _ :: _, [], i, _, _, _, h => by simp at h
  | x :: us, g :: F, 0, u, f, h1, h2 => by simp at h1 h2; subst h1 h2; simp [rfs]
  | x :: us, g :: F, i + 1, u, f, h1, h2 => by
    have := rfs_at us F i u f (by simpa using h1) (by simpa using h2)
    have e : (i + 1) * 2 = i * 2 + 1 + 1 := by omega
    rw [e]
    simpa [rfs] using this

def armV (p : PS) : Int := if p.armed then (p.left : Int) else -1
def rfsCells (p : PS) (vF vS vA vC : Value) : List Value := [.int .i64 (p.room : Int), vF, vS, vA, vC, .int .i64 (armV p), .bool p.down, .int .i64 (p.steps : Int)]

/-- The reference's system of the state p at m: in blocks of which Q; those of which D nobody writes any more. -/
structure Rr (Q D : Nat → Prop) (w : World) (m : Nat) (p : PS) (vF vS vA vC : Value) (us : List Value) (F : List Fl) : Prop where
  lt : ∀ x, Q x → x < w.heap.size
  qm : Q m
  dq : ∀ x, D x → Q x ∧ x ≠ m ∧ vF.ownBlock ≠ some x ∧ vC.ownBlock ≠ some x
  blk : Blk w m 44 (rfsCells p vF vS vA vC)
  files : p.files = fun b => F[b]?
  frow : Row w 99 2 vF F.length (rfs us F)
  ulen : us.length = F.length
  ub : ∀ (i : Nat) (u : Value) (f : Fl), us[i]? = some u → F[i]? = some f → ByP D w u f.b ∧ f.safe ≤ f.b.length
  seen : EnP D w vS p.seen
  safe : EnP D w vA p.safe
  ris : Ris p.safe
  crow : Row w 102 4 vC p.chg.length (rchgs p.safe p.chg)
  qF : ∀ x, vF.ownBlock = some x → Q x
  qC : ∀ x, vC.ownBlock = some x → Q x

def RSys (Q : Nat → Prop) (N : Nat) (w : World) (m : Nat) (p : PS) : Prop := ∃ (D : Nat → Prop) (vF vS vA vC : Value) (us : List Value) (F : List Fl), Rr Q D w m p vF vS vA vC us F ∧ PInv N p ∧ F.length ≤ N

section
variable {Q D : Nat → Prop} {w : World} {m : Nat} {p : PS} {vF vS vA vC : Value} {us : List Value} {F : List Fl}
theorem Rr.c (h : Rr Q D w m p vF vS vA vC us F) (j : Nat) : w.cell? ⟨m, j, none⟩ = (rfsCells p vF vS vA vC)[j]? := h.blk.cell j
theorem Rr.kp {L : Nat → Prop} {w' : World} (h : Rr Q D w m p vF vS vA vC us F) (k : Kp L w w') (hL : ∀ x, L x → ¬ Q x) : Rr Q D w' m p vF vS vA vC us F where
  lt x hx := Nat.lt_of_lt_of_le (h.lt x hx) k.size
  qm := h.qm
  dq := h.dq
  blk := h.blk.kp k (fun hl => hL _ hl h.qm)
  files := h.files
  frow := h.frow.kp k (fun x hx hl => hL _ hl (h.qF x hx))
  ulen := h.ulen
  ub i u f hu hf := ⟨(h.ub i u f hu hf).1.kp k (fun x hx _ hd => hL _ hx (h.dq x hd).1), (h.ub i u f hu hf).2⟩
  seen := h.seen.kp k (fun x hx _ hd => hL _ hx (h.dq x hd).1)
  safe := h.safe.kp k (fun x hx _ hd => hL _ hx (h.dq x hd).1)
  ris := h.ris
  crow := h.crow.kp k (fun x hx hl => hL _ hl (h.qC x hx))
  qF := h.qF
  qC := h.qC
/-- Other scalars in the struct. -/
theorem Rr.cells {W : World} {q : PS} (h : Rr Q D w m p vF vS vA vC us F) (k : Kp (· = m) w W) (hb : Blk W m 44 (rfsCells q vF vS vA vC)) (e2 : q.seen = p.seen) (e3 : q.safe = p.safe) (e4 : q.chg = p.chg) (e5 : q.files = p.files) : Rr Q D W m q vF vS vA vC us F where
  lt x hx := Nat.lt_of_lt_of_le (h.lt x hx) k.size
  qm := h.qm
  dq := h.dq
  blk := hb
  files := e5.trans h.files
  frow := h.frow.kp k (fun x hx e => (h.frow.ne h.blk (by decide)) (by rw [hx, e]))
  ulen := h.ulen
  ub i u f hu hf := ⟨(h.ub i u f hu hf).1.kp k (fun x hx _ hd => (h.dq x hd).2.1 hx), (h.ub i u f hu hf).2⟩
  seen := by rw [e2]; exact h.seen.kp k (fun x hx _ hd => (h.dq x hd).2.1 hx)
  safe := by rw [e3]; exact h.safe.kp k (fun x hx _ hd => (h.dq x hd).2.1 hx)
  ris := by rw [e3]; exact h.ris
  crow := by rw [e3, e4]; exact h.crow.kp k (fun x hx e => (h.crow.ne h.blk (by decide)) (by rw [hx, e]))
  qF := h.qF
  qC := h.qC

theorem rahead_any (h : Rr Q D w m p vF vS vA vC us F) (t : ByteArray) (ht : t.size ≤ 1000000) : Calls Tryz.prog 62 #[.pointer (some ⟨m, 0, none⟩), .string t] w fun e w' => e = .returned (.int .i64 (wrongs p [nm t] : Nat)) ∧ w' = w := by
  have q6 : w.cell? ⟨m, 6, none⟩ = some (.bool p.down) := h.c 6
  have HN : Hid (∀ W, Calls Tryz.prog 73 #[.string t] W fun e w' => e = .returned (.bool (nameB (nm t))) ∧ w' = W) := fun W => rName_any t ht W
  have HW : Hid (wrongs p [nm t] = if p.down then 12 else if nameB (nm t) then 0 else 10) := by simp [Hid, wrongs]
  clear h
  cases hd : p.down with
  | true =>
    rw [hd] at q6
    rw [hd] at HW
    go_enter Tryz.func62, Tryz.ntmps62
    go_wp2
    go_ret
    exact ⟨by rw [HW.out]; rfl, rfl⟩
  | false =>
    rw [hd] at q6
    rw [hd] at HW
    cases hn : nameB (nm t) with
    | true =>
      rw [hn] at HN HW
      go_enter Tryz.func62, Tryz.ntmps62
      go_wp2_with (go_at_call 73; refine (HN.out _).mono ?_; rintro e w1 ⟨rfl, h1⟩; subst w1)
      go_ret
      exact ⟨by rw [HW.out]; rfl, rfl⟩
    | false =>
      rw [hn] at HN HW
      go_enter Tryz.func62, Tryz.ntmps62
      go_wp2_with (go_at_call 73; refine (HN.out _).mono ?_; rintro e w1 ⟨rfl, h1⟩; subst w1)
      go_ret
      exact ⟨by rw [HW.out]; rfl, rfl⟩

theorem rthere_any (h : Rr Q D w m p vF vS vA vC us F) (t : ByteArray) (ht : t.size ≤ 1000000) : Calls Tryz.prog 66 #[.pointer (some ⟨m, 0, none⟩), .string t] w fun e w' => e = .returned (.int .i64 (finds p (nm t) : Nat)) ∧ w' = w := by
  have q2 : w.cell? ⟨m, 2, none⟩ = some vS := h.c 2
  have HA := hid (rahead_any h t ht)
  have HF := hid (rfind_any w vS p.seen t h.seen)
  have hfs : Hid (finds p (nm t) = if wrongs p [nm t] ≠ 0 then wrongs p [nm t] else if (dfind p.seen (nm t)).isSome then 0 else 5) := rfl
  obtain ⟨sa, sl, sc, hvS⟩ : ∃ a l c, vS = .slice a l c := by obtain ⟨a, c, e, _⟩ := h.seen; exact ⟨a, _, c, e⟩
  clear h
  subst hvS
  by_cases hw : wrongs p [nm t] = 0
  · rw [hw] at HA hfs
    cases hd : dfind p.seen (nm t) with
    | none =>
      rw [hd] at HF hfs
      have e : noOf none = -1 := rfl
      rw [e] at HF
      clear e hw hd
      go_enter Tryz.func66, Tryz.ntmps66
      go_wp2_with (first | (go_at_call 62; refine (HA.out).mono ?_; rintro e w1 ⟨rfl, h1⟩; subst w1) | (go_at_call 63; refine (HF.out).mono ?_; rintro e w1 ⟨rfl, h1⟩; subst w1))
      go_ret
      exact ⟨by rw [hfs.out]; rfl, rfl⟩
    | some b =>
      rw [hd] at HF hfs
      have e : noOf (some b) = (b : Int) := rfl
      rw [e] at HF
      have hb : ¬ (b : Int) < 0 := by omega
      clear e hw hd
      go_enter Tryz.func66, Tryz.ntmps66
      go_wp2_with (first | (go_at_call 62; refine (HA.out).mono ?_; rintro e w1 ⟨rfl, h1⟩; subst w1) | (go_at_call 63; refine (HF.out).mono ?_; rintro e w1 ⟨rfl, h1⟩; subst w1))
      go_ret
      exact ⟨by rw [hfs.out]; rfl, rfl⟩
  · have hf : Hid (finds p (nm t) = wrongs p [nm t]) := by rw [Hid, hfs.out, if_pos hw]
    clear hfs
    generalize wrongs p [nm t] = x at *
    have hne : ((x : Int) != 0) = true := by simp; omega
    go_enter Tryz.func66, Tryz.ntmps66
    go_wp2_with (go_at_call 62; refine (HA.out).mono ?_; rintro e w1 ⟨rfl, h1⟩; subst w1)
    go_ret
    exact ⟨by rw [hf.out]; rfl, rfl⟩

theorem rstep_dead (h : Rr Q D w m p vF vS vA vC us F) (hd : dead p = true) : Calls Tryz.prog 64 #[.pointer (some ⟨m, 0, none⟩)] w fun e w' => e = .returned (.int .i64 12) ∧ Rr Q D w' m (fall p) vF vS vA vC us F ∧ Kp (· = m) w w' := by
  have h' : p.armed = true ∧ p.left = 0 := by simpa [dead] using hd
  have ha : armV p = 0 := by simp [armV, h'.1, h'.2]
  have q5 : w.cell? ⟨m, 5, none⟩ = some (.int .i64 (armV p)) := h.c 5
  have q6 : w.cell? ⟨m, 6, none⟩ = some (.bool p.down) := h.c 6
  have f6 := h.blk.frozen 6
  rw [ha] at q5
  have H := hid h
  clear h h' hd ha
  go_enter Tryz.func64, Tryz.ntmps64
  go_wp2
  go_ret
  have k : Kp (· = m) w (w.setCell ⟨m, 6, none⟩ (.bool true)) := Kp.set1 _ _ _ _
  exact ⟨rfl, H.out.cells k (H.out.blk.setCell 6 (.bool true)) rfl rfl rfl rfl, k⟩

theorem rstep_live (h : Rr Q D w m p vF vS vA vC us F) (hd : dead p = false) (hs : p.steps ≤ 100000) (hl : p.left ≤ 9223372036854775807) : Calls Tryz.prog 64 #[.pointer (some ⟨m, 0, none⟩)] w fun e w' => e = .returned (.int .i64 0) ∧ Rr Q D w' m (tick p) vF vS vA vC us F ∧ Kp (· = m) w w' := by
  have q5 : w.cell? ⟨m, 5, none⟩ = some (.int .i64 (armV p)) := h.c 5
  have q7 : w.cell? ⟨m, 7, none⟩ = some (.int .i64 (p.steps : Int)) := h.c 7
  have f5 := h.blk.frozen 5
  have f7 := h.blk.frozen 7
  have H := hid h
  clear h
  cases ha : p.armed with
  | true =>
    have hl0 : p.left ≠ 0 := by intro e; simp [dead, ha, e] at hd
    have e : armV p = (p.left : Int) := by simp [armV, ha]
    rw [e] at q5
    have hne : ((p.left : Int) == 0) = false := by simp; omega
    have hgt : (0 : Int) < (p.left : Int) := by omega
    have HT : Hid (tick p = { p with left := p.left - 1, steps := p.steps + 1 }) := by simp [Hid, tick, ha]
    have HA := hid ha
    clear hd e ha
    go_enter Tryz.func64, Tryz.ntmps64
    go_wp2
    go_ret
    have k : Kp (· = m) w ((w.setCell ⟨m, 5, none⟩ (.int .i64 ((p.left : Int) - 1))).setCell ⟨m, 7, none⟩ (.int .i64 ((p.steps : Int) + 1))) := (Kp.set1 _ _ _ _).trans (Kp.set1 _ _ _ _) (fun x hx => .inl hx)
    refine ⟨rfl, H.out.cells k ?_ rfl rfl rfl rfl, k⟩
    have := (H.out.blk.setCell 5 (.int .i64 ((p.left : Int) - 1))).setCell 7 (.int .i64 ((p.steps : Int) + 1))
    have hc : ((p.left - 1 : Nat) : Int) = (p.left : Int) - 1 := by omega
    rw [HT.out]
    simpa [rfsCells, armV, HA.out, hc] using this
  | false =>
    have e : armV p = -1 := by simp [armV, ha]
    rw [e] at q5
    have HT : Hid (tick p = { p with steps := p.steps + 1 }) := by simp [Hid, tick, ha]
    have HA := hid ha
    clear hd e ha
    go_enter Tryz.func64, Tryz.ntmps64
    go_wp2
    go_ret
    have k : Kp (· = m) w (w.setCell ⟨m, 7, none⟩ (.int .i64 ((p.steps : Int) + 1))) := Kp.set1 _ _ _ _
    refine ⟨rfl, H.out.cells k ?_ rfl rfl rfl rfl, k⟩
    have := H.out.blk.setCell 7 (.int .i64 ((p.steps : Int) + 1))
    rw [HT.out]
    simpa [rfsCells, armV, HA.out] using this
end

end Go.Proofs.YtmiipifhbliamaaGreat.Sim
