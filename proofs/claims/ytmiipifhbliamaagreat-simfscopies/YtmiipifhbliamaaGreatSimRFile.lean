/-
  The reference's files, written: Fsync, Append.
-/
import Derived.Test.YtmiipifhbliamaaGreatSimRTell
namespace Go.Proofs.YtmiipifhbliamaaGreat.Sim
open Go.RowKit Go.Maps

theorem Row.set {w : World} {e : TypeId} {sz g n cap : Nat} {xs : List Value} (h : Row w e sz (.slice (some ⟨g, 0, none⟩) n cap) n xs) (k : Nat) (y : Value) : Row (w.setCell ⟨g, k, none⟩ y) e sz (.slice (some ⟨g, 0, none⟩) n cap) n (xs.set k y) := by
  obtain ⟨h0, h⟩ := h
  rcases h with ⟨e, _⟩ | ⟨g', cap', cur, e, hb, hh, h1, h2, h3, h4⟩
  · cases e
  · cases e
    refine ⟨by simpa using h0, .inr ⟨g, cap, cur.setIfInBounds k y, rfl, hb, ?_, h1, h2, by simpa using h3, ?_⟩⟩
    · simp [World.setCell, Array.getElem?_modify, hh]
    · rw [Array.toList_setIfInBounds, ← h4, ← List.take_set]
theorem rfs_length : ∀ (us : List Value) (F : List Fl), us.length = F.length → (rfs us F).length = F.length * 2
  | [], [], _ => rfl
  | u :: us, f :: F, h => by simp only [rfs, List.length_cons, rfs_length us F (by simpa using h)]; omega
theorem rfs_setU : ∀ (us : List Value) (F : List Fl) (b : Nat) (u : Value), us.length = F.length → rfs (us.set b u) F = (rfs us F).set (b * 2) u
  | [], [], _, _, _ => by simp [rfs]
  | x :: us, f :: F, 0, u, _ => by simp [rfs]
  | x :: us, f :: F, b + 1, u, h => by
    have e : (b + 1) * 2 = b * 2 + 1 + 1 := by omega
    rw [e]
    simp only [List.set_cons_succ, rfs, rfs_setU us F b u (by simpa using h)]
theorem rfs_setF : ∀ (us : List Value) (F : List Fl) (b : Nat) (f : Fl), us.length = F.length → rfs us (F.set b f) = (rfs us F).set (b * 2 + 1) (.int .i64 (f.safe : Int))
  | [], [], _, _, _ => by simp [rfs]
  | x :: us, g :: F, 0, f, _ => by simp [rfs]
  | x :: us, g :: F, b + 1, f, h => by
    have e : (b + 1) * 2 + 1 = b * 2 + 1 + 1 + 1 := by omega
    rw [e]
    simp only [List.set_cons_succ, rfs, rfs_setF us F b f (by simpa using h)]
theorem set_same {α : Type} {l : List α} {i : Nat} {x : α} (h : l[i]? = some x) : l.set i x = l := by
  apply List.ext_getElem?
  intro j
  rw [List.getElem?_set]
  split
  · rename_i e
    subst e
    split
    · exact h.symm
    · rename_i hn; exact absurd (List.getElem?_eq_some_iff.1 h).1 hn
  · rfl
theorem files_set {F : List Fl} {b : Nat} (f : Fl) (hb : b < F.length) : (fun x => if x = b then some f else F[x]?) = fun x => (F.set b f)[x]? := by
  funext x
  rw [List.getElem?_set]
  by_cases e : x = b
  · subst e; simp [hb]
  · rw [if_neg e, if_neg (Ne.symm e)]

section
variable {Q D : Nat → Prop} {w : World} {m : Nat} {p : PS} {vF vS vA vC : Value} {us : List Value} {F : List Fl} {b g cap uc : Nat} {f : Fl} {ua : Option Addr} (h : Rr Q D w m p vF vS vA vC us F) (hR : RFileAt D w vF us F b f g cap uc ua)
include h hR
theorem RFileAt.out : Q g ∧ g ≠ m ∧ ¬ D g ∧ (∀ x, vC.ownBlock = some x → x ≠ g) := by
  have e : vF.ownBlock = some g := by rw [hR.vF]; rfl
  refine ⟨h.qF g e, fun e' => (h.frow.ne h.blk (by decide)) (by rw [e, e']), fun hd => (h.dq g hd).2.2.1 e, fun x hx e' => ?_⟩
  subst e'
  exact (h.frow.ne' h.crow (by decide)) _ e hx
/-- Other bytes. -/
theorem rr_bytes {W : World} (k : Kp No w W) (bs : List Nat) (u' : Value) (E : Nat → Prop) (hE : ∀ x, E x → w.heap.size ≤ x ∧ x < W.heap.size) (hy : ByP (fun x => D x ∨ E x) W u' bs) (hs : f.safe ≤ bs.length) :
    Rr (fun x => Q x ∨ (w.heap.size ≤ x ∧ x < W.heap.size)) (fun x => D x ∨ E x) (W.setCell ⟨g, b * 2, none⟩ u') m (setF b ⟨bs, f.safe⟩ p) vF vS vA vC (us.set b u') (F.set b ⟨bs, f.safe⟩) ∧ Kp (· = g) w (W.setCell ⟨g, b * 2, none⟩ u') := by
  obtain ⟨o1, o2, o3, o4⟩ := RFileAt.out h hR
  have hgl := hR.gl
  have k4 : Kp (· = g) W (W.setCell ⟨g, b * 2, none⟩ u') := Kp.set1 _ _ _ _
  have K : Kp (· = g) w (W.setCell ⟨g, b * 2, none⟩ u') := (k.mono (fun _ h => h.elim)).trans k4 (fun x hx => .inl hx)
  have hsz : (W.setCell ⟨g, b * 2, none⟩ u').heap.size = W.heap.size := by simp
  have hks := k.size
  have hDE : ∀ x, D x ∨ E x → x ≠ g := fun x hx e => by
    subst e
    rcases hx with hx | hx
    · exact o3 hx
    · have := (hE _ hx).1; omega
  refine ⟨?_, K⟩
  exact {
    lt := fun x hx => by
      rw [hsz]
      rcases hx with hx | hx
      · have := h.lt x hx; omega
      · exact hx.2
    qm := .inl h.qm
    dq := fun x hx => by
      rcases hx with hx | hx
      · obtain ⟨h0, h1, h2, h3⟩ := h.dq x hx
        exact ⟨.inl h0, h1, h2, h3⟩
      · have h1 := hE x hx
        have h2 := h.lt m h.qm
        exact ⟨.inr h1, fun e => by omega, fun e => by have := h.lt x (h.qF x e); omega, fun e => by have := h.lt x (h.qC x e); omega⟩
    blk := h.blk.kp K (fun e => o2 e.symm)
    files := by
      show (fun x => if x = b then some (⟨bs, f.safe⟩ : Fl) else p.files x) = _
      rw [h.files]
      exact files_set ⟨bs, f.safe⟩ hR.lt
    frow := by
      have h1 : Row W 99 2 vF F.length (rfs us F) := h.frow.kept k
      rw [hR.vF] at h1 ⊢
      have h2 := h1.set (b * 2) u'
      have e1 : rfs (us.set b u') (F.set b ⟨bs, f.safe⟩) = (rfs us F).set (b * 2) u' := by
        rw [rfs_setF _ _ _ _ (by simpa using h.ulen), rfs_setU _ _ _ _ h.ulen]
        apply set_same
        rw [List.getElem?_set_ne (by omega)]
        exact (rfs_at us F b _ f hR.u hR.get).2
      rw [e1, List.length_set]
      exact h2
    ulen := by simpa using h.ulen
    ub := fun i u f' hu hf => by
      by_cases hi : i = b
      · subst hi
        rw [List.getElem?_set_self (by rw [h.ulen]; exact hR.lt)] at hu
        rw [List.getElem?_set_self hR.lt] at hf
        cases hu
        cases hf
        exact ⟨hy.kp k4 (fun x hx _ hd => hDE x hd hx), hs⟩
      · rw [List.getElem?_set_ne (Ne.symm hi)] at hu hf
        exact ⟨((h.ub i u f' hu hf).1.kp K (fun x hx _ hd => hDE x (.inl hd) hx)).mono (fun x _ hx => .inl hx), (h.ub i u f' hu hf).2⟩
    seen := (h.seen.kp K (fun x hx _ hd => hDE x (.inl hd) hx)).mono (fun x _ hx => .inl hx)
    safe := (h.safe.kp K (fun x hx _ hd => hDE x (.inl hd) hx)).mono (fun x _ hx => .inl hx)
    ris := h.ris
    crow := h.crow.kp K (fun x hx e => o4 x hx e)
    qF := fun x hx => .inl (h.qF x hx)
    qC := fun x hx => .inl (h.qC x hx) }
/-- Another part of it is safe. -/
theorem rr_safe (n : Nat) (hn : n ≤ f.b.length) : Rr Q D (w.setCell ⟨g, b * 2 + 1, none⟩ (.int .i64 (n : Int))) m (setF b ⟨f.b, n⟩ p) vF vS vA vC us (F.set b ⟨f.b, n⟩) ∧ Kp (· = g) w (w.setCell ⟨g, b * 2 + 1, none⟩ (.int .i64 (n : Int))) := by
  obtain ⟨o1, o2, o3, o4⟩ := RFileAt.out h hR
  have K : Kp (· = g) w (w.setCell ⟨g, b * 2 + 1, none⟩ (.int .i64 (n : Int))) := Kp.set1 _ _ _ _
  have hD : ∀ x, D x → x ≠ g := fun x hx e => o3 (e ▸ hx)
  refine ⟨?_, K⟩
  exact {
    lt := fun x hx => Nat.lt_of_lt_of_le (h.lt x hx) K.size
    qm := h.qm
    dq := h.dq
    blk := h.blk.kp K (fun e => o2 e.symm)
    files := by
      show (fun x => if x = b then some (⟨f.b, n⟩ : Fl) else p.files x) = _
      rw [h.files]
      exact files_set ⟨f.b, n⟩ hR.lt
    frow := by
      have h1 := h.frow
      rw [hR.vF] at h1 ⊢
      have h2 := h1.set (b * 2 + 1) (.int .i64 (n : Int))
      rw [rfs_setF _ _ _ _ h.ulen, List.length_set]
      exact h2
    ulen := by simpa using h.ulen
    ub := fun i u f' hu hf => by
      by_cases hi : i = b
      · subst hi
        rw [List.getElem?_set_self hR.lt] at hf
        rw [hR.u] at hu
        cases hu
        cases hf
        exact ⟨hR.by'.kp K (fun x hx _ hd => hD x hd hx), hn⟩
      · rw [List.getElem?_set_ne (Ne.symm hi)] at hf
        exact ⟨(h.ub i u f' hu hf).1.kp K (fun x hx _ hd => hD x hd hx), (h.ub i u f' hu hf).2⟩
    seen := h.seen.kp K (fun x hx _ hd => hD x hd hx)
    safe := h.safe.kp K (fun x hx _ hd => hD x hd hx)
    ris := h.ris
    crow := h.crow.kp K (fun x hx e => o4 x hx e)
    qF := h.qF
    qC := h.qC }
end

set_option maxHeartbeats 4000000 in
set_option maxRecDepth 100000 in
theorem rfsync_any {Q : Nat → Prop} {N : Nat} (w : World) (m : Nat) (p : PS) (t : ByteArray) (ht : t.size ≤ 1000000) (h : RSys Q N w m p) (hN : N + 1 ≤ 1000) :
    Calls Tryz.prog 34 #[.pointer (some ⟨m, 0, none⟩), .string t] w fun e w' => e = .returned (.int .i64 ((pFsync (nm t) p).1 : Nat)) ∧ RDone Q (N + 1) w w' m (pFsync (nm t) p).2 := by
  have HH := hid h
  obtain ⟨D, vF, vS, vA, vC, us, F, h, hI, hF⟩ := h
  have HT := hid (rthere_any h t ht)
  by_cases h0 : finds p (nm t) = 0
  · obtain ⟨hw, b, hb⟩ := finds_zero h0
    rw [h0] at HT
    cases hd : dead p with
    | true =>
      have e1 : pFsync (nm t) p = (12, fall p) := by simp [pFsync, h0, stp, hd]
      rw [e1]
      have HS := hid (rfall_done h hI hF hN hd)
      clear h hI hF h0 hd e1 hb hw
      go_enter Tryz.func34, Tryz.ntmps34
      go_wp2_with (first | (go_at_call 66; refine (HT.out).mono ?_; rintro e w1 ⟨rfl, h1⟩; subst w1) | (go_at_call 64; refine (HS.out).mono ?_; rintro e w2 ⟨rfl, h2⟩; have H2 := hid h2; clear h2))
      go_ret
      exact ⟨rfl, H2.out⟩
    | false =>
      have hf := hI.hasFound hb
      have e1 : pFsync (nm t) p = (0, setF b ⟨(fileAt p b).b, (fileAt p b).b.length⟩ (tick p)) := by simp [pFsync, h0, stp, hd, blockOf, hb]
      rw [e1]
      have HS := hid (rlive_done h hI hd)
      obtain ⟨sa, sl, sc, hvS⟩ : ∃ a l c, vS = .slice a l c := by obtain ⟨a, c, e, _⟩ := h.seen; exact ⟨a, _, c, e⟩
      subst hvS
      have hlen := hI.lfile b _ hf
      have HX : Hid (∀ W, Rr Q D W m (tick p) vF (.slice sa sl sc) vA vC us F → Kp (· = m) w W → ∃ g cap uc ua, vF = .slice (some ⟨g, 0, none⟩) F.length cap ∧ b < F.length ∧ W.cell? ⟨m, 1, none⟩ = some vF ∧ W.cell? ⟨m, 2, none⟩ = some (.slice sa sl sc) ∧ W.cell? ⟨g, b * 2, none⟩ = some (.slice ua (fileAt p b).b.length uc) ∧ W.cell? ⟨g, b * 2 + 1, none⟩ = some (.int .i64 ((fileAt p b).safe : Int)) ∧ W.frozen? ⟨g, b * 2 + 1, none⟩ = false ∧
          (Calls Tryz.prog 63 #[.slice sa sl sc, .string t] W fun e w' => e = .returned (.int .i64 (b : Int)) ∧ w' = W) ∧ RDone Q (N + 1) w ((W.drew).setCell ⟨g, b * 2 + 1, none⟩ (.int .i64 ((fileAt p b).b.length : Nat))) m (setF b ⟨(fileAt p b).b, (fileAt p b).b.length⟩ (tick p))) := fun W hW kW => by
        obtain ⟨g, cap, uc, ua, hR⟩ := hW.file (b := b) (f := fileAt p b) hf
        refine ⟨g, cap, uc, ua, hR.vF, hR.lt, hW.c 1, hW.c 2, hR.c0, hR.c1, hR.z1, ?_, ?_⟩
        · have := rfind_any W _ p.seen t hW.seen
          rw [hb] at this
          exact this
        · have hWd : Rr Q D W.drew m (tick p) vF (.slice sa sl sc) vA vC us F := hW.kp (L := No) (Kp.refl _ _).drew (fun _ h => h.elim)
          obtain ⟨g', cap', uc', ua', hR'⟩ := hWd.file (b := b) (f := fileAt p b) hf
          have hgg : g' = g := by
            have e1 := hR.vF
            rw [hR'.vF] at e1
            cases e1
            rfl
          subst hgg
          obtain ⟨r1, r2⟩ := rr_safe hWd hR' (fileAt p b).b.length (Nat.le_refl _)
          have hq := (RFileAt.out hWd hR').1
          refine RDone.of ⟨D, vF, _, vA, vC, us, _, r1, inv_setF (hI.tick hN) (by show (fileAt p b).b.length ≤ 200 * (N + 1); omega), by simp; omega⟩ ?_
          exact ((kW.mono (fun x hx => .inl (by subst hx; exact h.qm))).drew).trans r2 (fun x hx => .inl (by subst hx; exact hq))
      generalize (fileAt p b).b = bs at *
      generalize (fileAt p b).safe = sf at *
      clear h hI hF h0 hd e1 hb hw hf hlen
      generalize setF b ⟨bs, bs.length⟩ (tick p) = R at *
      go_enter Tryz.func34, Tryz.ntmps34
      go_wp2_with (first | (go_at_call 66; refine (HT.out).mono ?_; rintro e w1 ⟨rfl, h1⟩; subst w1) | (go_at_call 64; refine (HS.out).mono ?_; rintro e w2 ⟨rfl, h2, k2⟩; obtain ⟨g, cap, uc, ua, x1, x2, x3, x4, x5, x6, x7, x8, x9⟩ := HX.out _ h2 k2; subst x1; have X8 := hid x8; have X9 := hid x9; have hbi : (b : Int) < (F.length : Int) := (by omega); clear h2 k2 x8 x9) | (go_at_call 63; refine (X8.out).mono ?_; rintro e w1 ⟨rfl, h1⟩; subst w1))
      go_region
      all_goals
        go_wp2
        go_ret
        exact ⟨rfl, X9.out⟩
  · have e1 : pFsync (nm t) p = (finds p (nm t), p) := by simp [pFsync, h0]
    rw [e1]
    generalize finds p (nm t) = x at *
    have hne : ((x : Int) != 0) = true := by simp; omega
    clear e1 h0 hI h hF
    go_enter Tryz.func34, Tryz.ntmps34
    go_wp2_with (go_at_call 66; refine (HT.out).mono ?_; rintro e w1 ⟨rfl, h1⟩; subst w1)
    go_ret
    exact ⟨rfl, RDone.of (HH.out.more (by omega) hN) (Kp.refl _ _)⟩

end Go.Proofs.YtmiipifhbliamaaGreat.Sim
