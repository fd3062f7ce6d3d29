/-
  The reference's Up.
-/
import Derived.Test.YtmiipifhbliamaaGreatSimRUpM
import Derived.Deep.RegionHeld3
namespace Go.Proofs.YtmiipifhbliamaaGreat.Sim
open Go.RowKit Go.Maps

theorem rchgs_at : ∀ (l : List PC) (d : Dir) (i : Nat) (c : PC), l[i]? = some c → ∀ j, j < 4 → (rchgs d l)[i * 4 + j]? = (rchgCells c (whichOf ((l.take i).foldl pdo d) c))[j]?
  | [], _, _, _, h, _, _ => by simp at h
  | x :: r, d, 0, c, h, j, hj => by
    simp at h
    subst h
    rw [rchgs, List.getElem?_append_left (by simp [rchgCells]; omega)]
    simp
  | x :: r, d, i + 1, c, h, j, hj => by
    rw [rchgs, List.getElem?_append_right (by simp [rchgCells]; omega)]
    have e : (i + 1) * 4 + j - (rchgCells x (whichOf d x)).length = i * 4 + j := by simp [rchgCells]; omega
    rw [e, rchgs_at r (pdo d x) i c (by simpa using h) j hj]
    rfl

theorem U1.step {D : Nat → Prop} {w wr w2 : World} {m : Nat} {p : PS} {vF vS vC vA : Value} {i : Nat} (h : U1 D w m p vF vS vC i vA wr) (hm : m < w.heap.size) {c : PC} (hc : p.chg[i]? = some c) {ad : Option Addr} {cap : Nat}
    (ho : OutI wr.drew w2 (.slice ad (pdo ((p.chg.take i).foldl pdo p.safe) c).length cap) (pdo ((p.chg.take i).foldl pdo p.safe) c)) :
    U1 D w m p vF vS vC (i + 1) (.slice ad (pdo ((p.chg.take i).foldl pdo p.safe) c).length cap) (w2.setCell ⟨m, 3, none⟩ (.slice ad (pdo ((p.chg.take i).foldl pdo p.safe) c).length cap)) := by
  obtain ⟨h1, h2, h3⟩ := ho
  have hi : i < p.chg.length := (List.getElem?_eq_some_iff.1 hc).1
  have e : (p.chg.take (i + 1)).foldl pdo p.safe = pdo ((p.chg.take i).foldl pdo p.safe) c := by
    rw [List.take_succ_eq_append_getElem hi, List.foldl_append]
    rw [List.getElem?_eq_getElem hi, Option.some.injEq] at hc
    rw [hc]
    rfl
  have ks := h.kp.size
  refine ⟨(h.kp.drew.andNone h3).trans (Kp.set1 _ _ _ _) (fun x hx => .inl hx), ?_, ?_⟩
  · have := (h.blk.kp ((Kp.refl No _).drew.andNone h3) (fun h => h)).setCell 3 (.slice ad (pdo ((p.chg.take i).foldl pdo p.safe) c).length cap)
    simpa [rfsCells] using this
  · rw [e]
    refine (Row.enP (h1.kp (Kp.set1 _ _ _ _) (fun x hx e => ?_)) (fun x hx => .inr ?_))
    · have := h2 x hx
      have h4 : wr.drew.heap.size = wr.heap.size := rfl
      omega
    · have := h2 x hx
      have h4 : wr.drew.heap.size = wr.heap.size := rfl
      omega

/-- What the region reads stays through a call that writes nothing, and through the store. -/
theorem u1_held {wr w2 : World} {m xg i : Nat} {a b0 b1 b2 b3 : Value} (k : Kp No wr.drew w2) (hm : m < wr.drew.heap.size) (hx : xg < wr.drew.heap.size) (c4 : wr.cell? ⟨m, 4, none⟩ = some a) (d0 : wr.cell? ⟨xg, i * 4, none⟩ = some b0) (d1 : wr.cell? ⟨xg, i * 4 + 1, none⟩ = some b1) (d2 : wr.cell? ⟨xg, i * 4 + 2, none⟩ = some b2) (d3 : wr.cell? ⟨xg, i * 4 + 3, none⟩ = some b3) :
    w2.cell? ⟨m, 4, none⟩ = some a ∧ w2.cell? ⟨xg, i * 4, none⟩ = some b0 ∧ w2.cell? ⟨xg, i * 4 + 1, none⟩ = some b1 ∧ w2.cell? ⟨xg, i * 4 + 2, none⟩ = some b2 ∧ w2.cell? ⟨xg, i * 4 + 3, none⟩ = some b3 :=
  ⟨(k.cell (p := ⟨m, 4, none⟩) hm (fun h => h)).trans c4, (k.cell (p := ⟨xg, i * 4, none⟩) hx (fun h => h)).trans d0, (k.cell (p := ⟨xg, i * 4 + 1, none⟩) hx (fun h => h)).trans d1, (k.cell (p := ⟨xg, i * 4 + 2, none⟩) hx (fun h => h)).trans d2, (k.cell (p := ⟨xg, i * 4 + 3, none⟩) hx (fun h => h)).trans d3⟩
theorem u1_after {w2 : World} {m xg i : Nat} {a b0 b1 b2 b3 u : Value} (hx : xg ≠ m) (h : w2.cell? ⟨m, 4, none⟩ = some a ∧ w2.cell? ⟨xg, i * 4, none⟩ = some b0 ∧ w2.cell? ⟨xg, i * 4 + 1, none⟩ = some b1 ∧ w2.cell? ⟨xg, i * 4 + 2, none⟩ = some b2 ∧ w2.cell? ⟨xg, i * 4 + 3, none⟩ = some b3) :
    (w2.setCell ⟨m, 3, none⟩ u).cell? ⟨m, 4, none⟩ = some a ∧ (w2.setCell ⟨m, 3, none⟩ u).cell? ⟨xg, i * 4, none⟩ = some b0 ∧ (w2.setCell ⟨m, 3, none⟩ u).cell? ⟨xg, i * 4 + 1, none⟩ = some b1 ∧ (w2.setCell ⟨m, 3, none⟩ u).cell? ⟨xg, i * 4 + 2, none⟩ = some b2 ∧ (w2.setCell ⟨m, 3, none⟩ u).cell? ⟨xg, i * 4 + 3, none⟩ = some b3 := by
  obtain ⟨h1, h2, h3, h4, h5⟩ := h
  exact ⟨(cell_other (by omega)).trans h1, (cell_far hx).trans h2, (cell_far hx).trans h3, (cell_far hx).trans h4, (cell_far hx).trans h5⟩
theorem okc_at {d : Dir} {l : List PC} {i : Nat} {c : PC} (h : okcs d l) (hc : l[i]? = some c) : okc ((l.take i).foldl pdo d) c := by
  have hi := (List.getElem?_eq_some_iff.1 hc).1
  have e : l = l.take i ++ c :: l.drop (i + 1) := by
    rw [List.getElem?_eq_getElem hi, Option.some.injEq] at hc
    rw [← hc, ← List.drop_eq_getElem_cons hi, List.take_append_drop]
  rw [e, okcs_append] at h
  exact h.2.1

/-- Which files were met. -/
def dn (l : List Nat) (n : Nat) : List Value := (List.range n).map fun j => .bool (decide (j ∈ l))
theorem dn_length (l : List Nat) (n : Nat) : (dn l n).length = n := by simp [dn]
theorem dn_at {l : List Nat} {n b : Nat} (hb : b < n) : (dn l n)[b]? = some (.bool (decide (b ∈ l))) := by simp [dn, hb]
theorem dn_step {l : List Nat} {n b : Nat} (hb : b < n) : (dn l n).set b (.bool true) = dn (l ++ [b]) n := by
  apply List.ext_getElem?
  intro x
  rw [List.getElem?_set]
  by_cases h : b = x
  · subst h
    rw [if_pos rfl, dn_length, if_pos hb, dn_at hb]
    simp
  · rw [if_neg h]
    by_cases hx : x < n
    · rw [dn_at hx, dn_at hx]
      have : (x ∈ l ++ [b]) ↔ x ∈ l := by simp [Ne.symm h]
      simp [this]
    · rw [List.getElem?_eq_none (by rw [dn_length]; omega), List.getElem?_eq_none (by rw [dn_length]; omega)]
theorem made_dn (n : Nat) : (madeCells (Value.bool false).cells (n * 1)).toList = dn [] n := by
  have e : (Value.bool false).cells = #[.bool false] := rfl
  rw [e, Nat.mul_one]
  unfold madeCells dn
  simp only [Array.toList_map, Array.toList_range]
  apply List.map_congr_left
  intro j _
  simp [Nat.mod_one]
theorem row_frozen {w : World} {e : TypeId} {sz n g cap : Nat} {xs : List Value} (h : Row w e sz (.slice (some ⟨g, 0, none⟩) n cap) n xs) (j : Nat) : w.frozen? ⟨g, j, none⟩ = false := by
  rcases h.2 with ⟨e, _⟩ | ⟨g', cap', cur, e, _, hh, _⟩
  · cases e
  · cases e
    simp [World.frozen?, hh]
theorem Tryz.infoBool : (Tryz.prog.info? 4).map (fun i => (i.zero, i.size, i.bytes)) = some (some (.bool false), 1, 1) := by kernel_rfl

/-- The second loop. -/
structure U2 (Q : Nat → Prop) (w : World) (m dg : Nat) (n : Nat) (d : Dir) (cuts : List Int) (q : PS) (vF vS vA vC : Value) (i : Nat) (wr : World) (Q' D' : Nat → Prop) (us : List Value) (F : List Fl) : Prop where
  rr : Rr Q' D' (gh m wr) m (loses (d.take i) 0 cuts q) vF vS vA (.slice none 0 0) us F
  len : F.length = n
  q' : ∀ x, Q' x → Q x ∨ w.heap.size ≤ x
  nd : ¬ Q' dg
  dl : dg < wr.heap.size
  dw : w.heap.size ≤ dg
  row : Row wr 4 1 (.slice (some ⟨dg, 0, none⟩) n n) n (dn (vals (d.take i)) n)
  kp : Kp Q w wr
  blk : Blk wr m 44 (rfsCells q vF vS vA vC)

theorem u2_next {Q : Nat → Prop} {w wr W2 : World} {m dg n : Nat} {d : Dir} {cuts : List Int} {q : PS} {vF vS vA vC : Value} {j : Nat} {Q' D' : Nat → Prop} {us : List Value} {F : List Fl} (h : U2 Q w m dg n d cuts q vF vS vA vC j wr Q' D' us F) (hm : m < w.heap.size) (hj : j < d.length) {f : Fl} (hf : (loses (d.take j) 0 cuts q).files d[j].2 = some f) {g gc uc : Nat} {ua : Option Addr} (hR : RFileAt D' (gh m wr) vF us F d[j].2 f g gc uc ua)
    (k : Kp (· = dg) wr W2) (hrow : Row W2 4 1 (.slice (some ⟨dg, 0, none⟩) n n) n ((dn (vals (d.take j)) n).set d[j].2 (.bool true))) (N : Nat) (hN : N = (lose (cuts.getD j 0) f).b.length) :
    ∃ us' F', U2 Q w m dg n d cuts q vF vS vA vC (j + 1) ((W2.setCell ⟨g, d[j].2 * 2, none⟩ (.slice ua N uc)).setCell ⟨g, d[j].2 * 2 + 1, none⟩ (.int .i64 (N : Int))) Q' D' us' F' := by
  have hmd : m ≠ dg := fun e => h.nd (by rw [← e]; exact h.rr.qm)
  have hmw : m < wr.heap.size := Nat.lt_of_lt_of_le hm h.kp.size
  have rr2 : Rr Q' D' (gh m W2) m (loses (d.take j) 0 cuts q) vF vS vA (.slice none 0 0) us F := h.rr.kp (gh_kp k hmw (fun e => hmd e)) (fun x hx hq => h.nd (by rw [← hx]; exact hq))
  obtain ⟨g2, gc2, uc2, ua2, hR2⟩ := rr2.file hf
  have e1 := hR2.vF.symm.trans hR.vF
  simp only [Value.slice.injEq, Option.some.injEq, Addr.mk.injEq, and_true, true_and] at e1
  obtain ⟨rfl, rfl⟩ := e1
  have e2 := hR2.u.symm.trans hR.u
  simp only [Option.some.injEq, Value.slice.injEq, true_and] at e2
  obtain ⟨rfl, rfl⟩ := e2
  obtain ⟨l1, l2, l3, l4⟩ := lose_len (cuts.getD j 0) f hR.sl
  have hNl : N = f.safe + min (max (cuts.getD j 0) 0).toNat (f.b.length - f.safe) := hN.trans l2
  obtain ⟨us', r3, o1, o2⟩ := u2_step rr2 hR2 N (by omega) (by omega)
  have hfa : fileAt (loses (d.take j) 0 cuts q) d[j].2 = f := by unfold fileAt; rw [hf]; rfl
  have est : setF d[j].2 ⟨f.b.take N, N⟩ (loses (d.take j) 0 cuts q) = loses (d.take (j + 1)) 0 cuts q := by
    rw [List.take_succ_eq_append_getElem hj, loses_snoc, hfa, Nat.zero_add, List.length_take, Nat.min_eq_left (by omega)]
    have : lose (cuts.getD j 0) f = ⟨f.b.take N, N⟩ := by
      have h1 : (lose (cuts.getD j 0) f).b = f.b.take N := by rw [l1, ← hNl]
      have h2 : (lose (cuts.getD j 0) f).safe = N := by rw [l3, ← hNl]
      cases hl : lose (cuts.getD j 0) f with
      | mk x y => rw [hl] at h1 h2; simp only at h1 h2; rw [h1, h2]
    rw [this]
  rw [est] at r3
  have hgd : g2 ≠ dg := fun e => h.nd (by rw [← e]; exact o1)
  have kg : Kp (· = g2) W2 ((W2.setCell ⟨g2, d[j].2 * 2, none⟩ (.slice ua2 N uc2)).setCell ⟨g2, d[j].2 * 2 + 1, none⟩ (.int .i64 (N : Int))) := (Kp.set1 _ _ _ _).trans (Kp.set1 _ _ _ _) (fun x hx => .inl hx)
  have hbF : d[j].2 < n := by have := hR2.lt; rw [h.len] at this; exact this
  have ev : vals (d.take (j + 1)) = vals (d.take j) ++ [d[j].2] := by
    unfold vals
    rw [List.take_succ_eq_append_getElem hj, List.map_append]
    rfl
  refine ⟨us', _, ⟨r3, by rw [List.length_set]; exact h.len, h.q', h.nd, ?_, h.dw, ?_, ?_, (h.blk.kp k (fun e => hmd e)).kp kg (fun e => o2 e.symm)⟩⟩
  · have := h.dl; have := k.size; have := kg.size; omega
  · rw [ev, ← dn_step hbF]
    exact hrow.kp kg (fun x hx e => by simp [Value.ownBlock] at hx; omega)
  · refine (h.kp.trans k (fun x hx => .inr (by rw [hx]; exact h.dw))).trans kg (fun x hx => ?_)
    rw [hx]
    exact h.q' _ o1

set_option maxHeartbeats 4000000 in
set_option maxRecDepth 100000 in
theorem rup_any {Q E : Nat → Prop} {N : Nat} (w : World) (m : Nat) (p : PS) (k : Int) (ca : Option Addr) (cc : Nat) (cuts : List Int) (h : RSys Q N w m p) (hv : IntsAt E w (.slice ca cuts.length cc) cuts) (hE : ∀ x, E x → ¬ Q x) :
    Calls Tryz.prog 38 #[.pointer (some ⟨m, 0, none⟩), .int .i64 k, .slice ca cuts.length cc] w fun e w' => e = .returned (.tuple #[]) ∧ RDone Q N w w' m (pUp k cuts p) := by
  obtain ⟨D, vF, vS, vA, vC, us, F, hR, hI, hF⟩ := h
  have hml := hR.lt m hR.qm
  have hcl := hI.lchg
  have hbg := hI.big
  have H := hid hR
  have HI := hid hI
  have HV := hid hv
  have HE := hid hE
  have HU0 : Hid (U1 D w m p vF vS vC 0 vA w) := ⟨Kp.refl _ _, hR.blk, hR.safe.mono (fun x _ hx => .inl hx)⟩
  obtain ⟨xa, xc, hvC, _⟩ := hR.crow.shape
  subst hvC
  clear hR hI hv hE
  go_enter Tryz.func38, Tryz.ntmps38
  go_wp2_with fail
  go_loopw [6] (fun x wr => ∃ (i : Nat) (vA : Value), x = .int .i64 (i : Int) ∧ i ≤ p.chg.length ∧ (i = 0 ∨ ((i : Int) - 1 < k)) ∧ Hid (U1 D w m p vF vS (.slice xa p.chg.length xc) i vA wr)) (fun x _ => p.chg.length - (intOf x).toNat)
  case atStart => exact ⟨0, vA, rfl, Nat.zero_le _, .inl rfl, HU0.out⟩
  case round =>
    obtain ⟨i, vA', rfl, hi, hik, HU⟩ := hrel
    clear HU0
    have c4 : wr.cell? ⟨m, 4, none⟩ = some (.slice xa p.chg.length xc) := HU.out.blk.cell 4
    by_cases hlt : i < p.chg.length ∧ (i : Int) < k
    · obtain ⟨hlt, hk⟩ := hlt
      have hc : p.chg[i]? = some p.chg[i] := List.getElem?_eq_getElem hlt
      obtain ⟨xg, rfl⟩ : ∃ xg, xa = some ⟨xg, 0, none⟩ := by
        rcases H.out.crow.2 with ⟨e, h0⟩ | ⟨g, cap', cur, e, _⟩
        · omega
        · cases e; exact ⟨g, rfl⟩
      have hxg : xg ≠ m := fun e => (H.out.crow.ne H.out.blk (by decide)) (by rw [e]; rfl)
      have hxl : xg < w.heap.size := H.out.crow.lt xg rfl
      have hcc : ∀ j, j < 4 → wr.cell? ⟨xg, i * 4 + j, none⟩ = (rchgCells p.chg[i] (whichOf ((p.chg.take i).foldl pdo p.safe) p.chg[i]))[j]? := fun j hj => by
        rw [HU.out.kp.cell (p := ⟨xg, i * 4 + j, none⟩) hxl hxg, H.out.crow.cellAt (i * 4 + j) (by omega), rchgs_at p.chg p.safe i _ hc j hj]
      have d0 := hcc 0 (by omega)
      have d1 := hcc 1 (by omega)
      have d2 := hcc 2 (by omega)
      have d3 := hcc 3 (by omega)
      simp only [rchgCells, List.getElem?_cons_zero, List.getElem?_cons_succ, Nat.add_zero] at d0 d1 d2 d3
      obtain ⟨aa, ac, rfl, _⟩ := HU.out.en
      have c3 : wr.cell? ⟨m, 3, none⟩ = some (.slice aa ((p.chg.take i).foldl pdo p.safe).length ac) := HU.out.blk.cell 3
      have z3 := HU.out.blk.frozen 3
      have hmr : m < wr.drew.heap.size := Nat.lt_of_lt_of_le hml HU.out.kp.size
      have hxr : xg < wr.drew.heap.size := Nat.lt_of_lt_of_le hxl HU.out.kp.size
      have HAP := hid (rapply_any wr.drew _ ((p.chg.take i).foldl pdo p.safe) p.chg[i] (HU.out.en.kept (Kp.refl No _).drew) (H.out.ris.fold _) (by have h1 := length_fold (p.chg.take i) p.safe; have h2 := HI.out.lsum; rw [List.length_take] at h1; omega) (fun e he => by have := (fold_names HI.out i e he).2; omega) (by have := HI.out.nmC _ (List.getElem_mem hlt); omega) (okc_at HI.out.okc hc))
      have HST : Hid (∀ w2 ad cap2, OutI wr.drew w2 (.slice ad (pdo ((p.chg.take i).foldl pdo p.safe) p.chg[i]).length cap2) (pdo ((p.chg.take i).foldl pdo p.safe) p.chg[i]) → U1 D w m p vF vS (.slice (some ⟨xg, 0, none⟩) p.chg.length xc) (i + 1) (.slice ad (pdo ((p.chg.take i).foldl pdo p.safe) p.chg[i]).length cap2) (w2.setCell ⟨m, 3, none⟩ (.slice ad (pdo ((p.chg.take i).foldl pdo p.safe) p.chg[i]).length cap2))) := fun w2 ad cap2 ho => HU.out.step hml hc ho
      clear hcc hc HU
      generalize (p.chg.take i).foldl pdo p.safe = d at *
      go_wp2_with fail
      refine wp_region_held_drew (S := fun V => V.cell? ⟨m, 4, none⟩ = some (.slice (some ⟨xg, 0, none⟩) p.chg.length xc) ∧ V.cell? ⟨xg, i * 4, none⟩ = some (.int .i64 ((p.chg[i].kind + 1 : Nat) : Int)) ∧ V.cell? ⟨xg, i * 4 + 1, none⟩ = some (.string (sOf p.chg[i].nm)) ∧ V.cell? ⟨xg, i * 4 + 2, none⟩ = some (.string (sOf p.chg[i].to)) ∧ V.cell? ⟨xg, i * 4 + 3, none⟩ = some (.int .i64 (whichOf d p.chg[i] : Nat))) (by kernel_rfl) ⟨c4, d0, d1, d2, d3⟩ (fun hHeld => ?_)
      refine wpAnyH_take (i := 0) (oi := { dst := some 27, op := Op.move (Operand.tmp 0), type := 29, pos := "ref.go:278", after := #[], guard := none }) (v := .pointer (some ⟨m, 0, none⟩)) rfl (by kernel_rfl) (by kernel_rfl) (by kernel_rfl) (fun _ _ _ h => h) (Or.inl ⟨by rfl, fun w' hw' => by (clear hw'; go_simp)⟩) hHeld ?_
      simp only [Act.put, List.setIfInBounds_toArray, List.set_cons_zero, List.set_cons_succ]
      refine wpAnyH_take (i := 1) (oi := { dst := some 28, op := Op.move (Operand.tmp 0), type := 29, pos := "ref.go:278", after := #[], guard := none }) (v := .pointer (some ⟨m, 0, none⟩)) rfl (by kernel_rfl) (by kernel_rfl) (by kernel_rfl) (fun _ _ _ h => h) (Or.inl ⟨by rfl, fun w' hw' => by (clear hw'; go_simp)⟩) hHeld ?_
      simp only [Act.put, List.setIfInBounds_toArray, List.set_cons_zero, List.set_cons_succ]
      refine wpAnyH_take (i := 2) (oi := { dst := some 29, op := Op.nilCheck (Operand.tmp 28), type := 0, pos := "ref.go:278", after := #[{ on := 1, ground := Ground.data }], guard := none }) (v := .pointer (some ⟨m, 0, none⟩)) rfl (by kernel_rfl) (by kernel_rfl) (by kernel_rfl) (fun _ _ _ h => h) (Or.inl ⟨by rfl, fun w' hw' => by (clear hw'; go_simp)⟩) hHeld ?_
      simp only [Act.put, List.setIfInBounds_toArray, List.set_cons_zero, List.set_cons_succ]
      refine wpAnyH_take (i := 3) (oi := { dst := some 30, op := Op.fieldAddr 44 (Operand.tmp 29) 3, type := 0, pos := "ref.go:278", after := #[{ on := 2, ground := Ground.data }], guard := none }) (v := .pointer (some ⟨m, 3, none⟩)) rfl (by kernel_rfl) (by kernel_rfl) (by kernel_rfl) (fun _ _ _ h => h) (Or.inl ⟨by rfl, fun w' hw' => by (clear hw'; go_simp)⟩) hHeld ?_
      simp only [Act.put, List.setIfInBounds_toArray, List.set_cons_zero, List.set_cons_succ]
      refine wpAnyH_take (i := 5) (oi := { dst := some 32, op := Op.move (Operand.tmp 0), type := 29, pos := "ref.go:278", after := #[], guard := none }) (v := .pointer (some ⟨m, 0, none⟩)) rfl (by kernel_rfl) (by kernel_rfl) (by kernel_rfl) (fun _ _ _ h => h) (Or.inl ⟨by rfl, fun w' hw' => by (clear hw'; go_simp)⟩) hHeld ?_
      simp only [Act.put, List.setIfInBounds_toArray, List.set_cons_zero, List.set_cons_succ]
      refine wpAnyH_take (i := 6) (oi := { dst := some 33, op := Op.nilCheck (Operand.tmp 32), type := 0, pos := "ref.go:278", after := #[{ on := 5, ground := Ground.data }], guard := none }) (v := .pointer (some ⟨m, 0, none⟩)) rfl (by kernel_rfl) (by kernel_rfl) (by kernel_rfl) (fun _ _ _ h => h) (Or.inl ⟨by rfl, fun w' hw' => by (clear hw'; go_simp)⟩) hHeld ?_
      simp only [Act.put, List.setIfInBounds_toArray, List.set_cons_zero, List.set_cons_succ]
      refine wpAnyH_take (i := 7) (oi := { dst := some 34, op := Op.fieldAddr 44 (Operand.tmp 33) 4, type := 0, pos := "ref.go:278", after := #[{ on := 6, ground := Ground.data }], guard := none }) (v := .pointer (some ⟨m, 4, none⟩)) rfl (by kernel_rfl) (by kernel_rfl) (by kernel_rfl) (fun _ _ _ h => h) (Or.inl ⟨by rfl, fun w' hw' => by (clear hw'; go_simp)⟩) hHeld ?_
      simp only [Act.put, List.setIfInBounds_toArray, List.set_cons_zero, List.set_cons_succ]
      refine wpAnyH_take (i := 8) (oi := { dst := some 35, op := Op.load 42 (Operand.tmp 34), type := 42, pos := "ref.go:278", after := #[{ on := 7, ground := Ground.data }], guard := none }) (v := .slice (some ⟨xg, 0, none⟩) p.chg.length xc) rfl (by kernel_rfl) (by kernel_rfl) (by kernel_rfl) (fun _ _ _ h => h) (Or.inl ⟨by rfl, fun w' hw' => by (obtain ⟨e4, f0, f1, f2, f3⟩ := hw'; go_simp)⟩) hHeld ?_
      simp only [Act.put, List.setIfInBounds_toArray, List.set_cons_zero, List.set_cons_succ]
      refine wpAnyH_take (i := 9) (oi := { dst := some 36, op := Op.move (Operand.tmp 6), type := 3, pos := "ref.go:278", after := #[], guard := none }) (v := .int .i64 (i : Int)) rfl (by kernel_rfl) (by kernel_rfl) (by kernel_rfl) (fun _ _ _ h => h) (Or.inl ⟨by rfl, fun w' hw' => by (clear hw'; go_simp)⟩) hHeld ?_
      simp only [Act.put, List.setIfInBounds_toArray, List.set_cons_zero, List.set_cons_succ]
      refine wpAnyH_take (i := 10) (oi := { dst := some 37, op := Op.indexAddr 42 (Operand.tmp 35) (Operand.tmp 36), type := 0, pos := "ref.go:278", after := #[{ on := 8, ground := Ground.data }, { on := 9, ground := Ground.data }], guard := none }) (v := .pointer (some ⟨xg, i * 4, none⟩)) rfl (by kernel_rfl) (by kernel_rfl) (by kernel_rfl) (fun _ _ _ h => h) (Or.inl ⟨by rfl, fun w' hw' => by (clear hw'; go_simp)⟩) hHeld ?_
      simp only [Act.put, List.setIfInBounds_toArray, List.set_cons_zero, List.set_cons_succ]
      refine wpAnyH_take (i := 11) (oi := { dst := some 38, op := Op.load 102 (Operand.tmp 37), type := 102, pos := "ref.go:278", after := #[{ on := 10, ground := Ground.data }], guard := none }) (v := .agg #[.int .i64 ((p.chg[i].kind + 1 : Nat) : Int), .string (sOf p.chg[i].nm), .string (sOf p.chg[i].to), .int .i64 (whichOf d p.chg[i] : Nat)]) rfl (by kernel_rfl) (by kernel_rfl) (by kernel_rfl) (fun _ _ _ h => h) (Or.inl ⟨by rfl, fun w' hw' => by (obtain ⟨e4, f0, f1, f2, f3⟩ := hw'; go_simp)⟩) hHeld ?_
      simp only [Act.put, List.setIfInBounds_toArray, List.set_cons_zero, List.set_cons_succ]
      refine wpAnyH_ready (rs := [4]) (by kernel_rfl) (by simp) ?_
      refine AllReadyH.cons (o := { dst := some 31, op := Op.load 41 (Operand.tmp 30), type := 41, pos := "ref.go:278", after := #[{ on := 3, ground := Ground.data }], guard := none }) rfl (fun K hK => ?_) AllReadyH.nil
      go_simp
      refine hK.out _ _ (⟨c4, d0, d1, d2, d3⟩) (fun hh => ?_)
      clear hK K hHeld
      have hHeld := hh
      clear hh
      try simp only [Act.put, List.setIfInBounds_toArray, List.set_cons_zero, List.set_cons_succ]
      refine wpAnyH_ready (rs := [12]) (by kernel_rfl) (by simp) ?_
      refine AllReadyH.cons (o := { dst := some 39, op := Op.call { callee := Callee.value (Operand.func 67), args := #[Operand.tmp 31, Operand.tmp 38], argTypes := #[41, 102] }, type := 41, pos := "ref.go:278", after := #[{ on := 4, ground := Ground.data }, { on := 11, ground := Ground.data }], guard := none }) rfl (fun K hK => ?_) AllReadyH.nil
      go_simp
      refine HAP.out.mono ?_
      rintro e w2 ⟨ad, cap2, rfl, ho⟩
      have hS2 := u1_held ho.2.2 hmr hxr c4 d0 d1 d2 d3
      have HO := hid ho
      clear ho
      go_wp2_with fail
      refine hK.out _ _ (hS2) (fun hh => ?_)
      clear hK K hHeld
      have hHeld := hh
      clear hh
      try simp only [Act.put, List.setIfInBounds_toArray, List.set_cons_zero, List.set_cons_succ]
      refine wpAnyH_take (i := 13) (oi := { dst := some 40, op := Op.nilCheck (Operand.tmp 27), type := 0, pos := "ref.go:278", after := #[{ on := 0, ground := Ground.data }, { on := 0, ground := Ground.phase }, { on := 1, ground := Ground.phase }, { on := 2, ground := Ground.phase }, { on := 3, ground := Ground.phase }, { on := 4, ground := Ground.phase }, { on := 5, ground := Ground.phase }, { on := 6, ground := Ground.phase }, { on := 7, ground := Ground.phase }, { on := 8, ground := Ground.phase }, { on := 9, ground := Ground.phase }, { on := 10, ground := Ground.phase }, { on := 11, ground := Ground.phase }, { on := 12, ground := Ground.phase }], guard := none }) (v := .pointer (some ⟨m, 0, none⟩)) rfl (by kernel_rfl) (by kernel_rfl) (by kernel_rfl) (fun _ _ _ h => h) (Or.inl ⟨by rfl, fun w' hw' => by (clear hw'; go_simp)⟩) hHeld ?_
      simp only [Act.put, List.setIfInBounds_toArray, List.set_cons_zero, List.set_cons_succ]
      refine wpAnyH_take (i := 14) (oi := { dst := some 41, op := Op.fieldAddr 44 (Operand.tmp 40) 3, type := 0, pos := "ref.go:278", after := #[{ on := 13, ground := Ground.data }, { on := 0, ground := Ground.phase }, { on := 1, ground := Ground.phase }, { on := 2, ground := Ground.phase }, { on := 3, ground := Ground.phase }, { on := 4, ground := Ground.phase }, { on := 5, ground := Ground.phase }, { on := 6, ground := Ground.phase }, { on := 7, ground := Ground.phase }, { on := 8, ground := Ground.phase }, { on := 9, ground := Ground.phase }, { on := 10, ground := Ground.phase }, { on := 11, ground := Ground.phase }, { on := 12, ground := Ground.phase }], guard := none }) (v := .pointer (some ⟨m, 3, none⟩)) rfl (by kernel_rfl) (by kernel_rfl) (by kernel_rfl) (fun _ _ _ h => h) (Or.inl ⟨by rfl, fun w' hw' => by (clear hw'; go_simp)⟩) hHeld ?_
      simp only [Act.put, List.setIfInBounds_toArray, List.set_cons_zero, List.set_cons_succ]
      have zf : w2.frozen? ⟨m, 3, none⟩ = false := (HO.out.2.2.frozen (p := ⟨m, 3, none⟩) hmr (fun h => h)).trans z3
      have zc : ∃ u, w2.cell? ⟨m, 3, none⟩ = some u := ⟨_, (HO.out.2.2.cell (p := ⟨m, 3, none⟩) hmr (fun h => h)).trans c3⟩
      obtain ⟨zu, zc⟩ := zc
      refine wpAnyH_ready (rs := [15]) (by kernel_rfl) (by simp) ?_
      refine AllReadyH.cons (o := { dst := none, op := Op.store 41 (Operand.tmp 41) (Operand.tmp 39), type := 0, pos := "ref.go:278", after := #[{ on := 14, ground := Ground.data }, { on := 12, ground := Ground.data }, { on := 12, ground := Ground.chain }, { on := 0, ground := Ground.phase }, { on := 1, ground := Ground.phase }, { on := 2, ground := Ground.phase }, { on := 3, ground := Ground.phase }, { on := 4, ground := Ground.phase }, { on := 5, ground := Ground.phase }, { on := 6, ground := Ground.phase }, { on := 7, ground := Ground.phase }, { on := 8, ground := Ground.phase }, { on := 9, ground := Ground.phase }, { on := 10, ground := Ground.phase }, { on := 11, ground := Ground.phase }, { on := 12, ground := Ground.phase }], guard := none }) rfl (fun K hK => ?_) AllReadyH.nil
      go_simp
      refine hK.out _ _ (u1_after hxg hS2) (fun hh => ?_)
      clear hK K hHeld
      have hHeld := hh
      clear hh
      try simp only [Act.put, List.setIfInBounds_toArray, List.set_cons_zero, List.set_cons_succ]
      refine wpAnyH_done (by kernel_rfl) ?_ _
      go_wp2_with fail
      go_roundw
      case rel => exact ⟨i + 1, _, by go_num, by omega, .inr (by omega), HST.out _ _ _ HO.out⟩
      case measure => simp [intOf]; omega
    · have hK : min (max k 0).toNat p.chg.length = i := by omega
      have hcond : (decide ((i : Int) < (p.chg.length : Int)) && decide ((i : Int) < k)) = false := by
        by_cases h1 : i < p.chg.length
        · have h2 : ¬ (i : Int) < k := fun h => hlt ⟨h1, h⟩
          simp [h2]
        · have : ¬ (i : Int) < (p.chg.length : Int) := by omega
          simp [this]
      obtain ⟨fa, fc, hvF, hfc, _⟩ := H.out.frow.shape
      subst hvF
      have c1 : wr.cell? ⟨m, 1, none⟩ = some (.slice fa F.length fc) := HU.out.blk.cell 1
      obtain ⟨i0, hi0, hz0, hz1, hz2⟩ := info_parts Tryz.infoBool
      have hFl : F.length ≤ 1000 := by omega
      have HU2 : Hid (∀ w2, w2.ownsRow 0 4 1 (.slice (some ⟨wr.heap.size, 0, none⟩) F.length F.length) F.length (madeCells (Value.bool false).cells (F.length * 1)).toList → wr.grownBy w2 none →
          U2 Q w m wr.heap.size F.length (settle i p).safe cuts (settle i p) (.slice fa F.length fc) vS vA' (.slice xa p.chg.length xc) 0 w2 (fun x => Q x ∨ (w.heap.size ≤ x ∧ x < wr.heap.size)) (fun x => D x ∨ (w.heap.size ≤ x ∧ x < wr.heap.size)) us F) := fun w2 hown hgr => by
        have k2 : Kp No wr w2 := (Kp.refl No wr).grown hgr (fun x hx => by cases hx)
        rw [made_dn] at hown
        have hw : w.heap.size ≤ wr.heap.size := HU.out.kp.size
        refine ⟨(u2_start H.out HU.out k2).1, rfl, fun x hx => hx.imp id (fun h => h.1), fun hx => ?_, Row.lt hown _ rfl, hw, hown, (HU.out.kp.mono (fun x hx => .inl (by subst hx; exact H.out.qm))).andNone k2, HU.out.blk.kp k2 (fun h => h)⟩
        rcases hx with hx | hx
        · have := H.out.lt _ hx; omega
        · omega
      clear hlt hik
      obtain ⟨aa, ac, hvA, _⟩ := HU.out.en
      subst hvA
      have hnd : (vals (settle i p).safe).Nodup := by
        have h0 : (vals p.safe ++ mades (p.chg.take i ++ p.chg.drop i)).Nodup := by rw [List.take_append_drop]; simpa [vals, mades] using HI.out.nodup
        have h1 : okcs p.safe (p.chg.take i) := by have := HI.out.okc; rw [← List.take_append_drop i p.chg, okcs_append] at this; exact this.1
        exact (List.nodup_append.1 (nodup_fold (p.chg.take i) (p.chg.drop i) p.safe H.out.ris h1 h0)).1
      have HND := hid hnd
      have HFN : Hid (∀ e ∈ (settle i p).safe, (p.files e.2).isSome = true) := fun e he => (fold_names HI.out i e he).1
      have HFL : Hid (∀ b f, p.files b = some f → f.b.length ≤ 200000) := fun b f hf => by have := HI.out.lfile b f hf; omega
      have hdl : (settle i p).safe.length ≤ 1000 := by
        have h1 := length_fold (p.chg.take i) p.safe
        have h2 := HI.out.lsum
        rw [List.length_take] at h1
        show ((p.chg.take i).foldl pdo p.safe).length ≤ 1000
        omega
      have HSM : Hid (pUp k cuts p = (let r := loses (settle i p).safe 0 cuts (settle i p); { r with seen := r.safe, down := false, armed := false, left := 0 })) := by
        rw [Hid, pUp, hK]
      have HINV := hid (inv_up HI.out H.out.ris k cuts)
      have hqc : Hid ((settle i p).chg = []) := rfl
      have hqf : Hid ((settle i p).files = p.files) := rfl
      have hqs : Hid (((p.chg.take i).foldl pdo p.safe) = (settle i p).safe) := rfl
      have hdd : ((p.chg.take i).foldl pdo p.safe).length = (settle i p).safe.length := rfl
      rw [hdd] at HU2
      clear hnd hdd HU hK
      have hor : ((i : Int) < (p.chg.length : Int) ∧ ¬ (i : Int) < k) ∨ ¬ (i : Int) < (p.chg.length : Int) := by
        by_cases h1 : (i : Int) < (p.chg.length : Int)
        · refine .inl ⟨h1, fun h => ?_⟩
          simp [h1, h] at hcond
        · exact .inr h1
      clear hcond
      generalize settle i p = q at *
      obtain ⟨d, hd⟩ : ∃ d, q.safe = d := ⟨_, rfl⟩
      have HQD := hid hd
      rw [hd] at HU2 HND HFN HSM hdl hqs
      clear hd
      rcases hor with ⟨h1', h2'⟩ | h1'
      all_goals
        go_wp2_with (at_make; refine wpList_make_full _ rfl _ _ 104 rfl 0 4 i0 (.bool false) 1 Tryz.underlying104 hi0 hz0 hz1 .i64 .i64 _ _ F.length rfl rfl rfl rfl (by rw [hz2]; omega) (by unfold maxLen; omega) (Nat.zero_le _) ?_; intro w2 hown hgr; have HU3 := hid (HU2.out w2 hown hgr); clear hown hgr)
        clear HU2 c4 c1
        obtain ⟨dg, hdg⟩ : ∃ dg, wr.heap.size = dg := ⟨_, rfl⟩
        rw [hdg] at HU3 ⊢
        clear hdg
        go_loopw [8] (fun x wq => ∃ (j : Nat) (Q' D' : Nat → Prop) (us' : List Value) (F' : List Fl), x = .int .i64 (j : Int) ∧ j ≤ d.length ∧ Hid (U2 Q w m dg F.length d cuts q (.slice fa F.length fc) vS (.slice aa d.length ac) (.slice xa p.chg.length xc) j wq Q' D' us' F')) (fun x _ => d.length - (intOf x).toNat)
        case atStart => exact ⟨0, _, _, us, F, rfl, Nat.zero_le _, HU3.out⟩
        case round =>
          obtain ⟨j, Q', D', us', F', rfl, hj, HW⟩ := hrel
          clear HU3
          have c3 : wr.cell? ⟨m, 3, none⟩ = some (.slice aa d.length ac) := HW.out.blk.cell 3
          have c1 : wr.cell? ⟨m, 1, none⟩ = some (.slice fa F.length fc) := HW.out.blk.cell 1
          by_cases hlt2 : j < d.length
          · have hsafe : (loses (d.take j) 0 cuts q).safe = d := ((loses_same cuts (d.take j) 0 q).1).trans HQD.out
            have hEn := HW.out.rr.safe
            rw [hsafe] at hEn
            obtain ⟨aa', ac', e0, _, _, hEc⟩ := hEn
            simp only [Value.slice.injEq] at e0
            obtain ⟨rfl, _, rfl⟩ := e0
            obtain ⟨ag, rfl, hDag, hagl, hEc⟩ := hEc (fun e => by rw [e] at hlt2; simp at hlt2)
            have hagm : ag ≠ m := (HW.out.rr.dq ag hDag).2.1
            have cE : wr.cell? ⟨ag, j * 2 + 1, none⟩ = some (.int .i64 (d[j].2 : Int)) := by
              have := hEc j d[j] (List.getElem?_eq_getElem hlt2) 1 (by omega)
              rw [gh_cell (.inl hagm)] at this
              exact this
            obtain ⟨f, hf⟩ : ∃ f, (loses (d.take j) 0 cuts q).files d[j].2 = some f := by
              refine Option.isSome_iff_exists.1 ?_
              refine (loses_files cuts 200000 (d.take j) 0 q (fun b f hf => ?_)).2 _ ?_
              · rw [hqf.out] at hf; exact HFL.out b f hf
              · rw [hqf.out]; exact HFN.out _ (List.getElem_mem hlt2)
            have hfl : f.b.length ≤ 200000 := (loses_files cuts 200000 (d.take j) 0 q (fun b f hf => by rw [hqf.out] at hf; exact HFL.out b f hf)).1 _ f hf
            obtain ⟨g, gc, uc, ua, hR⟩ := HW.out.rr.file hf
            have hvf := hR.vF
            rw [HW.out.len] at hvf
            simp only [Value.slice.injEq, true_and] at hvf
            obtain ⟨rfl, rfl⟩ := hvf
            obtain ⟨o1, o2, o3, _⟩ := RFileAt.out HW.out.rr hR
            have hbF : d[j].2 < F.length := by have := hR.lt; rw [HW.out.len] at this; exact this
            have cF0 : wr.cell? ⟨g, d[j].2 * 2, none⟩ = some (.slice ua f.b.length uc) := by have := hR.c0; rw [gh_cell (.inl o2)] at this; exact this
            have cF1 : wr.cell? ⟨g, d[j].2 * 2 + 1, none⟩ = some (.int .i64 (f.safe : Int)) := by have := hR.c1; rw [gh_cell (.inl o2)] at this; exact this
            have zF0 : wr.frozen? ⟨g, d[j].2 * 2, none⟩ = false := by have := hR.z0; rw [gh_frozen] at this; exact this
            have zF1 : wr.frozen? ⟨g, d[j].2 * 2 + 1, none⟩ = false := by have := hR.z1; rw [gh_frozen] at this; exact this
            have hgd : g ≠ dg := fun e => HW.out.nd (by rw [← e]; exact o1)
            have hmd : m ≠ dg := fun e => HW.out.nd (by rw [← e]; exact HW.out.rr.qm)
            have hnm : d[j].2 ∉ vals (d.take j) := by
              have h1 := HND.out
              have e : d = d.take j ++ d[j] :: d.drop (j + 1) := by rw [← List.drop_eq_getElem_cons hlt2, List.take_append_drop]
              have h2 : vals d = vals (d.take j) ++ d[j].2 :: vals (d.drop (j + 1)) := by
                unfold vals
                conv => lhs; rw [e]
                rw [List.map_append, List.map_cons]
              rw [h2, List.nodup_append] at h1
              exact fun hm => h1.2.2 _ hm _ (by simp) rfl
            have cD : wr.cell? ⟨dg, d[j].2, none⟩ = some (.bool false) := by
              rw [HW.out.row.cellAt _ (by omega), dn_at hbF]
              simp [hnm]
            have zD := row_frozen HW.out.row d[j].2
            have hsl := hR.sl
            have HNX := hid (fun (W2 : World) (kk : Kp (· = dg) wr W2) (hrow : Row W2 4 1 (.slice (some ⟨dg, 0, none⟩) F.length F.length) F.length ((dn (vals (d.take j)) F.length).set d[j].2 (.bool true))) (NN : Nat) (hNN : NN = (lose (cuts.getD j 0) f).b.length) => u2_next HW.out hml hlt2 hf hR kk hrow NN hNN)
            have HRW := hid (HW.out.row.set d[j].2 (.bool true))
            have HLL := hid (lose_len (cuts.getD j 0) f hR.sl).2.1
            obtain ⟨W1, hW1⟩ : ∃ W1, wr.setCell ⟨dg, d[j].2, none⟩ (.bool true) = W1 := ⟨_, rfl⟩
            have HK1 : Hid (Kp (· = dg) wr W1) := by rw [← hW1]; exact Kp.set1 _ _ _ _
            rw [hW1] at HRW
            have e1 : W1.cell? ⟨m, 1, none⟩ = some (.slice (some ⟨g, 0, none⟩) F.length fc) := by rw [← hW1]; exact (cell_far hmd).trans c1
            have eF0 : W1.cell? ⟨g, d[j].2 * 2, none⟩ = some (.slice ua f.b.length uc) := by rw [← hW1]; exact (cell_far hgd).trans cF0
            have eF1 : W1.cell? ⟨g, d[j].2 * 2 + 1, none⟩ = some (.int .i64 (f.safe : Int)) := by rw [← hW1]; exact (cell_far hgd).trans cF1
            have HVJ : Hid (∀ W, Kp (· = dg) wr W → IntsAt E W (.slice ca cuts.length cc) cuts) := fun W kk => HV.out.kp (HW.out.kp.trans kk (fun x hx => .inr (by rw [hx]; exact HW.out.dw))) (fun x hx he => HE.out x he hx)
            have huc : f.b.length ≤ uc := by obtain ⟨_, _, e, h1, _⟩ := hR.by'; simp only [Value.slice.injEq] at e; omega
            have hucm : uc ≤ maxLen := by obtain ⟨_, _, e, _, h1, _⟩ := hR.by'; simp only [Value.slice.injEq] at e; omega
            unfold maxLen at hucm
            have hg1 : g < W1.heap.size := Nat.lt_of_lt_of_le (by have := hR.gl; rw [gh_size] at this; exact this) HK1.out.size
            have hm1 : m < W1.heap.size := Nat.lt_of_lt_of_le hml (Nat.le_trans HW.out.kp.size HK1.out.size)
            obtain ⟨W2, hW2⟩ : ∃ W2, W1.alloc (.cells #[.slice ua f.b.length uc, .int .i64 (f.safe : Int)] 99) = W2 := ⟨_, rfl⟩
            have HK2 : Hid (Kp (· = dg) wr W2) := by rw [← hW2]; exact HK1.out.alloc _
            have HRW2 : Hid (Row W2 4 1 (.slice (some ⟨dg, 0, none⟩) F.length F.length) F.length ((dn (vals (d.take j)) F.length).set d[j].2 (.bool true))) := by rw [← hW2]; exact HRW.out.kept ((Kp.refl _ _).alloc _)
            have b1 : W2.cell? ⟨m, 1, none⟩ = some (.slice (some ⟨g, 0, none⟩) F.length fc) := by rw [← hW2]; exact (World.cell?_alloc_past _ _ _ hm1).trans e1
            have bF0 : W2.cell? ⟨g, d[j].2 * 2, none⟩ = some (.slice ua f.b.length uc) := by rw [← hW2]; exact (World.cell?_alloc_past _ _ _ hg1).trans eF0
            have bF1 : W2.cell? ⟨g, d[j].2 * 2 + 1, none⟩ = some (.int .i64 (f.safe : Int)) := by rw [← hW2]; exact (World.cell?_alloc_past _ _ _ hg1).trans eF1
            have bz0 : W2.frozen? ⟨g, d[j].2 * 2, none⟩ = false := by rw [← hW2, World.frozen?_alloc_past _ _ _ hg1, ← hW1]; simpa using zF0
            have bz1 : W2.frozen? ⟨g, d[j].2 * 2 + 1, none⟩ = false := by rw [← hW2, World.frozen?_alloc_past _ _ _ hg1, ← hW1]; simpa using zF1
            have bv0 : W2.cell? ⟨W1.heap.size, 0, none⟩ = some (.slice ua f.b.length uc) := by rw [← hW2]; exact (Blk.new W1 99 [.slice ua f.b.length uc, .int .i64 (f.safe : Int)]).cell 0
            have bv1 : W2.cell? ⟨W1.heap.size, 1, none⟩ = some (.int .i64 (f.safe : Int)) := by rw [← hW2]; exact (Blk.new W1 99 [.slice ua f.b.length uc, .int .i64 (f.safe : Int)]).cell 1
            have HNX2 := hid (HNX.out W2 HK2.out HRW2.out)
            have HNX3 := hid (fun nq : Nat => HNX.out (W2.drewN nq) (HK2.out.drewN nq) (HRW2.out.kept ((Kp.refl No _).drewN nq)))
            have HIA := hid (HVJ.out W2 HK2.out)
            have HGZ : Hid (¬ j < cuts.length → cuts.getD j 0 = 0) := fun h => by rw [List.getD_eq_getElem?_getD, List.getElem?_eq_none (by omega)]; rfl
            clear hEc hR hf hsafe hnm HNX HVJ HRW HRW2 HK1 HK2 HW hDag hagl
            generalize hbb : d[j].2 = b at *
            generalize f.b.length = L at *
            generalize f.safe = sf at *
            by_cases hjc : j < cuts.length
            · have hjc' : (j : Int) < (cuts.length : Int) := by omega
              obtain ⟨_, _, e5, _, _, _, hcell⟩ := HIA.out
              simp only [Value.slice.injEq] at e5
              obtain ⟨rfl, _, rfl⟩ := e5
              obtain ⟨cg, co, rfl, _, _, hcell⟩ := hcell (fun e => by rw [e] at hjc; simp at hjc)
              have cz := hcell j hjc
              clear hcell HIA HGZ
              obtain ⟨z, hz⟩ : ∃ z, cuts.getD j 0 = z := ⟨_, rfl⟩
              have HZ := hid hz
              rw [hz] at cz HLL
              clear hz
              have hwr : IntKind.i64.wrap ((L : Int) - (sf : Int)) = (L : Int) - (sf : Int) := by rw [IntKind.wrap_i64]; omega
              obtain ⟨mo, hmo, hmo2⟩ : ∃ mo : Nat, min (max z 0) ((L : Int) - (sf : Int)) = (mo : Int) ∧ mo = min (max z 0).toNat (L - sf) := ⟨_, by omega, rfl⟩
              rw [← hmo2] at HLL
              have hmol : sf + mo ≤ L := by omega
              have hws : IntKind.i64.wrap ((sf : Int) + (mo : Int)) = (sf : Int) + (mo : Int) := by rw [IntKind.wrap_i64]; omega
              have hsu : (sf : Int) + (mo : Int) ≤ (uc : Int) := by omega
              have hs0 : (0 : Int) ≤ (sf : Int) + (mo : Int) := by omega
              have HN3 := hid (fun nq : Nat => HNX3.out nq (sf + mo) (by rw [HZ.out, HLL.out]))
              clear hmo2 HNX3 HNX2 HLL
              go_wp2_with fail
              go_quiet (fail)
              clear hmo
              obtain ⟨NS, hNS⟩ : ∃ NS : Nat, sf + mo = NS := ⟨_, rfl⟩
              have hNSi : (sf : Int) + (mo : Int) = (NS : Int) := by omega
              rw [hNS] at HN3
              rw [hNSi] at hws hsu hs0
              have hNSu : NS ≤ uc := by omega
              go_wp2_with fail
              go_roundw
              case rel =>
                obtain ⟨us3, F3, hU⟩ := HN3.out _
                exact ⟨j + 1, Q', D', us3, F3, by go_num, by omega, hU⟩
              case measure => simp [intOf]; omega
            · have hjc' : ¬ (j : Int) < (cuts.length : Int) := by omega
              rw [HGZ.out hjc] at HLL
              have HLL' : Hid (sf = (lose (cuts.getD j 0) f).b.length) := by rw [Hid, HGZ.out hjc, HLL.out]; simp
              have hsu : (sf : Int) ≤ (uc : Int) := by omega
              go_wp2_with fail
              go_roundw
              case rel =>
                obtain ⟨us3, F3, hU⟩ := HNX2.out sf HLL'.out
                exact ⟨j + 1, Q', D', us3, F3, by go_num, by omega, hU⟩
              case measure => simp [intOf]; omega
          · have hjd : j = d.length := by omega
            have htk : d.take j = d := by rw [hjd]; exact List.take_length
            have z2 := HW.out.blk.frozen 2
            have z4 := HW.out.blk.frozen 4
            have z5 := HW.out.blk.frozen 5
            have z6 := HW.out.blk.frozen 6
            have c2 : ∃ u, wr.cell? ⟨m, 2, none⟩ = some u := ⟨_, HW.out.blk.cell 2⟩
            have c4 : ∃ u, wr.cell? ⟨m, 4, none⟩ = some u := ⟨_, HW.out.blk.cell 4⟩
            have c5 : ∃ u, wr.cell? ⟨m, 5, none⟩ = some u := ⟨_, HW.out.blk.cell 5⟩
            have c6 : ∃ u, wr.cell? ⟨m, 6, none⟩ = some u := ⟨_, HW.out.blk.cell 6⟩
            obtain ⟨u2, c2⟩ := c2
            obtain ⟨u4, c4⟩ := c4
            obtain ⟨u5, c5⟩ := c5
            obtain ⟨u6, c6⟩ := c6
            have HFIN : Hid (RDone Q N w ((((wr.setCell ⟨m, 2, none⟩ (.slice aa d.length ac)).setCell ⟨m, 4, none⟩ (.slice none 0 0)).setCell ⟨m, 5, none⟩ (.int .i64 (-1))).setCell ⟨m, 6, none⟩ (.bool false)) m (pUp k cuts p)) := by
              have hU := HW.out
              have hrr := hU.rr
              rw [htk] at hrr
              obtain ⟨s1, s2, s3, s4, s5, s6⟩ := loses_same cuts d 0 q
              have kb : Kp (· = m) (gh m wr) wr := ⟨rfl, rfl, rfl, by rw [gh_size]; exact Nat.le_refl _, fun x _ hn => (Below.heap_setCell _ _ _ _ hn).symm⟩
              have kw : Kp (· = m) wr ((((wr.setCell ⟨m, 2, none⟩ (.slice aa d.length ac)).setCell ⟨m, 4, none⟩ (.slice none 0 0)).setCell ⟨m, 5, none⟩ (.int .i64 (-1))).setCell ⟨m, 6, none⟩ (.bool false)) := (((Kp.set1 _ _ _ _).trans (Kp.set1 _ _ _ _) (fun x hx => .inl hx)).trans (Kp.set1 _ _ _ _) (fun x hx => .inl hx)).trans (Kp.set1 _ _ _ _) (fun x hx => .inl hx)
              have hb := (((hU.blk.setCell 2 (.slice aa d.length ac)).setCell 4 (.slice none 0 0)).setCell 5 (.int .i64 (-1))).setCell 6 (.bool false)
              have hr := rr_up hrr (by rw [s3]; exact hqc.out) (kb.trans kw (fun x hx => .inl hx)) (by
                simp only [rfsCells, armV, s5, s6, Bool.false_eq_true, if_false]
                simpa [rfsCells] using hb)
              have hsm := HSM.out
              refine ⟨Q', ?_, hU.kp.trans kw (fun x hx => .inl (by rw [hx]; exact H.out.qm)), fun x hx => hU.q' x hx⟩
              rw [hsm]
              refine ⟨D', _, _, _, _, us', F', hr, ?_, by rw [hU.len]; exact hF⟩
              rw [← hsm]
              exact HINV.out
            clear HW htk hjd
            go_wp2_with fail
            go_end0
            exact ⟨rfl, HFIN.out⟩

end Go.Proofs.YtmiipifhbliamaaGreat.Sim
