/-
  Copy.
-/
import Derived.Test.YtmiipifhbliamaaGreatSimCopy2
namespace Go.Proofs.YtmiipifhbliamaaGreat.Sim
open Go.RowKit Go.Maps

theorem store_any (a : Addr) (x : Value) (n : Int) (w : World) (hc : w.cell? a = some x) (hz : w.frozen? a = false) :
    Calls Tryz.prog 20 #[.pointer (some a), .int .i64 n] w fun e w' => e = .returned (.tuple #[]) ∧ w' = w.setCell a (.int .i64 n) := by
  have hst := run_call_store (P := Tryz.prog) Tryz.func59 (by kernel_rfl) (by kernel_rfl) (by kernel_rfl) (by kernel_rfl) (k := .i64) (y := n) hc hz
  go_enter Tryz.func20, Tryz.ntmps20
  go_wp2
  go_end0
  exact ⟨rfl, rfl⟩

/-- Where a copy stands: i changes through. -/
structure CpAt (w : World) (p : PS) (c mb : Nat) (st : Int) (i : Nat) (wr : World) (g : Nat → Nat) (u : Nat → Value) (vc : Value) : Prop where
  blk : Blk wr c 63 [.int .i64 (p.room : Int), .map none, .map (some mb), vc, .bool p.down, .bool p.armed, .int .i64 (p.left : Int), .int .i64 st]
  map : MapAt wr mb (ren g p.safe)
  row : Row wr 69 4 vc i (chgs ((p.chg.take i).map (renC g)))
  cps : Cps w.heap.size wr p.files (fun b => b ∈ vals p.safe ++ mades (p.chg.take i)) g u
  kp : Kp No w wr
  own : ∀ x, vc.ownBlock = some x → w.heap.size ≤ x
  mbn : w.heap.size ≤ mb
  cn : w.heap.size ≤ c
theorem CpAt.kept {w : World} {p : PS} {c mb : Nat} {st : Int} {i : Nat} {wr w' : World} {g : Nat → Nat} {u : Nat → Value} {vc : Value} (h : CpAt w p c mb st i wr g u vc) (k : Kp No wr w') : CpAt w p c mb st i w' g u vc :=
  { blk := h.blk.kp k (fun h => h), map := h.map.kp k (fun h => h), row := h.row.kept k, cps := h.cps.kept k, kp := h.kp.andNone k, own := h.own, mbn := h.mbn, cn := h.cn }

theorem nil_copy (w : World) : Calls Tryz.prog 9 #[.pointer none] w fun e w' => e = .returned (.pointer none) ∧ w' = w := by
  go_enter Tryz.func9, Tryz.ntmps9
  go_wp2
  go_ret
  exact ⟨rfl, rfl⟩

/-- One change more. -/
theorem CpAt.step {w wr w3 w4 : World} {p : PS} {c mb : Nat} {st : Int} {i : Nat} {g g' : Nat → Nat} {u u' : Nat → Value} {vc vc' : Value} {d : PC} (h : CpAt w p c mb st i wr g u vc) (hi : p.chg[i]? = some d) (k3 : Kp No wr w3)
    (hg : ∀ b, b ∈ vals p.safe ++ mades (p.chg.take i) → g' b = g b) (hc3 : Cps w.heap.size w3 p.files (fun b => b ∈ vals p.safe ++ mades (p.chg.take (i + 1))) g' u')
    (hr : Row w4 69 4 vc' (i + 1) (chgs ((p.chg.take i).map (renC g)) ++ chgCells (renC g' d))) (k4 : Kp (fun k => vc.ownBlock = some k) w3 w4) (hv : ∀ x, vc'.ownBlock = some x → vc.ownBlock = some x ∨ w3.heap.size ≤ x) :
    CpAt w p c mb st (i + 1) (w4.setCell ⟨c, 3, none⟩ vc') g' u' vc' := by
  have h3 := h.kept k3
  have htk : p.chg.take (i + 1) = p.chg.take i ++ [d] := by rw [List.take_add_one, hi]; rfl
  have hcv : vc.ownBlock ≠ some c := h3.row.ne h3.blk (by decide)
  have hmv : vc.ownBlock ≠ some mb := h3.map.row h3.row
  have hb4 := h3.blk.kp k4 (fun e => hcv e)
  have hm4 := h3.map.kp k4 (fun e => hmv e)
  have kset := Kp.set1 w4 c 3 vc'
  have hren : ren g' p.safe = ren g p.safe := by
    unfold ren
    apply List.map_congr_left
    intro e he
    rw [hg e.2 (List.mem_append.2 (.inl (List.mem_map.2 ⟨e, he, rfl⟩)))]
  have hmap : (p.chg.take i).map (renC g) = (p.chg.take i).map (renC g') := by
    apply List.map_congr_left
    intro e he
    unfold renC
    split
    · rename_i hk
      rw [hg e.file (List.mem_append.2 (.inr (List.mem_map.2 ⟨e, List.mem_filter.2 ⟨he, by simp [hk]⟩, rfl⟩)))]
    · rfl
  have K : Kp (fun k => vc.ownBlock = some k ∨ k = c) w3 (w4.setCell ⟨c, 3, none⟩ vc') := (k4.mono (fun x hx => .inl (.inl hx))).trans kset (fun x hx => .inl (.inr hx))
  exact {
    blk := hb4.setCell 3 vc'
    map := by rw [hren]; exact hm4.kp kset (hm4.blk hb4)
    row := by
      rw [htk, List.map_append, chgs_append, ← hmap]
      have e : [d].map (renC g') = [renC g' d] := rfl
      rw [e, chgs_one]
      exact hr.kp kset (fun x hx e => hr.ne hb4 (by decide) (by rw [hx, e]))
    cps := hc3.kp K (fun b v f hA => ⟨fun e => by
      rcases e with e | e
      · exact h3.row.ne hA.blk (by decide) e
      · exact hA.blk.ne h3.blk (by decide) e, fun x hx e => by
      rcases e with e | e
      · exact hA.own.row.ne' h3.row (by decide) x hx e
      · exact hA.own.row.ne h3.blk (by decide) (by rw [hx, e])⟩)
    kp := (h.kp.andNone k3).trans K (fun x hx => .inr (by
      rcases hx with hx | hx
      · exact h.own x hx
      · rw [hx]; exact h.cn))
    own := fun x hx => by
      rcases hv x hx with h1 | h1
      · exact h.own x h1
      · have := h3.kp.size; omega
    mbn := h.mbn
    cn := h.cn }

theorem mades_append (l m : List PC) : mades (l ++ m) = mades l ++ mades m := by simp [mades]
/-- (change).copy, as a copy goes on. -/
theorem ccopy_at {w wr V : World} {p : PS} {c mb : Nat} {st : Int} {i : Nat} {g : Nat → Nat} {u : Nat → Value} {vc : Value} {d : PC} (h : CpAt w p c mb st i wr g u vc) (hi : p.chg[i]? = some d) (hT : ∀ b ∈ vals p.safe ++ mades p.chg, There w p.files b) (hn : (vals p.safe ++ mades p.chg).Nodup) (k : Kp No wr V) :
    Calls Tryz.prog 22 #[.agg (chgCells d).toArray] V fun e w' => ∃ g' u' pv', e = .returned (.agg #[.int .i64 (d.kind : Int), .string (sOf d.nm), .string (sOf d.to), .pointer pv']) ∧ chgCells (renC g' d) = [.int .i64 (d.kind : Int), .string (sOf d.nm), .string (sOf d.to), .pointer pv'] ∧
      (∀ b, b ∈ vals p.safe ++ mades (p.chg.take i) → g' b = g b) ∧ Cps w.heap.size w' p.files (fun b => b ∈ vals p.safe ++ mades (p.chg.take (i + 1))) g' u' ∧ Kp No V w' := by
  have htk : p.chg.take (i + 1) = p.chg.take i ++ [d] := by rw [List.take_add_one, hi]; rfl
  have hV := h.kept k
  by_cases hk : d.kind = 0
  · have hmd : mades (p.chg.take (i + 1)) = mades (p.chg.take i) ++ [d.file] := by rw [htk]; simp [mades, hk]
    have hdm : d ∈ p.chg := List.mem_of_getElem? hi
    have hin : d.file ∈ vals p.safe ++ mades p.chg := List.mem_append.2 (.inr (List.mem_map.2 ⟨d, List.mem_filter.2 ⟨hdm, by simp [hk]⟩, rfl⟩))
    have hns : d.file ∉ vals p.safe ++ mades (p.chg.take i) := by
      have h1 : p.chg = p.chg.take (i + 1) ++ p.chg.drop (i + 1) := (List.take_append_drop _ _).symm
      have h2 : mades p.chg = mades (p.chg.take i) ++ [d.file] ++ mades (p.chg.drop (i + 1)) := by
        rw [← hmd, ← mades_append, ← h1]
      rw [h2, ← List.append_assoc, ← List.append_assoc] at hn
      have h3 := (List.nodup_append.1 hn).1
      exact fun hm => (List.nodup_append.1 h3).2.2 d.file hm d.file (by simp) rfl
    refine (ccopy_yes V d p.files hk ((hT d.file hin).kept hV.kp)).mono ?_
    rintro e w' ⟨nb, v', f, rfl, h1, h2, h3, h4, h5⟩
    have hre : renC (upd g d.file nb) d = { d with file := nb } := by unfold renC; rw [if_pos hk, upd_same]
    have hcc : chgCells { d with file := nb } = [.int .i64 (d.kind : Int), .string (sOf d.nm), .string (sOf d.to), .pointer (some ⟨nb, 0, none⟩)] := by
      have : pcV { d with file := nb } = some nb := by unfold pcV; rw [if_pos hk]
      unfold chgCells
      rw [this]
      rfl
    refine ⟨upd g d.file nb, upd u d.file v', some ⟨nb, 0, none⟩, by rw [hcc], by rw [hre, hcc], fun b hb => upd_other _ _ (fun e => hns (e ▸ hb)), ?_, h5⟩
    have hA := hV.cps.add hV.kp.size hns h1 h2 h3 h4 h5
    refine hA.set (fun b hb => ?_)
    rw [hmd, ← List.append_assoc] at hb
    rcases List.mem_append.1 hb with hb | hb
    · exact .inl hb
    · exact .inr (by simpa using hb)
  · have hmd : mades (p.chg.take (i + 1)) = mades (p.chg.take i) := by rw [htk]; simp [mades, hk]
    refine (ccopy_no V d hk).mono ?_
    rintro e w' ⟨rfl, h5⟩
    have hre : renC g d = d := by unfold renC; rw [if_neg hk]
    have hcc : chgCells d = [.int .i64 (d.kind : Int), .string (sOf d.nm), .string (sOf d.to), .pointer none] := by
      have : pcV d = none := by unfold pcV; rw [if_neg hk]
      unfold chgCells
      rw [this]
      rfl
    refine ⟨g, u, none, by rw [hcc], by rw [hre, hcc], fun _ _ => rfl, ?_, h5⟩
    rw [hmd]
    exact hV.cps.kept h5

set_option maxHeartbeats 4000000 in
set_option maxRecDepth 100000 in
theorem copy_walk {P : Nat → Prop} {N : Nat} (w : World) (s : Nat) (p : PS) (h : Sys P N w s p) :
    Calls Tryz.prog 9 #[.pointer (some ⟨s, 0, none⟩)] w fun e w' => ∃ c mb g u vc wr ms, e = .returned (.pointer (some ⟨c, 0, none⟩)) ∧ CpAt w p c mb (p.steps : Int) p.chg.length wr g u vc ∧ wr.heap.size ≤ ms ∧
      Blk w' c 63 [.int .i64 (p.room : Int), .map (some ms), .map (some mb), vc, .bool p.down, .bool p.armed, .int .i64 (p.left : Int), .int .i64 (p.steps : Int)] ∧ MapAt w' ms ((p.chg.map (renC g)).foldl pdo (ren g p.safe)) ∧ Kp (· = c) wr w' := by
  have hI := h.inv
  have hbig := hI.big
  obtain ⟨vs, vf, vc0, u0, hR⟩ := h
  obtain ⟨mo, rfl⟩ := hR.safe.shape
  obtain ⟨ac, cc, hvc, hc1, hc2, hc3, hc4⟩ := hR.chg.shape
  subst hvc
  have hsl := hR.lt s hR.ps
  have hTh : Hid (∀ b ∈ vals p.safe ++ mades p.chg, There w p.files b) := fun b hb => by
    have hs : (p.files b).isSome = true := by
      rcases List.mem_append.1 hb with h1 | h1
      · obtain ⟨e, he, rfl⟩ := List.mem_map.1 h1; exact hI.has e he
      · obtain ⟨c, hc, rfl⟩ := List.mem_map.1 h1
        obtain ⟨h2, h3⟩ := List.mem_filter.1 hc
        exact hI.hasC c h2 (by simpa using h3)
    obtain ⟨f, hf⟩ := Option.isSome_iff_exists.1 hs
    have := hI.lfile b f hf
    exact ⟨u0 b, f, hf, (hR.file b f hf).2.1, by omega⟩
  have q0 : ∀ V, Kp No w V → V.cell? ⟨s, 0, none⟩ = some (.int .i64 (p.room : Int)) := fun V k => (k.cell (p := ⟨s, 0, none⟩) hsl (fun h => h)).trans (hR.c 0)
  have q2 : ∀ V, Kp No w V → V.cell? ⟨s, 2, none⟩ = some (.map mo) := fun V k => (k.cell (p := ⟨s, 2, none⟩) hsl (fun h => h)).trans (hR.c 2)
  have q4 : ∀ V, Kp No w V → V.cell? ⟨s, 4, none⟩ = some (.bool p.down) := fun V k => (k.cell (p := ⟨s, 4, none⟩) hsl (fun h => h)).trans (hR.c 4)
  have q5 : ∀ V, Kp No w V → V.cell? ⟨s, 5, none⟩ = some (.bool p.armed) := fun V k => (k.cell (p := ⟨s, 5, none⟩) hsl (fun h => h)).trans (hR.c 5)
  have q6 : ∀ V, Kp No w V → V.cell? ⟨s, 6, none⟩ = some (.int .i64 (p.left : Int)) := fun V k => (k.cell (p := ⟨s, 6, none⟩) hsl (fun h => h)).trans (hR.c 6)
  have q3 : Hid (∀ V, Kp No w V → V.cell? ⟨s, 3, none⟩ = some (.slice ac p.chg.length cc)) := fun V k => (k.cell (p := ⟨s, 3, none⟩) hsl (fun h => h)).trans (hR.c 3)
  have q7 : Hid (∀ V, Kp No w V → V.cell? ⟨s, 7, none⟩ = some (.int .i64 (p.steps : Int))) := fun V k => (k.cell (p := ⟨s, 7, none⟩) hsl (fun h => h)).trans (hR.c 7)
  have hnod : (vals p.safe ++ mades p.chg).Nodup := hI.nodup
  have HDC : Hid (Calls Tryz.prog 19 #[.map mo] w.drew fun e w' => ∃ mb g u, e = .returned (.map (some mb)) ∧ w.heap.size ≤ mb ∧ MapAt w' mb (ren g p.safe) ∧ Cps w.heap.size w' p.files (fun b => b ∈ vals p.safe) g u ∧ Kp No w w') := by
    refine (dcopy_any w.drew (.map mo) p.safe p.files (hR.safe.kp (L := No) (Kp.refl _ _).drew (fun _ _ h => h)) (fun e he => (hTh.out e.2 (List.mem_append.2 (.inl (List.mem_map.2 ⟨e, he, rfl⟩)))).kept (Kp.refl _ _).drew) (List.nodup_append.1 hnod).1 (by have := hI.lsafe; omega) hI.nmS).mono ?_
    rintro e w' ⟨mb, g, u, rfl, h1, h2, h3, h4⟩
    exact ⟨mb, g, u, rfl, h1, h2, h3, (Kp.refl _ _).drew.andNone h4⟩
  have HCH : Hid (∀ V, Kp No w V → ∀ i d, p.chg[i]? = some d → ∃ gx, ac = some ⟨gx, 0, none⟩ ∧ ∀ j, j < 4 → V.cell? ⟨gx, i * 4 + j, none⟩ = (chgCells d)[j]?) := fun V k i d hi => by
    obtain ⟨a', cap', e, _, _, _, h5⟩ := (hR.chg.kept k).chAt (by have := hI.lchg; omega)
    cases e
    obtain ⟨gx, hg, _, hcell⟩ := h5 (fun e => by rw [e] at hi; simp at hi)
    exact ⟨gx, hg, fun j hj => hcell i d hi j hj⟩
  have HI := hid hI
  have hlc := hI.lchg
  have HNOD := hid hnod
  clear hR hnod hc3 hc4 hI
  go_enter Tryz.func9, Tryz.ntmps9
  go_wp2_with fail
  go_region_held3 (fun V => Kp No w V) (first | (with_reducible exact Kp.refl _ _) | (with_reducible exact (Kp.refl _ _).drew) | (with_reducible exact HK1.out) | (with_reducible exact HK1.out.alloc _)) (first | (go_at_call 19; refine (HDC.out).mono ?_; rintro e w1 ⟨mb, g, u, rfl, h1, h2, h3, h4⟩; have HMB := hid h1; have HM := hid h2; have HCP := hid h3; have HK1 := hid h4; clear h1 h2 h3 h4))
  have HA2 : Hid (CpAt w p w1.heap.size mb 0 0 (w1.alloc (.cells #[.int .i64 (p.room : Int), .map none, .map (some mb), .slice none 0 0, .bool p.down, .bool p.armed, .int .i64 (p.left : Int), .int .i64 0] 63)) g u (.slice none 0 0)) := {
    blk := Blk.new w1 63 [.int .i64 (p.room : Int), .map none, .map (some mb), .slice none 0 0, .bool p.down, .bool p.armed, .int .i64 (p.left : Int), .int .i64 0]
    map := HM.out.kp (L := No) ((Kp.refl _ _).alloc _) (fun h => h)
    row := Row.nil _ _ _
    cps := (HCP.out.kept ((Kp.refl _ _).alloc _)).set (fun b hb => by simpa [mades] using hb)
    kp := HK1.out.alloc _
    own := by simp [Value.ownBlock]
    mbn := HMB.out
    cn := HK1.out.size }
  obtain ⟨c, hc⟩ : ∃ c, w1.heap.size = c := ⟨_, rfl⟩
  obtain ⟨W2, hW2⟩ : ∃ W2, w1.alloc (.cells #[.int .i64 (p.room : Int), .map none, .map (some mb), .slice none 0 0, .bool p.down, .bool p.armed, .int .i64 (p.left : Int), .int .i64 0] 63) = W2 := ⟨_, rfl⟩
  rw [hW2, hc] at HA2 ⊢
  have hsc : s ≠ c := by have := HA2.out.cn; omega
  have HLD : Hid (∀ V, Kp (· = c) W2 V → Calls Tryz.prog 21 #[.pointer (some ⟨s, 7, none⟩)] V fun e w' => e = .returned (.int .i64 (p.steps : Int)) ∧ w' = V) := fun V k => load_any ⟨s, 7, none⟩ _ V ((k.cell (p := ⟨s, 7, none⟩) (by have := HA2.out.kp.size; show s < W2.heap.size; omega) hsc).trans (q7.out W2 HA2.out.kp))
  have HSO : Hid (Calls Tryz.prog 20 #[.pointer (some ⟨c, 7, none⟩), .int .i64 (p.steps : Int)] W2.drew fun e w' => e = .returned (.tuple #[]) ∧ w' = (W2.setCell ⟨c, 7, none⟩ (.int .i64 (p.steps : Int))).drew) := store_any ⟨c, 7, none⟩ (.int .i64 0) _ W2.drew (HA2.out.blk.cell 7) (HA2.out.blk.frozen 7)
  have HA3 : Hid (CpAt w p c mb (p.steps : Int) 0 (W2.setCell ⟨c, 7, none⟩ (.int .i64 (p.steps : Int))).drew g u (.slice none 0 0)) := by
    have h2 := HA2.out
    have k7 := Kp.set1 W2 c 7 (.int .i64 (p.steps : Int))
    have h3 : CpAt w p c mb (p.steps : Int) 0 (W2.setCell ⟨c, 7, none⟩ (.int .i64 (p.steps : Int))) g u (.slice none 0 0) := {
      blk := h2.blk.setCell 7 (.int .i64 (p.steps : Int))
      map := h2.map.kp k7 (h2.map.blk h2.blk)
      row := Row.nil _ _ _
      cps := h2.cps.kp k7 (fun b v f hA => ⟨hA.blk.ne h2.blk (by decide), fun x hx e => hA.own.row.ne h2.blk (by decide) (by rw [hx, e])⟩)
      kp := h2.kp.trans k7 (fun x hx => .inr (by rw [hx]; exact h2.cn))
      own := h2.own
      mbn := h2.mbn
      cn := h2.cn }
    exact h3.kept (Kp.refl _ _).drew
  clear q0 q2 q4 q5 q6 HDC hW2 hc HM HCP HK1 HMB
  go_wp2_with fail
  go_region_held3 (fun V => Kp (· = c) W2 V) (first | (with_reducible exact Kp.refl _ _) | (with_reducible exact (Kp.refl _ _).drew) | (with_reducible exact (Kp.set1 _ _ _ _).drew)) (first | (go_at_call 21; refine (HLD.out _ ?_).mono ?_; (with_reducible exact (Kp.refl _ _).drew); rintro e w3 ⟨rfl, h3⟩; subst w3) | (go_at_call 20; refine (HSO.out).mono ?_; rintro e w3 ⟨rfl, h3⟩; subst w3))
  obtain ⟨W3, hW3⟩ : ∃ W3, (W2.setCell ⟨c, 7, none⟩ (.int .i64 (p.steps : Int))).drew = W3 := ⟨_, rfl⟩
  rw [hW3] at HA3 ⊢
  have c3s := q3.out W3 HA3.out.kp
  clear hW3 HA2 HLD HSO
  have HSL : Hid (∀ V, Kp No w V → s < V.heap.size) := fun V k => Nat.lt_of_lt_of_le hsl k.size
  obtain ⟨L, hL⟩ : ∃ L, p.chg.length = L := ⟨_, rfl⟩
  have HL := hid hL
  rw [hL] at c3s hlc hc1
  clear q3 hL
  go_wp2_with fail
  go_loopw [44] (fun x wr => ∃ (i : Nat) (g : Nat → Nat) (u : Nat → Value) (a' : Option Addr) (cap' : Nat), x = .int .i64 i ∧ i ≤ L ∧ Hid (CpAt w p c mb (p.steps : Int) i wr g u (.slice a' i cap'))) (fun x _ => L - (intOf x).toNat)
  case atStart => exact ⟨0, g, u, none, 0, rfl, by omega, HA3⟩
  case round =>
    obtain ⟨i, g, u, a', cap', rfl, hi, HI2⟩ := hrel
    by_cases hlt : i < L
    · have hlt' : i < p.chg.length := by rw [HL.out]; exact hlt
      obtain ⟨d, hd⟩ : ∃ d, p.chg[i]? = some d := ⟨_, List.getElem?_eq_getElem hlt'⟩
      obtain ⟨gx, hgx, hcell⟩ := HCH.out wr HI2.out.kp i d hd
      subst hgx
      obtain ⟨pv, hpv⟩ : ∃ pv, ptrV (pcV d) = .pointer pv := ⟨_, rfl⟩
      have e0 : wr.cell? ⟨gx, i * 4, none⟩ = some (.int .i64 (d.kind : Int)) := hcell 0 (by omega)
      have e1 : wr.cell? ⟨gx, i * 4 + 1, none⟩ = some (.string (sOf d.nm)) := hcell 1 (by omega)
      have e2 : wr.cell? ⟨gx, i * 4 + 2, none⟩ = some (.string (sOf d.to)) := hcell 2 (by omega)
      have e3 : wr.cell? ⟨gx, i * 4 + 3, none⟩ = some (.pointer pv) := by rw [← hpv]; exact hcell 3 (by omega)
      have HCC : Hid (∀ V, Kp No wr V → Calls Tryz.prog 22 #[.agg #[.int .i64 (d.kind : Int), .string (sOf d.nm), .string (sOf d.to), .pointer pv]] V fun e w' => ∃ g' u' pv', e = .returned (.agg #[.int .i64 (d.kind : Int), .string (sOf d.nm), .string (sOf d.to), .pointer pv']) ∧ chgCells (renC g' d) = [.int .i64 (d.kind : Int), .string (sOf d.nm), .string (sOf d.to), .pointer pv'] ∧
          (∀ b, b ∈ vals p.safe ++ mades (p.chg.take i) → g' b = g b) ∧ Cps w.heap.size w' p.files (fun b => b ∈ vals p.safe ++ mades (p.chg.take (i + 1))) g' u' ∧ Kp No V w') := fun V k => by
        have := ccopy_at HI2.out hd hTh.out HNOD.out k
        rw [chgCells_arr d pv hpv] at this
        exact this
      have c3 : wr.cell? ⟨c, 3, none⟩ = some (.slice a' i cap') := HI2.out.blk.cell 3
      have f3 := HI2.out.blk.frozen 3
      have hcl := HI2.out.blk.lt
      have hcv : Hid ((Value.slice a' i cap').ownBlock ≠ some c) := HI2.out.row.ne HI2.out.blk (by decide)
      have HD := hid hd
      generalize sOf d.nm = sn at *
      generalize sOf d.to = st at *
      clear hcell hd hpv
      have hkn : Hid (Kp No wr (wr.alloc (.cells #[.int .i64 (d.kind : Int), .string sn, .string st, .pointer pv] 69))) := (Kp.refl _ _).alloc _
      have HCD := hid (HCC.out (wr.alloc (.cells #[.int .i64 (d.kind : Int), .string sn, .string st, .pointer pv] 69)).drew hkn.out.drew)
      have hzl : c < wr.heap.size + 1 := by omega
      have HRW : Hid (∀ V, Kp No wr V → Row V 69 4 (.slice a' i cap') i (chgs ((p.chg.take i).map (renC g)))) := fun V k => HI2.out.row.kept k
      have HBK : Hid (∀ V, Kp No wr V → V.cell? ⟨c, 3, none⟩ = some (.slice a' i cap') ∧ V.frozen? ⟨c, 3, none⟩ = false ∧ c < V.heap.size) := fun V k => ⟨(k.cell (p := ⟨c, 3, none⟩) hcl (fun h => h)).trans c3, (k.frozen (p := ⟨c, 3, none⟩) hcl (fun h => h)).trans f3, Nat.lt_of_lt_of_le hcl k.size⟩
      go_wp2_with fail
      clear e0 e1 e2 e3 HCH HCC c3s hTh HNOD HI HSL HL
      go_region_law (first
        | (refine step_app _ (by rfl) (.tmp 52) (.tmp 55) 56 69 _ 4 48 (by rfl) Tryz.underlying56 Tryz.infoChg rfl (by decide) (.slice a' i cap') (.slice (some ⟨w6.heap.size, 0, none⟩) 1 1) i 1 (chgs ((p.chg.take i).map (renC g))) [.int .i64 (d.kind : Int), .string sn, .string st, .pointer pv'] (by simp [Act.eval]) (by simp [Act.eval]) HROW6.out HSRC6.out (by omega) (by decide) ?_; intro a2 cap2 w7 hr7 hg7 hb7; have HR7 := hid hr7; have HG7 := hid hg7; have HB7 := hid hb7; have z3 : w7.cell? ⟨c, 3, none⟩ = some (.slice a' i cap') := hg7.cell ((World.cell?_alloc_past _ _ _ hcl6).trans y3) (fun e => hcv.out e.symm); have zf : w7.frozen? ⟨c, 3, none⟩ = false := ((Kp.ofGrown hg7).frozen (p := ⟨c, 3, none⟩) (by simp; omega) (fun e => hcv.out e)).trans ((World.frozen?_alloc_past _ _ _ hcl6).trans yf); clear hr7 hg7 hb7)
        | (go_simp; go_wp2_with (go_at_call 22; refine (HCD.out).mono ?_; rintro e w6 ⟨g', u', pv', rfl, h1, h2, h3, h4⟩; have H1 := hid h1; have H2 := hid h2; have H3 := hid h3; have H4 : Hid (Kp No wr w6) := hkn.out.drew.andNone h4; obtain ⟨y3, yf, hcl6⟩ := HBK.out w6 H4.out; have HROW6 := hid (HRW.out (w6.alloc (.cells #[.int .i64 (d.kind : Int), .string sn, .string st, .pointer pv'] 69)) (H4.out.alloc _)); have HSRC6 : Hid (Src (w6.alloc (.cells #[.int .i64 (d.kind : Int), .string sn, .string st, .pointer pv'] 69)) (.slice (some ⟨w6.heap.size, 0, none⟩) 1 1) 1 4 [.int .i64 (d.kind : Int), .string sn, .string st, .pointer pv']) := Src.one w6 _ 4 69 rfl (by simp [Value.oneCell']); clear h1 h2 h3 h4)))
      all_goals
        have HST : Hid (CpAt w p c mb (p.steps : Int) (i + 1) (w7.setCell ⟨c, 3, none⟩ (.slice a2 (i + 1) cap2)) g' u' (.slice a2 (i + 1) cap2)) := by
          refine HI2.out.step HD.out (H4.out.alloc (.cells #[.int .i64 (d.kind : Int), .string sn, .string st, .pointer pv'] 69)) H2.out (H3.out.kept ((Kp.refl _ _).alloc _)) (by rw [H1.out]; exact HR7.out) (Kp.ofGrown HG7.out) (fun x hx => ?_)
          rcases HB7.out with h1 | h1
          · rw [h1] at hx; exact .inl hx
          · rw [h1] at hx; simp at hx; exact .inr (by simp; omega)
        clear HI2 HRW HBK HR7 HG7 HB7 HROW6 HSRC6 HCD
        go_wp2_with fail
        go_roundw
        case rel => exact ⟨i + 1, g', u', a2, cap2, by go_num, by omega, HST⟩
        case measure => simp [intOf]; omega
    · have hiL : i = L := by omega
      subst hiL
      have c2 : wr.cell? ⟨c, 2, none⟩ = some (.map (some mb)) := HI2.out.blk.cell 2
      have HCL := hid (mclone_any wr mb (ren g p.safe) HI2.out.map)
      have htk : p.chg.take i = p.chg := List.take_of_length_le (by rw [HL.out]; exact Nat.le_refl _)
      have HBK : Hid (∀ V, Kp No wr V → Blk V c 63 [.int .i64 (p.room : Int), .map none, .map (some mb), .slice a' i cap', .bool p.down, .bool p.armed, .int .i64 (p.left : Int), .int .i64 (p.steps : Int)]) := fun V k => HI2.out.blk.kp k (fun h => h)
      have hrw : Row wr 69 4 (.slice a' i cap') ((p.chg.map (renC g)).length) (chgs (p.chg.map (renC g))) := by
        have := HI2.out.row
        rw [htk] at this
        rw [List.length_map, HL.out]
        exact this
      have hfold := ren_fold g p.chg p.safe HI.out.okc
      have HDO : Hid (∀ V ms, wr.heap.size ≤ ms → MapAt V ms (ren g p.safe) → Kp (· = c) wr V → Calls Tryz.prog 24 #[.map (some ms), .slice a' i cap'] V fun e w' => e = .returned (.tuple #[]) ∧ MapAt w' ms ((p.chg.map (renC g)).foldl pdo (ren g p.safe)) ∧ Kp (· = ms) V w') := fun V ms hms hm k => by
        have hrV : Row V 69 4 (.slice a' i cap') ((p.chg.map (renC g)).length) (chgs (p.chg.map (renC g))) := hrw.kp k (fun x hx e => hrw.ne HI2.out.blk (by decide) (by rw [hx, e]))
        exact do_any V ms (ren g p.safe) _ (p.chg.map (renC g)) hm (hrV.chAt (by rw [List.length_map, HL.out]; omega)) hfold.2 (fun x hx => by
          obtain ⟨y, hy, rfl⟩ := List.mem_map.1 hx
          have h1 := HI.out.nmC y hy
          rw [(renC_kind g y).2.1, (renC_kind g y).2.2.1]
          omega) (by rw [List.length_map, HL.out]; have := HI.out.lsafe; simp [ren]; omega)
      have HFIN : Hid (∀ w' ms, wr.heap.size ≤ ms → Blk w' c 63 [.int .i64 (p.room : Int), .map (some ms), .map (some mb), .slice a' i cap', .bool p.down, .bool p.armed, .int .i64 (p.left : Int), .int .i64 (p.steps : Int)] → MapAt w' ms ((p.chg.map (renC g)).foldl pdo (ren g p.safe)) → Kp (· = c) wr w' →
          ∃ c' mb g u vc wr ms, Ending.returned (.pointer (some ⟨c, 0, none⟩)) = .returned (.pointer (some ⟨c', 0, none⟩)) ∧ CpAt w p c' mb (p.steps : Int) p.chg.length wr g u vc ∧ wr.heap.size ≤ ms ∧
          Blk w' c' 63 [.int .i64 (p.room : Int), .map (some ms), .map (some mb), vc, .bool p.down, .bool p.armed, .int .i64 (p.left : Int), .int .i64 (p.steps : Int)] ∧ MapAt w' ms ((p.chg.map (renC g)).foldl pdo (ren g p.safe)) ∧ Kp (· = c') wr w') := fun w' ms h1 h2 h3 h4 => ⟨c, mb, g, u, .slice a' i cap', wr, ms, rfl, by rw [HL.out]; exact HI2.out, h1, h2, h3, h4⟩
      clear HI2 hrw hfold htk HCH hTh HNOD HI HSL HL
      generalize (p.chg.map (renC g)).foldl pdo (ren g p.safe) = DD0 at *
      go_wp2_with (go_at_call 23; refine (HCL.out).mono ?_; rintro e w3 ⟨rfl, h1, h2, h3, h4⟩; have H1 := hid h1; have H3 := hid h3; have b3 := HBK.out w3 h3; have d1 : w3.cell? ⟨c, 1, none⟩ = some (.map none) := b3.cell 1; have df := b3.frozen 1; clear h1 h2 h3 h4 b3)
      have hB4 : Hid (Blk (w3.setCell ⟨c, 1, none⟩ (.map (some wr.heap.size))) c 63 [.int .i64 (p.room : Int), .map (some wr.heap.size), .map (some mb), .slice a' i cap', .bool p.down, .bool p.armed, .int .i64 (p.left : Int), .int .i64 (p.steps : Int)]) := (HBK.out w3 H3.out).setCell 1 _
      have hM4 : Hid (MapAt (w3.setCell ⟨c, 1, none⟩ (.map (some wr.heap.size))) wr.heap.size (ren g p.safe)) := H1.out.kp (Kp.set1 w3 c 1 _) (H1.out.blk (HBK.out w3 H3.out))
      have hK4 : Hid (Kp (· = c) wr (w3.setCell ⟨c, 1, none⟩ (.map (some wr.heap.size)))) := (H3.out.mono (fun _ h => h.elim)).trans (Kp.set1 w3 c 1 _) (fun x hx => .inl hx)
      obtain ⟨ms, hms⟩ : ∃ ms, wr.heap.size = ms := ⟨_, rfl⟩
      have HMS : Hid (wr.heap.size ≤ ms) := by rw [hms]; exact Nat.le_refl _
      rw [hms] at hB4 hM4 hK4 ⊢
      generalize w3.setCell ⟨c, 1, none⟩ (.map (some ms)) = W4 at *
      clear hms H1 H3 HBK HCL d1 df c2
      have hcm : c ≠ ms := Ne.symm (hM4.out.blk hB4.out)
      have hcl4 := hB4.out.lt
      have x1 : W4.cell? ⟨c, 1, none⟩ = some (.map (some ms)) := hB4.out.cell 1
      have x3 : W4.cell? ⟨c, 3, none⟩ = some (.slice a' i cap') := hB4.out.cell 3
      have s1 : ∀ V, Kp (· = ms) W4 V → V.cell? ⟨c, 1, none⟩ = some (.map (some ms)) := fun V k => (k.cell (p := ⟨c, 1, none⟩) hcl4 hcm).trans x1
      have s3 : ∀ V, Kp (· = ms) W4 V → V.cell? ⟨c, 3, none⟩ = some (.slice a' i cap') := fun V k => (k.cell (p := ⟨c, 3, none⟩) hcl4 hcm).trans x3
      have HD4 := hid (HDO.out W4.drew ms HMS.out (hM4.out.kp (L := No) (Kp.refl _ _).drew (fun h => h)) hK4.out.drew)
      go_region_held3 (fun V => Kp (· = ms) W4 V) (first | (with_reducible exact Kp.refl _ _) | (with_reducible exact (Kp.refl _ _).drew) | (with_reducible exact HK6.out)) (first | (go_at_call 24; refine (HD4.out).mono ?_; rintro e w6 ⟨rfl, h1, h2⟩; have H6 := hid h1; have HK6 : Hid (Kp (· = ms) W4 w6) := ((Kp.refl _ _).drew).trans h2 (fun x hx => .inl hx); clear h1 h2))
      clear s1 s3
      go_wp2
      go_ret
      exact HFIN.out w6 ms HMS.out (hB4.out.kp HK6.out hcm) H6.out (hK4.out.trans HK6.out (fun x hx => .inr (by rw [hx]; exact HMS.out)))

end Go.Proofs.YtmiipifhbliamaaGreat.Sim
