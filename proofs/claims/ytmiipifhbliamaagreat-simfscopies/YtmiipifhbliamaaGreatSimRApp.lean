/-
  The reference's Append.
-/
import Derived.Test.YtmiipifhbliamaaGreatSimRFlip
import Derived.Deep.RegionHeld3
namespace Go.Proofs.YtmiipifhbliamaaGreat.Sim
open Go.RowKit Go.Maps

set_option maxHeartbeats 4000000 in
set_option maxRecDepth 100000 in
theorem rappend_any {Q E : Nat → Prop} {N : Nat} (w : World) (m : Nat) (p : PS) (t : ByteArray) (vb : Value) (ys : List Nat) (ht : t.size ≤ 1000000) (h : RSys Q N w m p) (hN : N + 1 ≤ 1000) (hy : ByP E w vb ys) (hE : ∀ x, E x → ¬ Q x) (hyl : ys.length ≤ 200) :
    Calls Tryz.prog 26 #[.pointer (some ⟨m, 0, none⟩), .string t, vb] w fun e w' => e = .returned (.int .i64 ((pAppend (nm t) ys p).1 : Nat)) ∧ RDone Q (N + 1) w w' m (pAppend (nm t) ys p).2 := by
  have HH := hid h
  have HY := hid hy
  have HE := hid hE
  have HU : Hid (∀ V, Kp No w V → Calls Tryz.prog 44 #[.pointer (some ⟨m, 0, none⟩)] V fun e w' => e = .returned (.int .i64 (used p : Nat)) ∧ Kp No V w') := fun V k => rused_any V m p (h.kp k (fun _ h => h.elim))
  obtain ⟨a1, cap1, rfl, _⟩ := hy
  obtain ⟨D, vF, vS, vA, vC, us, F, h, hI, hF⟩ := h
  have HT := hid (rthere_any h t ht)
  have hml := h.lt m h.qm
  have q0 : w.cell? ⟨m, 0, none⟩ = some (.int .i64 (p.room : Int)) := h.c 0
  have hul := used_le hI
  have hrm := hI.room
  by_cases h0 : finds p (nm t) = 0
  · obtain ⟨hw, b, hb⟩ := finds_zero h0
    rw [h0] at HT
    have hf := hI.hasFound hb
    have r0 : ∀ V, Kp No w V → V.cell? ⟨m, 0, none⟩ = some (.int .i64 (p.room : Int)) := fun V k => (k.cell (p := ⟨m, 0, none⟩) hml (fun h => h)).trans q0
    by_cases hroom : used p + ys.length ≤ p.room
    · cases hd : dead p with
      | true =>
        have e1 : pAppend (nm t) ys p = (12, fall p) := by
          have : ¬ (used p + ys.length > p.room) := by omega
          simp [pAppend, h0, this, stp, hd]
        rw [e1]
        have HS : Hid (∀ V, Kp No w V → Calls Tryz.prog 64 #[.pointer (some ⟨m, 0, none⟩)] V fun e w' => e = .returned (.int .i64 12) ∧ RDone Q (N + 1) w w' m (fall p)) := fun V k => by
          refine (rfall_done (h.kp k (fun _ h => h.elim)) hI hF hN hd).mono ?_
          rintro e w' ⟨rfl, Q', h1, h2, h3⟩
          exact ⟨rfl, Q', h1, (k.mono (fun _ h => h.elim)).trans h2 (fun x hx => .inl hx), fun x hx => by
            rcases h3 x hx with h4 | h4
            · exact .inl h4
            · have := k.size; exact .inr (by omega)⟩
        clear h hI hF h0 hd e1 hb hw hf
        generalize used p = U at *
        have hwr : IntKind.i64.wrap ((p.room : Int) - (U : Int)) = (p.room : Int) - (U : Int) := by rw [IntKind.wrap_i64]; omega
        have hle : ¬ ((p.room : Int) - (U : Int) < (ys.length : Int)) := by omega
        go_enter Tryz.func26, Tryz.ntmps26
        go_wp2_with (go_at_call 66; refine (HT.out).mono ?_; rintro e w1 ⟨rfl, h1⟩; subst w1)
        go_region_held3 (fun V => Kp No w V) (first | (with_reducible exact Kp.refl _ _) | (with_reducible exact (Kp.refl _ _).drew) | (with_reducible exact HK1.out)) (first | (go_at_call 44; refine (HU.out _ ?_).mono ?_; (with_reducible exact (Kp.refl _ _).drew); rintro e w2 ⟨rfl, hk1⟩; have HK1 : Hid (Kp No w w2) := (Kp.refl _ _).drew.andNone hk1; clear hk1))
        go_wp2_with (go_at_call 64; refine (HS.out _ HK1.out).mono ?_; rintro e w3 ⟨rfl, h3⟩; have H3 := hid h3; clear h3)
        go_ret
        exact ⟨rfl, H3.out⟩
      | false =>
        have e1 : pAppend (nm t) ys p = (0, setF b ⟨(fileAt p b).b ++ ys, (fileAt p b).safe⟩ (tick p)) := by
          have : ¬ (used p + ys.length > p.room) := by omega
          simp [pAppend, h0, this, stp, hd, blockOf, hb]
        rw [e1]
        have hlen := hI.lfile b _ hf
        have hbg := hI.big
        have HS : Hid (∀ V, Kp No w V → Calls Tryz.prog 64 #[.pointer (some ⟨m, 0, none⟩)] V fun e w' => e = .returned (.int .i64 0) ∧ Rr Q D w' m (tick p) vF vS vA vC us F ∧ Kp (· = m) w w') := fun V k => by
          refine (rlive_done (h.kp k (fun _ h => h.elim)) hI hd).mono ?_
          rintro e w' ⟨rfl, h1, h2⟩
          exact ⟨rfl, h1, (k.mono (fun _ h => h.elim)).trans h2 (fun x hx => .inl hx)⟩
        obtain ⟨sa, sl, sc, hvS⟩ : ∃ a l c, vS = .slice a l c := by obtain ⟨a, c, e, _⟩ := h.seen; exact ⟨a, _, c, e⟩
        subst hvS
        have HX : Hid (∀ W, Rr Q D W m (tick p) vF (.slice sa sl sc) vA vC us F → Kp (· = m) w W → ∃ g cap uc ua, vF = .slice (some ⟨g, 0, none⟩) F.length cap ∧ b < F.length ∧ g ≠ m ∧ W.cell? ⟨m, 2, none⟩ = some (.slice sa sl sc) ∧
            (∀ V, Kp No W V → V.cell? ⟨m, 1, none⟩ = some vF ∧ V.cell? ⟨g, b * 2, none⟩ = some (.slice ua (fileAt p b).b.length uc) ∧ V.frozen? ⟨g, b * 2, none⟩ = false ∧ ByP E V (.slice a1 ys.length cap1) ys ∧ ByP D V (.slice ua (fileAt p b).b.length uc) (fileAt p b).b) ∧
            (Calls Tryz.prog 63 #[.slice sa sl sc, .string t] W fun e w' => e = .returned (.int .i64 (b : Int)) ∧ w' = W) ∧
            ∀ V a3 cap3, Kp No W V → OwnB V (.slice a3 ((fileAt p b).b.length + ys.length) cap3) ((fileAt p b).b ++ ys) → (∀ x, (Value.slice a3 ((fileAt p b).b.length + ys.length) cap3).ownBlock = some x → W.heap.size ≤ x) → RDone Q (N + 1) w (V.setCell ⟨g, b * 2, none⟩ (.slice a3 ((fileAt p b).b.length + ys.length) cap3)) m (setF b ⟨(fileAt p b).b ++ ys, (fileAt p b).safe⟩ (tick p))) := fun W hW kW => by
          obtain ⟨g, cap, uc, ua, hR⟩ := hW.file (b := b) (f := fileAt p b) hf
          have hmW := hW.lt m hW.qm
          have hyW : ByP E W (.slice a1 ys.length cap1) ys := HY.out.kp kW (fun x hx _ he => HE.out x he (by subst hx; exact h.qm))
          refine ⟨g, cap, uc, ua, hR.vF, hR.lt, (RFileAt.out hW hR).2.1, hW.c 2, fun V k => ⟨(k.cell (p := ⟨m, 1, none⟩) hmW (fun h => h)).trans (hW.c 1), (k.cell (p := ⟨g, b * 2, none⟩) hR.gl (fun h => h)).trans hR.c0, (k.frozen (p := ⟨g, b * 2, none⟩) hR.gl (fun h => h)).trans hR.z0, hyW.kept k, hR.by'.kept k⟩, ?_, fun V a3 cap3 k ho hn => ?_⟩
          · have := rfind_any W _ p.seen t hW.seen
            rw [hb] at this
            exact this
          · have hq := (RFileAt.out hW hR).1
            have hlt : ((fileAt p b).b ++ ys).length ≤ 1000000 := by simp; omega
            have hby : ∀ x ∈ (fileAt p b).b ++ ys, x < 256 := fun x hx => by
              rcases List.mem_append.1 hx with hx | hx
              · obtain ⟨_, _, _, _, _, _, _, h6, _⟩ := hR.by'; exact h6 x hx
              · obtain ⟨_, _, _, _, _, _, _, h6, _⟩ := hyW; exact h6 x hx
            obtain ⟨r1, r2⟩ := rr_bytes hW hR k ((fileAt p b).b ++ ys) (.slice a3 ((fileAt p b).b.length + ys.length) cap3) (fun x => (Value.slice a3 ((fileAt p b).b.length + ys.length) cap3).ownBlock = some x) (fun x hx => ⟨hn x hx, ho.row.lt x hx⟩) (ho.byP (fun x hx => .inr hx) hlt hby) (by have := hR.sl; simp; omega)
            refine ⟨_, ⟨_, vF, _, vA, vC, _, _, r1, inv_setF (hI.tick hN) (by simp; omega), by simp; omega⟩, (kW.mono (fun x hx => .inl (by subst hx; exact h.qm))).trans r2 (fun x hx => .inl (by subst hx; exact hq)), fun x hx => ?_⟩
            rcases hx with hx | hx
            · exact .inl hx
            · have := kW.size; exact .inr (by omega)
        generalize (fileAt p b).b = bs at *
        generalize (fileAt p b).safe = sf at *
        clear h hI hF h0 hd e1 hb hw hf
        generalize setF b ⟨bs ++ ys, sf⟩ (tick p) = R at *
        generalize used p = U at *
        have hwr : IntKind.i64.wrap ((p.room : Int) - (U : Int)) = (p.room : Int) - (U : Int) := by rw [IntKind.wrap_i64]; omega
        have hle : ¬ ((p.room : Int) - (U : Int) < (ys.length : Int)) := by omega
        go_enter Tryz.func26, Tryz.ntmps26
        go_wp2_with (go_at_call 66; refine (HT.out).mono ?_; rintro e w1 ⟨rfl, h1⟩; subst w1)
        go_region_held3 (fun V => Kp No w V) (first | (with_reducible exact Kp.refl _ _) | (with_reducible exact (Kp.refl _ _).drew) | (with_reducible exact HK1.out)) (first | (go_at_call 44; refine (HU.out _ ?_).mono ?_; (with_reducible exact (Kp.refl _ _).drew); rintro e w2 ⟨rfl, hk1⟩; have HK1 : Hid (Kp No w w2) := (Kp.refl _ _).drew.andNone hk1; clear hk1))
        go_wp2_with (first | (go_at_call 64; refine (HS.out _ HK1.out).mono ?_; rintro e w3 ⟨rfl, h2, k2⟩; obtain ⟨g, cap, uc, ua, x1, x2, hgm, x3, x4, x5, x6⟩ := HX.out _ h2 k2; subst x1; have X4 := hid x4; have X5 := hid x5; have X6 := hid x6; have hbi : (b : Int) < (F.length : Int) := (by omega); clear h2 k2 x4 x5 x6) | (go_at_call 63; refine (X5.out).mono ?_; rintro e w1 ⟨rfl, h1⟩; subst w1))
        obtain ⟨u1, u0, uz, _, _⟩ := X4.out w3.drew ((Kp.refl _ _).drew)
        obtain ⟨t1, t0, tz, _, _⟩ := X4.out (w3.alloc (.cells #[] 5)).drew (((Kp.refl _ _).alloc _).drew)
        have HSB : Hid (Src (w3.alloc (.cells #[] 5)).drew (.slice ua bs.length uc) bs.length 1 (cl bs)) := (X4.out _ (((Kp.refl _ _).alloc _).drew)).2.2.2.2.src
        have HOW : Hid (Row (w3.alloc (.cells #[] 5)).drew 5 1 (.slice (some ⟨w3.heap.size, 0, none⟩) 0 0) 0 (cl [])) := (own_empty w3).row.kp (Kp.refl No _).drew (fun _ _ h => h)
        have HGM := hid hgm
        have HX6 := X6
        clear r0 q0 HU HS HX HT hgm X5 X6
        refine wp_region_held_drew (S := fun V => V.cell? ⟨m, 1, none⟩ = some (.slice (some ⟨g, 0, none⟩) F.length cap)) (by kernel_rfl) u1 (fun hHeld => ?_)
        refine wpAnyH_take (i := 0) (oi := { dst := some 37, op := Op.move (Operand.tmp 0), type := 29, pos := "ref.go:186", after := #[], guard := none }) (v := .pointer (some ⟨m, 0, none⟩)) rfl (by kernel_rfl) (by kernel_rfl) (by kernel_rfl) (fun _ _ _ h => h) (Or.inl ⟨by rfl, fun w' hw' => by (clear hw'; go_simp)⟩) hHeld ?_
        simp only [Act.put, List.setIfInBounds_toArray, List.set_cons_zero, List.set_cons_succ]
        refine wpAnyH_take (i := 1) (oi := { dst := some 38, op := Op.nilCheck (Operand.tmp 37), type := 0, pos := "ref.go:186", after := #[{ on := 0, ground := Ground.data }], guard := none }) (v := .pointer (some ⟨m, 0, none⟩)) rfl (by kernel_rfl) (by kernel_rfl) (by kernel_rfl) (fun _ _ _ h => h) (Or.inl ⟨by rfl, fun w' hw' => by (clear hw'; go_simp)⟩) hHeld ?_
        simp only [Act.put, List.setIfInBounds_toArray, List.set_cons_zero, List.set_cons_succ]
        refine wpAnyH_take (i := 2) (oi := { dst := some 39, op := Op.fieldAddr 44 (Operand.tmp 38) 1, type := 0, pos := "ref.go:186", after := #[{ on := 1, ground := Ground.data }], guard := none }) (v := .pointer (some ⟨m, 1, none⟩)) rfl (by kernel_rfl) (by kernel_rfl) (by kernel_rfl) (fun _ _ _ h => h) (Or.inl ⟨by rfl, fun w' hw' => by (clear hw'; go_simp)⟩) hHeld ?_
        simp only [Act.put, List.setIfInBounds_toArray, List.set_cons_zero, List.set_cons_succ]
        refine wpAnyH_take (i := 3) (oi := { dst := some 40, op := Op.load 40 (Operand.tmp 39), type := 40, pos := "ref.go:186", after := #[{ on := 2, ground := Ground.data }], guard := none }) (v := .slice (some ⟨g, 0, none⟩) F.length cap) rfl (by kernel_rfl) (by kernel_rfl) (by kernel_rfl) (fun _ _ _ h => h) (Or.inl ⟨by rfl, fun w' hw' => by (skip; go_simp)⟩) hHeld ?_
        simp only [Act.put, List.setIfInBounds_toArray, List.set_cons_zero, List.set_cons_succ]
        refine wpAnyH_take (i := 4) (oi := { dst := some 41, op := Op.move (Operand.tmp 9), type := 3, pos := "ref.go:186", after := #[], guard := none }) (v := .int .i64 (b : Int)) rfl (by kernel_rfl) (by kernel_rfl) (by kernel_rfl) (fun _ _ _ h => h) (Or.inl ⟨by rfl, fun w' hw' => by (clear hw'; go_simp)⟩) hHeld ?_
        simp only [Act.put, List.setIfInBounds_toArray, List.set_cons_zero, List.set_cons_succ]
        refine wpAnyH_take (i := 6) (oi := { dst := some 43, op := Op.move (Operand.tmp 0), type := 29, pos := "ref.go:186", after := #[], guard := none }) (v := .pointer (some ⟨m, 0, none⟩)) rfl (by kernel_rfl) (by kernel_rfl) (by kernel_rfl) (fun _ _ _ h => h) (Or.inl ⟨by rfl, fun w' hw' => by (clear hw'; go_simp)⟩) hHeld ?_
        simp only [Act.put, List.setIfInBounds_toArray, List.set_cons_zero, List.set_cons_succ]
        refine wpAnyH_take (i := 7) (oi := { dst := some 44, op := Op.nilCheck (Operand.tmp 43), type := 0, pos := "ref.go:186", after := #[{ on := 6, ground := Ground.data }], guard := none }) (v := .pointer (some ⟨m, 0, none⟩)) rfl (by kernel_rfl) (by kernel_rfl) (by kernel_rfl) (fun _ _ _ h => h) (Or.inl ⟨by rfl, fun w' hw' => by (clear hw'; go_simp)⟩) hHeld ?_
        simp only [Act.put, List.setIfInBounds_toArray, List.set_cons_zero, List.set_cons_succ]
        refine wpAnyH_take (i := 8) (oi := { dst := some 45, op := Op.fieldAddr 44 (Operand.tmp 44) 1, type := 0, pos := "ref.go:186", after := #[{ on := 7, ground := Ground.data }], guard := none }) (v := .pointer (some ⟨m, 1, none⟩)) rfl (by kernel_rfl) (by kernel_rfl) (by kernel_rfl) (fun _ _ _ h => h) (Or.inl ⟨by rfl, fun w' hw' => by (clear hw'; go_simp)⟩) hHeld ?_
        simp only [Act.put, List.setIfInBounds_toArray, List.set_cons_zero, List.set_cons_succ]
        refine wpAnyH_take (i := 9) (oi := { dst := some 46, op := Op.load 40 (Operand.tmp 45), type := 40, pos := "ref.go:186", after := #[{ on := 8, ground := Ground.data }], guard := none }) (v := .slice (some ⟨g, 0, none⟩) F.length cap) rfl (by kernel_rfl) (by kernel_rfl) (by kernel_rfl) (fun _ _ _ h => h) (Or.inl ⟨by rfl, fun w' hw' => by (skip; go_simp)⟩) hHeld ?_
        simp only [Act.put, List.setIfInBounds_toArray, List.set_cons_zero, List.set_cons_succ]
        refine wpAnyH_take (i := 10) (oi := { dst := some 47, op := Op.move (Operand.tmp 9), type := 3, pos := "ref.go:186", after := #[], guard := none }) (v := .int .i64 (b : Int)) rfl (by kernel_rfl) (by kernel_rfl) (by kernel_rfl) (fun _ _ _ h => h) (Or.inl ⟨by rfl, fun w' hw' => by (clear hw'; go_simp)⟩) hHeld ?_
        simp only [Act.put, List.setIfInBounds_toArray, List.set_cons_zero, List.set_cons_succ]
        refine wpAnyH_take (i := 11) (oi := { dst := some 48, op := Op.indexAddr 40 (Operand.tmp 46) (Operand.tmp 47), type := 0, pos := "ref.go:186", after := #[{ on := 9, ground := Ground.data }, { on := 10, ground := Ground.data }], guard := none }) (v := .pointer (some ⟨g, b * 2, none⟩)) rfl (by kernel_rfl) (by kernel_rfl) (by kernel_rfl) (fun _ _ _ h => h) (Or.inl ⟨by rfl, fun w' hw' => by (clear hw'; go_simp)⟩) hHeld ?_
        simp only [Act.put, List.setIfInBounds_toArray, List.set_cons_zero, List.set_cons_succ]
        refine wpAnyH_take (i := 12) (oi := { dst := some 49, op := Op.fieldAddr 99 (Operand.tmp 48) 0, type := 0, pos := "ref.go:186", after := #[{ on := 11, ground := Ground.data }], guard := none }) (v := .pointer (some ⟨g, b * 2, none⟩)) rfl (by kernel_rfl) (by kernel_rfl) (by kernel_rfl) (fun _ _ _ h => h) (Or.inl ⟨by rfl, fun w' hw' => by (clear hw'; go_simp)⟩) hHeld ?_
        simp only [Act.put, List.setIfInBounds_toArray, List.set_cons_zero, List.set_cons_succ]
        refine wpAnyH_take (i := 15) (oi := { dst := some 52, op := Op.move (Operand.tmp 2), type := 32, pos := "ref.go:186", after := #[], guard := none }) (v := .slice a1 ys.length cap1) rfl (by kernel_rfl) (by kernel_rfl) (by kernel_rfl) (fun _ _ _ h => h) (Or.inl ⟨by rfl, fun w' hw' => by (clear hw'; go_simp)⟩) hHeld ?_
        simp only [Act.put, List.setIfInBounds_toArray, List.set_cons_zero, List.set_cons_succ]
        refine wpAnyH_ready (rs := [5, 13]) (by kernel_rfl) (by simp) ?_
        refine AllReadyH.cons (o := { dst := some 42, op := Op.buildSlice 32 0 #[], type := 32, pos := "ref.go:186", after := #[], guard := none }) rfl (fun K hK => ?_) (AllReadyH.cons (o := { dst := some 50, op := Op.load 32 (Operand.tmp 49), type := 32, pos := "ref.go:186", after := #[{ on := 12, ground := Ground.data }], guard := none }) rfl (fun K hK => ?_) AllReadyH.nil)
        · go_simp
          refine hK.out _ _ (t1) (fun hh => ?_)
          clear hK K hHeld
          have hHeld := hh
          clear hh
          try simp only [Act.put, List.setIfInBounds_toArray, List.set_cons_zero, List.set_cons_succ]
          refine wpAnyH_ready (rs := [13]) (by kernel_rfl) (by simp) ?_
          refine AllReadyH.cons (o := { dst := some 50, op := Op.load 32 (Operand.tmp 49), type := 32, pos := "ref.go:186", after := #[{ on := 12, ground := Ground.data }], guard := none }) rfl (fun K hK => ?_) AllReadyH.nil
          go_simp
          refine hK.out _ _ (t1) (fun hh => ?_)
          clear hK K hHeld
          have hHeld := hh
          clear hh
          try simp only [Act.put, List.setIfInBounds_toArray, List.set_cons_zero, List.set_cons_succ]
          refine wpAnyH_ready (rs := [14]) (by kernel_rfl) (by simp) ?_
          refine AllReadyH.cons (o := { dst := some 51, op := Op.call { callee := Callee.builtin Builtin.append, args := #[Operand.tmp 42, Operand.tmp 50], argTypes := #[32, 32] }, type := 32, pos := "ref.go:186", after := #[{ on := 5, ground := Ground.data }, { on := 13, ground := Ground.data }], guard := none }) rfl (fun K hK => ?_) AllReadyH.nil
          refine step_app _ (by rfl) (.tmp 42) (.tmp 50) 32 5 (.int .u8 0) 1 1 (by rfl) Tryz.underlying32 Tryz.info5 rfl (by decide) (.slice (some ⟨w3.heap.size, 0, none⟩) 0 0) (.slice ua bs.length uc) 0 bs.length [] (cl bs) (by simp [Act.eval]) (by simp [Act.eval]) HOW.out HSB.out (by omega) (by decide) ?_
          intro a2 cap2 w4 hr2 hg2 hb2
          have HR2 := hid hr2
          have K4 : Hid (Kp No w3 w4) := (((Kp.refl _ w3).alloc _).drew).grown hg2 (fun x hx => .inr (by simp [Value.ownBlock] at hx; omega))
          have HN2 : Hid (∀ x, (Value.slice a2 (0 + bs.length) cap2).ownBlock = some x → w3.heap.size ≤ x) := (fun x hx => by rcases hb2 with e | e <;> rw [e] at hx <;> simp [Value.ownBlock] at hx <;> omega)
          obtain ⟨y1, y0, yz, yy, _⟩ := X4.out _ K4.out
          have HSY := hid yy.src
          clear hr2 hg2 hb2 yy
          refine hK.out _ _ (y1) (fun hh => ?_)
          clear hK K hHeld
          have hHeld := hh
          clear hh
          try simp only [Act.put, List.setIfInBounds_toArray, List.set_cons_zero, List.set_cons_succ]
          refine wpAnyH_ready (rs := [16]) (by kernel_rfl) (by simp) ?_
          refine AllReadyH.cons (o := { dst := some 53, op := Op.call { callee := Callee.builtin Builtin.append, args := #[Operand.tmp 51, Operand.tmp 52], argTypes := #[32, 32] }, type := 32, pos := "ref.go:186", after := #[{ on := 14, ground := Ground.data }, { on := 15, ground := Ground.data }, { on := 14, ground := Ground.chain }], guard := none }) rfl (fun K hK => ?_) AllReadyH.nil
          refine step_app _ (by rfl) (.tmp 51) (.tmp 52) 32 5 (.int .u8 0) 1 1 (by rfl) Tryz.underlying32 Tryz.info5 rfl (by decide) (.slice a2 (0 + bs.length) cap2) (.slice a1 ys.length cap1) (0 + bs.length) ys.length ([] ++ cl bs) (cl ys) (by simp [Act.eval]) (by simp [Act.eval]) HR2.out HSY.out (by omega) (by decide) ?_
          intro a3 cap3 w5 hr3 hg3 hb3
          have HR3 := hid hr3
          have K5 : Hid (Kp No w3 w5) := K4.out.grown hg3 (fun x hx => .inr (HN2.out x hx))
          have HN3 : Hid (∀ x, (Value.slice a3 (0 + bs.length + ys.length) cap3).ownBlock = some x → w3.heap.size ≤ x) := (fun x hx => by have hk := K4.out.size; rcases hb3 with e | e; (rw [e] at hx; exact HN2.out x hx); (rw [e] at hx; simp at hx; omega))
          obtain ⟨v1, v0, vz, _, _⟩ := X4.out _ K5.out
          clear hr3 hg3 hb3
          refine hK.out _ _ (v1) (fun hh => ?_)
          clear hK K hHeld
          have hHeld := hh
          clear hh
          try simp only [Act.put, List.setIfInBounds_toArray, List.set_cons_zero, List.set_cons_succ]
          refine wpAnyH_take (i := 17) (oi := { dst := some 54, op := Op.indexAddr 40 (Operand.tmp 40) (Operand.tmp 41), type := 0, pos := "ref.go:186", after := #[{ on := 3, ground := Ground.data }, { on := 4, ground := Ground.data }, { on := 0, ground := Ground.phase }, { on := 1, ground := Ground.phase }, { on := 2, ground := Ground.phase }, { on := 3, ground := Ground.phase }, { on := 4, ground := Ground.phase }, { on := 5, ground := Ground.phase }, { on := 6, ground := Ground.phase }, { on := 7, ground := Ground.phase }, { on := 8, ground := Ground.phase }, { on := 9, ground := Ground.phase }, { on := 10, ground := Ground.phase }, { on := 11, ground := Ground.phase }, { on := 12, ground := Ground.phase }, { on := 13, ground := Ground.phase }, { on := 14, ground := Ground.phase }, { on := 15, ground := Ground.phase }, { on := 16, ground := Ground.phase }], guard := none }) (v := .pointer (some ⟨g, b * 2, none⟩)) rfl (by kernel_rfl) (by kernel_rfl) (by kernel_rfl) (fun _ _ _ h => h) (Or.inl ⟨by rfl, fun w' hw' => by (clear hw'; go_simp)⟩) hHeld ?_
          simp only [Act.put, List.setIfInBounds_toArray, List.set_cons_zero, List.set_cons_succ]
          refine wpAnyH_take (i := 18) (oi := { dst := some 55, op := Op.fieldAddr 99 (Operand.tmp 54) 0, type := 0, pos := "ref.go:186", after := #[{ on := 17, ground := Ground.data }, { on := 0, ground := Ground.phase }, { on := 1, ground := Ground.phase }, { on := 2, ground := Ground.phase }, { on := 3, ground := Ground.phase }, { on := 4, ground := Ground.phase }, { on := 5, ground := Ground.phase }, { on := 6, ground := Ground.phase }, { on := 7, ground := Ground.phase }, { on := 8, ground := Ground.phase }, { on := 9, ground := Ground.phase }, { on := 10, ground := Ground.phase }, { on := 11, ground := Ground.phase }, { on := 12, ground := Ground.phase }, { on := 13, ground := Ground.phase }, { on := 14, ground := Ground.phase }, { on := 15, ground := Ground.phase }, { on := 16, ground := Ground.phase }], guard := none }) (v := .pointer (some ⟨g, b * 2, none⟩)) rfl (by kernel_rfl) (by kernel_rfl) (by kernel_rfl) (fun _ _ _ h => h) (Or.inl ⟨by rfl, fun w' hw' => by (clear hw'; go_simp)⟩) hHeld ?_
          simp only [Act.put, List.setIfInBounds_toArray, List.set_cons_zero, List.set_cons_succ]
          refine wpAnyH_ready (rs := [19]) (by kernel_rfl) (by simp) ?_
          refine AllReadyH.cons (o := { dst := none, op := Op.store 32 (Operand.tmp 55) (Operand.tmp 53), type := 0, pos := "ref.go:186", after := #[{ on := 18, ground := Ground.data }, { on := 16, ground := Ground.data }, { on := 16, ground := Ground.chain }, { on := 0, ground := Ground.phase }, { on := 1, ground := Ground.phase }, { on := 2, ground := Ground.phase }, { on := 3, ground := Ground.phase }, { on := 4, ground := Ground.phase }, { on := 5, ground := Ground.phase }, { on := 6, ground := Ground.phase }, { on := 7, ground := Ground.phase }, { on := 8, ground := Ground.phase }, { on := 9, ground := Ground.phase }, { on := 10, ground := Ground.phase }, { on := 11, ground := Ground.phase }, { on := 12, ground := Ground.phase }, { on := 13, ground := Ground.phase }, { on := 14, ground := Ground.phase }, { on := 15, ground := Ground.phase }, { on := 16, ground := Ground.phase }], guard := none }) rfl (fun K hK => ?_) AllReadyH.nil
          go_simp
          refine hK.out _ _ ((World.cell?_setCell_far _ _ _ _ HGM.out).trans v1) (fun hh => ?_)
          clear hK K hHeld
          have hHeld := hh
          clear hh
          try simp only [Act.put, List.setIfInBounds_toArray, List.set_cons_zero, List.set_cons_succ]
          refine wpAnyH_done (by kernel_rfl) ?_ _
          go_wp2_with fail
          go_ret
          have HR4 : Hid (OwnB w5 (.slice a3 (bs.length + ys.length) cap3) (bs ++ ys)) := by have := HR3.out; simp only [Nat.zero_add, List.nil_append] at this; exact (show OwnB w5 _ _ by unfold OwnB; rw [List.length_append, cl_append]; exact this)
          simp only [Nat.zero_add] at HN3 ⊢
          exact ⟨rfl, HX6.out _ _ _ K5.out HR4.out HN3.out⟩
        · go_simp
          refine hK.out _ _ (u1) (fun hh => ?_)
          clear hK K hHeld
          have hHeld := hh
          clear hh
          try simp only [Act.put, List.setIfInBounds_toArray, List.set_cons_zero, List.set_cons_succ]
          refine wpAnyH_ready (rs := [5]) (by kernel_rfl) (by simp) ?_
          refine AllReadyH.cons (o := { dst := some 42, op := Op.buildSlice 32 0 #[], type := 32, pos := "ref.go:186", after := #[], guard := none }) rfl (fun K hK => ?_) AllReadyH.nil
          go_simp
          refine hK.out _ _ (t1) (fun hh => ?_)
          clear hK K hHeld
          have hHeld := hh
          clear hh
          try simp only [Act.put, List.setIfInBounds_toArray, List.set_cons_zero, List.set_cons_succ]
          refine wpAnyH_ready (rs := [14]) (by kernel_rfl) (by simp) ?_
          refine AllReadyH.cons (o := { dst := some 51, op := Op.call { callee := Callee.builtin Builtin.append, args := #[Operand.tmp 42, Operand.tmp 50], argTypes := #[32, 32] }, type := 32, pos := "ref.go:186", after := #[{ on := 5, ground := Ground.data }, { on := 13, ground := Ground.data }], guard := none }) rfl (fun K hK => ?_) AllReadyH.nil
          refine step_app _ (by rfl) (.tmp 42) (.tmp 50) 32 5 (.int .u8 0) 1 1 (by rfl) Tryz.underlying32 Tryz.info5 rfl (by decide) (.slice (some ⟨w3.heap.size, 0, none⟩) 0 0) (.slice ua bs.length uc) 0 bs.length [] (cl bs) (by simp [Act.eval]) (by simp [Act.eval]) HOW.out HSB.out (by omega) (by decide) ?_
          intro a2 cap2 w4 hr2 hg2 hb2
          have HR2 := hid hr2
          have K4 : Hid (Kp No w3 w4) := (((Kp.refl _ w3).alloc _).drew).grown hg2 (fun x hx => .inr (by simp [Value.ownBlock] at hx; omega))
          have HN2 : Hid (∀ x, (Value.slice a2 (0 + bs.length) cap2).ownBlock = some x → w3.heap.size ≤ x) := (fun x hx => by rcases hb2 with e | e <;> rw [e] at hx <;> simp [Value.ownBlock] at hx <;> omega)
          obtain ⟨y1, y0, yz, yy, _⟩ := X4.out _ K4.out
          have HSY := hid yy.src
          clear hr2 hg2 hb2 yy
          refine hK.out _ _ (y1) (fun hh => ?_)
          clear hK K hHeld
          have hHeld := hh
          clear hh
          try simp only [Act.put, List.setIfInBounds_toArray, List.set_cons_zero, List.set_cons_succ]
          refine wpAnyH_ready (rs := [16]) (by kernel_rfl) (by simp) ?_
          refine AllReadyH.cons (o := { dst := some 53, op := Op.call { callee := Callee.builtin Builtin.append, args := #[Operand.tmp 51, Operand.tmp 52], argTypes := #[32, 32] }, type := 32, pos := "ref.go:186", after := #[{ on := 14, ground := Ground.data }, { on := 15, ground := Ground.data }, { on := 14, ground := Ground.chain }], guard := none }) rfl (fun K hK => ?_) AllReadyH.nil
          refine step_app _ (by rfl) (.tmp 51) (.tmp 52) 32 5 (.int .u8 0) 1 1 (by rfl) Tryz.underlying32 Tryz.info5 rfl (by decide) (.slice a2 (0 + bs.length) cap2) (.slice a1 ys.length cap1) (0 + bs.length) ys.length ([] ++ cl bs) (cl ys) (by simp [Act.eval]) (by simp [Act.eval]) HR2.out HSY.out (by omega) (by decide) ?_
          intro a3 cap3 w5 hr3 hg3 hb3
          have HR3 := hid hr3
          have K5 : Hid (Kp No w3 w5) := K4.out.grown hg3 (fun x hx => .inr (HN2.out x hx))
          have HN3 : Hid (∀ x, (Value.slice a3 (0 + bs.length + ys.length) cap3).ownBlock = some x → w3.heap.size ≤ x) := (fun x hx => by have hk := K4.out.size; rcases hb3 with e | e; (rw [e] at hx; exact HN2.out x hx); (rw [e] at hx; simp at hx; omega))
          obtain ⟨v1, v0, vz, _, _⟩ := X4.out _ K5.out
          clear hr3 hg3 hb3
          refine hK.out _ _ (v1) (fun hh => ?_)
          clear hK K hHeld
          have hHeld := hh
          clear hh
          try simp only [Act.put, List.setIfInBounds_toArray, List.set_cons_zero, List.set_cons_succ]
          refine wpAnyH_take (i := 17) (oi := { dst := some 54, op := Op.indexAddr 40 (Operand.tmp 40) (Operand.tmp 41), type := 0, pos := "ref.go:186", after := #[{ on := 3, ground := Ground.data }, { on := 4, ground := Ground.data }, { on := 0, ground := Ground.phase }, { on := 1, ground := Ground.phase }, { on := 2, ground := Ground.phase }, { on := 3, ground := Ground.phase }, { on := 4, ground := Ground.phase }, { on := 5, ground := Ground.phase }, { on := 6, ground := Ground.phase }, { on := 7, ground := Ground.phase }, { on := 8, ground := Ground.phase }, { on := 9, ground := Ground.phase }, { on := 10, ground := Ground.phase }, { on := 11, ground := Ground.phase }, { on := 12, ground := Ground.phase }, { on := 13, ground := Ground.phase }, { on := 14, ground := Ground.phase }, { on := 15, ground := Ground.phase }, { on := 16, ground := Ground.phase }], guard := none }) (v := .pointer (some ⟨g, b * 2, none⟩)) rfl (by kernel_rfl) (by kernel_rfl) (by kernel_rfl) (fun _ _ _ h => h) (Or.inl ⟨by rfl, fun w' hw' => by (clear hw'; go_simp)⟩) hHeld ?_
          simp only [Act.put, List.setIfInBounds_toArray, List.set_cons_zero, List.set_cons_succ]
          refine wpAnyH_take (i := 18) (oi := { dst := some 55, op := Op.fieldAddr 99 (Operand.tmp 54) 0, type := 0, pos := "ref.go:186", after := #[{ on := 17, ground := Ground.data }, { on := 0, ground := Ground.phase }, { on := 1, ground := Ground.phase }, { on := 2, ground := Ground.phase }, { on := 3, ground := Ground.phase }, { on := 4, ground := Ground.phase }, { on := 5, ground := Ground.phase }, { on := 6, ground := Ground.phase }, { on := 7, ground := Ground.phase }, { on := 8, ground := Ground.phase }, { on := 9, ground := Ground.phase }, { on := 10, ground := Ground.phase }, { on := 11, ground := Ground.phase }, { on := 12, ground := Ground.phase }, { on := 13, ground := Ground.phase }, { on := 14, ground := Ground.phase }, { on := 15, ground := Ground.phase }, { on := 16, ground := Ground.phase }], guard := none }) (v := .pointer (some ⟨g, b * 2, none⟩)) rfl (by kernel_rfl) (by kernel_rfl) (by kernel_rfl) (fun _ _ _ h => h) (Or.inl ⟨by rfl, fun w' hw' => by (clear hw'; go_simp)⟩) hHeld ?_
          simp only [Act.put, List.setIfInBounds_toArray, List.set_cons_zero, List.set_cons_succ]
          refine wpAnyH_ready (rs := [19]) (by kernel_rfl) (by simp) ?_
          refine AllReadyH.cons (o := { dst := none, op := Op.store 32 (Operand.tmp 55) (Operand.tmp 53), type := 0, pos := "ref.go:186", after := #[{ on := 18, ground := Ground.data }, { on := 16, ground := Ground.data }, { on := 16, ground := Ground.chain }, { on := 0, ground := Ground.phase }, { on := 1, ground := Ground.phase }, { on := 2, ground := Ground.phase }, { on := 3, ground := Ground.phase }, { on := 4, ground := Ground.phase }, { on := 5, ground := Ground.phase }, { on := 6, ground := Ground.phase }, { on := 7, ground := Ground.phase }, { on := 8, ground := Ground.phase }, { on := 9, ground := Ground.phase }, { on := 10, ground := Ground.phase }, { on := 11, ground := Ground.phase }, { on := 12, ground := Ground.phase }, { on := 13, ground := Ground.phase }, { on := 14, ground := Ground.phase }, { on := 15, ground := Ground.phase }, { on := 16, ground := Ground.phase }], guard := none }) rfl (fun K hK => ?_) AllReadyH.nil
          go_simp
          refine hK.out _ _ ((World.cell?_setCell_far _ _ _ _ HGM.out).trans v1) (fun hh => ?_)
          clear hK K hHeld
          have hHeld := hh
          clear hh
          try simp only [Act.put, List.setIfInBounds_toArray, List.set_cons_zero, List.set_cons_succ]
          refine wpAnyH_done (by kernel_rfl) ?_ _
          go_wp2_with fail
          go_ret
          have HR4 : Hid (OwnB w5 (.slice a3 (bs.length + ys.length) cap3) (bs ++ ys)) := by have := HR3.out; simp only [Nat.zero_add, List.nil_append] at this; exact (show OwnB w5 _ _ by unfold OwnB; rw [List.length_append, cl_append]; exact this)
          simp only [Nat.zero_add] at HN3 ⊢
          exact ⟨rfl, HX6.out _ _ _ K5.out HR4.out HN3.out⟩
    · have e1 : pAppend (nm t) ys p = (11, p) := by
        have : used p + ys.length > p.room := by omega
        simp [pAppend, h0, this]
      rw [e1]
      clear h hI hF h0 e1 hb hw hf
      generalize used p = U at *
      have hwr : IntKind.i64.wrap ((p.room : Int) - (U : Int)) = (p.room : Int) - (U : Int) := by rw [IntKind.wrap_i64]; omega
      have hgt : (p.room : Int) - (U : Int) < (ys.length : Int) := by omega
      go_enter Tryz.func26, Tryz.ntmps26
      go_wp2_with (go_at_call 66; refine (HT.out).mono ?_; rintro e w1 ⟨rfl, h1⟩; subst w1)
      go_region_held3 (fun V => Kp No w V) (first | (with_reducible exact Kp.refl _ _) | (with_reducible exact (Kp.refl _ _).drew) | (with_reducible exact HK1.out)) (first | (go_at_call 44; refine (HU.out _ ?_).mono ?_; (with_reducible exact (Kp.refl _ _).drew); rintro e w2 ⟨rfl, hk1⟩; have HK1 : Hid (Kp No w w2) := (Kp.refl _ _).drew.andNone hk1; clear hk1))
      go_wp2
      go_ret
      exact ⟨rfl, RDone.of ((HH.out.kp HK1.out (fun _ h => h.elim)).more (by omega) hN) HK1.out.ofNo⟩
  · have e1 : pAppend (nm t) ys p = (finds p (nm t), p) := by simp [pAppend, h0]
    rw [e1]
    generalize finds p (nm t) = x at *
    have hne : ((x : Int) != 0) = true := by simp; omega
    clear e1 h0 hI h hF
    go_enter Tryz.func26, Tryz.ntmps26
    go_wp2_with (go_at_call 66; refine (HT.out).mono ?_; rintro e w1 ⟨rfl, h1⟩; subst w1)
    go_ret
    exact ⟨rfl, RDone.of (HH.out.more (by omega) hN) (Kp.refl _ _)⟩

end Go.Proofs.YtmiipifhbliamaaGreat.Sim
