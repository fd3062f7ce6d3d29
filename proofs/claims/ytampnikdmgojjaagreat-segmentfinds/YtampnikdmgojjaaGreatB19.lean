/- Of the proof: the texts SgFinds, FrOpen, SgOpen, SgOpenF, one behind the other. -/
import Derived.Test.YtampnikdmgojjaaGreatB18
import Derived.Test.YtampnikdmgojjaaGreatB9
import Derived.Deep.DeepCutAuto
import Derived.Test.YtampnikdmgojjaaGreatB14
import Derived.ProofKit
import Derived.OpenShut
import Derived.Deep.Slices
import Derived.Deep.Strs
import Derived.Lib.SmallJoins
import Derived.WideKeyArr2
import Derived.Test.YtampnikdmgojjaaGreatB5
import Derived.Test.YtampnikdmgojjaaGreatB16
section
/-
  The law of finding, joining, leaving out, and packs, walked.
-/
namespace Go.Proofs.YtampnikdmgojjaaGreat.Sg
open Go.RowKit
open Stb (Stab Srt Mrg)
open Sim (hid Kp No)

theorem fans_ex (l : List Ent) (h : List Int) : ∃ (p q r : Int) (b : Bool), ∀ e, FAns l h e → e = .returned (.tuple #[.agg #[.int .i64 p, .int .i64 q, .int .i64 r], .bool b]) := by
  by_cases hx : ∃ e, FAns l h e
  · obtain ⟨e, f⟩ := hx
    obtain ⟨⟨p, q, r⟩, b, he, hrest⟩ := id f
    exact ⟨p, q, r, b, fun e' f' => (f'.same f).trans he⟩
  · exact ⟨0, 0, 0, false, fun e f => absurd ⟨e, f⟩ hx⟩
theorem eqW (p q r : Int) (w : World) : (Op.equalIn 10000 52 (.agg #[.int .i64 p, .int .i64 q, .int .i64 r]) (.agg #[.int .i64 p, .int .i64 q, .int .i64 r])).run Tryz.prog w = .ok true w := by
  rw [show (10000 : Nat) = 9999 + 1 from rfl, Op.equalIn]
  go_simp
theorem IV.to {P : Nat → Prop} {w : World} {v : Value} {zs : List Int} (h : IV P w v zs) : IV (fun _ => True) w v zs := by
  obtain ⟨a, cap, h1, h2, h3, h4, h5⟩ := h
  refine ⟨a, cap, h1, h2, h3, h4, fun hne => ?_⟩
  obtain ⟨g, o, e, _, r⟩ := h5 hne
  exact ⟨g, o, e, trivial, r⟩
theorem there3 {W V : World} {t : TypeId} (hV : Kp No (W.alloc (.cells #[.int .i64 0, .int .i64 0, .int .i64 0] t)) V) : V.there W.heap.size 0 3 := fun j hj => by
  have h2 : (W.alloc (.cells #[.int .i64 0, .int .i64 0, .int .i64 0] t)).there W.heap.size 0 3 := thereE _ _ _ _ (by simp)
  have hl : W.heap.size < (W.alloc (.cells #[.int .i64 0, .int .i64 0, .int .i64 0] t)).heap.size := by simp
  rw [hV.cell (p := ⟨W.heap.size, _, none⟩) hl (fun x => x), hV.frozen (p := ⟨W.heap.size, _, none⟩) hl (fun x => x)]
  exact h2 j hj
/-- A place laid down: it is read there, and all else is kept. -/
theorem laid3 {U W V : World} {t : TypeId} (c : List Value) (hc : c.length = 3) (hU : Kp No U W) (hV : Kp No (W.alloc (.cells #[.int .i64 0, .int .i64 0, .int .i64 0] t)) V) : (V.setCells W.heap.size 0 c).rangeAt W.heap.size 0 c ∧ Kp No U (V.setCells W.heap.size 0 c) ∧ W.heap.size < (V.setCells W.heap.size 0 c).heap.size := by
  have h1 : Kp No U V := (hU.alloc _).andNone hV
  refine ⟨World.rangeAt_setCells_same _ _ _ _ (by rw [hc]; exact there3 hV), h1.trans (setCells_kp V _ _ _) (fun x hx => .inr (by have := hU.size; omega)), ?_⟩
  have h2 : W.heap.size < V.heap.size := Nat.lt_of_lt_of_le (by simp) hV.size
  exact Nat.lt_of_lt_of_le h2 (setCells_kp V _ _ _).size
theorem two_app {W : World} {v1 v2 : Value} {l m : List Ent} {P1 P2 : Nat → Prop} (h1 : EV P1 W v1 l) (h2 : EV P2 W v2 m) (hl : l.length + m.length ≤ 1000) :
    ∃ va w1 vb w2, (Builtin.append_ #[22, 22] 22 #[.slice (some ⟨W.heap.size, 0, none⟩) 0 0, v1]).run Tryz.prog (W.alloc (.cells #[] 91)) = .ok va w1 ∧
      (Builtin.append_ #[22, 22] 22 #[va, v2]).run Tryz.prog w1 = .ok vb w2 ∧ EV (fun _ => True) w2 vb (l ++ m) ∧ Kp No W w2 := by
  have k0 : Kp No W (W.alloc (.cells #[] 91)) := (Kp.refl No W).alloc _
  obtain ⟨a1, c1, w1, r1, b1, k1, _⟩ := app_step k0 (rowAt_zero (Kp.refl No W)) (h1.kept k0).src (by simp; omega) 22
  rw [List.nil_append] at b1
  obtain ⟨a2, c2, w2, r2, b2, k2, _⟩ := app_step k1 b1 (h2.kept k1).src (by omega) 22
  have e0 : ([] : List Ent).length + l.length = l.length := by simp
  rw [e0] at r1 r2 b1
  have e2 : (.slice a2 (l.length + m.length) c2 : Value) = .slice a2 (l ++ m).length c2 := by rw [List.length_append]
  refine ⟨_, w1, _, w2, r1, r2, ?_, k2⟩
  exact ev_of_rowT b2.1 (fun e he => by rcases List.mem_append.1 he with h | h; exact h1.ok e h; exact h2.ok e h) (fun _ _ => trivial)

set_option maxHeartbeats 4000000 in
set_option maxRecDepth 100000 in
theorem finds_big (w : World) (a1 a2 a3 : Option Addr) (n1 n2 n3 c1 c2 c3 : Nat) (bh : List Value) (h : 60 < n1 ∨ 60 < n2 ∨ 20 < n3) : Calls Tryz.prog 4 #[.slice a1 n1 c1, .slice a2 n2 c2, .agg bh.toArray, .slice a3 n3 c3] w fun e w' => e = .returned (.bool true) ∧ Kp No w w' := by
  have HK0 : Hid (Kp No w (w.alloc (.cells bh.toArray 46))) := (Kp.refl No w).alloc _
  by_cases h1 : 60 < n1
  · have hI : (60 : Int) < (n1 : Int) := by omega
    go_enter Tryz.func4, Tryz.ntmps4
    go_wp2_with fail
    refine (alive_any _).mono ?_
    rintro e w1 ⟨rfl, hk⟩
    have HK := hid (HK0.out.andNone hk)
    clear hk
    go_wp2_with fail
    go_ret
    exact ⟨rfl, HK.out⟩
  · have hI : ¬ (60 : Int) < (n1 : Int) := by omega
    by_cases h2 : 60 < n2
    · have hI2 : (60 : Int) < (n2 : Int) := by omega
      go_enter Tryz.func4, Tryz.ntmps4
      go_wp2_with fail
      refine (alive_any _).mono ?_
      rintro e w1 ⟨rfl, hk⟩
      have HK := hid (HK0.out.andNone hk)
      clear hk
      go_wp2_with fail
      go_ret
      exact ⟨rfl, HK.out⟩
    · have hI2 : ¬ (60 : Int) < (n2 : Int) := by omega
      have hI3 : (20 : Int) < (n3 : Int) := by omega
      go_enter Tryz.func4, Tryz.ntmps4
      go_wp2_with fail
      refine (alive_any _).mono ?_
      rintro e w1 ⟨rfl, hk⟩
      have HK := hid (HK0.out.andNone hk)
      clear hk
      go_wp2_with fail
      go_ret
      exact ⟨rfl, HK.out⟩

set_option maxHeartbeats 8000000 in
set_option maxRecDepth 100000 in
theorem finds_main (w : World) (v1 v2 v3 : Value) (h : List Int) (l m : List Ent) (zs : List Int) (P1 P2 P3 : Nat → Prop) (hl : EV P1 w v1 l) (hm : EV P2 w v2 m) (hh : h.length = 32) (hb : ∀ x ∈ h, 0 ≤ x ∧ x ≤ 255) (hz : IV P3 w v3 zs) (wl : Wf (l.map (·.2.1))) (wz : Wf zs) :
    Calls Tryz.prog 4 #[v1, v2, .agg (b8 h).toArray, v3] w fun e w' => e = .returned (.bool true) ∧ Kp No w w' := by
  have HL := hid hl
  have HM := hid hm
  have HZ := hid hz
  have HWL := hid wl
  have HWZ := hid wz
  have HO1 := hid hl.ok
  have HO2 := hid hm.ok
  obtain ⟨a1, c1, rfl⟩ : ∃ a c, v1 = .slice a l.length c := by obtain ⟨a, c, e, _⟩ := hl; exact ⟨a, c, e⟩
  obtain ⟨a2, c2, rfl⟩ : ∃ a c, v2 = .slice a m.length c := by obtain ⟨a, c, e, _⟩ := hm; exact ⟨a, c, e⟩
  obtain ⟨a3, c3, rfl⟩ : ∃ a c, v3 = .slice a zs.length c := by obtain ⟨a, c, e, _⟩ := hz; exact ⟨a, c, e⟩
  obtain ⟨n1, hn1⟩ : ∃ n, l.length = n := ⟨_, rfl⟩
  obtain ⟨n2, hn2⟩ : ∃ n, m.length = n := ⟨_, rfl⟩
  obtain ⟨n3, hn3⟩ : ∃ n, zs.length = n := ⟨_, rfl⟩
  have HN1 := hid hn1
  have HN2 := hid hn2
  have HN3 := hid hn3
  rw [hn1] at HL ⊢
  rw [hn2] at HM ⊢
  rw [hn3] at HZ ⊢
  clear hn1 hn2 hn3 hl hm hz wl wz
  by_cases hbig : 60 < n1 ∨ 60 < n2 ∨ 20 < n3
  · exact finds_big w a1 a2 a3 n1 n2 n3 c1 c2 c3 _ hbig
  have hb1 : n1 ≤ 60 := by omega
  have hb2 : n2 ≤ 60 := by omega
  have hb3 : n3 ≤ 20 := by omega
  clear hbig
  have hI : ¬ (60 : Int) < (n1 : Int) := by omega
  have hI2 : ¬ (60 : Int) < (n2 : Int) := by omega
  have hI3 : ¬ (20 : Int) < (n3 : Int) := by omega
  obtain ⟨p, q, r, b, hans⟩ := fans_ex l h
  have HFD : Hid (∀ (W : World) (v : Value) (P : Nat → Prop), EV P W v l → Calls Tryz.prog 19 #[v, .agg (b8 h).toArray] W fun e w' => e = .returned (.tuple #[.agg #[.int .i64 p, .int .i64 q, .int .i64 r], .bool b]) ∧ Kp No W w') := fun W v P hv => (find_any W v l P h hv (by rw [HN1.out]; omega) hh hb).mono (fun e w' f => ⟨hans e f.1, f.2⟩)
  have HRF : Hid (∀ (W : World) (v : Value) (P : Nat → Prop), EV P W v l → Calls Tryz.prog 20 #[v, .agg (b8 h).toArray] W fun e w' => e = .returned (.tuple #[.agg #[.int .i64 p, .int .i64 q, .int .i64 r], .bool b]) ∧ Kp No W w') := fun W v P hv => (rfind_any W v l P h hv (by rw [HN1.out]; omega) hh hb).mono (fun e w' f => ⟨hans e f.1, f.2⟩)
  have HIH : Hid ((Tryz.prog.info? 46).map (·.size) = some (b8 h).length) := by rw [Hid, b8_length, hh]; exact infH
  clear hans hh hb
  generalize b8 h = bh at *
  obtain ⟨W0, hW0⟩ : ∃ W, w.alloc (.cells bh.toArray 46) = W := ⟨_, rfl⟩
  have HK0 : Hid (Kp No w W0) := by rw [Hid, ← hW0]; exact (Kp.refl No w).alloc _
  have HBX : Hid (∀ V, Kp No W0 V → V.rangeAt w.heap.size 0 bh) := fun V hV j u hu => by
    have h1 : W0.rangeAt w.heap.size 0 bh := by rw [← hW0]; exact rng_new w bh _
    exact (hV.cell (p := ⟨w.heap.size, _, none⟩) (by rw [← hW0]; simp) (fun x => x)).trans (h1 j u hu)
  have HIW : Hid ((Tryz.prog.info? 49).map (·.size) = some 3) := by rw [Hid]; kernel_rfl
  have HIR : Hid ((Tryz.prog.info? 52).map (·.size) = some 3) := by rw [Hid]; kernel_rfl
  have HO3 : Hid ((#[.int .i64 p, .int .i64 q, .int .i64 r] : Array Value).all (·.oneCell') = true) := all_oneCell_toArray (cs := [.int .i64 p, .int .i64 q, .int .i64 r]) (by
    intro v hv
    simp at hv
    rcases hv with rfl | rfl | rfl <;> rfl)
  go_enter Tryz.func4, Tryz.ntmps4
  go_upto_region 3 with fail
  clear hW0
  go_cut [9, 10] (fun x9 x10 wx => x10 = .bool b ∧ ∃ g9 : Nat, x9 = .pointer (some ⟨g9, 0, none⟩) ∧ Hid (wx.rangeAt g9 0 [.int .i64 p, .int .i64 q, .int .i64 r] ∧ Kp No W0 wx ∧ g9 < wx.heap.size))
  case first =>
    refine wp_region_held_drew (S := fun V => Kp No W0 V) (by kernel_rfl) ((Kp.refl _ _).drew) (fun hHeld => ?_)
    refine wpAnyH_take (i := 0) (oi := { dst := some 29, op := Op.move (Operand.tmp 0), type := 22, pos := "law.go:65", after := #[], guard := none }) (v := .slice a1 n1 c1) rfl (by kernel_rfl) (by kernel_rfl) (by kernel_rfl) (fun _ _ _ h => h) (Or.inl ⟨by rfl, fun w' hw' => by (clear hw'; go_simp)⟩) hHeld ?_
    simp only [Act.put, List.setIfInBounds_toArray, List.set_cons_zero, List.set_cons_succ]
    refine wpAnyH_take (i := 2) (oi := { dst := some 31, op := Op.load 46 (Operand.tmp 6), type := 46, pos := "law.go:65", after := #[], guard := none }) (v := .agg bh.toArray) rfl (by kernel_rfl) (by kernel_rfl) (by kernel_rfl) (fun _ _ _ h => h) (yieldsIf_load_mid (by rfl) _ _ rfl w.heap.size 0 rfl bh _ (HBX.out) Tryz.underlying46 rfl HIH.out) hHeld ?_
    simp only [Act.put, List.setIfInBounds_toArray, List.set_cons_zero, List.set_cons_succ]
    refine wpAnyH_ready (rs := [1, 7]) (by kernel_rfl) (by simp) ?_
    refine (AllReadyH.cons (o := { dst := some 30, op := Op.call { callee := Callee.value (Operand.func 8), args := #[Operand.tmp 29], argTypes := #[22] }, type := 30, pos := "law.go:65", after := #[{ on := 0, ground := Ground.data }], guard := none }) rfl (fun K hK => ?_) (AllReadyH.cons (o := { dst := some 9, op := Op.alloc 49, type := 0, pos := "law.go:65", after := #[], guard := none }) rfl (fun K hK => ?_) AllReadyH.nil))
    · go_simp
      refine (own_any _ _ l _ ((HL.out.kept HK0.out).kept ((Kp.refl No W0).drew)) (by rw [HN1.out]; omega)).mono ?_
      rintro e W1 ⟨r1, rfl, hm1⟩
      have HM1 : Hid (Kp No (W0.drew) W1) := hm1.2.2
      have HE1 : Hid (EV (fun _ => True) W1 r1 l) := ev_of_row hm1.1 HO1.out (fun _ _ => trivial)
      have HKA : Hid (Kp No W0 W1) := ((Kp.refl No W0).drew).andNone hm1.2.2
      clear hm1
      go_wp2_with fail
      refine hK.out _ _ (HKA.out) (fun hh => ?_)
      clear hK K hHeld
      have hHeld := hh
      clear hh
      try simp only [Act.put, List.setIfInBounds_toArray, List.set_cons_zero, List.set_cons_succ]
      refine wpAnyH_ready (rs := [3, 7]) (by kernel_rfl) (by simp) ?_
      refine (AllReadyH.cons (o := { dst := some 32, op := Op.call { callee := Callee.value (Operand.func 19), args := #[Operand.tmp 30, Operand.tmp 31], argTypes := #[30, 46] }, type := 50, pos := "law.go:65", after := #[{ on := 1, ground := Ground.data }, { on := 2, ground := Ground.data }, { on := 1, ground := Ground.chain }], guard := none }) rfl (fun K hK => ?_) (AllReadyH.cons (o := { dst := some 9, op := Op.alloc 49, type := 0, pos := "law.go:65", after := #[], guard := none }) rfl (fun K hK => ?_) AllReadyH.nil))
      · go_simp
        refine (HFD.out _ _ _ (HE1.out)).mono ?_
        rintro e W3 ⟨rfl, hm2⟩
        have HM2 : Hid (Kp No (W1) W3) := hm2
        have HKB : Hid (Kp No W0 W3) := (HKA.out).andNone hm2
        clear hm2
        go_wp2_with fail
        refine hK.out _ _ (HKB.out) (fun hh => ?_)
        clear hK K hHeld
        have hHeld := hh
        clear hh
        try simp only [Act.put, List.setIfInBounds_toArray, List.set_cons_zero, List.set_cons_succ]
        refine wpAnyH_take (i := 4) (oi := { dst := some 28, op := Op.move (Operand.tmp 32), type := 50, pos := "law.go:65", after := #[{ on := 3, ground := Ground.data }], guard := none }) (v := .tuple #[.agg #[.int .i64 p, .int .i64 q, .int .i64 r], .bool b]) rfl (by kernel_rfl) (by kernel_rfl) (by kernel_rfl) (fun _ _ _ h => h) (Or.inl ⟨by rfl, fun w' hw' => by (clear hw'; go_simp)⟩) hHeld ?_
        simp only [Act.put, List.setIfInBounds_toArray, List.set_cons_zero, List.set_cons_succ]
        refine wpAnyH_take (i := 5) (oi := { dst := some 33, op := Op.extract (Operand.tmp 28) 0, type := 49, pos := "law.go:65", after := #[{ on := 4, ground := Ground.data }], guard := none }) (v := .agg #[.int .i64 p, .int .i64 q, .int .i64 r]) rfl (by kernel_rfl) (by kernel_rfl) (by kernel_rfl) (fun _ _ _ h => h) (Or.inl ⟨by rfl, fun w' hw' => by (clear hw'; go_simp)⟩) hHeld ?_
        simp only [Act.put, List.setIfInBounds_toArray, List.set_cons_zero, List.set_cons_succ]
        refine wpAnyH_take (i := 6) (oi := { dst := some 34, op := Op.extract (Operand.tmp 28) 1, type := 4, pos := "law.go:65", after := #[{ on := 4, ground := Ground.data }, { on := 8, ground := Ground.gcOnly Departure.lateStores }], guard := none }) (v := .bool b) rfl (by kernel_rfl) (by kernel_rfl) (by kernel_rfl) (fun _ _ _ h => h) (Or.inl ⟨by rfl, fun w' hw' => by (clear hw'; go_simp)⟩) hHeld ?_
        simp only [Act.put, List.setIfInBounds_toArray, List.set_cons_zero, List.set_cons_succ]
        refine wpAnyH_ready (rs := [7]) (by kernel_rfl) (by simp) ?_
        refine (AllReadyH.cons (o := { dst := some 9, op := Op.alloc 49, type := 0, pos := "law.go:65", after := #[], guard := none }) rfl (fun K hK => ?_) AllReadyH.nil)
        go_simp
        refine hK.out _ _ ((HKB.out).alloc _) (fun hh => ?_)
        clear hK K hHeld
        have hHeld := hh
        clear hh
        try simp only [Act.put, List.setIfInBounds_toArray, List.set_cons_zero, List.set_cons_succ]
        have HLD := hid (laid3 (t := 49) [.int .i64 p, .int .i64 q, .int .i64 r] rfl (HKB.out) (Kp.refl No _))
        refine wpAnyH_ready (rs := [8]) (by kernel_rfl) (by simp) ?_
        refine (AllReadyH.cons (o := { dst := none, op := Op.store 49 (Operand.tmp 9) (Operand.tmp 33), type := 0, pos := "law.go:65", after := #[{ on := 7, ground := Ground.data }, { on := 5, ground := Ground.data }, { on := 3, ground := Ground.chain }, { on := 0, ground := Ground.phase }, { on := 1, ground := Ground.phase }, { on := 2, ground := Ground.phase }, { on := 3, ground := Ground.phase }, { on := 4, ground := Ground.phase }, { on := 5, ground := Ground.phase }, { on := 6, ground := Ground.textOnly Departure.lateStores }, { on := 7, ground := Ground.phase }], guard := none }) rfl (fun K hK => ?_) AllReadyH.nil)
        rw [if_pos (by rfl)]
        refine wp_store_mid 49 _ _ (by rfl) (W3).heap.size 0 #[.int .i64 p, .int .i64 q, .int .i64 r] (by rfl) (by rfl) (there3 (Kp.refl No _)) HIW.out HO3.out ?_
        refine hK.out _ _ (HLD.out.2.1) (fun hh => ?_)
        clear hK K hHeld
        have hHeld := hh
        clear hh
        try simp only [Act.put]
        refine wpAnyH_take (i := 9) (oi := { dst := some 10, op := Op.assign (Operand.tmp 34), type := 4, pos := "law.go:65", after := #[{ on := 6, ground := Ground.data }, { on := 8, ground := Ground.chain }, { on := 0, ground := Ground.phase }, { on := 1, ground := Ground.phase }, { on := 2, ground := Ground.phase }, { on := 3, ground := Ground.phase }, { on := 4, ground := Ground.phase }, { on := 5, ground := Ground.phase }, { on := 6, ground := Ground.phase }, { on := 7, ground := Ground.phase }, { on := 8, ground := Ground.phase }], guard := none }) (v := .bool b) rfl (by kernel_rfl) (by kernel_rfl) (by kernel_rfl) (fun _ _ _ h => h) (Or.inl ⟨by rfl, fun w' hw' => by (clear hw'; go_simp)⟩) hHeld ?_
        simp only [Act.put, List.setIfInBounds_toArray, List.set_cons_zero, List.set_cons_succ]
        refine wpAnyH_done (by kernel_rfl) ?_ _
        clear hHeld
        go_wp2_with fail
        go_meet
        exact ⟨rfl, _, rfl, HLD.out⟩
      · go_simp
        refine hK.out _ _ ((HKA.out).alloc _) (fun hh => ?_)
        clear hK K hHeld
        have hHeld := hh
        clear hh
        try simp only [Act.put, List.setIfInBounds_toArray, List.set_cons_zero, List.set_cons_succ]
        refine wpAnyH_ready (rs := [3]) (by kernel_rfl) (by simp) ?_
        refine (AllReadyH.cons (o := { dst := some 32, op := Op.call { callee := Callee.value (Operand.func 19), args := #[Operand.tmp 30, Operand.tmp 31], argTypes := #[30, 46] }, type := 50, pos := "law.go:65", after := #[{ on := 1, ground := Ground.data }, { on := 2, ground := Ground.data }, { on := 1, ground := Ground.chain }], guard := none }) rfl (fun K hK => ?_) AllReadyH.nil)
        go_simp
        refine (HFD.out _ _ _ (HE1.out.kept ((Kp.refl No W1).alloc _))).mono ?_
        rintro e W3 ⟨rfl, hm2⟩
        have HM2 : Hid (Kp No (W1.alloc (.cells #[.int .i64 0, .int .i64 0, .int .i64 0] 49)) W3) := hm2
        have HKB : Hid (Kp No W0 W3) := (HKA.out.alloc _).andNone hm2
        clear hm2
        go_wp2_with fail
        refine hK.out _ _ (HKB.out) (fun hh => ?_)
        clear hK K hHeld
        have hHeld := hh
        clear hh
        try simp only [Act.put, List.setIfInBounds_toArray, List.set_cons_zero, List.set_cons_succ]
        refine wpAnyH_take (i := 4) (oi := { dst := some 28, op := Op.move (Operand.tmp 32), type := 50, pos := "law.go:65", after := #[{ on := 3, ground := Ground.data }], guard := none }) (v := .tuple #[.agg #[.int .i64 p, .int .i64 q, .int .i64 r], .bool b]) rfl (by kernel_rfl) (by kernel_rfl) (by kernel_rfl) (fun _ _ _ h => h) (Or.inl ⟨by rfl, fun w' hw' => by (clear hw'; go_simp)⟩) hHeld ?_
        simp only [Act.put, List.setIfInBounds_toArray, List.set_cons_zero, List.set_cons_succ]
        refine wpAnyH_take (i := 5) (oi := { dst := some 33, op := Op.extract (Operand.tmp 28) 0, type := 49, pos := "law.go:65", after := #[{ on := 4, ground := Ground.data }], guard := none }) (v := .agg #[.int .i64 p, .int .i64 q, .int .i64 r]) rfl (by kernel_rfl) (by kernel_rfl) (by kernel_rfl) (fun _ _ _ h => h) (Or.inl ⟨by rfl, fun w' hw' => by (clear hw'; go_simp)⟩) hHeld ?_
        simp only [Act.put, List.setIfInBounds_toArray, List.set_cons_zero, List.set_cons_succ]
        refine wpAnyH_take (i := 6) (oi := { dst := some 34, op := Op.extract (Operand.tmp 28) 1, type := 4, pos := "law.go:65", after := #[{ on := 4, ground := Ground.data }, { on := 8, ground := Ground.gcOnly Departure.lateStores }], guard := none }) (v := .bool b) rfl (by kernel_rfl) (by kernel_rfl) (by kernel_rfl) (fun _ _ _ h => h) (Or.inl ⟨by rfl, fun w' hw' => by (clear hw'; go_simp)⟩) hHeld ?_
        simp only [Act.put, List.setIfInBounds_toArray, List.set_cons_zero, List.set_cons_succ]
        have HLD := hid (laid3 (t := 49) [.int .i64 p, .int .i64 q, .int .i64 r] rfl (HKA.out) (HM2.out))
        refine wpAnyH_ready (rs := [8]) (by kernel_rfl) (by simp) ?_
        refine (AllReadyH.cons (o := { dst := none, op := Op.store 49 (Operand.tmp 9) (Operand.tmp 33), type := 0, pos := "law.go:65", after := #[{ on := 7, ground := Ground.data }, { on := 5, ground := Ground.data }, { on := 3, ground := Ground.chain }, { on := 0, ground := Ground.phase }, { on := 1, ground := Ground.phase }, { on := 2, ground := Ground.phase }, { on := 3, ground := Ground.phase }, { on := 4, ground := Ground.phase }, { on := 5, ground := Ground.phase }, { on := 6, ground := Ground.textOnly Departure.lateStores }, { on := 7, ground := Ground.phase }], guard := none }) rfl (fun K hK => ?_) AllReadyH.nil)
        rw [if_pos (by rfl)]
        refine wp_store_mid 49 _ _ (by rfl) (W1).heap.size 0 #[.int .i64 p, .int .i64 q, .int .i64 r] (by rfl) (by rfl) (there3 (HM2.out)) HIW.out HO3.out ?_
        refine hK.out _ _ (HLD.out.2.1) (fun hh => ?_)
        clear hK K hHeld
        have hHeld := hh
        clear hh
        try simp only [Act.put]
        refine wpAnyH_take (i := 9) (oi := { dst := some 10, op := Op.assign (Operand.tmp 34), type := 4, pos := "law.go:65", after := #[{ on := 6, ground := Ground.data }, { on := 8, ground := Ground.chain }, { on := 0, ground := Ground.phase }, { on := 1, ground := Ground.phase }, { on := 2, ground := Ground.phase }, { on := 3, ground := Ground.phase }, { on := 4, ground := Ground.phase }, { on := 5, ground := Ground.phase }, { on := 6, ground := Ground.phase }, { on := 7, ground := Ground.phase }, { on := 8, ground := Ground.phase }], guard := none }) (v := .bool b) rfl (by kernel_rfl) (by kernel_rfl) (by kernel_rfl) (fun _ _ _ h => h) (Or.inl ⟨by rfl, fun w' hw' => by (clear hw'; go_simp)⟩) hHeld ?_
        simp only [Act.put, List.setIfInBounds_toArray, List.set_cons_zero, List.set_cons_succ]
        refine wpAnyH_done (by kernel_rfl) ?_ _
        clear hHeld
        go_wp2_with fail
        go_meet
        exact ⟨rfl, _, rfl, HLD.out⟩
    · go_simp
      refine hK.out _ _ (((Kp.refl No W0).drew).alloc _) (fun hh => ?_)
      clear hK K hHeld
      have hHeld := hh
      clear hh
      try simp only [Act.put, List.setIfInBounds_toArray, List.set_cons_zero, List.set_cons_succ]
      refine wpAnyH_ready (rs := [1]) (by kernel_rfl) (by simp) ?_
      refine (AllReadyH.cons (o := { dst := some 30, op := Op.call { callee := Callee.value (Operand.func 8), args := #[Operand.tmp 29], argTypes := #[22] }, type := 30, pos := "law.go:65", after := #[{ on := 0, ground := Ground.data }], guard := none }) rfl (fun K hK => ?_) AllReadyH.nil)
      go_simp
      refine (own_any _ _ l _ ((HL.out.kept HK0.out).kept (((Kp.refl No W0).drew).alloc _)) (by rw [HN1.out]; omega)).mono ?_
      rintro e W1 ⟨r1, rfl, hm1⟩
      have HM1 : Hid (Kp No (W0.drew.alloc (.cells #[.int .i64 0, .int .i64 0, .int .i64 0] 49)) W1) := hm1.2.2
      have HE1 : Hid (EV (fun _ => True) W1 r1 l) := ev_of_row hm1.1 HO1.out (fun _ _ => trivial)
      have HKA : Hid (Kp No W0 W1) := (((Kp.refl No W0).drew).alloc _).andNone hm1.2.2
      clear hm1
      go_wp2_with fail
      refine hK.out _ _ (HKA.out) (fun hh => ?_)
      clear hK K hHeld
      have hHeld := hh
      clear hh
      try simp only [Act.put, List.setIfInBounds_toArray, List.set_cons_zero, List.set_cons_succ]
      refine wpAnyH_ready (rs := [3]) (by kernel_rfl) (by simp) ?_
      refine (AllReadyH.cons (o := { dst := some 32, op := Op.call { callee := Callee.value (Operand.func 19), args := #[Operand.tmp 30, Operand.tmp 31], argTypes := #[30, 46] }, type := 50, pos := "law.go:65", after := #[{ on := 1, ground := Ground.data }, { on := 2, ground := Ground.data }, { on := 1, ground := Ground.chain }], guard := none }) rfl (fun K hK => ?_) AllReadyH.nil)
      go_simp
      refine (HFD.out _ _ _ (HE1.out)).mono ?_
      rintro e W3 ⟨rfl, hm2⟩
      have HM2 : Hid (Kp No (W1) W3) := hm2
      have HKB : Hid (Kp No W0 W3) := (HKA.out).andNone hm2
      clear hm2
      go_wp2_with fail
      refine hK.out _ _ (HKB.out) (fun hh => ?_)
      clear hK K hHeld
      have hHeld := hh
      clear hh
      try simp only [Act.put, List.setIfInBounds_toArray, List.set_cons_zero, List.set_cons_succ]
      refine wpAnyH_take (i := 4) (oi := { dst := some 28, op := Op.move (Operand.tmp 32), type := 50, pos := "law.go:65", after := #[{ on := 3, ground := Ground.data }], guard := none }) (v := .tuple #[.agg #[.int .i64 p, .int .i64 q, .int .i64 r], .bool b]) rfl (by kernel_rfl) (by kernel_rfl) (by kernel_rfl) (fun _ _ _ h => h) (Or.inl ⟨by rfl, fun w' hw' => by (clear hw'; go_simp)⟩) hHeld ?_
      simp only [Act.put, List.setIfInBounds_toArray, List.set_cons_zero, List.set_cons_succ]
      refine wpAnyH_take (i := 5) (oi := { dst := some 33, op := Op.extract (Operand.tmp 28) 0, type := 49, pos := "law.go:65", after := #[{ on := 4, ground := Ground.data }], guard := none }) (v := .agg #[.int .i64 p, .int .i64 q, .int .i64 r]) rfl (by kernel_rfl) (by kernel_rfl) (by kernel_rfl) (fun _ _ _ h => h) (Or.inl ⟨by rfl, fun w' hw' => by (clear hw'; go_simp)⟩) hHeld ?_
      simp only [Act.put, List.setIfInBounds_toArray, List.set_cons_zero, List.set_cons_succ]
      refine wpAnyH_take (i := 6) (oi := { dst := some 34, op := Op.extract (Operand.tmp 28) 1, type := 4, pos := "law.go:65", after := #[{ on := 4, ground := Ground.data }, { on := 8, ground := Ground.gcOnly Departure.lateStores }], guard := none }) (v := .bool b) rfl (by kernel_rfl) (by kernel_rfl) (by kernel_rfl) (fun _ _ _ h => h) (Or.inl ⟨by rfl, fun w' hw' => by (clear hw'; go_simp)⟩) hHeld ?_
      simp only [Act.put, List.setIfInBounds_toArray, List.set_cons_zero, List.set_cons_succ]
      have HLD := hid (laid3 (t := 49) [.int .i64 p, .int .i64 q, .int .i64 r] rfl ((Kp.refl No W0).drew) (HM1.out.andNone HM2.out))
      refine wpAnyH_ready (rs := [8]) (by kernel_rfl) (by simp) ?_
      refine (AllReadyH.cons (o := { dst := none, op := Op.store 49 (Operand.tmp 9) (Operand.tmp 33), type := 0, pos := "law.go:65", after := #[{ on := 7, ground := Ground.data }, { on := 5, ground := Ground.data }, { on := 3, ground := Ground.chain }, { on := 0, ground := Ground.phase }, { on := 1, ground := Ground.phase }, { on := 2, ground := Ground.phase }, { on := 3, ground := Ground.phase }, { on := 4, ground := Ground.phase }, { on := 5, ground := Ground.phase }, { on := 6, ground := Ground.textOnly Departure.lateStores }, { on := 7, ground := Ground.phase }], guard := none }) rfl (fun K hK => ?_) AllReadyH.nil)
      rw [if_pos (by rfl)]
      refine wp_store_mid 49 _ _ (by rfl) (W0.drew).heap.size 0 #[.int .i64 p, .int .i64 q, .int .i64 r] (by rfl) (by rfl) (there3 (HM1.out.andNone HM2.out)) HIW.out HO3.out ?_
      refine hK.out _ _ (HLD.out.2.1) (fun hh => ?_)
      clear hK K hHeld
      have hHeld := hh
      clear hh
      try simp only [Act.put]
      refine wpAnyH_take (i := 9) (oi := { dst := some 10, op := Op.assign (Operand.tmp 34), type := 4, pos := "law.go:65", after := #[{ on := 6, ground := Ground.data }, { on := 8, ground := Ground.chain }, { on := 0, ground := Ground.phase }, { on := 1, ground := Ground.phase }, { on := 2, ground := Ground.phase }, { on := 3, ground := Ground.phase }, { on := 4, ground := Ground.phase }, { on := 5, ground := Ground.phase }, { on := 6, ground := Ground.phase }, { on := 7, ground := Ground.phase }, { on := 8, ground := Ground.phase }], guard := none }) (v := .bool b) rfl (by kernel_rfl) (by kernel_rfl) (by kernel_rfl) (fun _ _ _ h => h) (Or.inl ⟨by rfl, fun w' hw' => by (clear hw'; go_simp)⟩) hHeld ?_
      simp only [Act.put, List.setIfInBounds_toArray, List.set_cons_zero, List.set_cons_succ]
      refine wpAnyH_done (by kernel_rfl) ?_ _
      clear hHeld
      go_wp2_with fail
      go_meet
      exact ⟨rfl, _, rfl, HLD.out⟩
  case rest =>
    obtain ⟨rfl, g9, rfl, H9⟩ := hcut
    obtain ⟨U4, rfl⟩ : ∃ U4, U4 = wc := ⟨_, rfl⟩
    have HE4 : Hid (EV P1 U4 (.slice a1 n1 c1) l) := (HL.out.kept HK0.out).kept H9.out.2.1
    go_wp2_with (first
      | (refine wpList_load_mid (by rfl) 46 _ (by rfl) w.heap.size 0 (by rfl) bh _ (HBX.out U4 H9.out.2.1) Tryz.underlying46 rfl HIH.out ?_))
    refine (HRF.out _ _ _ HE4.out).mono ?_
    rintro e w4 ⟨rfl, hk4⟩
    have HK4 := hid hk4
    clear hk4
    go_wp2_with (first
      | (refine wpList_store_box (fun V' => V'.rangeAt w4.heap.size 0 [.int .i64 p, .int .i64 q, .int .i64 r] ∧ Kp No w4 V' ∧ w4.heap.size < V'.heap.size) (by rfl) 52 _ _ (by rfl) w4.heap.size 0 #[.int .i64 p, .int .i64 q, .int .i64 r] (by rfl) (by rfl) (there3 (Kp.refl No _)) HIR.out HO3.out (laid3 [.int .i64 p, .int .i64 q, .int .i64 r] rfl (Kp.refl No w4) (Kp.refl No _)) ?_; intro W5 h5; have H5 := hid h5; clear h5; have HK5 : Hid (Kp No w W5) := ((HK0.out.andNone H9.out.2.1).andNone HK4.out).andNone H5.out.2.1; obtain ⟨va, w6, vb, U, ha6, ha7, hev7, hk7⟩ := two_app (HL.out.kept HK5.out) (HM.out.kept HK5.out) (by rw [HN1.out, HN2.out]; omega); have HA6 := hid ha6; have HA7 := hid ha7; have HE7 := hid hev7; have HK7 := hid hk7; clear ha6 ha7 hev7 hk7)
      | (refine wpList_valE (by rfl) (exec_slice0 22 rfl _ (run_zeroR _)) ?_)
      | (refine wpList_valE (by rfl) (exec_appE _ _ 22 rfl (.slice (some ⟨W5.heap.size, 0, none⟩) 0 0) (.slice a1 n1 c1) _ rfl rfl HA6.out) ?_)
      | (refine wpList_valE (by rfl) (exec_appE _ _ 22 rfl va (.slice a2 n2 c2) _ rfl rfl HA7.out) ?_))
    have HKU : Hid (Kp No w U) := HK5.out.andNone HK7.out
    have HE1 : Hid (∀ W, Kp No U W → EV P1 W (.slice a1 n1 c1) l) := fun W hW => (HL.out.kept HKU.out).kept hW
    have HE2 : Hid (∀ W, Kp No U W → EV P2 W (.slice a2 n2 c2) m) := fun W hW => (HM.out.kept HKU.out).kept hW
    have HZ3 : Hid (∀ W, Kp No U W → IV P3 W (.slice a3 n3 c3) zs) := fun W hW => (HZ.out.kept HKU.out).kept hW
    have HEA : Hid (∀ W, Kp No U W → EV (fun _ => True) W vb (l ++ m)) := fun W hW => HE7.out.kept hW
    have HX9 : Hid (∀ W, Kp No U W → W.rangeAt g9 0 [.int .i64 p, .int .i64 q, .int .i64 r]) := fun W hW j u hu => ((((HK4.out.andNone H5.out.2.1).andNone HK7.out).andNone hW).cell (p := ⟨g9, _, none⟩) H9.out.2.2 (fun x => x)).trans (H9.out.1 j u hu)
    have HX11 : Hid (∀ W, Kp No U W → W.rangeAt w4.heap.size 0 [.int .i64 p, .int .i64 q, .int .i64 r]) := fun W hW j u hu => ((HK7.out.andNone hW).cell (p := ⟨w4.heap.size, _, none⟩) H5.out.2.2 (fun x => x)).trans (H5.out.1 j u hu)
    have hqW := fun W => eqW p q r W
    refine wp_region_held_drew (S := fun V => Kp No U V) (by kernel_rfl) ((Kp.refl _ _).drew) (fun hHeld => ?_)
    refine wpAnyH_take (i := 0) (oi := { dst := some 46, op := Op.load 49 (Operand.tmp 9), type := 49, pos := "law.go:68", after := #[], guard := none }) (v := .agg [.int .i64 p, .int .i64 q, .int .i64 r].toArray) rfl (by kernel_rfl) (by kernel_rfl) (by kernel_rfl) (fun _ _ _ h => h) (yieldsIf_load_mid (by rfl) _ _ rfl g9 0 rfl [.int .i64 p, .int .i64 q, .int .i64 r] _ (HX9.out) Tryz.underlying49 rfl HIW.out) hHeld ?_
    simp only [Act.put, List.setIfInBounds_toArray, List.set_cons_zero, List.set_cons_succ]
    refine wpAnyH_take (i := 2) (oi := { dst := some 48, op := Op.load 52 (Operand.tmp 11), type := 52, pos := "law.go:68", after := #[], guard := none }) (v := .agg [.int .i64 p, .int .i64 q, .int .i64 r].toArray) rfl (by kernel_rfl) (by kernel_rfl) (by kernel_rfl) (fun _ _ _ h => h) (yieldsIf_load_mid (by rfl) _ _ rfl w4.heap.size 0 rfl [.int .i64 p, .int .i64 q, .int .i64 r] _ (HX11.out) Tryz.underlying52 rfl HIR.out) hHeld ?_
    simp only [Act.put, List.setIfInBounds_toArray, List.set_cons_zero, List.set_cons_succ]
    refine wpAnyH_ready (rs := [1]) (by kernel_rfl) (by simp) ?_
    refine AllReadyH.cons (o := { dst := some 47, op := Op.call { callee := Callee.value (Operand.func 21), args := #[Operand.tmp 46], argTypes := #[49] }, type := 52, pos := "law.go:68", after := #[{ on := 0, ground := Ground.data }], guard := none }) rfl (fun K hK => ?_) AllReadyH.nil
    go_simp
    refine (where_any p q r _).mono ?_
    rintro e W1 ⟨rfl, hk⟩
    have HK1 : Hid (Kp No U W1) := ((Kp.refl No U).drew).andNone hk
    clear hk
    go_wp2_with fail
    refine hK.out _ _ (HK1.out) (fun hh => ?_)
    clear hK K hHeld
    have hHeld := hh
    clear hh
    try simp only [Act.put, List.setIfInBounds_toArray, List.set_cons_zero, List.set_cons_succ]
    refine wpAnyH_take (i := 3) (oi := { dst := some 49, op := Op.binOp BinOp.eql 52 (Operand.tmp 47) (Operand.tmp 48) 52, type := 4, pos := "law.go:68", after := #[{ on := 1, ground := Ground.data }, { on := 2, ground := Ground.data }], guard := none }) (v := .bool true) rfl (by kernel_rfl) (by kernel_rfl) (by kernel_rfl) (fun _ _ _ h => h) (Or.inl ⟨by rfl, fun w' hw' => by (clear hw'; go_simp)⟩) hHeld ?_
    simp only [Act.put, List.setIfInBounds_toArray, List.set_cons_zero, List.set_cons_succ]
    refine wpAnyH_take (i := 4) (oi := { dst := some 50, op := Op.move (Operand.tmp 49), type := 4, pos := "law.go:68", after := #[{ on := 3, ground := Ground.data }, { on := 1, ground := Ground.chain }], guard := none }) (v := .bool true) rfl (by kernel_rfl) (by kernel_rfl) (by kernel_rfl) (fun _ _ _ h => h) (Or.inl ⟨by rfl, fun w' hw' => by (clear hw'; go_simp)⟩) hHeld ?_
    simp only [Act.put, List.setIfInBounds_toArray, List.set_cons_zero, List.set_cons_succ]
    refine wpAnyH_take (i := 5) (oi := { dst := some 51, op := Op.move (Operand.tmp 10), type := 4, pos := "law.go:68", after := #[{ on := 4, ground := Ground.guard }], guard := some (4, true) }) (v := .bool b) rfl (by kernel_rfl) (by kernel_rfl) (by kernel_rfl) (fun _ _ _ h => h) (Or.inl ⟨by rfl, fun w' hw' => by (clear hw'; go_simp)⟩) hHeld ?_
    simp only [Act.put, List.setIfInBounds_toArray, List.set_cons_zero, List.set_cons_succ]
    refine wpAnyH_take (i := 6) (oi := { dst := some 52, op := Op.move (Operand.tmp 12), type := 4, pos := "law.go:68", after := #[{ on := 4, ground := Ground.guard }], guard := some (4, true) }) (v := .bool b) rfl (by kernel_rfl) (by kernel_rfl) (by kernel_rfl) (fun _ _ _ h => h) (Or.inl ⟨by rfl, fun w' hw' => by (clear hw'; go_simp)⟩) hHeld ?_
    simp only [Act.put, List.setIfInBounds_toArray, List.set_cons_zero, List.set_cons_succ]
    refine wpAnyH_take (i := 7) (oi := { dst := some 53, op := Op.binOp BinOp.eql 4 (Operand.tmp 51) (Operand.tmp 52) 4, type := 4, pos := "law.go:68", after := #[{ on := 5, ground := Ground.data }, { on := 6, ground := Ground.data }, { on := 4, ground := Ground.guard }], guard := some (4, true) }) (v := .bool true) rfl (by kernel_rfl) (by kernel_rfl) (by kernel_rfl) (fun _ _ _ h => h) (Or.inl ⟨by rfl, fun w' hw' => by (clear hw'; go_simp)⟩) hHeld ?_
    simp only [Act.put, List.setIfInBounds_toArray, List.set_cons_zero, List.set_cons_succ]
    refine wpAnyH_take (i := 8) (oi := { dst := some 54, op := Op.pick (Operand.tmp 50) (Operand.tmp 53) (Operand.const (Value.bool false)), type := 4, pos := "law.go:68", after := #[{ on := 4, ground := Ground.data }, { on := 7, ground := Ground.data }], guard := none }) (v := .bool true) rfl (by kernel_rfl) (by kernel_rfl) (by kernel_rfl) (fun _ _ _ h => h) (Or.inl ⟨by rfl, fun w' hw' => by (clear hw'; go_simp)⟩) hHeld ?_
    simp only [Act.put, List.setIfInBounds_toArray, List.set_cons_zero, List.set_cons_succ]
    refine wpAnyH_take (i := 9) (oi := { dst := some 55, op := Op.move (Operand.tmp 54), type := 4, pos := "law.go:68", after := #[{ on := 8, ground := Ground.data }, { on := 4, ground := Ground.chain }], guard := none }) (v := .bool true) rfl (by kernel_rfl) (by kernel_rfl) (by kernel_rfl) (fun _ _ _ h => h) (Or.inl ⟨by rfl, fun w' hw' => by (clear hw'; go_simp)⟩) hHeld ?_
    simp only [Act.put, List.setIfInBounds_toArray, List.set_cons_zero, List.set_cons_succ]
    refine wpAnyH_take (i := 10) (oi := { dst := some 56, op := Op.move (Operand.tmp 0), type := 22, pos := "law.go:68", after := #[{ on := 9, ground := Ground.guard }], guard := some (9, true) }) (v := .slice a1 n1 c1) rfl (by kernel_rfl) (by kernel_rfl) (by kernel_rfl) (fun _ _ _ h => h) (Or.inl ⟨by rfl, fun w' hw' => by (clear hw'; go_simp)⟩) hHeld ?_
    simp only [Act.put, List.setIfInBounds_toArray, List.set_cons_zero, List.set_cons_succ]
    refine wpAnyH_take (i := 12) (oi := { dst := some 58, op := Op.move (Operand.tmp 1), type := 22, pos := "law.go:68", after := #[{ on := 9, ground := Ground.guard }], guard := some (9, true) }) (v := .slice a2 n2 c2) rfl (by kernel_rfl) (by kernel_rfl) (by kernel_rfl) (fun _ _ _ h => h) (Or.inl ⟨by rfl, fun w' hw' => by (clear hw'; go_simp)⟩) hHeld ?_
    simp only [Act.put, List.setIfInBounds_toArray, List.set_cons_zero, List.set_cons_succ]
    refine wpAnyH_take (i := 16) (oi := { dst := some 62, op := Op.move (Operand.tmp 13), type := 22, pos := "law.go:68", after := #[{ on := 9, ground := Ground.guard }], guard := some (9, true) }) (v := vb) rfl (by kernel_rfl) (by kernel_rfl) (by kernel_rfl) (fun _ _ _ h => h) (Or.inl ⟨by rfl, fun w' hw' => by (clear hw'; go_simp)⟩) hHeld ?_
    simp only [Act.put, List.setIfInBounds_toArray, List.set_cons_zero, List.set_cons_succ]
    refine wpAnyH_ready (rs := [11]) (by kernel_rfl) (by simp) ?_
    refine AllReadyH.cons (o := { dst := some 57, op := Op.call { callee := Callee.value (Operand.func 8), args := #[Operand.tmp 56], argTypes := #[22] }, type := 30, pos := "law.go:68", after := #[{ on := 10, ground := Ground.data }, { on := 9, ground := Ground.chain }, { on := 9, ground := Ground.guard }], guard := some (9, true) }) rfl (fun K hK => ?_) AllReadyH.nil
    go_simp
    refine (own_any _ _ l _ (HE1.out _ HK1.out) (by rw [HN1.out]; omega)).mono ?_
    rintro e W11 ⟨r11, rfl, hm⟩
    have hk := hm.2.2
    have HK11 : Hid (Kp No U W11) := HK1.out.andNone hk
    have A_11 : Hid (EV (fun _ => True) W11 r11 l) := ev_of_row hm.1 HO1.out (fun _ _ => trivial)
    clear hm
    clear hk
    go_wp2_with fail
    refine hK.out _ _ (HK11.out) (fun hh => ?_)
    clear hK K hHeld
    have hHeld := hh
    clear hh
    try simp only [Act.put, List.setIfInBounds_toArray, List.set_cons_zero, List.set_cons_succ]
    refine wpAnyH_ready (rs := [13]) (by kernel_rfl) (by simp) ?_
    refine AllReadyH.cons (o := { dst := some 59, op := Op.call { callee := Callee.value (Operand.func 8), args := #[Operand.tmp 58], argTypes := #[22] }, type := 30, pos := "law.go:68", after := #[{ on := 12, ground := Ground.data }, { on := 11, ground := Ground.chain }, { on := 9, ground := Ground.guard }], guard := some (9, true) }) rfl (fun K hK => ?_) AllReadyH.nil
    go_simp
    refine (own_any _ _ m _ (HE2.out _ HK11.out) (by rw [HN2.out]; omega)).mono ?_
    rintro e W13 ⟨r13, rfl, hm⟩
    have hk := hm.2.2
    have HK13 : Hid (Kp No U W13) := HK11.out.andNone hk
    have A_13 := hid (A_11.out.kept hk)
    have B_13 : Hid (EV (fun _ => True) W13 r13 m) := ev_of_row hm.1 HO2.out (fun _ _ => trivial)
    clear hm
    clear hk
    go_wp2_with fail
    refine hK.out _ _ (HK13.out) (fun hh => ?_)
    clear hK K hHeld
    have hHeld := hh
    clear hh
    try simp only [Act.put, List.setIfInBounds_toArray, List.set_cons_zero, List.set_cons_succ]
    refine wpAnyH_ready (rs := [14]) (by kernel_rfl) (by simp) ?_
    refine AllReadyH.cons (o := { dst := some 60, op := Op.call { callee := Callee.value (Operand.func 22), args := #[Operand.tmp 57, Operand.tmp 59], argTypes := #[30, 30] }, type := 30, pos := "law.go:68", after := #[{ on := 11, ground := Ground.data }, { on := 13, ground := Ground.data }, { on := 13, ground := Ground.chain }, { on := 9, ground := Ground.guard }], guard := some (9, true) }) rfl (fun K hK => ?_) AllReadyH.nil
    go_simp
    refine (join_any _ _ _ l m _ _ (A_13.out) (B_13.out) (by rw [HN1.out, HN2.out]; omega)).mono ?_
    rintro e W14 ⟨r14, X, rfl, hst, hsr, hk, hev⟩
    have HK14 : Hid (Kp No U W14) := HK13.out.andNone hk
    have A_14 := hid (A_13.out.kept hk)
    have B_14 := hid (B_13.out.kept hk)
    have HST := hid hst
    have HSR := hid hsr
    have J_14 := hid hev
    clear hst hsr hev
    clear hk
    go_wp2_with fail
    refine hK.out _ _ (HK14.out) (fun hh => ?_)
    clear hK K hHeld
    have hHeld := hh
    clear hh
    try simp only [Act.put, List.setIfInBounds_toArray, List.set_cons_zero, List.set_cons_succ]
    refine wpAnyH_ready (rs := [15]) (by kernel_rfl) (by simp) ?_
    refine AllReadyH.cons (o := { dst := some 61, op := Op.call { callee := Callee.value (Operand.func 15), args := #[Operand.tmp 60], argTypes := #[30] }, type := 22, pos := "law.go:68", after := #[{ on := 14, ground := Ground.data }, { on := 14, ground := Ground.chain }, { on := 9, ground := Ground.guard }], guard := some (9, true) }) rfl (fun K hK => ?_) AllReadyH.nil
    go_simp
    have HCX : Hid ((cmpct X).length ≤ 1000000) := by
      have q1 := cmpct_length X
      have q2 := HST.out.length
      rw [List.length_append, HN1.out, HN2.out] at q2
      rw [Hid]
      omega
    have HCO : Hid (∀ e ∈ cmpct X, EOk e) := J_14.out.ok
    refine (back_any _ _ (cmpct X) _ (J_14.out) HCX.out).mono ?_
    rintro e W15 ⟨r15, rfl, hm⟩
    have hk := hm.2.2
    have HK15 : Hid (Kp No U W15) := HK14.out.andNone hk
    have J_15 := hid (J_14.out.kept hk)
    have K_15 : Hid (EV (fun _ => True) W15 r15 (cmpct X)) := ev_of_rowT hm.1 HCO.out (fun _ _ => trivial)
    clear hm
    clear hk
    go_wp2_with fail
    refine hK.out _ _ (HK15.out) (fun hh => ?_)
    clear hK K hHeld
    have hHeld := hh
    clear hh
    try simp only [Act.put, List.setIfInBounds_toArray, List.set_cons_zero, List.set_cons_succ]
    refine wpAnyH_ready (rs := [17]) (by kernel_rfl) (by simp) ?_
    refine AllReadyH.cons (o := { dst := some 63, op := Op.call { callee := Callee.value (Operand.func 17), args := #[Operand.tmp 62], argTypes := #[22] }, type := 22, pos := "law.go:68", after := #[{ on := 16, ground := Ground.data }, { on := 15, ground := Ground.chain }, { on := 9, ground := Ground.guard }], guard := some (9, true) }) rfl (fun K hK => ?_) AllReadyH.nil
    go_simp
    refine (rsort_any _ _ (l ++ m) _ (HEA.out _ HK15.out) (by rw [List.length_append, HN1.out, HN2.out]; omega)).mono ?_
    rintro e W17 ⟨r17, out, rfl, hso, hlo, hm⟩
    have hk := hm.2.2
    have HK17 : Hid (Kp No U W17) := HK15.out.andNone hk
    have K_17 := hid (K_15.out.kept hk)
    have HEQ : Hid (cmpct X = out) := hso.eq HST.out HSR.out
    have S_17 : Hid (EV (fun _ => True) W17 r17 (cmpct X)) := by rw [HEQ.out]; exact ev_of_rowT hm.1 (by rw [← HEQ.out]; exact HCO.out) (fun _ _ => trivial)
    clear hso hlo hm
    clear hk
    go_wp2_with fail
    refine hK.out _ _ (HK17.out) (fun hh => ?_)
    clear hK K hHeld
    have hHeld := hh
    clear hh
    try simp only [Act.put, List.setIfInBounds_toArray, List.set_cons_zero, List.set_cons_succ]
    refine wpAnyH_ready (rs := [18]) (by kernel_rfl) (by simp) ?_
    refine AllReadyH.cons (o := { dst := some 64, op := Op.call { callee := Callee.value (Operand.func 14), args := #[Operand.tmp 61, Operand.tmp 63], argTypes := #[22, 22] }, type := 4, pos := "law.go:68", after := #[{ on := 15, ground := Ground.data }, { on := 17, ground := Ground.data }, { on := 17, ground := Ground.chain }, { on := 9, ground := Ground.guard }], guard := some (9, true) }) rfl (fun K hK => ?_) AllReadyH.nil
    go_simp
    refine (same_any _ _ _ (cmpct X) (cmpct X) _ _ (K_17.out) (S_17.out) HCX.out).mono ?_
    rintro e W18 ⟨he, hk⟩
    have HK18 : Hid (Kp No U W18) := HK17.out.andNone hk
    have K_18 := hid (K_17.out.kept hk)
    have S_18 := hid (S_17.out.kept hk)
    have hd : decide (cmpct X = cmpct X) = true := by simp
    rw [hd] at he
    clear hd
    subst he
    clear hk
    go_wp2_with fail
    refine hK.out _ _ (HK18.out) (fun hh => ?_)
    clear hK K hHeld
    have hHeld := hh
    clear hh
    try simp only [Act.put, List.setIfInBounds_toArray, List.set_cons_zero, List.set_cons_succ]
    refine wpAnyH_take (i := 19) (oi := { dst := some 65, op := Op.pick (Operand.tmp 55) (Operand.tmp 64) (Operand.const (Value.bool false)), type := 4, pos := "law.go:68", after := #[{ on := 9, ground := Ground.data }, { on := 18, ground := Ground.data }], guard := none }) (v := .bool true) rfl (by kernel_rfl) (by kernel_rfl) (by kernel_rfl) (fun _ _ _ h => h) (Or.inl ⟨by rfl, fun w' hw' => by (clear hw'; go_simp)⟩) hHeld ?_
    simp only [Act.put, List.setIfInBounds_toArray, List.set_cons_zero, List.set_cons_succ]
    refine wpAnyH_take (i := 20) (oi := { dst := some 66, op := Op.move (Operand.tmp 65), type := 4, pos := "law.go:68", after := #[{ on := 19, ground := Ground.data }, { on := 18, ground := Ground.chain }], guard := none }) (v := .bool true) rfl (by kernel_rfl) (by kernel_rfl) (by kernel_rfl) (fun _ _ _ h => h) (Or.inl ⟨by rfl, fun w' hw' => by (clear hw'; go_simp)⟩) hHeld ?_
    simp only [Act.put, List.setIfInBounds_toArray, List.set_cons_zero, List.set_cons_succ]
    refine wpAnyH_take (i := 21) (oi := { dst := some 67, op := Op.move (Operand.tmp 0), type := 22, pos := "law.go:68", after := #[{ on := 20, ground := Ground.guard }], guard := some (20, true) }) (v := .slice a1 n1 c1) rfl (by kernel_rfl) (by kernel_rfl) (by kernel_rfl) (fun _ _ _ h => h) (Or.inl ⟨by rfl, fun w' hw' => by (clear hw'; go_simp)⟩) hHeld ?_
    simp only [Act.put, List.setIfInBounds_toArray, List.set_cons_zero, List.set_cons_succ]
    refine wpAnyH_take (i := 23) (oi := { dst := some 69, op := Op.move (Operand.tmp 3), type := 47, pos := "law.go:68", after := #[{ on := 20, ground := Ground.guard }], guard := some (20, true) }) (v := .slice a3 n3 c3) rfl (by kernel_rfl) (by kernel_rfl) (by kernel_rfl) (fun _ _ _ h => h) (Or.inl ⟨by rfl, fun w' hw' => by (clear hw'; go_simp)⟩) hHeld ?_
    simp only [Act.put, List.setIfInBounds_toArray, List.set_cons_zero, List.set_cons_succ]
    refine wpAnyH_take (i := 26) (oi := { dst := some 72, op := Op.move (Operand.tmp 0), type := 22, pos := "law.go:68", after := #[{ on := 20, ground := Ground.guard }], guard := some (20, true) }) (v := .slice a1 n1 c1) rfl (by kernel_rfl) (by kernel_rfl) (by kernel_rfl) (fun _ _ _ h => h) (Or.inl ⟨by rfl, fun w' hw' => by (clear hw'; go_simp)⟩) hHeld ?_
    simp only [Act.put, List.setIfInBounds_toArray, List.set_cons_zero, List.set_cons_succ]
    refine wpAnyH_take (i := 27) (oi := { dst := some 73, op := Op.move (Operand.tmp 3), type := 47, pos := "law.go:68", after := #[{ on := 20, ground := Ground.guard }], guard := some (20, true) }) (v := .slice a3 n3 c3) rfl (by kernel_rfl) (by kernel_rfl) (by kernel_rfl) (fun _ _ _ h => h) (Or.inl ⟨by rfl, fun w' hw' => by (clear hw'; go_simp)⟩) hHeld ?_
    simp only [Act.put, List.setIfInBounds_toArray, List.set_cons_zero, List.set_cons_succ]
    refine wpAnyH_ready (rs := [22]) (by kernel_rfl) (by simp) ?_
    refine AllReadyH.cons (o := { dst := some 68, op := Op.call { callee := Callee.value (Operand.func 8), args := #[Operand.tmp 67], argTypes := #[22] }, type := 30, pos := "law.go:68", after := #[{ on := 21, ground := Ground.data }, { on := 20, ground := Ground.chain }, { on := 20, ground := Ground.guard }], guard := some (20, true) }) rfl (fun K hK => ?_) AllReadyH.nil
    go_simp
    refine (own_any _ _ l _ (HE1.out _ HK18.out) (by rw [HN1.out]; omega)).mono ?_
    rintro e W22 ⟨r22, rfl, hm⟩
    have hk := hm.2.2
    have HK22 : Hid (Kp No U W22) := HK18.out.andNone hk
    have A_22 : Hid (EV (fun _ => True) W22 r22 l) := ev_of_row hm.1 HO1.out (fun _ _ => trivial)
    clear hm
    clear hk
    go_wp2_with fail
    refine hK.out _ _ (HK22.out) (fun hh => ?_)
    clear hK K hHeld
    have hHeld := hh
    clear hh
    try simp only [Act.put, List.setIfInBounds_toArray, List.set_cons_zero, List.set_cons_succ]
    refine wpAnyH_ready (rs := [24]) (by kernel_rfl) (by simp) ?_
    refine AllReadyH.cons (o := { dst := some 70, op := Op.call { callee := Callee.value (Operand.func 23), args := #[Operand.tmp 68, Operand.tmp 69], argTypes := #[30, 47] }, type := 30, pos := "law.go:68", after := #[{ on := 22, ground := Ground.data }, { on := 23, ground := Ground.data }, { on := 22, ground := Ground.chain }, { on := 20, ground := Ground.guard }], guard := some (20, true) }) rfl (fun K hK => ?_) AllReadyH.nil
    go_simp
    have HWO : Hid (∀ e ∈ wout l zs, EOk e) := wout_ok HO1.out
    have HWN : Hid ((wout l zs).length ≤ 1000000) := by
      have q1 : (wout l zs).length ≤ l.length := List.length_filter_le _ _
      rw [HN1.out] at q1
      rw [Hid]
      omega
    refine (wout_any _ _ _ l zs _ _ (A_22.out) (HZ3.out _ HK22.out) (by rw [HN1.out]; omega) (by rw [HN3.out]; omega) HWZ.out HWL.out).mono ?_
    rintro e W24 ⟨r24, rfl, hm⟩
    have hk := hm.2.2
    have HK24 : Hid (Kp No U W24) := HK22.out.andNone hk
    have A_24 := hid (A_22.out.kept hk)
    have Q_24 : Hid (EV (fun _ => True) W24 r24 (wout l zs)) := ev_of_row hm.1 HWO.out (fun _ _ => trivial)
    clear hm
    clear hk
    go_wp2_with fail
    refine hK.out _ _ (HK24.out) (fun hh => ?_)
    clear hK K hHeld
    have hHeld := hh
    clear hh
    try simp only [Act.put, List.setIfInBounds_toArray, List.set_cons_zero, List.set_cons_succ]
    refine wpAnyH_ready (rs := [25]) (by kernel_rfl) (by simp) ?_
    refine AllReadyH.cons (o := { dst := some 71, op := Op.call { callee := Callee.value (Operand.func 15), args := #[Operand.tmp 70], argTypes := #[30] }, type := 22, pos := "law.go:68", after := #[{ on := 24, ground := Ground.data }, { on := 24, ground := Ground.chain }, { on := 20, ground := Ground.guard }], guard := some (20, true) }) rfl (fun K hK => ?_) AllReadyH.nil
    go_simp
    refine (back_any _ _ (wout l zs) _ (Q_24.out) HWN.out).mono ?_
    rintro e W25 ⟨r25, rfl, hm⟩
    have hk := hm.2.2
    have HK25 : Hid (Kp No U W25) := HK24.out.andNone hk
    have Q_25 := hid (Q_24.out.kept hk)
    have K_25 : Hid (EV (fun _ => True) W25 r25 (wout l zs)) := ev_of_rowT hm.1 HWO.out (fun _ _ => trivial)
    clear hm
    clear hk
    go_wp2_with fail
    refine hK.out _ _ (HK25.out) (fun hh => ?_)
    clear hK K hHeld
    have hHeld := hh
    clear hh
    try simp only [Act.put, List.setIfInBounds_toArray, List.set_cons_zero, List.set_cons_succ]
    refine wpAnyH_ready (rs := [28]) (by kernel_rfl) (by simp) ?_
    refine AllReadyH.cons (o := { dst := some 74, op := Op.call { callee := Callee.value (Operand.func 24), args := #[Operand.tmp 72, Operand.tmp 73], argTypes := #[22, 47] }, type := 22, pos := "law.go:68", after := #[{ on := 26, ground := Ground.data }, { on := 27, ground := Ground.data }, { on := 25, ground := Ground.chain }, { on := 20, ground := Ground.guard }], guard := some (20, true) }) rfl (fun K hK => ?_) AllReadyH.nil
    go_simp
    refine (rwout_any _ _ _ l zs _ _ (HE1.out _ HK25.out) (HZ3.out _ HK25.out) (by rw [HN1.out]; omega) (by rw [HN3.out]; omega)).mono ?_
    rintro e W28 ⟨r28, rfl, hm⟩
    have hk := hm.2.2
    have HK28 : Hid (Kp No U W28) := HK25.out.andNone hk
    have K_28 := hid (K_25.out.kept hk)
    have S_28 : Hid (EV (fun _ => True) W28 r28 (wout l zs)) := ev_of_rowT hm.1 HWO.out (fun _ _ => trivial)
    clear hm
    clear hk
    go_wp2_with fail
    refine hK.out _ _ (HK28.out) (fun hh => ?_)
    clear hK K hHeld
    have hHeld := hh
    clear hh
    try simp only [Act.put, List.setIfInBounds_toArray, List.set_cons_zero, List.set_cons_succ]
    refine wpAnyH_ready (rs := [29]) (by kernel_rfl) (by simp) ?_
    refine AllReadyH.cons (o := { dst := some 75, op := Op.call { callee := Callee.value (Operand.func 14), args := #[Operand.tmp 71, Operand.tmp 74], argTypes := #[22, 22] }, type := 4, pos := "law.go:68", after := #[{ on := 25, ground := Ground.data }, { on := 28, ground := Ground.data }, { on := 28, ground := Ground.chain }, { on := 20, ground := Ground.guard }], guard := some (20, true) }) rfl (fun K hK => ?_) AllReadyH.nil
    go_simp
    refine (same_any _ _ _ (wout l zs) (wout l zs) _ _ (K_28.out) (S_28.out) HWN.out).mono ?_
    rintro e W29 ⟨he, hk⟩
    have HK29 : Hid (Kp No U W29) := HK28.out.andNone hk
    have K_29 := hid (K_28.out.kept hk)
    have S_29 := hid (S_28.out.kept hk)
    have hd : decide (wout l zs = wout l zs) = true := by simp
    rw [hd] at he
    clear hd
    subst he
    clear hk
    go_wp2_with fail
    refine hK.out _ _ (HK29.out) (fun hh => ?_)
    clear hK K hHeld
    have hHeld := hh
    clear hh
    try simp only [Act.put, List.setIfInBounds_toArray, List.set_cons_zero, List.set_cons_succ]
    refine wpAnyH_take (i := 30) (oi := { dst := some 76, op := Op.pick (Operand.tmp 66) (Operand.tmp 75) (Operand.const (Value.bool false)), type := 4, pos := "law.go:68", after := #[{ on := 20, ground := Ground.data }, { on := 29, ground := Ground.data }], guard := none }) (v := .bool true) rfl (by kernel_rfl) (by kernel_rfl) (by kernel_rfl) (fun _ _ _ h => h) (Or.inl ⟨by rfl, fun w' hw' => by (clear hw'; go_simp)⟩) hHeld ?_
    simp only [Act.put, List.setIfInBounds_toArray, List.set_cons_zero, List.set_cons_succ]
    refine wpAnyH_take (i := 31) (oi := { dst := some 77, op := Op.move (Operand.tmp 76), type := 4, pos := "law.go:68", after := #[{ on := 30, ground := Ground.data }, { on := 29, ground := Ground.chain }], guard := none }) (v := .bool true) rfl (by kernel_rfl) (by kernel_rfl) (by kernel_rfl) (fun _ _ _ h => h) (Or.inl ⟨by rfl, fun w' hw' => by (clear hw'; go_simp)⟩) hHeld ?_
    simp only [Act.put, List.setIfInBounds_toArray, List.set_cons_zero, List.set_cons_succ]
    refine wpAnyH_take (i := 32) (oi := { dst := some 78, op := Op.move (Operand.tmp 0), type := 22, pos := "law.go:68", after := #[{ on := 31, ground := Ground.guard }], guard := some (31, true) }) (v := .slice a1 n1 c1) rfl (by kernel_rfl) (by kernel_rfl) (by kernel_rfl) (fun _ _ _ h => h) (Or.inl ⟨by rfl, fun w' hw' => by (clear hw'; go_simp)⟩) hHeld ?_
    simp only [Act.put, List.setIfInBounds_toArray, List.set_cons_zero, List.set_cons_succ]
    refine wpAnyH_take (i := 35) (oi := { dst := some 81, op := Op.move (Operand.tmp 0), type := 22, pos := "law.go:68", after := #[{ on := 31, ground := Ground.guard }], guard := some (31, true) }) (v := .slice a1 n1 c1) rfl (by kernel_rfl) (by kernel_rfl) (by kernel_rfl) (fun _ _ _ h => h) (Or.inl ⟨by rfl, fun w' hw' => by (clear hw'; go_simp)⟩) hHeld ?_
    simp only [Act.put, List.setIfInBounds_toArray, List.set_cons_zero, List.set_cons_succ]
    refine wpAnyH_ready (rs := [33]) (by kernel_rfl) (by simp) ?_
    refine AllReadyH.cons (o := { dst := some 79, op := Op.call { callee := Callee.value (Operand.func 8), args := #[Operand.tmp 78], argTypes := #[22] }, type := 30, pos := "law.go:68", after := #[{ on := 32, ground := Ground.data }, { on := 31, ground := Ground.chain }, { on := 31, ground := Ground.guard }], guard := some (31, true) }) rfl (fun K hK => ?_) AllReadyH.nil
    go_simp
    refine (own_any _ _ l _ (HE1.out _ HK29.out) (by rw [HN1.out]; omega)).mono ?_
    rintro e W33 ⟨r33, rfl, hm⟩
    have hk := hm.2.2
    have HK33 : Hid (Kp No U W33) := HK29.out.andNone hk
    have A_33 : Hid (EV (fun _ => True) W33 r33 l) := ev_of_row hm.1 HO1.out (fun _ _ => trivial)
    clear hm
    clear hk
    go_wp2_with fail
    refine hK.out _ _ (HK33.out) (fun hh => ?_)
    clear hK K hHeld
    have hHeld := hh
    clear hh
    try simp only [Act.put, List.setIfInBounds_toArray, List.set_cons_zero, List.set_cons_succ]
    refine wpAnyH_ready (rs := [34]) (by kernel_rfl) (by simp) ?_
    refine AllReadyH.cons (o := { dst := some 80, op := Op.call { callee := Callee.value (Operand.func 26), args := #[Operand.tmp 79], argTypes := #[30] }, type := 47, pos := "law.go:68", after := #[{ on := 33, ground := Ground.data }, { on := 33, ground := Ground.chain }, { on := 31, ground := Ground.guard }], guard := some (31, true) }) rfl (fun K hK => ?_) AllReadyH.nil
    go_simp
    refine (packs_any _ _ l _ (A_33.out) (by rw [HN1.out]; omega) HWL.out).mono ?_
    rintro e W34 ⟨r34, ps, rfl, hpk, hpl, hm⟩
    have hk := hm.2.2
    have HK34 : Hid (Kp No U W34) := HK33.out.andNone hk
    have A_34 := hid (A_33.out.kept hk)
    have HPK := hid hpk
    have HPL := hid hpl
    have K_34 : Hid (IV (fun _ => True) W34 r34 ps) := hm.iv.to
    clear hm hpk hpl
    clear hk
    go_wp2_with fail
    refine hK.out _ _ (HK34.out) (fun hh => ?_)
    clear hK K hHeld
    have hHeld := hh
    clear hh
    try simp only [Act.put, List.setIfInBounds_toArray, List.set_cons_zero, List.set_cons_succ]
    refine wpAnyH_ready (rs := [36]) (by kernel_rfl) (by simp) ?_
    refine AllReadyH.cons (o := { dst := some 82, op := Op.call { callee := Callee.value (Operand.func 27), args := #[Operand.tmp 81], argTypes := #[22] }, type := 47, pos := "law.go:68", after := #[{ on := 35, ground := Ground.data }, { on := 34, ground := Ground.chain }, { on := 31, ground := Ground.guard }], guard := some (31, true) }) rfl (fun K hK => ?_) AllReadyH.nil
    go_simp
    refine (rpacks_any _ _ l _ (HE1.out _ HK34.out) (by rw [HN1.out]; omega)).mono ?_
    rintro e W36 ⟨r36, ps2, rfl, hpk, hpl, hm⟩
    have hk := hm.2.2
    have HK36 : Hid (Kp No U W36) := HK34.out.andNone hk
    have K_36 := hid (K_34.out.kept hk)
    have HEP : Hid (ps2 = ps) := hpk.eq HPK.out
    have S_36 : Hid (IV (fun _ => True) W36 r36 ps) := by rw [← HEP.out]; exact hm.iv.to
    clear hm hpk hpl
    clear hk
    go_wp2_with fail
    refine hK.out _ _ (HK36.out) (fun hh => ?_)
    clear hK K hHeld
    have hHeld := hh
    clear hh
    try simp only [Act.put, List.setIfInBounds_toArray, List.set_cons_zero, List.set_cons_succ]
    refine wpAnyH_ready (rs := [37]) (by kernel_rfl) (by simp) ?_
    refine AllReadyH.cons (o := { dst := some 83, op := Op.call { callee := Callee.value (Operand.func 25), args := #[Operand.tmp 80, Operand.tmp 82], argTypes := #[47, 47] }, type := 4, pos := "law.go:68", after := #[{ on := 34, ground := Ground.data }, { on := 36, ground := Ground.data }, { on := 36, ground := Ground.chain }, { on := 31, ground := Ground.guard }], guard := some (31, true) }) rfl (fun K hK => ?_) AllReadyH.nil
    go_simp
    refine (nums_any _ _ _ ps ps _ _ (K_36.out) (S_36.out) (by have := HPL.out; rw [HN1.out] at this; omega)).mono ?_
    rintro e W37 ⟨he, hk⟩
    have HK37 : Hid (Kp No U W37) := HK36.out.andNone hk
    have K_37 := hid (K_36.out.kept hk)
    have S_37 := hid (S_36.out.kept hk)
    have hd : decide (ps = ps) = true := by simp
    rw [hd] at he
    clear hd
    subst he
    clear hk
    go_wp2_with fail
    refine hK.out _ _ (HK37.out) (fun hh => ?_)
    clear hK K hHeld
    have hHeld := hh
    clear hh
    try simp only [Act.put, List.setIfInBounds_toArray, List.set_cons_zero, List.set_cons_succ]
    refine wpAnyH_take (i := 38) (oi := { dst := some 84, op := Op.pick (Operand.tmp 77) (Operand.tmp 83) (Operand.const (Value.bool false)), type := 4, pos := "law.go:68", after := #[{ on := 31, ground := Ground.data }, { on := 37, ground := Ground.data }], guard := none }) (v := .bool true) rfl (by kernel_rfl) (by kernel_rfl) (by kernel_rfl) (fun _ _ _ h => h) (Or.inl ⟨by rfl, fun w' hw' => by (clear hw'; go_simp)⟩) hHeld ?_
    simp only [Act.put, List.setIfInBounds_toArray, List.set_cons_zero, List.set_cons_succ]
    refine wpAnyH_take (i := 39) (oi := { dst := some 85, op := Op.move (Operand.tmp 84), type := 4, pos := "law.go:68", after := #[{ on := 38, ground := Ground.data }, { on := 37, ground := Ground.chain }], guard := none }) (v := .bool true) rfl (by kernel_rfl) (by kernel_rfl) (by kernel_rfl) (fun _ _ _ h => h) (Or.inl ⟨by rfl, fun w' hw' => by (clear hw'; go_simp)⟩) hHeld ?_
    simp only [Act.put, List.setIfInBounds_toArray, List.set_cons_zero, List.set_cons_succ]
    refine wpAnyH_ready (rs := [40]) (by kernel_rfl) (by simp) ?_
    refine AllReadyH.cons (o := { dst := some 86, op := Op.call { callee := Callee.value (Operand.func 5), args := #[], argTypes := #[] }, type := 4, pos := "law.go:68", after := #[{ on := 39, ground := Ground.chain }, { on := 39, ground := Ground.guard }], guard := some (39, true) }) rfl (fun K hK => ?_) AllReadyH.nil
    go_simp
    refine (alive_any _).mono ?_
    rintro e W40 ⟨rfl, hk⟩
    have HK40 : Hid (Kp No U W40) := HK37.out.andNone hk
    clear hk
    go_wp2_with fail
    refine hK.out _ _ (HK40.out) (fun hh => ?_)
    clear hK K hHeld
    have hHeld := hh
    clear hh
    try simp only [Act.put, List.setIfInBounds_toArray, List.set_cons_zero, List.set_cons_succ]
    refine wpAnyH_take (i := 41) (oi := { dst := some 87, op := Op.pick (Operand.tmp 85) (Operand.tmp 86) (Operand.const (Value.bool false)), type := 4, pos := "law.go:68", after := #[{ on := 39, ground := Ground.data }, { on := 40, ground := Ground.data }], guard := none }) (v := .bool true) rfl (by kernel_rfl) (by kernel_rfl) (by kernel_rfl) (fun _ _ _ h => h) (Or.inl ⟨by rfl, fun w' hw' => by (clear hw'; go_simp)⟩) hHeld ?_
    simp only [Act.put, List.setIfInBounds_toArray, List.set_cons_zero, List.set_cons_succ]
    refine wpAnyH_take (i := 42) (oi := { dst := some 8, op := Op.assign (Operand.tmp 87), type := 4, pos := "law.go:68", after := #[{ on := 41, ground := Ground.data }, { on := 40, ground := Ground.chain }, { on := 0, ground := Ground.phase }, { on := 1, ground := Ground.phase }, { on := 2, ground := Ground.phase }, { on := 3, ground := Ground.phase }, { on := 4, ground := Ground.phase }, { on := 5, ground := Ground.phase }, { on := 6, ground := Ground.phase }, { on := 7, ground := Ground.phase }, { on := 8, ground := Ground.phase }, { on := 9, ground := Ground.phase }, { on := 10, ground := Ground.phase }, { on := 11, ground := Ground.phase }, { on := 12, ground := Ground.phase }, { on := 13, ground := Ground.phase }, { on := 14, ground := Ground.phase }, { on := 15, ground := Ground.phase }, { on := 16, ground := Ground.phase }, { on := 17, ground := Ground.phase }, { on := 18, ground := Ground.phase }, { on := 19, ground := Ground.phase }, { on := 20, ground := Ground.phase }, { on := 21, ground := Ground.phase }, { on := 22, ground := Ground.phase }, { on := 23, ground := Ground.phase }, { on := 24, ground := Ground.phase }, { on := 25, ground := Ground.phase }, { on := 26, ground := Ground.phase }, { on := 27, ground := Ground.phase }, { on := 28, ground := Ground.phase }, { on := 29, ground := Ground.phase }, { on := 30, ground := Ground.phase }, { on := 31, ground := Ground.phase }, { on := 32, ground := Ground.phase }, { on := 33, ground := Ground.phase }, { on := 34, ground := Ground.phase }, { on := 35, ground := Ground.phase }, { on := 36, ground := Ground.phase }, { on := 37, ground := Ground.phase }, { on := 38, ground := Ground.phase }, { on := 39, ground := Ground.phase }, { on := 40, ground := Ground.phase }, { on := 41, ground := Ground.phase }], guard := none }) (v := .bool true) rfl (by kernel_rfl) (by kernel_rfl) (by kernel_rfl) (fun _ _ _ h => h) (Or.inl ⟨by rfl, fun w' hw' => by (clear hw'; go_simp)⟩) hHeld ?_
    simp only [Act.put, List.setIfInBounds_toArray, List.set_cons_zero, List.set_cons_succ]
    refine wpAnyH_done (by kernel_rfl) ?_ _
    clear hHeld
    go_wp2_with fail
    go_ret
    exact ⟨rfl, HKU.out.andNone HK40.out⟩

end Go.Proofs.YtampnikdmgojjaaGreat.Sg
end

section
/-
  Records that came in, opened.
-/
namespace Go.Proofs.YtampnikdmgojjaaGreat
open Go.RowKit Go.ChangeShapes Go.WideShapes

theorem mapM_each {α β : Type} {f : α → Option β} : ∀ (L : List α) (ys : List β), L.mapM f = some ys → ∀ i ∈ L, ∃ y, f i = some y
  | [], _, _, i, hi => by simp at hi
  | a :: L, ys, h, i, hi => by
    rw [List.mapM_cons] at h
    simp only [bind, Option.bind_eq_some_iff, pure, Option.some.injEq] at h
    obtain ⟨y, hy, zs, hzs, _⟩ := h
    rcases List.mem_cons.1 hi with rfl | hi
    · exact ⟨y, hy⟩
    · exact mapM_each L zs hzs i hi

section
variable {H : Type} {enc : TypeId × Value → H} {P : Program} {W : World} {base : Nat} {sp : Nat → Bool} {held : Bool} {t e : TypeId} {n : Nat} {q : IntKind}
/-- The cells of an array of integers that came in. -/
theorem arr_ints (hu : P.underlying t = some (.array n e)) (he : P.underlying e = some (.int q)) (h1 : P.cellsOf e = 1) {fuel : Nat} {cs : List Value} {x : DataW H × List MemPlace} (hl : cs.length = n)
    (h : DataW.trod enc P W base sp held fuel t cs = some x) : ∃ zs : List Int, cs = zs.map (fun z => Value.int q z) ∧ zs.length = n ∧ ∀ z ∈ zs, (Lit.int q z).wf = true := by
  cases fuel with
  | zero => simp [DataW.trod] at h
  | succ m =>
    rw [DataW.trod_step] at h
    unfold DataW.trodStep at h
    simp only [hu] at h
    split at h
    · simp only [Option.map_eq_some_iff] at h
      obtain ⟨ys, hy, _⟩ := h
      have hE : ∀ i, i < n → ∃ z, cs[i]? = some (.int q z) ∧ (Lit.int q z).wf = true := fun i hi => by
        obtain ⟨y, hy⟩ := mapM_each _ ys hy i (List.mem_range.2 hi)
        obtain ⟨a, ea, _, wa⟩ := DataW.trod_int he hy
        rw [h1, Nat.mul_one] at ea
        refine ⟨a, ?_, wa⟩
        have h := congrArg (fun l : List Value => l[0]?) ea
        simpa [List.getElem?_take, List.getElem?_drop] using h
      refine ⟨cs.map intOf, ?_, by simpa using hl, ?_⟩
      · apply List.ext_getElem?
        intro i
        by_cases hi : i < n
        · obtain ⟨z, hz, _⟩ := hE i hi
          simp [hz, intOf]
        · have : cs[i]? = none := List.getElem?_eq_none (by omega)
          simp [this]
      · intro z hz
        obtain ⟨x, hx, rfl⟩ := List.mem_map.1 hz
        obtain ⟨i, hi, rfl⟩ := List.getElem_of_mem hx
        obtain ⟨z, hz, hw⟩ := hE i (by omega)
        rw [List.getElem?_eq_getElem hi] at hz
        simp only [Option.some.injEq] at hz
        rw [hz]
        exact hw
    · simp at h
end

/-- A slice of bytes, as it came in. -/
def InRow (W : World) (a : Option Addr) (l c : Nat) : Prop :=
  (a = none ∧ l = 0 ∧ c = 0) ∨ ∃ (y : Addr) (zs : List Int), a = some y ∧ l ≤ c ∧ c ≤ maxLen ∧ zs.length = c ∧ (∀ i, i < zs.length → W.cell? (y.add i) = some (.int .u8 (zs.getD i 0))) ∧ ∀ n ∈ zs, (Lit.int .u8 n).wf = true

theorem InRow.le {W : World} {a : Option Addr} {l c : Nat} (h : InRow W a l c) : l ≤ 9223372036854775807 := by
  rcases h with ⟨_, rfl, _⟩ | ⟨_, _, _, h1, h2, _⟩
  · omega
  · unfold maxLen at h2; omega

theorem spot_none {w : World} {x : Addr} {v : Value} (c0 : w.cell? (x.add 0) = some v) : x.spot = none := by
  have e : x.add 0 = x := rfl
  rw [e] at c0
  unfold World.cell? at c0
  split at c0
  · split at c0
    · cases c0
    · rename_i hs; simpa using hs
  · cases c0

theorem addr_plus (g o i : Nat) : (⟨g, o, none⟩ : Addr).add i = ⟨g, o + i, none⟩ := by unfold Addr.add; split <;> simp_all

theorem u8_wf {y : Int} (h : (Lit.int .u8 y).wf = true) : 0 ≤ y ∧ y ≤ 255 := by
  have hmin : IntKind.u8.min = 0 := rfl
  have hmax : IntKind.u8.max = 255 := rfl
  simp only [Lit.wf, Bool.and_eq_true, decide_eq_true_eq] at h
  omega

theorem i64_wf {y : Int} (h : (Lit.int .i64 y).wf = true) : -9223372036854775808 ≤ y ∧ y ≤ 9223372036854775807 := by
  have hmin : IntKind.i64.min = -9223372036854775808 := rfl
  have hmax : IntKind.i64.max = 9223372036854775807 := rfl
  simp only [Lit.wf, Bool.and_eq_true, decide_eq_true_eq] at h
  omega
theorem u32_wf {y : Int} (h : (Lit.int .u32 y).wf = true) : 0 ≤ y ∧ y ≤ 4294967295 := by
  have hmin : IntKind.u32.min = 0 := rfl
  have hmax : IntKind.u32.max = 4294967295 := rfl
  simp only [Lit.wf, Bool.and_eq_true, decide_eq_true_eq] at h
  omega

theorem InRow.bytes {w : World} {a : Option Addr} {len cap : Nat} (h : InRow w a len cap) (hl : len ≤ 140737488355328) : ∃ bs : List Int, bs.length = len ∧ Tlv.BySl 0 w.heap.size w (.slice a len cap) bs := by
  rcases h with ⟨rfl, rfl, rfl⟩ | ⟨x, zs, rfl, h1, h2, h3, h4, h5⟩
  · exact ⟨[], rfl, Tlv.BySl.none _ _ _⟩
  · have hlen : (zs.take len).length = len := List.length_take_of_le (by omega)
    refine ⟨zs.take len, hlen, _, cap, by rw [hlen], by rw [hlen]; exact h1, h2, by simp, by rw [hlen]; omega, fun y hy => u8_wf (h5 y (List.mem_of_mem_take hy)), fun hne => ?_⟩
    have hpos : 0 < len := by have := List.length_pos_iff.2 hne; omega
    have c0 := h4 0 (by omega)
    have hx := spot_none c0
    obtain ⟨b, o, s⟩ := x
    simp only at hx
    subst hx
    refine ⟨b, o, rfl, Nat.zero_le _, World.block_lt_of_cell? w _ c0, fun i hi => ?_⟩
    have := h4 i (by omega)
    rw [addr_plus] at this
    rw [this]
    rw [hlen] at hi
    simp [hi]



end Go.Proofs.YtampnikdmgojjaaGreat
end

section
/-
  A list of the document's entries that came in, opened.
-/
namespace Go.Proofs.YtampnikdmgojjaaGreat.Sg
open Go.RowKit Go.ChangeShapes Go.WideShapes

theorem mapM_get {α β : Type} {f : α → Option β} : ∀ (L : List α) (ys : List β), L.mapM f = some ys → ∀ i : Nat, ys[i]? = (L[i]?).bind f
  | [], ys, h, i => by
    simp only [List.mapM_nil, pure, Option.some.injEq] at h
    subst h
    simp
  | a :: L, ys, h, i => by
    rw [List.mapM_cons] at h
    simp only [bind, Option.bind_eq_some_iff, pure, Option.some.injEq] at h
    obtain ⟨y, hy, zs, hzs, rfl⟩ := h
    cases i with
    | zero => simp [hy]
    | succ i => simpa using mapM_get L zs hzs i

theorem cells_get {w : World} {base n : Nat} {a : Addr} {cs : List Value} (h : w.cells? base a n = some cs) (i : Nat) (hi : i < n) : w.cell? (a.add i) = cs[i]? := by
  unfold World.cells? at h
  split at h
  · have := mapM_get _ _ h i
    rw [List.getElem?_range hi] at this
    exact this.symm
  · cases h

theorem trod_struct2 {H : Type} {enc : TypeId × Value → H} {P : Program} {w : World} {base : Nat} {spare : Nat → Bool} {held : Bool} {t : TypeId} {f0 f1 : Field} {fuel : Nat} {cs : List Value} {x : DataW H × List MemPlace} (ht : P.underlying t = some (.struct #[f0, f1])) (h : DataW.trod enc P w base spare held fuel t cs = some x) :
    ∃ y0 y1 n, cs.length = P.cellsOf t ∧ DataW.trod enc P w base spare held n f0.type ((cs.drop f0.offset).take (P.cellsOf f0.type)) = some y0 ∧
      DataW.trod enc P w base spare held n f1.type ((cs.drop f1.offset).take (P.cellsOf f1.type)) = some y1 := by
  obtain ⟨xs, n, _, rfl, hl, hlen, hf⟩ := DataW.trod_struct ht h
  match xs, hlen with
  | [y0, y1], _ => exact ⟨y0, y1, n, hl, by simpa using hf 0 f0 rfl, by simpa using hf 1 f1 rfl⟩

set_option maxRecDepth 100000 in
/-- An entry's cells that came in. -/
theorem ent_cells {H : Type} {enc : TypeId × Value → H} {W : World} {fuel : Nat} {cs : List Value} {x : DataW H × List MemPlace} (h : DataW.trod enc Tryz.prog W 0 (fun _ => true) true fuel 91 cs = some x) :
    ∃ e : Ent, cs = entC e ∧ EOk e := by
  obtain ⟨y0, y1, n, hl, h0, h1⟩ := trod_struct2 Tryz.underlying91 h
  have e75 : Tryz.prog.cellsOf 91 = 35 := by kernel_rfl
  have e46 : Tryz.prog.cellsOf 46 = 32 := by kernel_rfl
  have e73 : Tryz.prog.cellsOf 52 = 3 := by kernel_rfl
  have e3 : Tryz.prog.cellsOf 3 = 1 := by kernel_rfl
  rw [e75] at hl
  simp only [e46, e73] at h0 h1
  obtain ⟨nm, hnm, hnl, hwf⟩ := arr_ints Tryz.underlying46 Tryz.underlying5 (by kernel_rfl) (by simp; omega) h0
  obtain ⟨_, _, _, m, _, _, p0, p1, p2⟩ := Go.Deep.trod_struct3 Tryz.underlying52 h1
  simp only [e3] at p0 p1 p2
  obtain ⟨p, hp, _, _⟩ := DataW.trod_int Tryz.underlying3 p0
  obtain ⟨q, hq, _, _⟩ := DataW.trod_int Tryz.underlying3 p1
  obtain ⟨r, hr, _, _⟩ := DataW.trod_int Tryz.underlying3 p2
  refine ⟨(nm, p, q, r), ?_, hnl, fun y hy => u8_wf (hwf y hy)⟩
  simp only [List.drop_zero] at hnm
  have l3 : (cs.drop 32).length = 3 := by simp; omega
  have e : cs.drop 32 = [.int .i64 p, .int .i64 q, .int .i64 r] := by
    match hc : cs.drop 32, l3 with
    | [a, b, c], _ =>
      rw [hc] at hp hq hr
      simp at hp hq hr
      rw [hp, hq, hr]
  rw [← List.take_append_drop 32 cs, hnm, e]
  rfl

theorem spotless {w : World} {x : Addr} {v : Value} (c0 : w.cell? (x.add 0) = some v) : x.spot = none := spot_none c0

set_option maxRecDepth 100000 in
theorem ents_of {H : Type} {enc : TypeId × Value → H} {W : World} {a0 : Option Addr} {len cap fuel : Nat} {x : DataW H × List MemPlace}
    (h : DataW.trod enc Tryz.prog W 0 (fun _ => true) true fuel 22 [.slice a0 len cap] = some x) :
    ∃ d : List Ent, d.length = len ∧ EV (fun g => g < W.heap.size) W (.slice a0 len cap) d := by
  rcases Go.Deep.open_slice Tryz.underlying22 h with ⟨hcs, _⟩ | ⟨a, l, c, m, n, D, Pl, hcs, _, hl, hm, hmm, _, hr⟩
  · simp only [List.cons.injEq, Value.slice.injEq, and_true] at hcs
    obtain ⟨rfl, rfl, rfl⟩ := hcs
    exact ⟨[], rfl, EV.nil _ _⟩
  · simp only [List.cons.injEq, Value.slice.injEq, and_true] at hcs
    obtain ⟨rfl, rfl, rfl⟩ := hcs
    simp only [if_true] at hmm
    subst hmm
    have e26 : Tryz.prog.cellsOf 91 = 35 := by kernel_rfl
    rw [e26] at hr
    have each : ∀ r, r < len → ∃ t : Ent, EOk t ∧ ∀ i, i < 35 → W.cell? ((a.add (r * 35)).add i) = (entC t)[i]? := by
      intro r hr1
      obtain ⟨cs', h1, h2⟩ := hr r (by omega)
      obtain ⟨e, rfl, he⟩ := ent_cells h2
      exact ⟨e, he, fun i hi => cells_get h1 i hi⟩
    obtain ⟨y, hy⟩ := Go.Deep.choose_lt each
    have hlen : ((List.range len).map y).length = len := by simp
    have hget : ∀ j t, ((List.range len).map y)[j]? = some t → j < len ∧ t = y j := fun j t hj => by
      have hjl : j < len := by
        have := (List.getElem?_eq_some_iff.1 hj).1
        simpa using this
      simp only [List.getElem?_map, List.getElem?_range hjl, Option.map_some, Option.some.injEq] at hj
      exact ⟨hjl, hj.symm⟩
    refine ⟨(List.range len).map y, hlen, some a, _, by rw [hlen], by rw [hlen]; exact hl, hm, by simp, fun e he => ?_, fun hne => ?_⟩
    · obtain ⟨j, hj⟩ := List.mem_iff_getElem?.1 he
      obtain ⟨hjl, rfl⟩ := hget j e hj
      exact (hy j hjl).1
    · have hpos : 0 < len := by
        have := List.length_pos_iff.2 hne
        omega
      have h00 := (hy 0 hpos).2 0 (by omega)
      obtain ⟨v0, hv0⟩ : ∃ v, (entC (y 0))[0]? = some v := ⟨_, List.getElem?_eq_getElem (by rw [entC_length (hy 0 hpos).1]; omega)⟩
      rw [hv0] at h00
      have ha : a.spot = none := by
        rw [Nat.zero_mul] at h00
        have e : (a.add 0) = a := rfl
        rw [e] at h00
        exact spot_none h00
      obtain ⟨b, o, s⟩ := a
      simp only at ha
      subst ha
      have hb : b < W.heap.size := by
        rw [addr_plus, addr_plus] at h00
        exact World.block_lt_of_cell? W _ h00
      refine ⟨b, o, rfl, hb, hb, fun j t hj => ?_⟩
      obtain ⟨hjl, rfl⟩ := hget j t hj
      refine ⟨(hy j hjl).1, fun i v hv => ?_⟩
      have hi : i < 35 := by
        have := (List.getElem?_eq_some_iff.1 hv).1
        rw [entC_length (hy j hjl).1] at this
        exact this
      have h := (hy j hjl).2 i hi
      rw [addr_plus, addr_plus, hv] at h
      exact h
end Go.Proofs.YtampnikdmgojjaaGreat.Sg
end

section
/-
  What the law of finding is given: entries whose packs are ints, a hash, numbers.
-/
namespace Go.Proofs.YtampnikdmgojjaaGreat.Sg
open Go.RowKit Go.ChangeShapes Go.WideShapes

set_option maxRecDepth 100000 in
/-- The pack of an entry that came in is an int. -/
theorem ent_wf {H : Type} {enc : TypeId × Value → H} {W : World} {fuel : Nat} {e : Ent} {x : DataW H × List MemPlace} (h : DataW.trod enc Tryz.prog W 0 (fun _ => true) true fuel 91 (entC e) = some x) (he : EOk e) : (Lit.int .i64 e.2.1).wf = true := by
  obtain ⟨y0, y1, n, hl, h0, h1⟩ := trod_struct2 Tryz.underlying91 h
  have e73 : Tryz.prog.cellsOf 52 = 3 := by kernel_rfl
  have e3 : Tryz.prog.cellsOf 3 = 1 := by kernel_rfl
  simp only [e73] at h1
  obtain ⟨_, _, _, m, _, _, p0, _, _⟩ := Go.Deep.trod_struct3 Tryz.underlying52 h1
  simp only [e3] at p0
  obtain ⟨p, hp, _, hw⟩ := DataW.trod_int Tryz.underlying3 p0
  have hd : (entC e).drop 32 = [.int .i64 e.2.1, .int .i64 e.2.2.1, .int .i64 e.2.2.2] := by
    unfold entC
    rw [List.drop_append_of_le_length (by rw [b8_length, he.1]; omega), List.drop_of_length_le (by rw [b8_length, he.1]; omega)]
    rfl
  rw [hd] at hp
  simp at hp
  rw [hp]
  exact hw
theorem mem_wf {H : Type} {enc : TypeId × Value → H} {W : World} {a0 : Option Addr} {len cap fuel : Nat} {x : DataW H × List MemPlace} {d : List Ent}
    (h : DataW.trod enc Tryz.prog W 0 (fun _ => true) true fuel 22 [.slice a0 len cap] = some x) (hlen : d.length = len) (hv : EV (fun g => g < W.heap.size) W (.slice a0 len cap) d) : Wf (d.map (·.2.1)) := by
  intro z hz
  obtain ⟨e, he, rfl⟩ := List.mem_map.1 hz
  obtain ⟨j, hj⟩ := List.mem_iff_getElem?.1 he
  have hjl : j < len := by have := (List.getElem?_eq_some_iff.1 hj).1; omega
  have hok := hv.ok e he
  rcases Go.Deep.open_slice Tryz.underlying22 h with ⟨hcs, _⟩ | ⟨a, l, c, m, n, D, Pl, hcs, _, hl, hm, hmm, _, hr⟩
  · simp only [List.cons.injEq, Value.slice.injEq, and_true] at hcs
    omega
  · simp only [List.cons.injEq, Value.slice.injEq, and_true] at hcs
    obtain ⟨rfl, rfl, rfl⟩ := hcs
    simp only [if_true] at hmm
    subst hmm
    have e26 : Tryz.prog.cellsOf 91 = 35 := by kernel_rfl
    rw [e26] at hr
    obtain ⟨cs', h1, h2⟩ := hr j (by omega)
    obtain ⟨t, rfl, ht⟩ := ent_cells h2
    have hwt := ent_wf h2 ht
    obtain ⟨_, _, e0, _, _, _, _, h6⟩ := hv
    simp only [Value.slice.injEq] at e0
    obtain ⟨g, o, e1, _, hrow⟩ := h6 (fun e => by rw [e] at hlen; simp at hlen; omega)
    rw [← e0.1] at e1
    cases e1
    have c1 := cells_get h1 32 (by omega)
    rw [addr_plus, addr_plus, show (entC t)[32]? = some (.int .i64 t.2.1) from ent_at ht 0] at c1
    have c2 := (hrow.2 j e hj).2 32 (.int .i64 e.2.1) (ent_at hok 0)
    have c3 : W.cell? ⟨g, o + j * 35 + 32, none⟩ = some (.int .i64 t.2.1) := c1
    rw [c2] at c3
    simp at c3
    rw [c3]
    exact hwt

/-- A slice of numbers, as it came in. -/
def InNums (W : World) (a : Option Addr) (l c : Nat) : Prop :=
  (a = none ∧ l = 0 ∧ c = 0) ∨ ∃ (y : Addr) (zs : List Int), a = some y ∧ l ≤ c ∧ c ≤ maxLen ∧ zs.length = c ∧ (∀ i, i < zs.length → W.cell? (y.add i) = some (.int .i64 (zs.getD i 0))) ∧ ∀ n ∈ zs, (Lit.int .i64 n).wf = true
theorem InNums.iv {W : World} {a : Option Addr} {l c : Nat} (h : InNums W a l c) : ∃ zs : List Int, zs.length = l ∧ IV (fun g => g < W.heap.size) W (.slice a l c) zs ∧ Wf zs := by
  rcases h with ⟨rfl, rfl, rfl⟩ | ⟨y, zs, rfl, h1, h2, h3, h4, h5⟩
  · exact ⟨[], rfl, ⟨none, 0, rfl, Nat.le_refl _, Nat.zero_le _, fun _ => ⟨rfl, rfl⟩, by simp⟩, by intro z hz; simp at hz⟩
  · have hlen : (zs.take l).length = l := by rw [List.length_take]; omega
    refine ⟨zs.take l, hlen, ⟨some y, c, by rw [hlen], by omega, h2, by simp, fun hne => ?_⟩, fun z hz => h5 z (List.mem_of_mem_take hz)⟩
    have hpos : 0 < l := by
      have := List.length_pos_iff.2 hne
      omega
    have h00 := h4 0 (by omega)
    have ha : y.spot = none := spot_none h00
    obtain ⟨b, o, s⟩ := y
    simp only at ha
    subst ha
    refine ⟨b, o, rfl, ?_, ?_, fun i z hz => ?_⟩
    · rw [addr_plus] at h00
      exact World.block_lt_of_cell? W _ h00
    · rw [addr_plus] at h00
      exact World.block_lt_of_cell? W _ h00
    · have hil := (List.getElem?_eq_some_iff.1 hz).1
      rw [hlen] at hil
      rw [List.getElem?_take_of_lt hil] at hz
      have h6 := h4 i (by omega)
      rw [addr_plus, List.getD, hz] at h6
      exact h6
set_option maxRecDepth 100000 in
theorem open_hash {H : Type} {enc : TypeId × Value → H} {W : World} {r : Reach} {b0 base : Nat} {sp : Nat → Bool} {held : Bool} {v : Value} {d : DataW H} {ps : List MemPlace}
    (hval : Value.okWide Tryz.prog W r b0 46 v) (hd : DataW.Trod enc Tryz.prog W base sp held 46 v d ps) :
    ∃ nm : List Int, v = .agg (b8 nm).toArray ∧ nm.length = 32 ∧ ∀ x ∈ nm, 0 ≤ x ∧ x ≤ 255 := by
  have hs : Tryz.prog.cellsOf 46 = 32 := by kernel_rfl
  simp only [Value.okWide, Tryz.underlying46] at hval
  obtain ⟨xs, rfl, hn, _⟩ := hval
  rw [hs] at hn
  obtain ⟨fuel, hf⟩ := hd
  obtain ⟨nm, hnm, hnl, hwf⟩ := arr_ints Tryz.underlying46 Tryz.underlying5 (by kernel_rfl) (by simpa [Value.cells] using hn) hf
  refine ⟨nm, ?_, hnl, fun y hy => u8_wf (hwf y hy)⟩
  have : xs.toList = b8 nm := hnm
  rw [← this]

end Go.Proofs.YtampnikdmgojjaaGreat.Sg
end
