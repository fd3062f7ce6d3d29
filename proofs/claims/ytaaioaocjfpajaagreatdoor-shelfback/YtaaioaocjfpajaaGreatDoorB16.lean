/- Of the proof: the texts ShRead, ShCrashU, ShLayN, one behind the other. -/
import Derived.Test.YtaaioaocjfpajaaGreatDoorB15
import Derived.Test.YtaaioaocjfpajaaGreatDoorB13
import Derived.Test.YtaaioaocjfpajaaGreatDoorB14
section
/-
  Read of a shelf.
-/
namespace Go.Proofs.YtaaioaocjfpajaaGreatDoor.Sh
open Go.RowKit Go.Shelf
open Tlv (BySlS)
open Sim (hid Kp No PS Blk nm finds pBytes)
set_option linter.unusedSimpArgs false

theorem exec_storeE {P : Program} {o : Oper} {a : Act} {w : World} (ty : TypeId) (x y : Operand) (ho : o.op = .store ty x y) (b off : Nat) (cells : Array Value) (hx : a.eval x = .pointer (some ⟨b, off, none⟩)) (hy : a.eval y = .agg cells)
    (ht : w.there b off cells.size) (hi : (P.info? ty).map (·.size) = some cells.size) (h1 : cells.all (·.oneCell') = true) : (execOp a.eval o).run P w = .ok .skip (w.setCells b off cells.toList) := by
  unfold execOp
  simp only [ho, hx, hy, Instr.storeAt, Instr.sureAddr, Sem.run_bind, Sem.run_pure, Result.andThen_ok, run_storeVar_mid w b off ty cells ht hi h1]
theorem wp_skipE {P : Program} {o : Oper} {a : Act} {K : Act → World → Prop} {Q : Exit → Act → World → Prop} {w w' : World} (hr : (execOp a.eval o).run P w = .ok .skip w') (h : K (a.put o.dst undef) w') : Oper.wp P o a w K Q := by
  unfold Oper.wp
  rw [hr]
  exact h
theorem kp_bel {L : Nat → Prop} {u v w : World} (h : Kp L u v) (k : Below u.heap.size v w) : Kp L u w :=
  ⟨k.os.trans h.os, k.tape.trans h.tape, k.output.trans h.output, Nat.le_trans h.size k.size, fun i h1 h2 => (k.block i h1).trans (h.block i h1 h2)⟩
theorem kp_set {L : Nat → Prop} {u v : World} (h : Kp L u v) {g : Nat} (hg : L g ∨ u.heap.size ≤ g) (o : Nat) (cs : List Value) : Kp L u (v.setCells g o cs) := by
  induction cs generalizing v o with
  | nil => exact h
  | cons c cs ih => rw [World.setCells]; exact ih (h.setCell (p := ⟨g, o, none⟩) hg c) _
theorem bySlS_kp {S S' L : Nat → Prop} {w w' : World} {v : Value} {xs : List Int} (h : BySlS S w v xs) (k : Kp L w w') (hS : ∀ g, S g → ¬ L g ∧ g < w.heap.size ∧ S' g) : BySlS S' w' v xs := h.agree (fun g hg => k.block g (hS g hg).2.1 (hS g hg).1) (fun g hg => (hS g hg).2.2)
/-- What Take finds is right. -/
theorem takeF_right {bs : List Int} (h : (takeF bs).1 = 0) : rightB (takeF bs).2.1.1 (takeF bs).2.1.2.2.length = true := by
  cases hr : Tlv.rd 8 bs with
  | none => rw [takeF_none hr] at h; simp [noRec] at h
  | some x =>
    obtain ⟨t, m⟩ := x
    rw [takeF_some hr] at h ⊢
    by_cases h1 : bs.length - m < 4
    · rw [if_pos h1] at h; simp [noRec] at h
    · rw [if_neg h1] at h ⊢
      by_cases h2 : sumI (bs.take m) ≠ (bs.drop m).take 4
      · rw [if_pos h2] at h; simp [noRec] at h
      · rw [if_neg h2] at h ⊢
        cases hq : recOf t with
        | none => rw [hq] at h; simp [noRec] at h
        | some r =>
          dsimp only
          unfold recOf at hq
          split at hq
          · split at hq
            · rename_i hc
              obtain ⟨_, _, _, _, _, g1, g2, g3⟩ := hc
              cases hq
              simp only [rightB, Bool.and_eq_true, decide_eq_true_eq]
              omega
            · simp at hq
          · simp at hq
theorem gspec_ok {F : Nat} {bs : List Int} {z : Int} {y : El} (h : GSpec F bs z y 0) : okR y = true := by
  rcases h with ⟨h1, h2, _⟩ | ⟨_, _, h2, _⟩ | ⟨_, _, _, _, _, h2, _⟩ | ⟨k, _, _, _, h0, _, hy⟩
  · exact absurd h2.symm h1
  · simp at h2
  · simp at h2
  · rw [okR, hy]; exact takeF_right h0
/-- What Read answers: the record y, the fault f. -/
def ReadA (F : Nat) (bs : List Int) (z ln : Int) (y : El) (f : Nat) : Prop :=
  (ln < 1 ∧ f = 1 ∧ y = zE) ∨ (1 ≤ ln ∧ ∃ y0 f0, GSpec F bs z y0 f0 ∧ ((f0 ≠ 0 ∧ f = f0 ∧ y = zE) ∨ (f0 = 0 ∧ ((49 + y0.1.2.2.length : Nat) : Int) ≠ ln ∧ f = 4 ∧ y = zE) ∨ (f0 = 0 ∧ ((49 + y0.1.2.2.length : Nat) : Int) = ln ∧ f = 0 ∧ y = y0)))

set_option maxHeartbeats 8000000 in
set_option maxRecDepth 100000 in
theorem read_any {P : Nat → Prop} {N : Nat} (w : World) (h s b : Nat) (n : Int) (p : PS) (i : Nat) (z ln : Int) (h1 : 1 ≤ i) (h2 : i < 100) (hH : ShAt w h s b n) (hS : Sim.Sys P N w s p) (hT : TabX w b) (hhb : h ≠ b) (hb : ∀ x ∈ pBytes (nm (nameP i)) p, x < 256) (hl : (pBytes (nm (nameP i)) p).length ≤ 20000000) :
    Calls Tryz.prog 20 #[.pointer (some ⟨h, 0, none⟩), .agg #[.int .i64 (i : Int), .int .i64 z, .int .i64 ln]] w fun e w' =>
      ∃ (y : El) (f : Nat), e = .returned (.tuple #[.agg (elC y).toArray, .int .i64 (f : Int)]) ∧ elOk y ∧ BySlS (fun g => w.heap.size ≤ g ∧ g < w'.heap.size) w' (elV y) y.1.2.2 ∧ ReadA (finds p (nm (nameP i))) (ints (pBytes (nm (nameP i)) p)) z ln y f ∧ Kp (fun x => x = b) w w' ∧ TabX w' b := by
  have hz0 := zero35
  have hb0 := build35z
  obtain ⟨Z, hZ⟩ : ∃ Z, zRec = Z := ⟨_, rfl⟩
  have HZ := hid hZ
  have HZL : Hid (Z.length = 34) := by rw [← hZ]; exact zRec_length
  rw [hZ] at hz0 hb0
  clear hZ
  have HI2 : Hid ((Tryz.prog.info? 56).map (·.size) = some Z.toArray.size) := by rw [← HZ.out]; exact Tryz.info35
  have H1 : Hid (Z.toArray.all (·.oneCell') = true) := by rw [← HZ.out]; exact all_oneCell_toArray zRec_one
  have hhl := hH.lt
  have hbl := hT.lt
  obtain ⟨W0, hW0⟩ : ∃ W0, (w.alloc (.cells #[.int .i64 (i : Int), .int .i64 z, .int .i64 ln] 51)).alloc (.cells Z.toArray 56) = W0 := ⟨_, rfl⟩
  have k0 : Kp No w W0 := by rw [← hW0]; exact ((Kp.refl No w).alloc _).alloc _
  have HS0 : Hid (W0.heap.size = w.heap.size + 2) := by rw [Hid, ← hW0]; simp
  have HB0 : Hid (Blk W0 w.heap.size 51 [.int .i64 (i : Int), .int .i64 z, .int .i64 ln]) := by rw [Hid, ← hW0]; exact (Blk.new w _ _).kp ((Kp.refl No _).alloc _) (fun x => x)
  have HR0 : Hid (Blk W0 (w.heap.size + 1) 56 Z) := by
    rw [Hid, ← hW0]
    have e : w.heap.size + 1 = (w.alloc (.cells #[.int .i64 (i : Int), .int .i64 z, .int .i64 ln] 51)).heap.size := by simp
    rw [e]
    exact Blk.new _ _ _
  have HX : Hid (∀ V, Kp (fun x => x = b) W0 V → V.cell? ⟨h, 0, none⟩ = some (.pointer (some ⟨s, 0, none⟩)) ∧ V.cell? ⟨h, 1, none⟩ = some (.pointer (some ⟨b, 0, none⟩)) ∧ V.cell? ⟨w.heap.size, 0, none⟩ = some (.int .i64 (i : Int)) ∧ V.cell? ⟨w.heap.size, 1, none⟩ = some (.int .i64 z) ∧ V.cell? ⟨w.heap.size, 2, none⟩ = some (.int .i64 ln)) := fun V k => by
    have a := (hH.kp k0 (fun x => x)).kp k hhb
    have c := HB0.out.kp k (by omega)
    exact ⟨a.cell 0, a.cell 1, c.cell 0, c.cell 1, c.cell 2⟩
  have HRT : Hid (∀ V, Kp (fun x => x = b) W0 V → World.there V (w.heap.size + 1) 0 Z.toArray.size) := fun V k => by
    have c := HR0.out.kp k (by omega)
    exact there_of_block c 0 _ (by simp)
  have HGET := hid (fun V (k : Kp No W0 V) => get_one V s b p i z h1 h2 ((hS.kept k0).kept k) ((hT.kp k0 (fun x => x)).kp k (fun x => x)) hb hl)
  have HK0 := hid k0
  have HBL : Hid (b < W0.heap.size) := by have := HS0.out; rw [Hid]; omega
  have HN := hid (fun V (k : Kp No W0 V) => none_any V h s b n ((hH.kp k0 (fun x => x)).kp k (fun x => x)))
  have HT0 : Hid (TabX W0 b) := hT.kp k0 (fun x => x)
  obtain ⟨F, hF⟩ : ∃ F, finds p (nm (nameP i)) = F := ⟨_, rfl⟩
  obtain ⟨Y, hY⟩ : ∃ Y, ints (pBytes (nm (nameP i)) p) = Y := ⟨_, rfl⟩
  simp only [hF, hY] at HGET ⊢
  have HIC : Hid ((Tryz.prog.info? 56).map (·.size) = some 34) := Tryz.info35
  have HTA : Hid (∀ V : World, World.there (V.alloc (.cells Z.toArray 56)) V.heap.size 0 34) := fun V => by have h := there_new V Z 56; rwa [HZL.out] at h
  have HTB : Hid (∀ V : World, Kp (fun x => x = b) (W0.drew.alloc (.cells Z.toArray 56)) V → World.there V W0.heap.size 0 34) := fun V k => by
    have c : Blk (W0.drew.alloc (.cells Z.toArray 56)) W0.heap.size 56 Z := Blk.new W0.drew _ _
    exact there_of_block (c.kp k (by have := HBL.out; omega)) 0 34 (by have := HZL.out; simp [this])
  have q9 := HX.out W0 (Kp.refl _ _)
  obtain ⟨_, _, _, _, q9⟩ := q9
  clear hF hY hH hS hT hb hl k0
  go_enter Tryz.func20, Tryz.ntmps20
  go_wp2_with fail
  refine (HN.out _ (Kp.refl _ _)).mono ?_
  rintro e w9 ⟨rfl, hw9⟩
  rw [hw9]
  clear hw9
  clear HN hW0
  by_cases hln : ln < 1
  · go_wp2_with (refine wpList_store_mid (by rfl) 56 _ _ (by rfl) (w.heap.size + 1) 0 Z.toArray (by rfl) (by rfl) (HRT.out _ (Kp.refl _ _)) HI2.out H1.out ?_)
    have HR : Hid (World.rangeAt (W0.setCells (w.heap.size + 1) 0 Z) (w.heap.size + 1) 0 Z) := World.rangeAt_setCells_same _ _ _ _ (HRT.out _ (Kp.refl _ _))
    have hB : Below w.heap.size W0 (W0.setCells (w.heap.size + 1) 0 Z) := setCells_below (by omega) _ _ _
    refine bodyPost_ret (v := .tuple #[.agg Z.toArray, .int .i64 1]) (results_cell_mid2 Tryz.results20 _ _ (w.heap.size + 1) 0 _ _ rfl HR.out Tryz.underlying56 rfl HI2.out) rfl ?_
    refine ⟨zE, 1, ?_, zE_ok, BySlS.none _ _, .inl ⟨hln, rfl, rfl⟩, ?_, ?_⟩
    · rw [zE_cells, HZ.out]; rfl
    · exact kp_bel HK0.out.ofNo hB
    · exact HT0.out.kp (kp_set (Kp.refl (fun x => x = w.heap.size + 1) W0) (Or.inl rfl) _ _) (by omega)
  · go_wp2_with fail
    refine wp_region_held_drew (S := fun V => Kp (fun x => x = b) W0 V) (by kernel_rfl) ((Kp.refl _ _).drew) (fun hHeld => ?_)
    refine wpAnyH_take (i := 0) (oi := { dst := some 16, op := Op.move (Operand.tmp 0), type := 29, pos := "shelf.go:66", after := #[], guard := none }) (v := .pointer (some ⟨h, 0, none⟩)) rfl (by kernel_rfl) (by kernel_rfl) (by kernel_rfl) (fun _ _ _ h => h) (Or.inl ⟨by rfl, fun w' hw' => by (clear hw'; go_simp)⟩) hHeld ?_
    simp only [Act.put, List.setIfInBounds_toArray, List.set_cons_zero, List.set_cons_succ]
    refine wpAnyH_take (i := 1) (oi := { dst := some 17, op := Op.nilCheck (Operand.tmp 16), type := 0, pos := "shelf.go:66", after := #[{ on := 0, ground := Ground.data }], guard := none }) (v := .pointer (some ⟨h, 0, none⟩)) rfl (by kernel_rfl) (by kernel_rfl) (by kernel_rfl) (fun _ _ _ h => h) (Or.inl ⟨by rfl, fun w' hw' => by (clear hw'; go_simp)⟩) hHeld ?_
    simp only [Act.put, List.setIfInBounds_toArray, List.set_cons_zero, List.set_cons_succ]
    refine wpAnyH_take (i := 2) (oi := { dst := some 18, op := Op.fieldAddr 87 (Operand.tmp 17) 0, type := 0, pos := "shelf.go:66", after := #[{ on := 1, ground := Ground.data }], guard := none }) (v := .pointer (some ⟨h, 0, none⟩)) rfl (by kernel_rfl) (by kernel_rfl) (by kernel_rfl) (fun _ _ _ h => h) (Or.inl ⟨by rfl, fun w' hw' => by (clear hw'; go_simp)⟩) hHeld ?_
    simp only [Act.put, List.setIfInBounds_toArray, List.set_cons_zero, List.set_cons_succ]
    refine wpAnyH_take (i := 3) (oi := { dst := some 19, op := Op.load 25 (Operand.tmp 18), type := 25, pos := "shelf.go:66", after := #[{ on := 2, ground := Ground.data }], guard := none }) (v := .pointer (some ⟨s, 0, none⟩)) rfl (by kernel_rfl) (by kernel_rfl) (by kernel_rfl) (fun _ _ _ h => h) (Or.inl ⟨by rfl, fun w' hw' => by (obtain ⟨q0, q1, q2, q3, q4⟩ := HX.out w' hw'; clear hw'; go_simp)⟩) hHeld ?_
    simp only [Act.put, List.setIfInBounds_toArray, List.set_cons_zero, List.set_cons_succ]
    refine wpAnyH_take (i := 4) (oi := { dst := some 20, op := Op.move (Operand.tmp 0), type := 29, pos := "shelf.go:66", after := #[], guard := none }) (v := .pointer (some ⟨h, 0, none⟩)) rfl (by kernel_rfl) (by kernel_rfl) (by kernel_rfl) (fun _ _ _ h => h) (Or.inl ⟨by rfl, fun w' hw' => by (clear hw'; go_simp)⟩) hHeld ?_
    simp only [Act.put, List.setIfInBounds_toArray, List.set_cons_zero, List.set_cons_succ]
    refine wpAnyH_take (i := 5) (oi := { dst := some 21, op := Op.nilCheck (Operand.tmp 20), type := 0, pos := "shelf.go:66", after := #[{ on := 4, ground := Ground.data }], guard := none }) (v := .pointer (some ⟨h, 0, none⟩)) rfl (by kernel_rfl) (by kernel_rfl) (by kernel_rfl) (fun _ _ _ h => h) (Or.inl ⟨by rfl, fun w' hw' => by (clear hw'; go_simp)⟩) hHeld ?_
    simp only [Act.put, List.setIfInBounds_toArray, List.set_cons_zero, List.set_cons_succ]
    refine wpAnyH_take (i := 6) (oi := { dst := some 22, op := Op.fieldAddr 87 (Operand.tmp 21) 1, type := 0, pos := "shelf.go:66", after := #[{ on := 5, ground := Ground.data }], guard := none }) (v := .pointer (some ⟨h, 1, none⟩)) rfl (by kernel_rfl) (by kernel_rfl) (by kernel_rfl) (fun _ _ _ h => h) (Or.inl ⟨by rfl, fun w' hw' => by (clear hw'; go_simp)⟩) hHeld ?_
    simp only [Act.put, List.setIfInBounds_toArray, List.set_cons_zero, List.set_cons_succ]
    refine wpAnyH_take (i := 7) (oi := { dst := some 23, op := Op.load 32 (Operand.tmp 22), type := 32, pos := "shelf.go:66", after := #[{ on := 6, ground := Ground.data }], guard := none }) (v := .pointer (some ⟨b, 0, none⟩)) rfl (by kernel_rfl) (by kernel_rfl) (by kernel_rfl) (fun _ _ _ h => h) (Or.inl ⟨by rfl, fun w' hw' => by (obtain ⟨q0, q1, q2, q3, q4⟩ := HX.out w' hw'; clear hw'; go_simp)⟩) hHeld ?_
    simp only [Act.put, List.setIfInBounds_toArray, List.set_cons_zero, List.set_cons_succ]
    refine wpAnyH_take (i := 8) (oi := { dst := some 24, op := Op.fieldAddr 51 (Operand.tmp 3) 0, type := 0, pos := "shelf.go:66", after := #[], guard := none }) (v := .pointer (some ⟨w.heap.size, 0, none⟩)) rfl (by kernel_rfl) (by kernel_rfl) (by kernel_rfl) (fun _ _ _ h => h) (Or.inl ⟨by rfl, fun w' hw' => by (clear hw'; go_simp)⟩) hHeld ?_
    simp only [Act.put, List.setIfInBounds_toArray, List.set_cons_zero, List.set_cons_succ]
    refine wpAnyH_take (i := 9) (oi := { dst := some 25, op := Op.load 3 (Operand.tmp 24), type := 3, pos := "shelf.go:66", after := #[{ on := 8, ground := Ground.data }], guard := none }) (v := .int .i64 (i : Int)) rfl (by kernel_rfl) (by kernel_rfl) (by kernel_rfl) (fun _ _ _ h => h) (Or.inl ⟨by rfl, fun w' hw' => by (obtain ⟨q0, q1, q2, q3, q4⟩ := HX.out w' hw'; clear hw'; go_simp)⟩) hHeld ?_
    simp only [Act.put, List.setIfInBounds_toArray, List.set_cons_zero, List.set_cons_succ]
    refine wpAnyH_take (i := 10) (oi := { dst := some 26, op := Op.fieldAddr 51 (Operand.tmp 3) 1, type := 0, pos := "shelf.go:66", after := #[], guard := none }) (v := .pointer (some ⟨w.heap.size, 1, none⟩)) rfl (by kernel_rfl) (by kernel_rfl) (by kernel_rfl) (fun _ _ _ h => h) (Or.inl ⟨by rfl, fun w' hw' => by (clear hw'; go_simp)⟩) hHeld ?_
    simp only [Act.put, List.setIfInBounds_toArray, List.set_cons_zero, List.set_cons_succ]
    refine wpAnyH_take (i := 11) (oi := { dst := some 27, op := Op.load 3 (Operand.tmp 26), type := 3, pos := "shelf.go:66", after := #[{ on := 10, ground := Ground.data }], guard := none }) (v := .int .i64 z) rfl (by kernel_rfl) (by kernel_rfl) (by kernel_rfl) (fun _ _ _ h => h) (Or.inl ⟨by rfl, fun w' hw' => by (obtain ⟨q0, q1, q2, q3, q4⟩ := HX.out w' hw'; clear hw'; go_simp)⟩) hHeld ?_
    simp only [Act.put, List.setIfInBounds_toArray, List.set_cons_zero, List.set_cons_succ]
    refine wpAnyH_ready (rs := [12, 16]) (by kernel_rfl) (by simp) ?_
    refine (AllReadyH.cons (o := { dst := some 28, op := Op.call { callee := Callee.value (Operand.func 43), args := #[Operand.tmp 19, Operand.tmp 23, Operand.tmp 25, Operand.tmp 27], argTypes := #[25, 32, 3, 3] }, type := 65, pos := "shelf.go:66", after := #[{ on := 3, ground := Ground.data }, { on := 7, ground := Ground.data }, { on := 9, ground := Ground.data }, { on := 11, ground := Ground.data }], guard := none }) rfl (fun K hK => ?_) (AllReadyH.cons (o := { dst := some 6, op := Op.alloc 56, type := 0, pos := "shelf.go:66", after := #[], guard := none }) rfl (fun K hK => ?_) AllReadyH.nil))
    · go_simp
      refine (HGET.out (W0.drew) ((Kp.refl No W0).drew)).mono ?_
      rintro e w1 ⟨y, f, rfl, hyo, hyb, hsp, hk, ht⟩
      have HK1 : Hid (Kp (fun x => x = b) W0 w1) := ((Kp.refl (fun x => x = b) W0).drew).trans (kp_kept hk) (fun x hx => .inl hx)
      have HKV : Hid (Kp (fun x => x = b) (W0.drew) w1) := kp_kept hk
      have HY := hid (And.intro hyo (And.intro hsp ht))
      have HYB : Hid (BySlS (fun g => (W0.drew).heap.size ≤ g ∧ g < w1.heap.size) w1 (elV y) y.1.2.2) := hyb
      have HV1 : Hid ((W0.drew).heap.size ≤ w1.heap.size) := HKV.out.size
      have HCL : Hid ((elC y).length = 34) := elC_length hyo
      have HC1 : Hid ((elC y).toArray.all (·.oneCell') = true) := all_oneCell_toArray (elC_one y)
      obtain ⟨cy, hcy⟩ : ∃ cy, elC y = cy := ⟨_, rfl⟩
      have HCY := hid hcy
      rw [hcy] at HCL HC1
      have HICL : Hid ((Tryz.prog.info? 56).map (·.size) = some cy.length) := by rw [Hid, HCL.out]; exact HIC.out
      have HICA : Hid ((Tryz.prog.info? 56).map (·.size) = some cy.toArray.size) := HICL.out
      rw [hcy]
      clear hcy hyo hyb hsp hk ht HGET
      go_wp2_with fail
      refine hK.out _ _ (HK1.out) (fun hh => ?_)
      clear hK K hHeld
      have hHeld := hh
      clear hh
      try simp only [Act.put, List.setIfInBounds_toArray, List.set_cons_zero, List.set_cons_succ]
      refine wpAnyH_take (i := 13) (oi := { dst := some 15, op := Op.move (Operand.tmp 28), type := 65, pos := "shelf.go:66", after := #[{ on := 12, ground := Ground.data }], guard := none }) (v := .tuple #[.agg cy.toArray, .int .i64 (f : Int)]) rfl (by kernel_rfl) (by kernel_rfl) (by kernel_rfl) (fun _ _ _ h => h) (Or.inl ⟨by rfl, fun w' hw' => by (clear hw'; go_simp)⟩) hHeld ?_
      simp only [Act.put, List.setIfInBounds_toArray, List.set_cons_zero, List.set_cons_succ]
      refine wpAnyH_take (i := 14) (oi := { dst := some 29, op := Op.extract (Operand.tmp 15) 0, type := 56, pos := "shelf.go:66", after := #[{ on := 13, ground := Ground.data }], guard := none }) (v := .agg cy.toArray) rfl (by kernel_rfl) (by kernel_rfl) (by kernel_rfl) (fun _ _ _ h => h) (Or.inl ⟨by rfl, fun w' hw' => by (clear hw'; go_simp)⟩) hHeld ?_
      simp only [Act.put, List.setIfInBounds_toArray, List.set_cons_zero, List.set_cons_succ]
      refine wpAnyH_take (i := 15) (oi := { dst := some 30, op := Op.extract (Operand.tmp 15) 1, type := 26, pos := "shelf.go:66", after := #[{ on := 13, ground := Ground.data }, { on := 17, ground := Ground.gcOnly Departure.lateStores }], guard := none }) (v := .int .i64 (f : Int)) rfl (by kernel_rfl) (by kernel_rfl) (by kernel_rfl) (fun _ _ _ h => h) (Or.inl ⟨by rfl, fun w' hw' => by (clear hw'; go_simp)⟩) hHeld ?_
      simp only [Act.put, List.setIfInBounds_toArray, List.set_cons_zero, List.set_cons_succ]
      refine wpAnyH_ready (rs := [16]) (by kernel_rfl) (by simp) ?_
      refine (AllReadyH.cons (o := { dst := some 6, op := Op.alloc 56, type := 0, pos := "shelf.go:66", after := #[], guard := none }) rfl (fun K hK => ?_) AllReadyH.nil)
      go_simp
      refine hK.out _ _ (HK1.out.alloc _) (fun hh => ?_)
      clear hK K hHeld
      have hHeld := hh
      clear hh
      try simp only [Act.put, List.setIfInBounds_toArray, List.set_cons_zero, List.set_cons_succ]
      refine wpAnyH_ready (rs := [17]) (by kernel_rfl) (by simp) ?_
      refine (AllReadyH.cons (o := { dst := none, op := Op.store 56 (Operand.tmp 6) (Operand.tmp 29), type := 0, pos := "shelf.go:66", after := #[{ on := 16, ground := Ground.data }, { on := 14, ground := Ground.data }, { on := 12, ground := Ground.chain }, { on := 0, ground := Ground.phase }, { on := 1, ground := Ground.phase }, { on := 2, ground := Ground.phase }, { on := 3, ground := Ground.phase }, { on := 4, ground := Ground.phase }, { on := 5, ground := Ground.phase }, { on := 6, ground := Ground.phase }, { on := 7, ground := Ground.phase }, { on := 8, ground := Ground.phase }, { on := 9, ground := Ground.phase }, { on := 10, ground := Ground.phase }, { on := 11, ground := Ground.phase }, { on := 12, ground := Ground.phase }, { on := 13, ground := Ground.phase }, { on := 14, ground := Ground.phase }, { on := 15, ground := Ground.textOnly Departure.lateStores }, { on := 16, ground := Ground.phase }], guard := none }) rfl (fun K hK => ?_) AllReadyH.nil)
      refine wp_skipE (exec_storeE 56 _ _ rfl (w1.heap.size) 0 cy.toArray rfl rfl (by show World.there _ _ _ cy.length; rw [HCL.out]; exact HTA.out w1) HICA.out HC1.out) ?_
      try simp only [Act.put, List.setIfInBounds_toArray, List.set_cons_zero, List.set_cons_succ]
      refine hK.out _ _ (kp_set (HK1.out.alloc _) (Or.inr (by have a1 := HK1.out.size; have a2 := HBL.out; have a3 := HV1.out; first | omega | (simp at *; omega))) _ _) (fun hh => ?_)
      clear hK K hHeld
      have hHeld := hh
      clear hh
      try simp only [Act.put, List.setIfInBounds_toArray, List.set_cons_zero, List.set_cons_succ]
      refine wpAnyH_take (i := 18) (oi := { dst := some 7, op := Op.assign (Operand.tmp 30), type := 26, pos := "shelf.go:66", after := #[{ on := 15, ground := Ground.data }, { on := 17, ground := Ground.chain }, { on := 0, ground := Ground.phase }, { on := 1, ground := Ground.phase }, { on := 2, ground := Ground.phase }, { on := 3, ground := Ground.phase }, { on := 4, ground := Ground.phase }, { on := 5, ground := Ground.phase }, { on := 6, ground := Ground.phase }, { on := 7, ground := Ground.phase }, { on := 8, ground := Ground.phase }, { on := 9, ground := Ground.phase }, { on := 10, ground := Ground.phase }, { on := 11, ground := Ground.phase }, { on := 12, ground := Ground.phase }, { on := 13, ground := Ground.phase }, { on := 14, ground := Ground.phase }, { on := 15, ground := Ground.phase }, { on := 16, ground := Ground.phase }, { on := 17, ground := Ground.phase }], guard := none }) (v := .int .i64 (f : Int)) rfl (by kernel_rfl) (by kernel_rfl) (by kernel_rfl) (fun _ _ _ h => h) (Or.inl ⟨by rfl, fun w' hw' => by (clear hw'; go_simp)⟩) hHeld ?_
      simp only [Act.put, List.setIfInBounds_toArray, List.set_cons_zero, List.set_cons_succ]
      refine wpAnyH_done (by kernel_rfl) ?_ _
      clear hHeld
      have HK5 : Hid (Kp (fun x => x = b) W0 ((w1.alloc (.cells Z.toArray 56)).setCells (w1.heap.size) 0 cy)) := kp_set (HK1.out.alloc _) (Or.inr (by have a1 := HK1.out.size; have a2 := HBL.out; have a3 := HV1.out; first | omega | (simp at *; omega))) _ _
      have HR5 : Hid (((w1.alloc (.cells Z.toArray 56)).setCells (w1.heap.size) 0 cy).rangeAt (w1.heap.size) 0 cy) := World.rangeAt_setCells_same _ _ _ _ (by rw [HCL.out]; exact HTA.out w1)
      have HG5 : Hid (Kp (fun x => x = w1.heap.size) w1 ((w1.alloc (.cells Z.toArray 56)).setCells (w1.heap.size) 0 cy)) := kp_set ((Kp.refl (fun x => x = w1.heap.size) w1).alloc _) (Or.inl rfl) _ _
      have HT5 : Hid (TabX ((w1.alloc (.cells Z.toArray 56)).setCells (w1.heap.size) 0 cy) b) := HY.out.2.2.kp HG5.out (by have a1 := HK1.out.size; have a2 := HBL.out; have a3 := HV1.out; first | omega | (simp at *; omega))
      have HYB5 : Hid (BySlS (fun x => W0.heap.size ≤ x ∧ x < ((w1.alloc (.cells Z.toArray 56)).setCells (w1.heap.size) 0 cy).heap.size) ((w1.alloc (.cells Z.toArray 56)).setCells (w1.heap.size) 0 cy) (elV y) y.1.2.2) := bySlS_kp HYB.out HG5.out (fun x hx => by have := HG5.out.size; have a1 := HK1.out.size; have a2 := HBL.out; have a3 := HV1.out; first | omega | (simp at *; omega))
      have HG6 : Hid (W0.heap.size ≤ w1.heap.size ∧ w1.heap.size < ((w1.alloc (.cells Z.toArray 56)).setCells (w1.heap.size) 0 cy).heap.size) := by have := HG5.out.size; have a1 := HK1.out.size; have a2 := HBL.out; have a3 := HV1.out; rw [Hid, setCells_size]; first | omega | (simp at *; omega)
      clear HYB HG5 HV1 HKV HK1
      generalize (w1.alloc (.cells Z.toArray 56)).setCells (w1.heap.size) 0 cy = V5 at *
      obtain ⟨g6, hg6⟩ : ∃ x, x = w1.heap.size := ⟨_, rfl⟩
      rw [← hg6] at HR5 ⊢
      have HG7 : Hid (W0.heap.size ≤ g6 ∧ g6 < V5.heap.size) := by rw [hg6]; exact HG6.out
      clear HG6 hg6
      have HG6 := hid HG7.out
      clear HG7
      have HICL : Hid ((Tryz.prog.info? 56).map (·.size) = some cy.length) := by rw [Hid, HCL.out]; exact HIC.out
      have HICA : Hid ((Tryz.prog.info? 56).map (·.size) = some cy.toArray.size) := HICL.out
      have HZ2 : Hid (Z.toArray.size = 34) := HZL.out
      by_cases hf : f = 0
      · subst hf
        have HOK := hid (gspec_ok HY.out.2.1)
        have HSZ := hid (fun V (k : Kp No V5 V) => size_any y V HY.out.1 ((bySlS_kp HYB5.out k (S' := fun x => x < V.heap.size) (fun g hg => ⟨fun x => x, hg.2, Nat.lt_of_lt_of_le hg.2 k.size⟩)).to (fun g hg => hg)) HOK.out)
        rw [HCY.out] at HSZ
        have HQ5 : Hid (∀ V, Kp No V5 V → V.cell? ⟨w.heap.size, 2, none⟩ = some (.int .i64 ln)) := fun V k => (HX.out V (HK5.out.andNone k)).2.2.2.2
        obtain ⟨t, ht⟩ : ∃ t : Nat, 49 + y.1.2.2.length = t := ⟨_, rfl⟩
        have HTT := hid ht
        rw [ht] at HSZ
        clear ht
        by_cases hlt : (t : Int) = ln
        · have HLT := hid hlt
          go_wp2_with fail
          refine wp_region_held_drew (S := fun V => Kp No V5 V) (by kernel_rfl) ((Kp.refl _ _).drew) (fun hHeld => ?_)
          refine wpAnyH_take (i := 2) (oi := { dst := some 37, op := Op.fieldAddr 51 (Operand.tmp 3) 2, type := 0, pos := "shelf.go:70", after := #[], guard := none }) (v := .pointer (some ⟨w.heap.size, 2, none⟩)) rfl (by kernel_rfl) (by kernel_rfl) (by kernel_rfl) (fun _ _ _ h => h) (Or.inl ⟨by rfl, fun w' hw' => by (clear hw'; go_simp)⟩) hHeld ?_
          simp only [Act.put, List.setIfInBounds_toArray, List.set_cons_zero, List.set_cons_succ]
          refine wpAnyH_take (i := 0) (oi := { dst := some 35, op := Op.load 56 (Operand.tmp 6), type := 56, pos := "shelf.go:70", after := #[], guard := none }) (v := .agg cy.toArray) rfl (by kernel_rfl) (by kernel_rfl) (by kernel_rfl) (fun _ _ _ h => h) (yieldsIf_load_mid (by rfl) _ _ rfl g6 0 rfl cy _ (fun V hV => rangeAt_below HR5.out hV.toBelow' HG6.out.2) Tryz.underlying56 rfl HICL.out) hHeld ?_
          simp only [Act.put, List.setIfInBounds_toArray, List.set_cons_zero, List.set_cons_succ]
          refine wpAnyH_take (i := 3) (oi := { dst := some 38, op := Op.load 3 (Operand.tmp 37), type := 3, pos := "shelf.go:70", after := #[{ on := 2, ground := Ground.data }], guard := none }) (v := .int .i64 ln) rfl (by kernel_rfl) (by kernel_rfl) (by kernel_rfl) (fun _ _ _ h => h) (Or.inl ⟨by rfl, fun w' hw' => by (have q0 := HQ5.out w' hw'; clear hw'; go_simp)⟩) hHeld ?_
          simp only [Act.put, List.setIfInBounds_toArray, List.set_cons_zero, List.set_cons_succ]
          refine wpAnyH_ready (rs := [1]) (by kernel_rfl) (by simp) ?_
          refine (AllReadyH.cons (o := { dst := some 36, op := Op.call { callee := Callee.value (Operand.func 44), args := #[Operand.tmp 35], argTypes := #[56] }, type := 3, pos := "shelf.go:70", after := #[{ on := 0, ground := Ground.data }], guard := none }) rfl (fun K hK => ?_) AllReadyH.nil)
          go_simp
          refine (HSZ.out _ ((Kp.refl _ _).drew)).mono ?_
          rintro e w8 ⟨rfl, hb8⟩
          have HK8 : Hid (Kp No V5 w8) := kp_bel ((Kp.refl No V5).drew) hb8
          clear hb8
          go_wp2_with fail
          refine hK.out _ _ (HK8.out) (fun hh => ?_)
          clear hK K hHeld
          have hHeld := hh
          clear hh
          try simp only [Act.put, List.setIfInBounds_toArray, List.set_cons_zero, List.set_cons_succ]
          refine wpAnyH_take (i := 4) (oi := { dst := some 39, op := Op.binOp BinOp.neq 3 (Operand.tmp 36) (Operand.tmp 38) 3, type := 4, pos := "shelf.go:70", after := #[{ on := 1, ground := Ground.data }, { on := 3, ground := Ground.data }], guard := none }) (v := .bool false) rfl (by kernel_rfl) (by kernel_rfl) (by kernel_rfl) (fun _ _ _ h => h) (Or.inl ⟨by rfl, fun w' hw' => by (clear hw'; go_simp)⟩) hHeld ?_
          simp only [Act.put, List.setIfInBounds_toArray, List.set_cons_zero, List.set_cons_succ]
          refine wpAnyH_done (by kernel_rfl) ?_ _
          clear hHeld
          have HR8 : Hid (w8.rangeAt g6 0 cy) := rangeAt_below HR5.out HK8.out.toBelow' HG6.out.2
          clear hlt
          go_wp2_with (first | (refine wpList_load_mid (by rfl) 56 _ (by rfl) g6 0 (by rfl) cy _ HR8.out Tryz.underlying56 rfl HICL.out ?_) | (refine wpList_store_mid (by rfl) 56 _ _ (by rfl) (w.heap.size + 1) 0 cy.toArray (by rfl) (by rfl) (by have h := HRT.out _ (HK5.out.andNone HK8.out); rw [HZ2.out] at h; show World.there _ _ _ cy.length; rw [HCL.out]; exact h) HICA.out HC1.out ?_))
          have HR : Hid (World.rangeAt ((w8).setCells (w.heap.size + 1) 0 cy) (w.heap.size + 1) 0 cy) := World.rangeAt_setCells_same _ _ _ _ (by rw [HCL.out]; have h := HRT.out _ (HK5.out.andNone HK8.out); rwa [HZ2.out] at h)
          refine bodyPost_ret (v := .tuple #[.agg cy.toArray, .int .i64 0]) (results_cell_mid2 Tryz.results20 _ _ (w.heap.size + 1) 0 _ _ rfl HR.out Tryz.underlying56 rfl HICL.out) rfl ?_
          have hk9 : Kp (fun x => x = b) w ((w8).setCells (w.heap.size + 1) 0 cy) := kp_set (HK0.out.ofNo.trans (HK5.out.andNone HK8.out) (fun x hx => .inl hx)) (Or.inr (by omega)) _ _
          have ht9 : TabX ((w8).setCells (w.heap.size + 1) 0 cy) b := (HT5.out.kp (HK8.out) (fun x => x)).kp (kp_set (Kp.refl (fun x => x = w.heap.size + 1) _) (Or.inl rfl) _ _) (by omega)
          refine ⟨y, _, ?_, HY.out.1, ?_, .inr ⟨by omega, y, _, HY.out.2.1, .inr (.inr ⟨rfl, by rw [HTT.out]; exact HLT.out, rfl, rfl⟩)⟩, hk9, ht9⟩
          · (rw [HCY.out]) <;> rfl
          · refine bySlS_kp (L := fun x => x = w.heap.size + 1) HYB5.out ((Kp.below HK8.out.toBelow').trans (kp_set (Kp.refl (fun x => x = w.heap.size + 1) _) (Or.inl rfl) _ _) (fun x hx => .inl hx)) (fun g hg => ?_); have := HS0.out; have := HK8.out.size; rw [setCells_size]; omega
        · have HLT := hid hlt
          go_wp2_with fail
          refine wp_region_held_drew (S := fun V => Kp No V5 V) (by kernel_rfl) ((Kp.refl _ _).drew) (fun hHeld => ?_)
          refine wpAnyH_take (i := 2) (oi := { dst := some 37, op := Op.fieldAddr 51 (Operand.tmp 3) 2, type := 0, pos := "shelf.go:70", after := #[], guard := none }) (v := .pointer (some ⟨w.heap.size, 2, none⟩)) rfl (by kernel_rfl) (by kernel_rfl) (by kernel_rfl) (fun _ _ _ h => h) (Or.inl ⟨by rfl, fun w' hw' => by (clear hw'; go_simp)⟩) hHeld ?_
          simp only [Act.put, List.setIfInBounds_toArray, List.set_cons_zero, List.set_cons_succ]
          refine wpAnyH_take (i := 0) (oi := { dst := some 35, op := Op.load 56 (Operand.tmp 6), type := 56, pos := "shelf.go:70", after := #[], guard := none }) (v := .agg cy.toArray) rfl (by kernel_rfl) (by kernel_rfl) (by kernel_rfl) (fun _ _ _ h => h) (yieldsIf_load_mid (by rfl) _ _ rfl g6 0 rfl cy _ (fun V hV => rangeAt_below HR5.out hV.toBelow' HG6.out.2) Tryz.underlying56 rfl HICL.out) hHeld ?_
          simp only [Act.put, List.setIfInBounds_toArray, List.set_cons_zero, List.set_cons_succ]
          refine wpAnyH_take (i := 3) (oi := { dst := some 38, op := Op.load 3 (Operand.tmp 37), type := 3, pos := "shelf.go:70", after := #[{ on := 2, ground := Ground.data }], guard := none }) (v := .int .i64 ln) rfl (by kernel_rfl) (by kernel_rfl) (by kernel_rfl) (fun _ _ _ h => h) (Or.inl ⟨by rfl, fun w' hw' => by (have q0 := HQ5.out w' hw'; clear hw'; go_simp)⟩) hHeld ?_
          simp only [Act.put, List.setIfInBounds_toArray, List.set_cons_zero, List.set_cons_succ]
          refine wpAnyH_ready (rs := [1]) (by kernel_rfl) (by simp) ?_
          refine (AllReadyH.cons (o := { dst := some 36, op := Op.call { callee := Callee.value (Operand.func 44), args := #[Operand.tmp 35], argTypes := #[56] }, type := 3, pos := "shelf.go:70", after := #[{ on := 0, ground := Ground.data }], guard := none }) rfl (fun K hK => ?_) AllReadyH.nil)
          go_simp
          refine (HSZ.out _ ((Kp.refl _ _).drew)).mono ?_
          rintro e w8 ⟨rfl, hb8⟩
          have HK8 : Hid (Kp No V5 w8) := kp_bel ((Kp.refl No V5).drew) hb8
          clear hb8
          go_wp2_with fail
          refine hK.out _ _ (HK8.out) (fun hh => ?_)
          clear hK K hHeld
          have hHeld := hh
          clear hh
          try simp only [Act.put, List.setIfInBounds_toArray, List.set_cons_zero, List.set_cons_succ]
          refine wpAnyH_take (i := 4) (oi := { dst := some 39, op := Op.binOp BinOp.neq 3 (Operand.tmp 36) (Operand.tmp 38) 3, type := 4, pos := "shelf.go:70", after := #[{ on := 1, ground := Ground.data }, { on := 3, ground := Ground.data }], guard := none }) (v := .bool true) rfl (by kernel_rfl) (by kernel_rfl) (by kernel_rfl) (fun _ _ _ h => h) (Or.inl ⟨by rfl, fun w' hw' => by (clear hw'; go_simp)⟩) hHeld ?_
          simp only [Act.put, List.setIfInBounds_toArray, List.set_cons_zero, List.set_cons_succ]
          refine wpAnyH_done (by kernel_rfl) ?_ _
          clear hHeld
          clear hlt
          go_wp2_with (refine wpList_store_mid (by rfl) 56 _ _ (by rfl) (w.heap.size + 1) 0 Z.toArray (by rfl) (by rfl) (HRT.out _ (HK5.out.andNone HK8.out)) HI2.out H1.out ?_)
          have HR : Hid (World.rangeAt ((w8).setCells (w.heap.size + 1) 0 Z) (w.heap.size + 1) 0 Z) := World.rangeAt_setCells_same _ _ _ _ (HRT.out _ (HK5.out.andNone HK8.out))
          refine bodyPost_ret (v := .tuple #[.agg Z.toArray, .int .i64 4]) (results_cell_mid2 Tryz.results20 _ _ (w.heap.size + 1) 0 _ _ rfl HR.out Tryz.underlying56 rfl HI2.out) rfl ?_
          have hk9 : Kp (fun x => x = b) w ((w8).setCells (w.heap.size + 1) 0 Z) := kp_set (HK0.out.ofNo.trans (HK5.out.andNone HK8.out) (fun x hx => .inl hx)) (Or.inr (by omega)) _ _
          have ht9 : TabX ((w8).setCells (w.heap.size + 1) 0 Z) b := (HT5.out.kp (HK8.out) (fun x => x)).kp (kp_set (Kp.refl (fun x => x = w.heap.size + 1) _) (Or.inl rfl) _ _) (by omega)
          refine ⟨zE, _, ?_, zE_ok, ?_, .inr ⟨by omega, y, _, HY.out.2.1, .inr (.inl ⟨rfl, by rw [HTT.out]; exact HLT.out, rfl, rfl⟩)⟩, hk9, ht9⟩
          · (rw [zE_cells, HZ.out]) <;> rfl
          · exact BySlS.none _ _
      · have hfI : ¬ ((f : Int) = 0) := by omega
        have HF := hid hf
        clear hf
        go_wp2_with (refine wpList_store_mid (by rfl) 56 _ _ (by rfl) (w.heap.size + 1) 0 Z.toArray (by rfl) (by rfl) (HRT.out _ HK5.out) HI2.out H1.out ?_)
        have HR : Hid (World.rangeAt ((V5).setCells (w.heap.size + 1) 0 Z) (w.heap.size + 1) 0 Z) := World.rangeAt_setCells_same _ _ _ _ (HRT.out _ (HK5.out))
        refine bodyPost_ret (v := .tuple #[.agg Z.toArray, .int .i64 (f : Int)]) (results_cell_mid2 Tryz.results20 _ _ (w.heap.size + 1) 0 _ _ rfl HR.out Tryz.underlying56 rfl HI2.out) rfl ?_
        have hk9 : Kp (fun x => x = b) w ((V5).setCells (w.heap.size + 1) 0 Z) := kp_set (HK0.out.ofNo.trans (HK5.out) (fun x hx => .inl hx)) (Or.inr (by omega)) _ _
        have ht9 : TabX ((V5).setCells (w.heap.size + 1) 0 Z) b := (HT5.out.kp (Kp.refl No V5) (fun x => x)).kp (kp_set (Kp.refl (fun x => x = w.heap.size + 1) _) (Or.inl rfl) _ _) (by omega)
        refine ⟨zE, _, ?_, zE_ok, ?_, .inr ⟨by omega, y, _, HY.out.2.1, .inl ⟨HF.out, rfl, rfl⟩⟩, hk9, ht9⟩
        · (rw [zE_cells, HZ.out]) <;> rfl
        · exact BySlS.none _ _
    · go_simp
      refine hK.out _ _ (((Kp.refl (fun x => x = b) W0).drew).alloc _) (fun hh => ?_)
      clear hK K hHeld
      have hHeld := hh
      clear hh
      try simp only [Act.put, List.setIfInBounds_toArray, List.set_cons_zero, List.set_cons_succ]
      refine wpAnyH_ready (rs := [12]) (by kernel_rfl) (by simp) ?_
      refine (AllReadyH.cons (o := { dst := some 28, op := Op.call { callee := Callee.value (Operand.func 43), args := #[Operand.tmp 19, Operand.tmp 23, Operand.tmp 25, Operand.tmp 27], argTypes := #[25, 32, 3, 3] }, type := 65, pos := "shelf.go:66", after := #[{ on := 3, ground := Ground.data }, { on := 7, ground := Ground.data }, { on := 9, ground := Ground.data }, { on := 11, ground := Ground.data }], guard := none }) rfl (fun K hK => ?_) AllReadyH.nil)
      go_simp
      refine (HGET.out (W0.drew.alloc (.cells Z.toArray 56)) (((Kp.refl No W0).drew).alloc _)).mono ?_
      rintro e w1 ⟨y, f, rfl, hyo, hyb, hsp, hk, ht⟩
      have HK1 : Hid (Kp (fun x => x = b) W0 w1) := (((Kp.refl (fun x => x = b) W0).drew).alloc _).trans (kp_kept hk) (fun x hx => .inl hx)
      have HKV : Hid (Kp (fun x => x = b) (W0.drew.alloc (.cells Z.toArray 56)) w1) := kp_kept hk
      have HY := hid (And.intro hyo (And.intro hsp ht))
      have HYB : Hid (BySlS (fun g => (W0.drew.alloc (.cells Z.toArray 56)).heap.size ≤ g ∧ g < w1.heap.size) w1 (elV y) y.1.2.2) := hyb
      have HV1 : Hid ((W0.drew.alloc (.cells Z.toArray 56)).heap.size ≤ w1.heap.size) := HKV.out.size
      have HCL : Hid ((elC y).length = 34) := elC_length hyo
      have HC1 : Hid ((elC y).toArray.all (·.oneCell') = true) := all_oneCell_toArray (elC_one y)
      obtain ⟨cy, hcy⟩ : ∃ cy, elC y = cy := ⟨_, rfl⟩
      have HCY := hid hcy
      rw [hcy] at HCL HC1
      have HICL : Hid ((Tryz.prog.info? 56).map (·.size) = some cy.length) := by rw [Hid, HCL.out]; exact HIC.out
      have HICA : Hid ((Tryz.prog.info? 56).map (·.size) = some cy.toArray.size) := HICL.out
      rw [hcy]
      clear hcy hyo hyb hsp hk ht HGET
      go_wp2_with fail
      refine hK.out _ _ (HK1.out) (fun hh => ?_)
      clear hK K hHeld
      have hHeld := hh
      clear hh
      try simp only [Act.put, List.setIfInBounds_toArray, List.set_cons_zero, List.set_cons_succ]
      refine wpAnyH_take (i := 13) (oi := { dst := some 15, op := Op.move (Operand.tmp 28), type := 65, pos := "shelf.go:66", after := #[{ on := 12, ground := Ground.data }], guard := none }) (v := .tuple #[.agg cy.toArray, .int .i64 (f : Int)]) rfl (by kernel_rfl) (by kernel_rfl) (by kernel_rfl) (fun _ _ _ h => h) (Or.inl ⟨by rfl, fun w' hw' => by (clear hw'; go_simp)⟩) hHeld ?_
      simp only [Act.put, List.setIfInBounds_toArray, List.set_cons_zero, List.set_cons_succ]
      refine wpAnyH_take (i := 14) (oi := { dst := some 29, op := Op.extract (Operand.tmp 15) 0, type := 56, pos := "shelf.go:66", after := #[{ on := 13, ground := Ground.data }], guard := none }) (v := .agg cy.toArray) rfl (by kernel_rfl) (by kernel_rfl) (by kernel_rfl) (fun _ _ _ h => h) (Or.inl ⟨by rfl, fun w' hw' => by (clear hw'; go_simp)⟩) hHeld ?_
      simp only [Act.put, List.setIfInBounds_toArray, List.set_cons_zero, List.set_cons_succ]
      refine wpAnyH_take (i := 15) (oi := { dst := some 30, op := Op.extract (Operand.tmp 15) 1, type := 26, pos := "shelf.go:66", after := #[{ on := 13, ground := Ground.data }, { on := 17, ground := Ground.gcOnly Departure.lateStores }], guard := none }) (v := .int .i64 (f : Int)) rfl (by kernel_rfl) (by kernel_rfl) (by kernel_rfl) (fun _ _ _ h => h) (Or.inl ⟨by rfl, fun w' hw' => by (clear hw'; go_simp)⟩) hHeld ?_
      simp only [Act.put, List.setIfInBounds_toArray, List.set_cons_zero, List.set_cons_succ]
      refine wpAnyH_ready (rs := [17]) (by kernel_rfl) (by simp) ?_
      refine (AllReadyH.cons (o := { dst := none, op := Op.store 56 (Operand.tmp 6) (Operand.tmp 29), type := 0, pos := "shelf.go:66", after := #[{ on := 16, ground := Ground.data }, { on := 14, ground := Ground.data }, { on := 12, ground := Ground.chain }, { on := 0, ground := Ground.phase }, { on := 1, ground := Ground.phase }, { on := 2, ground := Ground.phase }, { on := 3, ground := Ground.phase }, { on := 4, ground := Ground.phase }, { on := 5, ground := Ground.phase }, { on := 6, ground := Ground.phase }, { on := 7, ground := Ground.phase }, { on := 8, ground := Ground.phase }, { on := 9, ground := Ground.phase }, { on := 10, ground := Ground.phase }, { on := 11, ground := Ground.phase }, { on := 12, ground := Ground.phase }, { on := 13, ground := Ground.phase }, { on := 14, ground := Ground.phase }, { on := 15, ground := Ground.textOnly Departure.lateStores }, { on := 16, ground := Ground.phase }], guard := none }) rfl (fun K hK => ?_) AllReadyH.nil)
      refine wp_skipE (exec_storeE 56 _ _ rfl (W0.heap.size) 0 cy.toArray rfl rfl (by show World.there _ _ _ cy.length; rw [HCL.out]; exact HTB.out w1 HKV.out) HICA.out HC1.out) ?_
      try simp only [Act.put, List.setIfInBounds_toArray, List.set_cons_zero, List.set_cons_succ]
      refine hK.out _ _ (kp_set (HK1.out) (Or.inr (by have a1 := HK1.out.size; have a2 := HBL.out; have a3 := HV1.out; first | omega | (simp at *; omega))) _ _) (fun hh => ?_)
      clear hK K hHeld
      have hHeld := hh
      clear hh
      try simp only [Act.put, List.setIfInBounds_toArray, List.set_cons_zero, List.set_cons_succ]
      refine wpAnyH_take (i := 18) (oi := { dst := some 7, op := Op.assign (Operand.tmp 30), type := 26, pos := "shelf.go:66", after := #[{ on := 15, ground := Ground.data }, { on := 17, ground := Ground.chain }, { on := 0, ground := Ground.phase }, { on := 1, ground := Ground.phase }, { on := 2, ground := Ground.phase }, { on := 3, ground := Ground.phase }, { on := 4, ground := Ground.phase }, { on := 5, ground := Ground.phase }, { on := 6, ground := Ground.phase }, { on := 7, ground := Ground.phase }, { on := 8, ground := Ground.phase }, { on := 9, ground := Ground.phase }, { on := 10, ground := Ground.phase }, { on := 11, ground := Ground.phase }, { on := 12, ground := Ground.phase }, { on := 13, ground := Ground.phase }, { on := 14, ground := Ground.phase }, { on := 15, ground := Ground.phase }, { on := 16, ground := Ground.phase }, { on := 17, ground := Ground.phase }], guard := none }) (v := .int .i64 (f : Int)) rfl (by kernel_rfl) (by kernel_rfl) (by kernel_rfl) (fun _ _ _ h => h) (Or.inl ⟨by rfl, fun w' hw' => by (clear hw'; go_simp)⟩) hHeld ?_
      simp only [Act.put, List.setIfInBounds_toArray, List.set_cons_zero, List.set_cons_succ]
      refine wpAnyH_done (by kernel_rfl) ?_ _
      clear hHeld
      have HK5 : Hid (Kp (fun x => x = b) W0 ((w1).setCells (W0.heap.size) 0 cy)) := kp_set (HK1.out) (Or.inr (by have a1 := HK1.out.size; have a2 := HBL.out; have a3 := HV1.out; first | omega | (simp at *; omega))) _ _
      have HR5 : Hid (((w1).setCells (W0.heap.size) 0 cy).rangeAt (W0.heap.size) 0 cy) := World.rangeAt_setCells_same _ _ _ _ (by rw [HCL.out]; exact HTB.out w1 HKV.out)
      have HG5 : Hid (Kp (fun x => x = W0.heap.size) w1 ((w1).setCells (W0.heap.size) 0 cy)) := kp_set (Kp.refl (fun x => x = W0.heap.size) w1) (Or.inl rfl) _ _
      have HT5 : Hid (TabX ((w1).setCells (W0.heap.size) 0 cy) b) := HY.out.2.2.kp HG5.out (by have a1 := HK1.out.size; have a2 := HBL.out; have a3 := HV1.out; first | omega | (simp at *; omega))
      have HYB5 : Hid (BySlS (fun x => W0.heap.size ≤ x ∧ x < ((w1).setCells (W0.heap.size) 0 cy).heap.size) ((w1).setCells (W0.heap.size) 0 cy) (elV y) y.1.2.2) := bySlS_kp HYB.out HG5.out (fun x hx => by have := HG5.out.size; have a1 := HK1.out.size; have a2 := HBL.out; have a3 := HV1.out; first | omega | (simp at *; omega))
      have HG6 : Hid (W0.heap.size ≤ W0.heap.size ∧ W0.heap.size < ((w1).setCells (W0.heap.size) 0 cy).heap.size) := by have := HG5.out.size; have a1 := HK1.out.size; have a2 := HBL.out; have a3 := HV1.out; rw [Hid, setCells_size]; first | omega | (simp at *; omega)
      clear HYB HG5 HV1 HKV HK1
      generalize (w1).setCells (W0.heap.size) 0 cy = V5 at *
      obtain ⟨g6, hg6⟩ : ∃ x, x = W0.heap.size := ⟨_, rfl⟩
      rw [← hg6] at HR5 ⊢
      have HG7 : Hid (W0.heap.size ≤ g6 ∧ g6 < V5.heap.size) := by rw [hg6]; exact HG6.out
      clear HG6 hg6
      have HG6 := hid HG7.out
      clear HG7
      have HICL : Hid ((Tryz.prog.info? 56).map (·.size) = some cy.length) := by rw [Hid, HCL.out]; exact HIC.out
      have HICA : Hid ((Tryz.prog.info? 56).map (·.size) = some cy.toArray.size) := HICL.out
      have HZ2 : Hid (Z.toArray.size = 34) := HZL.out
      by_cases hf : f = 0
      · subst hf
        have HOK := hid (gspec_ok HY.out.2.1)
        have HSZ := hid (fun V (k : Kp No V5 V) => size_any y V HY.out.1 ((bySlS_kp HYB5.out k (S' := fun x => x < V.heap.size) (fun g hg => ⟨fun x => x, hg.2, Nat.lt_of_lt_of_le hg.2 k.size⟩)).to (fun g hg => hg)) HOK.out)
        rw [HCY.out] at HSZ
        have HQ5 : Hid (∀ V, Kp No V5 V → V.cell? ⟨w.heap.size, 2, none⟩ = some (.int .i64 ln)) := fun V k => (HX.out V (HK5.out.andNone k)).2.2.2.2
        obtain ⟨t, ht⟩ : ∃ t : Nat, 49 + y.1.2.2.length = t := ⟨_, rfl⟩
        have HTT := hid ht
        rw [ht] at HSZ
        clear ht
        by_cases hlt : (t : Int) = ln
        · have HLT := hid hlt
          go_wp2_with fail
          refine wp_region_held_drew (S := fun V => Kp No V5 V) (by kernel_rfl) ((Kp.refl _ _).drew) (fun hHeld => ?_)
          refine wpAnyH_take (i := 2) (oi := { dst := some 37, op := Op.fieldAddr 51 (Operand.tmp 3) 2, type := 0, pos := "shelf.go:70", after := #[], guard := none }) (v := .pointer (some ⟨w.heap.size, 2, none⟩)) rfl (by kernel_rfl) (by kernel_rfl) (by kernel_rfl) (fun _ _ _ h => h) (Or.inl ⟨by rfl, fun w' hw' => by (clear hw'; go_simp)⟩) hHeld ?_
          simp only [Act.put, List.setIfInBounds_toArray, List.set_cons_zero, List.set_cons_succ]
          refine wpAnyH_take (i := 0) (oi := { dst := some 35, op := Op.load 56 (Operand.tmp 6), type := 56, pos := "shelf.go:70", after := #[], guard := none }) (v := .agg cy.toArray) rfl (by kernel_rfl) (by kernel_rfl) (by kernel_rfl) (fun _ _ _ h => h) (yieldsIf_load_mid (by rfl) _ _ rfl g6 0 rfl cy _ (fun V hV => rangeAt_below HR5.out hV.toBelow' HG6.out.2) Tryz.underlying56 rfl HICL.out) hHeld ?_
          simp only [Act.put, List.setIfInBounds_toArray, List.set_cons_zero, List.set_cons_succ]
          refine wpAnyH_take (i := 3) (oi := { dst := some 38, op := Op.load 3 (Operand.tmp 37), type := 3, pos := "shelf.go:70", after := #[{ on := 2, ground := Ground.data }], guard := none }) (v := .int .i64 ln) rfl (by kernel_rfl) (by kernel_rfl) (by kernel_rfl) (fun _ _ _ h => h) (Or.inl ⟨by rfl, fun w' hw' => by (have q0 := HQ5.out w' hw'; clear hw'; go_simp)⟩) hHeld ?_
          simp only [Act.put, List.setIfInBounds_toArray, List.set_cons_zero, List.set_cons_succ]
          refine wpAnyH_ready (rs := [1]) (by kernel_rfl) (by simp) ?_
          refine (AllReadyH.cons (o := { dst := some 36, op := Op.call { callee := Callee.value (Operand.func 44), args := #[Operand.tmp 35], argTypes := #[56] }, type := 3, pos := "shelf.go:70", after := #[{ on := 0, ground := Ground.data }], guard := none }) rfl (fun K hK => ?_) AllReadyH.nil)
          go_simp
          refine (HSZ.out _ ((Kp.refl _ _).drew)).mono ?_
          rintro e w8 ⟨rfl, hb8⟩
          have HK8 : Hid (Kp No V5 w8) := kp_bel ((Kp.refl No V5).drew) hb8
          clear hb8
          go_wp2_with fail
          refine hK.out _ _ (HK8.out) (fun hh => ?_)
          clear hK K hHeld
          have hHeld := hh
          clear hh
          try simp only [Act.put, List.setIfInBounds_toArray, List.set_cons_zero, List.set_cons_succ]
          refine wpAnyH_take (i := 4) (oi := { dst := some 39, op := Op.binOp BinOp.neq 3 (Operand.tmp 36) (Operand.tmp 38) 3, type := 4, pos := "shelf.go:70", after := #[{ on := 1, ground := Ground.data }, { on := 3, ground := Ground.data }], guard := none }) (v := .bool false) rfl (by kernel_rfl) (by kernel_rfl) (by kernel_rfl) (fun _ _ _ h => h) (Or.inl ⟨by rfl, fun w' hw' => by (clear hw'; go_simp)⟩) hHeld ?_
          simp only [Act.put, List.setIfInBounds_toArray, List.set_cons_zero, List.set_cons_succ]
          refine wpAnyH_done (by kernel_rfl) ?_ _
          clear hHeld
          have HR8 : Hid (w8.rangeAt g6 0 cy) := rangeAt_below HR5.out HK8.out.toBelow' HG6.out.2
          clear hlt
          go_wp2_with (first | (refine wpList_load_mid (by rfl) 56 _ (by rfl) g6 0 (by rfl) cy _ HR8.out Tryz.underlying56 rfl HICL.out ?_) | (refine wpList_store_mid (by rfl) 56 _ _ (by rfl) (w.heap.size + 1) 0 cy.toArray (by rfl) (by rfl) (by have h := HRT.out _ (HK5.out.andNone HK8.out); rw [HZ2.out] at h; show World.there _ _ _ cy.length; rw [HCL.out]; exact h) HICA.out HC1.out ?_))
          have HR : Hid (World.rangeAt ((w8).setCells (w.heap.size + 1) 0 cy) (w.heap.size + 1) 0 cy) := World.rangeAt_setCells_same _ _ _ _ (by rw [HCL.out]; have h := HRT.out _ (HK5.out.andNone HK8.out); rwa [HZ2.out] at h)
          refine bodyPost_ret (v := .tuple #[.agg cy.toArray, .int .i64 0]) (results_cell_mid2 Tryz.results20 _ _ (w.heap.size + 1) 0 _ _ rfl HR.out Tryz.underlying56 rfl HICL.out) rfl ?_
          have hk9 : Kp (fun x => x = b) w ((w8).setCells (w.heap.size + 1) 0 cy) := kp_set (HK0.out.ofNo.trans (HK5.out.andNone HK8.out) (fun x hx => .inl hx)) (Or.inr (by omega)) _ _
          have ht9 : TabX ((w8).setCells (w.heap.size + 1) 0 cy) b := (HT5.out.kp (HK8.out) (fun x => x)).kp (kp_set (Kp.refl (fun x => x = w.heap.size + 1) _) (Or.inl rfl) _ _) (by omega)
          refine ⟨y, _, ?_, HY.out.1, ?_, .inr ⟨by omega, y, _, HY.out.2.1, .inr (.inr ⟨rfl, by rw [HTT.out]; exact HLT.out, rfl, rfl⟩)⟩, hk9, ht9⟩
          · (rw [HCY.out]) <;> rfl
          · refine bySlS_kp (L := fun x => x = w.heap.size + 1) HYB5.out ((Kp.below HK8.out.toBelow').trans (kp_set (Kp.refl (fun x => x = w.heap.size + 1) _) (Or.inl rfl) _ _) (fun x hx => .inl hx)) (fun g hg => ?_); have := HS0.out; have := HK8.out.size; rw [setCells_size]; omega
        · have HLT := hid hlt
          go_wp2_with fail
          refine wp_region_held_drew (S := fun V => Kp No V5 V) (by kernel_rfl) ((Kp.refl _ _).drew) (fun hHeld => ?_)
          refine wpAnyH_take (i := 2) (oi := { dst := some 37, op := Op.fieldAddr 51 (Operand.tmp 3) 2, type := 0, pos := "shelf.go:70", after := #[], guard := none }) (v := .pointer (some ⟨w.heap.size, 2, none⟩)) rfl (by kernel_rfl) (by kernel_rfl) (by kernel_rfl) (fun _ _ _ h => h) (Or.inl ⟨by rfl, fun w' hw' => by (clear hw'; go_simp)⟩) hHeld ?_
          simp only [Act.put, List.setIfInBounds_toArray, List.set_cons_zero, List.set_cons_succ]
          refine wpAnyH_take (i := 0) (oi := { dst := some 35, op := Op.load 56 (Operand.tmp 6), type := 56, pos := "shelf.go:70", after := #[], guard := none }) (v := .agg cy.toArray) rfl (by kernel_rfl) (by kernel_rfl) (by kernel_rfl) (fun _ _ _ h => h) (yieldsIf_load_mid (by rfl) _ _ rfl g6 0 rfl cy _ (fun V hV => rangeAt_below HR5.out hV.toBelow' HG6.out.2) Tryz.underlying56 rfl HICL.out) hHeld ?_
          simp only [Act.put, List.setIfInBounds_toArray, List.set_cons_zero, List.set_cons_succ]
          refine wpAnyH_take (i := 3) (oi := { dst := some 38, op := Op.load 3 (Operand.tmp 37), type := 3, pos := "shelf.go:70", after := #[{ on := 2, ground := Ground.data }], guard := none }) (v := .int .i64 ln) rfl (by kernel_rfl) (by kernel_rfl) (by kernel_rfl) (fun _ _ _ h => h) (Or.inl ⟨by rfl, fun w' hw' => by (have q0 := HQ5.out w' hw'; clear hw'; go_simp)⟩) hHeld ?_
          simp only [Act.put, List.setIfInBounds_toArray, List.set_cons_zero, List.set_cons_succ]
          refine wpAnyH_ready (rs := [1]) (by kernel_rfl) (by simp) ?_
          refine (AllReadyH.cons (o := { dst := some 36, op := Op.call { callee := Callee.value (Operand.func 44), args := #[Operand.tmp 35], argTypes := #[56] }, type := 3, pos := "shelf.go:70", after := #[{ on := 0, ground := Ground.data }], guard := none }) rfl (fun K hK => ?_) AllReadyH.nil)
          go_simp
          refine (HSZ.out _ ((Kp.refl _ _).drew)).mono ?_
          rintro e w8 ⟨rfl, hb8⟩
          have HK8 : Hid (Kp No V5 w8) := kp_bel ((Kp.refl No V5).drew) hb8
          clear hb8
          go_wp2_with fail
          refine hK.out _ _ (HK8.out) (fun hh => ?_)
          clear hK K hHeld
          have hHeld := hh
          clear hh
          try simp only [Act.put, List.setIfInBounds_toArray, List.set_cons_zero, List.set_cons_succ]
          refine wpAnyH_take (i := 4) (oi := { dst := some 39, op := Op.binOp BinOp.neq 3 (Operand.tmp 36) (Operand.tmp 38) 3, type := 4, pos := "shelf.go:70", after := #[{ on := 1, ground := Ground.data }, { on := 3, ground := Ground.data }], guard := none }) (v := .bool true) rfl (by kernel_rfl) (by kernel_rfl) (by kernel_rfl) (fun _ _ _ h => h) (Or.inl ⟨by rfl, fun w' hw' => by (clear hw'; go_simp)⟩) hHeld ?_
          simp only [Act.put, List.setIfInBounds_toArray, List.set_cons_zero, List.set_cons_succ]
          refine wpAnyH_done (by kernel_rfl) ?_ _
          clear hHeld
          clear hlt
          go_wp2_with (refine wpList_store_mid (by rfl) 56 _ _ (by rfl) (w.heap.size + 1) 0 Z.toArray (by rfl) (by rfl) (HRT.out _ (HK5.out.andNone HK8.out)) HI2.out H1.out ?_)
          have HR : Hid (World.rangeAt ((w8).setCells (w.heap.size + 1) 0 Z) (w.heap.size + 1) 0 Z) := World.rangeAt_setCells_same _ _ _ _ (HRT.out _ (HK5.out.andNone HK8.out))
          refine bodyPost_ret (v := .tuple #[.agg Z.toArray, .int .i64 4]) (results_cell_mid2 Tryz.results20 _ _ (w.heap.size + 1) 0 _ _ rfl HR.out Tryz.underlying56 rfl HI2.out) rfl ?_
          have hk9 : Kp (fun x => x = b) w ((w8).setCells (w.heap.size + 1) 0 Z) := kp_set (HK0.out.ofNo.trans (HK5.out.andNone HK8.out) (fun x hx => .inl hx)) (Or.inr (by omega)) _ _
          have ht9 : TabX ((w8).setCells (w.heap.size + 1) 0 Z) b := (HT5.out.kp (HK8.out) (fun x => x)).kp (kp_set (Kp.refl (fun x => x = w.heap.size + 1) _) (Or.inl rfl) _ _) (by omega)
          refine ⟨zE, _, ?_, zE_ok, ?_, .inr ⟨by omega, y, _, HY.out.2.1, .inr (.inl ⟨rfl, by rw [HTT.out]; exact HLT.out, rfl, rfl⟩)⟩, hk9, ht9⟩
          · (rw [zE_cells, HZ.out]) <;> rfl
          · exact BySlS.none _ _
      · have hfI : ¬ ((f : Int) = 0) := by omega
        have HF := hid hf
        clear hf
        go_wp2_with (refine wpList_store_mid (by rfl) 56 _ _ (by rfl) (w.heap.size + 1) 0 Z.toArray (by rfl) (by rfl) (HRT.out _ HK5.out) HI2.out H1.out ?_)
        have HR : Hid (World.rangeAt ((V5).setCells (w.heap.size + 1) 0 Z) (w.heap.size + 1) 0 Z) := World.rangeAt_setCells_same _ _ _ _ (HRT.out _ (HK5.out))
        refine bodyPost_ret (v := .tuple #[.agg Z.toArray, .int .i64 (f : Int)]) (results_cell_mid2 Tryz.results20 _ _ (w.heap.size + 1) 0 _ _ rfl HR.out Tryz.underlying56 rfl HI2.out) rfl ?_
        have hk9 : Kp (fun x => x = b) w ((V5).setCells (w.heap.size + 1) 0 Z) := kp_set (HK0.out.ofNo.trans (HK5.out) (fun x hx => .inl hx)) (Or.inr (by omega)) _ _
        have ht9 : TabX ((V5).setCells (w.heap.size + 1) 0 Z) b := (HT5.out.kp (Kp.refl No V5) (fun x => x)).kp (kp_set (Kp.refl (fun x => x = w.heap.size + 1) _) (Or.inl rfl) _ _) (by omega)
        refine ⟨zE, _, ?_, zE_ok, ?_, .inr ⟨by omega, y, _, HY.out.2.1, .inl ⟨HF.out, rfl, rfl⟩⟩, hk9, ht9⟩
        · (rw [zE_cells, HZ.out]) <;> rfl
        · exact BySlS.none _ _

end Go.Proofs.YtaaioaocjfpajaaGreatDoor.Sh
end

section
/-
  What there is once a disk is up again, and cleaned.
-/
namespace Go.Proofs.YtaaioaocjfpajaaGreatDoor.Sh
open Go.RowKit Go.Shelf
open Sim (hid nm Nm PS Fl Dir Ris PC pRemove pSyncDir pUp pArm finds wrongs pList nameB dfind dput ddel pdo stp dead fileAt blockOf pBytes loses lose)

section
variable {Q : List Nat → Prop} {n : Int} {H : List (Nat × List Nat)} {p : PS}
theorem CG.arm {m : Nat} (h : CG Q m n H p) (k : Int) : CG Q m n H (pArm k p).2 := by
  unfold pArm
  split
  · exact h
  · split
    · exact h
    · exact ⟨⟨h.1.se, h.1.rs, h.1.pk, h.1.hd, h.1.hb, h.1.nb⟩, h.2⟩
theorem lose_safe (c : Int) (bs : List Nat) : lose c ⟨bs, bs.length⟩ = ⟨bs, bs.length⟩ := by simp [lose]
theorem loses_safe (cuts : List Int) : ∀ (l : Dir) (i : Nat) (q : PS), (loses l i cuts q).safe = q.safe ∧ (loses l i cuts q).chg = q.chg
  | [], _, _ => ⟨rfl, rfl⟩
  | e :: l, i, q => by
    rw [loses]
    exact loses_safe cuts l (i + 1) _
theorem loses_file (cuts : List Int) (x : Nat) (bs : List Nat) : ∀ (l : Dir) (i : Nat) (q : PS), q.files x = some ⟨bs, bs.length⟩ → (loses l i cuts q).files x = some ⟨bs, bs.length⟩
  | [], _, _, h => h
  | e :: l, i, q, h => by
    rw [loses]
    refine loses_file cuts x bs l (i + 1) _ ?_
    show (if x = e.2 then some (lose (cuts.getD i 0) (fileAt q e.2)) else q.files x) = _
    split
    · rename_i hx
      have : fileAt q e.2 = ⟨bs, bs.length⟩ := by rw [← hx]; simp [fileAt, h]
      rw [this, lose_safe]
    · exact h
/-- Whatever survives. -/
theorem CInv.up (h : CInv Q n H p) (k : Int) (cuts : List Int) : CInv Q n H (pUp k cuts p) ∧ Up (pUp k cuts p) := by
  refine ⟨?_, rfl, rfl⟩
  obtain ⟨m, hm⟩ : ∃ m, min (max k 0).toNat p.chg.length = m := ⟨_, rfl⟩
  obtain ⟨q, hq⟩ : ∃ q, Sim.settle m p = q := ⟨_, rfl⟩
  have qs : q.safe = dirK p m := by rw [← hq]; rfl
  have qc : q.chg = [] := by rw [← hq]; rfl
  have qf : q.files = p.files := by rw [← hq]; rfl
  obtain ⟨r, hr⟩ : ∃ r, loses q.safe 0 cuts q = r := ⟨_, rfl⟩
  have h1 := loses_safe cuts q.safe 0 q
  rw [hr] at h1
  have e : pUp k cuts p = { r with seen := r.safe, down := false, armed := false, left := 0 } := by rw [← hr, ← hq, ← hm]; rfl
  rw [e]
  refine h.settle m _ (by show r.safe = _; rw [h1.1, qs]) (by show r.chg = _; rw [h1.2, qc]) rfl (fun x bs hx => ?_)
  show r.files x = _
  rw [← hr]
  exact loses_file cuts x bs _ 0 q (by rw [qf]; exact hx)

/-! ### Cleaned -/
theorem tmp_T (j : Nat) : isTmp (nm (nameT j)) = true := by
  unfold isTmp nameT
  rw [nm_sort]
  exact pre_app _ _
theorem tmp_P (j : Nat) : isTmp (nm (nameP j)) = false := by
  unfold isTmp nameP
  rw [nm_sort]
  have h2 : nm (⟨#[112, 97, 99, 107, 46]⟩ : ByteArray) = [112, 97, 99, 107, 46] := rfl
  rw [h2]
  rfl
theorem clean_ok : ∀ (L : List Nm) (k : Nat) (p : PS), Up p → CInv Q n H p → L.Nodup → (∀ x ∈ L, ∃ j, j < 100 ∧ x = nm (nameT j)) → (∀ x ∈ L, ∃ b, (x, b) ∈ p.seen) →
    (cleanF L k p).2.1 = 0 ∧ Up (cleanF L k p).2.2 ∧ CInv Q n H (cleanF L k p).2.2 ∧ ∀ e, e ∈ (cleanF L k p).2.2.seen ↔ e ∈ p.seen ∧ e.1 ∉ L
  | [], k, p, hu, hc, _, _, _ => by
    rw [cleanF]
    split
    · exact ⟨rfl, hu, hc, fun e => by simp⟩
    · have e3 : pSyncDir p = (0, Sim.settle p.chg.length (Sim.tick p)) := by rw [pSyncDir, hu.wrongs [] rfl, if_neg (by simp), hu.stp]
      rw [e3]
      have hsafe : (Sim.settle p.chg.length (Sim.tick p)).safe = p.seen := by
        show (p.chg.take p.chg.length).foldl pdo p.safe = _
        rw [List.take_length, hc.se]
      refine ⟨rfl, hu, hc.settle p.chg.length _ rfl rfl (by rw [hsafe]; rfl) (fun x bs hx => hx), fun e => ?_⟩
      show e ∈ p.seen ↔ _
      simp
  | x :: r, k, p, hu, hc, hn, hT, hs => by
    obtain ⟨j, hj, rfl⟩ := hT x (by simp)
    obtain ⟨b, hb⟩ := hs _ (List.mem_cons_self ..)
    have hnd := hc.ris.nodup
    have hf : dfind p.seen (nm (nameT j)) = some b := Sim.dfind_of_mem hnd hb
    have e : pRemove (nm (nameT j)) p = (0, Sim.chgd ⟨1, nm (nameT j), [], 0⟩ (Sim.tick p)) := by rw [pRemove, finds_up hu.1 (nB_T j hj) hf, if_neg (by simp), hu.stp]
    have ed : pdo p.seen ⟨1, nm (nameT j), [], 0⟩ = ddel p.seen (nm (nameT j)) := by simp [pdo]
    rw [cleanF, e, if_neg (by simp)]
    have hseen : (Sim.chgd ⟨1, nm (nameT j), [], 0⟩ (Sim.tick p)).seen = ddel p.seen (nm (nameT j)) := ed
    have hc' : CInv Q n H (Sim.chgd ⟨1, nm (nameT j), [], 0⟩ (Sim.tick p)) := by
      refine hc.tick.chgd _ (fun e he => ?_) (fun y hy => ?_)
      · have he' : e ∈ ddel p.seen (nm (nameT j)) := by rw [← ed]; exact he
        exact hc.seenPk e (Sim.mem_ddel.1 he').1
      · obtain ⟨z, g1, g2⟩ := hc.seenHd y hy
        refine ⟨z, ?_, g2⟩
        show _ ∈ pdo p.seen ⟨1, nm (nameT j), [], 0⟩
        rw [ed]
        exact Sim.mem_ddel.2 ⟨g1, fun e => T_ne_P j y.1 e.symm⟩
    obtain ⟨hn1, hn2⟩ := List.nodup_cons.1 hn
    obtain ⟨g1, g2, g3, g4⟩ := clean_ok r (k + 1) _ (show Up (Sim.chgd ⟨1, nm (nameT j), [], 0⟩ (Sim.tick p)) from hu) hc' hn2 (fun x hx => hT x (by simp [hx])) (fun x hx => by
      obtain ⟨y, hy⟩ := hs x (by simp [hx])
      refine ⟨y, ?_⟩
      rw [hseen]
      exact Sim.mem_ddel.2 ⟨hy, fun e => hn1 (e ▸ hx)⟩)
    refine ⟨g1, g2, g3, fun e => ?_⟩
    rw [g4 e, hseen, Sim.mem_ddel, List.mem_cons]
    constructor
    · rintro ⟨⟨a, b⟩, c⟩
      exact ⟨a, fun h => h.elim b c⟩
    · rintro ⟨a, b⟩
      exact ⟨⟨a, fun h => b (.inl h)⟩, fun h => b (.inr h)⟩
/-- A disk that is up, opened: all there is are packs, each whole; those of H are there. -/
theorem CInv.opened (hc : CInv Q n H p) (hu : Up p) :
    (cleanF ((pList p).filter isTmp) 0 p).2.1 = 0 ∧ Up (cleanF ((pList p).filter isTmp) 0 p).2.2 ∧ CInv Q n H (cleanF ((pList p).filter isTmp) 0 p).2.2 ∧
    ∀ e ∈ (cleanF ((pList p).filter isTmp) 0 p).2.2.seen, ∃ (j : Nat) (bs : List Nat), 1 ≤ j ∧ (j : Int) ≤ n ∧ e.1 = nm (nameP j) ∧ (cleanF ((pList p).filter isTmp) 0 p).2.2.files e.2 = some ⟨bs, bs.length⟩ ∧ Q bs := by
  have el : pList p = p.seen.map (·.1) := by rw [pList, hu.1, if_neg (by simp)]
  have hT : ∀ x ∈ (pList p).filter isTmp, (∃ j, j < 100 ∧ x = nm (nameT j)) ∧ ∃ b, (x, b) ∈ p.seen := fun x hx => by
    obtain ⟨hx, ht⟩ := List.mem_filter.1 hx
    rw [el] at hx
    obtain ⟨e, he, rfl⟩ := List.mem_map.1 hx
    refine ⟨?_, e.2, he⟩
    rcases hc.seenPk e he with h1 | ⟨j, bs, _, _, h3, _⟩
    · exact h1
    · rw [h3, tmp_P] at ht
      cases ht
  obtain ⟨h1, h2, h3, h4⟩ := clean_ok ((pList p).filter isTmp) 0 p hu hc (by rw [el]; exact hc.ris.nodup.filter _) (fun x hx => (hT x hx).1) (fun x hx => (hT x hx).2)
  refine ⟨h1, h2, h3, fun e he => ?_⟩
  rcases h3.seenPk e he with ⟨j, hj, hj'⟩ | h5
  · exfalso
    obtain ⟨g1, g2⟩ := (h4 e).1 he
    refine g2 (List.mem_filter.2 ⟨?_, by rw [hj']; exact tmp_T j⟩)
    rw [el]
    exact List.mem_map.2 ⟨e, g1, rfl⟩
  · exact h5

/-! ### What is then there -/
/-- Up, and all that is there are whole packs, those of H among them. -/
def Clean (Q : List Nat → Prop) (n : Int) (H : List (Nat × List Nat)) (p : PS) : Prop := Up p ∧ CInv Q n H p ∧ ∀ e ∈ p.seen, ∃ (j : Nat) (bs : List Nat), 1 ≤ j ∧ (j : Int) ≤ n ∧ e.1 = nm (nameP j) ∧ p.files e.2 = some ⟨bs, bs.length⟩ ∧ Q bs
theorem bytes_of {x b : Nat} {bs : List Nat} (hu : Up p) (hc : CInv Q n H p) (hx : x < 100) (h : (nm (nameP x), b) ∈ p.seen) (hf : p.files b = some ⟨bs, bs.length⟩) : finds p (nm (nameP x)) = 0 ∧ pBytes (nm (nameP x)) p = bs := by
  have h1 := Sim.dfind_of_mem hc.ris.nodup h
  have h2 := finds_up hu.1 (nB_P x hx) h1
  refine ⟨h2, ?_⟩
  rw [pBytes, h2, if_neg (by simp)]
  simp [blockOf, h1, fileAt, hf]
theorem Clean.held (h : Clean Q n H p) {x : Nat × List Nat} (hx : x ∈ H) : 1 ≤ x.1 ∧ x.1 < 100 ∧ finds p (nm (nameP x.1)) = 0 ∧ pBytes (nm (nameP x.1)) p = x.2 := by
  obtain ⟨hu, hc, _⟩ := h
  have h1 := hc.hb x hx
  have h2 := hc.nb
  obtain ⟨b, h3, h4⟩ := hc.seenHd x hx
  exact ⟨h1.1, by omega, bytes_of hu hc (by omega) h3 h4⟩
theorem Clean.ids (h : Clean Q n H p) : ∀ z ∈ idsP p, ∃ (j : Nat) (bs : List Nat), z = (j : Int) ∧ 1 ≤ j ∧ j < 100 ∧ finds p (nm (nameP j)) = 0 ∧ pBytes (nm (nameP j)) p = bs ∧ Q bs := fun z hz => by
  obtain ⟨hu, hc, ha⟩ := h
  have hnb := hc.nb
  unfold idsP at hz
  rw [List.mem_mergeSort] at hz
  obtain ⟨x, hx, hz⟩ := List.mem_filterMap.1 hz
  rw [pList, hu.1, if_neg (by simp)] at hx
  obtain ⟨e, he, rfl⟩ := List.mem_map.1 hx
  obtain ⟨j, bs, h1, h2, h3, h4, h5⟩ := ha e he
  rw [h3, idN_P h1 (by omega)] at hz
  have he' : (nm (nameP j), e.2) ∈ p.seen := by rw [← h3]; exact he
  obtain ⟨g1, g2⟩ := bytes_of hu hc (by omega) he' h4
  exact ⟨j, bs, by simpa using hz.symm, h1, by omega, g1, g2, h5⟩
theorem Clean.temps (h : Clean Q n H p) : (pList p).filter isTmp = [] := by
  obtain ⟨hu, hc, ha⟩ := h
  rw [List.filter_eq_nil_iff]
  intro x hx
  rw [pList, hu.1, if_neg (by simp)] at hx
  obtain ⟨e, he, rfl⟩ := List.mem_map.1 hx
  obtain ⟨j, bs, h1, h2, h3, _⟩ := ha e he
  rw [h3, tmp_P]
  simp
theorem Clean.nlen (h : Clean Q n H p) : ∀ x ∈ pList p, x.length ≤ 40 := fun x hx => by
  obtain ⟨hu, hc, ha⟩ := h
  have hnb := hc.nb
  rw [pList, hu.1, if_neg (by simp)] at hx
  obtain ⟨e, he, rfl⟩ := List.mem_map.1 hx
  obtain ⟨j, bs, h1, h2, h3, _⟩ := ha e he
  rw [h3]
  exact len_P j (by omega)
end

/-- A whole pack is loaded. -/
theorem wh_scan {bs : List Nat} (h : Wh bs) : (scanF (ints bs)).2.2 = 0 ∧ (scanF (ints bs)).1 ≠ [] := by
  obtain ⟨rs, hne, hr, rfl⟩ := h
  have e : ints (nats (cat rs)) = cat rs := ints_nats _ (cat_bd hr)
  have h := scanF_cat (c := (cat rs).length) hr (Nat.le_refl _)
  rw [List.take_length, cnt_all rs _ (Nat.le_refl _), List.take_length, if_pos rfl] at h
  rw [e, h]
  refine ⟨rfl, fun e => ?_⟩
  have := congrArg List.length e
  rw [itemsOf_length] at this
  exact hne (List.length_eq_zero_iff.1 this)
/-- So nothing is lost. -/
theorem clean_lost {n : Int} {H : List (Nat × List Nat)} {p : PS} (h : Clean Wh n H p) (K : Nat) : lsOf (allI (fun id => finds p (nm (nameP id))) (fun id => scanF (ints (pBytes (nm (nameP id)) p))) ((idsP p).map Int.toNat)) K = [] := by
  unfold lsOf
  rw [List.map_eq_nil_iff, List.filter_eq_nil_iff]
  intro y hy
  have hy := List.mem_of_mem_take hy
  obtain ⟨id, hid', hy⟩ := List.mem_flatMap.1 hy
  obtain ⟨z, hz, rfl⟩ := List.mem_map.1 hid'
  obtain ⟨j, bs, rfl, h1, h2, h3, h4, h5⟩ := h.ids z hz
  simp only [Int.toNat_natCast] at hy
  obtain ⟨s1, s2⟩ := wh_scan h5
  rw [h3, h4, packI, if_neg (by simp), if_neg (fun e => e.elim (fun e => e s1) s2)] at hy
  obtain ⟨x, _, rfl⟩ := List.mem_map.1 hy
  simp [okF]

theorem cat_app : ∀ a b : List Rec, cat (a ++ b) = cat a ++ cat b
  | [], b => rfl
  | r :: a, b => by rw [List.cons_append, cat, cat, cat_app a b, List.append_assoc]
theorem szs_cat : ∀ {z : List El}, (∀ u ∈ z, RtE u) → (cat (z.map (·.1))).length = szs z
  | [], _ => rfl
  | y :: r, h => by
    have ih := szs_cat (z := r) (fun u hu => h u (by simp [hu]))
    have h1 := frOf_length (h y (by simp)).2
    show (frOf y.1 ++ cat (r.map (·.1))).length = szs (y :: r)
    have h2 : szs (y :: r) = szE y + szs r := by simp [szs]
    rw [List.length_append, ih, h1, h2]
    rfl
/-- What is read of a held pack. -/
theorem read_held {z pre r : List El} {y y' : El} {f : Nat} (hz : ∀ u ∈ z, RtE u) (e : z = pre ++ y :: r) (h : ReadA 0 (ints (zb z)) ((szs pre : Nat) : Int) ((szE y : Nat) : Int) y' f) : f = 0 ∧ y'.1 = y.1 := by
  have hR : ∀ q ∈ z.map (·.1), Rt q := fun q hq => by obtain ⟨u, hu, rfl⟩ := List.mem_map.1 hq; exact (hz u hu).2
  have e1 : ints (zb z) = cat (z.map (·.1)) := by rw [zb_cat hz]; exact ints_nats _ (cat_bd hR)
  have hy : RtE y := hz y (by rw [e]; simp)
  have hpre : ∀ u ∈ pre, RtE u := fun u hu => hz u (by rw [e]; simp [hu])
  have e2 : cat (z.map (·.1)) = cat (pre.map (·.1)) ++ (frOf y.1 ++ cat (r.map (·.1))) := by rw [e, List.map_append, List.map_cons, cat_app, cat]
  have hl := szs_cat hpre
  have e3 : (ints (zb z)).drop (szs pre) = frOf y.1 ++ cat (r.map (·.1)) := by rw [e1, e2, ← hl, List.drop_left]
  have h4 : takeF ((ints (zb z)).drop (szs pre)) = (0, y.1, 49 + y.1.2.2.length) := by
    rw [e3]
    exact take_frame hy.2 _
  have hfl := frOf_length hy.2
  have hlen : szs pre < (ints (zb z)).length := by
    rw [e1, e2, List.length_append, List.length_append, hl, hfl]
    omega
  rcases h with ⟨h, _⟩ | ⟨_, y0, f0, hg, h⟩
  · unfold szE at h; omega
  have hg' : f0 = 0 ∧ y0.1 = y.1 := by
    rcases hg with ⟨h1, _⟩ | ⟨_, h1, _⟩ | ⟨k, _, h1, _, h2, _⟩ | ⟨k, _, h1, _, _, h2, h3⟩
    · exact absurd rfl h1
    · omega
    · have hk : k = szs pre := by omega
      subst hk
      rw [h4] at h2
      exact absurd rfl h2
    · have hk : k = szs pre := by omega
      subst hk
      rw [h4] at h3
      exact ⟨h2, h3⟩
  obtain ⟨rfl, hy0⟩ := hg'
  rcases h with ⟨h, _⟩ | ⟨_, h, _⟩ | ⟨_, _, h1, rfl⟩
  · exact absurd rfl h
  · rw [hy0] at h
    unfold szE at h
    exact absurd rfl h
  · exact ⟨h1, hy0⟩

end Go.Proofs.YtaaioaocjfpajaaGreatDoor.Sh
end

section
/-
  Lay of records that are not right.
-/
namespace Go.Proofs.YtaaioaocjfpajaaGreatDoor.Sh
open Go.RowKit Go.Shelf
open Tlv (BySlS)
open Sim (hid Kp No PS Blk Row)

set_option maxHeartbeats 4000000 in
set_option maxRecDepth 100000 in
theorem lay_no {S : Nat → Prop} (w : World) (h s b : Nat) (n : Int) (v : Value) (zs : List El) (hH : ShAt w h s b n) (hv : RV S w v zs) (hok : zs.all okR = false) (hl : zs.length ≤ 1000000) :
    Calls Tryz.prog 10 #[.pointer (some ⟨h, 0, none⟩), v] w fun e w' => e = .returned (.tuple #[.slice none 0 0, .int .i64 1]) ∧ Kp No w w' := by
  have HNO := hid (fun V (hV' : Kp No w V) => none_any V h s b n (hH.kp hV' (fun x => x)))
  have HND := hid (fun V (hV' : Kp No w V) => need_no V v zs (hv.kept hV') hl hok)
  obtain ⟨a, c, rfl, _⟩ := hv
  generalize zs.length = m at *
  clear hok hH
  go_enter Tryz.func10, Tryz.ntmps10
  go_wp2_with fail
  have hk0 : Kp No w (w.alloc (.cells #[.pointer (some ⟨h, 0, none⟩)] 29)) := (Kp.refl No w).alloc _
  refine (HNO.out _ hk0).mono ?_
  rintro e w0 ⟨rfl, hw0⟩
  have HK0 : Hid (Kp No w w0) := by rw [hw0]; exact hk0
  clear hw0 hk0 HNO
  go_wp2_with fail
  refine (HND.out w0 HK0.out).mono ?_
  rintro e w1 ⟨rfl, hk1⟩
  have HK1 : Hid (Kp No w w1) := HK0.out.andNone hk1
  clear HND hk1 HK0
  go_wp2_with fail
  go_ret2
  exact ⟨rfl, HK1.out⟩

end Go.Proofs.YtaaioaocjfpajaaGreatDoor.Sh
end
